/- What the law FnValidFloat asks: the order without its last cake floats the others out; the generator of its arguments. -/
import Derived.Lib.QuietBelow
import Derived.Deep.RegionHeld3
import Derived.Test.YtjjddamblijffabCVLaw
import Derived.Test.YtjjddamblijffabCFloat
import Derived.Test.YtjjddamblijffabCFloatS
import Derived.Test.YtjjddamblijffabCOrdS
import Derived.Test.YtjjddamblijffabCFLaw
namespace Go.Proofs.Ytjjddamblijffab
open Go.RowKit
set_option linter.unusedVariables false
set_option linter.unusedSimpArgs false
def gapZ (z n : Int) : Int := if z < n then n - 1 else n
def earlyF (z : Int) (os : List Int) (m : Nat) : List Int := (os.take m).map (gapZ z)
theorem earlyF_at {z : Int} {os : List Int} {m i : Nat} (hi : i < m) (hm : m ≤ os.length) : (earlyF z os m)[i]? = some (gapZ z (at_ os i)) := by
  unfold earlyF
  rw [List.getElem?_map, List.getElem?_take_of_lt hi, of_at (by omega)]; rfl
theorem earlyF_len {z : Int} {os : List Int} {m : Nat} (hm : m ≤ os.length) : (earlyF z os m).length = m := by
  unfold earlyF
  rw [List.length_map, List.length_take]; omega
theorem at_get {l : List Int} {i : Nat} {z : Int} (h : l[i]? = some z) : at_ l i = z := by
  unfold at_
  rw [List.getD_eq_getElem?_getD, h]; rfl
theorem memB_iff {l : List Int} {z : Int} : memB l z = true ↔ z ∈ l := by unfold memB; exact decide_eq_true_iff
theorem memB_not {l : List Int} {z : Int} : memB l z = false ↔ ¬ z ∈ l := by unfold memB; exact decide_eq_false_iff_not
theorem vfT_parts {a b : Int} {cs : List (Int × Int)} {os : List Int} (h : vfT a b cs os = true) : cakesB a b cs = true ∧ os.length = cs.length ∧ ∀ i, i < os.length → stepB b cs (os.take i) (at_ os i) = true := by
  unfold vfT vfB at h
  simp only [Bool.and_eq_true, decide_eq_true_eq] at h
  refine ⟨h.1, h.2.1, fun i hi => ?_⟩
  have h2 := h.2.2
  unfold vfTo at h2
  rw [List.all_eq_true] at h2
  exact h2 i (List.mem_range.2 hi)
theorem stepB_parts {b : Int} {cs : List (Int × Int)} {l : List Int} {z : Int} : stepB b cs l z = true ↔ (0 ≤ z ∧ z ≤ (cs.length : Int) - 1) ∧ ¬ z ∈ l ∧ heldTo b cs l (cAt cs z.toNat) cs.length = false := by
  unfold stepB
  rw [Bool.and_eq_true, Bool.and_eq_true, Bool.not_eq_true', Bool.not_eq_true', memB_not]
  exact ⟨fun ⟨⟨h1, h2⟩, h3⟩ => ⟨inB_t h1, h2, h3⟩, fun ⟨h1, h2, h3⟩ => ⟨⟨inB_mk h1, h2⟩, h3⟩⟩
theorem vfT_out {a b : Int} {cs : List (Int × Int)} {os : List Int} (h : vfT a b cs os = true) {L k : Nat} (hz : os[L]? = some (k : Int)) (hL : os.length = L + 1) : vfT a b (outC cs k) (earlyF (k : Int) os L) = true := by
  obtain ⟨hc, hl, hs⟩ := vfT_parts h
  have ez := at_get hz
  have s0 := stepB_parts.1 (hs L (by omega))
  rw [ez] at s0
  have hk : k < cs.length := by omega
  have hol := outC_len hk
  have hne : ∀ n, n ∈ os.take L → n ≠ (k : Int) := fun n hn e => s0.2.1 (e ▸ hn)
  have mem : ∀ i, i < L → at_ os i ∈ os.take L := fun i hi => by
    have e : (os.take L)[i]? = some (at_ os i) := by rw [List.getElem?_take_of_lt hi]; exact of_at (by omega)
    exact List.mem_of_getElem? e
  have sub : ∀ i, i < L → ∀ n, n ∈ os.take i → n ∈ os.take L := fun i hi n hn => by
    have : os.take i = (os.take L).take i := by rw [List.take_take, Nat.min_eq_left (by omega)]
    rw [this] at hn
    exact List.mem_of_mem_take hn
  have tk : ∀ i, i < L → (earlyF (k : Int) os L).take i = (os.take i).map (gapZ (k : Int)) := fun i hi => by
    unfold earlyF
    rw [← List.map_take, List.take_take, Nat.min_eq_left (by omega)]
  have hel : (earlyF (k : Int) os L).length = L := earlyF_len (by omega)
  unfold vfT vfB
  rw [cakesB_out hc hk, hel, decide_eq_true (by omega : L = (outC cs k).length)]
  show vfTo b (outC cs k) (earlyF (k : Int) os L) L = true
  unfold vfTo
  rw [List.all_eq_true]
  intro i hi
  rw [List.mem_range] at hi
  rw [at_get (earlyF_at hi (by omega)), tk i hi]
  have s1 := stepB_parts.1 (hs i (by omega))
  have n1 := hne _ (mem i hi)
  generalize at_ os i = n at *
  refine stepB_parts.2 ⟨?_, ?_, ?_⟩
  · unfold gapZ
    split <;> omega
  · intro hm
    rw [List.mem_map] at hm
    obtain ⟨m, hm, e⟩ := hm
    have n2 := hne m (sub i hi m hm)
    have : m = n := by
      unfold gapZ at e
      split at e <;> split at e <;> omega
    exact s1.2.1 (this ▸ hm)
  · cases e : heldTo b (outC cs k) ((os.take i).map (gapZ (k : Int))) (cAt (outC cs k) (gapZ (k : Int) n).toNat) (outC cs k).length
    · rfl
    · unfold heldTo at e
      rw [List.any_eq_true] at e
      obtain ⟨j, hj, e⟩ := e
      rw [List.mem_range] at hj
      rw [Bool.and_eq_true, Bool.not_eq_true', memB_not, outC_at hk, outC_at hk] at e
      have e3 : (if (gapZ (k : Int) n).toNat < k then (gapZ (k : Int) n).toNat else (gapZ (k : Int) n).toNat + 1) = n.toNat := by
        unfold gapZ
        split <;> split <;> omega
      rw [e3] at e
      have hg : (if j < k then j else j + 1) < cs.length := by split <;> omega
      have hnm : memB (os.take i) ((if j < k then j else j + 1 : Nat) : Int) = false := by
        rw [memB_not]
        intro hm
        refine e.1 (List.mem_map.2 ⟨_, hm, ?_⟩)
        unfold gapZ
        split <;> split <;> omega
      have := heldTo_hit (b := b) (cs := cs) (l := os.take i) (c := cAt cs n.toNat) (k := cs.length) hg (by rw [hnm, e.2]; rfl)
      rw [s1.2.2] at this
      cases this
theorem vf_last {a b : Int} {cs : List (Int × Int)} {os : List Int} (h : vfT a b cs os = true) {L : Nat} (hL : os.length = L + 1) : (∃ k : Nat, os[L]? = some (k : Int) ∧ k < cs.length) ∧ ∀ i, i < os.length → 0 ≤ at_ os i ∧ at_ os i ≤ (cs.length : Int) - 1 := by
  obtain ⟨hc, hl, hs⟩ := vfT_parts h
  have all : ∀ i, i < os.length → 0 ≤ at_ os i ∧ at_ os i ≤ (cs.length : Int) - 1 := fun i hi => (stepB_parts.1 (hs i hi)).1
  obtain ⟨h0, h1⟩ := all L (by omega)
  refine ⟨⟨(at_ os L).toNat, ?_, by omega⟩, all⟩
  rw [Int.toNat_of_nonneg h0]
  exact of_at (by omega)
theorem earlyF_snoc {z : Int} {os : List Int} {m : Nat} (h : m < os.length) : earlyF z os (m + 1) = earlyF z os m ++ [gapZ z (at_ os m)] := by
  unfold earlyF
  rw [take_snoc (of_at h), List.map_append]; rfl
def dValidFloatPost (w : World) (e : Ending) (w' : World) : Prop := ∃ (ks : List (Int × Int)) (os : List Int) (Ak Ao : Option Addr) (ck co : Nat) (a h : Int), e = .returned (.tuple #[.slice Ak ks.length ck, .int .i64 a, .int .i64 h, .slice Ao os.length co]) ∧ CDraw w' ks Ak ck ∧ (os.length ≤ co ∧ co ≤ maxLen ∧ Rd w' w'.heap.size Ao (ints os)) ∧ os.length ≤ ks.length ∧ Below w.heap.size w w'
theorem own_caps {w : World} {base n : Nat} {T : TypeId} {A : Option Addr} {c : Nat} {xs : List Value} (o : w.ownsRow base T 1 (.slice A n c) n xs) : n ≤ c ∧ c ≤ maxLen := by
  rcases o.2 with ⟨h0, hz⟩ | ⟨g, cap, cur, hv, _, _, hnc, hcm, _⟩
  · injection h0 with _ q1 q2; rw [q1, q2]; exact ⟨Nat.le_refl _, Nat.zero_le _⟩
  · injection hv with _ _ q2; subst q2; exact ⟨hnc, hcm⟩
theorem set_own {w : World} {B g q b k : Nat} {u : Value} (h : Rdr w B g q) (hb : g < b) : Rdr (w.setCell ⟨b, k, none⟩ u) B g q :=
  h.own (only_set (only_refl w b) (p := ⟨b, k, none⟩) (.inl rfl) u) (fun j hj => by injection hj with hj; omega)

end Go.Proofs.Ytjjddamblijffab

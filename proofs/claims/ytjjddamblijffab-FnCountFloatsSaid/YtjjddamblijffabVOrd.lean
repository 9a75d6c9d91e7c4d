/- Orders of indices, each once: the words and the program. -/
import Derived.Test.YtjjddamblijffabFWords
namespace Go.Proofs.Ytjjddamblijffab
open Go.RowKit
set_option linter.unusedVariables false
set_option linter.unusedSimpArgs false
def memB (l : List Int) (z : Int) : Bool := decide (z ∈ l)
def goneL (n : Nat) (l : List Int) : List Bool := (List.range n).map (fun i : Nat => memB l (i : Int))
theorem goneL_len (n : Nat) (l : List Int) : (goneL n l).length = n := by simp [goneL]
theorem goneL_at {n : Nat} {l : List Int} {i : Nat} (h : i < n) : isd (goneL n l) i = memB l (i : Int) := by
  have e : (goneL n l)[i]? = some (memB l (i : Int)) := by unfold goneL; rw [List.getElem?_map, List.getElem?_range h]; rfl
  simp [isd, List.getD_eq_getElem?_getD, e]
theorem goneL_nil (n : Nat) : goneL n [] = List.replicate n false := by
  apply List.ext_getElem
  · simp [goneL]
  · intro i h1 h2; simp [goneL, memB]
theorem goneL_snoc {n : Nat} {l : List Int} {i : Nat} (h : i < n) : (goneL n l).set i true = goneL n (l ++ [(i : Int)]) := by
  apply List.ext_getElem
  · simp [goneL]
  · intro j h1 h2
    have hj : j < n := by simpa [goneL] using h2
    rw [List.getElem_set]
    simp only [goneL, List.getElem_map, List.getElem_range, memB, List.mem_append, List.mem_singleton]
    by_cases e : i = j
    · subst e; simp
    · rw [if_neg e]
      refine decide_eq_decide.2 ⟨fun h => .inl h, fun h => ?_⟩
      rcases h with h | h
      · exact h
      · exact absurd (Int.ofNat.inj h).symm e
def ordStep (n : Nat) (l : List Int) (z : Int) : Bool := inB z 0 ((n : Int) - 1) && !memB l z
def ordTo (n : Nat) (os : List Int) (m : Nat) : Bool := (List.range m).all (fun i => ordStep n (os.take i) (at_ os i))
def ordB (n : Nat) (os : List Int) : Bool := decide (os.length = n) && ordTo n os os.length
theorem ordTo_succ (n : Nat) (os : List Int) (m : Nat) : ordTo n os (m + 1) = (ordTo n os m && ordStep n (os.take m) (at_ os m)) := by
  unfold ordTo
  rw [List.range_succ, List.all_append]
  simp
theorem ordTo_bad {n : Nat} {os : List Int} {i m : Nat} (hi : i < m) (h : ordStep n (os.take i) (at_ os i) = false) : ordTo n os m = false := by
  unfold ordTo
  rw [List.all_eq_false]
  exact ⟨i, List.mem_range.2 hi, by rw [h]; simp⟩
theorem ordTo_step {n : Nat} {os : List Int} {m : Nat} (h : ordTo n os m = true) {i : Nat} (hi : i < m) : ordStep n (os.take i) (at_ os i) = true := by
  unfold ordTo at h
  rw [List.all_eq_true] at h
  exact h i (List.mem_range.2 hi)
theorem ordTo_in {n : Nat} {os : List Int} {m : Nat} (h : ordTo n os m = true) {i : Nat} (hi : i < m) : 0 ≤ at_ os i ∧ at_ os i ≤ (n : Int) - 1 := by
  have h1 := ordTo_step h hi
  unfold ordStep at h1
  simp only [Bool.and_eq_true] at h1
  exact inB_t h1.1
theorem ordB_t {n : Nat} {os : List Int} (h : ordB n os = true) : os.length = n ∧ ordTo n os n = true := by
  unfold ordB at h
  rw [Bool.and_eq_true, decide_eq_true_eq] at h
  obtain ⟨h1, h2⟩ := h
  rw [h1] at h2
  exact ⟨h1, h2⟩
set_option maxRecDepth 100000 in
set_option maxHeartbeats 1000000 in
theorem iVOrd_any (n m : Nat) (hn : n ≤ 1048576) (order : List Int) (hlo : order.length = m) (hm : m ≤ 1048576) (Ao : Option Addr) (co : Nat) (w : World) (hro : Rd w w.heap.size Ao (ints order)) :
    Calls Try.prog 78 #[.slice Ao m co, .int .i64 n] w fun e w' => e = .returned (.bool (ordB n order)) ∧ Below w.heap.size w w' := by
  have HLO := Lib.hid hlo
  by_cases hmn : m = n
  case neg =>
    have HF : Hid (ordB n order = false) := Lib.hid (by unfold ordB; rw [hlo, decide_eq_false hmn]; simp)
    have hne : ¬ ((m : Int) = (n : Int)) := by omega
    have hne2 : ((m : Int) != (n : Int)) = true := bne_iff_ne.2 hne
    clear hlo
    go_enter Try.func78, Try.ntmps78
    go_wp2
    go_ret
    exact ⟨ret_bool HF.out.symm, Below.refl _ _⟩
  case pos =>
  subst hmn
  have HF : Hid (ordB m order = ordTo m order m) := Lib.hid (by unfold ordB; rw [hlo]; simp)
  generalize ordB m order = R at *
  clear hlo
  have hmk := run_make_row' (P := Try.prog) 86 4 (.bool false) 1 Try.underlying86 info_bool rfl .i64 .i64 m (by omega) (by omega)
  go_enter Try.func78, Try.ntmps78
  go_wp2
  go_loopw [16] (fun i wr => ∃ k : Nat, k ≤ m ∧ i = .int .i64 k ∧ ordTo m order k = true ∧ wr.ownsRow w.heap.size 4 1 (.slice (some ⟨w.heap.size, 0, none⟩) m m) m (bools (goneL m (order.take k))) ∧ Below w.heap.size w wr) (fun i _ => m - (intOf i).toNat)
  case atStart =>
    refine ⟨0, Nat.zero_le _, rfl, rfl, ?_, (Below.refl _ _).alloc (Nat.le_refl _) _⟩
    rw [List.take_zero, goneL_nil]
    have := own_made w (.bool false) m 4 (by unfold maxLen; omega)
    simpa [bools] using this
  case round =>
    obtain ⟨k, hk, rfl, hvf, hown, hbel⟩ := hrel
    have HVF := Lib.hid hvf
    have HBEL := Lib.hid hbel
    clear hvf
    by_cases hlt : k < m
    · obtain ⟨b3, off3, z, rfl, hb3, hz, hcz⟩ := (hro.below hbel).int_ (k := k) (by rw [HLO.out]; exact hlt)
      have Hat : Hid (at_ order k = z) := Lib.hid (by unfold at_; rw [List.getD_eq_getElem?_getD, hz.out]; rfl)
      have HTS := Lib.hid (take_snoc hz.out)
      have HBad : Hid (ordStep m (order.take k) z = false → R = false) := Lib.hid fun h => by rw [HF.out]; exact ordTo_bad hlt (by rw [Hat.out]; exact h)
      have HGood : Hid (ordStep m (order.take k) z = true → ordTo m order (k + 1) = true) := Lib.hid fun h => by rw [ordTo_succ, HVF.out, Hat.out, h]; rfl
      clear hz hbel
      by_cases hz1 : z < 0
      · have HT := Lib.hid (HBad.out (by unfold ordStep; rw [inB_nk (by omega)]; rfl))
        clear hown
        go_wp2
        go_ret
        exact ⟨ret_bool HT.out.symm, HBEL.out⟩
      by_cases hz2 : (m : Int) ≤ z
      · have HT := Lib.hid (HBad.out (by unfold ordStep; rw [inB_nk (by omega)]; rfl))
        have hz3 : 0 ≤ z := by omega
        clear hown hz1
        go_wp2
        go_ret
        exact ⟨ret_bool HT.out.symm, HBEL.out⟩
      obtain ⟨t, rfl⟩ := Int.eq_ofNat_of_zero_le (show 0 ≤ z by omega)
      have htm : t < m := by omega
      have hzi : inB (t : Int) 0 ((m : Int) - 1) = true := inB_mk (by omega)
      have hcg := own_cell hown (k := t) (x := .bool (memB (order.take k) (t : Int))) (by
        have := bools_at (bs := goneL m (order.take k)) (k := t) (by rw [goneL_len]; exact htm)
        rw [goneL_at htm] at this
        exact this)
      have hfz := own_frozen hown t
      have HSt : Hid (∀ mq, memB (order.take k) (t : Int) = mq → ordStep m (order.take k) (t : Int) = !mq) := Lib.hid fun mq h1 => by unfold ordStep; rw [hzi, h1]; rfl
      have hput := own_put hown t (.bool true)
      rw [bools_set, goneL_snoc htm, ← HTS.out] at hput
      have hb5 := (HBEL.out).setCell (by simp) (.bool true) (p := ⟨w.heap.size, t, none⟩)
      have HP := Lib.hid (And.intro hput hb5)
      clear hput hb5 hown hzi
      cases hmq : memB (order.take k) (t : Int)
      · rw [hmq] at hcg
        have HT := Lib.hid (HGood.out (by rw [HSt.out _ hmq]; rfl))
        clear hmq
        go_wp2
        go_roundw
        case rel => exact ⟨k + 1, by omega, by go_num, HT.out, HP.out.1, HP.out.2⟩
        case measure => simp [intOf]; omega
      · rw [hmq] at hcg
        have HT := Lib.hid (HBad.out (by rw [HSt.out _ hmq]; rfl))
        clear hmq
        go_wp2
        go_ret
        exact ⟨ret_bool HT.out.symm, HBEL.out⟩
    · obtain rfl : k = m := by omega
      have HT : Hid (R = true) := Lib.hid (by rw [HF.out, HVF.out])
      clear hbel hown
      go_wp2
      go_ret
      exact ⟨ret_bool HT.out.symm, HBEL.out⟩

end Go.Proofs.Ytjjddamblijffab

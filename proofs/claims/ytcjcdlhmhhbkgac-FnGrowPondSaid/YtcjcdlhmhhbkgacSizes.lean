/- Contracts of FieldsOf and FieldSizes, of the program and of the model. -/
import Derived.BigRegion
import Derived.Test.YtcjcdlhmhhbkgacRegions
import Derived.Test.YtcjcdlhmhhbkgacGraphC
namespace Go.Proofs.Ytcjcdlhmhhbkgac
open Go.RowKit
set_option linter.unusedVariables false
set_option linter.unusedSimpArgs false
section
variable {w : World} {A : Option Addr} {pp : List (List Int)} {c : Nat}
theorem iSafe_ok (hp : Pnd w w.heap.size A pp) (load : Int) : Calls Try.prog 55 #[.slice A pp.length c, .int .i64 load] w (OutBL (cnt pp) (safeF pp load) w) := by
  have h := iSafe_any pp A c w hp.2 load
  rw [safeT_ok hp.1] at h
  exact h.mono fun _ _ h => outB_n (safeF_len pp load) h
/-- fieldsOn of the cells that bear a load -/
theorem fieldsOn_safe (hp : Pnd w w.heap.size A pp) (load : Int) (As : Option Addr) (cs0 : Nat) (hs : Rd w w.heap.size As (bools (safeF pp load))) :
    Calls Try.prog 143 #[.slice A pp.length c, .slice As (cnt pp) cs0] w (OutLab (cnt pp) (nbP pp) (okF pp load) w) := by
  have h := fieldsOn_any pp A c w hp (safeF pp load) (safeF_len pp load) As cs0 hs
  rw [safeF_at] at h
  exact h
theorem outLab_after {n : Nat} {nb : Nat → List Nat} {ok : Nat → Bool} {w w1 w' : World} {e : Ending} (hb : Below w.heap.size w w1) (h : OutLab n nb ok w1 e w') : OutLab n nb ok w e w' := by
  obtain ⟨fs, hl, A', c', h1, h2, h3, h4⟩ := h
  exact ⟨fs, hl, A', c', h1, h2, own_base h3 hb.size, hb.trans (h4.mono hb.size)⟩
end
set_option maxRecDepth 100000 in
set_option maxHeartbeats 400000 in
theorem iFields_no (pp : List (List Int)) (A : Option Addr) (c : Nat) (w : World) (hg : RdG w w.heap.size A pp) (hv : pondB pp = false) (load : Int) :
    Calls Try.prog 140 #[.slice A pp.length c, .int .i64 load] w (OutL 0 [] w) := by
  have Hv := Lib.hid hv
  clear hv
  go_enter Try.func140, Try.ntmps140
  go_wp2_with (go_at_call 54; refine (iVal_is _ _ _ _ _ hg Hv.out).mono ?_; rintro e w' ⟨rfl, rfl⟩)
  go_ret
  exact out_n rfl (out_nil w)
set_option maxRecDepth 100000 in
set_option maxHeartbeats 400000 in
theorem iFields_ok (pp : List (List Int)) (A : Option Addr) (c : Nat) (w : World) (hp : Pnd w w.heap.size A pp) (load : Int) :
    Calls Try.prog 140 #[.slice A pp.length c, .int .i64 load] w (OutLab (cnt pp) (nbP pp) (okF pp load) w) := by
  have Hv : Hid (pondB pp = true) := Lib.hid hp.1
  have hg := hp.2
  go_enter Try.func140, Try.ntmps140
  go_wp2_with fail
  refine (iVal_is _ _ _ _ _ hg Hv.out).mono ?_
  rintro e w' ⟨rfl, rfl⟩
  go_wp2_with fail
  refine (iSafe_ok hp load).mono ?_
  rintro e w1 ⟨A1, c1, _, rfl, o1, b1⟩
  go_wp2_with fail
  refine (fieldsOn_safe (hp.up b1) load _ _ (Rd.own o1)).mono ?_
  intro e w2 h2
  have R := outLab_after b1 h2
  obtain ⟨fs, hl, A', c', h1, rfl, h3, h4⟩ := h2
  have HR := Lib.hid R
  clear hl h1 h3 h4 R o1 b1
  go_wp2
  go_ret
  exact HR.out
/-- the sizes of M fields, of the first k cells -/
def szT (fs : List Int) (M k : Nat) : List Int := (List.range M).map (fun j : Nat => (((fs.take k).count (j : Int) : Nat) : Int))
def szF (fs : List Int) : List Int := szT fs (hi fs + 1).toNat fs.length
theorem szT_len (fs : List Int) (M k : Nat) : (szT fs M k).length = M := rg_len _ M
theorem szT_zero (fs : List Int) (M : Nat) : szT fs M 0 = List.replicate M 0 := by
  apply List.ext_getElem <;> simp [szT]
theorem szT_at {fs : List Int} {M k j : Nat} (h : j < M) : at_ (szT fs M k) j = (((fs.take k).count (j : Int) : Nat) : Int) := by
  refine at_of ?_
  unfold szT
  rw [List.getElem?_map, List.getElem?_range h]
  rfl
theorem szT_neg {fs : List Int} {M k : Nat} {z : Int} (hz : fs[k]? = some z) (h : z < 0) : szT fs M (k + 1) = szT fs M k := by
  unfold szT
  refine List.map_congr_left fun j _ => ?_
  rw [take_snoc hz, List.count_append]
  have : List.count (j : Int) [z] = 0 := by
    rw [List.count_eq_zero]
    simp
    omega
  rw [this, Nat.add_zero]
theorem szT_pos {fs : List Int} {M k q : Nat} (hz : fs[k]? = some (q : Int)) (h : q < M) : szT fs M (k + 1) = (szT fs M k).set q (at_ (szT fs M k) q + 1) := by
  rw [szT_at h]
  apply List.ext_getElem
  · simp [szT]
  · intro i h1 h2
    rw [List.getElem_set]
    simp only [szT, List.getElem_map, List.getElem_range]
    rw [take_snoc hz, List.count_append]
    by_cases e : q = i
    · subst e; simp
    · rw [if_neg e]
      have : List.count (i : Int) [(q : Int)] = 0 := by
        rw [List.count_eq_zero]
        simp
        omega
      rw [this, Nat.add_zero]
def OutSz (n : Nat) (nb : Nat → List Nat) (ok : Nat → Bool) (w : World) (e : Ending) (w' : World) : Prop :=
  ∃ fs, Lab n nb ok fs ∧ OutI (szF fs) w e w'
def SzRel (w wr : World) (n M g g1 c1 : Nat) (fs : List Int) (i : Value) : Prop :=
  ∃ k : Nat, k ≤ n ∧ i = .int .i64 k ∧ wr.ownsRow w.heap.size 3 1 (.slice (some ⟨g1, 0, none⟩) n c1) n (ints fs) ∧ (∃ lo, g1 < lo ∧ wr.ownsRow lo 3 1 (.slice (some ⟨g, 0, none⟩) M M) M (ints (szT fs M k))) ∧ Below w.heap.size w wr ∧ w.heap.size ≤ g
theorem hi_toNat (fs : List Int) : (((hi fs + 1).toNat : Nat) : Int) = hi fs + 1 := by have := hi_ge fs; omega
end Go.Proofs.Ytcjcdlhmhhbkgac

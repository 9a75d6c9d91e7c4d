/- Contracts of chapter 2: whether a pond is valid, its cells, their ice and their risk. -/
import Derived.Test.YtbnggakfogcalaaGrid
namespace Go.Proofs.Ytbnggakfogcalaa
open Go.RowKit
set_option linter.unusedVariables false
set_option linter.unusedSimpArgs false
theorem decide_nn {p : Prop} [Decidable p] (h : p) : decide p = true := decide_eq_true h
set_option maxHeartbeats 400000 in
theorem iCnt_any (pp : List (List Int)) (A : Option Addr) (c : Nat) (w : World) (B : Nat) (hp : Pnd w B A pp) :
    Calls Try.prog 82 #[.slice A pp.length c] w fun e w' => e = .returned (.int .i64 (cnt pp : Nat)) ∧ w = w' := by
  obtain ⟨b, off, A0, c0, rfl, hb, h0⟩ := hp.row0
  have hl := pond_len hp.1
  have hw := pond_wide hp.1
  have hc := pond_cnt hp.1
  have H : Hid ((pp.length : Int) * (wide pp : Int) = ((cnt pp : Nat) : Int)) := Lib.hid (by unfold cnt; exact (Int.natCast_mul _ _).symm)
  have hb1 : 0 ≤ (pp.length : Int) * (wide pp : Int) := by rw [H.out]; omega
  have hb2 : (pp.length : Int) * (wide pp : Int) ≤ 81 := by rw [H.out]; omega
  go_enter Try.func82, Try.ntmps82
  go_wp2
  go_ret
  exact ⟨ret_int H.out, rfl⟩
set_option maxHeartbeats 400000 in
theorem validCell_any (pp : List (List Int)) (A : Option Addr) (c : Nat) (w : World) (B : Nat) (hp : Pnd w B A pp) (z : Int) :
    Calls Try.prog 58 #[.slice A pp.length c, .int .i64 z] w fun e w' => e = .returned (.bool (inB z 0 ((cnt pp : Nat) - 1))) ∧ w = w' := by
  have hc := pond_cnt hp.1
  by_cases hz : 0 ≤ z
  · go_enter Try.func58, Try.ntmps58
    go_wp2_with (go_at_call 82; refine (iCnt_any _ _ _ _ _ hp).mono ?_; rintro e w' ⟨rfl, rfl⟩)
    go_ret
    exact ⟨ret_bool (by unfold inB; exact decide_eq_decide.2 ⟨fun h => ⟨hz, by omega⟩, fun h => by omega⟩), rfl⟩
  · have hz' : z < 0 := by omega
    go_enter Try.func58, Try.ntmps58
    go_wp2_with (go_at_call 82; refine (iCnt_any _ _ _ _ _ hp).mono ?_; rintro e w' ⟨rfl, rfl⟩)
    go_ret
    exact ⟨ret_bool (inB_nk (by omega)).symm, rfl⟩

end Go.Proofs.Ytbnggakfogcalaa

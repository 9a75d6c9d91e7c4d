/- Contracts of chapter 2: whether a pond is valid, its cells, their ice and their risk. -/
import Derived.Test.YtggdnpaiaijhgaaGrid
namespace Go.Proofs.Ytggdnpaiaijhgaa
open Go.RowKit
set_option linter.unusedVariables false
set_option linter.unusedSimpArgs false
theorem decide_nn {p : Prop} [Decidable p] (h : p) : decide p = true := decide_eq_true h
set_option maxRecDepth 100000 in
set_option maxHeartbeats 400000 in
theorem iCnt_any (pp : List (List Int)) (A : Option Addr) (c : Nat) (w : World) (B : Nat) (hp : Pnd w B A pp) :
    Calls Try.prog 124 #[.slice A pp.length c] w fun e w' => e = .returned (.int .i64 (cnt pp : Nat)) ∧ w = w' := by
  obtain ⟨b, off, A0, c0, rfl, hb, h0⟩ := hp.row0
  have hl := pond_len hp.1
  have hw := pond_wide hp.1
  have hc := pond_cnt hp.1
  have H : Hid ((pp.length : Int) * (wide pp : Int) = ((cnt pp : Nat) : Int)) := Lib.hid (by unfold cnt; exact (Int.natCast_mul _ _).symm)
  have hb1 : 0 ≤ (pp.length : Int) * (wide pp : Int) := by rw [H.out]; omega
  have hb2 : (pp.length : Int) * (wide pp : Int) ≤ 81 := by rw [H.out]; omega
  go_enter Try.func124, Try.ntmps124
  go_wp2
  go_ret
  exact ⟨ret_int H.out, rfl⟩
set_option maxRecDepth 100000 in
set_option maxHeartbeats 400000 in
theorem sCnt_any (pp : List (List Int)) (A : Option Addr) (c : Nat) (w : World) (B : Nat) (hp : Pnd w B A pp) :
    Calls Try.prog 89 #[.slice A pp.length c] w fun e w' => e = .returned (.int .i64 (cnt pp : Nat)) ∧ w = w' := by
  obtain ⟨b, off, A0, c0, rfl, hb, h0⟩ := hp.row0
  have hl := pond_len hp.1
  have hw := pond_wide hp.1
  have hc := pond_cnt hp.1
  have H : Hid ((pp.length : Int) * (wide pp : Int) = ((cnt pp : Nat) : Int)) := Lib.hid (by unfold cnt; exact (Int.natCast_mul _ _).symm)
  have hb1 : 0 ≤ (pp.length : Int) * (wide pp : Int) := by rw [H.out]; omega
  have hb2 : (pp.length : Int) * (wide pp : Int) ≤ 81 := by rw [H.out]; omega
  go_enter Try.func89, Try.ntmps89
  go_wp2
  go_ret
  exact ⟨ret_int H.out, rfl⟩

set_option maxRecDepth 100000 in
set_option maxHeartbeats 400000 in
theorem validCell_any (pp : List (List Int)) (A : Option Addr) (c : Nat) (w : World) (B : Nat) (hp : Pnd w B A pp) (z : Int) :
    Calls Try.prog 96 #[.slice A pp.length c, .int .i64 z] w fun e w' => e = .returned (.bool (inB z 0 ((cnt pp : Nat) - 1))) ∧ w = w' := by
  have hc := pond_cnt hp.1
  by_cases hz : 0 ≤ z
  · go_enter Try.func96, Try.ntmps96
    go_wp2_with (go_at_call 124; refine (iCnt_any _ _ _ _ _ hp).mono ?_; rintro e w' ⟨rfl, rfl⟩)
    go_ret
    exact ⟨ret_bool (by unfold inB; exact decide_eq_decide.2 ⟨fun h => ⟨hz, by omega⟩, fun h => by omega⟩), rfl⟩
  · have hz' : z < 0 := by omega
    go_enter Try.func96, Try.ntmps96
    go_wp2_with (go_at_call 124; refine (iCnt_any _ _ _ _ _ hp).mono ?_; rintro e w' ⟨rfl, rfl⟩)
    go_ret
    exact ⟨ret_bool (inB_nk (by omega)).symm, rfl⟩

set_option maxRecDepth 100000 in
set_option maxHeartbeats 1000000 in
theorem iThk_any (pp : List (List Int)) (A : Option Addr) (c : Nat) (w : World) (B : Nat) (hp : Pnd w B A pp) (k : Nat) (hk : k < cnt pp) :
    Calls Try.prog 76 #[.slice A pp.length c, .int .i64 k] w fun e w' => e = .returned (.int .i64 (thk pp k)) ∧ ∃ n, w' = w.drewN n := by
  obtain ⟨b, off, A0, c0, b1, o1, c1, rfl, h0, h1, h2⟩ := hp.cell_ hk
  have hl := pond_len hp.1
  have hw := pond_wide hp.1
  have hc := pond_cnt hp.1
  have hy := row_y hk
  have hx := Nat.mod_lt k (show 0 < wide pp by omega)
  clear hp
  generalize thk pp k = t at *
  generalize cnt pp = N at *
  generalize wide pp = W at *
  generalize pp.length = H at *
  have i0 : 0 < H := by omega
  have i1 : ((W : Int) == 0) = false := beq_eq_false_iff_ne.2 (by omega)
  have i2 : ¬ W = 0 := by omega
  have j1 : 0 ≤ (k : Int) / (W : Int) := Int.ediv_nonneg (by omega) (by omega)
  have j2 : (k : Int) / (W : Int) < H := by omega
  have j3 : 0 ≤ (k : Int) % (W : Int) := Int.emod_nonneg _ (by omega)
  have j4 : (k : Int) % (W : Int) < W := Int.emod_lt_of_pos _ (by omega)
  have j5 : IntKind.i64.wrap ((k : Int) / (W : Int)) = (k : Int) / (W : Int) := IntWalk.i64_in _ (by omega)
  go_enter Try.func76, Try.ntmps76
  go_wp2
  go_quiet (fail)
  go_wp2
  go_ret
  exact ⟨rfl, _, rfl⟩
set_option maxRecDepth 100000 in
set_option maxHeartbeats 1000000 in
theorem sThk_any (pp : List (List Int)) (A : Option Addr) (c : Nat) (w : World) (B : Nat) (hp : Pnd w B A pp) (k : Nat) (hk : k < cnt pp) :
    Calls Try.prog 91 #[.slice A pp.length c, .int .i64 k] w fun e w' => e = .returned (.int .i64 (thk pp k)) ∧ ∃ n, w' = w.drewN n := by
  obtain ⟨b, off, A0, c0, b1, o1, c1, rfl, h0, h1, h2⟩ := hp.cell_ hk
  have hl := pond_len hp.1
  have hw := pond_wide hp.1
  have hc := pond_cnt hp.1
  have hy := row_y hk
  have hx := Nat.mod_lt k (show 0 < wide pp by omega)
  clear hp
  generalize thk pp k = t at *
  generalize cnt pp = N at *
  generalize wide pp = W at *
  generalize pp.length = H at *
  have i0 : 0 < H := by omega
  have i1 : ((W : Int) == 0) = false := beq_eq_false_iff_ne.2 (by omega)
  have i2 : ¬ W = 0 := by omega
  have j1 : 0 ≤ (k : Int) / (W : Int) := Int.ediv_nonneg (by omega) (by omega)
  have j2 : (k : Int) / (W : Int) < H := by omega
  have j3 : 0 ≤ (k : Int) % (W : Int) := Int.emod_nonneg _ (by omega)
  have j4 : (k : Int) % (W : Int) < W := Int.emod_lt_of_pos _ (by omega)
  have j5 : IntKind.i64.wrap ((k : Int) / (W : Int)) = (k : Int) / (W : Int) := IntWalk.i64_in _ (by omega)
  go_enter Try.func91, Try.ntmps91
  go_wp2
  go_quiet (fail)
  go_wp2
  go_ret
  exact ⟨rfl, _, rfl⟩
set_option maxRecDepth 100000 in
set_option maxHeartbeats 400000 in
theorem bears_any (pp : List (List Int)) (A : Option Addr) (c : Nat) (w : World) (B : Nat) (hp : Pnd w B A pp) (k : Nat) (hk : k < cnt pp) (load : Int) :
    Calls Try.prog 130 #[.slice A pp.length c, .int .i64 k, .int .i64 load] w fun e w' => e = .returned (.bool (okF pp load k)) ∧ ∃ n, w' = w.drewN n := by
  have hb := thk_bd hp.1 hk
  have e : okF pp load k = decide (load ≤ thk pp k * thk pp k) := by unfold okF; rw [decide_eq_true hk]; rfl
  rw [e]
  clear e
  go_enter Try.func130, Try.ntmps130
  go_wp2_with (first | (go_at_call 91; refine (sThk_any _ _ _ _ _ hp _ hk).mono ?_; rintro e w' ⟨rfl, n, rfl⟩) | (go_at_call 143; refine (loadOf_any _ (by omega) (by omega) _).mono ?_; rintro e w' ⟨rfl, rfl⟩))
  go_ret
  exact ⟨rfl, _, rfl⟩

end Go.Proofs.Ytggdnpaiaijhgaa

/- Contracts of chapter 3: whether all cells of a cake have ice. -/
import Derived.Test.YtiihenhddleooacFValid
namespace Go.Proofs.Ytiihenhddleooac
open Go.RowKit
set_option linter.unusedVariables false
set_option linter.unusedSimpArgs false
def AllIce (ff : List (List Bool)) (cw x y j : Nat) : Prop := ∀ j', j' < j → ∀ i, i < cw → ice ff (y + j') (x + i) = true
theorem AllIce.zero {ff : List (List Bool)} {cw x y : Nat} : AllIce ff cw x y 0 := fun j h => by omega
theorem AllIce.step {ff : List (List Bool)} {cw x y j : Nat} (h : AllIce ff cw x y j) (hr : ∀ i, i < cw → ice ff (y + j) (x + i) = true) : AllIce ff cw x y (j + 1) := fun j' hj i hi => by
  by_cases e : j' = j
  · subst e; exact hr i hi
  · exact h j' (by omega) i hi
theorem AllIce.whole {ff : List (List Bool)} {cw ch x y : Nat} (h : AllIce ff cw x y ch) (hx : x + cw ≤ wideB ff) (hy : y + ch ≤ ff.length) : wholeB ff cw ch x y = true := wholeB_iff.2 ⟨⟨hy, hx⟩, h⟩
set_option maxRecDepth 100000 in
set_option maxHeartbeats 1000000 in
theorem iWhole_any (ff : List (List Bool)) (A : Option Addr) (c : Nat) (hcap : ff.length ≤ c ∧ c ≤ maxLen) (w : World) (B : Nat) (hf : Fld w B A ff) (cw ch x y : Nat) (hw : 1 ≤ cw ∧ cw ≤ 4) (hh : 1 ≤ ch ∧ ch ≤ 4) (hx : x + cw ≤ wideB ff) (hy : y + ch ≤ ff.length) :
    Calls Try.prog 53 #[.slice A ff.length c, .int .i64 (cw : Nat), .int .i64 (ch : Nat), .int .i64 (x : Nat), .int .i64 (y : Nat)] w fun e w' => e = .returned (.bool (wholeB ff cw ch x y)) ∧ w = w' := by
  have hl := field_len hf.1
  have hwd := field_wide hf.1
  have HT : Hid (AllIce ff cw x y ch → wholeB ff cw ch x y = true) := Lib.hid fun h => h.whole hx hy
  have HF : Hid (∀ j i, j < ch → i < cw → ice ff (y + j) (x + i) = false → wholeB ff cw ch x y = false) := Lib.hid fun j i hj hi h => wholeB_hole hj hi h
  generalize wholeB ff cw ch x y = R at *
  obtain ⟨b, off, A0, c0, rfl, hb, h0⟩ := hf.row0
  have q1 : (y : Int) + (ch : Int) ≤ (c : Int) := by omega
  have q2 : ¬ (c = y) := by omega
  obtain ⟨q3, q4⟩ := hcap
  go_enter Try.func53, Try.ntmps53
  go_wp2
  go_loop [10, 12, 14, 22] (fun _ _ _ i => ∃ j : Nat, j ≤ ch ∧ i = .int .i64 j ∧ AllIce ff cw x y j) (fun _ _ _ i => ch - (intOf i).toNat)
  case atStart => exact ⟨0, Nat.zero_le _, rfl, AllIce.zero⟩
  case round =>
    obtain ⟨j, hj, rfl, ha⟩ := hrel
    have HA := Lib.hid ha
    clear ha
    by_cases hlt : j < ch
    · obtain ⟨b', off', A', c', e, hb', hc, hc1, hc2, hr, hrl⟩ := hf.rowk (k := y + j) (by omega)
      injection e with e
      injection e with e1 e2
      subst e1 e2
      obtain ⟨b1, o1, rfl, _, _⟩ := hr.bool_ (k := 0) (by rw [hrl.out]; omega)
      rw [← Nat.add_assoc] at hc
      have q5 : (x : Int) + (cw : Int) ≤ (c' : Int) := by omega
      have q6 : ¬ (c' = x) := by omega
      have HC : Hid (∀ i, i < cw → w.cell? ⟨b1, o1 + x + i, none⟩ = some (.bool (ice ff (y + j) (x + i)))) := Lib.hid fun i hi => by
        obtain ⟨b2, o2, e, _, h⟩ := hr.bool_ (k := x + i) (by rw [hrl.out]; omega)
        injection e with e
        injection e with e1 e2
        subst e1 e2
        rw [← Nat.add_assoc] at h
        exact h
      clear hr
      go_wp2
      go_loop [33] (fun i => ∃ i' : Nat, i' ≤ cw ∧ i = .int .i64 i' ∧ ∀ k, k < i' → ice ff (y + j) (x + k) = true) (fun i => cw - (intOf i).toNat)
      case atStart => exact ⟨0, Nat.zero_le _, rfl, fun k hk => by omega⟩
      case round =>
        obtain ⟨i, hi, rfl, hai⟩ := hrel
        have HAI := Lib.hid hai
        clear hai
        by_cases hit : i < cw
        · have hcc := HC.out i hit
          cases hq : ice ff (y + j) (x + i)
          · have Hq := Lib.hid hq
            rw [hq] at hcc
            clear hq
            go_wp2
            go_ret
            exact ⟨ret_bool (HF.out j i hlt hit Hq.out).symm, rfl⟩
          · have Hq := Lib.hid hq
            rw [hq] at hcc
            clear hq
            go_wp2
            go_round
            case rel => exact ⟨i + 1, by omega, by go_num, fun k hk => by by_cases e : k = i; subst e; exact Hq.out; exact HAI.out k (by omega)⟩
            case measure => simp [intOf]; omega
        · obtain rfl : i = cw := by omega
          go_wp2
          go_round
          case rel => exact ⟨_, _, _, _, ⟨j + 1, by omega, by go_num, HA.out.step HAI.out⟩, rfl, rfl, rfl, rfl⟩
          case measure => simp [intOf]; omega
    · obtain rfl : j = ch := by omega
      go_wp2
      go_ret
      exact ⟨ret_bool (HT.out HA.out).symm, rfl⟩
set_option maxRecDepth 100000 in
set_option maxHeartbeats 1000000 in
theorem sHolds_any (ff : List (List Bool)) (A : Option Addr) (c : Nat) (w : World) (B : Nat) (hf : Fld w B A ff) (cw ch x y : Nat) (hw : 1 ≤ cw ∧ cw ≤ 4) (hh : 1 ≤ ch ∧ ch ≤ 4) (hx : x ≤ 13) (hy : y ≤ 13) :
    Calls Try.prog 56 #[.slice A ff.length c, .int .i64 (x : Nat), .int .i64 (y : Nat), .int .i64 (cw : Nat), .int .i64 (ch : Nat)] w fun e w' => e = .returned (.bool (wholeB ff cw ch x y)) ∧ w = w' := by
  have hl := field_len hf.1
  have hwd := field_wide hf.1
  have h0' := hf.row0
  by_cases o1 : wideB ff < x + cw
  · have H := Lib.hid (wholeB_out (ff := ff) (w := cw) (h := ch) (x := x) (y := y) (by omega))
    obtain ⟨b, off, A0, c0, rfl, hb, h0⟩ := h0'
    generalize wideB ff = W at *
    go_enter Try.func56, Try.ntmps56
    go_wp2
    go_ret
    exact ⟨ret_bool H.out.symm, rfl⟩
  by_cases o2 : ff.length < y + ch
  · have H := Lib.hid (wholeB_out (ff := ff) (w := cw) (h := ch) (x := x) (y := y) (by omega))
    have o3 : x + cw ≤ wideB ff := by omega
    obtain ⟨b, off, A0, c0, rfl, hb, h0⟩ := h0'
    generalize wideB ff = W at *
    clear o1
    go_enter Try.func56, Try.ntmps56
    go_wp2
    go_ret
    exact ⟨ret_bool H.out.symm, rfl⟩
  have hx : x + cw ≤ wideB ff := by omega
  have hy : y + ch ≤ ff.length := by omega
  clear o1 o2
  have HT : Hid (AllIce ff cw x y ch → wholeB ff cw ch x y = true) := Lib.hid fun h => h.whole hx hy
  have HF : Hid (∀ j i, j < ch → i < cw → ice ff (y + j) (x + i) = false → wholeB ff cw ch x y = false) := Lib.hid fun j i hj hi h => wholeB_hole hj hi h
  generalize wholeB ff cw ch x y = R at *
  obtain ⟨b, off, A0, c0, rfl, hb, h0⟩ := h0'
  go_enter Try.func56, Try.ntmps56
  go_wp2
  go_loop [11] (fun i => ∃ j : Nat, j ≤ ch ∧ i = .int .i64 ((y + j : Nat) : Int) ∧ AllIce ff cw x y j) (fun i => y + ch - (intOf i).toNat)
  case atStart => exact ⟨0, Nat.zero_le _, by simp, AllIce.zero⟩
  case round =>
    obtain ⟨j, hj, rfl, ha⟩ := hrel
    have HA := Lib.hid ha
    clear ha
    by_cases hlt : j < ch
    · go_wp2
      go_loop [12] (fun i => ∃ i' : Nat, i' ≤ cw ∧ i = .int .i64 ((x + i' : Nat) : Int) ∧ ∀ k, k < i' → ice ff (y + j) (x + k) = true) (fun i => x + cw - (intOf i).toNat)
      case atStart => exact ⟨0, Nat.zero_le _, by simp, fun k hk => by omega⟩
      case round =>
        obtain ⟨i, hi, rfl, hai⟩ := hrel
        have HAI := Lib.hid hai
        clear hai
        by_cases hit : i < cw
        · obtain ⟨b', off', b1, o1, c1, e, hc, _, _, hcc⟩ := hf.cell_ (y := y + j) (x := x + i) (by omega) (by omega)
          injection e with e
          injection e with e1 e2
          subst e1 e2
          cases hq : ice ff (y + j) (x + i)
          · have Hq := Lib.hid hq
            rw [hq] at hcc
            clear hq
            go_wp2
            go_ret
            exact ⟨ret_bool (HF.out j i hlt hit Hq.out).symm, rfl⟩
          · have Hq := Lib.hid hq
            rw [hq] at hcc
            clear hq
            go_wp2
            go_round
            case rel => exact ⟨i + 1, by omega, by first | go_num | (congr 1; simp; omega), fun k hk => by by_cases e : k = i; subst e; exact Hq.out; exact HAI.out k (by omega)⟩
            case measure => simp [intOf]; omega
        · obtain rfl : i = cw := by omega
          go_wp2
          go_round
          case rel => exact ⟨j + 1, by omega, by first | go_num | (congr 1; simp; omega), HA.out.step HAI.out⟩
          case measure => simp [intOf]; omega
    · obtain rfl : j = ch := by omega
      go_wp2
      go_ret
      exact ⟨ret_bool (HT.out HA.out).symm, rfl⟩
theorem validSides_any (a b : Int) (w : World) :
    Calls Try.prog 30 #[.int .i64 a, .int .i64 b] w fun e w' => e = .returned (.bool (inB a 1 4 && inB b 1 4)) ∧ w = w' := by
  by_cases h1 : a < 1
  · have H : Hid (inB a 1 4 = false) := Lib.hid (inB_nk (by omega))
    go_enter Try.func30, Try.ntmps30
    go_wp2
    go_ret
    exact ⟨ret_bool (by rw [H.out]; rfl), rfl⟩
  by_cases h2 : 4 < a
  · have H : Hid (inB a 1 4 = false) := Lib.hid (inB_nk (by omega))
    have h3 : 1 ≤ a := by omega
    go_enter Try.func30, Try.ntmps30
    go_wp2
    go_ret
    exact ⟨ret_bool (by rw [H.out]; rfl), rfl⟩
  have h3 : 1 ≤ a := by omega
  have h4 : a ≤ 4 := by omega
  have H : Hid (inB a 1 4 = true) := Lib.hid (inB_mk ⟨h3, h4⟩)
  clear h1 h2
  by_cases h1 : b < 1
  · have H2 : Hid (inB b 1 4 = false) := Lib.hid (inB_nk (by omega))
    go_enter Try.func30, Try.ntmps30
    go_wp2
    go_ret
    exact ⟨ret_bool (by rw [H.out, H2.out]; rfl), rfl⟩
  by_cases h2 : 4 < b
  · have H2 : Hid (inB b 1 4 = false) := Lib.hid (inB_nk (by omega))
    have h5 : 1 ≤ b := by omega
    have h6 : ¬ b ≤ 4 := by omega
    go_enter Try.func30, Try.ntmps30
    go_wp2
    go_ret
    exact ⟨ret_bool (by rw [H.out, H2.out]; first | rfl | simpa using h2), rfl⟩
  have h5 : 1 ≤ b := by omega
  have h6 : b ≤ 4 := by omega
  have H2 : Hid (inB b 1 4 = true) := Lib.hid (inB_mk ⟨h5, h6⟩)
  clear h1 h2
  go_enter Try.func30, Try.ntmps30
  go_wp2
  go_ret
  exact ⟨ret_bool (by rw [H.out, H2.out]; rfl), rfl⟩
def sidesB (a b : Int) : Bool := inB a 1 4 && inB b 1 4
theorem vSides_is {q : Bool} {a b : Int} (h : sidesB a b = q) (w : World) :
    Calls Try.prog 30 #[.int .i64 a, .int .i64 b] w fun e w' => e = .returned (.bool q) ∧ w = w' := by
  have := validSides_any a b w
  unfold sidesB at h
  rw [h] at this
  exact this
theorem sidesB_t {a b : Int} (h : sidesB a b = true) : (1 ≤ a ∧ a ≤ 4) ∧ (1 ≤ b ∧ b ≤ 4) := by
  unfold sidesB at h
  rw [Bool.and_eq_true] at h
  exact ⟨inB_t h.1, inB_t h.2⟩

end Go.Proofs.Ytiihenhddleooac

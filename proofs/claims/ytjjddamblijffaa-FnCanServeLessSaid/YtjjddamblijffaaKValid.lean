/- Contracts of chapter 6: whether customers are valid. -/
import Derived.Lib.QuietBelow
import Derived.Test.YtjjddamblijffaaKWords
import Derived.Test.YtjjddamblijffaaFValid
namespace Go.Proofs.Ytjjddamblijffaa
open Go.RowKit
set_option linter.unusedVariables false
set_option linter.unusedSimpArgs false
theorem iPlace_any (x : Int) (w : World) :
    Calls Try.prog 73 #[.int .i64 x] w fun e w' => e = .returned (.bool (inB x (-100) 100)) ∧ w = w' := by
  go_enter Try.func73, Try.ntmps73
  go_wp2
  all_goals go_ret
  all_goals (refine ⟨ret_bool ?_, rfl⟩; unfold inB)
  all_goals simp [*]
  all_goals omega
theorem iPlace_is {x : Int} {q : Bool} (h : inB x (-100) 100 = q) (w : World) :
    Calls Try.prog 73 #[.int .i64 x] w fun e w' => e = .returned (.bool q) ∧ w = w' := by
  have := iPlace_any x w
  rwa [h] at this
set_option maxHeartbeats 800000 in
theorem iCu_any (x d v : Int) (w : World) :
    Calls Try.prog 52 #[.agg #[.int .i64 x, .int .i64 d, .int .i64 v]] w fun e w' => e = .returned (.bool (cuV (x, d, v))) ∧ Below w.heap.size w w' := by
  have HV : Hid (cuV (x, d, v) = ((inB x (-100) 100 && inB d 0 2000) && inB v 1 50)) := Lib.hid rfl
  generalize cuV (x, d, v) = R at *
  have hway : (x < -100) ∨ (100 < x) ∨ d < 0 ∨ 2000 < d ∨ v < 1 ∨ 50 < v ∨ ((-100 ≤ x ∧ x ≤ 100) ∧ (0 ≤ d ∧ d ≤ 2000) ∧ 1 ≤ v ∧ v ≤ 50) := by omega
  rcases hway with h | h | h | h | h | h | ⟨⟨h1, h2⟩, ⟨h3, h4⟩, h5, h6⟩
  · have HT : Hid (R = false) := Lib.hid (by rw [HV.out, inB_nk (n := x) (by omega)]; simp)
    go_enter Try.func52, Try.ntmps52
    go_wp2
    all_goals go_ret
    all_goals exact ⟨ret_bool (by first | exact HT.out.symm | (rw [HT.out]; simp; omega)), (Below.refl _ _).alloc (Nat.le_refl _) _⟩
  · have HT : Hid (R = false) := Lib.hid (by rw [HV.out, inB_nk (n := x) (by omega)]; simp)
    have h0 : -100 ≤ x := by omega
    go_enter Try.func52, Try.ntmps52
    go_wp2
    all_goals go_ret
    all_goals exact ⟨ret_bool (by first | exact HT.out.symm | (rw [HT.out]; simp; omega)), (Below.refl _ _).alloc (Nat.le_refl _) _⟩
  · have HT : Hid (R = false) := Lib.hid (by rw [HV.out, inB_nk (n := d) (by omega)]; simp)
    go_enter Try.func52, Try.ntmps52
    go_wp2
    all_goals go_ret
    all_goals exact ⟨ret_bool (by first | exact HT.out.symm | (rw [HT.out]; simp; omega)), (Below.refl _ _).alloc (Nat.le_refl _) _⟩
  · have HT : Hid (R = false) := Lib.hid (by rw [HV.out, inB_nk (n := d) (by omega)]; simp)
    have h0 : 0 ≤ d := by omega
    go_enter Try.func52, Try.ntmps52
    go_wp2
    all_goals go_ret
    all_goals exact ⟨ret_bool (by first | exact HT.out.symm | (rw [HT.out]; simp; omega)), (Below.refl _ _).alloc (Nat.le_refl _) _⟩
  · have HT : Hid (R = false) := Lib.hid (by rw [HV.out, inB_nk (n := v) (by omega)]; simp)
    go_enter Try.func52, Try.ntmps52
    go_wp2
    all_goals go_ret
    all_goals exact ⟨ret_bool (by first | exact HT.out.symm | (rw [HT.out]; simp; omega)), (Below.refl _ _).alloc (Nat.le_refl _) _⟩
  · have HT : Hid (R = false) := Lib.hid (by rw [HV.out, inB_nk (n := v) (by omega)]; simp)
    have h0 : 1 ≤ v := by omega
    go_enter Try.func52, Try.ntmps52
    go_wp2
    all_goals go_ret
    all_goals exact ⟨ret_bool (by first | exact HT.out.symm | (rw [HT.out]; simp; omega)), (Below.refl _ _).alloc (Nat.le_refl _) _⟩
  · have HT : Hid (R = true) := Lib.hid (by rw [HV.out, inB_mk (n := x) ⟨h1, h2⟩, inB_mk (n := d) ⟨h3, h4⟩, inB_mk (n := v) ⟨h5, h6⟩]; rfl)
    go_enter Try.func52, Try.ntmps52
    go_wp2
    all_goals go_ret
    all_goals exact ⟨ret_bool (by first | exact HT.out.symm | (rw [HT.out]; simp; omega)), (Below.refl _ _).alloc (Nat.le_refl _) _⟩
set_option maxHeartbeats 1000000 in
theorem iVCs_any (n : Nat) (cs : List Cu) (hl : cs.length = n) (A : Option Addr) (c : Nat) (hn : n ≤ maxLen) (w : World) (hr : Rd w w.heap.size A (custV cs)) :
    Calls Try.prog 16 #[.slice A n c] w fun e w' => e = .returned (.bool (vcB cs)) ∧ Below w.heap.size w w' := by
  unfold maxLen at hn
  have HL := Lib.hid hl
  have HV : Hid (vcB cs = (cuTo cs n && decide (n ≤ 8))) := Lib.hid (by unfold vcB; rw [hl])
  generalize vcB cs = R at *
  clear hl
  by_cases h8 : n ≤ 8
  · have HF : Hid (R = cuTo cs n) := Lib.hid (by rw [HV.out, decide_eq_true h8, Bool.and_true])
    go_enter Try.func16, Try.ntmps16
    go_wp2
    go_loopw [10] (fun i wr => ∃ k : Nat, k ≤ n ∧ i = .int .i64 k ∧ cuTo cs k = true ∧ Below w.heap.size w wr) (fun i _ => n - (intOf i).toNat)
    case atStart => exact ⟨0, Nat.zero_le _, rfl, rfl, Below.refl _ _⟩
    case round =>
      obtain ⟨k, hk, rfl, hok, hbel⟩ := hrel
      have HOK := Lib.hid hok
      have HBEL := Lib.hid hbel
      by_cases hlt : k < n
      · obtain ⟨b1, off, x, d, v, rfl, hb1, hz, hc0, hc1, hc2⟩ := (hr.below hbel).cust_ (k := k) (by rw [HL.out]; exact hlt)
        have cC := fun w => iCu_any x d v w
        have HN : Hid (cuTo cs (k + 1) = cuV (x, d, v)) := Lib.hid (by rw [cuTo_succ, HOK.out, hz.out]; rfl)
        have HBD : Hid (cuV (x, d, v) = false → R = false) := Lib.hid fun h => by rw [HF.out]; exact cuTo_bad hlt (by rw [hz.out]; exact h)
        generalize cuV (x, d, v) = q at *
        have CC := Lib.hid cC
        clear hok hbel cC
        cases q
        · have HT := Lib.hid (HBD.out rfl)
          go_wp2_with fail
          refine (CC.out _).mono ?_
          rintro e w5 ⟨rfl, b5⟩
          have hb5 := (HBEL.out.alloc HBEL.out.size _).trans (b5.mono (by have := HBEL.out.size; simp; omega))
          have HB5 := Lib.hid hb5
          clear hb5 b5
          go_wp2
          go_ret
          exact ⟨ret_bool HT.out.symm, HB5.out⟩
        · go_wp2_with fail
          refine (CC.out _).mono ?_
          rintro e w5 ⟨rfl, b5⟩
          have hb5 := (HBEL.out.alloc HBEL.out.size _).trans (b5.mono (by have := HBEL.out.size; simp; omega))
          have HB5 := Lib.hid hb5
          clear hb5 b5
          go_wp2
          go_roundw
          case rel => exact ⟨k + 1, by omega, by go_num, HN.out, HB5.out⟩
          case measure => simp [intOf]; omega
      · obtain rfl : k = n := by omega
        have HT := Lib.hid (HF.out.trans HOK.out)
        clear hok hbel
        go_wp2
        go_ret
        exact ⟨ret_bool HT.out.symm, HBEL.out⟩
  · have HT : Hid (R = false) := Lib.hid (by rw [HV.out, decide_eq_false h8, Bool.and_false])
    have h8i : (8 : Int) < (n : Int) := by omega
    go_enter Try.func16, Try.ntmps16
    go_wp2
    go_ret
    exact ⟨ret_bool HT.out.symm, Below.refl _ _⟩
set_option maxHeartbeats 1000000 in
theorem sVCs_any (n : Nat) (cs : List Cu) (hl : cs.length = n) (A : Option Addr) (c : Nat) (hn : n ≤ maxLen) (w : World) (B : Nat) (hr : Rd w B A (custV cs)) :
    Calls Try.prog 53 #[.slice A n c] w fun e w' => e = .returned (.bool (vcB cs)) ∧ ∃ q, w' = w.drewN q := by
  unfold maxLen at hn
  have HL := Lib.hid hl
  have HV : Hid (vcB cs = (cuTo cs n && decide (n ≤ 8))) := Lib.hid (by unfold vcB; rw [hl])
  have HBN : Hid (∀ k, k < n → cuV (cuA cs k) = false → vcB cs = false) := Lib.hid fun k hk h => by rw [HV.out, cuTo_bad hk h]; rfl
  generalize vcB cs = R at *
  clear hl
  go_enter Try.func53, Try.ntmps53
  go_wp2_with (go_at_call 58; refine (inRange_any _ _ _ _).mono ?_; rintro e w' ⟨rfl, rfl⟩)
  go_loopw [3] (fun i wr => ∃ k : Nat, k ≤ n ∧ i = .int .i64 k ∧ cuTo cs k = true ∧ ∃ q, wr = w.drewN q) (fun i _ => n - (intOf i).toNat)
  case atStart => exact ⟨0, Nat.zero_le _, rfl, rfl, 0, rfl⟩
  case round =>
    obtain ⟨k, hk, rfl, hok, q0, rfl⟩ := hrel
    have HOK := Lib.hid hok
    by_cases hlt : k < n
    · obtain ⟨b1, off, x, d, v, rfl, hb1, hz, hc0, hc1, hc2⟩ := (hr.drewN q0).cust_ (k := k) (by rw [HL.out]; exact hlt)
      obtain ⟨wr, hwr⟩ : ∃ wr, wr = w.drewN q0 := ⟨_, rfl⟩
      rw [← hwr] at hc0 hc1 hc2 ⊢
      have HW := Lib.hid hwr
      have HN : Hid (cuTo cs (k + 1) = ((inB x (-100) 100 && inB d 0 2000) && inB v 1 50)) := Lib.hid (by rw [cuTo_succ, HOK.out, hz.out]; rfl)
      have HBD : Hid (((inB x (-100) 100 && inB d 0 2000) && inB v 1 50) = false → R = false) := Lib.hid fun h => HBN.out k hlt (by rw [hz.out]; exact h)
      clear hok hwr
      cases hq1 : inB x (-100) 100
      · have HT := Lib.hid (HBD.out (by rw [hq1]; rfl))
        go_wp2_with (go_at_call 58; refine (inRange_any _ _ _ _).mono ?_; rintro e w' ⟨rfl, rfl⟩)
        go_ret
        exact ⟨ret_bool HT.out.symm, q0, HW.out⟩
      · cases hq2 : inB d 0 2000
        · have HT := Lib.hid (HBD.out (by rw [hq1, hq2]; rfl))
          go_wp2_with (go_at_call 58; refine (inRange_any _ _ _ _).mono ?_; rintro e w' ⟨rfl, rfl⟩)
          go_ret
          exact ⟨ret_bool HT.out.symm, q0, HW.out⟩
        · cases hq3 : inB v 1 50
          · have HT := Lib.hid (HBD.out (by rw [hq1, hq2, hq3]; rfl))
            go_wp2_with (go_at_call 58; refine (inRange_any _ _ _ _).mono ?_; rintro e w' ⟨rfl, rfl⟩)
            go_ret
            exact ⟨ret_bool HT.out.symm, q0, HW.out⟩
          · have HT : Hid (cuTo cs (k + 1) = true) := Lib.hid (by simp [HN.out, hq1, hq2, hq3])
            go_wp2_with (go_at_call 58; refine (inRange_any _ _ _ _).mono ?_; rintro e w' ⟨rfl, rfl⟩)
            go_roundw
            case rel => exact ⟨k + 1, by omega, by go_num, HT.out, q0, HW.out⟩
            case measure => first | (simp [intOf]; omega) | simp [intOf]
    · obtain rfl : k = n := by omega
      have HT : Hid (R = decide (k ≤ 8)) := Lib.hid (by rw [HV.out, HOK.out]; rfl)
      clear hok
      by_cases h8 : k ≤ 8
      · have h8i : (k : Int) ≤ 8 := by omega
        go_wp2_with (go_at_call 58; refine (inRange_any _ _ _ _).mono ?_; rintro e w' ⟨rfl, rfl⟩)
        go_ret
        exact ⟨ret_bool (by first | (rw [HT.out, decide_eq_true h8]; done) | (rw [HT.out]; exact decide_eq_decide.2 (by omega)) | (rw [HT.out]; simp; omega)), _, rfl⟩
      · have h8i : (8 : Int) < (k : Int) := by omega
        go_wp2_with (go_at_call 58; refine (inRange_any _ _ _ _).mono ?_; rintro e w' ⟨rfl, rfl⟩)
        go_ret
        exact ⟨ret_bool (by first | (rw [HT.out, decide_eq_false h8]; done) | (rw [HT.out]; exact decide_eq_decide.2 (by omega)) | (rw [HT.out]; simp; omega)), _, rfl⟩
theorem sVCP_any (n : Nat) (cs : List Cu) (hl : cs.length = n) (A : Option Addr) (c : Nat) (hn : n ≤ maxLen) (w : World) (B : Nat) (hr : Rd w B A (custV cs)) :
    Calls Try.prog 17 #[.slice A n c] w fun e w' => e = .returned (.bool (vcB cs)) ∧ ∃ q, w' = w.drewN q := by
  have C := Lib.hid (sVCs_any n cs hl A c hn w B hr)
  clear hr
  go_enter Try.func17, Try.ntmps17
  go_wp2_with fail
  refine (C.out).mono ?_
  rintro e w' ⟨rfl, q, rfl⟩
  go_wp2
  go_ret
  exact ⟨rfl, q, rfl⟩

end Go.Proofs.Ytjjddamblijffaa

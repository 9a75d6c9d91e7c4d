/- Contracts of chapter 7: whether clauses are valid. -/
import Derived.Lib.QuietBelow
import Derived.Test.YtiihenhddleooaaTMath
import Derived.Test.YtiihenhddleooaaFValid
namespace Go.Proofs.Ytiihenhddleooaa
open Go.RowKit
set_option linter.unusedVariables false
set_option linter.unusedSimpArgs false
set_option maxHeartbeats 1000000 in
theorem iCl_any (x d v : Int) (w : World) :
    Calls Try.prog 71 #[.agg #[.int .i64 x, .int .i64 d, .int .i64 v]] w fun e w' => e = .returned (.bool (clV (x, d, v))) ∧ Below w.heap.size w w' := by
  have HV : Hid (clV (x, d, v) = ((inB x 0 999 && inB d x 999) && inB v (-10000) 10000)) := Lib.hid rfl
  generalize clV (x, d, v) = R at *
  have hway : (x < 0) ∨ (999 < x) ∨ (d < x) ∨ (999 < d) ∨ (v < -10000) ∨ (10000 < v) ∨ ((0 ≤ x ∧ x ≤ 999) ∧ (x ≤ d ∧ d ≤ 999) ∧ -10000 ≤ v ∧ v ≤ 10000) := by omega
  rcases hway with h | h | h | h | h | h | ⟨⟨h1, h2⟩, ⟨h3, h4⟩, h5, h6⟩
  · have HT : Hid (R = false) := Lib.hid (by rw [HV.out, inB_nk (n := x) (by omega)]; simp)
    go_enter Try.func71, Try.ntmps71
    go_wp2
    all_goals go_ret
    all_goals exact ⟨ret_bool (by first | exact HT.out.symm | (rw [HT.out]; simp; omega)), (Below.refl _ _).alloc (Nat.le_refl _) _⟩
  · have HT : Hid (R = false) := Lib.hid (by rw [HV.out, inB_nk (n := x) (by omega)]; simp)
    have h0 : 0 ≤ x := by omega
    go_enter Try.func71, Try.ntmps71
    go_wp2
    all_goals go_ret
    all_goals exact ⟨ret_bool (by first | exact HT.out.symm | (rw [HT.out]; simp; omega)), (Below.refl _ _).alloc (Nat.le_refl _) _⟩
  · have HT : Hid (R = false) := Lib.hid (by rw [HV.out, inB_nk (n := d) (by omega)]; simp)
    go_enter Try.func71, Try.ntmps71
    go_wp2
    all_goals go_ret
    all_goals exact ⟨ret_bool (by first | exact HT.out.symm | (rw [HT.out]; simp; omega)), (Below.refl _ _).alloc (Nat.le_refl _) _⟩
  · have HT : Hid (R = false) := Lib.hid (by rw [HV.out, inB_nk (n := d) (by omega)]; simp)
    have h0 : 0 ≤ d ∨ d < 0 := by omega
    go_enter Try.func71, Try.ntmps71
    go_wp2
    all_goals go_ret
    all_goals exact ⟨ret_bool (by first | exact HT.out.symm | (rw [HT.out]; simp; omega)), (Below.refl _ _).alloc (Nat.le_refl _) _⟩
  · have HT : Hid (R = false) := Lib.hid (by rw [HV.out, inB_nk (n := v) (by omega)]; simp)
    go_enter Try.func71, Try.ntmps71
    go_wp2
    all_goals go_ret
    all_goals exact ⟨ret_bool (by first | exact HT.out.symm | (rw [HT.out]; simp; omega)), (Below.refl _ _).alloc (Nat.le_refl _) _⟩
  · have HT : Hid (R = false) := Lib.hid (by rw [HV.out, inB_nk (n := v) (by omega)]; simp)
    have h0 : -10000 ≤ v := by omega
    go_enter Try.func71, Try.ntmps71
    go_wp2
    all_goals go_ret
    all_goals exact ⟨ret_bool (by first | exact HT.out.symm | (rw [HT.out]; simp; omega)), (Below.refl _ _).alloc (Nat.le_refl _) _⟩
  · have HT : Hid (R = true) := Lib.hid (by rw [HV.out, inB_mk (n := x) ⟨h1, h2⟩, inB_mk (n := d) ⟨h3, h4⟩, inB_mk (n := v) ⟨h5, h6⟩]; first | rfl | (simp; omega))
    have h8 : 0 ≤ d := by omega
    go_enter Try.func71, Try.ntmps71
    go_wp2
    all_goals go_ret
    all_goals exact ⟨ret_bool (by first | exact HT.out.symm | (rw [HT.out]; simp; omega)), (Below.refl _ _).alloc (Nat.le_refl _) _⟩
set_option maxHeartbeats 1000000 in
theorem iVCl_any (n : Nat) (cs : List Cu) (hl : cs.length = n) (A : Option Addr) (c : Nat) (hn : n ≤ maxLen) (w : World) (hr : Rd w w.heap.size A (custV cs)) :
    Calls Try.prog 38 #[.slice A n c] w fun e w' => e = .returned (.bool (okV clV cs)) ∧ Below w.heap.size w w' := by
  unfold maxLen at hn
  have HL := Lib.hid hl
  have HV : Hid (okV clV cs = (allV clV cs n && decide (n ≤ 20))) := Lib.hid (by unfold okV; rw [hl])
  generalize okV clV cs = R at *
  clear hl
  by_cases h8 : n ≤ 20
  · have HF : Hid (R = allV clV cs n) := Lib.hid (by rw [HV.out, decide_eq_true h8, Bool.and_true])
    go_enter Try.func38, Try.ntmps38
    go_wp2
    go_loopw [10] (fun i wr => ∃ k : Nat, k ≤ n ∧ i = .int .i64 k ∧ allV clV cs k = true ∧ Below w.heap.size w wr) (fun i _ => n - (intOf i).toNat)
    case atStart => exact ⟨0, Nat.zero_le _, rfl, rfl, Below.refl _ _⟩
    case round =>
      obtain ⟨k, hk, rfl, hok, hbel⟩ := hrel
      have HOK := Lib.hid hok
      have HBEL := Lib.hid hbel
      by_cases hlt : k < n
      · obtain ⟨b1, off, x, d, v, rfl, hb1, hz, hc0, hc1, hc2⟩ := (hr.below hbel).cust_ (k := k) (by rw [HL.out]; exact hlt)
        have cC := fun w => iCl_any x d v w
        have HN : Hid (allV clV cs (k + 1) = clV (x, d, v)) := Lib.hid (by rw [allV_succ, HOK.out, hz.out]; rfl)
        have HBD : Hid (clV (x, d, v) = false → R = false) := Lib.hid fun h => by rw [HF.out]; exact allV_bad hlt (by rw [hz.out]; exact h)
        generalize clV (x, d, v) = q at *
        have CC := Lib.hid cC
        clear hok hbel cC
        cases q
        · have HT := Lib.hid (HBD.out rfl)
          go_wp2_with fail
          refine (CC.out _).mono ?_
          rintro e w5 ⟨rfl, b5⟩
          have hb5 := (HBEL.out.alloc HBEL.out.size _).trans (b5.mono (by have := HBEL.out.size; simp; omega))
          have HB5 := Lib.hid hb5
          clear hb5 b5
          go_wp2
          go_ret
          exact ⟨ret_bool HT.out.symm, HB5.out⟩
        · go_wp2_with fail
          refine (CC.out _).mono ?_
          rintro e w5 ⟨rfl, b5⟩
          have hb5 := (HBEL.out.alloc HBEL.out.size _).trans (b5.mono (by have := HBEL.out.size; simp; omega))
          have HB5 := Lib.hid hb5
          clear hb5 b5
          go_wp2
          go_roundw
          case rel => exact ⟨k + 1, by omega, by go_num, HN.out, HB5.out⟩
          case measure => simp [intOf]; omega
      · obtain rfl : k = n := by omega
        have HT := Lib.hid (HF.out.trans HOK.out)
        clear hok hbel
        go_wp2
        go_ret
        exact ⟨ret_bool HT.out.symm, HBEL.out⟩
  · have HT : Hid (R = false) := Lib.hid (by rw [HV.out, decide_eq_false h8, Bool.and_false])
    have h8i : (20 : Int) < (n : Int) := by omega
    go_enter Try.func38, Try.ntmps38
    go_wp2
    go_ret
    exact ⟨ret_bool HT.out.symm, Below.refl _ _⟩
set_option maxHeartbeats 1000000 in
theorem sWCl_any (n : Nat) (cs : List Cu) (hl : cs.length = n) (A : Option Addr) (c : Nat) (hn : n ≤ maxLen) (w : World) (hr : Rd w w.heap.size A (custV cs)) :
    Calls Try.prog 72 #[.slice A n c] w fun e w' => e = .returned (.bool (okV clV cs)) ∧ Below w.heap.size w w' := by
  unfold maxLen at hn
  have HL := Lib.hid hl
  have HV : Hid (okV clV cs = (allV clV cs n && decide (n ≤ 20))) := Lib.hid (by unfold okV; rw [hl])
  have HBN : Hid (∀ k, k < n → clV (cuA cs k) = false → okV clV cs = false) := Lib.hid fun k hk h => by rw [HV.out, allV_bad hk h]; rfl
  generalize okV clV cs = R at *
  clear hl
  go_enter Try.func72, Try.ntmps72
  go_wp2_with (go_at_call 64; refine (inRange_any _ _ _ _).mono ?_; rintro e w' ⟨rfl, rfl⟩)
  go_loopw [3] (fun i wr => ∃ k : Nat, k ≤ n ∧ i = .int .i64 k ∧ allV clV cs k = true ∧ Below w.heap.size w wr) (fun i _ => n - (intOf i).toNat)
  case atStart => exact ⟨0, Nat.zero_le _, rfl, rfl, Below.refl _ _⟩
  case round =>
    obtain ⟨k, hk, rfl, hok, hbel⟩ := hrel
    have HBEL := Lib.hid hbel
    have HOK := Lib.hid hok
    by_cases hlt : k < n
    · obtain ⟨b1, off, x, d, v, rfl, hb1, hz, hc0, hc1, hc2⟩ := (hr.below hbel).cust_ (k := k) (by rw [HL.out]; exact hlt)
      have HN : Hid (allV clV cs (k + 1) = ((inB x 0 999 && inB d x 999) && inB v (-10000) 10000)) := Lib.hid (by rw [allV_succ, HOK.out, hz.out]; rfl)
      have HBD : Hid (((inB x 0 999 && inB d x 999) && inB v (-10000) 10000) = false → R = false) := Lib.hid fun h => HBN.out k hlt (by rw [hz.out]; exact h)
      have HBA := Lib.hid (hbel.alloc hbel.size (.cells #[.int .i64 x, .int .i64 d, .int .i64 v] 54))
      clear hok hbel
      cases hq1 : inB x 0 999
      · have HT := Lib.hid (HBD.out (by rw [hq1]; simp))
        go_wp2_with (go_at_call 64; refine (inRange_any _ _ _ _).mono ?_; rintro e w' ⟨rfl, rfl⟩)
        go_ret
        exact ⟨ret_bool HT.out.symm, HBA.out⟩
      · skip
        cases hq2 : inB d x 999
        · have HT := Lib.hid (HBD.out (by rw [hq1, hq2]; simp))
          go_wp2_with (go_at_call 64; refine (inRange_any _ _ _ _).mono ?_; rintro e w' ⟨rfl, rfl⟩)
          go_ret
          exact ⟨ret_bool HT.out.symm, HBA.out⟩
        · skip
          cases hq3 : inB v (-10000) 10000
          · have HT := Lib.hid (HBD.out (by rw [hq1, hq2, hq3]; simp))
            go_wp2_with (go_at_call 64; refine (inRange_any _ _ _ _).mono ?_; rintro e w' ⟨rfl, rfl⟩)
            go_ret
            exact ⟨ret_bool HT.out.symm, HBA.out⟩
          · skip
            have HT : Hid (allV clV cs (k + 1) = true) := Lib.hid (by rw [HN.out, hq1, hq2, hq3]; rfl)
            go_wp2_with (go_at_call 64; refine (inRange_any _ _ _ _).mono ?_; rintro e w' ⟨rfl, rfl⟩)
            go_roundw
            case rel => exact ⟨k + 1, by omega, by go_num, HT.out, HBA.out⟩
            case measure => first | (simp [intOf]; omega) | simp [intOf]
    · obtain rfl : k = n := by omega
      have HT : Hid (R = decide (k ≤ 20)) := Lib.hid (by rw [HV.out, HOK.out]; rfl)
      clear hok
      by_cases h8 : k ≤ 20
      · have h8i : (k : Int) ≤ 20 := by omega
        go_wp2_with (go_at_call 64; refine (inRange_any _ _ _ _).mono ?_; rintro e w' ⟨rfl, rfl⟩)
        go_ret
        exact ⟨ret_bool (by first | (rw [HT.out, decide_eq_true h8]; done) | (rw [HT.out]; exact decide_eq_decide.2 (by omega)) | (rw [HT.out]; simp; omega)), hbel⟩
      · have h8i : (20 : Int) < (k : Int) := by omega
        go_wp2_with (go_at_call 64; refine (inRange_any _ _ _ _).mono ?_; rintro e w' ⟨rfl, rfl⟩)
        go_ret
        exact ⟨ret_bool (by first | (rw [HT.out, decide_eq_false h8]; done) | (rw [HT.out]; exact decide_eq_decide.2 (by omega)) | (rw [HT.out]; simp; omega)), hbel⟩
theorem sVCl_any (n : Nat) (cs : List Cu) (hl : cs.length = n) (A : Option Addr) (c : Nat) (hn : n ≤ maxLen) (w : World) (hr : Rd w w.heap.size A (custV cs)) :
    Calls Try.prog 39 #[.slice A n c] w fun e w' => e = .returned (.bool (okV clV cs)) ∧ Below w.heap.size w w' := by
  have C := Lib.hid (sWCl_any n cs hl A c hn w hr)
  clear hr
  go_enter Try.func39, Try.ntmps39
  go_wp2_with fail
  refine (C.out).mono ?_
  rintro e w' ⟨rfl, b1⟩
  go_wp2
  go_ret
  exact ⟨rfl, b1⟩

end Go.Proofs.Ytiihenhddleooaa

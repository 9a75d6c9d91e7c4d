/- Contracts of the functions of chapter 1 over integers alone: what each returns; the world stays. -/
import Derived.Test.YtggdnpaiaijhgaaRows
import Derived.Test.YtggdnpaiaijhgaaMath
import Derived.WalkKit
import Derived.WalkSpells
import Derived.WalkLawsBesides
import Derived.Lib.Hide
import Derived.Deep.QuietTactic
import Derived.BigQuiet
set_option linter.unusedVariables false
set_option linter.unusedSimpArgs false
namespace Go.Proofs.Ytggdnpaiaijhgaa
open Go.RowKit

theorem ret_int {k : IntKind} {a b : Int} (h : a = b) : Ending.returned (.int k a) = .returned (.int k b) := by rw [h]
theorem ret_bool {a b : Bool} (h : a = b) : Ending.returned (.bool a) = .returned (.bool b) := by rw [h]

def inB (n a b : Int) : Bool := decide (a ≤ n ∧ n ≤ b)
theorem inB_t {n a b : Int} (h : inB n a b = true) : a ≤ n ∧ n ≤ b := of_decide_eq_true h
theorem inB_f {n a b : Int} (h : inB n a b = false) : ¬(a ≤ n ∧ n ≤ b) := of_decide_eq_false h
theorem inB_mk {n a b : Int} (h : a ≤ n ∧ n ≤ b) : inB n a b = true := decide_eq_true h
theorem inB_nk {n a b : Int} (h : ¬(a ≤ n ∧ n ≤ b)) : inB n a b = false := decide_eq_false h

set_option maxRecDepth 100000 in
set_option maxHeartbeats 400000 in
theorem inRange_any (n a b : Int) (w : World) :
    Calls Try.prog 61 #[.int .i64 n, .int .i64 a, .int .i64 b] w fun e w' => e = .returned (.bool (inB n a b)) ∧ w = w' := by
  go_enter Try.func61, Try.ntmps61
  go_wp2
  all_goals go_ret
  all_goals (refine ⟨ret_bool ?_, rfl⟩; unfold inB)
  all_goals simp [*]
  all_goals omega

set_option maxRecDepth 100000 in
set_option maxHeartbeats 400000 in
theorem validMass_any (n : Int) (w : World) :
    Calls Try.prog 146 #[.int .i64 n] w fun e w' => e = .returned (.bool (inB n 0 998001)) ∧ w = w' := by
  go_enter Try.func146, Try.ntmps146
  go_wp2
  all_goals go_ret
  all_goals (refine ⟨ret_bool ?_, rfl⟩; unfold inB)
  all_goals simp [*]
  all_goals omega

set_option maxRecDepth 100000 in
set_option maxHeartbeats 400000 in
theorem validTemp_any (n : Int) (w : World) :
    Calls Try.prog 123 #[.int .i64 n] w fun e w' => e = .returned (.bool (inB n (-400) 400)) ∧ w = w' := by
  go_enter Try.func123, Try.ntmps123
  go_wp2
  all_goals go_ret
  all_goals (refine ⟨ret_bool ?_, rfl⟩; unfold inB)
  all_goals simp [*]
  all_goals omega

set_option maxRecDepth 100000 in
set_option maxHeartbeats 400000 in
theorem validThick_any (n : Int) (w : World) :
    Calls Try.prog 145 #[.int .i64 n] w fun e w' => e = .returned (.bool (inB n 0 999)) ∧ w = w' := by
  go_enter Try.func145, Try.ntmps145
  go_wp2
  all_goals go_ret
  all_goals (refine ⟨ret_bool ?_, rfl⟩; unfold inB)
  all_goals simp [*]
  all_goals omega

set_option maxRecDepth 100000 in
set_option maxHeartbeats 400000 in
theorem rootOf_any (n : Int) (h0 : 0 ≤ n) (h1 : n ≤ 998001) (w : World) :
    Calls Try.prog 117 #[.int .i64 n] w fun e w' => e = .returned (.int .i64 (rt n)) ∧ w = w' := by
  go_enter Try.func117, Try.ntmps117
  go_wp2
  go_loop [3, 4] (fun lo hi => ∃ l h : Int, lo = .int .i64 l ∧ hi = .int .i64 h ∧ 0 ≤ l ∧ l < h ∧ h ≤ 1000 ∧ l * l ≤ n ∧ n < h * h) (fun lo hi => (intOf hi - intOf lo).toNat)
  case atStart => exact ⟨0, 1000, rfl, rfl, by omega, by omega, by omega, by omega, by omega⟩
  case round =>
    obtain ⟨l, h, rfl, rfl, hl, hlh, hh, hs, ht⟩ := hrel
    have m1 : 0 ≤ (l + h) / 2 := by omega
    have m2 : (l + h) / 2 ≤ 1000 := by omega
    have m3 := sq_mono (a := (l + h) / 2) (b := 1000) m1 m2
    have m4 : 0 ≤ (l + h) / 2 * ((l + h) / 2) := Int.mul_nonneg m1 m1
    go_wp2
    · exact ⟨⟨_, _, rfl, rfl, by omega, by omega, by omega, by assumption, by assumption⟩, by simp [intOf]; omega⟩
    · exact ⟨⟨_, _, rfl, rfl, by omega, by omega, by omega, by assumption, by assumption⟩, by simp [intOf]; omega⟩
    · go_ret
      obtain rfl : h = l + 1 := by omega
      exact ⟨ret_int (rt_uniq n l hl hs ht h1).symm, rfl⟩

set_option maxRecDepth 100000 in
set_option maxHeartbeats 400000 in
theorem iThickOf_any (n : Int) (h0 : 0 ≤ n) (h1 : n ≤ 998001) (w : World) :
    Calls Try.prog 139 #[.int .i64 n] w fun e w' => e = .returned (.int .i64 (rt n)) ∧ w = w' := by
  have hv : inB n 0 998001 = true := inB_mk ⟨h0, h1⟩
  go_enter Try.func139, Try.ntmps139
  go_wp2_with (go_at_call 146; refine (validMass_any _ _).mono ?_; rintro e w' ⟨rfl, rfl⟩)
  go_loop [3, 4] (fun lo hi => ∃ l h : Int, lo = .int .i64 l ∧ hi = .int .i64 h ∧ 0 ≤ l ∧ l ≤ h ∧ h ≤ 999 ∧ l * l ≤ n ∧ n < (h + 1) * (h + 1)) (fun lo hi => (intOf hi - intOf lo).toNat)
  case atStart => exact ⟨0, 999, rfl, rfl, by omega, by omega, by omega, by omega, by omega⟩
  case round =>
    obtain ⟨l, h, rfl, rfl, hl, hlh, hh, hs, ht⟩ := hrel
    have m1 : 0 ≤ (l + h + 1) / 2 := by omega
    have m2 : (l + h + 1) / 2 ≤ 1000 := by omega
    have m3 := sq_mono (a := (l + h + 1) / 2) (b := 1000) m1 m2
    have m4 : 0 ≤ (l + h + 1) / 2 * ((l + h + 1) / 2) := Int.mul_nonneg m1 m1
    go_wp2
    · exact ⟨⟨_, _, rfl, rfl, by omega, by omega, by omega, by assumption, by assumption⟩, by simp [intOf]; omega⟩
    · exact ⟨⟨_, _, rfl, rfl, by omega, by omega, by omega, by assumption, by rw [show (l + h + 1) / 2 - 1 + 1 = (l + h + 1) / 2 from by omega]; assumption⟩, by simp [intOf]; omega⟩
    · go_ret
      obtain rfl : h = l := by omega
      exact ⟨ret_int (rt_uniq n h hl hs ht h1).symm, rfl⟩

set_option maxRecDepth 100000 in
set_option maxHeartbeats 400000 in
theorem iThickOf_no (n : Int) (h : ¬(0 ≤ n ∧ n ≤ 998001)) (w : World) :
    Calls Try.prog 139 #[.int .i64 n] w fun e w' => e = .returned (.int .i64 (-1)) ∧ w = w' := by
  have hv0 : inB n 0 998001 = false := inB_nk h
  go_enter Try.func139, Try.ntmps139
  go_wp2_with (go_at_call 146; refine (validMass_any _ _).mono ?_; rintro e w' ⟨rfl, rfl⟩)
  go_ret
  exact ⟨rfl, rfl⟩

theorem hourF_cold {m t : Int} (h : t < 0) : hourF m t = if m - 5 * t ≤ 998001 then m - 5 * t else 998001 := if_pos h
theorem hourF_stay {m t : Int} (h : ¬ t < 0) (h1 : t / 20 = 0) : hourF m t = m := by unfold hourF; rw [if_neg h, if_pos h1]
theorem hourF_gone {m t : Int} (h : ¬ t < 0) (h1 : ¬ t / 20 = 0) (h2 : rt m < t / 20) : hourF m t = 0 := by unfold hourF; rw [if_neg h, if_neg h1, if_pos h2]
theorem hourF_thaw {m t : Int} (h : ¬ t < 0) (h1 : ¬ t / 20 = 0) (h2 : ¬ rt m < t / 20) : hourF m t = (rt m - t / 20) * (rt m - t / 20) := by unfold hourF; rw [if_neg h, if_neg h1, if_neg h2]

theorem w64 {x : Int} (h : -9223372036854775808 ≤ x) (h' : x ≤ 9223372036854775807) : wrap64 x = x := IntWalk.wrap64_in _ ⟨h, h'⟩
theorem w64_0 : wrap64 0 = 0 := w64 (by omega) (by omega)

set_option maxRecDepth 100000 in
set_option maxHeartbeats 400000 in
theorem hour_cold (m t : Int) (h0 : 0 ≤ m) (h1 : m ≤ 998001) (h2 : -400 ≤ t) (h3 : t ≤ 400) (h : t < 0) (w : World) :
    Calls Try.prog 137 #[.int .i64 m, .int .i64 t] w fun e w' => e = .returned (.int .i64 (hourF m t)) ∧ w = w' := by
  rw [hourF_cold h]
  go_enter Try.func137, Try.ntmps137
  go_wp2
  all_goals go_ret
  all_goals refine ⟨ret_int ?_, rfl⟩
  all_goals (first | rfl | omega | (split <;> omega) | (simp; omega))

set_option maxRecDepth 100000 in
set_option maxHeartbeats 400000 in
theorem hour_stay (m t : Int) (h0 : 0 ≤ m) (h1 : m ≤ 998001) (h2 : -400 ≤ t) (h3 : t ≤ 400) (h : ¬ t < 0) (h4 : t / 20 = 0) (w : World) :
    Calls Try.prog 137 #[.int .i64 m, .int .i64 t] w fun e w' => e = .returned (.int .i64 (hourF m t)) ∧ w = w' := by
  rw [hourF_stay h h4]
  have c0 : 0 ≤ t := by omega
  have H := Lib.hid h4
  clear h4
  have c1 : t < 20 := by have := H.out; omega
  go_enter Try.func137, Try.ntmps137
  go_wp2
  go_ret
  exact ⟨rfl, rfl⟩

set_option maxRecDepth 100000 in
set_option maxHeartbeats 400000 in
theorem hour_gone (m t : Int) (h0 : 0 ≤ m) (h1 : m ≤ 998001) (h2 : -400 ≤ t) (h3 : t ≤ 400) (h : ¬ t < 0) (h4 : 1 ≤ t / 20) (h5 : rt m < t / 20) (w : World) :
    Calls Try.prog 137 #[.int .i64 m, .int .i64 t] w fun e w' => e = .returned (.int .i64 (hourF m t)) ∧ w = w' := by
  rw [hourF_gone h (by omega) h5]
  have c0 : 0 ≤ t := by omega
  have r := rt_range m
  go_enter Try.func137, Try.ntmps137
  go_wp2_with (go_at_call 117; refine (rootOf_any _ (by omega) (by omega) _).mono ?_; rintro e w' ⟨rfl, rfl⟩)
  all_goals go_ret
  all_goals exact ⟨rfl, rfl⟩

set_option maxRecDepth 100000 in
set_option maxHeartbeats 400000 in
theorem hour_thaw (m t : Int) (h0 : 0 ≤ m) (h1 : m ≤ 998001) (h2 : -400 ≤ t) (h3 : t ≤ 400) (h : ¬ t < 0) (h4 : 1 ≤ t / 20) (h5 : ¬ rt m < t / 20) (w : World) :
    Calls Try.prog 137 #[.int .i64 m, .int .i64 t] w fun e w' => e = .returned (.int .i64 (hourF m t)) ∧ w = w' := by
  rw [hourF_thaw h (by omega) h5]
  have c0 : 0 ≤ t := by omega
  have r := rt_range m
  have c1 := sq_nonneg (rt m - t / 20)
  have c2 := sq_mono (a := rt m - t / 20) (b := 999) (by omega) (by omega)
  go_enter Try.func137, Try.ntmps137
  go_wp2_with (go_at_call 117; refine (rootOf_any _ (by omega) (by omega) _).mono ?_; rintro e w' ⟨rfl, rfl⟩)
  all_goals go_ret
  · exact ⟨ret_int (w64 (by omega) (by omega)), rfl⟩
  · refine ⟨ret_int ?_, rfl⟩
    rw [show rt m = t / 20 by omega]
    simp [w64_0]

theorem hour_any (m t : Int) (h0 : 0 ≤ m) (h1 : m ≤ 998001) (h2 : -400 ≤ t) (h3 : t ≤ 400) (w : World) :
    Calls Try.prog 137 #[.int .i64 m, .int .i64 t] w fun e w' => e = .returned (.int .i64 (hourF m t)) ∧ w = w' := by
  by_cases h : t < 0
  · exact hour_cold m t h0 h1 h2 h3 h w
  · by_cases h4 : t / 20 = 0
    · exact hour_stay m t h0 h1 h2 h3 h h4 w
    · by_cases h5 : rt m < t / 20
      · exact hour_gone m t h0 h1 h2 h3 h (by omega) h5 w
      · exact hour_thaw m t h0 h1 h2 h3 h (by omega) h5 w

set_option maxRecDepth 100000 in
set_option maxHeartbeats 400000 in
theorem frozen_any (m f : Int) (h0 : 0 ≤ m) (h1 : m ≤ 998001) (h2 : 0 < f) (h3 : f ≤ 400) (w : World) :
    Calls Try.prog 149 #[.int .i64 m, .int .i64 f] w fun e w' => e = .returned (.int .i64 (hourF m (-f))) ∧ w = w' := by
  rw [hourF_cold (by omega)]
  go_enter Try.func149, Try.ntmps149
  go_wp2
  all_goals go_ret
  all_goals refine ⟨ret_int ?_, rfl⟩
  all_goals (first | rfl | omega | (split <;> omega) | (simp; omega))

set_option maxRecDepth 100000 in
set_option maxHeartbeats 400000 in
theorem thawed_any (m l : Int) (h0 : 0 ≤ m) (h1 : m ≤ 998001) (h2 : 0 ≤ l) (h3 : l ≤ 20) (w : World) :
    Calls Try.prog 150 #[.int .i64 m, .int .i64 l] w fun e w' => e = .returned (.int .i64 (hourF m (l * 20))) ∧ w = w' := by
  have e : l * 20 / 20 = l := by omega
  have r := rt_range m
  by_cases hl : l = 0
  · rw [hourF_stay (by omega) (by omega)]
    clear e
    subst hl
    go_enter Try.func150, Try.ntmps150
    go_wp2
    go_ret
    exact ⟨rfl, rfl⟩
  · by_cases hg : rt m < l
    · rw [hourF_gone (by omega) (by omega) (by omega)]
      clear e
      have hz : (l == 0) = false := by simpa using hl
      clear hl
      go_enter Try.func150, Try.ntmps150
      go_wp2_with (go_at_call 139; refine (iThickOf_any _ (by omega) (by omega) _).mono ?_; rintro e w' ⟨rfl, rfl⟩)
      go_ret
      exact ⟨rfl, rfl⟩
    · rw [hourF_thaw (by omega) (by omega) (by omega), e]
      clear e
      have hz : (l == 0) = false := by simpa using hl
      clear hl
      have c1 := sq_nonneg (rt m - l)
      have c2 := sq_mono (a := rt m - l) (b := 999) (by omega) (by omega)
      go_enter Try.func150, Try.ntmps150
      go_wp2_with (go_at_call 139; refine (iThickOf_any _ (by omega) (by omega) _).mono ?_; rintro e w' ⟨rfl, rfl⟩)
      go_ret
      first | exact ⟨rfl, rfl⟩ | exact ⟨ret_int (w64 (by omega) (by omega)), rfl⟩

/-- StepIce, whatever the arguments. -/
def stepF (m t : Int) : Int := if inB m 0 998001 && inB t (-400) 400 then hourF m t else -1
theorem stepF_ok {m t : Int} (h : 0 ≤ m ∧ m ≤ 998001) (g : -400 ≤ t ∧ t ≤ 400) : stepF m t = hourF m t := by unfold stepF; rw [inB_mk h, inB_mk g]; rfl
theorem stepF_m {m t : Int} (h : ¬(0 ≤ m ∧ m ≤ 998001)) : stepF m t = -1 := by unfold stepF; rw [inB_nk h]; rfl
theorem stepF_t {m t : Int} (h : 0 ≤ m ∧ m ≤ 998001) (g : ¬(-400 ≤ t ∧ t ≤ 400)) : stepF m t = -1 := by unfold stepF; rw [inB_mk h, inB_nk g]; rfl
theorem hourF_same {m t : Int} (h : 0 ≤ t) : hourF m (t / 20 * 20) = hourF m t := by
  unfold hourF
  have e1 : ¬ t / 20 * 20 < 0 := by omega
  have e2 : ¬ t < 0 := by omega
  rw [if_neg e1, if_neg e2, show t / 20 * 20 / 20 = t / 20 by omega]

set_option maxRecDepth 100000 in
set_option maxHeartbeats 400000 in
theorem iStep_any (m t : Int) (w : World) :
    Calls Try.prog 147 #[.int .i64 m, .int .i64 t] w fun e w' => e = .returned (.int .i64 (stepF m t)) ∧ w = w' := by
  by_cases hm : 0 ≤ m ∧ m ≤ 998001
  · have hv := inB_mk hm
    by_cases ht : -400 ≤ t ∧ t ≤ 400
    · rw [stepF_ok hm ht]
      have hu := inB_mk ht
      obtain ⟨m0, m1⟩ := hm
      obtain ⟨t0, t1⟩ := ht
      by_cases h : t < 0
      · have e : - -t = t := by omega
        rw [← e]
        have H := Lib.hid e
        clear e
        go_enter Try.func147, Try.ntmps147
        go_wp2_with (first | (go_at_call 146; refine (validMass_any _ _).mono ?_; rintro e w' ⟨rfl, rfl⟩) | (go_at_call 123; refine (validTemp_any _ _).mono ?_; rintro e w' ⟨rfl, rfl⟩) | (go_at_call 149; refine (frozen_any _ _ (by omega) (by omega) (by omega) (by omega) _).mono ?_; rintro e w' ⟨rfl, rfl⟩))
        go_ret
        exact ⟨by simp, rfl⟩
      · rw [← hourF_same (by omega)]
        have h' : 0 ≤ t := by omega
        go_enter Try.func147, Try.ntmps147
        go_wp2_with (first | (go_at_call 146; refine (validMass_any _ _).mono ?_; rintro e w' ⟨rfl, rfl⟩) | (go_at_call 123; refine (validTemp_any _ _).mono ?_; rintro e w' ⟨rfl, rfl⟩) | (go_at_call 150; refine (thawed_any _ _ (by omega) (by omega) (by omega) (by omega) _).mono ?_; rintro e w' ⟨rfl, rfl⟩))
        go_ret
        exact ⟨rfl, rfl⟩
    · rw [stepF_t hm ht]
      have hu := inB_nk ht
      clear ht
      go_enter Try.func147, Try.ntmps147
      go_wp2_with (first | (go_at_call 146; refine (validMass_any _ _).mono ?_; rintro e w' ⟨rfl, rfl⟩) | (go_at_call 123; refine (validTemp_any _ _).mono ?_; rintro e w' ⟨rfl, rfl⟩))
      go_ret
      exact ⟨rfl, rfl⟩
  · rw [stepF_m hm]
    have hv := inB_nk hm
    clear hm
    go_enter Try.func147, Try.ntmps147
    go_wp2_with (first | (go_at_call 146; refine (validMass_any _ _).mono ?_; rintro e w' ⟨rfl, rfl⟩) | (go_at_call 123; refine (validTemp_any _ _).mono ?_; rintro e w' ⟨rfl, rfl⟩))
    go_ret
    exact ⟨rfl, rfl⟩

end Go.Proofs.Ytggdnpaiaijhgaa

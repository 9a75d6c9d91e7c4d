/- Contracts of the functions of chapter 1 over integers alone: what each returns; the world stays. -/
import Derived.Test.YtiihenhddleooacRows
import Derived.Test.YtiihenhddleooacMath
import Derived.WalkKit
import Derived.WalkSpells
import Derived.WalkLawsBesides
import Derived.Lib.Hide
import Derived.Deep.QuietTactic
import Derived.BigQuiet
set_option linter.unusedVariables false
set_option linter.unusedSimpArgs false
namespace Go.Proofs.Ytiihenhddleooac
open Go.RowKit

theorem ret_int {k : IntKind} {a b : Int} (h : a = b) : Ending.returned (.int k a) = .returned (.int k b) := by rw [h]
theorem ret_bool {a b : Bool} (h : a = b) : Ending.returned (.bool a) = .returned (.bool b) := by rw [h]

def inB (n a b : Int) : Bool := decide (a ≤ n ∧ n ≤ b)
theorem inB_t {n a b : Int} (h : inB n a b = true) : a ≤ n ∧ n ≤ b := of_decide_eq_true h
theorem inB_f {n a b : Int} (h : inB n a b = false) : ¬(a ≤ n ∧ n ≤ b) := of_decide_eq_false h
theorem inB_mk {n a b : Int} (h : a ≤ n ∧ n ≤ b) : inB n a b = true := decide_eq_true h
theorem inB_nk {n a b : Int} (h : ¬(a ≤ n ∧ n ≤ b)) : inB n a b = false := decide_eq_false h

set_option maxRecDepth 100000 in
set_option maxHeartbeats 400000 in
theorem inRange_any (n a b : Int) (w : World) :
    Calls Try.prog 55 #[.int .i64 n, .int .i64 a, .int .i64 b] w fun e w' => e = .returned (.bool (inB n a b)) ∧ w = w' := by
  go_enter Try.func55, Try.ntmps55
  go_wp2
  all_goals go_ret
  all_goals (refine ⟨ret_bool ?_, rfl⟩; unfold inB)
  all_goals simp [*]
  all_goals omega

set_option maxRecDepth 100000 in
set_option maxHeartbeats 400000 in
theorem validThick_any (n : Int) (w : World) :
    Calls Try.prog 62 #[.int .i64 n] w fun e w' => e = .returned (.bool (inB n 0 999)) ∧ w = w' := by
  go_enter Try.func62, Try.ntmps62
  go_wp2
  all_goals go_ret
  all_goals (refine ⟨ret_bool ?_, rfl⟩; unfold inB)
  all_goals simp [*]
  all_goals omega

theorem hourF_cold {m t : Int} (h : t < 0) : hourF m t = if m - 5 * t ≤ 998001 then m - 5 * t else 998001 := if_pos h
theorem hourF_stay {m t : Int} (h : ¬ t < 0) (h1 : t / 20 = 0) : hourF m t = m := by unfold hourF; rw [if_neg h, if_pos h1]
theorem hourF_gone {m t : Int} (h : ¬ t < 0) (h1 : ¬ t / 20 = 0) (h2 : rt m < t / 20) : hourF m t = 0 := by unfold hourF; rw [if_neg h, if_neg h1, if_pos h2]
theorem hourF_thaw {m t : Int} (h : ¬ t < 0) (h1 : ¬ t / 20 = 0) (h2 : ¬ rt m < t / 20) : hourF m t = (rt m - t / 20) * (rt m - t / 20) := by unfold hourF; rw [if_neg h, if_neg h1, if_neg h2]

theorem w64 {x : Int} (h : -9223372036854775808 ≤ x) (h' : x ≤ 9223372036854775807) : wrap64 x = x := IntWalk.wrap64_in _ ⟨h, h'⟩
theorem w64_0 : wrap64 0 = 0 := w64 (by omega) (by omega)

/-- StepIce, whatever the arguments. -/
def stepF (m t : Int) : Int := if inB m 0 998001 && inB t (-400) 400 then hourF m t else -1
theorem stepF_ok {m t : Int} (h : 0 ≤ m ∧ m ≤ 998001) (g : -400 ≤ t ∧ t ≤ 400) : stepF m t = hourF m t := by unfold stepF; rw [inB_mk h, inB_mk g]; rfl
theorem stepF_m {m t : Int} (h : ¬(0 ≤ m ∧ m ≤ 998001)) : stepF m t = -1 := by unfold stepF; rw [inB_nk h]; rfl
theorem stepF_t {m t : Int} (h : 0 ≤ m ∧ m ≤ 998001) (g : ¬(-400 ≤ t ∧ t ≤ 400)) : stepF m t = -1 := by unfold stepF; rw [inB_mk h, inB_nk g]; rfl
theorem hourF_same {m t : Int} (h : 0 ≤ t) : hourF m (t / 20 * 20) = hourF m t := by
  unfold hourF
  have e1 : ¬ t / 20 * 20 < 0 := by omega
  have e2 : ¬ t < 0 := by omega
  rw [if_neg e1, if_neg e2, show t / 20 * 20 / 20 = t / 20 by omega]

end Go.Proofs.Ytiihenhddleooac

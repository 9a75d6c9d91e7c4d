/- Contracts of ThickOf, whatever the argument. -/
import Derived.Test.YthccmpbklhlohaaPure
namespace Go.Proofs.Ythccmpbklhlohaa
open Go.RowKit
set_option linter.unusedVariables false
set_option linter.unusedSimpArgs false

def thickT (n : Int) : Int := if inB n 0 998001 then rt n else -1
theorem thickT_ok {n : Int} (h : 0 ≤ n ∧ n ≤ 998001) : thickT n = rt n := by unfold thickT; rw [inB_mk h]; rfl
theorem thickT_no {n : Int} (h : ¬(0 ≤ n ∧ n ≤ 998001)) : thickT n = -1 := by unfold thickT; rw [inB_nk h]; rfl
theorem sThick_any (n : Int) (w : World) :
    Calls Try.prog 17 #[.int .i64 n] w fun e w' => e = .returned (.int .i64 (thickT n)) ∧ w = w' := by
  by_cases h : 0 ≤ n ∧ n ≤ 998001
  · rw [thickT_ok h]; exact sThickOf_any n h.1 h.2 w
  · rw [thickT_no h]; exact sThickOf_no n h w
theorem iThick_any (n : Int) (w : World) :
    Calls Try.prog 16 #[.int .i64 n] w fun e w' => e = .returned (.int .i64 (thickT n)) ∧ w = w' := by
  by_cases h : 0 ≤ n ∧ n ≤ 998001
  · rw [thickT_ok h]; exact iThickOf_any n h.1 h.2 w
  · rw [thickT_no h]; exact iThickOf_no n h w

end Go.Proofs.Ythccmpbklhlohaa

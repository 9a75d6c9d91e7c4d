/- Contracts of chapter 3: the cakes of a grid. -/
import Derived.Deep.RegionWith
import Derived.Test.YtiihenhddleooacCGrid
import Derived.Test.YtiihenhddleooacCWords
namespace Go.Proofs.Ytiihenhddleooac
open Go.RowKit
set_option linter.unusedVariables false
set_option linter.unusedSimpArgs false
theorem vSize_any (a b : Int) (w : World) :
    Calls Try.prog 34 #[.int .i64 a, .int .i64 b] w fun e w' => e = .returned (.bool (sidesB a b)) ∧ w = w' := by
  have H : Hid (sidesB a b = (inB a 1 4 && inB b 1 4)) := Lib.hid rfl
  have cI := fun n w => inRange_any n 1 4 w
  cases h1 : inB a 1 4
  · have H1 := Lib.hid h1
    go_enter Try.func34, Try.ntmps34
    go_wp2_with fail
    refine (inR_is H1.out _).mono ?_
    rintro e w' ⟨rfl, rfl⟩
    go_wp2
    go_ret
    exact ⟨ret_bool (by rw [H.out, H1.out]; rfl), rfl⟩
  · have H1 := Lib.hid h1
    go_enter Try.func34, Try.ntmps34
    go_wp2_with fail
    refine (inR_is H1.out _).mono ?_
    rintro e w' ⟨rfl, rfl⟩
    go_wp2_with fail
    refine (inRange_any _ _ _ _).mono ?_
    rintro e w' ⟨rfl, rfl⟩
    go_wp2
    go_ret
    exact ⟨ret_bool (by rw [H.out, H1.out]; rfl), rfl⟩
theorem vSize_is {q : Bool} {a b : Int} (h : sidesB a b = q) (w : World) :
    Calls Try.prog 34 #[.int .i64 a, .int .i64 b] w fun e w' => e = .returned (.bool q) ∧ w = w' := by
  have := vSize_any a b w
  rw [h] at this
  exact this
end Go.Proofs.Ytiihenhddleooac

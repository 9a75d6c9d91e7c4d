/- Chapter 8: what can be written, of the program. -/
import Derived.Test.YtggdnpaiaijhgaaBEv
namespace Go.Proofs.Ytggdnpaiaijhgaa
open Go.RowKit
set_option linter.unusedVariables false
set_option linter.unusedSimpArgs false
theorem writable_any (z : Int) (w : World) : Calls Try.prog 111 #[.int .i64 z] w fun e w' => e = .returned (.bool (inB z (-999999) 999999)) ∧ w = w' := by
  cases h : inB z (-999999) 999999
  · have hh := inB_f h
    by_cases h1 : -999999 ≤ z
    · have h2 : ¬ z ≤ 999999 := fun g => hh ⟨h1, g⟩
      clear hh
      go_enter Try.func111, Try.ntmps111
      go_wp2
      go_ret
      exact ⟨rfl, rfl⟩
    · clear hh
      go_enter Try.func111, Try.ntmps111
      go_wp2
      go_ret
      exact ⟨rfl, rfl⟩
  · have hh := inB_t h
    go_enter Try.func111, Try.ntmps111
    go_wp2
    go_ret
    exact ⟨rfl, rfl⟩

end Go.Proofs.Ytggdnpaiaijhgaa

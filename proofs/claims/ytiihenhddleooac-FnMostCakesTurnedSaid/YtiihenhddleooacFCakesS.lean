/- Contracts of chapter 3's model: the cakes of a grid; both functions for any arguments. -/
import Derived.Deep.RegionWith
import Derived.Test.YtiihenhddleooacFCakes
namespace Go.Proofs.Ytiihenhddleooac
open Go.RowKit
set_option linter.unusedVariables false
set_option linter.unusedSimpArgs false
theorem toNat_parts {w h dx dy : Int} (hs : sidesB w h = true) (h1 : 0 ≤ dx) (h2 : 0 ≤ dy) : ∃ cw ch x y : Nat, w = cw ∧ h = ch ∧ dx = x ∧ dy = y := by
  have := sidesB_t hs
  exact ⟨w.toNat, h.toNat, dx.toNat, dy.toNat, by omega, by omega, by omega, by omega⟩
end Go.Proofs.Ytiihenhddleooac

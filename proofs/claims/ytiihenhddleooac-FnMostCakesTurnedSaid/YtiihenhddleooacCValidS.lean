/- Contracts of chapter 3: whether cakes are valid, the model. -/
import Derived.Test.YtiihenhddleooacCValid
import Derived.Test.YtiihenhddleooacFCakes
namespace Go.Proofs.Ytiihenhddleooac
open Go.RowKit
set_option linter.unusedVariables false
set_option linter.unusedSimpArgs false
theorem over_parts {a b x y u v : Int} : overB a b (x, y) (u, v) = decide (x < u + a ∧ u < x + a ∧ y < v + b ∧ v < y + b) := rfl
end Go.Proofs.Ytiihenhddleooac

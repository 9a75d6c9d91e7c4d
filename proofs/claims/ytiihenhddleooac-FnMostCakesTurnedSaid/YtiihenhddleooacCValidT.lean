/- Contracts of chapter 3: whether cakes are valid, the model, for any sides. -/
import Derived.Test.YtiihenhddleooacCValidS
namespace Go.Proofs.Ytiihenhddleooac
open Go.RowKit
set_option linter.unusedVariables false
set_option linter.unusedSimpArgs false
end Go.Proofs.Ytiihenhddleooac

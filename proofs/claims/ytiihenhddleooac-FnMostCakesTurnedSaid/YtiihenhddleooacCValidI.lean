/- Contracts of chapter 3: whether cakes are valid, the program. -/
import Derived.Lib.QuietBelow
import Derived.Test.YtiihenhddleooacCValid
namespace Go.Proofs.Ytiihenhddleooac
open Go.RowKit
set_option linter.unusedVariables false
set_option linter.unusedSimpArgs false
end Go.Proofs.Ytiihenhddleooac

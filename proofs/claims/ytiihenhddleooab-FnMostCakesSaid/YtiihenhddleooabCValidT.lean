/- Contracts of chapter 3: whether cakes are valid, the model, for any sides. -/
import Derived.Test.YtiihenhddleooabCValidS
namespace Go.Proofs.Ytiihenhddleooab
open Go.RowKit
set_option linter.unusedVariables false
set_option linter.unusedSimpArgs false
end Go.Proofs.Ytiihenhddleooab

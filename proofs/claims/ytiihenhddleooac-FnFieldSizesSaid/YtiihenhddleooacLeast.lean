/- Contract of leastOpen: the open cell with the least risk. -/
import Derived.Test.YtiihenhddleooacNarrowsS
namespace Go.Proofs.Ytiihenhddleooac
open Go.RowKit
set_option linter.unusedVariables false
set_option linter.unusedSimpArgs false
end Go.Proofs.Ytiihenhddleooac

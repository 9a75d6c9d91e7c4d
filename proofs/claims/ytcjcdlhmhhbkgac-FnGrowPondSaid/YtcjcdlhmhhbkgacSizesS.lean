/- Contract of the model's FieldSizes. -/
import Derived.StillTailTactics
import Derived.BigRegion
import Derived.Test.YtcjcdlhmhhbkgacSizes
namespace Go.Proofs.Ytcjcdlhmhhbkgac
open Go.RowKit
set_option linter.unusedVariables false
set_option linter.unusedSimpArgs false
end Go.Proofs.Ytcjcdlhmhhbkgac

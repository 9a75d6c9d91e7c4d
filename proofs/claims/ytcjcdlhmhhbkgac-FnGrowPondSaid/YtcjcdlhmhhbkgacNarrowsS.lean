/- Contract of the model's NarrowsOf; ponds that are not valid have no sizes and no narrows. -/
import Derived.Test.YtcjcdlhmhhbkgacNarrows
namespace Go.Proofs.Ytcjcdlhmhhbkgac
open Go.RowKit
set_option linter.unusedVariables false
set_option linter.unusedSimpArgs false
def NsRel (w wr : World) (n : Nat) (nb : Nat → List Nat) (ok : Nat → Bool) (fs : List Int) (v i : Value) : Prop :=
  ∃ (k m : Nat) (ys : List Nat), k ≤ n ∧ i = .int .i64 k ∧ m = ys.length ∧ IsNar n nb ok fs k ys ∧ wr.ownsRow w.heap.size 3 1 v m (ints (nats ys)) ∧ Below w.heap.size w wr
end Go.Proofs.Ytcjcdlhmhhbkgac

/- Contracts of the model's WayTo; arguments without ways. -/
import Derived.Test.YtiihenhddleooacWayTo
namespace Go.Proofs.Ytiihenhddleooac
open Go.RowKit
set_option linter.unusedVariables false
set_option linter.unusedSimpArgs false
def WsR (w wr : World) (n g c lo : Nat) (nb : Nat → List Nat) (rk : Nat → Int) (rs : List Int) (a : Nat) (full : List Nat) (v s : Value) : Prop :=
  ∃ (m ci : Nat) (l tl : List Nat), s = .int .i64 (ci : Int) ∧ m = tl.length + 1 ∧ wr.ownsRow lo 3 1 v m (ints (nats (ci :: tl))) ∧ wr.ownsRow w.heap.size 3 1 (.slice (some ⟨g, 0, none⟩) n c) n (ints rs) ∧ Below w.heap.size w wr ∧ g < lo ∧ lo ≤ wr.heap.size ∧
    ci < n ∧ Back rk rs nb a ci l ∧ l ++ tl = full ∧ 0 ≤ at_ rs ci ∧ (m : Int) + at_ rs ci ≤ 1000001
end Go.Proofs.Ytiihenhddleooac

/- Contracts of NarrowsOf, of the program and of the model. -/
import Derived.Test.YtcjcdlhmhhbkgacSizesS
namespace Go.Proofs.Ytcjcdlhmhhbkgac
open Go.RowKit
set_option linter.unusedVariables false
set_option linter.unusedSimpArgs false
theorem isd_less {bs : List Bool} {k : Nat} (h : k < bs.length) : isd (bs.set k false) = okW (isd bs) k := by
  funext j
  unfold isd okW
  rw [List.getD_eq_getElem?_getD, List.getElem?_set]
  by_cases e : k = j
  · subst e; simp [h]
  · have : decide (j ≠ k) = true := decide_eq_true (fun x => e x.symm)
    rw [if_neg e, this, Bool.and_true, ← List.getD_eq_getElem?_getD]
def OutNar (n : Nat) (nb : Nat → List Nat) (ok : Nat → Bool) (w : World) (e : Ending) (w' : World) : Prop :=
  ∃ fs ys, Lab n nb ok fs ∧ IsNar n nb ok fs n ys ∧ OutI (nats ys) w e w'
def NaRel (w wr : World) (n g c lo : Nat) (sf : List Bool) (nb : Nat → List Nat) (ok : Nat → Bool) (fs : List Int) (v i : Value) : Prop :=
  ∃ (k m : Nat) (ys : List Nat), k ≤ n ∧ i = .int .i64 k ∧ m = ys.length ∧ IsNar n nb ok fs k ys ∧ wr.ownsRow lo 3 1 v m (ints (nats ys)) ∧ wr.ownsRow w.heap.size 4 1 (.slice (some ⟨g, 0, none⟩) n c) n (bools sf) ∧ Below w.heap.size w wr ∧ lo ≤ wr.heap.size
end Go.Proofs.Ytcjcdlhmhhbkgac

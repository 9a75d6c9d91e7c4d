/- The law's turned field: its rows as they grow. -/
import Derived.Test.YtiihenhddleooacGTurn
import Derived.Test.YtiihenhddleooacFPonds
namespace Go.Proofs.Ytiihenhddleooac
open Go.RowKit
set_option linter.unusedVariables false
set_option linter.unusedSimpArgs false
def TFRow (ff : List (List Bool)) (w : World) (lo x : Nat) (v i vo : Value) (m : Nat) (xs : List Value) (qq : List (List Bool)) (wi : World) : Prop :=
  ∃ k : Nat, k ≤ ff.length ∧ i = .int .i64 k ∧ wi.ownsRow lo 4 1 v k (bools ((turnR ff x).take k)) ∧ PF wi w.heap.size vo m xs qq ∧ Below w.heap.size w wi ∧ w.heap.size ≤ lo ∧ (∀ (i : Nat) (u : Value) (b : Nat), xs[i]? = some u → u.ownBlock = some b → b < lo) ∧ lo ≤ wi.heap.size
theorem own_caps {w : World} {base n : Nat} {T : TypeId} {z : Nat} {A : Option Addr} {c : Nat} {xs : List Value} (o : w.ownsRow base T z (.slice A n c) n xs) : n ≤ c ∧ c ≤ maxLen := by
  rcases o.2 with ⟨h0, hz⟩ | ⟨g, cap, cur, hv, _, _, hnc, hcm, _⟩
  · injection h0 with _ q1 q2; rw [q1, q2]; exact ⟨Nat.le_refl _, Nat.zero_le _⟩
  · injection hv with _ _ q2; subst q2; exact ⟨hnc, hcm⟩

end Go.Proofs.Ytiihenhddleooac

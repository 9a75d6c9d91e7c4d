/- Contracts on cakes in the form of the exact laws. -/
import Derived.Test.YtjjddamblijffabCBel
import Derived.Test.YtjjddamblijffabCValidI
import Derived.Test.YtjjddamblijffabCValidT
namespace Go.Proofs.Ytjjddamblijffab
open Go.RowKit
set_option linter.unusedVariables false
set_option linter.unusedSimpArgs false
theorem owz_cap {w : World} {base : Nat} {T : TypeId} {z n c : Nat} {A : Option Addr} {xs : List Value} (h : w.ownsRow base T z (.slice A n c) n xs) : n ≤ c ∧ c ≤ maxLen := by
  rcases h.2 with ⟨h0, hz⟩ | ⟨g, cap, cur, hv, _, _, hnc, hcm, _⟩
  · injection h0 with _ q1 q2; subst q1 q2; exact ⟨Nat.le_refl _, Nat.zero_le _⟩
  · injection hv with _ _ q2; subst q2; exact ⟨hnc, hcm⟩
end Go.Proofs.Ytjjddamblijffab

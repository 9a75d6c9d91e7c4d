/- Contracts of chapter 3 in the form of the exact laws. -/
import Derived.Test.YtiihenhddleooacFValid
import Derived.Test.YtiihenhddleooacFExact
namespace Go.Proofs.Ytiihenhddleooac
open Go.RowKit
set_option linter.unusedVariables false
set_option linter.unusedSimpArgs false
section
variable {w w' : World} {base hi : Nat} {A : Option Addr} {n c : Nat} {xs : List Value} {ff : List (List Bool)}
theorem OwnF.cap (h : OwnF w base hi A n c xs ff) : n ≤ c ∧ c ≤ maxLen := by
  rcases h.out.2 with ⟨h0, hz⟩ | ⟨g, cap, cur, hv, _, _, hnc, hcm, _⟩
  · injection h0 with _ q1 q2; subst q1 q2; exact ⟨Nat.le_refl _, Nat.zero_le _⟩
  · injection hv with _ _ q2; subst q2; exact ⟨hnc, hcm⟩
end
section
variable (ff : List (List Bool)) (A : Option Addr) (c : Nat) (w : World) (B : Nat)
theorem iVF_b (hg : RdF w B A ff) : Calls Try.prog 29 #[.slice A ff.length c] w fun e w' => e = .returned (.bool (fieldB ff)) ∧ Below w.heap.size w w' :=
  (iVF_any ff A c w B hg).mono fun _ _ ⟨h, e⟩ => ⟨h, e ▸ Below.refl _ _⟩
end

end Go.Proofs.Ytiihenhddleooac

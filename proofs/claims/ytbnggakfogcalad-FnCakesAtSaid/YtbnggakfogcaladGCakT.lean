/- What the law FnCakesAt asks. -/
import Derived.Test.YtbnggakfogcaladCAtD
import Derived.Test.YtbnggakfogcaladEqC
import Derived.Test.YtbnggakfogcaladGCak
import Derived.Test.YtbnggakfogcaladCValidI
import Derived.Test.YtbnggakfogcaladFCakesS
namespace Go.Proofs.Ytbnggakfogcalad
open Go.RowKit
set_option linter.unusedVariables false
set_option linter.unusedSimpArgs false
theorem cakesT_some {ff : List (List Bool)} {a b x y : Int} (h : (cakesT ff a b x y).length ≠ 0) : fieldB ff = true ∧ sidesB a b = true ∧ ∃ a' b' x' y' : Nat, a = (a' : Int) ∧ b = (b' : Int) ∧ x = (x' : Int) ∧ y = (y' : Int) ∧ x' < a' ∧ y' < b' ∧ cakesT ff a b x y = gridF ff a' b' x' y' := by
  unfold cakesT at *
  split at h
  · rename_i hq
    rw [if_pos hq]
    simp only [Bool.and_eq_true] at hq
    obtain ⟨hv, hs, hx, hy⟩ := hq
    have h1 := sidesB_t hs
    have h2 := inB_t hx
    have h3 := inB_t hy
    exact ⟨hv, hs, a.toNat, b.toNat, x.toNat, y.toNat, by omega, by omega, by omega, by omega, by omega, by omega, rfl⟩
  · simp at h
theorem cakesT_len (ff : List (List Bool)) (a b x y : Int) : (cakesT ff a b x y).length ≤ 81 := by
  unfold cakesT
  split
  · rename_i hq
    simp only [Bool.and_eq_true] at hq
    exact gridF_len hq.1
  · simp
theorem cast_mod (p a : Nat) (ha : 0 < a) : ((p : Int).tmod (a : Int) = ((p % a : Nat) : Int)) ∧ (p : Int) % (a : Int) = ((p % a : Nat) : Int) := by
  refine ⟨?_, (Int.natCast_emod p a).symm⟩
  rw [Int.tmod_eq_emod_of_nonneg (by omega)]
  exact (Int.natCast_emod p a).symm
theorem owz_capsG {w : World} {base n : Nat} {T : TypeId} {z : Nat} {A : Option Addr} {c : Nat} {xs : List Value} (o : w.ownsRow base T z (.slice A n c) n xs) : n ≤ c ∧ c ≤ maxLen := by
  rcases o.2 with ⟨h0, hz⟩ | ⟨g, cap, cur, hv, _, _, hnc, hcm, _⟩
  · injection h0 with _ q1 q2; rw [q1, q2]; exact ⟨Nat.le_refl _, Nat.zero_le _⟩
  · injection hv with _ _ q2; subst q2; exact ⟨hnc, hcm⟩

end Go.Proofs.Ytbnggakfogcalad

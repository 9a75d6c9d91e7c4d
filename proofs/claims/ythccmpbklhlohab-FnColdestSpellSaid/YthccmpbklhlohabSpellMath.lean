/- What ColdestSpell finds: no hours next to each other have a lesser sum. Plain mathematics. -/
import Derived.Test.YthccmpbklhlohabSpell
namespace Go.Proofs.Ythccmpbklhlohab
open Go.RowKit
set_option linter.unusedVariables false
set_option linter.unusedSimpArgs false

/-- the sum of the hours i .. k - 1. -/
def part (zs : List Int) (i k : Nat) : Int := ((zs.drop i).take (k - i)).sum
theorem part_nil (zs : List Int) (i : Nat) : part zs i i = 0 := by simp [part]
theorem part_succ {zs : List Int} {i k : Nat} {z : Int} (h : i ≤ k) (hz : zs[k]? = some z) : part zs i (k + 1) = part zs i k + z := by
  unfold part
  have e : k + 1 - i = (k - i) + 1 := by omega
  have hd : (zs.drop i)[k - i]? = some z := by rw [List.getElem?_drop, show i + (k - i) = k by omega]; exact hz
  rw [e, take_snoc hd]
  simp
structure Good (zs : List Int) (s : Sp) (P : Nat → Nat → Prop) : Prop where
  ex : ∃ a b : Nat, s.first = a ∧ s.last = b ∧ a ≤ b ∧ b < zs.length ∧ s.least = part zs a (b + 1)
  low : ∀ i k, P i k → i ≤ k → k < zs.length → s.least ≤ part zs i (k + 1)
theorem spIn_good (zs : List Int) (i : Nat) (P : Nat → Nat → Prop) : ∀ (d k : Nat) (s : Sp), k + d = zs.length → i ≤ k → s.sum = part zs i k →
    Good zs s (fun x y => P x y ∨ (x = i ∧ y < k)) → Good zs (spIn zs i k d s) (fun x y => P x y ∨ x = i)
  | 0, k, s, hk, hi, hs, g => ⟨g.ex, fun x y h h1 h2 => g.low x y (by rcases h with h | h; exact .inl h; exact .inr ⟨h, by omega⟩) h1 h2⟩
  | d + 1, k, s, hk, hi, hs, g => by
    have hlt : k < zs.length := by omega
    have hz : zs[k]? = some (zs.getD k 0) := by simp [List.getD_eq_getElem?_getD, hlt]
    have hp := part_succ hi hz
    show Good zs (spIn zs i (k + 1) d (spStep i k (zs.getD k 0) s)) _
    generalize zs.getD k 0 = z at *
    refine spIn_good zs i P d (k + 1) _ (by omega) (by omega) ?_ ?_
    · unfold spStep; split <;> simp only <;> omega
    · unfold spStep
      split
      · next hl =>
        refine ⟨⟨i, k, rfl, rfl, hi, hlt, by simp only; omega⟩, fun x y h h1 h2 => ?_⟩
        simp only
        rcases h with h | ⟨rfl, h⟩
        · have := g.low x y (.inl h) h1 h2; omega
        · by_cases e : y = k
          · subst e; omega
          · have := g.low x y (.inr ⟨rfl, by omega⟩) h1 h2; omega
      · next hl =>
        refine ⟨g.ex, fun x y h h1 h2 => ?_⟩
        simp only
        rcases h with h | ⟨rfl, h⟩
        · exact g.low x y (.inl h) h1 h2
        · by_cases e : y = k
          · subst e; omega
          · exact g.low x y (.inr ⟨rfl, by omega⟩) h1 h2
theorem spOut_good (zs : List Int) : ∀ (d i : Nat) (s : Sp), i + d = zs.length → Good zs s (fun x _ => x < i) → Good zs (spOut zs i d s) (fun _ _ => True)
  | 0, i, s, hi, g => ⟨g.ex, fun x y _ h1 h2 => g.low x y (by omega) h1 h2⟩
  | d + 1, i, s, hi, g => by
    show Good zs (spOut zs (i + 1) d (spIn zs i i (zs.length - i) ⟨0, s.least, s.first, s.last⟩)) _
    refine spOut_good zs d (i + 1) _ (by omega) ?_
    have h := spIn_good zs i (fun x _ => x < i) (zs.length - i) i ⟨0, s.least, s.first, s.last⟩ (by omega) (Nat.le_refl _) (part_nil zs i).symm
      ⟨g.ex, fun x y hxy h1 h2 => g.low x y (by rcases hxy with h | h; exact h; omega) h1 h2⟩
    exact ⟨h.ex, fun x y hx h1 h2 => h.low x y (by omega) h1 h2⟩
theorem spell_good {zs : List Int} (h : zs ≠ []) : Good zs (spellS zs) (fun _ _ => True) := by
  have hpos := List.length_pos_iff.2 h
  refine spOut_good zs zs.length 0 _ (by omega) ⟨⟨0, 0, rfl, rfl, Nat.le_refl _, hpos, ?_⟩, fun x y hx => by omega⟩
  have hz : zs[0]? = some (zs.getD 0 0) := by simp [List.getD_eq_getElem?_getD, hpos]
  have := part_succ (zs := zs) (i := 0) (k := 0) (Nat.le_refl _) hz
  rw [part_nil] at this
  simp only
  omega

end Go.Proofs.Ythccmpbklhlohab

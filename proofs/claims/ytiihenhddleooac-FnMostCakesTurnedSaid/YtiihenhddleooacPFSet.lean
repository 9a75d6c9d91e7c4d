/- A field made by append, one cell of it stored. -/
import Derived.Deep.RegionWith
import Derived.Test.YtiihenhddleooacFPonds
import Derived.Test.YtiihenhddleooacCWords
import Derived.Test.YtiihenhddleooacCMost
namespace Go.Proofs.Ytiihenhddleooac
open Go.RowKit
set_option linter.unusedVariables false
set_option linter.unusedSimpArgs false
section
variable {w w' : World} {base : Nat} {v : Value} {m : Nat} {xs : List Value} {pp : List (List Bool)}
theorem PF.cellAt {k i : Nat} {r : List Bool} {q : Bool} (h : PF w base v m xs pp) (hk : pp[k]? = some r) (hq : r[i]? = some q) :
    ∃ g c', xs[k]? = some (.slice (some ⟨g, 0, none⟩) r.length c') ∧ base ≤ g ∧ g < w.heap.size ∧ r.length ≤ c' ∧ c' ≤ maxLen ∧ w.cell? ⟨g, i, none⟩ = some (.bool q) ∧ w.frozen? ⟨g, i, none⟩ = false := by
  obtain ⟨A', c', h1, h2⟩ := h.row k r hk
  have hi : i < r.length := (List.getElem?_eq_some_iff.1 hq).1
  obtain ⟨g, rfl, g1, g2, g3, g4⟩ := own_some h2 (by omega)
  exact ⟨g, c', h1, g1, g2, g3, g4, owz_cell h2 (by rw [bools, List.getElem?_map, hq]; rfl), owz_frozen h2 i⟩
theorem PF.store {k i g c' : Nat} {r : List Bool} (h : PF w base v m xs pp) (hk : pp[k]? = some r) (hx : xs[k]? = some (.slice (some ⟨g, 0, none⟩) r.length c')) (b : Bool) :
    PF (w.setCell ⟨g, i, none⟩ (.bool b)) base v m xs (pp.set k (r.set i b)) := by
  have hg : w.grownBy (w.setCell ⟨g, i, none⟩ (.bool b)) (some g) := only_set (World.grownBy.refl w (some g)) (p := ⟨g, i, none⟩) (.inl rfl) (.bool b)
  have hrow : ∀ (j : Nat) (s : List Bool), pp[j]? = some s → ∃ (A' : Option Addr) (c' : Nat), xs[j]? = some (Value.slice A' s.length c') ∧ w.ownsRow base 4 1 (.slice A' s.length c') s.length (bools s) := h.row
  have hown : w.ownsRow base 4 1 (.slice (some ⟨g, 0, none⟩) r.length c') r.length (bools r) := by
    obtain ⟨A2, c2, h1, h2⟩ := hrow k r hk
    rw [hx] at h1
    injection h1 with h1
    injection h1 with e1 e2 e3
    subst e1 e3
    exact h2
  refine ⟨own_grown h.out hg fun q hq => ?_, by simpa using h.len, fun j s hs => ?_, h.sep, fun j u q hu hq => by have := h.hi_ j u q hu hq; simpa using this⟩
  · injection hq with hq
    subst hq
    exact own_typesF hown h.out typesF_ne g rfl
  · rw [List.getElem?_set] at hs
    by_cases e : k = j
    · subst e
      rw [if_pos rfl] at hs
      split at hs
      · injection hs with hs
        subst hs
        rw [List.length_set]
        refine ⟨some ⟨g, 0, none⟩, c', hx, ?_⟩
        have := owz_put hown i (.bool b)
        rw [show bools (r.set i b) = (bools r).set i (.bool b) by unfold bools; rw [List.map_set]]
        exact this
      · cases hs
    · rw [if_neg e] at hs
      obtain ⟨A2, c2, h1, h2⟩ := hrow j s hs
      refine ⟨A2, c2, h1, own_grown h2 hg fun q hq => ?_⟩
      injection hq with hq
      subst hq
      intro e2
      exact e (h.sep k j _ _ g hx h1 rfl e2)
end

end Go.Proofs.Ytiihenhddleooac

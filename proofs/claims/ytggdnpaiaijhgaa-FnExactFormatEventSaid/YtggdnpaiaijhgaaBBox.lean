/- Chapter 8: events that lie in boxes. -/
import Derived.Test.YtggdnpaiaijhgaaBEvO2
import Derived.Test.YtggdnpaiaijhgaaBRec
namespace Go.Proofs.Ytggdnpaiaijhgaa
open Go.RowKit
set_option linter.unusedVariables false
set_option linter.unusedSimpArgs false
/-- five cells of a box -/
structure Box5 (w : World) (g : Nat) (v0 v1 v2 v3 v4 : Value) : Prop where
  c0 : w.cell? ⟨g, 0, none⟩ = some v0
  c1 : w.cell? ⟨g, 1, none⟩ = some v1
  c2 : w.cell? ⟨g, 2, none⟩ = some v2
  c3 : w.cell? ⟨g, 3, none⟩ = some v3
  c4 : w.cell? ⟨g, 4, none⟩ = some v4
  fr : ∀ j, w.frozen? ⟨g, j, none⟩ = false
  lt : g < w.heap.size
def five (w : World) (g : Nat) (v0 v1 v2 v3 v4 : Value) : World := ((((w.setCell ⟨g, 0, none⟩ v0).setCell ⟨g, 1, none⟩ v1).setCell ⟨g, 2, none⟩ v2).setCell ⟨g, 3, none⟩ v3).setCell ⟨g, 4, none⟩ v4
section
variable {w w' : World} {g B : Nat} {v0 v1 v2 v3 v4 u0 u1 u2 u3 u4 : Value}
theorem Box5.alloc_ (w : World) (T : TypeId) : Box5 (w.alloc (.cells #[v0, v1, v2, v3, v4] T)) w.heap.size v0 v1 v2 v3 v4 :=
  ⟨by simp, by simp, by simp, by simp, by simp, fun j => World.frozen?_alloc_new w _ _ _, by simp⟩
theorem Box5.below (h : Box5 w g v0 v1 v2 v3 v4) (hb : Below B w w') (hg : g < B) : Box5 w' g v0 v1 v2 v3 v4 :=
  ⟨by rw [hb.cell (p := ⟨g, 0, none⟩) hg]; exact h.c0, by rw [hb.cell (p := ⟨g, 1, none⟩) hg]; exact h.c1, by rw [hb.cell (p := ⟨g, 2, none⟩) hg]; exact h.c2, by rw [hb.cell (p := ⟨g, 3, none⟩) hg]; exact h.c3, by rw [hb.cell (p := ⟨g, 4, none⟩) hg]; exact h.c4, fun j => by rw [hb.frozen (p := ⟨g, j, none⟩) hg]; exact h.fr j, by have := hb.size; have := h.lt; omega⟩
theorem five_below (w : World) {g B : Nat} (hg : B ≤ g) (v0 v1 v2 v3 v4 : Value) : Below B w (five w g v0 v1 v2 v3 v4) :=
  (((((Below.refl _ _).setCell (p := ⟨g, 0, none⟩) hg _).setCell (p := ⟨g, 1, none⟩) hg _).setCell (p := ⟨g, 2, none⟩) hg _).setCell (p := ⟨g, 3, none⟩) hg _).setCell (p := ⟨g, 4, none⟩) hg _
theorem Box5.set (h : Box5 w g v0 v1 v2 v3 v4) : Box5 (five w g u0 u1 u2 u3 u4) g u0 u1 u2 u3 u4 := by
  have h0 := h.c0
  have h1 := h.c1
  have h2 := h.c2
  have h3 := h.c3
  have h4 := h.c4
  refine ⟨?_, ?_, ?_, ?_, ?_, fun j => ?_, by have := h.lt; have := (five_below w (Nat.zero_le g) u0 u1 u2 u3 u4).size; omega⟩
  · unfold five; simp [go_sem, h0]
  · unfold five; simp [go_sem, h1]
  · unfold five; simp [go_sem, h2]
  · unfold five; simp [go_sem, h3]
  · unfold five; simp [go_sem, h4]
  · unfold five; rw [World.frozen?_setCell, World.frozen?_setCell, World.frozen?_setCell, World.frozen?_setCell, World.frozen?_setCell]; exact h.fr j
theorem own_five {base n : Nat} {T : TypeId} {v : Value} {xs : List Value} (h : w.ownsRow base T 1 v n xs) (hb : v.ownBlock ≠ some g) : (five w g v0 v1 v2 v3 v4).ownsRow base T 1 v n xs :=
  own_other (own_other (own_other (own_other (own_other h hb _) hb _) hb _) hb _) hb _
end
theorem own_capB {w : World} {base n c : Nat} {T : TypeId} {A : Option Addr} {xs : List Value} (h : w.ownsRow base T 1 (.slice A n c) n xs) : n ≤ c ∧ c ≤ maxLen := by
  rcases h.2 with ⟨h0, hz⟩ | ⟨g, cap, cur, hv, _, _, hnc, hcm, _⟩
  · injection h0 with _ q1 q2; omega
  · injection hv with _ _ q2; subst q2; exact ⟨hnc, hcm⟩
theorem splitL_mem {c : UInt8} : ∀ (l : List UInt8), ∀ p ∈ splitL c l, p.length ≤ l.length
  | [], p, h => by rw [splitL] at h; simp at h; subst h; simp
  | b :: t, p, h => by
    rw [splitL] at h
    split at h
    · rcases List.mem_cons.1 h with rfl | h
      · simp
      · have := splitL_mem t p h; simp; omega
    · split at h
      · next e => have := (splitL_len c t).1; rw [e] at this; simp at this
      · next q qs e =>
        rcases List.mem_cons.1 h with rfl | h
        · have := splitL_mem t q (by rw [e]; exact List.mem_cons_self ..); simp; omega
        · have := splitL_mem t p (by rw [e]; exact List.mem_cons_of_mem _ h); simp; omega
theorem evOf_len (ws : List (List UInt8)) : (evOf ws).ts.length ≤ ws.length := by
  unfold evOf
  split
  · simp
  · split
    · simp
    · split <;> simp
/-- what a parse answers -/
def PaPost (e : Ev) (q : Bool) (w : World) (e' : Ending) (w' : World) : Prop :=
  ∃ A c, e' = .returned (.tuple #[evV e A c, .bool q]) ∧ w'.ownsRow w.heap.size 3 1 (.slice A e.ts.length c) e.ts.length (ints e.ts) ∧ Below w.heap.size w w'

end Go.Proofs.Ytggdnpaiaijhgaa

/- Contract of the model's regions: the number of the field of each cell, without one. -/
import Derived.Test.YtcjcdlhmhhbkgacFields
namespace Go.Proofs.Ytcjcdlhmhhbkgac
open Go.RowKit
set_option linter.unusedVariables false
set_option linter.unusedSimpArgs false
def RgW (w wr : World) (n g c lo : Nat) (fs : List Int) (N : Int) (g' m cap : Nat) (cs : List Nat) : Prop :=
  m = cs.length ∧ wr.ownsRow lo 3 1 (.slice (some ⟨g', 0, none⟩) m cap) m (ints (nats cs)) ∧
    (∃ gs : List Int, gs.length = n ∧ (∀ x, at_ gs x = if x ∈ cs then N else at_ fs x) ∧ wr.ownsRow w.heap.size 3 1 (.slice (some ⟨g, 0, none⟩) n c) n (ints gs)) ∧ Below w.heap.size w wr ∧ g < lo ∧ lo ≤ wr.heap.size
theorem rgW_below {w wr w2 : World} {n g c lo : Nat} {fs : List Int} {N : Int} {g' m cap : Nat} {cs : List Nat} (h : RgW w wr n g c lo fs N g' m cap cs) (hb : Below wr.heap.size wr w2) : RgW w w2 n g c lo fs N g' m cap cs := by
  obtain ⟨h1, h2, ⟨gs, h3, h4, h5⟩, h6, h7, h8⟩ := h
  exact ⟨h1, own_below h2 hb, ⟨gs, h3, h4, own_below h5 hb⟩, h6.trans (hb.mono h6.size), h7, Nat.le_trans h8 hb.size⟩
theorem rgW_drewN {w wr : World} {n g c lo : Nat} {fs : List Int} {N : Int} {g' m cap : Nat} {cs : List Nat} (h : RgW w wr n g c lo fs N g' m cap cs) (q : Nat) : RgW w (wr.drewN q) n g c lo fs N g' m cap cs := by
  obtain ⟨h1, h2, h3, h6, h7⟩ := h
  exact ⟨h1, h2, h3, below_drewN h6 q, h7⟩
theorem at_more {fs gs : List Int} {cs : List Nat} {N : Int} {n k : Nat} (hl : gs.length = n) (hk : k < n) (h : ∀ x, at_ gs x = if x ∈ cs then N else at_ fs x) : ∀ x, at_ (gs.set k N) x = if x ∈ cs ++ [k] then N else at_ fs x := fun x => by
  rw [at_set _ _ _ _ (by omega)]
  by_cases e : x = k
  · subst e; simp
  · rw [if_neg e, h x]
    simp [e]
def RgRel (w w2 wi : World) (n g c lo up : Nat) (fs : List Int) (N : Int) (nb : Nat → List Nat) (ok : Nat → Bool) (a i ci L : Nat) (s t : Value) : Prop :=
  ∃ (j g' m cap : Nat) (cs : List Nat), j ≤ L ∧ t = .int .i64 j ∧ s = .slice (some ⟨g', 0, none⟩) m cap ∧ BfsI nb ok a cs i ci j ∧ RgW w wi n g c lo fs N g' m cap cs ∧ Frm up w2 wi g'
theorem okB_but {pp : List (List Int)} {load but : Int} {k : Nat} (h : (k : Int) = but) : okB pp load but k = false := by
  unfold okB
  have : decide ((k : Int) ≠ but) = false := decide_eq_false (fun g => g h)
  rw [this, Bool.and_false, Bool.and_false]
theorem okB_and {pp : List (List Int)} {load but : Int} {k : Nat} (h : (k : Int) ≠ but) : okB pp load but k = okF pp load k := by
  unfold okB okF
  rw [decide_eq_true h, Bool.and_true]
theorem okB_F {pp : List (List Int)} {load but : Int} {k : Nat} (h : okF pp load k = false) : okB pp load but k = false := by
  by_cases e : (k : Int) = but
  · exact okB_but e
  · rw [okB_and e]; exact h
theorem bears_is {q : Bool} (pp : List (List Int)) (A : Option Addr) (c : Nat) (w : World) (B : Nat) (hp : Pnd w B A pp) (k : Nat) (hk : k < cnt pp) (load : Int) (h : okF pp load k = q) :
    Calls Try.prog 137 #[.slice A pp.length c, .int .i64 k, .int .i64 load] w fun e w' => e = .returned (.bool q) ∧ ∃ n, w' = w.drewN n := by
  have := bears_any pp A c w B hp k hk load
  rw [h] at this
  exact this
end Go.Proofs.Ytcjcdlhmhhbkgac

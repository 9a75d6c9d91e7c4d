/- Contracts of the exact laws' helpers over lists of integers: copies, comparison, marks. -/
import Derived.Test.YtiihenhddleooacWords
namespace Go.Proofs.Ytiihenhddleooac
open Go.RowKit
set_option linter.unusedVariables false
set_option linter.unusedSimpArgs false

def copied (zs : List Int) (k j : Nat) : Value := .int .i64 (if j < k then zs.getD j 0 else 0)
theorem copied_step {w : World} {g : Nat} {zs : List Int} {k : Nat} {z : Int} {T : TypeId} (h : w.rowIs g T zs.length (copied zs k)) (hz : zs[k]? = some z) :
    (w.setCell ⟨g, k, none⟩ (.int .i64 z)).rowIs g T zs.length (copied zs (k + 1)) := by
  refine (h.set k (.int .i64 z)).congr fun j hj => ?_
  unfold copied
  by_cases e : j = k
  · subst e
    simp [List.getD_eq_getElem?_getD, hz]
  · rw [if_neg e]
    by_cases hlt : j < k
    · rw [if_pos hlt, if_pos (by omega)]
    · rw [if_neg hlt, if_neg (by omega)]
theorem copied_all {w : World} {base g : Nat} {zs : List Int} {T : TypeId} (h : w.rowIs g T zs.length (copied zs zs.length)) (hb : base ≤ g) (hn : zs.length ≤ maxLen) :
    w.ownsRow base T 1 (.slice (some ⟨g, 0, none⟩) zs.length zs.length) zs.length (ints zs) :=
  own_of_row h (ints_length zs) (fun i hi => by rw [ints_at hi]; unfold copied; rw [if_pos hi]) hb hn

def marks (k : Int) (n : Nat) : List Int := (List.range n).map (fun i : Nat => k + (i : Int))
theorem marks_length (k : Int) (n : Nat) : (marks k n).length = n := by simp [marks]
theorem marks_at {k : Int} {n i : Nat} (h : i < n) : (marks k n)[i]? = some (k + i) := by simp [marks, h]
def marked (k : Int) (f : Nat → Value) (j i : Nat) : Value := if i < j then .int .i64 (k + i) else f i
theorem marked_step {w : World} {g n : Nat} {k : Int} {f : Nat → Value} {j : Nat} {T : TypeId} (h : w.rowIs g T n (marked k f j)) :
    (w.setCell ⟨g, j, none⟩ (.int .i64 (k + j))).rowIs g T n (marked k f (j + 1)) := by
  refine (h.set j _).congr fun i hi => ?_
  unfold marked
  by_cases e : i = j
  · subst e; simp
  · rw [if_neg e]
    by_cases hlt : i < j
    · rw [if_pos hlt, if_pos (by omega)]
    · rw [if_neg hlt, if_neg (by omega)]
theorem marked_all {w : World} {base g n c : Nat} {k : Int} {f : Nat → Value} {T : TypeId} (h : w.rowIs g T c (marked k f n)) (hb : base ≤ g) (hnc : n ≤ c) (hn : c ≤ maxLen) :
    w.ownsRow base T 1 (.slice (some ⟨g, 0, none⟩) n c) n (ints (marks k n)) :=
  own_of_row' h (by rw [ints_length, marks_length]) (fun i hi => by
    rw [ints_at (by rw [marks_length]; exact hi)]
    unfold marked
    rw [if_pos hi, List.getD_eq_getElem?_getD, marks_at hi]; rfl) hb hnc hn
theorem only_cell {a w : World} {g : Nat} (h : a.grownBy w (some g)) (j : Nat) (u : Value) : a.grownBy (w.setCell ⟨g, j, none⟩ u) (some g) :=
  ⟨h.os, h.tape, h.output, by simpa [World.setCell] using h.size, fun i hi hne => (Below.heap_setCell w ⟨g, j, none⟩ u i (fun e => hne (by rw [e]))).trans (h.block i hi hne)⟩

end Go.Proofs.Ytiihenhddleooac

/- Contracts of chapter 2: the cells that bear a load. -/
import Derived.Test.YtbnggakfogcalaaBeside
import Derived.Test.YtbnggakfogcalaaValidS
namespace Go.Proofs.Ytbnggakfogcalaa
open Go.RowKit
set_option linter.unusedVariables false
set_option linter.unusedSimpArgs false
theorem rg_len {α : Type} (f : Nat → α) (n : Nat) : ((List.range n).map f).length = n := by simp
def upTo (f : Nat → Bool) (n k : Nat) : List Bool := (List.range n).map (fun i => decide (i < k) && f i)
theorem upTo_len (f : Nat → Bool) (n k : Nat) : (upTo f n k).length = n := rg_len _ n
theorem upTo_zero (f : Nat → Bool) (n : Nat) : upTo f n 0 = List.replicate n false := by
  apply List.ext_getElem <;> simp [upTo]
theorem upTo_all (f : Nat → Bool) (n : Nat) : upTo f n n = (List.range n).map f := by
  apply List.ext_getElem
  · simp [upTo]
  · intro i h1 h2
    have : i < n := by simpa [upTo] using h1
    simp [upTo, this]
theorem upTo_set {f : Nat → Bool} {n k : Nat} (hk : k < n) : (upTo f n k).set k (f k) = upTo f n (k + 1) := by
  apply List.ext_getElem
  · simp [upTo]
  · intro i h1 h2
    have hi : i < n := by simpa [upTo] using h2
    rw [List.getElem_set]
    simp only [upTo, List.getElem_map, List.getElem_range]
    by_cases e : k = i
    · subst e; simp
    · rw [if_neg e]
      congr 1
      exact decide_eq_decide.2 (by omega)
def safeT (pp : List (List Int)) (load : Int) : List Bool := if pondB pp then safeF pp load else []
theorem safeT_ok {pp : List (List Int)} {load : Int} (h : pondB pp = true) : safeT pp load = safeF pp load := by unfold safeT; rw [h]; rfl
theorem safeT_no {pp : List (List Int)} {load : Int} (h : pondB pp = false) : safeT pp load = [] := by unfold safeT; rw [h]; rfl
theorem okF_in {pp : List (List Int)} {load : Int} {k : Nat} (hk : k < cnt pp) : okF pp load k = decide (load ≤ thk pp k * thk pp k) := by unfold okF; rw [decide_eq_true hk]; rfl
end Go.Proofs.Ytbnggakfogcalaa

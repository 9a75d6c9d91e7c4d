/- Most cakes (pure): a field as a function, cells of it cleared one by one. -/
import Derived.Test.YtiihenhddleooacCMost
namespace Go.Proofs.Ytiihenhddleooac
open Go.RowKit
set_option linter.unusedVariables false
set_option linter.unusedSimpArgs false
def fldF (n m : Nat) (f : Nat → Nat → Bool) : List (List Bool) := (List.range n).map fun y => (List.range m).map (f y)
theorem fldF_row {n m k : Nat} {f : Nat → Nat → Bool} (h : k < n) : (fldF n m f)[k]? = some ((List.range m).map (f k)) := by
  unfold fldF
  rw [List.getElem?_map, List.getElem?_range h]
  rfl
theorem fldF_congr {n m : Nat} {f g : Nat → Nat → Bool} (h : ∀ y, y < n → ∀ x, x < m → f y x = g y x) : fldF n m f = fldF n m g := by
  unfold fldF
  apply List.map_congr_left
  intro y hy
  apply List.map_congr_left
  intro x hx
  exact h y (List.mem_range.1 hy) x (List.mem_range.1 hx)
theorem fldF_set {n m k i : Nat} {f : Nat → Nat → Bool} {b : Bool} (hk : k < n) : (fldF n m f).set k (((List.range m).map (f k)).set i b) = fldF n m (fun y x => if y = k ∧ x = i then b else f y x) := by
  apply List.ext_getElem?
  intro y
  by_cases hy : y < n
  · rw [fldF_row hy, List.getElem?_set]
    by_cases e : k = y
    · subst e
      rw [if_pos rfl, if_pos (by simp [fldF]; omega)]
      congr 1
      apply List.ext_getElem?
      intro x
      rw [List.getElem?_set]
      by_cases hx : x < m
      · rw [List.getElem?_map, List.getElem?_map, List.getElem?_range hx]
        by_cases e2 : i = x
        · subst e2
          rw [if_pos rfl, if_pos (by simp; omega)]
          simp
        · rw [if_neg e2]
          simp [show ¬ x = i from fun h => e2 h.symm]
      · rw [List.getElem?_eq_none (by simp; omega), List.getElem?_eq_none (by simp; omega)]
        split
        · split
          · rename_i h
            rw [List.length_map, List.length_range] at h
            omega
          · rfl
        · rfl
    · rw [if_neg e, fldF_row hy]
      congr 1
      apply List.map_congr_left
      intro x _
      rw [if_neg (by omega)]
  · rw [List.getElem?_eq_none (by simp [fldF]; omega), List.getElem?_eq_none (by simp [fldF]; omega)]
theorem fld_self {ff : List (List Bool)} (h : fieldB ff = true) : fldF ff.length (wideB ff) (ice ff) = ff := by
  refine (fldF_congr fun y _ x _ => ?_).trans (clr_zero h)
  rw [Nat.zero_testBit, Bool.not_false, Bool.and_true]
/-- a cake's cells cleared: j rows of it, and i cells of the next -/
def holeF (ff : List (List Bool)) (x y w j i q p : Nat) : Bool := ice ff q p && !(decide (x ≤ p ∧ p < x + w ∧ y ≤ q ∧ q < y + j) || decide (q = y + j ∧ x ≤ p ∧ p < x + i))
theorem hole_zero {ff : List (List Bool)} (h : fieldB ff = true) (x y w : Nat) : fldF ff.length (wideB ff) (holeF ff x y w 0 0) = ff := by
  refine (fldF_congr fun q _ p _ => ?_).trans (fld_self h)
  unfold holeF
  rw [decide_eq_false (by omega), decide_eq_false (by omega)]
  simp
theorem hole_step {ff : List (List Bool)} {x y w j i n m : Nat} (hk : y + j < n) : (fldF n m (holeF ff x y w j i)).set (y + j) (((List.range m).map (holeF ff x y w j i (y + j))).set (x + i) false) = fldF n m (holeF ff x y w j (i + 1)) := by
  rw [fldF_set hk]
  refine fldF_congr fun q _ p _ => ?_
  unfold holeF
  rw [← Bool.decide_or, ← Bool.decide_or]
  by_cases e : q = y + j ∧ p = x + i
  · rw [if_pos e, decide_eq_true (by omega)]
    simp
  · rw [if_neg e]
    congr 2
    refine decide_eq_decide.2 ?_
    omega
theorem hole_row {ff : List (List Bool)} {x y w j n m : Nat} : fldF n m (holeF ff x y w j w) = fldF n m (holeF ff x y w (j + 1) 0) := by
  refine fldF_congr fun q _ p _ => ?_
  unfold holeF
  rw [← Bool.decide_or, ← Bool.decide_or]
  congr 2
  refine decide_eq_decide.2 ?_
  omega
theorem hole_end {ff : List (List Bool)} {x y w h : Nat} (hw : wideB ff ≤ 5) (hx : x + w ≤ wideB ff) : fldF ff.length (wideB ff) (holeF ff x y w h 0) = clr ff (mS w x y h) := by
  refine fldF_congr fun q _ p hp => ?_
  unfold holeF
  rw [mS_bit (by omega) (by omega), ← Bool.decide_or]
  congr 2
  refine decide_eq_decide.2 ?_
  omega

end Go.Proofs.Ytiihenhddleooac

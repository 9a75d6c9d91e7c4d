/- Contracts of chapter 3: whether cakes are valid. -/
import Derived.Lib.QuietBelow
import Derived.Test.YtiihenhddleooacCWords
import Derived.Test.YtiihenhddleooacFHold
namespace Go.Proofs.Ytiihenhddleooac
open Go.RowKit
set_option linter.unusedVariables false
set_option linter.unusedSimpArgs false
def cAt (cs : List (Int × Int)) (i : Nat) : Int × Int := cs.getD i (0, 0)
theorem cAt_get {cs : List (Int × Int)} {i : Nat} {x y : Int} (h : cs[i]? = some (x, y)) : cAt cs i = (x, y) := by unfold cAt; rw [List.getD_eq_getElem?_getD, h]; rfl
def onB (a b : Int) (c : Int × Int) : Bool := inB c.1 0 (9 - a) && inB c.2 0 (9 - b)
def overB (a b : Int) (c d : Int × Int) : Bool := decide (c.1 < d.1 + a ∧ d.1 < c.1 + a ∧ c.2 < d.2 + b ∧ d.2 < c.2 + b)
def anyOver (a b : Int) (c : Int × Int) (cs : List (Int × Int)) (k : Nat) : Bool := (List.range k).any (fun j => overB a b c (cAt cs j))
def okTo (a b : Int) (cs : List (Int × Int)) (n : Nat) : Bool := (List.range n).all (fun i => onB a b (cAt cs i) && !anyOver a b (cAt cs i) cs i)
def cakesB (a b : Int) (cs : List (Int × Int)) : Bool := sidesB a b && okTo a b cs cs.length
theorem anyOver_succ (a b : Int) (c : Int × Int) (cs : List (Int × Int)) (k : Nat) : anyOver a b c cs (k + 1) = (anyOver a b c cs k || overB a b c (cAt cs k)) := by
  unfold anyOver
  rw [List.range_succ, List.any_append]
  simp
theorem anyOver_hit {a b : Int} {c : Int × Int} {cs : List (Int × Int)} {j k : Nat} (hj : j < k) (h : overB a b c (cAt cs j) = true) : anyOver a b c cs k = true := by
  unfold anyOver
  rw [List.any_eq_true]
  exact ⟨j, List.mem_range.2 hj, h⟩
theorem okTo_succ (a b : Int) (cs : List (Int × Int)) (n : Nat) : okTo a b cs (n + 1) = (okTo a b cs n && (onB a b (cAt cs n) && !anyOver a b (cAt cs n) cs n)) := by
  unfold okTo
  rw [List.range_succ, List.all_append]
  simp
theorem okTo_bad {a b : Int} {cs : List (Int × Int)} {i n : Nat} (hi : i < n) (h : (onB a b (cAt cs i) && !anyOver a b (cAt cs i) cs i) = false) : okTo a b cs n = false := by
  unfold okTo
  rw [List.all_eq_false]
  exact ⟨i, List.mem_range.2 hi, by rw [h]; simp⟩
theorem okTo_on {a b : Int} {cs : List (Int × Int)} {i n : Nat} (h : okTo a b cs n = true) (hi : i < n) : onB a b (cAt cs i) = true := by
  unfold okTo at h
  rw [List.all_eq_true] at h
  have := h i (List.mem_range.2 hi)
  rw [Bool.and_eq_true] at this
  exact this.1
theorem okTo_clear {a b : Int} {cs : List (Int × Int)} {i n : Nat} (h : okTo a b cs n = true) (hi : i < n) : anyOver a b (cAt cs i) cs i = false := by
  unfold okTo at h
  rw [List.all_eq_true] at h
  have := h i (List.mem_range.2 hi)
  rw [Bool.and_eq_true, Bool.not_eq_true'] at this
  exact this.2
theorem okTo_mono {a b : Int} {cs : List (Int × Int)} {m n : Nat} (h : okTo a b cs n = true) (hm : m ≤ n) : okTo a b cs m = true := by
  unfold okTo at *
  rw [List.all_eq_true] at *
  exact fun i hi => h i (List.mem_range.2 (by have := List.mem_range.1 hi; omega))
theorem onB_t {a b : Int} {c : Int × Int} (h : onB a b c = true) : (0 ≤ c.1 ∧ c.1 ≤ 9 - a) ∧ 0 ≤ c.2 ∧ c.2 ≤ 9 - b := by
  unfold onB at h
  rw [Bool.and_eq_true] at h
  exact ⟨inB_t h.1, inB_t h.2⟩
theorem cakesB_no {a b : Int} {cs : List (Int × Int)} (h : sidesB a b = false) : cakesB a b cs = false := by unfold cakesB; rw [h]; rfl
theorem cakesB_ok {a b : Int} {cs : List (Int × Int)} (h : sidesB a b = true) : cakesB a b cs = okTo a b cs cs.length := by unfold cakesB; rw [h]; rfl
theorem over_dist {a b x y u v : Int} : overB a b (x, y) (u, v) = (decide ((if x < u then u - x else x - u) < a) && decide ((if y < v then v - y else y - v) < b)) := by
  unfold overB
  rw [← Bool.decide_and]
  refine decide_eq_decide.2 ?_
  show (x < u + a ∧ u < x + a ∧ y < v + b ∧ v < y + b) ↔ _
  split <;> split <;> omega
end Go.Proofs.Ytiihenhddleooac

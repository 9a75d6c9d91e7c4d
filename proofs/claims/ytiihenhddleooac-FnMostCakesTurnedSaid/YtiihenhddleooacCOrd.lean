/- Contracts of chapter 3: the order of places, the program. -/
import Derived.Test.YtiihenhddleooacCValidI
import Derived.Test.YtiihenhddleooacFOrd
namespace Go.Proofs.Ytiihenhddleooac
open Go.RowKit
set_option linter.unusedVariables false
set_option linter.unusedSimpArgs false
def ltC (c d : Int × Int) : Bool := decide (c.1 < d.1 ∨ (c.1 = d.1 ∧ c.2 < d.2))
def plcF (cs : List (Int × Int)) (i j : Nat) : Bool := ltC (cAt cs i) (cAt cs j)
theorem okTo_apart {a b : Int} {cs : List (Int × Int)} {n i j : Nat} (h : okTo a b cs n = true) (hi : i < n) (hj : j < i) : overB a b (cAt cs i) (cAt cs j) = false := by
  unfold okTo at h
  rw [List.all_eq_true] at h
  have h1 := h i (List.mem_range.2 hi)
  simp only [Bool.and_eq_true] at h1
  have h2 := h1.2
  cases e : overB a b (cAt cs i) (cAt cs j)
  · rfl
  · rw [anyOver_hit hj e] at h2; cases h2
theorem plc_cakes {a b : Int} {cs : List (Int × Int)} (h : cakesB a b cs = true) : Plc (plcF cs) cs.length := by
  unfold cakesB at h
  rw [Bool.and_eq_true] at h
  obtain ⟨hs, ho⟩ := h
  obtain ⟨⟨s1, s2⟩, ⟨s3, s4⟩⟩ := sidesB_t hs
  have apart : ∀ i j, i < cs.length → j < i → ¬ ((cAt cs i).1 = (cAt cs j).1 ∧ (cAt cs i).2 = (cAt cs j).2) := fun i j hi hj e => by
    have := okTo_apart ho hi hj
    unfold overB at this
    rw [decide_eq_false_iff_not] at this
    omega
  refine ⟨fun i _ => ?_, fun i j k _ _ _ h1 h2 => ?_, fun i j hi hj hne => ?_⟩
  · unfold plcF ltC; rw [decide_eq_false_iff_not]; omega
  · unfold plcF ltC at *
    rw [decide_eq_true_eq] at *
    omega
  · have hq : ¬ ((cAt cs i).1 = (cAt cs j).1 ∧ (cAt cs i).2 = (cAt cs j).2) := by
      rcases Nat.lt_or_gt_of_ne hne with g | g
      · intro e; exact apart j i hj g ⟨e.1.symm, e.2.symm⟩
      · exact apart i j hi g
    unfold plcF ltC
    rw [decide_eq_true_eq, decide_eq_true_eq]
    omega
/-- the list that the order is: each cake at the number of those before it -/
def ordF (cs : List (Int × Int)) : Nat → List Nat
  | 0 => []
  | n + 1 => (ordF cs n).take (befF (plcF cs) n n) ++ n :: (ordF cs n).drop (befF (plcF cs) n n)
theorem ordF_ok {cs : List (Int × Int)} (P : Plc (plcF cs) cs.length) : ∀ n, n ≤ cs.length → Ordd (plcF cs) n (ordF cs n)
  | 0, _ => Ordd.nil _
  | n + 1, h => (ordF_ok P n (by omega)).ins P (by omega)
def floatT (a b : Int) (cs : List (Int × Int)) : List Int := if cakesB a b cs then nats (ordF cs cs.length) else []
theorem floatT_no {a b : Int} {cs : List (Int × Int)} (h : cakesB a b cs = false) : floatT a b cs = [] := by unfold floatT; rw [h]; rfl
theorem floatT_ok {a b : Int} {cs : List (Int × Int)} (h : cakesB a b cs = true) : floatT a b cs = nats (ordF cs cs.length) := by unfold floatT; rw [h]; rfl
theorem befF_get (cs : List (Int × Int)) (k j : Nat) : befF (plcF cs) (k + 1) j = befF (plcF cs) k j + (if ltC (cAt cs k) (cAt cs j) then 1 else 0) := befF_succ _ _ _
theorem befF_lt {lt : Nat → Nat → Bool} {n j : Nat} (hj : j < n) (hi : lt j j = false) : befF lt n j < n := by
  have h : ∀ m, j < m → befF lt m j < m := by
    intro m
    induction m with
    | zero => intro h; omega
    | succ m ih =>
      intro h
      rw [befF_succ]
      by_cases e : j = m
      · subst e; rw [hi]; have := befF_le lt j j; simp; omega
      · have := ih (by omega); split <;> omega
  exact h n hj
end Go.Proofs.Ytiihenhddleooac

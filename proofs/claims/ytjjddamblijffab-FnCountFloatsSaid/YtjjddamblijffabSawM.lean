/- Plain mathematics of chapter 3: what cakes share of their sides is at most half of them. -/
import Derived.Test.YtjjddamblijffabCSaw
import Derived.Test.YtjjddamblijffabHMath
namespace Go.Proofs.Ytjjddamblijffab
open Go.RowKit
set_option linter.unusedVariables false
set_option linter.unusedSimpArgs false
theorem S1_one {n : Nat} {P : Nat → Prop} [DecidablePred P] (h : ∀ j k, j < n → k < n → P j → P k → j = k) : 0 ≤ S1 n (fun k => if P k then 1 else 0) ∧ S1 n (fun k => if P k then 1 else 0) ≤ 1 := by
  induction n with
  | zero => simp [S1]
  | succ n ih =>
    have h1 := ih fun j k hj hk => h j k (by omega) (by omega)
    rw [S1_succ]
    by_cases hn : P n
    · have hz : S1 n (fun k => if P k then (1 : Int) else 0) = 0 := by
        rw [S1_congr (g := fun _ => 0) fun k hk => ?_, S1_zero]
        rw [if_neg fun hk2 => ?_]
        have := h k n (by omega) (by omega) hk2 hn
        omega
      rw [hz, if_pos hn]; omega
    · rw [if_neg hn]; omega
def leftF (a b : Int) (c d : Int × Int) : Int := S1 b.toNat (fun r => if d.1 + a = c.1 ∧ d.2 ≤ c.2 + r ∧ c.2 + r < d.2 + b then 1 else 0)
def upF (a b : Int) (c d : Int × Int) : Int := S1 a.toNat (fun r => if d.2 + b = c.2 ∧ d.1 ≤ c.1 + r ∧ c.1 + r < d.1 + a then 1 else 0)
def edgF (a b : Int) (c d : Int × Int) : Int := leftF a b c d + upF a b c d
theorem cnt_rows (b y v : Int) (hb : 1 ≤ b ∧ b ≤ 4) : S1 b.toNat (fun r => if v ≤ y + (r : Int) ∧ y + (r : Int) < v + b then 1 else 0) = if dist y v < b then b - dist y v else 0 := by
  have h : b = 1 ∨ b = 2 ∨ b = 3 ∨ b = 4 := by omega
  unfold dist
  rcases h with rfl | rfl | rfl | rfl
  · show S1 1 _ = _
    simp only [S1]
    repeat' split
    all_goals omega
  · show S1 2 _ = _
    simp only [S1]
    repeat' split
    all_goals omega
  · show S1 3 _ = _
    simp only [S1]
    repeat' split
    all_goals omega
  · show S1 4 _ = _
    simp only [S1]
    repeat' split
    all_goals omega
theorem left_eq (a b : Int) (c d : Int × Int) (hb : 1 ≤ b ∧ b ≤ 4) : leftF a b c d = if d.1 + a = c.1 then (if dist c.2 d.2 < b then b - dist c.2 d.2 else 0) else 0 := by
  unfold leftF
  by_cases h : d.1 + a = c.1
  · rw [if_pos h, ← cnt_rows b c.2 d.2 hb]
    exact S1_congr fun r _ => by simp only [h, true_and]
  · rw [if_neg h]
    exact Eq.trans (S1_congr fun r _ => if_neg fun h2 => h h2.1) (S1_zero b.toNat)
theorem up_eq (a b : Int) (c d : Int × Int) (ha : 1 ≤ a ∧ a ≤ 4) : upF a b c d = if d.2 + b = c.2 then (if dist c.1 d.1 < a then a - dist c.1 d.1 else 0) else 0 := by
  unfold upF
  by_cases h : d.2 + b = c.2
  · rw [if_pos h, ← cnt_rows a c.1 d.1 ha]
    exact S1_congr fun r _ => by simp only [h, true_and]
  · rw [if_neg h]
    exact Eq.trans (S1_congr fun r _ => if_neg fun h2 => h h2.1) (S1_zero a.toNat)
theorem sh_split {a b : Int} (ha : 1 ≤ a ∧ a ≤ 4) (hb : 1 ≤ b ∧ b ≤ 4) (c d : Int × Int) : shF a b c d = edgF a b c d + edgF a b d c := by
  unfold edgF
  rw [left_eq a b c d hb, left_eq a b d c hb, up_eq a b c d ha, up_eq a b d c ha]
  have e1 : dist d.2 c.2 = dist c.2 d.2 := by unfold dist; split <;> split <;> omega
  have e2 : dist d.1 c.1 = dist c.1 d.1 := by unfold dist; split <;> split <;> omega
  rw [e1, e2]
  unfold shF shD
  have k1 : dist c.1 d.1 = a ↔ d.1 + a = c.1 ∨ c.1 + a = d.1 := by unfold dist; split <;> omega
  have k2 : dist c.2 d.2 = b ↔ d.2 + b = c.2 ∨ c.2 + b = d.2 := by unfold dist; split <;> omega
  have n1 := dist_nn c.1 d.1
  have n2 := dist_nn c.2 d.2
  generalize dist c.1 d.1 = D1 at *
  generalize dist c.2 d.2 = D2 at *
  by_cases h1 : D1 = a
  · have h1' := k1.1 h1
    by_cases h2 : D2 < b
    · rw [if_pos ⟨h1, h2⟩]
      have h3 : ¬ D2 = b := by omega
      have h4 : ¬ d.2 + b = c.2 := fun h => h3 (k2.2 (.inl h))
      have h5 : ¬ c.2 + b = d.2 := fun h => h3 (k2.2 (.inr h))
      simp only [h2, h4, h5, if_true, if_false]
      rcases h1' with h | h
      · rw [if_pos h, if_neg (by omega)]; omega
      · rw [if_neg (by omega), if_pos h]; omega
    · have h6 : ¬ D1 < a := by omega
      rw [if_neg (by omega), if_neg (by omega)]
      simp only [h2, h6, if_false, ite_self]
      omega
  · have h7 : ¬ d.1 + a = c.1 := fun h => h1 (k1.2 (.inl h))
    have h8 : ¬ c.1 + a = d.1 := fun h => h1 (k1.2 (.inr h))
    rw [if_neg (by omega)]
    simp only [h7, h8, if_false]
    by_cases h9 : D2 = b
    · have h9' := k2.1 h9
      by_cases h10 : D1 < a
      · rw [if_pos ⟨h9, h10⟩]
        simp only [h10, if_true]
        rcases h9' with h | h
        · rw [if_pos h, if_neg (by omega)]; omega
        · rw [if_neg (by omega), if_pos h]; omega
      · rw [if_neg (by omega)]
        simp only [h10, if_false, ite_self]
        omega
    · have h11 : ¬ d.2 + b = c.2 := fun h => h9 (k2.2 (.inl h))
      have h12 : ¬ c.2 + b = d.2 := fun h => h9 (k2.2 (.inr h))
      rw [if_neg (by omega)]
      simp only [h11, h12, if_false]
      omega
theorem edg_self {a b : Int} (ha : 1 ≤ a ∧ a ≤ 4) (hb : 1 ≤ b ∧ b ≤ 4) (c : Int × Int) : edgF a b c c = 0 := by
  unfold edgF
  rw [left_eq a b c c hb, up_eq a b c c ha, if_neg (by omega), if_neg (by omega)]; rfl
theorem shTo_S1 (a b : Int) (cs : List (Int × Int)) (i : Nat) : ∀ k, shTo a b cs i k = S1 k (fun k => shF a b (cAt cs i) (cAt cs k))
  | 0 => rfl
  | k + 1 => by unfold shTo; rw [shTo_S1 a b cs i k, S1_succ]
theorem shAll_S1 {a b : Int} (ha : 1 ≤ a ∧ a ≤ 4) (hb : 1 ≤ b ∧ b ≤ 4) (cs : List (Int × Int)) : ∀ n, shAll a b cs n = S1 n (fun i => S1 n (fun k => edgF a b (cAt cs i) (cAt cs k)))
  | 0 => rfl
  | n + 1 => by
    unfold shAll
    rw [shAll_S1 ha hb cs n, shTo_S1, S1_succ, S1_succ, edg_self ha hb]
    have e1 : S1 n (fun i => S1 (n + 1) (fun k => edgF a b (cAt cs i) (cAt cs k))) = S1 n (fun i => S1 n (fun k => edgF a b (cAt cs i) (cAt cs k))) + S1 n (fun i => edgF a b (cAt cs i) (cAt cs n)) := by
      rw [← S1_add]
      exact S1_congr fun i _ => rfl
    have e2 : S1 n (fun k => shF a b (cAt cs n) (cAt cs k)) = S1 n (fun k => edgF a b (cAt cs n) (cAt cs k)) + S1 n (fun k => edgF a b (cAt cs k) (cAt cs n)) := by
      rw [← S1_add]
      exact S1_congr fun k _ => sh_split ha hb _ _
    rw [e1, e2]
    omega
theorem over_comm (a b : Int) (c d : Int × Int) : overB a b c d = overB a b d c := by
  unfold overB
  exact decide_eq_decide.2 ⟨fun ⟨h1, h2, h3, h4⟩ => ⟨h2, h1, h4, h3⟩, fun ⟨h1, h2, h3, h4⟩ => ⟨h2, h1, h4, h3⟩⟩
theorem cakes_apart {a b : Int} {cs : List (Int × Int)} (h : cakesB a b cs = true) {i j : Nat} (hi : i < cs.length) (hj : j < cs.length) (hne : i ≠ j) : overB a b (cAt cs i) (cAt cs j) = false := by
  have h2 := (cakesB_parts h).2
  have one : ∀ i j, i < cs.length → j < i → overB a b (cAt cs i) (cAt cs j) = false := by
    intro i j hi hj
    unfold okTo at h2
    rw [List.all_eq_true] at h2
    have h1 := h2 i (List.mem_range.2 hi)
    simp only [Bool.and_eq_true] at h1
    have h3 := h1.2
    cases e : overB a b (cAt cs i) (cAt cs j)
    · rfl
    · rw [anyOver_hit hj e] at h3; cases h3
  rcases Nat.lt_or_gt_of_ne hne with g | g
  · rw [over_comm]; exact one j i hj g
  · exact one i j hi g
theorem edg_sum {a b : Int} {cs : List (Int × Int)} (h : cakesB a b cs = true) (i : Nat) : S1 cs.length (fun k => edgF a b (cAt cs i) (cAt cs k)) ≤ a + b := by
  obtain ⟨ha, hb⟩ := sidesB_t (cakesB_parts h).1
  have ap : ∀ j k, j < cs.length → k < cs.length → overB a b (cAt cs j) (cAt cs k) = true → j = k := fun j k hj hk ho => by
    false_or_by_contra
    rename_i hne
    rw [cakes_apart h hj hk hne] at ho
    cases ho
  have h1 : S1 cs.length (fun k => leftF a b (cAt cs i) (cAt cs k)) ≤ b := by
    unfold leftF
    rw [S1_swap]
    have := S1_bd (n := b.toNat) (f := fun r => S1 cs.length (fun k => if (cAt cs k).1 + a = (cAt cs i).1 ∧ (cAt cs k).2 ≤ (cAt cs i).2 + (r : Int) ∧ (cAt cs i).2 + (r : Int) < (cAt cs k).2 + b then 1 else 0)) (c := 1) fun r _ => (S1_one fun j k hj hk p q => ap j k hj hk (by unfold overB; rw [decide_eq_true_eq]; omega)).2
    omega
  have h2 : S1 cs.length (fun k => upF a b (cAt cs i) (cAt cs k)) ≤ a := by
    unfold upF
    rw [S1_swap]
    have := S1_bd (n := a.toNat) (f := fun r => S1 cs.length (fun k => if (cAt cs k).2 + b = (cAt cs i).2 ∧ (cAt cs k).1 ≤ (cAt cs i).1 + (r : Int) ∧ (cAt cs i).1 + (r : Int) < (cAt cs k).1 + a then 1 else 0)) (c := 1) fun r _ => (S1_one fun j k hj hk p q => ap j k hj hk (by unfold overB; rw [decide_eq_true_eq]; omega)).2
    omega
  have e : S1 cs.length (fun k => edgF a b (cAt cs i) (cAt cs k)) = S1 cs.length (fun k => leftF a b (cAt cs i) (cAt cs k)) + S1 cs.length (fun k => upF a b (cAt cs i) (cAt cs k)) := by
    rw [← S1_add]; exact S1_congr fun k _ => rfl
  omega
theorem saw_half {a b : Int} {cs : List (Int × Int)} (h : cakesB a b cs = true) : 0 ≤ shAll a b cs cs.length ∧ shAll a b cs cs.length ≤ (a + b) * (cs.length : Int) := by
  obtain ⟨ha, hb⟩ := sidesB_t (cakesB_parts h).1
  rw [shAll_S1 ha hb]
  refine ⟨?_, ?_⟩
  · refine S1_nn fun i _ => S1_nn fun k _ => ?_
    unfold edgF leftF upF
    have g1 : ∀ (n : Nat) (P : Nat → Prop) [DecidablePred P], 0 ≤ S1 n (fun r => if P r then 1 else 0) := fun n P _ => S1_nn fun r _ => by split <;> omega
    have := g1 b.toNat (fun r => (cAt cs k).1 + a = (cAt cs i).1 ∧ (cAt cs k).2 ≤ (cAt cs i).2 + (r : Int) ∧ (cAt cs i).2 + (r : Int) < (cAt cs k).2 + b)
    have := g1 a.toNat (fun r => (cAt cs k).2 + b = (cAt cs i).2 ∧ (cAt cs k).1 ≤ (cAt cs i).1 + (r : Int) ∧ (cAt cs i).1 + (r : Int) < (cAt cs k).1 + a)
    omega
  · have := S1_bd (n := cs.length) (f := fun i => S1 cs.length (fun k => edgF a b (cAt cs i) (cAt cs k))) (c := a + b) fun i _ => edg_sum h i
    rw [Int.mul_comm]; exact this

end Go.Proofs.Ytjjddamblijffab

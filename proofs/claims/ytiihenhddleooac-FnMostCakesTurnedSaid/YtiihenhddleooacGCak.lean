/- Plain mathematics of chapter 3: the cakes of a grid are valid, and whole cakes apart cover no more than the ice. -/
import Derived.Test.YtiihenhddleooacCGrid
import Derived.Test.YtiihenhddleooacCValid
import Derived.Test.YtiihenhddleooacHMath
namespace Go.Proofs.Ytiihenhddleooac
open Go.RowKit
set_option linter.unusedVariables false
set_option linter.unusedSimpArgs false
theorem S1_most {n : Nat} {P : Nat → Prop} [DecidablePred P] (h : ∀ j k, j < n → k < n → P j → P k → j = k) : 0 ≤ S1 n (fun k => if P k then 1 else 0) ∧ S1 n (fun k => if P k then 1 else 0) ≤ 1 := by
  induction n with
  | zero => simp [S1]
  | succ n ih =>
    have h1 := ih fun j k hj hk => h j k (by omega) (by omega)
    rw [S1_succ]
    by_cases hn : P n
    · have hz : S1 n (fun k => if P k then (1 : Int) else 0) = 0 := by
        rw [S1_congr (g := fun _ => 0) fun k hk => ?_, S1_zero]
        rw [if_neg fun hk2 => ?_]
        have := h k n (by omega) (by omega) hk2 hn
        omega
      rw [hz, if_pos hn]; omega
    · rw [if_neg hn]; omega
theorem grid_mem {ff : List (List Bool)} {w h dx dy : Nat} {c : Int × Int} (hc : c ∈ gridF ff w h dx dy) : ∃ x y : Nat, c = ((x : Int), (y : Int)) ∧ y % h = dy ∧ x % w = dx ∧ wholeB ff w h x y = true := by
  unfold gridF gridG at hc
  rw [List.mem_flatMap] at hc
  obtain ⟨y, _, hc⟩ := hc
  split at hc
  · rename_i hy
    unfold rowG at hc
    rw [List.mem_map] at hc
    obtain ⟨x, hx, rfl⟩ := hc
    rw [List.mem_filter, Bool.and_eq_true, decide_eq_true_eq] at hx
    exact ⟨x, y, rfl, hy, hx.2.1, hx.2.2⟩
  · cases hc
theorem grid_pair (ff : List (List Bool)) (w h dx dy : Nat) : (gridF ff w h dx dy).Pairwise (fun c d => c ≠ d) := by
  unfold gridF gridG
  rw [List.pairwise_flatMap]
  refine ⟨fun y _ => ?_, ?_⟩
  · split
    · unfold rowG
      rw [List.pairwise_map]
      refine List.Pairwise.filter _ (List.Pairwise.imp ?_ List.pairwise_lt_range)
      intro a b hab e
      injection e with e _
      omega
    · exact List.Pairwise.nil
  · refine List.Pairwise.imp ?_ List.pairwise_lt_range
    intro a b hab c hc d hd e
    have two : ∀ (y : Nat) (c : Int × Int), c ∈ (if y % h = dy then rowG ff w h dx y (wideB ff) else []) → c.2 = (y : Int) := fun y c hc => by
      split at hc
      · unfold rowG at hc
        rw [List.mem_map] at hc
        obtain ⟨x, _, rfl⟩ := hc
        rfl
      · cases hc
    have h1 := two a c hc
    have h2 := two b d hd
    rw [e, h2] at h1
    omega
theorem cAt_mem {cs : List (Int × Int)} {i : Nat} (hi : i < cs.length) : cAt cs i ∈ cs := by
  unfold cAt
  rw [List.getD_eq_getElem?_getD, List.getElem?_eq_getElem hi]
  exact List.getElem_mem hi
theorem grid_ne {ff : List (List Bool)} {w h dx dy i j : Nat} (hi : i < (gridF ff w h dx dy).length) (hj : j < (gridF ff w h dx dy).length) (hne : i ≠ j) : cAt (gridF ff w h dx dy) i ≠ cAt (gridF ff w h dx dy) j := by
  have hp := List.pairwise_iff_getElem.1 (grid_pair ff w h dx dy)
  have e : ∀ k (hk : k < (gridF ff w h dx dy).length), cAt (gridF ff w h dx dy) k = (gridF ff w h dx dy)[k]'hk := fun k hk => by
    unfold cAt
    rw [List.getD_eq_getElem?_getD, List.getElem?_eq_getElem hk]; rfl
  rw [e i hi, e j hj]
  rcases Nat.lt_or_gt_of_ne hne with g | g
  · exact hp i j hi hj g
  · exact fun q => hp j i hj hi g q.symm
theorem same_mod {a b w d : Nat} (h1 : a % w = d) (h2 : b % w = d) (h3 : a < b + w) (h4 : b < a + w) : a = b := by
  rcases Nat.lt_trichotomy a b with g | g | g
  · have := mod_off h1 (j := b - a) (by omega) (by omega)
    rw [show a + (b - a) = b by omega] at this
    exact absurd h2 this
  · exact g
  · have := mod_off h2 (j := a - b) (by omega) (by omega)
    rw [show b + (a - b) = a by omega] at this
    exact absurd h1 this
theorem grid_apart {ff : List (List Bool)} {w h dx dy i j : Nat} (hi : i < (gridF ff w h dx dy).length) (hj : j < (gridF ff w h dx dy).length) (hne : i ≠ j) : overB (w : Int) (h : Int) (cAt (gridF ff w h dx dy) i) (cAt (gridF ff w h dx dy) j) = false := by
  have hn := grid_ne hi hj hne
  obtain ⟨x, y, e1, y1, x1, _⟩ := grid_mem (cAt_mem hi)
  obtain ⟨u, v, e2, v1, u1, _⟩ := grid_mem (cAt_mem hj)
  cases e : overB (w : Int) (h : Int) (cAt (gridF ff w h dx dy) i) (cAt (gridF ff w h dx dy) j)
  · rfl
  · rw [e1, e2] at e
    unfold overB at e
    rw [decide_eq_true_eq] at e
    dsimp only at e
    have hx := same_mod x1 u1 (by omega) (by omega)
    have hy := same_mod y1 v1 (by omega) (by omega)
    exact absurd (by rw [e1, e2, hx, hy]) hn
theorem grid_valid {ff : List (List Bool)} {w h dx dy : Nat} (hv : fieldB ff = true) (hs : sidesB (w : Int) (h : Int) = true) : cakesB (w : Int) (h : Int) (gridF ff w h dx dy) = true := by
  rw [cakesB_ok hs]
  unfold okTo
  rw [List.all_eq_true]
  intro i hi
  rw [List.mem_range] at hi
  have h1 := field_len hv
  have h2 := field_wide hv
  obtain ⟨x, y, e1, _, _, hwh⟩ := grid_mem (cAt_mem hi)
  obtain ⟨⟨q1, q2⟩, _⟩ := wholeB_iff.1 hwh
  have hon : onB (w : Int) (h : Int) (cAt (gridF ff w h dx dy) i) = true := by
    rw [e1]
    unfold onB
    rw [inB_mk (by dsimp only; omega), inB_mk (by dsimp only; omega)]; rfl
  rw [hon, Bool.true_and]
  cases e : anyOver (w : Int) (h : Int) (cAt (gridF ff w h dx dy) i) (gridF ff w h dx dy) i
  · rfl
  · unfold anyOver at e
    rw [List.any_eq_true] at e
    obtain ⟨j, hj, hjo⟩ := e
    rw [List.mem_range] at hj
    rw [grid_apart hi (by omega) (by omega)] at hjo
    cases hjo
/-- how many cells of a stretch lie within bounds -/
theorem S1_span (W a n : Nat) (d : Int) (h : a + n ≤ W) : S1 W (fun x => if a ≤ x ∧ x < a + n then d else 0) = n * d := by
  have cnt : ∀ m : Nat, S1 m (fun x => if a ≤ x ∧ x < a + n then d else 0) = ((min m (a + n) - min m a : Nat) : Int) * d := by
    intro m
    induction m with
    | zero => simp [S1]
    | succ m ih =>
      rw [S1_succ, ih]
      by_cases q : a ≤ m ∧ m < a + n
      · rw [if_pos q, show min (m + 1) (a + n) - min (m + 1) a = (min m (a + n) - min m a) + 1 by omega]
        rw [Int.natCast_add, Int.add_mul]; simp
      · rw [if_neg q, show min (m + 1) (a + n) - min (m + 1) a = min m (a + n) - min m a by omega]; simp
  rw [cnt, show min W (a + n) - min W a = n by omega]
def inF (w h : Nat) (c : Int × Int) (x y : Nat) : Int := if c.2 ≤ (y : Int) ∧ (y : Int) < c.2 + h then (if c.1 ≤ (x : Int) ∧ (x : Int) < c.1 + w then 1 else 0) else 0
theorem in_val (w h x y a b : Nat) : inF w h ((x : Int), (y : Int)) a b = if y ≤ b ∧ b < y + h then (if x ≤ a ∧ a < x + w then 1 else 0) else 0 := by
  have e1 : (y ≤ b ∧ b < y + h) ↔ ((y : Int) ≤ (b : Int) ∧ (b : Int) < (y : Int) + (h : Int)) := by omega
  have e2 : (x ≤ a ∧ a < x + w) ↔ ((x : Int) ≤ (a : Int) ∧ (a : Int) < (x : Int) + (w : Int)) := by omega
  unfold inF
  simp only [e1, e2]
theorem in_sum {W H w h x y : Nat} (h1 : x + w ≤ W) (h2 : y + h ≤ H) : S2 W H (fun a b => inF w h ((x : Int), (y : Int)) a b) = (h : Int) * (w : Int) := by
  have e : S2 W H (fun a b => inF w h ((x : Int), (y : Int)) a b) = S1 H (fun b => if y ≤ b ∧ b < y + h then (w : Int) else 0) := by
    unfold S2
    refine S1_congr fun b _ => ?_
    by_cases q : y ≤ b ∧ b < y + h
    · rw [if_pos q]
      have e3 : S1 W (fun a => inF w h ((x : Int), (y : Int)) a b) = S1 W (fun a => if x ≤ a ∧ a < x + w then (1 : Int) else 0) := S1_congr fun a _ => by rw [in_val, if_pos q]
      exact e3.trans ((S1_span W x w 1 h1).trans (Int.mul_one _))
    · rw [if_neg q]
      exact (S1_congr (g := fun _ => 0) fun a _ => by show inF w h ((x : Int), (y : Int)) a b = 0; rw [in_val, if_neg q]).trans (S1_zero W)
  rw [e, S1_span H y h (w : Int) h2]
def iceF (ff : List (List Bool)) (x y : Nat) : Int := if ice ff y x = true then 1 else 0
theorem cover_le {ff : List (List Bool)} {w h : Nat} {cs : List (Int × Int)} (hw : ∀ c ∈ cs, ∃ x y : Nat, c = ((x : Int), (y : Int)) ∧ wholeB ff w h x y = true) (hap : ∀ i j, i < cs.length → j < cs.length → i ≠ j → overB (w : Int) (h : Int) (cAt cs i) (cAt cs j) = false) :
    (cs.length : Int) * ((h : Int) * (w : Int)) ≤ S2 (wideB ff) ff.length (fun x y => iceF ff x y) := by
  rw [← S1_const, S1_congr (g := fun i => S2 (wideB ff) ff.length (fun a b => inF w h (cAt cs i) a b)) fun i hi => ?_]
  · have e : S1 cs.length (fun i => S2 (wideB ff) ff.length (fun a b => inF w h (cAt cs i) a b)) = S2 (wideB ff) ff.length (fun a b => S1 cs.length (fun i => inF w h (cAt cs i) a b)) := by
      unfold S2
      rw [S1_swap]
      exact S1_congr fun y _ => S1_swap _ _ _
    rw [e]
    refine S2_le fun a b ha hb => ?_
    have e2 : S1 cs.length (fun i => inF w h (cAt cs i) a b) = S1 cs.length (fun i => if (cAt cs i).2 ≤ (b : Int) ∧ (b : Int) < (cAt cs i).2 + h ∧ (cAt cs i).1 ≤ (a : Int) ∧ (a : Int) < (cAt cs i).1 + w then 1 else 0) := S1_congr fun i _ => by
      unfold inF
      split
      · split
        · rw [if_pos (by omega)]
        · rw [if_neg (by omega)]
      · rw [if_neg (by omega)]
    rw [e2]
    unfold iceF
    split
    · refine (S1_most fun j k hj hk p q => ?_).2
      false_or_by_contra
      rename_i hne
      have := hap j k hj hk hne
      unfold overB at this
      rw [decide_eq_false_iff_not] at this
      omega
    · rename_i hice
      rw [S1_congr (g := fun _ => 0) fun i hi => ?_, S1_zero]
      · exact Int.le_refl _
      · rw [if_neg fun q => ?_]
        obtain ⟨x, y, e1, hwh⟩ := hw _ (cAt_mem hi)
        rw [e1] at q
        dsimp only at q
        have := (wholeB_iff.1 hwh).2 (b - y) (by omega) (a - x) (by omega)
        rw [show y + (b - y) = b by omega, show x + (a - x) = a by omega] at this
        exact hice this
  · obtain ⟨x, y, e1, hwh⟩ := hw _ (cAt_mem hi)
    obtain ⟨⟨q1, q2⟩, _⟩ := wholeB_iff.1 hwh
    rw [e1, in_sum q2 q1]
theorem iceRow_S1 (r : List Bool) : ∀ n : Nat, n ≤ r.length → (iceRow (r.take n) : Int) = S1 n (fun x => if r.getD x false = true then 1 else 0)
  | 0, _ => rfl
  | n + 1, h => by
    have e : r[n]? = some (r.getD n false) := by rw [List.getD_eq_getElem?_getD, List.getElem?_eq_getElem (by omega)]; rfl
    rw [iceRow_snoc e, S1_succ, ← iceRow_S1 r n (by omega)]
    split <;> simp
theorem area_S2 {ff : List (List Bool)} (hv : fieldB ff = true) : (areaN ff : Int) = S2 (wideB ff) ff.length (fun x y => iceF ff x y) := by
  have part : ∀ n : Nat, n ≤ ff.length → (areaN (ff.take n) : Int) = S1 n (fun y => S1 (wideB ff) (fun x => iceF ff x y)) := by
    intro n
    induction n with
    | zero => intro _; rfl
    | succ n ih =>
      intro h
      have hr : ff[n]? = some (ff[n]'(by omega)) := List.getElem?_eq_getElem (by omega)
      have hl := (field_row hv hr).1
      rw [areaN_snoc hr, S1_succ, ← ih (by omega), Int.natCast_add]
      congr 1
      have := iceRow_S1 (ff[n]'(by omega)) _ (Nat.le_refl _)
      rw [List.take_length] at this
      rw [this, hl]
      refine S1_congr fun x _ => ?_
      unfold iceF ice
      rw [List.getD_eq_getElem?_getD (l := ff), hr]; rfl
  have := part _ (Nat.le_refl _)
  rw [List.take_length] at this
  exact this
theorem grid_area {ff : List (List Bool)} {w h dx dy : Nat} (hv : fieldB ff = true) : (gridF ff w h dx dy).length * w * h ≤ areaN ff := by
  have h1 := cover_le (ff := ff) (w := w) (h := h) (cs := gridF ff w h dx dy) (fun c hc => by
    obtain ⟨x, y, e, _, _, q⟩ := grid_mem hc
    exact ⟨x, y, e, q⟩) fun i j hi hj hne => grid_apart hi hj hne
  rw [← area_S2 hv] at h1
  have e : ((gridF ff w h dx dy).length : Int) * ((h : Int) * (w : Int)) = (((gridF ff w h dx dy).length * w * h : Nat) : Int) := by
    rw [Int.natCast_mul, Int.natCast_mul, Int.mul_assoc, Int.mul_comm (h : Int)]
  omega

end Go.Proofs.Ytiihenhddleooac

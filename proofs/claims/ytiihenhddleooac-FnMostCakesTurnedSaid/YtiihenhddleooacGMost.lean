/- Most cakes (pure): no more than there are, and no fewer than any cakes that are apart. -/
import Derived.Test.YtiihenhddleooacCMost
import Derived.Test.YtiihenhddleooacGCak
namespace Go.Proofs.Ytiihenhddleooac
open Go.RowKit
set_option linter.unusedVariables false
set_option linter.unusedSimpArgs false
theorem mS_apart {w h x y x' y' : Nat} (hx : x + w ≤ 5) (hx' : x' + w ≤ 5) : mS w x y h &&& mS w x' y' h = 0 ↔ overB (w : Int) (h : Int) ((x : Int), (y : Int)) ((x' : Int), (y' : Int)) = false := by
  rw [and_zero]
  unfold overB
  rw [decide_eq_false_iff_not]
  simp only
  constructor
  · intro hz ho
    have hm : ∃ p q, x ≤ p ∧ p < x + w ∧ x' ≤ p ∧ p < x' + w ∧ y ≤ q ∧ q < y + h ∧ y' ≤ q ∧ q < y' + h := by
      refine ⟨max x x', max y y', ?_⟩
      omega
    obtain ⟨p, q, h1, h2, h3, h4, h5, h6, h7, h8⟩ := hm
    refine hz (q * 5 + p) ?_
    rw [mS_bit hx (by omega) h, mS_bit hx' (by omega) h]
    exact ⟨decide_eq_true ⟨h1, h2, h5, h6⟩, decide_eq_true ⟨h3, h4, h7, h8⟩⟩
  · intro ho i hi
    have e : i = i / 5 * 5 + i % 5 := by omega
    have hp : i % 5 < 5 := Nat.mod_lt _ (by omega)
    rw [e, mS_bit hx hp h, mS_bit hx' hp h] at hi
    have h1 := of_decide_eq_true hi.1
    have h2 := of_decide_eq_true hi.2
    generalize i / 5 = q at *
    generalize i % 5 = p at *
    omega
def okL (ff : List (List Bool)) (w h : Nat) (L : List Nat) : Prop := (∀ b ∈ L, wholeB ff w h (b % wideB ff) (b / wideB ff) = true) ∧ L.Pairwise (fun b c => mS w (b % wideB ff) (b / wideB ff) h &&& mS w (c % wideB ff) (c / wideB ff) h = 0)
theorem most_ex (w h : Nat) : ∀ (f a : Nat) (ff : List (List Bool)), (1 ≤ ff.length ∧ ff.length ≤ 5) → wideB ff ≤ 5 → ∃ L, okL ff w h L ∧ (∀ b ∈ L, a ≤ b ∧ b < a + f) ∧ (L.length : Int) = mostG w h ff f a
  | 0, a, ff, _, _ => ⟨[], ⟨fun b hb => (by simp at hb), List.Pairwise.nil⟩, fun b hb => (by simp at hb), rfl⟩
  | f + 1, a, ff, hl, hw => by
    have h1 : ∃ L, okL ff w h L ∧ (∀ b ∈ L, a ≤ b ∧ b < a + (f + 1)) ∧ (L.length : Int) = mostG w h ff f (a + 1) := by
      obtain ⟨L, ho, hb, he⟩ := most_ex w h f (a + 1) ff hl hw
      exact ⟨L, ho, fun b hb' => by have := hb b hb'; omega, he⟩
    unfold mostG
    split
    · rename_i e
      split
      · obtain ⟨L, ⟨ho1, ho2⟩, hb, he⟩ := most_ex w h f (a + 1) (clr ff (mS w (a % wideB ff) (a / wideB ff) h)) (by rw [clr_len]; exact hl) (by rw [clr_wide hl.1]; exact hw)
        rw [clr_wide hl.1] at ho1 ho2
        have hbw : ∀ b ∈ L, wholeB ff w h (b % wideB ff) (b / wideB ff) = true ∧ mS w (b % wideB ff) (b / wideB ff) h &&& mS w (a % wideB ff) (a / wideB ff) h = 0 := fun b hb' => by
          have := ho1 b hb'
          rw [whole_clr hl hw, Bool.and_eq_true, decide_eq_true_eq] at this
          exact this
        refine ⟨a :: L, ⟨fun b hb' => ?_, List.Pairwise.cons (fun b hb' => ?_) ho2⟩, fun b hb' => ?_, ?_⟩
        · rcases List.mem_cons.1 hb' with rfl | hb'
          · exact e
          · exact (hbw b hb').1
        · rw [Nat.and_comm]; exact (hbw b hb').2
        · rcases List.mem_cons.1 hb' with rfl | hb'
          · omega
          · have := hb b hb'; omega
        · rw [List.length_cons, ← he]; omega
      · exact h1
    · exact h1
theorem mS_self {w h x y : Nat} (hw : 1 ≤ w) (hh : 1 ≤ h) (hx : x + w ≤ 5) : ¬ mS w x y h &&& mS w x y h = 0 := fun e => by
  rw [mS_apart hx hx] at e
  unfold overB at e
  rw [decide_eq_false_iff_not] at e
  simp only at e
  omega
theorem most_ge (w h : Nat) (hw1 : 1 ≤ w) (hh1 : 1 ≤ h) : ∀ (f a : Nat) (ff : List (List Bool)) (L : List Nat), (1 ≤ ff.length ∧ ff.length ≤ 5) → wideB ff ≤ 5 → okL ff w h L → (∀ b ∈ L, a ≤ b ∧ b < a + f) → (L.length : Int) ≤ mostG w h ff f a
  | 0, a, ff, L, _, _, _, hb => by
    cases L with
    | nil => simp [mostG]
    | cons b L => have := hb b (List.mem_cons_self ..); omega
  | f + 1, a, ff, L, hl, hw, ⟨ho1, ho2⟩, hb => by
    by_cases ha : a ∈ L
    · have e := ho1 a ha
      obtain ⟨s, t, rfl⟩ := List.append_of_mem ha
      have hxw : ∀ b ∈ s ++ a :: t, b % wideB ff + w ≤ 5 := fun b hb' => by
        have := (wholeB_iff.1 (ho1 b hb')).1.2; omega
      rw [List.pairwise_append, List.pairwise_cons] at ho2
      obtain ⟨p1, ⟨p2, p3⟩, p4⟩ := ho2
      have hself := mS_self (y := a / wideB ff) hw1 hh1 (hxw a ha)
      have hbw : ∀ b ∈ s ++ t, mS w (b % wideB ff) (b / wideB ff) h &&& mS w (a % wideB ff) (a / wideB ff) h = 0 := fun b hb' => by
        rcases List.mem_append.1 hb' with g | g
        · exact p4 b g a (List.mem_cons_self ..)
        · rw [Nat.and_comm]; exact p2 b g
      have ih := most_ge w h hw1 hh1 f (a + 1) (clr ff (mS w (a % wideB ff) (a / wideB ff) h)) (s ++ t) (by rw [clr_len]; exact hl) (by rw [clr_wide hl.1]; exact hw)
        ⟨fun b hb' => by
          rw [clr_wide hl.1, whole_clr hl hw, Bool.and_eq_true, decide_eq_true_eq]
          exact ⟨ho1 b (by rcases List.mem_append.1 hb' with g | g; exact List.mem_append_left _ g; exact List.mem_append_right _ (List.mem_cons_of_mem _ g)), hbw b hb'⟩,
         by
          rw [clr_wide hl.1, List.pairwise_append]
          exact ⟨p1, p3, fun b hb' c hc => p4 b hb' c (List.mem_cons_of_mem _ hc)⟩⟩
        (fun b hb' => by
          have h1 := hb b (by rcases List.mem_append.1 hb' with g | g; exact List.mem_append_left _ g; exact List.mem_append_right _ (List.mem_cons_of_mem _ g))
          have h2 : b ≠ a := fun e2 => by
            have := hbw b hb'
            rw [e2] at this
            exact hself this
          omega)
      unfold mostG
      rw [if_pos e]
      rw [List.length_append] at ih
      rw [List.length_append, List.length_cons]
      split <;> omega
    · have ih := most_ge w h hw1 hh1 f (a + 1) ff L hl hw ⟨ho1, ho2⟩ (fun b hb' => by
        have := hb b hb'
        have h2 : b ≠ a := fun e2 => ha (e2 ▸ hb')
        omega)
      unfold mostG
      split
      · split <;> omega
      · exact ih
/-- whole cakes that are apart are no more than the most -/
theorem most_grid {ff : List (List Bool)} {w h dx dy : Nat} (hv : fieldB ff = true) (hl : ff.length ≤ 5) (hw : wideB ff ≤ 5) (hw1 : 1 ≤ w) (hh1 : 1 ≤ h) : ((gridF ff w h dx dy).length : Int) ≤ mostG w h ff (ff.length * wideB ff) 0 := by
  have hl1 := field_len hv
  have hcell : ∀ c ∈ gridF ff w h dx dy, ∃ x y : Nat, c = ((x : Int), (y : Int)) ∧ wholeB ff w h x y = true ∧ (c.2.toNat * wideB ff + c.1.toNat) % wideB ff = x ∧ (c.2.toNat * wideB ff + c.1.toNat) / wideB ff = y ∧ x + w ≤ wideB ff ∧ y + h ≤ ff.length := fun c hc => by
    obtain ⟨x, y, h1, _, _, h4⟩ := grid_mem hc
    have hb := (wholeB_iff.1 h4).1
    refine ⟨x, y, h1, h4, ?_, ?_, hb.2, hb.1⟩
    · rw [h1]
      simp only [Int.toNat_natCast]
      rw [Nat.add_comm, Nat.add_mul_mod_self_right]
      exact Nat.mod_eq_of_lt (by omega)
    · rw [h1]
      simp only [Int.toNat_natCast]
      rw [Nat.add_comm, Nat.add_mul_div_right _ _ (by omega), Nat.div_eq_of_lt (by omega), Nat.zero_add]
  have := most_ge w h hw1 hh1 (ff.length * wideB ff) 0 ff ((gridF ff w h dx dy).map fun c => c.2.toNat * wideB ff + c.1.toNat) ⟨hl1.1, hl⟩ hw ⟨fun b hb => ?_, ?_⟩ (fun b hb => ?_)
  · rw [List.length_map] at this; exact this
  · obtain ⟨c, hc, rfl⟩ := List.mem_map.1 hb
    obtain ⟨x, y, h1, h2, h3, h4, _⟩ := hcell c hc
    rw [h3, h4]
    exact h2
  · rw [List.pairwise_map, List.pairwise_iff_getElem]
    intro i j hi hj hij
    obtain ⟨x, y, h1, h2, h3, h4, h5, _⟩ := hcell _ (List.getElem_mem hi)
    obtain ⟨x', y', g1, g2, g3, g4, g5, _⟩ := hcell _ (List.getElem_mem hj)
    rw [h3, h4, g3, g4, mS_apart (by omega) (by omega)]
    have ga := grid_apart (i := i) (j := j) hi hj (by omega)
    have ei : cAt (gridF ff w h dx dy) i = ((x : Int), (y : Int)) := by rw [← h1]; unfold cAt; rw [List.getD_eq_getElem?_getD, List.getElem?_eq_getElem hi]; rfl
    have ej : cAt (gridF ff w h dx dy) j = ((x' : Int), (y' : Int)) := by rw [← g1]; unfold cAt; rw [List.getD_eq_getElem?_getD, List.getElem?_eq_getElem hj]; rfl
    rw [ei, ej] at ga
    exact ga
  · obtain ⟨c, hc, rfl⟩ := List.mem_map.1 hb
    obtain ⟨x, y, h1, h2, _, _, h5, h6⟩ := hcell c hc
    rw [h1]
    simp only [Int.toNat_natCast]
    refine ⟨Nat.zero_le _, ?_⟩
    have : (y + 1) * wideB ff ≤ ff.length * wideB ff := Nat.mul_le_mul_right _ (by omega)
    rw [Nat.add_mul, Nat.one_mul] at this
    omega
/-- they cover no more than the ice -/
theorem most_area {ff : List (List Bool)} {w h : Nat} (hv : fieldB ff = true) (hl : ff.length ≤ 5) (hw : wideB ff ≤ 5) : mostG w h ff (ff.length * wideB ff) 0 * ((h : Int) * (w : Int)) ≤ (areaN ff : Int) := by
  have hl1 := field_len hv
  obtain ⟨L, ⟨ho1, ho2⟩, _, he⟩ := most_ex w h (ff.length * wideB ff) 0 ff ⟨hl1.1, hl⟩ hw
  rw [← he, area_S2 hv]
  have hsym : ∀ i j, i < L.length → j < L.length → i ≠ j → overB (w : Int) (h : Int) (cAt (L.map fun b => (((b % wideB ff : Nat) : Int), ((b / wideB ff : Nat) : Int))) i) (cAt (L.map fun b => (((b % wideB ff : Nat) : Int), ((b / wideB ff : Nat) : Int))) j) = false := fun i j hi hj hne => by
    have hc : ∀ k (hk : k < L.length), cAt (L.map fun b => (((b % wideB ff : Nat) : Int), ((b / wideB ff : Nat) : Int))) k = (((L[k] % wideB ff : Nat) : Int), ((L[k] / wideB ff : Nat) : Int)) := fun k hk => by
      unfold cAt
      rw [List.getD_eq_getElem?_getD, List.getElem?_map, List.getElem?_eq_getElem hk]; rfl
    have hxw : ∀ k (hk : k < L.length), L[k] % wideB ff + w ≤ 5 := fun k hk => by
      have := (wholeB_iff.1 (ho1 _ (List.getElem_mem hk))).1.2; omega
    rw [hc i hi, hc j hj, ← mS_apart (hxw i hi) (hxw j hj)]
    rw [List.pairwise_iff_getElem] at ho2
    rcases Nat.lt_or_gt_of_ne hne with g | g
    · exact ho2 i j hi hj g
    · rw [Nat.and_comm]; exact ho2 j i hj hi g
  have := cover_le (ff := ff) (w := w) (h := h) (cs := L.map fun b => (((b % wideB ff : Nat) : Int), ((b / wideB ff : Nat) : Int))) (fun c hc => by
    obtain ⟨b, hb, rfl⟩ := List.mem_map.1 hc
    exact ⟨_, _, rfl, ho1 b hb⟩) (fun i j hi hj hne => by
    rw [List.length_map] at hi hj
    exact hsym i j hi hj hne)
  rw [List.length_map] at this
  exact this

end Go.Proofs.Ytiihenhddleooac

/- Plain mathematics of chapter 5: turned heaps, a cake more, houses filled layer by layer, boxes. Nothing of the program. -/
import Derived.Test.YtggdnpaiaijhgaaHChg
import Derived.Test.YtggdnpaiaijhgaaTpF
namespace Go.Proofs.Ytggdnpaiaijhgaa
open Go.RowKit
set_option linter.unusedVariables false
set_option linter.unusedSimpArgs false
theorem tp_at2 {pp : List (List Int)} {x y : Nat} (hx : x < pp.length) (hy : y < wide pp) : at2 (tpF pp) x y = at2 pp y x := by
  unfold at2
  rw [List.getD_eq_getElem?_getD (l := tpF pp), tpF_at hy]
  simp only [Option.getD_some, colF]
  rw [List.getD_eq_getElem?_getD, List.getElem?_map, List.getElem?_eq_getElem hx]
  simp only [Option.map_some, Option.getD_some, List.getD_eq_getElem?_getD, List.getElem?_eq_getElem hx]
theorem tp_wide {pp : List (List Int)} (h : pondB pp = true) : wide (tpF pp) = pp.length := by
  have hw := pond_wide h
  unfold wide
  rw [List.getD_eq_getElem?_getD, tpF_at (m := 0) (by omega)]
  exact colF_len pp 0
theorem heap_turned {pp : List (List Int)} (h : heapB pp = true) : heapB (tpF pp) = true := by
  have hp := heap_pond h
  have hl := grid_len h
  have hw := pond_wide hp
  refine grid_mk (W := pp.length) (by rw [tpF_len]; exact hw) (tp_wide hp) fun r hr => ?_
  obtain ⟨j, hj, e⟩ := List.getElem_of_mem hr
  rw [tpF_len] at hj
  have he := tpF_at (pp := pp) hj
  rw [List.getElem?_eq_getElem (by rw [tpF_len]; exact hj), e] at he
  injection he with he
  subst he
  rw [colF_len]
  refine ⟨rfl, hl.1, hl.2, fun z hz => ?_⟩
  unfold colF at hz
  rw [List.mem_map] at hz
  obtain ⟨r, hr, rfl⟩ := hz
  obtain ⟨k, hk, e⟩ := List.getElem_of_mem hr
  obtain ⟨g1, g2, g3, g4⟩ := grid_row h (k := k) (row := r) (by rw [List.getElem?_eq_getElem hk, e])
  refine g4 _ ?_
  rw [List.getD_eq_getElem?_getD, List.getElem?_eq_getElem (by omega)]
  exact List.getElem_mem _
theorem tp_hgt {pp : List (List Int)} (h : heapB pp = true) (x y : Int) : hgt (tpF pp) x y = hgt pp y x := by
  unfold hgt
  rw [tp_wide (heap_pond h), tpF_len]
  by_cases hh : 0 ≤ x ∧ x < pp.length ∧ 0 ≤ y ∧ y < wide pp
  · rw [if_pos hh, if_pos ⟨by omega, by omega, by omega, by omega⟩]
    exact tp_at2 (by omega) (by omega)
  · rw [if_neg hh, if_neg fun h2 => hh ⟨by omega, by omega, by omega, by omega⟩]
theorem tp_cakes {pp : List (List Int)} (h : heapB pp = true) : cakesF (tpF pp) = cakesF pp := by
  rw [cakes_S2 fun k r hk => (grid_row (heap_turned h) hk).1, cakes_S2 fun k r hk => (grid_row h hk).1, tp_wide (heap_pond h), tpF_len, S2_swap]
  exact S2_congr fun x y _ _ => tp_hgt h _ _
theorem tp_faces {pp : List (List Int)} (h : heapB pp = true) : facesF (tpF pp) = facesF pp := by
  unfold facesF
  rw [tp_wide (heap_pond h), tpF_len, S2_swap]
  refine S2_congr fun x y _ _ => ?_
  simp only [cellF, tp_hgt h]
  omega
/-! ### five faces at least -/
theorem walk_low (g : Int → Int) (h : g (-1) ≤ 0) : ∀ x : Nat, 1 ≤ g x → ∃ a : Nat, a ≤ x ∧ 1 ≤ g a ∧ g ((a : Int) - 1) ≤ 0
  | 0, hx => ⟨0, Nat.le_refl _, hx, by simpa using h⟩
  | x + 1, hx => by
    by_cases hz : g (x : Int) ≤ 0
    · exact ⟨x + 1, Nat.le_refl _, hx, by rw [show (((x + 1 : Nat) : Int) - 1) = (x : Int) by omega]; exact hz⟩
    · obtain ⟨a, h1, h2, h3⟩ := walk_low g h x (by omega)
      exact ⟨a, by omega, h2, h3⟩
theorem walk_high (g : Int → Int) (n : Nat) (h : g n ≤ 0) : ∀ d x : Nat, x + d + 1 = n → 1 ≤ g x → ∃ a : Nat, a < n ∧ 1 ≤ g a ∧ g ((a : Int) + 1) ≤ 0
  | 0, x, hd, hx => ⟨x, by omega, hx, by rw [show ((x : Int) + 1) = (n : Int) by omega]; exact h⟩
  | d + 1, x, hd, hx => by
    by_cases hz : g ((x : Int) + 1) ≤ 0
    · exact ⟨x, by omega, hx, hz⟩
    · exact walk_high g n h d (x + 1) (by omega) (by rw [show (((x + 1 : Nat)) : Int) = (x : Int) + 1 by omega]; omega)
theorem ov_ge {a b : Int} (ha : 1 ≤ a) (hb : b ≤ 0) : 1 ≤ ovF a b := by unfold ovF; split <;> omega
theorem faces_five {pp : List (List Int)} (h : heapB pp = true) (hc : 0 < cakesF pp) : 5 ≤ facesF pp := by
  have hp := heap_pond h
  have hw := pond_wide hp
  have hk := hiF_lt hp
  have hpos := hi_pos h hc
  rw [← hgt_thk hp hk] at hpos
  have hx := Nat.mod_lt (hiF pp) (show 0 < wide pp by omega)
  have hy := row_y hk
  generalize hiF pp % wide pp = x0 at *
  generalize hiF pp / wide pp = y0 at *
  have e : facesF pp = S2 (wide pp) pp.length (fun x y => topF (hgt pp x y)) + S2 (wide pp) pp.length (fun x y => ovF (hgt pp x y) (hgt pp ((x : Int) - 1) y)) + S2 (wide pp) pp.length (fun x y => ovF (hgt pp x y) (hgt pp ((x : Int) + 1) y)) + S2 (wide pp) pp.length (fun x y => ovF (hgt pp x y) (hgt pp x ((y : Int) - 1))) + S2 (wide pp) pp.length (fun x y => ovF (hgt pp x y) (hgt pp x ((y : Int) + 1))) := by
    rw [← S2_add, ← S2_add, ← S2_add, ← S2_add]; rfl
  have s0 := S2_ge (W := wide pp) (H := pp.length) (f := fun x y => topF (hgt pp x y)) (fun _ _ _ _ => topF_nn) hx hy
  have t0 : topF (hgt pp x0 y0) = 1 := by unfold topF; rw [if_neg (by omega)]
  obtain ⟨a1, h1, h2, h3⟩ := walk_low (fun x => hgt pp x y0) (by show hgt pp (-1) y0 ≤ 0; rw [hgt_out (by omega)]; omega) x0 (by show 1 ≤ hgt pp x0 y0; omega)
  have s1 := S2_ge (W := wide pp) (H := pp.length) (f := fun x y => ovF (hgt pp x y) (hgt pp ((x : Int) - 1) y)) (fun _ _ _ _ => ovF_nn) (a := a1) (b := y0) (by omega) hy
  have t1 := ov_ge h2 h3
  obtain ⟨a2, h4, h5, h6⟩ := walk_high (fun x => hgt pp x y0) (wide pp) (by show hgt pp (wide pp) y0 ≤ 0; rw [hgt_out (by omega)]; omega) (wide pp - x0 - 1) x0 (by omega) (by show 1 ≤ hgt pp x0 y0; omega)
  have s2 := S2_ge (W := wide pp) (H := pp.length) (f := fun x y => ovF (hgt pp x y) (hgt pp ((x : Int) + 1) y)) (fun _ _ _ _ => ovF_nn) (a := a2) (b := y0) h4 hy
  have t2 := ov_ge h5 h6
  obtain ⟨a3, h7, h8, h9⟩ := walk_low (fun y => hgt pp x0 y) (by show hgt pp x0 (-1) ≤ 0; rw [hgt_out (by omega)]; omega) y0 (by show 1 ≤ hgt pp x0 y0; omega)
  have s3 := S2_ge (W := wide pp) (H := pp.length) (f := fun x y => ovF (hgt pp x y) (hgt pp x ((y : Int) - 1))) (fun _ _ _ _ => ovF_nn) (a := x0) (b := a3) hx (by omega)
  have t3 := ov_ge h8 h9
  obtain ⟨a4, h10, h11, h12⟩ := walk_high (fun y => hgt pp x0 y) pp.length (by show hgt pp x0 pp.length ≤ 0; rw [hgt_out (by omega)]; omega) (pp.length - y0 - 1) y0 (by omega) (by show 1 ≤ hgt pp x0 y0; omega)
  have s4 := S2_ge (W := wide pp) (H := pp.length) (f := fun x y => ovF (hgt pp x y) (hgt pp x ((y : Int) + 1))) (fun _ _ _ _ => ovF_nn) (a := x0) (b := a4) hx h10
  have t4 := ov_ge h11 h12
  omega
theorem faces_none {pp : List (List Int)} (h : heapB pp = true) (hc : cakesF pp = 0) : facesF pp = 0 := by
  have := faces_bd h
  omega
/-! ### a cake more -/
theorem S2_indZ (W H : Nat) (a b d : Int) : S2 W H (fun x y => if (x : Int) = a ∧ (y : Int) = b then d else 0) = if 0 ≤ a ∧ a < W ∧ 0 ≤ b ∧ b < H then d else 0 := by
  by_cases h : 0 ≤ a ∧ 0 ≤ b
  · obtain ⟨a', rfl⟩ := Int.eq_ofNat_of_zero_le h.1
    obtain ⟨b', rfl⟩ := Int.eq_ofNat_of_zero_le h.2
    have e := S2_ind W H a' b' d
    have e2 : S2 W H (fun x y => if (x : Int) = (a' : Int) ∧ (y : Int) = (b' : Int) then d else 0) = S2 W H (fun x y => if x = a' ∧ y = b' then d else 0) := S2_congr fun x y _ _ => by
      by_cases hh : x = a' ∧ y = b'
      · rw [if_pos hh, if_pos ⟨by omega, by omega⟩]
      · rw [if_neg hh, if_neg fun h2 => hh ⟨by omega, by omega⟩]
    rw [e2, e]
    by_cases hh : a' < W ∧ b' < H
    · rw [if_pos hh, if_pos ⟨by omega, by omega, by omega, by omega⟩]
    · rw [if_neg hh, if_neg fun h2 => hh ⟨by omega, by omega⟩]
  · rw [if_neg (by omega)]
    have e2 : S2 W H (fun x y => if (x : Int) = a ∧ (y : Int) = b then d else 0) = S2 W H (fun _ _ => 0) := S2_congr fun x y _ _ => by
      rw [if_neg (by omega)]
    rw [e2, S2_const]; simp
/-- what a neighbour higher than a takes -/
def lossF (pp : List (List Int)) (a x y : Int) : Int := if a < hgt pp x y then -1 else 0
theorem ov_own (a b : Int) : ovF (a + 1) b = ovF a b + 1 + (if a < b then -1 else 0) := by unfold ovF; split <;> split <;> (try split) <;> omega
theorem ov_other (a b : Int) : ovF b (a + 1) = ovF b a + (if a < b then -1 else 0) := by unfold ovF; split <;> split <;> (try split) <;> omega
theorem top_own (a : Int) (h : 0 ≤ a) : topF (a + 1) = topF a + (if a = 0 then 1 else 0) := by unfold topF; split <;> split <;> (try split) <;> omega
theorem cell_more (H H' : Int → Int → Int) (x0 y0 a : Int) (ha : 0 ≤ a) (h0 : H x0 y0 = a) (hh : ∀ x y, H' x y = if x = x0 ∧ y = y0 then a + 1 else H x y) (x y : Int) :
    topF (H' x y) + ovF (H' x y) (H' (x - 1) y) + ovF (H' x y) (H' (x + 1) y) + ovF (H' x y) (H' x (y - 1)) + ovF (H' x y) (H' x (y + 1)) =
    topF (H x y) + ovF (H x y) (H (x - 1) y) + ovF (H x y) (H (x + 1) y) + ovF (H x y) (H x (y - 1)) + ovF (H x y) (H x (y + 1)) +
    ((if x = x0 ∧ y = y0 then (if a = 0 then 5 else 4) + ((if a < H (x0 - 1) y0 then -1 else 0) + (if a < H (x0 + 1) y0 then -1 else 0) + (if a < H x0 (y0 - 1) then -1 else 0) + (if a < H x0 (y0 + 1) then -1 else 0)) else 0)
     + (if x = x0 - 1 ∧ y = y0 then (if a < H (x0 - 1) y0 then -1 else 0) else 0)
     + (if x = x0 + 1 ∧ y = y0 then (if a < H (x0 + 1) y0 then -1 else 0) else 0)
     + (if x = x0 ∧ y = y0 - 1 then (if a < H x0 (y0 - 1) then -1 else 0) else 0)
     + (if x = x0 ∧ y = y0 + 1 then (if a < H x0 (y0 + 1) then -1 else 0) else 0)) := by
  by_cases c0 : x = x0 ∧ y = y0
  · obtain ⟨rfl, rfl⟩ := c0
    have e0 : H' x y = a + 1 := by rw [hh, if_pos ⟨rfl, rfl⟩]
    have e1 : H' (x - 1) y = H (x - 1) y := by rw [hh, if_neg (by omega)]
    have e2 : H' (x + 1) y = H (x + 1) y := by rw [hh, if_neg (by omega)]
    have e3 : H' x (y - 1) = H x (y - 1) := by rw [hh, if_neg (by omega)]
    have e4 : H' x (y + 1) = H x (y + 1) := by rw [hh, if_neg (by omega)]
    rw [e0, e1, e2, e3, e4, h0, ov_own, ov_own, ov_own, ov_own, top_own a ha]
    have n1 : ¬(x = x - 1 ∧ y = y) := by omega
    have n2 : ¬(x = x + 1 ∧ y = y) := by omega
    have n3 : ¬(x = x ∧ y = y - 1) := by omega
    have n4 : ¬(x = x ∧ y = y + 1) := by omega
    rw [if_pos (⟨rfl, rfl⟩ : x = x ∧ y = y), if_neg n1, if_neg n2, if_neg n3, if_neg n4]
    by_cases ha0 : a = 0
    · rw [if_pos ha0, if_pos ha0]; omega
    · rw [if_neg ha0, if_neg ha0]; omega
  · have e0 : H' x y = H x y := by rw [hh, if_neg c0]
    rw [e0, if_neg c0]
    by_cases c1 : x = x0 - 1 ∧ y = y0
    · obtain ⟨rfl, rfl⟩ := c1
      have e1 : H' (x0 - 1 - 1) y = H (x0 - 1 - 1) y := by rw [hh, if_neg (by omega)]
      have e2 : H' (x0 - 1 + 1) y = a + 1 := by rw [hh, if_pos ⟨by omega, rfl⟩]
      have e2' : H (x0 - 1 + 1) y = a := by rw [show x0 - 1 + 1 = x0 by omega]; exact h0
      have e3 : H' (x0 - 1) (y - 1) = H (x0 - 1) (y - 1) := by rw [hh, if_neg (by omega)]
      have e4 : H' (x0 - 1) (y + 1) = H (x0 - 1) (y + 1) := by rw [hh, if_neg (by omega)]
      have n2 : ¬(x0 - 1 = x0 + 1 ∧ y = y) := by omega
      have n3 : ¬(x0 - 1 = x0 ∧ y = y - 1) := by omega
      have n4 : ¬(x0 - 1 = x0 ∧ y = y + 1) := by omega
      rw [e1, e2, e2', e3, e4, ov_other, if_pos (⟨rfl, rfl⟩ : x0 - 1 = x0 - 1 ∧ y = y), if_neg n2, if_neg n3, if_neg n4]
      omega
    · rw [if_neg c1]
      have e2 : H' (x + 1) y = H (x + 1) y := by rw [hh, if_neg (by omega)]
      rw [e2]
      by_cases c2 : x = x0 + 1 ∧ y = y0
      · obtain ⟨rfl, rfl⟩ := c2
        have e1 : H' (x0 + 1 - 1) y = a + 1 := by rw [hh, if_pos ⟨by omega, rfl⟩]
        have e1' : H (x0 + 1 - 1) y = a := by rw [show x0 + 1 - 1 = x0 by omega]; exact h0
        have e3 : H' (x0 + 1) (y - 1) = H (x0 + 1) (y - 1) := by rw [hh, if_neg (by omega)]
        have e4 : H' (x0 + 1) (y + 1) = H (x0 + 1) (y + 1) := by rw [hh, if_neg (by omega)]
        have n3 : ¬(x0 + 1 = x0 ∧ y = y - 1) := by omega
        have n4 : ¬(x0 + 1 = x0 ∧ y = y + 1) := by omega
        rw [e1, e1', e3, e4, ov_other, if_pos (⟨rfl, rfl⟩ : x0 + 1 = x0 + 1 ∧ y = y), if_neg n3, if_neg n4]
        omega
      · rw [if_neg c2]
        have e1 : H' (x - 1) y = H (x - 1) y := by rw [hh, if_neg (by omega)]
        rw [e1]
        by_cases c3 : x = x0 ∧ y = y0 - 1
        · obtain ⟨rfl, rfl⟩ := c3
          have e3 : H' x (y0 - 1 - 1) = H x (y0 - 1 - 1) := by rw [hh, if_neg (by omega)]
          have e4 : H' x (y0 - 1 + 1) = a + 1 := by rw [hh, if_pos ⟨rfl, by omega⟩]
          have e4' : H x (y0 - 1 + 1) = a := by rw [show y0 - 1 + 1 = y0 by omega]; exact h0
          have n4 : ¬(x = x ∧ y0 - 1 = y0 + 1) := by omega
          rw [e3, e4, e4', ov_other, if_pos (⟨rfl, rfl⟩ : x = x ∧ y0 - 1 = y0 - 1), if_neg n4]
          omega
        · rw [if_neg c3]
          have e4 : H' x (y + 1) = H x (y + 1) := by rw [hh, if_neg (by omega)]
          rw [e4]
          by_cases c4 : x = x0 ∧ y = y0 + 1
          · obtain ⟨rfl, rfl⟩ := c4
            have e3 : H' x (y0 + 1 - 1) = a + 1 := by rw [hh, if_pos ⟨rfl, by omega⟩]
            have e3' : H x (y0 + 1 - 1) = a := by rw [show y0 + 1 - 1 = y0 by omega]; exact h0
            rw [e3, e3', ov_other, if_pos (⟨rfl, rfl⟩ : x = x ∧ y0 + 1 = y0 + 1)]
            omega
          · have e3 : H' x (y - 1) = H x (y - 1) := by rw [hh, if_neg (by omega)]
            rw [e3, if_neg c4]
            omega
theorem faces_more {pp : List (List Int)} {k : Nat} (h : heapB pp = true) (hk : k < cnt pp) :
    facesF (addF pp k 1) = facesF pp + (if thk pp k = 0 then 5 else 4) + 2 * (lossF pp (thk pp k) (((k % wide pp : Nat) : Int) - 1) ((k / wide pp : Nat) : Int) + lossF pp (thk pp k) (((k % wide pp : Nat) : Int) + 1) ((k / wide pp : Nat) : Int) + lossF pp (thk pp k) ((k % wide pp : Nat) : Int) (((k / wide pp : Nat) : Int) - 1) + lossF pp (thk pp k) ((k % wide pp : Nat) : Int) (((k / wide pp : Nat) : Int) + 1)) := by
  have hp := heap_pond h
  have hw := pond_wide hp
  have hx := Nat.mod_lt k (show 0 < wide pp by omega)
  have hy := row_y hk
  have ha := (heap_thk h hk).1
  have h0 := hgt_thk hp hk
  have hh : ∀ x y, hgt (addF pp k 1) x y = if x = ((k % wide pp : Nat) : Int) ∧ y = ((k / wide pp : Nat) : Int) then thk pp k + 1 else hgt pp x y := fun x y => set_hgt hp hk x y
  have hin : ∀ x y, ¬(0 ≤ x ∧ x < (wide pp : Int) ∧ 0 ≤ y ∧ y < (pp.length : Int)) → lossF pp (thk pp k) x y = 0 := fun x y hn => by
    unfold lossF
    rw [hgt_out hn, if_neg (by omega)]
  have hz : ∀ x y, (if 0 ≤ x ∧ x < (wide pp : Int) ∧ 0 ≤ y ∧ y < (pp.length : Int) then lossF pp (thk pp k) x y else 0) = lossF pp (thk pp k) x y := fun x y => by
    by_cases hn : 0 ≤ x ∧ x < (wide pp : Int) ∧ 0 ≤ y ∧ y < (pp.length : Int)
    · rw [if_pos hn]
    · rw [if_neg hn, hin x y hn]
  generalize hX : k % wide pp = x0 at *
  generalize hY : k / wide pp = y0 at *
  generalize thk pp k = a at *
  unfold facesF
  rw [addF_wide, addF_len]
  have e : S2 (wide pp) pp.length (fun x y => cellF (addF pp k 1) x y) = S2 (wide pp) pp.length (fun x y => cellF pp x y +
    ((if (x : Int) = x0 ∧ (y : Int) = y0 then (if a = 0 then 5 else 4) + (lossF pp a ((x0 : Int) - 1) y0 + lossF pp a ((x0 : Int) + 1) y0 + lossF pp a x0 ((y0 : Int) - 1) + lossF pp a x0 ((y0 : Int) + 1)) else 0)
     + (if (x : Int) = (x0 : Int) - 1 ∧ (y : Int) = y0 then lossF pp a ((x0 : Int) - 1) y0 else 0)
     + (if (x : Int) = (x0 : Int) + 1 ∧ (y : Int) = y0 then lossF pp a ((x0 : Int) + 1) y0 else 0)
     + (if (x : Int) = x0 ∧ (y : Int) = (y0 : Int) - 1 then lossF pp a x0 ((y0 : Int) - 1) else 0)
     + (if (x : Int) = x0 ∧ (y : Int) = (y0 : Int) + 1 then lossF pp a x0 ((y0 : Int) + 1) else 0))) :=
    S2_congr fun x y _ _ => cell_more (hgt pp) (hgt (addF pp k 1)) x0 y0 a ha h0 hh x y
  rw [e, S2_add, S2_add, S2_add, S2_add, S2_add, S2_indZ, S2_indZ, S2_indZ, S2_indZ, S2_indZ, hz, hz, hz, hz, if_pos ⟨by omega, by omega, by omega, by omega⟩]
  omega

end Go.Proofs.Ytggdnpaiaijhgaa

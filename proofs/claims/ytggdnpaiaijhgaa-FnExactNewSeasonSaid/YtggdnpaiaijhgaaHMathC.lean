/- Plain mathematics of chapter 5: houses filled layer by layer, boxes and their faces. Nothing of the program. -/
import Derived.Test.YtggdnpaiaijhgaaHMathB
namespace Go.Proofs.Ytggdnpaiaijhgaa
open Go.RowKit
set_option linter.unusedVariables false
set_option linter.unusedSimpArgs false
def layC (w d n x y : Nat) : Int := ((n / (w * d) : Nat) : Int) + (if y * w + x < n % (w * d) then 1 else 0)
def layRow (w d n y : Nat) : List Int := (List.range w).map (fun x => layC w d n x y)
def layF (w d n : Nat) : List (List Int) := (List.range d).map (layRow w d n)
theorem layRow_len (w d n y : Nat) : (layRow w d n y).length = w := by simp [layRow]
theorem layF_len (w d n : Nat) : (layF w d n).length = d := by simp [layF]
theorem layRow_at {w d n y x : Nat} (h : x < w) : (layRow w d n y)[x]? = some (layC w d n x y) := by
  unfold layRow; rw [List.getElem?_map, List.getElem?_range h]; rfl
theorem layF_at {w d n y : Nat} (h : y < d) : (layF w d n)[y]? = some (layRow w d n y) := by
  unfold layF; rw [List.getElem?_map, List.getElem?_range h]; rfl
theorem layF_wide {w d n : Nat} (h : 0 < d) : wide (layF w d n) = w := by
  unfold wide
  rw [List.getD_eq_getElem?_getD, layF_at h]
  exact layRow_len ..
theorem lay_at2 {w d n x y : Nat} (hx : x < w) (hy : y < d) : at2 (layF w d n) x y = layC w d n x y := by
  unfold at2
  rw [List.getD_eq_getElem?_getD (l := layF w d n), layF_at hy]
  simp only [Option.getD_some]
  rw [List.getD_eq_getElem?_getD, layRow_at hx]; rfl
theorem cell_in {w d x y : Nat} (hx : x < w) (hy : y < d) : y * w + x < w * d := by
  have : (y + 1) * w ≤ d * w := Nat.mul_le_mul hy (Nat.le_refl _)
  rw [Nat.add_mul] at this
  rw [Nat.mul_comm w d]
  omega
theorem layC_bd {w d n x y : Nat} (hw : 0 < w) (hd : 0 < d) (hn : n ≤ w * d * 12) : 0 ≤ layC w d n x y ∧ layC w d n x y ≤ 12 := by
  have hm : 0 < w * d := Nat.mul_pos hw hd
  have h1 : n / (w * d) ≤ 12 := Nat.div_le_of_le_mul hn
  have h2 := Nat.div_add_mod n (w * d)
  unfold layC
  split
  · next h =>
    have h3 : n / (w * d) < 12 := by
      rcases Nat.lt_or_ge (n / (w * d)) 12 with h4 | h4
      · exact h4
      · have h5 : n / (w * d) = 12 := by omega
        rw [h5] at h2
        omega
    generalize n / (w * d) = q at *
    omega
  · generalize n / (w * d) = q at *
    omega
theorem lay_heap {w d n : Nat} (hw : 1 ≤ w ∧ w ≤ 9) (hd : 1 ≤ d ∧ d ≤ 9) (hn : n ≤ w * d * 12) : heapB (layF w d n) = true := by
  refine grid_mk (W := w) (by rw [layF_len]; exact hd) (layF_wide (by omega)) fun r hr => ?_
  unfold layF at hr
  rw [List.mem_map] at hr
  obtain ⟨y, _, rfl⟩ := hr
  rw [layRow_len]
  refine ⟨rfl, hw.1, hw.2, fun z hz => ?_⟩
  unfold layRow at hz
  rw [List.mem_map] at hz
  obtain ⟨x, _, rfl⟩ := hz
  exact layC_bd (by omega) (by omega) hn
theorem lay_cnt {w d n : Nat} (hd : 0 < d) : cnt (layF w d n) = w * d := by unfold cnt; rw [layF_len, layF_wide hd, Nat.mul_comm]
theorem lay_thk {w d n k : Nat} (hw : 0 < w) (hd : 0 < d) (hk : k < w * d) : thk (layF w d n) k = ((n / (w * d) : Nat) : Int) + (if k < n % (w * d) then 1 else 0) := by
  rw [thk_at2, layF_wide hd, lay_at2 (Nat.mod_lt _ hw) (div_lt (by rw [Nat.mul_comm]; exact hk))]
  unfold layC
  have := Nat.div_add_mod k w
  rw [Nat.mul_comm] at this
  rw [this]
theorem succ_divmod (n m : Nat) (hm : 0 < m) : (n % m + 1 = m ∧ (n + 1) / m = n / m + 1 ∧ (n + 1) % m = 0) ∨ (n % m + 1 < m ∧ (n + 1) / m = n / m ∧ (n + 1) % m = n % m + 1) := by
  have h1 := Nat.div_add_mod n m
  have h2 := Nat.mod_lt n hm
  by_cases h : n % m + 1 = m
  · left
    have e : n + 1 = m * (n / m + 1) := by rw [Nat.mul_add]; omega
    refine ⟨h, ?_, ?_⟩
    · rw [e, Nat.mul_div_cancel_left _ hm]
    · rw [e, Nat.mul_mod_right]
  · right
    have hlt : n % m + 1 < m := by omega
    have e : n + 1 = (n % m + 1) + m * (n / m) := by omega
    refine ⟨hlt, ?_, ?_⟩
    · rw [e, Nat.add_mul_div_left _ _ hm, Nat.div_eq_of_lt hlt, Nat.zero_add]
    · rw [e, Nat.add_mul_mod_self_left, Nat.mod_eq_of_lt hlt]
theorem grid_ext {pp qq : List (List Int)} (hl : pp.length = qq.length) (hr : ∀ (k : Nat) (r s : List Int), pp[k]? = some r → qq[k]? = some s → r.length = s.length ∧ ∀ x, x < r.length → at2 pp x k = at2 qq x k) : pp = qq := by
  apply List.ext_getElem hl
  intro k h1 h2
  have hp := List.getElem?_eq_getElem h1
  have hq := List.getElem?_eq_getElem h2
  obtain ⟨g1, g2⟩ := hr k _ _ hp hq
  apply List.ext_getElem g1
  intro x h3 h4
  have h5 := g2 x h3
  unfold at2 at h5
  rw [List.getD_eq_getElem?_getD (l := pp), List.getD_eq_getElem?_getD (l := qq), hp, hq] at h5
  simpa [List.getD_eq_getElem?_getD, h3, h4] using h5
theorem lay_succ {w d n : Nat} (hw : 1 ≤ w ∧ w ≤ 9) (hd : 1 ≤ d ∧ d ≤ 9) (hn : n + 1 ≤ w * d * 12) : addF (layF w d n) (n % (w * d)) 1 = layF w d (n + 1) := by
  have hm : 0 < w * d := Nat.mul_pos (by omega) (by omega)
  have hk : n % (w * d) < w * d := Nat.mod_lt _ hm
  have hv := lay_heap (n := n) hw hd (by omega)
  have hkc : n % (w * d) < cnt (layF w d n) := by rw [lay_cnt (by omega)]; exact hk
  refine grid_ext (by rw [addF_len, layF_len, layF_len]) fun y r s hr hs => ?_
  have hy : y < d := by have := (List.getElem?_eq_some_iff.1 hs).1; rwa [layF_len] at this
  have hrl : r.length = w := by
    have hv2 : heapB (addF (layF w d n) (n % (w * d)) 1) = true := by
      refine addF_heap hv ?_
      rw [lay_thk (by omega) (by omega) hk, if_neg (by omega)]
      have h2 := Nat.div_add_mod n (w * d)
      have h3 : n / (w * d) < 12 := by
        rcases Nat.lt_or_ge (n / (w * d)) 12 with h4 | h4
        · exact h4
        · have h5 : w * d * 12 ≤ w * d * (n / (w * d)) := Nat.mul_le_mul_left _ h4
          omega
      generalize n / (w * d) = q at *
      omega
    rw [(grid_row hv2 hr).1, addF_wide, layF_wide (by omega)]
  rw [layF_at hy] at hs
  injection hs with hs
  subst hs
  rw [layRow_len]
  refine ⟨hrl, fun x hx => ?_⟩
  rw [hrl] at hx
  unfold addF
  rw [set_at2 (by rw [layF_wide (by omega)]; exact hx) (fun r hr => (grid_row hv hr).1) hkc, layF_wide (by omega), lay_at2 hx hy, lay_at2 hx hy, lay_thk (by omega) (by omega) hk]
  have hc := cell_in hx hy
  have e : (x = n % (w * d) % w ∧ y = n % (w * d) / w) ↔ y * w + x = n % (w * d) := by
    constructor
    · rintro ⟨e1, e2⟩
      have := Nat.div_add_mod (n % (w * d)) w
      rw [← e1, ← e2, Nat.mul_comm] at this
      exact this
    · intro e
      rw [← e]
      constructor
      · rw [Nat.add_comm, Nat.add_mul_mod_self_right, Nat.mod_eq_of_lt hx]
      · rw [Nat.add_comm, Nat.add_mul_div_right _ _ (by omega), Nat.div_eq_of_lt hx, Nat.zero_add]
  unfold layC
  generalize y * w + x = c at *
  rcases succ_divmod n (w * d) hm with ⟨h1, h2, h3⟩ | ⟨h1, h2, h3⟩
  · rw [h2, h3]
    by_cases hh : c = n % (w * d)
    · rw [if_pos (e.2 hh), if_neg (by omega), if_neg (by omega)]; omega
    · rw [if_neg fun h => hh (e.1 h), if_pos (by omega), if_neg (by omega)]; omega
  · rw [h2, h3]
    by_cases hh : c = n % (w * d)
    · rw [if_pos (e.2 hh), if_neg (by omega), if_pos (by omega)]; omega
    · rw [if_neg fun h => hh (e.1 h)]
      by_cases h4 : c < n % (w * d)
      · rw [if_pos h4, if_pos (by omega)]
      · rw [if_neg h4, if_neg (by omega)]
theorem lay_cakes {w d : Nat} (hw : 1 ≤ w ∧ w ≤ 9) (hd : 1 ≤ d ∧ d ≤ 9) : ∀ n : Nat, n ≤ w * d * 12 → cakesF (layF w d n) = n
  | 0, _ => by
    have hv := lay_heap (n := 0) hw hd (by omega)
    have h1 := cakes_bd hv
    have h2 := cakes_pos hv fun c hc => by
      rw [lay_thk (by omega) (by omega) (by rwa [lay_cnt (by omega)] at hc), if_neg (by simp)]
      simp
    omega
  | n + 1, hn => by
    have hm : 0 < w * d := Nat.mul_pos (by omega) (by omega)
    rw [← lay_succ hw hd hn, cakes_add (lay_heap hw hd (by omega)) (by rw [lay_cnt (by omega)]; exact Nat.mod_lt _ hm), lay_cakes hw hd n (by omega)]
    omega
theorem lay_near {w d n x y : Nat} (hw : 1 ≤ w) (hd : 1 ≤ d) (hx : x < w) (hy : y < d) : layC w d n (w - 1) (d - 1) ≤ layC w d n x y ∧ layC w d n x y ≤ layC w d n (w - 1) (d - 1) + 1 := by
  have hm : 0 < w * d := Nat.mul_pos (by omega) (by omega)
  have hk : n % (w * d) < w * d := Nat.mod_lt _ hm
  have e : (d - 1) * w + (w - 1) = w * d - 1 := by
    have : w * d = (d - 1) * w + w := by
      obtain ⟨d', rfl⟩ : ∃ d', d = d' + 1 := ⟨d - 1, by omega⟩
      rw [Nat.add_sub_cancel, Nat.mul_comm, Nat.add_mul]; omega
    omega
  unfold layC
  rw [e]
  generalize w * d = m at *
  have : ¬ m - 1 < n % m := by omega
  rw [if_neg this]
  split <;> omega
/-! ### boxes -/
theorem S2_col (W H a : Nat) (d : Int) (ha : a < W) : S2 W H (fun x _ => if x = a then d else 0) = H * d := by
  unfold S2
  rw [S1_congr (g := fun _ => d) fun y _ => by rw [S1_ind, if_pos ha], S1_const]
theorem S2_row (W H b : Nat) (d : Int) (hb : b < H) : S2 W H (fun _ y => if y = b then d else 0) = W * d := by
  unfold S2
  rw [S1_congr (g := fun y => if y = b then (W : Int) * d else 0) fun y _ => by
    by_cases h : y = b
    · simp only [h, if_true]; exact S1_const W d
    · simp only [h, if_false]; exact S1_zero W, S1_ind, if_pos hb]
theorem box_hgt {w d h : Nat} (hw : 1 ≤ w) (hd : 1 ≤ d) (x y : Int) : hgt (layF w d (w * d * h)) x y = if 0 ≤ x ∧ x < w ∧ 0 ≤ y ∧ y < d then (h : Int) else 0 := by
  have hm : 0 < w * d := Nat.mul_pos (by omega) (by omega)
  unfold hgt
  rw [layF_wide (by omega), layF_len]
  by_cases hh : 0 ≤ x ∧ x < w ∧ 0 ≤ y ∧ y < d
  · rw [if_pos hh, if_pos hh, lay_at2 (by omega) (by omega)]
    unfold layC
    rw [Nat.mul_div_cancel_left _ hm, Nat.mul_mod_right, if_neg (by omega), Int.add_zero]
  · rw [if_neg hh, if_neg hh]
theorem box_faces {w d h : Nat} (hw : 1 ≤ w) (hd : 1 ≤ d) (hh : 1 ≤ h) : facesF (layF w d (w * d * h)) = (w : Int) * d + 2 * h * (w + d) := by
  unfold facesF
  rw [layF_wide (by omega), layF_len]
  have e : S2 w d (fun x y => cellF (layF w d (w * d * h)) x y) = S2 w d (fun x y => (((1 + (if x = 0 then (h : Int) else 0)) + (if x = w - 1 then (h : Int) else 0)) + (if y = 0 then (h : Int) else 0)) + (if y = d - 1 then (h : Int) else 0)) := by
    refine S2_congr fun x y hx hy => ?_
    unfold cellF
    simp only [box_hgt hw hd]
    rw [if_pos (by omega : (0 : Int) ≤ x ∧ (x : Int) < w ∧ (0 : Int) ≤ y ∧ (y : Int) < d)]
    have ht : topF (h : Int) = 1 := by unfold topF; rw [if_neg (by omega)]
    have ov : ∀ (p : Prop) [Decidable p], ovF (h : Int) (if p then (h : Int) else 0) = if p then 0 else (h : Int) := fun p _ => by unfold ovF; split <;> split <;> omega
    rw [ht, ov, ov, ov, ov]
    congr 1
    · congr 1
      · congr 1
        · congr 1
          by_cases h1 : x = 0
          · rw [if_pos h1, if_neg (by omega)]
          · rw [if_neg h1, if_pos (by omega)]
        · by_cases h1 : x = w - 1
          · rw [if_pos h1, if_neg (by omega)]
          · rw [if_neg h1, if_pos (by omega)]
      · by_cases h1 : y = 0
        · rw [if_pos h1, if_neg (by omega)]
        · rw [if_neg h1, if_pos (by omega)]
    · by_cases h1 : y = d - 1
      · rw [if_pos h1, if_neg (by omega)]
      · rw [if_neg h1, if_pos (by omega)]
  rw [e, S2_add, S2_add, S2_add, S2_add, S2_const, S2_col _ _ _ _ (by omega), S2_col _ _ _ _ (by omega), S2_row _ _ _ _ (by omega), S2_row _ _ _ _ (by omega), Int.mul_one, Int.mul_comm (d : Int) (w : Int), Int.mul_comm (d : Int) (h : Int), Int.mul_comm (w : Int) (h : Int)]
  have : (2 : Int) * h * (w + d) = h * d + h * d + (h * w + h * w) := by
    rw [Int.mul_assoc, Int.mul_add]; omega
  rw [this]
  omega
/-- a box of n cakes: its height; 0 if n cakes fill no whole layers -/
def okBx (n : Int) (w d : Nat) : Bool := decide (1 ≤ n) && (decide (n % ((w * d : Nat) : Int) = 0) && decide (n / ((w * d : Nat) : Int) ≤ 12))
def bxG (n : Int) (w d : Nat) : Int := if okBx n w d then (w : Int) * d + 2 * (n / ((w * d : Nat) : Int)) * (w + d) else 0
theorem okBx_nat {n : Int} {w d : Nat} (hw : 1 ≤ w) (hd : 1 ≤ d) (h : okBx n w d = true) : ∃ k : Nat, 1 ≤ k ∧ k ≤ 12 ∧ n = ((w * d * k : Nat) : Int) ∧ n / ((w * d : Nat) : Int) = k := by
  unfold okBx at h
  simp only [Bool.and_eq_true, decide_eq_true_eq] at h
  obtain ⟨h1, h2, h3⟩ := h
  have hm : 0 < w * d := Nat.mul_pos (by omega) (by omega)
  generalize w * d = m at *
  obtain ⟨n', rfl⟩ := Int.eq_ofNat_of_zero_le (show 0 ≤ n by omega)
  have e1 : ((n' : Int) % (m : Int)) = ((n' % m : Nat) : Int) := (Int.natCast_emod n' m).symm
  have e2 : ((n' : Int) / (m : Int)) = ((n' / m : Nat) : Int) := (Int.natCast_ediv n' m).symm
  rw [e1] at h2
  rw [e2] at h3
  have h4 := Nat.div_add_mod n' m
  have h5 : n' % m = 0 := by omega
  rw [h5, Nat.add_zero] at h4
  refine ⟨n' / m, ?_, by omega, by rw [h4], e2⟩
  rcases Nat.eq_zero_or_pos (n' / m) with h6 | h6
  · rw [h6] at h4; omega
  · exact h6
theorem bxG_ok {n : Int} {w d : Nat} (h : okBx n w d = true) : bxG n w d = (w : Int) * d + 2 * (n / ((w * d : Nat) : Int)) * (w + d) := by unfold bxG; rw [h]; rfl
theorem bxG_no {n : Int} {w d : Nat} (h : okBx n w d = false) : bxG n w d = 0 := by unfold bxG; rw [h]; rfl
theorem bxG_bd {n : Int} {w d : Nat} (hw : 1 ≤ w ∧ w ≤ 9) (hd : 1 ≤ d ∧ d ≤ 9) (h : okBx n w d = true) : 0 < bxG n w d ∧ bxG n w d ≤ 600 := by
  obtain ⟨k, k1, k2, hn, hq⟩ := okBx_nat hw.1 hd.1 h
  rw [bxG_ok h, hq]
  have e : (w : Int) * d + 2 * (k : Int) * (w + d) = ((w * d + 2 * k * (w + d) : Nat) : Int) := by simp
  rw [e]
  have h1 : w * d ≤ 9 * 9 := Nat.mul_le_mul hw.2 hd.2
  have h2 : 2 * k * (w + d) ≤ 2 * 12 * (9 + 9) := Nat.mul_le_mul (by omega) (by omega)
  have h3 : 0 < w * d := Nat.mul_pos (by omega) (by omega)
  omega
theorem bx_faces {n : Int} {w d : Nat} (hw : 1 ≤ w) (hd : 1 ≤ d) (h : okBx n w d = true) : facesF (layF w d n.toNat) = bxG n w d := by
  obtain ⟨k, k1, k2, hn, hq⟩ := okBx_nat hw hd h
  rw [bxG_ok h, hq, hn, Int.toNat_natCast, box_faces hw hd k1]
/-- the best box so far: sides, height, faces -/
structure Bx where
  w : Int
  d : Int
  h : Int
  f : Int
def bxStep (n : Int) (w d : Nat) (s : Bx) : Bx := if okBx n w d = true ∧ (s.f = 0 ∨ bxG n w d < s.f) then ⟨w, d, n / ((w * d : Nat) : Int), bxG n w d⟩ else s
def bxIn (n : Int) (w : Nat) (s : Bx) : Nat → Bx
  | 0 => s
  | k + 1 => bxStep n w (k + 1) (bxIn n w s k)
def bxOut (n : Int) : Nat → Bx
  | 0 => ⟨0, 0, 0, 0⟩
  | k + 1 => bxIn n (k + 1) (bxOut n k) 9
def bestF (n : Int) : Bx := bxOut n 9
/-- what is known of the best box so far -/
structure BxOk (n : Int) (s : Bx) : Prop where
  no : s.f = 0 → s.w = 0 ∧ s.d = 0 ∧ s.h = 0
  yes : s.f ≠ 0 → ∃ w d : Nat, s.w = w ∧ s.d = d ∧ 1 ≤ w ∧ w ≤ 9 ∧ 1 ≤ d ∧ d ≤ 9 ∧ okBx n w d = true ∧ s.h = n / ((w * d : Nat) : Int) ∧ s.f = bxG n w d
theorem bxStep_ok {n : Int} {w d : Nat} {s : Bx} (hw : 1 ≤ w ∧ w ≤ 9) (hd : 1 ≤ d ∧ d ≤ 9) (h : BxOk n s) : BxOk n (bxStep n w d s) := by
  unfold bxStep
  split
  · next hh =>
    have := bxG_bd hw hd hh.1
    exact ⟨fun e => by simp only at e; omega, fun _ => ⟨w, d, rfl, rfl, hw.1, hw.2, hd.1, hd.2, hh.1, rfl, rfl⟩⟩
  · exact h
theorem bxIn_ok {n : Int} {w : Nat} {s : Bx} (hw : 1 ≤ w ∧ w ≤ 9) (h : BxOk n s) : ∀ k, k ≤ 9 → BxOk n (bxIn n w s k)
  | 0, _ => h
  | k + 1, hk => bxStep_ok hw ⟨by omega, hk⟩ (bxIn_ok hw h k (by omega))
theorem bxOut_ok {n : Int} : ∀ k, k ≤ 9 → BxOk n (bxOut n k)
  | 0, _ => ⟨fun _ => ⟨rfl, rfl, rfl⟩, fun h => absurd rfl h⟩
  | k + 1, hk => bxIn_ok ⟨by omega, hk⟩ (bxOut_ok k (by omega)) 9 (Nat.le_refl _)
theorem bxStep_le {n : Int} {w d : Nat} {s : Bx} (hw : 1 ≤ w ∧ w ≤ 9) (hd : 1 ≤ d ∧ d ≤ 9) : (s.f ≠ 0 → (bxStep n w d s).f ≠ 0 ∧ (bxStep n w d s).f ≤ s.f) ∧ (okBx n w d = true → (bxStep n w d s).f ≠ 0 ∧ (bxStep n w d s).f ≤ bxG n w d) := by
  unfold bxStep
  split
  · next hh =>
    have := bxG_bd hw hd hh.1
    simp only
    exact ⟨fun h => ⟨by omega, by rcases hh.2 with h2 | h2 <;> omega⟩, fun _ => ⟨by omega, Int.le_refl _⟩⟩
  · next hh =>
    refine ⟨fun h => ⟨h, Int.le_refl _⟩, fun h => ?_⟩
    have h3 : ¬(s.f = 0 ∨ bxG n w d < s.f) := fun h4 => hh ⟨h, h4⟩
    exact ⟨by omega, by omega⟩
theorem bxIn_le {n : Int} {w : Nat} {s : Bx} (hw : 1 ≤ w ∧ w ≤ 9) : ∀ k, k ≤ 9 → (s.f ≠ 0 → (bxIn n w s k).f ≠ 0 ∧ (bxIn n w s k).f ≤ s.f) ∧ (∀ d, 1 ≤ d → d ≤ k → okBx n w d = true → (bxIn n w s k).f ≠ 0 ∧ (bxIn n w s k).f ≤ bxG n w d)
  | 0, _ => ⟨fun h => ⟨h, Int.le_refl _⟩, fun d h1 h2 => by omega⟩
  | k + 1, hk => by
    obtain ⟨i1, i2⟩ := bxIn_le (n := n) (s := s) hw k (by omega)
    obtain ⟨j1, j2⟩ := bxStep_le (n := n) (s := bxIn n w s k) hw (d := k + 1) ⟨by omega, hk⟩
    refine ⟨fun h => ?_, fun d h1 h2 h3 => ?_⟩
    · have a := i1 h
      have b := j1 a.1
      exact ⟨b.1, Int.le_trans b.2 a.2⟩
    · by_cases e : d = k + 1
      · subst e; exact j2 h3
      · have a := i2 d h1 (by omega) h3
        have b := j1 a.1
        exact ⟨b.1, Int.le_trans b.2 a.2⟩
theorem bxOut_le {n : Int} : ∀ k, k ≤ 9 → ∀ w d, 1 ≤ w → w ≤ k → 1 ≤ d → d ≤ 9 → okBx n w d = true → (bxOut n k).f ≠ 0 ∧ (bxOut n k).f ≤ bxG n w d
  | 0, _, w, d, h1, h2, _, _, _ => by omega
  | k + 1, hk, w, d, h1, h2, h3, h4, h5 => by
    obtain ⟨i1, i2⟩ := bxIn_le (n := n) (w := k + 1) (s := bxOut n k) ⟨by omega, hk⟩ 9 (Nat.le_refl _)
    by_cases e : w = k + 1
    · subst e; exact i2 d h3 h4 h5
    · have a := bxOut_le (n := n) k (by omega) w d h1 (by omega) h3 h4 h5
      have b := i1 a.1
      exact ⟨b.1, Int.le_trans b.2 a.2⟩
/-- the first day, for few cakes -/
def rowDay (n : Nat) : Bool := decide ((bestF n).w = 0) || decide (cakesF (meltF (layF n 1 n)) ≤ cakesF (meltF (layF (bestF n).w.toNat (bestF n).d.toNat n)))
theorem rowDay_all : ∀ n : Nat, 1 ≤ n → n ≤ 9 → rowDay n = true := by
  intro n h1 h2
  have h : n = 1 ∨ n = 2 ∨ n = 3 ∨ n = 4 ∨ n = 5 ∨ n = 6 ∨ n = 7 ∨ n = 8 ∨ n = 9 := by omega
  rcases h with rfl | rfl | rfl | rfl | rfl | rfl | rfl | rfl | rfl <;> decide +kernel

end Go.Proofs.Ytggdnpaiaijhgaa

/- Facts on cakes of a grid: cakes of one cell are cells, the best grid has the most. -/
import Derived.Test.YtiihenhddleooacFBest
namespace Go.Proofs.Ytiihenhddleooac
open Go.RowKit
set_option linter.unusedVariables false
set_option linter.unusedSimpArgs false
theorem cell_whole {ff : List (List Bool)} {x y : Nat} (hy : y < ff.length) (hx : x < wideB ff) : wholeB ff 1 1 x y = ice ff y x := by
  cases h : ice ff y x
  · exact wholeB_hole (j := 0) (i := 0) (by omega) (by omega) h
  · refine wholeB_iff.2 ⟨⟨by omega, by omega⟩, fun j hj i hi => ?_⟩
    obtain rfl : j = 0 := by omega
    obtain rfl : i = 0 := by omega
    exact h
theorem row_cells {ff : List (List Bool)} {y : Nat} {row : List Bool} (hr : ff[y]? = some row) (hl : row.length = wideB ff) : ∀ n : Nat, n ≤ wideB ff → (rowG ff 1 1 0 y n).length = iceRow (row.take n)
  | 0, _ => by simp [rowG, iceRow]
  | n + 1, h => by
    have hy : y < ff.length := (List.getElem?_eq_some_iff.1 hr).1
    have hq : row[n]? = some (ice ff y n) := by
      have e : ff.getD y [] = row := by rw [List.getD_eq_getElem?_getD, hr]; rfl
      unfold ice
      rw [e, List.getD_eq_getElem?_getD, List.getElem?_eq_getElem (by omega)]
      rfl
    rw [rowG_step (w := 1) (x := n) (by omega) (Nat.mod_one n), List.length_append, row_cells hr hl n (by omega), iceRow_snoc hq, cell_whole hy (by omega)]
    cases ice ff y n <;> simp
theorem grid_cells {ff : List (List Bool)} (hv : fieldB ff = true) : ∀ n : Nat, n ≤ ff.length → (gridG ff 1 1 0 0 n).length = areaN (ff.take n)
  | 0, _ => by simp [gridG, areaN]
  | n + 1, h => by
    have hr : ff[n]? = some (ff[n]'(by omega)) := List.getElem?_eq_getElem (by omega)
    have hl := (field_row hv hr).1
    have e : (ff[n]'(by omega)).take (wideB ff) = ff[n]'(by omega) := List.take_of_length_le (by omega)
    rw [gridG_step (h := 1) (y := n) (by omega) (Nat.mod_one n), List.length_append, grid_cells hv n (by omega), areaN_snoc hr, row_cells hr hl _ (Nat.le_refl _), e]
theorem area_cakes {ff : List (List Bool)} (hv : fieldB ff = true) : (gridF ff 1 1 0 0).length = areaN ff := by
  unfold gridF
  rw [grid_cells hv _ (Nat.le_refl _), List.take_length]
theorem area_le {ff : List (List Bool)} (hv : fieldB ff = true) : areaN ff ≤ ff.length * wideB ff := areaN_le _ fun r hr => by
  obtain ⟨k, hk⟩ := List.getElem?_of_mem hr
  rw [(field_row hv hk).1]; exact Nat.le_refl _
def cntP (ff : List (List Bool)) (w h : Nat) (b : Nat × Nat) : Nat := cntF ff w h b.1 b.2
theorem bestRow_mono (ff : List (List Bool)) (w h y : Nat) (b : Nat × Nat) : ∀ n : Nat, cntP ff w h b ≤ cntP ff w h (bestRow ff w h y b n)
  | 0 => Nat.le_refl _
  | n + 1 => by
    have ih := bestRow_mono ff w h y b n
    show _ ≤ cntP ff w h (if _ then _ else _)
    split
    · next hq =>
      have : cntP ff w h (bestRow ff w h y b n) < cntF ff w h n y := hq
      show _ ≤ cntF ff w h n y
      omega
    · exact ih
theorem bestRow_ge (ff : List (List Bool)) (w h y : Nat) (b : Nat × Nat) {x : Nat} : ∀ n : Nat, x < n → cntF ff w h x y ≤ cntP ff w h (bestRow ff w h y b n)
  | 0, hx => by omega
  | n + 1, hx => by
    show _ ≤ cntP ff w h (if _ then _ else _)
    by_cases e : x = n
    · subst e
      split
      · exact Nat.le_refl _
      · next hq =>
        have : ¬ cntP ff w h (bestRow ff w h y b x) < cntF ff w h x y := hq
        omega
    · have ih := bestRow_ge ff w h y b (x := x) n (by omega)
      split
      · next hq =>
        have : cntP ff w h (bestRow ff w h y b n) < cntF ff w h n y := hq
        show _ ≤ cntF ff w h n y
        omega
      · exact ih
theorem bestAll_ge (ff : List (List Bool)) (w h : Nat) {x y : Nat} (hx : x < w) : ∀ n : Nat, y < n → cntF ff w h x y ≤ cntP ff w h (bestAll ff w h n)
  | 0, hy => by omega
  | n + 1, hy => by
    show _ ≤ cntP ff w h (bestRow ff w h n (bestAll ff w h n) w)
    by_cases e : y = n
    · subst e; exact bestRow_ge _ _ _ _ _ _ hx
    · exact Nat.le_trans (bestAll_ge ff w h hx n (by omega)) (bestRow_mono _ _ _ _ _ _)
theorem bestRow_in (ff : List (List Bool)) {w h y : Nat} {b : Nat × Nat} (hb : b.1 < w ∧ b.2 < h) (hy : y < h) : ∀ n : Nat, n ≤ w → (bestRow ff w h y b n).1 < w ∧ (bestRow ff w h y b n).2 < h
  | 0, _ => hb
  | n + 1, hn => by
    have ih := bestRow_in ff hb hy n (by omega)
    show (if _ then _ else _ : Nat × Nat).1 < w ∧ (if _ then _ else _ : Nat × Nat).2 < h
    split
    · exact ⟨by show n < w; omega, hy⟩
    · exact ih
theorem bestAll_in (ff : List (List Bool)) {w h : Nat} (hw : 1 ≤ w) (hh : 1 ≤ h) : ∀ n : Nat, n ≤ h → (bestAll ff w h n).1 < w ∧ (bestAll ff w h n).2 < h
  | 0, _ => ⟨by show 0 < w; omega, by show 0 < h; omega⟩
  | n + 1, hn => bestRow_in ff (bestAll_in ff hw hh n (by omega)) (by omega) w (Nat.le_refl _)
/-- what BestGrid answers, where it answers -/
theorem best_some {ff : List (List Bool)} {a h x y : Int} (e : bestT ff a h = (x, y)) (hx : 0 ≤ x) : ∃ cw ch bx b2 : Nat, a = cw ∧ h = ch ∧ x = bx ∧ y = b2 ∧ fieldB ff = true ∧ sidesB a h = true ∧ bx < cw ∧ b2 < ch ∧ ∀ i k, i < cw → k < ch → cntF ff cw ch i k ≤ cntF ff cw ch bx b2 := by
  unfold bestT at e
  split at e
  · next hq =>
    rw [Bool.and_eq_true] at hq
    have hs := sidesB_t hq.2
    injection e with e1 e2
    have hin := bestAll_in ff (w := a.toNat) (h := h.toNat) (by omega) (by omega) h.toNat (Nat.le_refl _)
    refine ⟨a.toNat, h.toNat, _, _, by omega, by omega, e1.symm, e2.symm, hq.1, hq.2, hin.1, hin.2, fun i k hi hk => bestAll_ge ff _ _ hi _ hk⟩
  · injection e with e1 e2
    omega
theorem best_none {ff : List (List Bool)} {a h x y : Int} (e : bestT ff a h = (x, y)) (hx : ¬ 0 ≤ x) : x = -1 ∧ y = -1 := by
  unfold bestT at e
  split at e
  · injection e with e1 e2
    omega
  · injection e with e1 e2
    exact ⟨e1.symm, e2.symm⟩

end Go.Proofs.Ytiihenhddleooac

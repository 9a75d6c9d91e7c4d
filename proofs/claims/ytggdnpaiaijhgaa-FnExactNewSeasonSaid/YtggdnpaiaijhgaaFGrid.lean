/- Fields: lists of lists of bools, and words for them. -/
import Derived.Test.YtggdnpaiaijhgaaGrid
namespace Go.Proofs.Ytggdnpaiaijhgaa
open Go.RowKit
set_option linter.unusedVariables false
set_option linter.unusedSimpArgs false
def RdF (w : World) (B : Nat) (A : Option Addr) (ff : List (List Bool)) : Prop :=
  ∃ xs : List Value, xs.length = ff.length ∧ Rd w B A xs ∧ ∀ (k : Nat) (row : List Bool), ff[k]? = some row → ∃ (A' : Option Addr) (c' : Nat), xs[k]? = some (Value.slice A' row.length c') ∧ row.length ≤ c' ∧ c' ≤ maxLen ∧ Rd w B A' (bools row)
def wideB (ff : List (List Bool)) : Nat := (ff.getD 0 []).length
def rowsF (W : Nat) (ff : List (List Bool)) : Bool := ff.all (fun r => decide (r.length = W ∧ 1 ≤ r.length ∧ r.length ≤ 9))
def fieldB (ff : List (List Bool)) : Bool := decide (1 ≤ ff.length ∧ ff.length ≤ 9) && rowsF (wideB ff) ff
def ice (ff : List (List Bool)) (y x : Nat) : Bool := (ff.getD y []).getD x false
section
variable {w w' : World} {B B' : Nat} {A : Option Addr} {ff : List (List Bool)}
theorem RdF.keep (h : RdF w B A ff) (hk : ∀ p : Addr, p.block < B → w'.cell? p = w.cell? p) : RdF w' B A ff := by
  obtain ⟨xs, hl, hr, hx⟩ := h
  exact ⟨xs, hl, hr.keep hk, fun k row h => by obtain ⟨A', c', h1, h2, h3, h4⟩ := hx k row h; exact ⟨A', c', h1, h2, h3, h4.keep hk⟩⟩
theorem RdF.more (h : RdF w B A ff) (hB : B ≤ B') : RdF w B' A ff := by
  obtain ⟨xs, hl, hr, hx⟩ := h
  exact ⟨xs, hl, hr.more hB, fun k row h => by obtain ⟨A', c', h1, h2, h3, h4⟩ := hx k row h; exact ⟨A', c', h1, h2, h3, h4.more hB⟩⟩
theorem RdF.below (h : RdF w B A ff) (hb : Below B w w') : RdF w' B A ff := h.keep fun _ hp => hb.cell hp
theorem RdF.drewN (h : RdF w B A ff) (k : Nat) : RdF (w.drewN k) B A ff := h
theorem RdF.nil_ : RdF w B A [] := ⟨[], rfl, Rd.nil_, fun k row h => by simp at h⟩
theorem RdF.row_ {k : Nat} (h : RdF w B A ff) (hk : k < ff.length) : ∃ b off row A' c', A = some ⟨b, off, none⟩ ∧ b < B ∧ Hid (ff[k]? = some row) ∧ w.cell? ⟨b, off + k, none⟩ = some (.slice A' row.length c') ∧ row.length ≤ c' ∧ c' ≤ maxLen ∧ Rd w B A' (bools row) := by
  obtain ⟨xs, hl, hr, hx⟩ := h
  obtain ⟨A', c', h1, h2, h3, h4⟩ := hx k (ff[k]'hk) (List.getElem?_eq_getElem hk)
  obtain ⟨b, off, e, hb, hc⟩ := hr.at_ h1
  exact ⟨b, off, _, A', c', e, hb, Lib.hid (List.getElem?_eq_getElem hk), hc, h2, h3, h4⟩
theorem RdF.first (h : RdF w B A ff) (hk : 0 < ff.length) : ∃ b off A0 c0, A = some ⟨b, off, none⟩ ∧ w.cell? ⟨b, off, none⟩ = some (.slice A0 (wideB ff) c0) := by
  obtain ⟨b, off, row, A', c', e, hb, hrow, hc, _, _, _⟩ := h.row_ hk
  have h1 : wideB ff = row.length := by unfold wideB; rw [List.getD_eq_getElem?_getD, hrow.out]; rfl
  rw [← h1] at hc
  exact ⟨b, off, A', c', e, hc⟩
/-- a part of the rows -/
theorem RdF.sub_ {b off j n : Nat} (h : RdF w B (some ⟨b, off, none⟩) ff) (hj : j + n ≤ ff.length) : RdF w B (some ⟨b, off + j, none⟩) ((ff.drop j).take n) := by
  obtain ⟨xs, hl, hr, hx⟩ := h
  refine ⟨(xs.drop j).take n, by simp; omega, ?_, ?_⟩
  · intro hne
    have hne2 : xs ≠ [] := by rintro rfl; simp at hne
    obtain ⟨b', off', e, hb, hc⟩ := hr hne2
    injection e with e
    injection e with e1 e2
    subst e1 e2
    refine ⟨b, off + j, rfl, hb, fun k x hk => ?_⟩
    have hkn : k < n := by
      have := (List.getElem?_eq_some_iff.1 hk).1
      rw [List.length_take] at this
      omega
    rw [List.getElem?_take_of_lt hkn, List.getElem?_drop] at hk
    have := hc (j + k) x hk
    rw [← Nat.add_assoc] at this
    exact this
  · intro k row hk
    have hkn : k < n := by
      have := (List.getElem?_eq_some_iff.1 hk).1
      rw [List.length_take] at this
      omega
    rw [List.getElem?_take_of_lt hkn, List.getElem?_drop] at hk
    obtain ⟨A', c', h1, h2, h3, h4⟩ := hx (j + k) row hk
    exact ⟨A', c', by rw [List.getElem?_take_of_lt hkn, List.getElem?_drop]; exact h1, h2, h3, h4⟩
end
/-- a valid field behind A -/
def Fld (w : World) (B : Nat) (A : Option Addr) (ff : List (List Bool)) : Prop := fieldB ff = true ∧ RdF w B A ff
section
variable {w w' : World} {B B' : Nat} {A : Option Addr} {ff : List (List Bool)}
theorem Fld.below (h : Fld w B A ff) (hb : Below B w w') : Fld w' B A ff := ⟨h.1, h.2.below hb⟩
theorem Fld.more (h : Fld w B A ff) (hB : B ≤ B') : Fld w B' A ff := ⟨h.1, h.2.more hB⟩
theorem Fld.drewN (h : Fld w B A ff) (k : Nat) : Fld (w.drewN k) B A ff := h
theorem Fld.up (h : Fld w w.heap.size A ff) (hb : Below w.heap.size w w') : Fld w' w'.heap.size A ff := (h.below hb).more hb.size
theorem rowsF_row {W k : Nat} {row : List Bool} (h : rowsF W ff = true) (hk : ff[k]? = some row) : row.length = W ∧ 1 ≤ W ∧ W ≤ 9 := by
  unfold rowsF at h
  rw [List.all_eq_true] at h
  have := h row (List.mem_of_getElem? hk)
  simp only [decide_eq_true_eq] at this
  omega
theorem field_len (h : fieldB ff = true) : 1 ≤ ff.length ∧ ff.length ≤ 9 := by
  unfold fieldB at h
  simp only [Bool.and_eq_true, decide_eq_true_eq] at h
  exact h.1
theorem field_row (h : fieldB ff = true) {k : Nat} {row : List Bool} (hk : ff[k]? = some row) : row.length = wideB ff ∧ 1 ≤ wideB ff ∧ wideB ff ≤ 9 := by
  unfold fieldB at h
  rw [Bool.and_eq_true] at h
  exact rowsF_row h.2 hk
theorem field_wide (h : fieldB ff = true) : 1 ≤ wideB ff ∧ wideB ff ≤ 9 := by
  have hl := field_len h
  exact (field_row h (k := 0) (List.getElem?_eq_getElem (by omega))).2
theorem fieldB_len (h : ¬(1 ≤ ff.length ∧ ff.length ≤ 9)) : fieldB ff = false := by unfold fieldB; rw [decide_eq_false h]; rfl
theorem fieldB_rows (h : 1 ≤ ff.length ∧ ff.length ≤ 9) : fieldB ff = rowsF (wideB ff) ff := by unfold fieldB; rw [decide_eq_true h]; rfl
theorem fieldB_no (h : rowsF (wideB ff) ff = false) : fieldB ff = false := by unfold fieldB; rw [h, Bool.and_false]
theorem fieldB_yes (h : rowsF (wideB ff) ff = true) : fieldB ff = inB (ff.length : Int) 1 9 := by
  unfold fieldB inB
  rw [h, Bool.and_true]
  exact decide_eq_decide.2 (by omega)
theorem rowsF_no {W k : Nat} {row : List Bool} (hk : ff[k]? = some row) (h : ¬ (row.length = W ∧ 1 ≤ row.length ∧ row.length ≤ 9)) : rowsF W ff = false := by
  unfold rowsF
  rw [List.all_eq_false]
  exact ⟨row, List.mem_of_getElem? hk, by simpa using h⟩
theorem rowsF_snoc {W k : Nat} {row : List Bool} (hk : ff[k]? = some row) (h0 : rowsF W (ff.take k) = true) (h : row.length = W) (h1 : 1 ≤ W ∧ W ≤ 9) : rowsF W (ff.take (k + 1)) = true := by
  unfold rowsF at *
  rw [take_snoc hk, List.all_append, h0]
  simp [h, h1]
theorem Fld.row0 (h : Fld w B A ff) : ∃ b off A0 c0, A = some ⟨b, off, none⟩ ∧ b < B ∧ w.cell? ⟨b, off, none⟩ = some (.slice A0 (wideB ff) c0) := by
  have hl := field_len h.1
  obtain ⟨b, off, row, A', c', e, hb, hrow, hc, _, _, _⟩ := h.2.row_ (k := 0) (by omega)
  have := (field_row h.1 hrow.out).1
  rw [this] at hc
  exact ⟨b, off, A', c', e, hb, hc⟩
theorem Fld.rowk {k : Nat} (h : Fld w B A ff) (hk : k < ff.length) : ∃ b off A' c', A = some ⟨b, off, none⟩ ∧ b < B ∧ w.cell? ⟨b, off + k, none⟩ = some (.slice A' (wideB ff) c') ∧ wideB ff ≤ c' ∧ c' ≤ maxLen ∧ Rd w B A' (bools (ff.getD k [])) ∧ Hid ((ff.getD k []).length = wideB ff) := by
  obtain ⟨b, off, row, A', c', e, hb, hrow, hc, h5, h6, hr⟩ := h.2.row_ hk
  have h1 := (field_row h.1 hrow.out).1
  have h2 : ff.getD k [] = row := by rw [List.getD_eq_getElem?_getD, hrow.out]; rfl
  rw [h1] at hc h5
  rw [h2]
  exact ⟨b, off, A', c', e, hb, hc, h5, h6, hr, Lib.hid h1⟩
/-- a cell of a valid field -/
theorem Fld.cell_ {y x : Nat} (h : Fld w B A ff) (hy : y < ff.length) (hx : x < wideB ff) : ∃ b off b1 o1 c1, A = some ⟨b, off, none⟩ ∧ w.cell? ⟨b, off + y, none⟩ = some (.slice (some ⟨b1, o1, none⟩) (wideB ff) c1) ∧ wideB ff ≤ c1 ∧ c1 ≤ maxLen ∧ w.cell? ⟨b1, o1 + x, none⟩ = some (.bool (ice ff y x)) := by
  obtain ⟨b, off, A', c', e, hb, hc, h1, h2, hr, hl⟩ := h.rowk hy
  obtain ⟨b1, o1, rfl, _, h3⟩ := hr.bool_ (k := x) (by rw [hl.out]; exact hx)
  exact ⟨b, off, b1, o1, c', e, hc, h1, h2, h3⟩
end
/-! ### how many cells have ice -/
def iceRow (r : List Bool) : Nat := (r.filter id).length
def areaN (ff : List (List Bool)) : Nat := (ff.map iceRow).sum
theorem iceRow_snoc {r : List Bool} {k : Nat} {q : Bool} (h : r[k]? = some q) : iceRow (r.take (k + 1)) = iceRow (r.take k) + (if q = true then 1 else 0) := by
  unfold iceRow
  rw [take_snoc h, List.filter_append, List.length_append]
  cases q <;> simp
theorem areaN_snoc {ff : List (List Bool)} {k : Nat} {r : List Bool} (h : ff[k]? = some r) : areaN (ff.take (k + 1)) = areaN (ff.take k) + iceRow r := by
  unfold areaN
  rw [take_snoc h]; simp
theorem iceRow_le (r : List Bool) : iceRow r ≤ r.length := List.length_filter_le _ _
theorem areaN_le {ff : List (List Bool)} (W : Nat) (h : ∀ r ∈ ff, r.length ≤ W) : areaN ff ≤ ff.length * W := by
  unfold areaN
  induction ff with
  | nil => simp
  | cons r rs ih =>
    have h1 := iceRow_le r
    have h2 := h r (by simp)
    have h3 := ih fun r hr => h r (by simp [hr])
    simp only [List.map_cons, List.sum_cons, List.length_cons, Nat.add_mul]
    omega
/-! ### whether a cake is whole -/
def wholeB (ff : List (List Bool)) (w h x y : Nat) : Bool := decide (y + h ≤ ff.length ∧ x + w ≤ wideB ff) && (List.range h).all (fun j => (List.range w).all (fun i => ice ff (y + j) (x + i)))
theorem wholeB_iff {ff : List (List Bool)} {w h x y : Nat} : wholeB ff w h x y = true ↔ (y + h ≤ ff.length ∧ x + w ≤ wideB ff) ∧ ∀ j, j < h → ∀ i, i < w → ice ff (y + j) (x + i) = true := by
  unfold wholeB
  simp [List.all_eq_true, and_assoc]
theorem wholeB_out {ff : List (List Bool)} {w h x y : Nat} (hq : ¬ (y + h ≤ ff.length ∧ x + w ≤ wideB ff)) : wholeB ff w h x y = false := by unfold wholeB; rw [decide_eq_false hq]; rfl
theorem wholeB_hole {ff : List (List Bool)} {w h x y j i : Nat} (hj : j < h) (hi : i < w) (hq : ice ff (y + j) (x + i) = false) : wholeB ff w h x y = false := by
  cases hw : wholeB ff w h x y
  · rfl
  · have := (wholeB_iff.1 hw).2 j hj i hi
    rw [hq] at this
    cases this

end Go.Proofs.Ytggdnpaiaijhgaa

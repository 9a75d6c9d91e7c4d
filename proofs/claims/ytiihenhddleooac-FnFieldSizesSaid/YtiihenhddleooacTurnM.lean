/- Turned ponds and single rows are valid. -/
import Derived.Test.YtiihenhddleooacTurn
namespace Go.Proofs.Ytiihenhddleooac
open Go.RowKit
set_option linter.unusedVariables false
set_option linter.unusedSimpArgs false
section
variable {pp : List (List Int)} {w : World} {B : Nat}
theorem pond_mk {W : Nat} (h1 : 1 ≤ pp.length ∧ pp.length ≤ 9) (hw : wide pp = W) (h : ∀ r ∈ pp, r.length = W ∧ 1 ≤ r.length ∧ r.length ≤ 9 ∧ ∀ z ∈ r, 0 ≤ z ∧ z ≤ 999) : pondB pp = true := by
  unfold pondB rowsB
  simp only [Bool.and_eq_true, decide_eq_true_eq, List.all_eq_true]
  refine ⟨h1, fun r hr => ?_⟩
  obtain ⟨g1, g2, g3, g4⟩ := h r hr
  unfold rowB
  simp only [Bool.and_eq_true, decide_eq_true_eq, List.all_eq_true]
  exact ⟨by rw [hw]; exact g1, ⟨g2, g3⟩, fun z hz => inB_mk (g4 z hz)⟩
theorem pond_one (h : pondB pp = true) {k : Nat} {row : List Int} (hk : pp[k]? = some row) : pondB [row] = true := by
  obtain ⟨g1, g2, g3, g4⟩ := pond_row h hk
  refine pond_mk (W := row.length) (by simp) rfl fun r hr => ?_
  obtain rfl : r = row := by simpa using hr
  exact ⟨rfl, g2, g3, g4⟩
theorem pond_turned (h : pondB pp = true) : pondB (tpF pp) = true := by
  have hl := pond_len h
  have hw := pond_wide h
  have hlen := tpF_len pp
  refine pond_mk (W := pp.length) (by omega) ?_ fun r hr => ?_
  · unfold wide
    rw [List.getD_eq_getElem?_getD, tpF_at (m := 0) (by omega)]
    exact colF_len pp 0
  · unfold tpF at hr
    rw [List.mem_map] at hr
    obtain ⟨x, hx, rfl⟩ := hr
    rw [List.mem_range] at hx
    rw [colF_len]
    refine ⟨rfl, hl.1, hl.2, fun z hz => ?_⟩
    unfold colF at hz
    rw [List.mem_map] at hz
    obtain ⟨r, hr, rfl⟩ := hz
    obtain ⟨k, hk, e⟩ := List.getElem_of_mem hr
    obtain ⟨g1, g2, g3, g4⟩ := pond_row h (k := k) (row := r) (by rw [List.getElem?_eq_getElem hk, e])
    refine g4 _ ?_
    rw [List.getD_eq_getElem?_getD, List.getElem?_eq_getElem (by omega)]
    exact List.getElem_mem _
theorem RdG.sub_ {A : Option Addr} {k : Nat} (h : RdG w B A pp) (hk : k < pp.length) : ∃ b off row, A = some ⟨b, off, none⟩ ∧ b < B ∧ Hid (pp[k]? = some row) ∧ RdG w B (some ⟨b, off + k, none⟩) [row] := by
  obtain ⟨b, off, row, A', c', e, hb, hrow, hc, h1, h2, h3⟩ := h.row_ hk
  refine ⟨b, off, row, e, hb, hrow, [.slice A' row.length c'], rfl, fun _ => ⟨b, off + k, rfl, hb, fun i x hx => ?_⟩, fun i r hr => ?_⟩
  · cases i with
    | zero => simp at hx; subst hx; exact hc
    | succ i => simp at hx
  · cases i with
    | zero => simp at hr; subst hr; exact ⟨A', c', rfl, h1, h2, h3⟩
    | succ i => simp at hr
end

end Go.Proofs.Ytiihenhddleooac

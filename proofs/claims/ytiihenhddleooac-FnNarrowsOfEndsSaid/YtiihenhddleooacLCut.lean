/- What the law FnCutCell asks of ponds with a cell cut. -/
import Derived.Deep.RegionHeld3
import Derived.Test.YtiihenhddleooacCutS
import Derived.Test.YtiihenhddleooacMats2
import Derived.Test.YtiihenhddleooacHelps
import Derived.Test.YtiihenhddleooacLawM
namespace Go.Proofs.Ytiihenhddleooac
open Go.RowKit
set_option linter.unusedVariables false
set_option linter.unusedSimpArgs false
theorem cutF_wide {pp : List (List Int)} {k : Nat} : wide (cutF pp k) = wide pp := by
  unfold wide cutF
  rw [List.getD_eq_getElem?_getD, List.getD_eq_getElem?_getD, List.getElem?_set]
  split
  · rename_i e
    split
    · rename_i h2
      simp only [Option.getD_some, List.length_set]
      rw [List.getD_eq_getElem?_getD, e]
    · rename_i h2
      obtain rfl : pp = [] := List.eq_nil_of_length_eq_zero (by omega)
      rfl
  · rfl
theorem cutF_pond {pp : List (List Int)} {k : Nat} (hv : pondB pp = true) : pondB (cutF pp k) = true := by
  have hl := pond_len hv
  have hw := cutF_wide (pp := pp) (k := k)
  have hv2 := hv
  unfold pondB at hv2 ⊢
  rw [hw, cutF_len]
  simp only [Bool.and_eq_true, decide_eq_true_eq] at hv2 ⊢
  refine ⟨hl, ?_⟩
  unfold rowsB at hv2 ⊢
  rw [List.all_eq_true] at hv2 ⊢
  intro r hr
  by_cases hy : k / wide pp < pp.length
  · have hrow : pp[k / wide pp]? = some (pp[k / wide pp]'hy) := List.getElem?_eq_getElem hy
    rw [← cutF_eq hrow] at hr
    have hp := pond_row hv hrow
    have hrr := hv2.2 _ (List.mem_of_getElem? hrow)
    generalize pp[k / wide pp]'hy = q at *
    rcases List.mem_or_eq_of_mem_set hr with hr | rfl
    · exact hv2.2 r hr
    · unfold rowB
      simp only [Bool.and_eq_true, decide_eq_true_eq, List.length_set, List.all_eq_true]
      refine ⟨hp.1, ⟨hp.2.1, hp.2.2.1⟩, fun z hz => ?_⟩
      rcases List.mem_or_eq_of_mem_set hz with hz | rfl
      · exact inB_mk (hp.2.2.2 z hz)
      · exact inB_mk (by omega)
  · have : cutF pp k = pp := by unfold cutF; rw [List.set_eq_of_length_le (by omega)]
    rw [this] at hr
    exact hv2.2 r hr
theorem cut_thk {pp : List (List Int)} {k c : Nat} (hv : pondB pp = true) (hk : k < cnt pp) (hc : c < cnt pp) : thk (cutF pp k) c = if c = k then 0 else thk pp c := by
  have hw := pond_wide hv
  have hrow : pp[k / wide pp]? = some (pp[k / wide pp]'(row_y hk)) := List.getElem?_eq_getElem (row_y hk)
  have hp := pond_row hv hrow
  have hxk : k % wide pp < wide pp := Nat.mod_lt _ (by omega)
  have hyk := row_y hk
  unfold thk
  rw [cutF_wide, ← cutF_eq hrow]
  generalize hq : pp[k / wide pp]'(row_y hk) = q at *
  have hdk := Nat.div_add_mod k (wide pp)
  have hdc := Nat.div_add_mod c (wide pp)
  simp only [List.getD_eq_getElem?_getD, List.getElem?_set]
  by_cases e : k / wide pp = c / wide pp
  · rw [if_pos e, if_pos (by omega)]
    simp only [Option.getD_some, List.getElem?_set]
    by_cases e2 : k % wide pp = c % wide pp
    · have : c = k := by rw [← hdk, ← hdc, e, e2]
      rw [if_pos e2, if_pos (by omega), if_pos this]; rfl
    · have : ¬ c = k := fun h => e2 (by rw [h])
      rw [if_neg e2, if_neg this, ← e, hrow]; rfl
  · have : ¬ c = k := fun h => e (by rw [h])
    rw [if_neg e, if_neg this]
theorem cut_again {pp : List (List Int)} {k : Nat} (hv : pondB pp = true) (hk : k < cnt pp) : cutT (cutF pp k) (k : Int) = cutF pp k := by
  have hc : cnt (cutF pp k) = cnt pp := by unfold cnt; rw [cutF_wide, cutF_len]
  rw [cutT_ok (cutF_pond hv) (by rw [hc]; exact hk)]
  have hrow : pp[k / wide pp]? = some (pp[k / wide pp]'(row_y hk)) := List.getElem?_eq_getElem (row_y hk)
  have hy := row_y hk
  generalize pp[k / wide pp]'(row_y hk) = q at hrow
  have e1 := cutF_eq hrow
  have h2 : (cutF pp k)[k / wide (cutF pp k)]? = some (q.set (k % wide pp) 0) := by
    rw [cutF_wide, ← e1, List.getElem?_set_self (by omega)]
  rw [← cutF_eq h2, cutF_wide, List.set_set]
  conv => lhs; rw [← e1, List.set_set]
  exact e1
theorem cutT_rows {pp : List (List Int)} {t : Int} : (cutT pp t).length ≤ 9 ∧ ∀ (k : Nat) (r : List Int), (cutT pp t)[k]? = some r → r.length ≤ 9 := by
  unfold cutT
  split
  · rename_i h
    rw [Bool.and_eq_true] at h
    have hl := pond_len h.1
    refine ⟨by rw [cutF_len]; omega, fun k r hr => ?_⟩
    have := pond_row (cutF_pond h.1) hr
    omega
  · simp
theorem cutT_some {pp : List (List Int)} {t : Int} (h : ¬ (cutT pp t).length = 0) : ∃ k : Nat, t = k ∧ pondB pp = true ∧ k < cnt pp ∧ cutT pp t = cutF pp k := by
  cases hc : (pondB pp && inB t 0 ((cnt pp : Nat) - 1))
  · rw [cutT_no hc] at h; exact absurd rfl h
  · rw [Bool.and_eq_true] at hc
    have h2 := inB_t hc.2
    obtain ⟨k, rfl⟩ := Int.eq_ofNat_of_zero_le h2.1
    exact ⟨k, rfl, hc.1, by omega, cutT_ok hc.1 (by omega)⟩
theorem cell_yx {pp : List (List Int)} {y x : Nat} (hy : y < pp.length) (hx : x < wide pp) : y * wide pp + x < cnt pp ∧ (y * wide pp + x) / wide pp = y ∧ (y * wide pp + x) % wide pp = x := by
  refine ⟨?_, ?_, ?_⟩
  · unfold cnt
    have : (y + 1) * wide pp ≤ pp.length * wide pp := Nat.mul_le_mul (by omega) (Nat.le_refl _)
    rw [Nat.add_mul] at this
    omega
  · rw [Nat.add_comm, Nat.add_mul_div_right _ _ (by omega), Nat.div_eq_of_lt hx, Nat.zero_add]
  · rw [Nat.add_comm, Nat.add_mul_mod_self_right, Nat.mod_eq_of_lt hx]

end Go.Proofs.Ytiihenhddleooac

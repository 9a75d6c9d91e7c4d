/- Sizes of fields as counts of cells. -/
import Derived.Test.YtiihenhddleooacLawM
namespace Go.Proofs.Ytiihenhddleooac
open Go.RowKit
set_option linter.unusedVariables false
set_option linter.unusedSimpArgs false
theorem sz_len {fs : List Int} : ((szF fs).length : Int) = hi fs + 1 := by
  unfold szF
  rw [szT_len, hi_toNat]
theorem sizes_rel {pp : List (List Int)} {load : Int} {ts : List Int} (h : SizesR pp load ts) (hv : pondB pp = true) : ∃ fs, Lab (cnt pp) (nbP pp) (okF pp load) fs ∧ ts = szF fs := by
  rcases h with ⟨h1, _⟩ | ⟨_, h⟩
  · rw [hv] at h1; cases h1
  · exact h
/-- how many below m -/
def cntP (P : Nat → Bool) (m : Nat) : Nat := ((List.range m).filter P).length
theorem cntP_zero (P : Nat → Bool) : cntP P 0 = 0 := rfl
theorem cntP_succ (P : Nat → Bool) (m : Nat) : cntP P (m + 1) = cntP P m + if P m = true then 1 else 0 := by
  unfold cntP
  rw [List.range_succ, List.filter_append, List.length_append]
  cases h : P m <;> simp [h]
theorem cntP_le (P : Nat → Bool) (m : Nat) : cntP P m ≤ m := by
  have := List.length_filter_le P (List.range m)
  rw [List.length_range] at this
  exact this
theorem cntP_one {P : Nat → Bool} {m b : Nat} (hb : b < m) (h : P b = true) : 1 ≤ cntP P m :=
  List.length_pos_of_mem (List.mem_filter.2 ⟨List.mem_range.2 hb, h⟩)
theorem cntP_two {P : Nat → Bool} {m b d : Nat} (hb : b < m) (hd : d < m) (hne : d ≠ b) (h : P b = true) (h' : P d = true) : 2 ≤ cntP P m := by
  have := inj_len [b, d] ((List.range m).filter P) id (by simp; omega) (fun x hx => by
    simp at hx
    rcases hx with rfl | rfl
    · exact List.mem_filter.2 ⟨List.mem_range.2 hb, h⟩
    · exact List.mem_filter.2 ⟨List.mem_range.2 hd, h'⟩) (fun _ _ _ _ e => e)
  simpa [cntP] using this
theorem cntP_only {P : Nat → Bool} {m b : Nat} (h : ∀ x, P x = true → x = b) : cntP P m ≤ 1 := by
  have := inj_len ((List.range m).filter P) [b] id (List.nodup_range.filter _) (fun x hx => by
    have := h x (List.mem_filter.1 hx).2
    simp [this]) (fun _ _ _ _ e => e)
  simpa [cntP] using this
theorem count_P (fs : List Int) (z : Int) : ∀ m, m ≤ fs.length → (fs.take m).count z = cntP (fun i => decide (at_ fs i = z)) m
  | 0, _ => by simp [cntP_zero]
  | m + 1, h => by
    rw [cntP_succ, ← count_P fs z m (by omega)]
    have e := of_at (fs := fs) (i := m) (by omega)
    rw [take_snoc e, List.count_append]
    congr 1
    by_cases hz : at_ fs m = z
    · rw [hz]; simp
    · simp [hz]
theorem sz_at {fs : List Int} {c : Nat} (h : c < (szF fs).length) : at_ (szF fs) c = ((cntP (fun i => decide (at_ fs i = (c : Int))) fs.length : Nat) : Int) := by
  unfold szF at h ⊢
  rw [szT_len] at h
  rw [szT_at h, count_P _ _ _ (Nat.le_refl _)]

end Go.Proofs.Ytiihenhddleooac

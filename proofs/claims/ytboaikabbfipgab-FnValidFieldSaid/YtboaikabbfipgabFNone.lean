/- A field without ice. -/
import Derived.Test.YtboaikabbfipgabFMath
import Derived.Test.YtboaikabbfipgabFPonds
namespace Go.Proofs.Ytboaikabbfipgab
open Go.RowKit
set_option linter.unusedVariables false
set_option linter.unusedSimpArgs false
def noneF (ff : List (List Bool)) : List (List Bool) := ff.map (fun r => List.replicate r.length false)
theorem noneF_len (ff : List (List Bool)) : (noneF ff).length = ff.length := by simp [noneF]
theorem noneF_snoc {ff : List (List Bool)} {k : Nat} {r : List Bool} (h : ff[k]? = some r) : noneF (ff.take (k + 1)) = noneF (ff.take k) ++ [List.replicate r.length false] := by
  unfold noneF
  rw [take_snoc h, List.map_append]; rfl
theorem noneF_wide (ff : List (List Bool)) : wideB (noneF ff) = wideB ff := by
  cases ff with
  | nil => rfl
  | cons r rs => simp [wideB, noneF]
theorem noneF_ok {ff : List (List Bool)} (hv : fieldB ff = true) : fieldB (noneF ff) = true := by
  have hl := field_len hv
  unfold fieldB
  rw [Bool.and_eq_true, decide_eq_true_eq, noneF_len]
  refine ⟨hl, ?_⟩
  unfold rowsF
  rw [List.all_eq_true]
  intro r hr
  unfold noneF at hr
  rw [List.mem_map] at hr
  obtain ⟨r0, h0, rfl⟩ := hr
  obtain ⟨k, hk⟩ := List.getElem?_of_mem h0
  have := field_row hv hk
  rw [decide_eq_true_eq, noneF_wide, List.length_replicate]
  omega
theorem noneF_area (ff : List (List Bool)) : areaN (noneF ff) = 0 := by
  unfold areaN noneF
  rw [List.map_map]
  have : ∀ l : List (List Bool), (l.map (iceRow ∘ fun r => List.replicate r.length false)).sum = 0 := by
    intro l
    induction l with
    | nil => rfl
    | cons r rs ih =>
      rw [List.map_cons, List.sum_cons, ih]
      simp [iceRow, List.filter_replicate]
  exact this ff
theorem noneF_areaT {ff : List (List Bool)} (hv : fieldB ff = true) : areaT (noneF ff) = 0 := by
  rw [areaT_ok (noneF_ok hv), noneF_area]; rfl

end Go.Proofs.Ytboaikabbfipgab

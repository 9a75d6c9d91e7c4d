/- Heaps without cakes. -/
import Derived.Test.YtbnggakfogcalaaHLaw
namespace Go.Proofs.Ytbnggakfogcalaa
open Go.RowKit
set_option linter.unusedVariables false
set_option linter.unusedSimpArgs false
def zeroF (pp : List (List Int)) : List (List Int) := List.replicate pp.length (List.replicate (wide pp) 0)
theorem zero_len (pp : List (List Int)) : (zeroF pp).length = pp.length := by simp [zeroF]
theorem zero_at {pp : List (List Int)} {k : Nat} (hv : heapB pp = true) (hk : k < pp.length) : (zeroF pp)[k]? = some (List.replicate (wide pp) 0) := by
  simp [zeroF, hk]
theorem zero_wide {pp : List (List Int)} (hv : heapB pp = true) : wide (zeroF pp) = wide pp := by
  have hl := grid_len hv
  unfold wide
  rw [List.getD_eq_getElem?_getD, zero_at hv (by omega)]
  simp [wide]
theorem zero_heap {pp : List (List Int)} (hv : heapB pp = true) : heapB (zeroF pp) = true := by
  have hl := grid_len hv
  have hw := pond_wide (heap_pond hv)
  refine grid_mk (W := wide pp) (by rw [zero_len]; exact hl) (zero_wide hv) fun r hr => ?_
  unfold zeroF at hr
  rw [List.mem_replicate] at hr
  obtain ⟨_, rfl⟩ := hr
  rw [List.length_replicate]
  exact ⟨rfl, hw.1, hw.2, fun z hz => by rw [List.mem_replicate] at hz; omega⟩
theorem zero_cakes {pp : List (List Int)} (hv : heapB pp = true) : cakesF (zeroF pp) = 0 := by
  unfold cakesF zeroF
  rw [List.map_replicate]
  have : (List.replicate (wide pp) (0 : Int)).sum = 0 := by
    induction wide pp with
    | zero => rfl
    | succ n ih => rw [List.replicate_succ, List.sum_cons, ih]; rfl
  rw [this]
  induction pp.length with
  | zero => rfl
  | succ n ih => rw [List.replicate_succ, List.sum_cons, ih]; rfl
theorem zero_faces {pp : List (List Int)} (hv : heapB pp = true) : facesF (zeroF pp) = 0 := faces_none (zero_heap hv) (zero_cakes hv)

end Go.Proofs.Ytbnggakfogcalaa

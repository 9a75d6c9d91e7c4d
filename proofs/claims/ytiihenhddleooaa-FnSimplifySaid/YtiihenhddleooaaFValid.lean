/- Contracts of chapter 3: whether a field is valid, and how many of its cells have ice. -/
import Derived.Test.YtiihenhddleooaaFGrid
namespace Go.Proofs.Ytiihenhddleooaa
open Go.RowKit
set_option linter.unusedVariables false
set_option linter.unusedSimpArgs false
theorem field_first {ff : List (List Bool)} (h : 0 < ff.length) (hw : ¬ (1 ≤ wideB ff ∧ wideB ff ≤ 9)) : fieldB ff = false := by
  refine fieldB_no (rowsF_no (k := 0) (row := ff[0]'h) (List.getElem?_eq_getElem h) ?_)
  have : wideB ff = (ff[0]'h).length := by unfold wideB; rw [List.getD_eq_getElem?_getD, List.getElem?_eq_getElem h]; rfl
  rw [this] at hw
  omega
theorem inR_is {n a b : Int} {q : Bool} (h : inB n a b = q) (w : World) :
    Calls Try.prog 64 #[.int .i64 n, .int .i64 a, .int .i64 b] w fun e w' => e = .returned (.bool q) ∧ w = w' := by
  have := inRange_any n a b w
  rw [h] at this
  exact this
def areaT (ff : List (List Bool)) : Int := if fieldB ff then (areaN ff : Nat) else -1
theorem areaT_ok {ff : List (List Bool)} (h : fieldB ff = true) : areaT ff = (areaN ff : Nat) := by unfold areaT; rw [h]; rfl
theorem areaT_no {ff : List (List Bool)} (h : fieldB ff = false) : areaT ff = -1 := by unfold areaT; rw [h]; rfl
theorem area_mono {ff : List (List Bool)} (k : Nat) : areaN (ff.take k) ≤ areaN ff := by
  have h : areaN ff = areaN (ff.take k) + areaN (ff.drop k) := by
    unfold areaN
    rw [← List.sum_append, ← List.map_append, List.take_append_drop]
  omega
theorem iceRow_mono {r : List Bool} (k : Nat) : iceRow (r.take k) ≤ iceRow r := by
  have h : iceRow r = iceRow (r.take k) + iceRow (r.drop k) := by
    unfold iceRow
    rw [← List.length_append, ← List.filter_append, List.take_append_drop]
  omega
theorem area_bd {ff : List (List Bool)} (h : fieldB ff = true) : areaN ff ≤ 81 := by
  have h1 := areaN_le (ff := ff) 9 (fun r hr => by
    obtain ⟨k, hk⟩ := List.getElem?_of_mem hr
    have := field_row h hk
    omega)
  have := field_len h
  omega
end Go.Proofs.Ytiihenhddleooaa

/- Contracts of chapter 3: whether all cells of a cake have ice. -/
import Derived.Test.YtcjcdlhmhhbkgabFValid
namespace Go.Proofs.Ytcjcdlhmhhbkgab
open Go.RowKit
set_option linter.unusedVariables false
set_option linter.unusedSimpArgs false
def AllIce (ff : List (List Bool)) (cw x y j : Nat) : Prop := ∀ j', j' < j → ∀ i, i < cw → ice ff (y + j') (x + i) = true
theorem AllIce.zero {ff : List (List Bool)} {cw x y : Nat} : AllIce ff cw x y 0 := fun j h => by omega
theorem AllIce.step {ff : List (List Bool)} {cw x y j : Nat} (h : AllIce ff cw x y j) (hr : ∀ i, i < cw → ice ff (y + j) (x + i) = true) : AllIce ff cw x y (j + 1) := fun j' hj i hi => by
  by_cases e : j' = j
  · subst e; exact hr i hi
  · exact h j' (by omega) i hi
theorem AllIce.whole {ff : List (List Bool)} {cw ch x y : Nat} (h : AllIce ff cw x y ch) (hx : x + cw ≤ wideB ff) (hy : y + ch ≤ ff.length) : wholeB ff cw ch x y = true := wholeB_iff.2 ⟨⟨hy, hx⟩, h⟩
theorem validSides_any (a b : Int) (w : World) :
    Calls Try.prog 71 #[.int .i64 a, .int .i64 b] w fun e w' => e = .returned (.bool (inB a 1 4 && inB b 1 4)) ∧ w = w' := by
  by_cases h1 : a < 1
  · have H : Hid (inB a 1 4 = false) := Lib.hid (inB_nk (by omega))
    go_enter Try.func71, Try.ntmps71
    go_wp2
    go_ret
    exact ⟨ret_bool (by rw [H.out]; rfl), rfl⟩
  by_cases h2 : 4 < a
  · have H : Hid (inB a 1 4 = false) := Lib.hid (inB_nk (by omega))
    have h3 : 1 ≤ a := by omega
    go_enter Try.func71, Try.ntmps71
    go_wp2
    go_ret
    exact ⟨ret_bool (by rw [H.out]; rfl), rfl⟩
  have h3 : 1 ≤ a := by omega
  have h4 : a ≤ 4 := by omega
  have H : Hid (inB a 1 4 = true) := Lib.hid (inB_mk ⟨h3, h4⟩)
  clear h1 h2
  by_cases h1 : b < 1
  · have H2 : Hid (inB b 1 4 = false) := Lib.hid (inB_nk (by omega))
    go_enter Try.func71, Try.ntmps71
    go_wp2
    go_ret
    exact ⟨ret_bool (by rw [H.out, H2.out]; rfl), rfl⟩
  by_cases h2 : 4 < b
  · have H2 : Hid (inB b 1 4 = false) := Lib.hid (inB_nk (by omega))
    have h5 : 1 ≤ b := by omega
    have h6 : ¬ b ≤ 4 := by omega
    go_enter Try.func71, Try.ntmps71
    go_wp2
    go_ret
    exact ⟨ret_bool (by rw [H.out, H2.out]; first | rfl | simpa using h2), rfl⟩
  have h5 : 1 ≤ b := by omega
  have h6 : b ≤ 4 := by omega
  have H2 : Hid (inB b 1 4 = true) := Lib.hid (inB_mk ⟨h5, h6⟩)
  clear h1 h2
  go_enter Try.func71, Try.ntmps71
  go_wp2
  go_ret
  exact ⟨ret_bool (by rw [H.out, H2.out]; rfl), rfl⟩
def sidesB (a b : Int) : Bool := inB a 1 4 && inB b 1 4
theorem vSides_is {q : Bool} {a b : Int} (h : sidesB a b = q) (w : World) :
    Calls Try.prog 71 #[.int .i64 a, .int .i64 b] w fun e w' => e = .returned (.bool q) ∧ w = w' := by
  have := validSides_any a b w
  unfold sidesB at h
  rw [h] at this
  exact this
theorem sidesB_t {a b : Int} (h : sidesB a b = true) : (1 ≤ a ∧ a ≤ 4) ∧ (1 ≤ b ∧ b ≤ 4) := by
  unfold sidesB at h
  rw [Bool.and_eq_true] at h
  exact ⟨inB_t h.1, inB_t h.2⟩

end Go.Proofs.Ytcjcdlhmhhbkgab

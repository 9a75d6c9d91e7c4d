/- Contracts of RisksFrom, of the program and of the model; of the program's WayTo. -/
import Derived.Test.YtiihenhddleooacRisksS
namespace Go.Proofs.Ytiihenhddleooac
open Go.RowKit
set_option linter.unusedVariables false
set_option linter.unusedSimpArgs false
section
variable {w : World} {A : Option Addr} {pp : List (List Int)} {c : Nat}
theorem cell_of {z : Int} (h : inB z 0 ((cnt pp : Nat) - 1) = true) : ∃ a : Nat, z = a ∧ a < cnt pp := by
  have := inB_t h
  obtain ⟨a, rfl⟩ := Int.eq_ofNat_of_zero_le this.1
  exact ⟨a, rfl, by omega⟩
theorem vc_is {q : Bool} (hp : Pnd w w.heap.size A pp) {z : Int} (h : inB z 0 ((cnt pp : Nat) - 1) = q) :
    Calls Try.prog 49 #[.slice A pp.length c, .int .i64 z] w fun e w' => e = .returned (.bool q) ∧ w = w' := by
  have := validCell_any pp A c w _ hp z
  rw [h] at this
  exact this
end
theorem ints_notrange {q : Bool} {n a b : Int} (h : inB n a b = q) (w : World) : Calls Try.prog 55 #[.int .i64 n, .int .i64 a, .int .i64 b] w fun e w' => e = .returned (.bool q) ∧ w = w' := inR_is h w
theorem find_here {α : Type} {P : α → Bool} {l : List α} {t : Nat} {x : α} (h : (l.take t).find? P = none) (hx : l[t]? = some x) (hp : P x = true) : l.find? P = some x := by
  rw [← List.take_append_drop t l, List.find?_append, h]
  obtain ⟨h1, h2⟩ := List.getElem?_eq_some_iff.1 hx
  rw [List.drop_eq_getElem_cons h1, h2]
  simp [hp]
theorem find_next {α : Type} {P : α → Bool} {l : List α} {t : Nat} {x : α} (h : (l.take t).find? P = none) (hx : l[t]? = some x) (hp : P x = false) : (l.take (t + 1)).find? P = none := by
  rw [take_snoc hx, List.find?_append, h]
  simp [hp]
/-- what cellBefore answers -/
def CbPost (f : Option Nat) (z : Int) : Prop := (f = none ∧ z = -1) ∨ ∃ k : Nat, f = some k ∧ z = k
def OutCb (f : Option Nat) (w : World) (e : Ending) (w' : World) : Prop := ∃ z, e = .returned (.int .i64 z) ∧ CbPost f z ∧ Below w.heap.size w w'
end Go.Proofs.Ytiihenhddleooac

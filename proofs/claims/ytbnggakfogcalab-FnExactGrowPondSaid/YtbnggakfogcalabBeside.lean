/- Contracts of chapter 2: the cells beside a cell. -/
import Derived.Deep.DeepCutAuto
import Derived.Test.YtbnggakfogcalabValid
namespace Go.Proofs.Ytbnggakfogcalab
open Go.RowKit
set_option linter.unusedVariables false
set_option linter.unusedSimpArgs false
/-- a list of integers that a call made -/
def OutI (l : List Int) (w : World) (e : Ending) (w' : World) : Prop :=
  ∃ A' c', e = .returned (.slice A' l.length c') ∧ w'.ownsRow w.heap.size 3 1 (.slice A' l.length c') l.length (ints l) ∧ Below w.heap.size w w'
def OutB (l : List Bool) (w : World) (e : Ending) (w' : World) : Prop :=
  ∃ A' c', e = .returned (.slice A' l.length c') ∧ w'.ownsRow w.heap.size 4 1 (.slice A' l.length c') l.length (bools l) ∧ Below w.heap.size w w'
theorem out_mk {w w' : World} {n : Nat} {v : Value} {l : List Int} (hl : l.length = n) (h : w'.ownsRow w.heap.size 3 1 v n (ints l)) (hb : Below w.heap.size w w') : OutI l w (.returned v) w' := by
  subst hl
  obtain ⟨A', c', rfl⟩ := own_form h
  exact ⟨A', c', rfl, h, hb⟩
theorem outB_mk {w w' : World} {n : Nat} {v : Value} {l : List Bool} (hl : l.length = n) (h : w'.ownsRow w.heap.size 4 1 v n (bools l)) (hb : Below w.heap.size w w') : OutB l w (.returned v) w' := by
  subst hl
  obtain ⟨A', c', rfl⟩ := own_form h
  exact ⟨A', c', rfl, h, hb⟩
theorem out_nil (w : World) : OutI [] w (.returned (.slice none 0 0)) w := ⟨_, _, rfl, ⟨rfl, .inl ⟨rfl, rfl⟩⟩, Below.refl _ _⟩
theorem outB_nil (w : World) : OutB [] w (.returned (.slice none 0 0)) w := ⟨_, _, rfl, ⟨rfl, .inl ⟨rfl, rfl⟩⟩, Below.refl _ _⟩
/-- a list of cells in the making -/
def Mk (w wx : World) (s : Value) (l : List Nat) : Prop := ∃ n, n = l.length ∧ n ≤ 100 ∧ wx.ownsRow w.heap.size 3 1 s n (ints (nats l)) ∧ Below w.heap.size w wx
theorem mk_snoc {w w1 : World} {n : Nat} {s : Value} {l : List Nat} {k : Nat} {z : Int} (hn : n = l.length) (h4 : n ≤ 99) (hz : z = k) (h : w1.ownsRow w.heap.size 3 1 s (n + 1) (ints (nats l) ++ [.int .i64 z])) (hb : Below w.heap.size w w1) : Mk w w1 s (l ++ [k]) :=
  ⟨n + 1, by simp [hn], by omega, by subst hz; simpa [ints, nats] using h, hb⟩
def nb1 (W k : Nat) : List Nat := if W ≤ k then [k - W] else []
def nb2 (W k : Nat) : List Nat := nb1 W k ++ if 0 < k % W then [k - 1] else []
def nb3 (W k : Nat) : List Nat := nb2 W k ++ if k % W + 1 < W then [k + 1] else []
theorem nb1_len (W k : Nat) : (nb1 W k).length ≤ 1 := by unfold nb1; split <;> simp
theorem nb2_len (W k : Nat) : (nb2 W k).length ≤ 2 := by unfold nb2; have := nb1_len W k; rw [List.length_append]; split <;> simp <;> omega
theorem nb3_len (W k : Nat) : (nb3 W k).length ≤ 3 := by unfold nb3; have := nb2_len W k; rw [List.length_append]; split <;> simp <;> omega
theorem nb4_len (W n k : Nat) : (nbs W n k).length ≤ 4 := by
  show (nb3 W k ++ _).length ≤ 4
  have := nb3_len W k; rw [List.length_append]; split <;> simp <;> omega
end Go.Proofs.Ytbnggakfogcalab

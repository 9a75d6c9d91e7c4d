/- The full field of a grid of four cakes. -/
import Derived.Test.YtboaikabbfipgacMostI
import Derived.Test.YtboaikabbfipgacCSaw
import Derived.Test.YtboaikabbfipgacFMath
import Derived.Test.YtboaikabbfipgacFPonds
namespace Go.Proofs.Ytboaikabbfipgac
open Go.RowKit
set_option linter.unusedVariables false
set_option linter.unusedSimpArgs false
def fullF (w h : Nat) : List (List Bool) := List.replicate (2 * h) (List.replicate (2 * w) true)
def four (w h : Nat) : List (Int × Int) := [(0, 0), ((w : Int), 0), (0, (h : Int)), ((w : Int), (h : Int))]
theorem full_all : ((List.range 4).all fun i => (List.range 4).all fun k => fieldB (fullF (i + 1) (k + 1)) && decide (wideB (fullF (i + 1) (k + 1)) = 2 * (i + 1)) && decide (gridF (fullF (i + 1) (k + 1)) (i + 1) (k + 1) 0 0 = four (i + 1) (k + 1)) && decide (sawT ((i + 1 : Nat) : Int) ((k + 1 : Nat) : Int) (four (i + 1) (k + 1)) = 6 * ((i + 1 : Nat) : Int) + 6 * ((k + 1 : Nat) : Int))) = true := by decide +kernel
theorem most_all : apartF (setsF (fullF 1 2) 1 2) 0 = 4 ∧ apartF (setsF (fullF 2 1) 2 1) 0 = 4 ∧ apartF (setsF (fullF 2 2) 2 2) 0 = 4 := by decide +kernel
theorem full_facts {w h : Nat} (hw : 1 ≤ w ∧ w ≤ 4) (hh : 1 ≤ h ∧ h ≤ 4) : fieldB (fullF w h) = true ∧ wideB (fullF w h) = 2 * w ∧ gridF (fullF w h) w h 0 0 = four w h ∧ sawT (w : Int) (h : Int) (four w h) = 6 * (w : Int) + 6 * (h : Int) := by
  obtain ⟨i, rfl⟩ : ∃ i, w = i + 1 := ⟨w - 1, by omega⟩
  obtain ⟨k, rfl⟩ : ∃ k, h = k + 1 := ⟨h - 1, by omega⟩
  have := List.all_eq_true.1 (List.all_eq_true.1 full_all i (List.mem_range.2 (by omega))) k (List.mem_range.2 (by omega))
  simp only [Bool.and_eq_true, decide_eq_true_eq] at this
  exact ⟨this.1.1.1, this.1.1.2, this.1.2, this.2⟩
theorem fullF_len (w h : Nat) : (fullF w h).length = 2 * h := List.length_replicate
theorem full_most {w h : Nat} (hw : 1 ≤ w ∧ 2 * w ≤ 5) (hh : 1 ≤ h ∧ 2 * h ≤ 5) (h1 : ¬ (w = 1 ∧ h = 1)) : apartF (setsF (fullF w h) w h) 0 = 4 := by
  have a1 : w = 1 ∨ w = 2 := by omega
  have a2 : h = 1 ∨ h = 2 := by omega
  rcases a1 with rfl | rfl <;> rcases a2 with rfl | rfl
  · exact absurd ⟨rfl, rfl⟩ h1
  · exact most_all.1
  · exact most_all.2.1
  · exact most_all.2.2
def FullRel (w : World) (W H : Nat) (v i : Value) (wr : World) : Prop := ∃ (j : Nat) (xs : List Value), j ≤ H ∧ i = .int .i64 j ∧ PF wr w.heap.size v j xs (List.replicate j (List.replicate W true)) ∧ Below w.heap.size w wr
def FRowRel (w : World) (lo W : Nat) (v i vo : Value) (m : Nat) (xs : List Value) (ff : List (List Bool)) (wr : World) : Prop :=
  ∃ k : Nat, k ≤ W ∧ i = .int .i64 k ∧ wr.ownsRow lo 4 1 v k (bools (List.replicate k true)) ∧ PF wr w.heap.size vo m xs ff ∧ Below w.heap.size w wr ∧ w.heap.size ≤ lo ∧ (∀ (i : Nat) (u : Value) (b : Nat), xs[i]? = some u → u.ownBlock = some b → b < lo) ∧ lo ≤ wr.heap.size
theorem own_caps {w : World} {base n : Nat} {T : TypeId} {z : Nat} {A : Option Addr} {c : Nat} {xs : List Value} (o : w.ownsRow base T z (.slice A n c) n xs) : n ≤ c ∧ c ≤ maxLen := by
  rcases o.2 with ⟨h0, hz⟩ | ⟨g, cap, cur, hv, _, _, hnc, hcm, _⟩
  · injection h0 with _ q1 q2; rw [q1, q2]; exact ⟨Nat.le_refl _, Nat.zero_le _⟩
  · injection hv with _ _ q2; subst q2; exact ⟨hnc, hcm⟩

end Go.Proofs.Ytboaikabbfipgac

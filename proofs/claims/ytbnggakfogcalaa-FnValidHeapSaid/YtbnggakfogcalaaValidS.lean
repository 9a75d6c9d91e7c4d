/- Contracts of chapter 2's model: whether a pond is valid, whatever is behind it. -/
import Derived.Test.YtbnggakfogcalaaValid
namespace Go.Proofs.Ytbnggakfogcalaa
open Go.RowKit
set_option linter.unusedVariables false
set_option linter.unusedSimpArgs false
theorem allIn_n (n : Nat) (zs : List Int) (hn : zs.length = n) (A : Option Addr) (c : Nat) (w : World) (B : Nat) (hr : Rd w B A (ints zs)) (a b : Int) (hm : n ≤ 1048576) :
    Calls Try.prog 78 #[.slice A n c, .int .i64 a, .int .i64 b] w fun e w' => e = .returned (.bool (zs.all (fun z => inB z a b))) ∧ w = w' := by
  subst hn
  exact allIn_any _ _ _ _ _ hr _ _ hm
theorem allIn_is {q : Bool} (n : Nat) (zs : List Int) (hn : zs.length = n) (A : Option Addr) (c : Nat) (w : World) (B : Nat) (hr : Rd w B A (ints zs)) (a b : Int) (hm : n ≤ 1048576) (h : zs.all (fun z => inB z a b) = q) :
    Calls Try.prog 78 #[.slice A n c, .int .i64 a, .int .i64 b] w fun e w' => e = .returned (.bool q) ∧ w = w' := by
  have := allIn_n n zs hn A c w B hr a b hm
  rw [h] at this
  exact this
theorem rowB_no {W : Nat} {r : List Int} (h : ¬(1 ≤ W ∧ W ≤ 9)) : r.length = W → rowB r = false := fun e => rowB_len (by rw [e]; exact h)
theorem pondB_no {pp : List (List Int)} (h : rowsB (wide pp) pp = false) : pondB pp = false := by unfold pondB; rw [h, Bool.and_false]
theorem pondB_yes {pp : List (List Int)} (h : rowsB (wide pp) pp = true) : pondB pp = inB (pp.length : Int) 1 9 := by
  unfold pondB inB
  rw [h, Bool.and_true]
  exact decide_eq_decide.2 (by omega)
theorem inR_is {n a b : Int} {q : Bool} (h : inB n a b = q) (w : World) :
    Calls Try.prog 62 #[.int .i64 n, .int .i64 a, .int .i64 b] w fun e w' => e = .returned (.bool q) ∧ w = w' := by
  have := inRange_any n a b w
  rw [h] at this
  exact this
end Go.Proofs.Ytbnggakfogcalaa

/- Most cakes (pure): sets of cells as bits, and a field without them. -/
import Derived.Laws.Bits64b
import Derived.Test.YtiihenhddleooacMost
namespace Go.Proofs.Ytiihenhddleooac
open Go.RowKit
set_option linter.unusedVariables false
set_option linter.unusedSimpArgs false
theorem and_i64 (a b : Nat) (ha : a < 33554432) (hb : b < 33554432) : bits .and .i64 (a : Int) (b : Int) = ((a &&& b : Nat) : Int) := by
  have hx : a &&& b < 2 ^ 25 := Nat.and_lt_two_pow _ (by omega)
  have h1 : (BitVec.ofInt 64 (a : Int)).toNat = a := by
    rw [BitVec.ofInt_natCast, BitVec.toNat_ofNat]; exact Nat.mod_eq_of_lt (by omega)
  have h2 : (BitVec.ofInt 64 (b : Int)).toNat = b := by
    rw [BitVec.ofInt_natCast, BitVec.toNat_ofNat]; exact Nat.mod_eq_of_lt (by omega)
  show IntKind.i64.wrap ((BitVec.ofInt 64 (a : Int) &&& BitVec.ofInt 64 (b : Int)).toNat : Int) = _
  rw [BitVec.toNat_and, h1, h2]
  exact IntWalk.i64_in _ (by omega)
theorem or_i64 (a b : Nat) (ha : a < 33554432) (hb : b < 33554432) : bits .or .i64 (a : Int) (b : Int) = ((a ||| b : Nat) : Int) := by
  have hx : a ||| b < 2 ^ 25 := Nat.or_lt_two_pow (by omega) (by omega)
  have h1 : (BitVec.ofInt 64 (a : Int)).toNat = a := by
    rw [BitVec.ofInt_natCast, BitVec.toNat_ofNat]; exact Nat.mod_eq_of_lt (by omega)
  have h2 : (BitVec.ofInt 64 (b : Int)).toNat = b := by
    rw [BitVec.ofInt_natCast, BitVec.toNat_ofNat]; exact Nat.mod_eq_of_lt (by omega)
  show IntKind.i64.wrap ((BitVec.ofInt 64 (a : Int) ||| BitVec.ofInt 64 (b : Int)).toNat : Int) = _
  rw [BitVec.toNat_or, h1, h2]
  exact IntWalk.i64_in _ (by omega)
/-- the cells of one row of a cake, and of all its rows, as bits -/
def mR (x y n : Nat) : Nat → Nat
  | 0 => n
  | k + 1 => mR x y n k ||| 2 ^ (y * 5 + (x + k))
def mS (w x y : Nat) : Nat → Nat
  | 0 => 0
  | j + 1 => mR x (y + j) (mS w x y j) w
theorem pow_25 {p : Nat} (h : p < 25) : 2 ^ p < 33554432 := (Nat.pow_lt_pow_right (by omega) h : 2 ^ p < 2 ^ 25)
theorem or_25 {a b : Nat} (ha : a < 33554432) (hb : b < 33554432) : a ||| b < 33554432 := Nat.or_lt_two_pow (n := 25) ha hb
theorem mR_lt {x y n : Nat} (hn : n < 33554432) (hy : y < 5) : ∀ k, x + k ≤ 5 → mR x y n k < 33554432
  | 0, _ => hn
  | k + 1, h => or_25 (mR_lt hn hy k (by omega)) (pow_25 (by omega))
theorem mS_lt {w x y : Nat} (hw : x + w ≤ 5) : ∀ j, y + j ≤ 5 → mS w x y j < 33554432
  | 0, _ => by unfold mS; omega
  | j + 1, h => mR_lt (mS_lt hw j (by omega)) (by omega) w hw
theorem cellRow_nat {x y n : Nat} (hn : n < 33554432) (hy : y < 5) : ∀ k, x + k ≤ 5 → cellRow x y (n : Int) k = ((mR x y n k : Nat) : Int)
  | 0, _ => rfl
  | k + 1, h => by
    have hp := pow_25 (p := y * 5 + (x + k)) (by omega)
    have hw : wrap64 (2 ^ (y * 5 + (x + k))) = ((2 ^ (y * 5 + (x + k)) : Nat) : Int) := by
      rw [show ((2 : Int) ^ (y * 5 + (x + k))) = ((2 ^ (y * 5 + (x + k)) : Nat) : Int) by simp]
      generalize 2 ^ (y * 5 + (x + k)) = q at *
      unfold wrap64
      omega
    unfold cellRow mR
    rw [cellRow_nat hn hy k (by omega), hw, or_i64 _ _ (mR_lt hn hy k (by omega)) hp]
theorem cellSet_nat {w x y : Nat} (hw : x + w ≤ 5) : ∀ j, y + j ≤ 5 → cellSetF w x y j = ((mS w x y j : Nat) : Int)
  | 0, _ => rfl
  | j + 1, h => by
    unfold cellSetF mS
    rw [cellSet_nat hw j (by omega), cellRow_nat (mS_lt hw j (by omega)) (by omega) w hw]
theorem mR_bit {x y n p : Nat} : ∀ k, (mR x y n k).testBit p = (n.testBit p || decide (y * 5 + x ≤ p ∧ p < y * 5 + x + k))
  | 0 => by unfold mR; rw [decide_eq_false (by omega), Bool.or_false]
  | k + 1 => by
    unfold mR
    rw [Nat.testBit_or, mR_bit k, Nat.testBit_two_pow, Bool.or_assoc, ← Bool.decide_or]
    congr 1
    refine decide_eq_decide.2 ?_
    omega
theorem mS_bit {w x y p q : Nat} (hw : x + w ≤ 5) (hp : p < 5) : ∀ j, (mS w x y j).testBit (q * 5 + p) = decide (x ≤ p ∧ p < x + w ∧ y ≤ q ∧ q < y + j)
  | 0 => by
    rw [decide_eq_false (by omega)]
    exact Nat.zero_testBit _
  | j + 1 => by
    unfold mS
    rw [mR_bit, mS_bit hw hp j, ← Bool.decide_or]
    refine decide_eq_decide.2 ?_
    omega
/-- a field without the cells of a set -/
def clr (ff : List (List Bool)) (t : Nat) : List (List Bool) := (List.range ff.length).map fun y => (List.range (wideB ff)).map fun x => ice ff y x && !t.testBit (y * 5 + x)
theorem clr_len (ff : List (List Bool)) (t : Nat) : (clr ff t).length = ff.length := by simp [clr]
theorem clr_row {ff : List (List Bool)} {t y : Nat} (h : y < ff.length) : (clr ff t)[y]? = some ((List.range (wideB ff)).map fun x => ice ff y x && !t.testBit (y * 5 + x)) := by
  unfold clr
  rw [List.getElem?_map, List.getElem?_range h]
  rfl
theorem clr_wide {ff : List (List Bool)} {t : Nat} (h : 1 ≤ ff.length) : wideB (clr ff t) = wideB ff := by
  show ((clr ff t).getD 0 []).length = _
  rw [List.getD_eq_getElem?_getD, clr_row (by omega)]
  simp
theorem clr_ice {ff : List (List Bool)} {t y x : Nat} (hy : y < ff.length) (hx : x < wideB ff) : ice (clr ff t) y x = (ice ff y x && !t.testBit (y * 5 + x)) := by
  show ((clr ff t).getD y []).getD x false = _
  rw [List.getD_eq_getElem?_getD, List.getD_eq_getElem?_getD, clr_row hy]
  simp [List.getElem?_map, List.getElem?_range hx]
theorem and_zero {a b : Nat} : a &&& b = 0 ↔ ∀ i, ¬ (a.testBit i = true ∧ b.testBit i = true) := by
  constructor
  · intro h i ⟨h1, h2⟩
    have := Nat.testBit_and a b i
    rw [h, h1, h2, Nat.zero_testBit] at this
    simp at this
  · intro h
    apply Nat.eq_of_testBit_eq
    intro i
    rw [Nat.testBit_and, Nat.zero_testBit]
    have := h i
    cases h1 : a.testBit i <;> cases h2 : b.testBit i <;> simp_all
theorem whole_clr {ff : List (List Bool)} {w h x y t : Nat} (hl : 1 ≤ ff.length ∧ ff.length ≤ 5) (hw : wideB ff ≤ 5) : wholeB (clr ff t) w h x y = (wholeB ff w h x y && decide (mS w x y h &&& t = 0)) := by
  rw [Bool.eq_iff_iff, Bool.and_eq_true, decide_eq_true_iff, wholeB_iff, wholeB_iff, clr_len, clr_wide hl.1]
  constructor
  · rintro ⟨⟨h1, h2⟩, h3⟩
    refine ⟨⟨⟨h1, h2⟩, fun j hj i hi => ?_⟩, and_zero.2 fun b ⟨e1, e2⟩ => ?_⟩
    · have := h3 j hj i hi
      rw [clr_ice (by omega) (by omega), Bool.and_eq_true] at this
      exact this.1
    · have hb : b = b / 5 * 5 + b % 5 := by omega
      have hm : b % 5 < 5 := Nat.mod_lt _ (by omega)
      generalize b / 5 = q at *
      generalize b % 5 = p at *
      subst hb
      rw [mS_bit (by omega) hm] at e1
      have e1 := of_decide_eq_true e1
      have := h3 (q - y) (by omega) (p - x) (by omega)
      rw [show y + (q - y) = q by omega, show x + (p - x) = p by omega, clr_ice (by omega) (by omega), e2] at this
      simp at this
  · rintro ⟨⟨⟨h1, h2⟩, h3⟩, h4⟩
    refine ⟨⟨h1, h2⟩, fun j hj i hi => ?_⟩
    rw [clr_ice (by omega) (by omega), h3 j hj i hi, Bool.true_and]
    have := and_zero.1 h4 ((y + j) * 5 + (x + i))
    rw [mS_bit (by omega) (by omega), decide_eq_true (by omega)] at this
    cases e : t.testBit ((y + j) * 5 + (x + i))
    · rfl
    · exact absurd ⟨rfl, e⟩ this

end Go.Proofs.Ytiihenhddleooac

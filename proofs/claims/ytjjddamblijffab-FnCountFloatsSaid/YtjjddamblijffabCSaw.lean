/- Contracts of chapter 3: the length of all cuts, the program. -/
import Derived.Test.YtjjddamblijffabCValidI
namespace Go.Proofs.Ytjjddamblijffab
open Go.RowKit
set_option linter.unusedVariables false
set_option linter.unusedSimpArgs false
def dist (x u : Int) : Int := if x < u then u - x else x - u
def shD (a b D1 D2 : Int) : Int := if D1 = a ∧ D2 < b then b - D2 else if D2 = b ∧ D1 < a then a - D1 else 0
def shF (a b : Int) (c d : Int × Int) : Int := shD a b (dist c.1 d.1) (dist c.2 d.2)
def shTo (a b : Int) (cs : List (Int × Int)) (i : Nat) : Nat → Int
  | 0 => 0
  | k + 1 => shTo a b cs i k + shF a b (cAt cs i) (cAt cs k)
def shAll (a b : Int) (cs : List (Int × Int)) : Nat → Int
  | 0 => 0
  | n + 1 => shAll a b cs n + shTo a b cs n n
def sawF (a b : Int) (cs : List (Int × Int)) : Int := 2 * (a + b) * (cs.length : Int) - shAll a b cs cs.length
def sawT (a b : Int) (cs : List (Int × Int)) : Int := if cakesB a b cs then sawF a b cs else -1
theorem dist_nn (x u : Int) : 0 ≤ dist x u := by unfold dist; split <;> omega
theorem shD_bd {a b D1 D2 : Int} (ha : 1 ≤ a ∧ a ≤ 4) (hb : 1 ≤ b ∧ b ≤ 4) (h1 : 0 ≤ D1) (h2 : 0 ≤ D2) : 0 ≤ shD a b D1 D2 ∧ shD a b D1 D2 ≤ 4 := by
  unfold shD
  split
  · omega
  · split <;> omega
theorem shF_bd {a b : Int} (ha : 1 ≤ a ∧ a ≤ 4) (hb : 1 ≤ b ∧ b ≤ 4) (c d : Int × Int) : 0 ≤ shF a b c d ∧ shF a b c d ≤ 4 := shD_bd ha hb (dist_nn _ _) (dist_nn _ _)
theorem shTo_bd {a b : Int} (ha : 1 ≤ a ∧ a ≤ 4) (hb : 1 ≤ b ∧ b ≤ 4) (cs : List (Int × Int)) (i : Nat) : ∀ k : Nat, 0 ≤ shTo a b cs i k ∧ shTo a b cs i k ≤ 4 * (k : Int)
  | 0 => by simp [shTo]
  | k + 1 => by
    have h1 := shTo_bd ha hb cs i k
    have h2 := shF_bd ha hb (cAt cs i) (cAt cs k)
    unfold shTo
    omega
theorem shAll_bd {a b : Int} (ha : 1 ≤ a ∧ a ≤ 4) (hb : 1 ≤ b ∧ b ≤ 4) (cs : List (Int × Int)) : ∀ n : Nat, n ≤ 1048576 → 0 ≤ shAll a b cs n ∧ shAll a b cs n ≤ 4194304 * (n : Int)
  | 0, _ => by simp [shAll]
  | n + 1, h => by
    have h1 := shAll_bd ha hb cs n (by omega)
    have h2 := shTo_bd ha hb cs n n
    unfold shAll
    omega
theorem sawT_no {a b : Int} {cs : List (Int × Int)} (h : cakesB a b cs = false) : sawT a b cs = -1 := by unfold sawT; rw [h]; rfl
theorem sawT_ok {a b : Int} {cs : List (Int × Int)} (h : cakesB a b cs = true) : sawT a b cs = sawF a b cs := by unfold sawT; rw [h]; rfl
theorem cakesB_parts {a b : Int} {cs : List (Int × Int)} (h : cakesB a b cs = true) : sidesB a b = true ∧ okTo a b cs cs.length = true := by unfold cakesB at h; rw [Bool.and_eq_true] at h; exact h
theorem iVC_is {q : Bool} (n : Nat) (hn : n ≤ 1048576) (cs : List (Int × Int)) (hl : cs.length = n) (A : Option Addr) (c : Nat) (hcap : n ≤ c ∧ c ≤ maxLen) (w : World) (hr : Rd w w.heap.size A (cakeV cs)) (a b : Int) (h : cakesB a b cs = q) :
    Calls Try.prog 45 #[.slice A n c, .int .i64 a, .int .i64 b] w fun e w' => e = .returned (.bool q) ∧ Below w.heap.size w w' := by
  have := iVC_any n hn cs hl A c hcap w hr a b
  rw [h] at this
  exact this
end Go.Proofs.Ytjjddamblijffab

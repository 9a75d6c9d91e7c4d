/- Contracts of chapter 3: the grid with the most cakes. -/
import Derived.Test.YtiihenhddleooacFCakesS
namespace Go.Proofs.Ytiihenhddleooac
open Go.RowKit
set_option linter.unusedVariables false
set_option linter.unusedSimpArgs false
def cntF (ff : List (List Bool)) (w h dx dy : Nat) : Nat := (gridF ff w h dx dy).length
def bestRow (ff : List (List Bool)) (w h y : Nat) (b : Nat × Nat) : Nat → Nat × Nat
  | 0 => b
  | x + 1 => if cntF ff w h (bestRow ff w h y b x).1 (bestRow ff w h y b x).2 < cntF ff w h x y then (x, y) else bestRow ff w h y b x
def bestAll (ff : List (List Bool)) (w h : Nat) : Nat → Nat × Nat
  | 0 => (0, 0)
  | y + 1 => bestRow ff w h y (bestAll ff w h y) w
/-- the best so far, ahead of the place x in the row y -/
structure BR (ff : List (List Bool)) (w h y x bx b2 : Nat) : Prop where
  eq : bestRow ff w h y (bestAll ff w h y) x = (bx, b2)
  lx : bx < w
  ly : b2 < h
theorem BR.zero {ff : List (List Bool)} {w h : Nat} (hw : 1 ≤ w) (hh : 1 ≤ h) : BR ff w h 0 0 0 0 := ⟨rfl, by omega, by omega⟩
theorem BR.more {ff : List (List Bool)} {w h y x bx b2 : Nat} (b : BR ff w h y x bx b2) (hx : x < w) (hy : y < h) (hc : cntF ff w h bx b2 < cntF ff w h x y) : BR ff w h y (x + 1) x y :=
  ⟨by show (if _ then _ else _) = _; rw [b.eq]; exact if_pos hc, hx, hy⟩
theorem BR.stay {ff : List (List Bool)} {w h y x bx b2 : Nat} (b : BR ff w h y x bx b2) (hc : ¬ cntF ff w h bx b2 < cntF ff w h x y) : BR ff w h y (x + 1) bx b2 :=
  ⟨by show (if _ then _ else _) = _; rw [b.eq]; exact if_neg hc, b.lx, b.ly⟩
theorem BR.next {ff : List (List Bool)} {w h y bx b2 : Nat} (b : BR ff w h y w bx b2) : BR ff w h (y + 1) 0 bx b2 := ⟨b.eq, b.lx, b.ly⟩
theorem cntF_le {ff : List (List Bool)} {w h x y : Nat} (hv : fieldB ff = true) : cntF ff w h x y ≤ 81 := gridF_len hv
def bestT (ff : List (List Bool)) (w h : Int) : Int × Int := if fieldB ff && sidesB w h then (((bestAll ff w.toNat h.toNat h.toNat).1 : Int), ((bestAll ff w.toNat h.toNat h.toNat).2 : Int)) else (-1, -1)
theorem bestT_no {ff : List (List Bool)} {w h : Int} (hq : (fieldB ff && sidesB w h) = false) : bestT ff w h = (-1, -1) := by unfold bestT; rw [hq]; rfl
theorem bestT_ok {ff : List (List Bool)} {w h bx b2 : Nat} (hv : fieldB ff = true) (hs : sidesB w h = true) (b : BR ff w h h 0 bx b2) : bestT ff w h = ((bx : Int), (b2 : Int)) := by
  have e := b.eq
  unfold bestT
  rw [hv, hs]
  have e' : bestAll ff w h h = (bx, b2) := e
  simp [e']
def BestPost (p : Int × Int) (w : World) (e : Ending) (w' : World) : Prop := e = .returned (.tuple #[.int .i64 p.1, .int .i64 p.2]) ∧ Below w.heap.size w w'
theorem nat_sides {w h : Int} (hs : sidesB w h = true) : ∃ cw ch : Nat, w = cw ∧ h = ch := by
  have := sidesB_t hs
  exact ⟨w.toNat, h.toNat, by omega, by omega⟩
end Go.Proofs.Ytiihenhddleooac

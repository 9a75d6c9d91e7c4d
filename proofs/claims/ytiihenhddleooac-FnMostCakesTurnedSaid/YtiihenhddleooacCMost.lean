/- Most cakes (pure): the recursion over cells and the recursion over sets agree. -/
import Derived.Test.YtiihenhddleooacCMask
import Derived.Test.YtiihenhddleooacMostI
namespace Go.Proofs.Ytiihenhddleooac
open Go.RowKit
set_option linter.unusedVariables false
set_option linter.unusedSimpArgs false
theorem clr_clr {ff : List (List Bool)} {s t : Nat} (h : 1 ≤ ff.length) : clr (clr ff t) s = clr ff (t ||| s) := by
  unfold clr
  rw [show (List.length (List.map (fun y => List.map (fun x => ice ff y x && !t.testBit (y * 5 + x)) (List.range (wideB ff))) (List.range ff.length))) = ff.length by simp]
  apply List.map_congr_left
  intro y hy
  have hy := List.mem_range.1 hy
  show List.map _ (List.range (wideB (clr ff t))) = _
  rw [clr_wide h]
  apply List.map_congr_left
  intro x hx
  have hx := List.mem_range.1 hx
  show (ice (clr ff t) y x && _) = _
  rw [clr_ice hy hx, Nat.testBit_or]
  cases ice ff y x <;> cases t.testBit (y * 5 + x) <;> cases s.testBit (y * 5 + x) <;> rfl
/-- the most cakes from a cell on, cell by cell -/
def mostG (w h : Nat) : List (List Bool) → Nat → Nat → Int
  | _, 0, _ => 0
  | ff, f + 1, a =>
    if wholeB ff w h (a % wideB ff) (a / wideB ff) = true then
      (if mostG w h ff f (a + 1) < 1 + mostG w h (clr ff (mS w (a % wideB ff) (a / wideB ff) h)) f (a + 1) then 1 + mostG w h (clr ff (mS w (a % wideB ff) (a / wideB ff) h)) f (a + 1) else mostG w h ff f (a + 1))
    else mostG w h ff f (a + 1)
def setsAt (ff : List (List Bool)) (w h : Nat) : Nat → Nat → List Int
  | 0, _ => []
  | f + 1, a => if wholeB ff w h (a % wideB ff) (a / wideB ff) = true then cellSetF w (a % wideB ff) (a / wideB ff) h :: setsAt ff w h f (a + 1) else setsAt ff w h f (a + 1)
theorem mostG_apart {ff : List (List Bool)} {w h : Nat} (hl : 1 ≤ ff.length ∧ ff.length ≤ 5) (hw : wideB ff ≤ 5) : ∀ (f a t : Nat), t < 33554432 → mostG w h (clr ff t) f a = apartF (setsAt ff w h f a) (t : Int)
  | 0, _, _, _ => by unfold mostG setsAt; rfl
  | f + 1, a, t, ht => by
    have h0 := mostG_apart (w := w) (h := h) hl hw f (a + 1) t ht
    unfold mostG setsAt
    rw [clr_wide hl.1, whole_clr hl hw, h0]
    generalize a % wideB ff = x at *
    generalize a / wideB ff = y at *
    cases e : wholeB ff w h x y
    · simp
    · have hb := (wholeB_iff.1 e).1
      have hs := mS_lt (w := w) (x := x) (y := y) (by omega) h (by omega)
      have h1 := mostG_apart (w := w) (h := h) hl hw f (a + 1) (t ||| mS w x y h) (or_25 ht hs)
      rw [if_pos rfl, clr_clr hl.1, h1, cellSet_nat (by omega) h (by omega)]
      conv => rhs; unfold apartF
      rw [and_i64 _ _ hs ht, or_i64 _ _ ht hs]
      rw [Bool.true_and]
      by_cases g : mS w x y h &&& t = 0
      · have g2 : ((mS w x y h &&& t : Nat) : Int) = 0 := by omega
        rw [decide_eq_true g, if_pos rfl, if_pos g2]
      · have g2 : ¬ ((mS w x y h &&& t : Nat) : Int) = 0 := by omega
        rw [decide_eq_false g, if_neg (by simp), if_neg g2]
theorem setsAt_range (ff : List (List Bool)) (w h : Nat) : ∀ f a, setsAt ff w h f a = ((List.range' a f).filter (fun b => wholeB ff w h (b % wideB ff) (b / wideB ff))).map (fun b => cellSetF w (b % wideB ff) (b / wideB ff) h)
  | 0, _ => rfl
  | f + 1, a => by
    unfold setsAt
    rw [List.range'_succ, List.filter_cons, setsAt_range ff w h f (a + 1)]
    split <;> rfl
theorem setRow_more {ff : List (List Bool)} {w h y m : Nat} (hz : ∀ x, m ≤ x → wholeB ff w h x y = false) : ∀ d, setRow ff w h y (m + d) = setRow ff w h y m
  | 0 => rfl
  | d + 1 => by rw [← Nat.add_assoc, setRow_succ, hz (m + d) (by omega), setRow_more hz d]; simp
theorem setRow_full {ff : List (List Bool)} {w h y : Nat} (hw : 1 ≤ w) : setRow ff w h y (wideB ff) = setRow ff w h y (wideB ff + 1 - w) := by
  obtain ⟨d, hd⟩ : ∃ d, wideB ff = (wideB ff + 1 - w) + d := ⟨wideB ff - (wideB ff + 1 - w), by omega⟩
  conv => lhs; rw [hd]
  exact setRow_more (fun x hx => wholeB_out (by omega)) d
theorem setAll_more {ff : List (List Bool)} {w h m : Nat} (hz : ∀ y, m ≤ y → ∀ x, wholeB ff w h x y = false) : ∀ d, setAll ff w h (m + d) = setAll ff w h m
  | 0 => rfl
  | d + 1 => by
    have : setRow ff w h (m + d) (wideB ff + 1 - w) = [] := by
      have h1 := setRow_more (ff := ff) (w := w) (h := h) (y := m + d) (m := 0) (fun x _ => hz (m + d) (by omega) x) (wideB ff + 1 - w)
      rw [Nat.zero_add] at h1
      rw [h1]
      rfl
    rw [← Nat.add_assoc, setAll_succ, this, setAll_more hz d, List.append_nil]
theorem setAll_full {ff : List (List Bool)} {w h : Nat} (hh : 1 ≤ h) : setAll ff w h ff.length = setsF ff w h := by
  obtain ⟨d, hd⟩ : ∃ d, ff.length = (ff.length + 1 - h) + d := ⟨ff.length - (ff.length + 1 - h), by omega⟩
  conv => lhs; rw [hd]
  exact setAll_more (fun y hy x => wholeB_out (by omega)) d
theorem row_part {ff : List (List Bool)} {w h : Nat} (hw : 1 ≤ w) (hwd : 1 ≤ wideB ff) (n : Nat) :
    ((((List.range (wideB ff)).map (n * wideB ff + ·)).filter (fun b => wholeB ff w h (b % wideB ff) (b / wideB ff))).map (fun b => cellSetF w (b % wideB ff) (b / wideB ff) h)) = setRow ff w h n (wideB ff + 1 - w) := by
  rw [← setRow_full hw]
  unfold setRow
  rw [List.filter_map, List.map_map]
  have h1 : ∀ x ∈ List.range (wideB ff), (n * wideB ff + x) % wideB ff = x ∧ (n * wideB ff + x) / wideB ff = n := fun x hx => by
    have hx := List.mem_range.1 hx
    refine ⟨by rw [Nat.add_comm, Nat.add_mul_mod_self_right]; exact Nat.mod_eq_of_lt hx, ?_⟩
    rw [Nat.add_comm, Nat.add_mul_div_right _ _ (by omega), Nat.div_eq_of_lt hx, Nat.zero_add]
  rw [List.filter_congr (q := fun x => wholeB ff w h x n) (fun x hx => by simp only [Function.comp]; rw [(h1 x hx).1, (h1 x hx).2])]
  apply List.map_congr_left
  intro x hx
  have hx := (List.mem_filter.1 hx).1
  simp only [Function.comp]
  rw [(h1 x hx).1, (h1 x hx).2]
theorem setsAt_all {ff : List (List Bool)} {w h : Nat} (hw : 1 ≤ w) (hh : 1 ≤ h) (hwd : 1 ≤ wideB ff) : setsAt ff w h (ff.length * wideB ff) 0 = setsF ff w h := by
  rw [← setAll_full hh, setsAt_range, ← List.range_eq_range']
  generalize ff.length = n
  induction n with
  | zero => simp [setAll]
  | succ n ih => rw [Nat.add_mul, Nat.one_mul, List.range_add, List.filter_append, List.map_append, ih, setAll_succ, row_part hw hwd]
theorem clr_zero {ff : List (List Bool)} (h : fieldB ff = true) : clr ff 0 = ff := by
  have hr := ((Bool.and_eq_true _ _).mp h).2
  have hrow : ∀ y (hy : y < ff.length), (ff[y]).length = wideB ff := fun y hy => by
    have := List.all_eq_true.1 hr _ (List.getElem_mem hy)
    exact (of_decide_eq_true this).1
  apply List.ext_getElem?
  intro y
  by_cases hy : y < ff.length
  · rw [clr_row hy, List.getElem?_eq_getElem hy]
    congr 1
    apply List.ext_getElem?
    intro x
    by_cases hx : x < wideB ff
    · rw [List.getElem?_map, List.getElem?_range hx]
      have hx2 : x < (ff[y]).length := by rw [hrow y hy]; exact hx
      rw [List.getElem?_eq_getElem hx2]
      show some (ice ff y x && !Nat.testBit 0 (y * 5 + x)) = _
      rw [Nat.zero_testBit, Bool.not_false, Bool.and_true]
      congr 1
      show (ff.getD y []).getD x false = _
      rw [List.getD_eq_getElem?_getD, List.getD_eq_getElem?_getD, List.getElem?_eq_getElem hy]
      show (ff[y][x]?).getD false = _
      rw [List.getElem?_eq_getElem hx2]
      rfl
    · rw [List.getElem?_eq_none (by simp; omega), List.getElem?_eq_none (by rw [hrow y hy]; omega)]
  · rw [List.getElem?_eq_none (by rw [clr_len]; omega), List.getElem?_eq_none (by omega)]
theorem mostG_all {ff : List (List Bool)} {w h : Nat} (hv : fieldB ff = true) (hl : 1 ≤ ff.length ∧ ff.length ≤ 5) (hwd : 1 ≤ wideB ff ∧ wideB ff ≤ 5) (hw : 1 ≤ w) (hh : 1 ≤ h) : mostG w h ff (ff.length * wideB ff) 0 = apartF (setsF ff w h) 0 := by
  have := mostG_apart (w := w) (h := h) hl hwd.2 (ff.length * wideB ff) 0 0 (by omega)
  rw [clr_zero hv, setsAt_all hw hh hwd.1] at this
  exact this
/-- a field without some of its cells is a field -/
theorem clr_field {ff : List (List Bool)} (h : fieldB ff = true) (t : Nat) : fieldB (clr ff t) = true := by
  obtain ⟨h1, h2⟩ := (Bool.and_eq_true _ _).mp h
  have hl := of_decide_eq_true h1
  have hwd : 1 ≤ wideB ff ∧ wideB ff ≤ 9 := by
    have := List.all_eq_true.1 h2 _ (List.getElem_mem (show 0 < ff.length by omega))
    have := of_decide_eq_true this
    omega
  unfold fieldB
  rw [clr_len, h1, Bool.true_and]
  unfold rowsF
  rw [clr_wide hl.1, List.all_eq_true]
  intro r hr
  unfold clr at hr
  obtain ⟨y, _, rfl⟩ := List.mem_map.1 hr
  refine decide_eq_true ?_
  rw [List.length_map, List.length_range]
  omega

end Go.Proofs.Ytiihenhddleooac

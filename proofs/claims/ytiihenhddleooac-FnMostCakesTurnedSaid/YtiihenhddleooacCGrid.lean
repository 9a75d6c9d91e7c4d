/- The cakes of a grid, row by row, and how many there are. -/
import Derived.Test.YtiihenhddleooacFHold
namespace Go.Proofs.Ytiihenhddleooac
open Go.RowKit
set_option linter.unusedVariables false
set_option linter.unusedSimpArgs false
def rowG (ff : List (List Bool)) (w h dx y n : Nat) : List (Int × Int) := ((List.range n).filter (fun x => decide (x % w = dx) && wholeB ff w h x y)).map (fun x : Nat => (((x : Nat) : Int), (y : Int)))
def gridG (ff : List (List Bool)) (w h dx dy n : Nat) : List (Int × Int) := (List.range n).flatMap (fun y => if y % h = dy then rowG ff w h dx y (wideB ff) else [])
section
variable {ff : List (List Bool)} {w h dx dy x y : Nat}
theorem range_split {m n : Nat} (hmn : m ≤ n) : List.range n = List.range m ++ (List.range (n - m)).map (m + ·) := by
  have := List.range_add (n := m) (m := n - m)
  rw [show m + (n - m) = n by omega] at this
  exact this
theorem mod_off {w x d j : Nat} (h1 : x % w = d) (h2 : 0 < j) (h3 : j < w) : (x + j) % w ≠ d := by
  intro h4
  have h6 : w * (x / w) + x % w = x := Nat.div_add_mod x w
  have h5 : w * ((x + j) / w) + (x + j) % w = x + j := Nat.div_add_mod (x + j) w
  have h7 : w * ((x + j) / w) = w * (x / w) + j := by omega
  have h8 : w * ((x + j) / w) - w * (x / w) = j := by omega
  rw [← Nat.mul_sub] at h8
  generalize (x + j) / w - x / w = q at h8
  cases q with
  | zero => simp at h8; omega
  | succ q =>
    have : w * 1 ≤ w * (q + 1) := Nat.mul_le_mul_left _ (by omega)
    omega
theorem rowG_stay {m n : Nat} (hmn : m ≤ n) (hq : ∀ x, m ≤ x → x < n → wholeB ff w h x y = false) : rowG ff w h dx y n = rowG ff w h dx y m := by
  unfold rowG
  rw [range_split hmn, List.filter_append]
  have : ((List.range (n - m)).map (m + ·)).filter (fun x => decide (x % w = dx) && wholeB ff w h x y) = [] := by
    rw [List.filter_eq_nil_iff]
    intro a ha
    rw [List.mem_map] at ha
    obtain ⟨b, hb, rfl⟩ := ha
    have hb := List.mem_range.1 hb
    rw [hq (m + b) (by omega) (by omega)]
    simp
  rw [this, List.append_nil]
theorem rowG_end (hw : 1 ≤ w) (hx : wideB ff < x + w) : rowG ff w h dx y x = rowG ff w h dx y (wideB ff) := by
  rcases Nat.le_total x (wideB ff) with hle | hle
  · exact (rowG_stay hle fun x' h1 h2 => wholeB_out (by omega)).symm
  · exact rowG_stay hle fun x' h1 h2 => wholeB_out (by omega)
theorem rowG_step (hw : 1 ≤ w) (hx : x % w = dx) : rowG ff w h dx y (x + w) = rowG ff w h dx y x ++ (if wholeB ff w h x y = true then [((x : Int), (y : Int))] else []) := by
  unfold rowG
  rw [List.range_add, List.filter_append, List.map_append]
  congr 1
  obtain ⟨v, rfl⟩ : ∃ v, w = v + 1 := ⟨w - 1, by omega⟩
  rw [List.range_succ_eq_map, List.map_cons, Nat.add_zero, List.filter_cons]
  have : (List.map (fun x_1 => x + x_1) (List.map Nat.succ (List.range v))).filter (fun x => decide (x % (v + 1) = dx) && wholeB ff (v + 1) h x y) = [] := by
    rw [List.filter_eq_nil_iff]
    intro a ha
    simp only [List.mem_map, List.mem_range] at ha
    obtain ⟨_, ⟨b, hb, rfl⟩, rfl⟩ := ha
    have := mod_off hx (j := b.succ) (by omega) (by omega)
    simp [this]
  rw [this, Nat.add_zero, hx]
  cases wholeB ff (v + 1) h x y <;> simp
theorem rowG_out {n : Nat} (hy : ff.length < y + h) : rowG ff w h dx y n = [] := by
  unfold rowG
  rw [List.map_eq_nil_iff, List.filter_eq_nil_iff]
  intro a _
  rw [wholeB_out (by omega)]
  simp
theorem gridG_stay {m n : Nat} (hmn : m ≤ n) (hq : ∀ y, m ≤ y → y < n → rowG ff w h dx y (wideB ff) = []) : gridG ff w h dx dy n = gridG ff w h dx dy m := by
  unfold gridG
  rw [range_split hmn, List.flatMap_append]
  have : ((List.range (n - m)).map (m + ·)).flatMap (fun y => if y % h = dy then rowG ff w h dx y (wideB ff) else []) = [] := by
    rw [List.flatMap_eq_nil_iff]
    intro a ha
    rw [List.mem_map] at ha
    obtain ⟨b, hb, rfl⟩ := ha
    have hb := List.mem_range.1 hb
    rw [hq (m + b) (by omega) (by omega)]
    split <;> rfl
  rw [this, List.append_nil]
theorem gridG_end (hh : 1 ≤ h) (hy : ff.length < y + h) : gridG ff w h dx dy y = gridG ff w h dx dy ff.length := by
  rcases Nat.le_total y ff.length with hle | hle
  · exact (gridG_stay hle fun y' h1 h2 => rowG_out (n := wideB ff) (w := w) (dx := dx) (show ff.length < y' + h by omega)).symm
  · exact gridG_stay hle fun y' h1 h2 => rowG_out (n := wideB ff) (w := w) (dx := dx) (show ff.length < y' + h by omega)
theorem gridG_step (hh : 1 ≤ h) (hy : y % h = dy) : gridG ff w h dx dy (y + h) = gridG ff w h dx dy y ++ rowG ff w h dx y (wideB ff) := by
  unfold gridG
  rw [List.range_add, List.flatMap_append]
  congr 1
  obtain ⟨v, rfl⟩ : ∃ v, h = v + 1 := ⟨h - 1, by omega⟩
  rw [List.range_succ_eq_map, List.map_cons, List.flatMap_cons, Nat.add_zero, if_pos hy]
  have : (List.map (fun x_1 => y + x_1) (List.map Nat.succ (List.range v))).flatMap (fun y => if y % (v + 1) = dy then rowG ff w (v + 1) dx y (wideB ff) else []) = [] := by
    rw [List.flatMap_eq_nil_iff]
    intro a ha
    simp only [List.mem_map, List.mem_range] at ha
    obtain ⟨_, ⟨b, hb, rfl⟩, rfl⟩ := ha
    rw [if_neg (mod_off hy (j := b.succ) (by omega) (by omega))]
  rw [this, List.append_nil]
theorem rowG_len (n : Nat) : (rowG ff w h dx y n).length ≤ n := by
  unfold rowG
  rw [List.length_map]
  refine Nat.le_trans (List.length_filter_le _ _) ?_
  simp
theorem gridG_len (n : Nat) : (gridG ff w h dx dy n).length ≤ n * wideB ff := by
  unfold gridG
  induction n with
  | zero => simp
  | succ n ih =>
    rw [List.range_succ, List.flatMap_append, List.length_append, Nat.add_mul]
    have : (List.flatMap (fun y => if y % h = dy then rowG ff w h dx y (wideB ff) else []) [n]).length ≤ wideB ff := by
      simp only [List.flatMap_cons, List.flatMap_nil, List.append_nil]
      split
      · exact rowG_len _
      · simp
    omega
theorem gridG_zero (hd : dy < h) : gridG ff w h dx dy dy = [] := by
  unfold gridG
  rw [List.flatMap_eq_nil_iff]
  intro a ha
  have ha := List.mem_range.1 ha
  rw [if_neg (by rw [Nat.mod_eq_of_lt (by omega)]; omega)]
theorem rowG_zero (hd : dx < w) : rowG ff w h dx y dx = [] := by
  unfold rowG
  rw [List.map_eq_nil_iff, List.filter_eq_nil_iff]
  intro a ha
  have ha := List.mem_range.1 ha
  rw [Nat.mod_eq_of_lt (by omega)]
  simp
  intro h1
  omega
end
def gridF (ff : List (List Bool)) (w h dx dy : Nat) : List (Int × Int) := gridG ff w h dx dy ff.length
theorem gridF_len {ff : List (List Bool)} {w h dx dy : Nat} (hv : fieldB ff = true) : (gridF ff w h dx dy).length ≤ 81 := by
  have h1 := gridG_len (ff := ff) (w := w) (h := h) (dx := dx) (dy := dy) ff.length
  have h2 := field_len hv
  have h3 := field_wide hv
  have h4 : ff.length * wideB ff ≤ 9 * 9 := Nat.mul_le_mul h2.2 h3.2
  unfold gridF
  omega
def cakesT (ff : List (List Bool)) (w h dx dy : Int) : List (Int × Int) :=
  if fieldB ff && (sidesB w h && (inB dx 0 (w - 1) && inB dy 0 (h - 1))) then gridF ff w.toNat h.toNat dx.toNat dy.toNat else []
theorem cakesT_no {ff : List (List Bool)} {w h dx dy : Int} (hq : (fieldB ff && (sidesB w h && (inB dx 0 (w - 1) && inB dy 0 (h - 1)))) = false) : cakesT ff w h dx dy = [] := by unfold cakesT; rw [hq]; rfl
theorem cakesT_ok {ff : List (List Bool)} {w h dx dy : Nat} (hv : fieldB ff = true) (hs : sidesB w h = true) (h1 : dx < w) (h2 : dy < h) : cakesT ff w h dx dy = gridF ff w h dx dy := by
  unfold cakesT
  rw [hv, hs, inB_mk (show (0 : Int) ≤ (dx : Int) ∧ (dx : Int) ≤ (w : Int) - 1 by omega), inB_mk (show (0 : Int) ≤ (dy : Int) ∧ (dy : Int) ≤ (h : Int) - 1 by omega)]
  rfl

end Go.Proofs.Ytiihenhddleooac

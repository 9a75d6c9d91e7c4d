/- Plain mathematics of chapter 5: sums over the cells of a grid, heaps, faces in the air. Nothing of the program. -/
import Derived.Test.YtggdnpaiaijhgaaGrid
namespace Go.Proofs.Ytggdnpaiaijhgaa
open Go.RowKit
set_option linter.unusedVariables false
set_option linter.unusedSimpArgs false
/-! ### sums -/
def S1 : Nat → (Nat → Int) → Int
  | 0, _ => 0
  | n + 1, f => S1 n f + f n
theorem S1_succ (n : Nat) (f : Nat → Int) : S1 (n + 1) f = S1 n f + f n := rfl
theorem S1_congr {n : Nat} {f g : Nat → Int} (h : ∀ k, k < n → f k = g k) : S1 n f = S1 n g := by
  induction n with
  | zero => rfl
  | succ n ih => rw [S1_succ, S1_succ, ih fun k hk => h k (by omega), h n (by omega)]
theorem S1_add (n : Nat) (f g : Nat → Int) : S1 n (fun k => f k + g k) = S1 n f + S1 n g := by
  induction n with
  | zero => rfl
  | succ n ih => rw [S1_succ, S1_succ, S1_succ, ih]; omega
theorem S1_zero (n : Nat) : S1 n (fun _ => 0) = 0 := by
  induction n with
  | zero => rfl
  | succ n ih => rw [S1_succ, ih]; rfl
theorem S1_const (n : Nat) (c : Int) : S1 n (fun _ => c) = n * c := by
  induction n with
  | zero => simp [S1]
  | succ n ih => rw [S1_succ, ih, Int.natCast_succ, Int.add_mul, Int.one_mul]
theorem S1_le {n : Nat} {f g : Nat → Int} (h : ∀ k, k < n → f k ≤ g k) : S1 n f ≤ S1 n g := by
  induction n with
  | zero => exact Int.le_refl _
  | succ n ih =>
    have := ih fun k hk => h k (by omega)
    have := h n (by omega)
    rw [S1_succ, S1_succ]; omega
theorem S1_nn {n : Nat} {f : Nat → Int} (h : ∀ k, k < n → 0 ≤ f k) : 0 ≤ S1 n f := by
  have := S1_le (f := fun _ => 0) h
  rwa [S1_zero] at this
theorem S1_bd {n : Nat} {f : Nat → Int} {c : Int} (h : ∀ k, k < n → f k ≤ c) : S1 n f ≤ n * c := by
  have := S1_le (g := fun _ => c) h
  rwa [S1_const] at this
theorem S1_ge {n : Nat} {f : Nat → Int} (h : ∀ k, k < n → 0 ≤ f k) {a : Nat} (ha : a < n) : f a ≤ S1 n f := by
  induction n with
  | zero => omega
  | succ n ih =>
    have h0 := S1_nn (n := n) (f := f) fun k hk => h k (by omega)
    have h1 := h n (by omega)
    rw [S1_succ]
    by_cases e : a = n
    · subst e; omega
    · have := ih (fun k hk => h k (by omega)) (by omega); omega
theorem S1_ind (n a : Nat) (d : Int) : S1 n (fun k => if k = a then d else 0) = if a < n then d else 0 := by
  induction n with
  | zero => rfl
  | succ n ih =>
    rw [S1_succ, ih]
    by_cases h1 : a < n
    · have h2 : ¬ n = a := by omega
      have h3 : a < n + 1 := by omega
      simp only [h1, h2, h3, if_true, if_false]; omega
    · by_cases h2 : n = a
      · rw [if_neg h1, if_pos h2, if_pos (by omega)]; omega
      · have h3 : ¬ a < n + 1 := by omega
        simp only [h1, h2, h3, if_false]; rfl
theorem S1_swap (n m : Nat) (f : Nat → Nat → Int) : S1 n (fun y => S1 m (fun x => f x y)) = S1 m (fun x => S1 n (fun y => f x y)) := by
  induction n with
  | zero => exact (S1_zero m).symm
  | succ n ih => rw [S1_succ, ih, ← S1_add]; rfl
/-- over columns x and rows y -/
def S2 (W H : Nat) (f : Nat → Nat → Int) : Int := S1 H (fun y => S1 W (fun x => f x y))
theorem S2_congr {W H : Nat} {f g : Nat → Nat → Int} (h : ∀ x y, x < W → y < H → f x y = g x y) : S2 W H f = S2 W H g := S1_congr fun y hy => S1_congr fun x hx => h x y hx hy
theorem S2_add (W H : Nat) (f g : Nat → Nat → Int) : S2 W H (fun x y => f x y + g x y) = S2 W H f + S2 W H g := by
  unfold S2
  rw [← S1_add]
  exact S1_congr fun y _ => S1_add W _ _
theorem S2_nn {W H : Nat} {f : Nat → Nat → Int} (h : ∀ x y, x < W → y < H → 0 ≤ f x y) : 0 ≤ S2 W H f := S1_nn fun y hy => S1_nn fun x hx => h x y hx hy
theorem S2_le {W H : Nat} {f g : Nat → Nat → Int} (h : ∀ x y, x < W → y < H → f x y ≤ g x y) : S2 W H f ≤ S2 W H g := S1_le fun y hy => S1_le fun x hx => h x y hx hy
theorem S2_ge {W H : Nat} {f : Nat → Nat → Int} (h : ∀ x y, x < W → y < H → 0 ≤ f x y) {a b : Nat} (ha : a < W) (hb : b < H) : f a b ≤ S2 W H f := by
  have h1 := S1_ge (n := W) (f := fun x => f x b) (fun x hx => h x b hx hb) ha
  have h2 := S1_ge (n := H) (f := fun y => S1 W (fun x => f x y)) (fun y hy => S1_nn fun x hx => h x y hx hy) hb
  unfold S2
  omega
theorem S2_swap (W H : Nat) (f : Nat → Nat → Int) : S2 W H f = S2 H W (fun x y => f y x) := S1_swap H W f
theorem S2_ind (W H a b : Nat) (d : Int) : S2 W H (fun x y => if x = a ∧ y = b then d else 0) = if a < W ∧ b < H then d else 0 := by
  have e : S2 W H (fun x y => if x = a ∧ y = b then d else 0) = S1 H (fun y => if y = b then (if a < W then d else 0) else 0) := by
    unfold S2
    refine S1_congr fun y _ => ?_
    by_cases hy : y = b
    · rw [if_pos hy, ← S1_ind]
      refine S1_congr fun x _ => ?_
      show (if x = a ∧ y = b then d else 0) = if x = a then d else 0
      by_cases hx : x = a
      · rw [if_pos hx, if_pos ⟨hx, hy⟩]
      · rw [if_neg hx, if_neg fun h => hx h.1]
    · rw [if_neg hy]
      refine Eq.trans (S1_congr fun x _ => ?_) (S1_zero W)
      show (if x = a ∧ y = b then d else 0) = 0
      exact if_neg fun h => hy h.2
  rw [e, S1_ind]
  by_cases h1 : b < H <;> by_cases h2 : a < W
  · rw [if_pos h1, if_pos h2, if_pos ⟨h2, h1⟩]
  · rw [if_pos h1, if_neg h2, if_neg fun h => h2 h.1]
  · rw [if_neg h1, if_neg fun h => h1 h.2]
  · rw [if_neg h1, if_neg fun h => h1 h.2]
theorem S2_const (W H : Nat) (c : Int) : S2 W H (fun _ _ => c) = H * (W * c) := by
  unfold S2
  rw [S1_congr (g := fun _ => (W : Int) * c) fun y _ => S1_const W c, S1_const]
theorem S2_bd {W H : Nat} {f : Nat → Nat → Int} {c : Int} (h : ∀ x y, x < W → y < H → f x y ≤ c) : S2 W H f ≤ H * (W * c) := by
  have := S2_le (g := fun _ _ => c) h
  rwa [S2_const] at this

/-! ### heaps -/
def rowM (M : Int) (r : List Int) : Bool := decide (1 ≤ r.length ∧ r.length ≤ 9) && r.all (fun z => inB z 0 M)
def rowsM (M : Int) (W : Nat) (pp : List (List Int)) : Bool := pp.all (fun r => decide (r.length = W) && rowM M r)
def gridB (M : Int) (pp : List (List Int)) : Bool := decide (1 ≤ pp.length ∧ pp.length ≤ 9) && rowsM M (wide pp) pp
theorem grid_pondB (pp : List (List Int)) : gridB 999 pp = pondB pp := rfl
def heapB (pp : List (List Int)) : Bool := gridB 12 pp
section
variable {pp : List (List Int)}
theorem grid_row {M : Int} (h : gridB M pp = true) {k : Nat} {row : List Int} (hk : pp[k]? = some row) : row.length = wide pp ∧ 1 ≤ row.length ∧ row.length ≤ 9 ∧ ∀ z ∈ row, 0 ≤ z ∧ z ≤ M := by
  unfold gridB rowsM at h
  simp only [Bool.and_eq_true, decide_eq_true_eq, List.all_eq_true] at h
  have h1 := h.2 row (List.mem_of_getElem? hk)
  unfold rowM at h1
  simp only [Bool.and_eq_true, decide_eq_true_eq, List.all_eq_true] at h1
  exact ⟨h1.1, h1.2.1.1, h1.2.1.2, fun z hz => inB_t (h1.2.2 z hz)⟩
theorem grid_mk {M : Int} {W : Nat} (h1 : 1 ≤ pp.length ∧ pp.length ≤ 9) (hw : wide pp = W) (h : ∀ r ∈ pp, r.length = W ∧ 1 ≤ r.length ∧ r.length ≤ 9 ∧ ∀ z ∈ r, 0 ≤ z ∧ z ≤ M) : gridB M pp = true := by
  unfold gridB rowsM
  simp only [Bool.and_eq_true, decide_eq_true_eq, List.all_eq_true]
  refine ⟨h1, fun r hr => ?_⟩
  obtain ⟨g1, g2, g3, g4⟩ := h r hr
  unfold rowM
  simp only [Bool.and_eq_true, decide_eq_true_eq, List.all_eq_true]
  exact ⟨by rw [hw]; exact g1, ⟨g2, g3⟩, fun z hz => inB_mk (g4 z hz)⟩
theorem grid_len {M : Int} (h : gridB M pp = true) : 1 ≤ pp.length ∧ pp.length ≤ 9 := by
  unfold gridB at h
  simp only [Bool.and_eq_true, decide_eq_true_eq] at h
  exact h.1
theorem grid_up {M N : Int} (h : gridB M pp = true) (hMN : M ≤ N) : gridB N pp = true := by
  refine grid_mk (grid_len h) rfl fun r hr => ?_
  obtain ⟨k, hk, e⟩ := List.getElem_of_mem hr
  obtain ⟨g1, g2, g3, g4⟩ := grid_row h (k := k) (row := r) (by rw [List.getElem?_eq_getElem hk, e])
  exact ⟨g1, g2, g3, fun z hz => ⟨(g4 z hz).1, Int.le_trans (g4 z hz).2 hMN⟩⟩
theorem heap_pond (h : heapB pp = true) : pondB pp = true := by rw [← grid_pondB]; exact grid_up h (by omega)
theorem heap_thk (h : heapB pp = true) {c : Nat} (hc : c < cnt pp) : 0 ≤ thk pp c ∧ thk pp c ≤ 12 := by
  have hr : pp[c / wide pp]? = some (pp[c / wide pp]'(row_y hc)) := List.getElem?_eq_getElem (row_y hc)
  exact (grid_row h hr).2.2.2 _ (List.mem_of_getElem? (thk_row (heap_pond h) hc hr))
end
/-- the height at column x and row y; 0 outside -/
def at2 (pp : List (List Int)) (x y : Nat) : Int := (pp.getD y []).getD x 0
def hgt (pp : List (List Int)) (x y : Int) : Int := if 0 ≤ x ∧ x < wide pp ∧ 0 ≤ y ∧ y < pp.length then at2 pp x.toNat y.toNat else 0
theorem hgt_in {pp : List (List Int)} {x y : Nat} (hx : x < wide pp) (hy : y < pp.length) : hgt pp x y = at2 pp x y := by
  unfold hgt
  rw [if_pos ⟨by omega, by omega, by omega, by omega⟩]; rfl
theorem hgt_out {pp : List (List Int)} {x y : Int} (h : ¬(0 ≤ x ∧ x < wide pp ∧ 0 ≤ y ∧ y < pp.length)) : hgt pp x y = 0 := if_neg h
theorem thk_at2 (pp : List (List Int)) (c : Nat) : thk pp c = at2 pp (c % wide pp) (c / wide pp) := rfl
theorem heap_at2 {pp : List (List Int)} (h : heapB pp = true) {x y : Nat} (hx : x < wide pp) (hy : y < pp.length) : 0 ≤ at2 pp x y ∧ at2 pp x y ≤ 12 := by
  have hr : pp[y]? = some (pp[y]'hy) := List.getElem?_eq_getElem hy
  have hg := grid_row h hr
  have e : pp.getD y [] = pp[y]'hy := by rw [List.getD_eq_getElem?_getD, hr]; rfl
  unfold at2
  rw [e]
  have hx2 : x < (pp[y]'hy).length := by rw [hg.1]; exact hx
  rw [List.getD_eq_getElem?_getD, List.getElem?_eq_getElem hx2]
  exact hg.2.2.2 _ (List.getElem_mem _)
theorem heap_hgt {pp : List (List Int)} (h : heapB pp = true) (x y : Int) : 0 ≤ hgt pp x y ∧ hgt pp x y ≤ 12 := by
  unfold hgt
  split
  · next hh => exact heap_at2 h (by omega) (by omega)
  · omega
def topF (a : Int) : Int := if a ≤ 0 then 0 else 1
def ovF (a b : Int) : Int := if a < b then 0 else a - b
theorem ovF_nn {a b : Int} : 0 ≤ ovF a b := by unfold ovF; split <;> omega
theorem ovF_le {a b : Int} (h : 0 ≤ b) (ha : 0 ≤ a) : ovF a b ≤ a := by unfold ovF; split <;> omega
theorem topF_nn {a : Int} : 0 ≤ topF a := by unfold topF; split <;> omega
/-- the faces of one place -/
def cellF (pp : List (List Int)) (x y : Int) : Int := topF (hgt pp x y) + ovF (hgt pp x y) (hgt pp (x - 1) y) + ovF (hgt pp x y) (hgt pp (x + 1) y) + ovF (hgt pp x y) (hgt pp x (y - 1)) + ovF (hgt pp x y) (hgt pp x (y + 1))
def facesF (pp : List (List Int)) : Int := S2 (wide pp) pp.length (fun x y => cellF pp x y)
def facesT (pp : List (List Int)) : Int := if heapB pp then facesF pp else -1
theorem facesT_no {pp : List (List Int)} (h : heapB pp = false) : facesT pp = -1 := by unfold facesT; rw [h]; rfl
theorem facesT_ok {pp : List (List Int)} (h : heapB pp = true) : facesT pp = facesF pp := by unfold facesT; rw [h]; rfl
def cakesF (pp : List (List Int)) : Int := (pp.map List.sum).sum
def cakesHT (pp : List (List Int)) : Int := if heapB pp then cakesF pp else -1
theorem cakesHT_no {pp : List (List Int)} (h : heapB pp = false) : cakesHT pp = -1 := by unfold cakesHT; rw [h]; rfl
theorem cakesHT_ok {pp : List (List Int)} (h : heapB pp = true) : cakesHT pp = cakesF pp := by unfold cakesHT; rw [h]; rfl
theorem sum_S1 (r : List Int) : r.sum = S1 r.length (fun x => r.getD x 0) := by
  have h : ∀ n, n ≤ r.length → (r.take n).sum = S1 n (fun x => r.getD x 0) := by
    intro n hn
    induction n with
    | zero => rfl
    | succ n ih =>
      have hz : r[n]? = some (r.getD n 0) := by rw [List.getD_eq_getElem?_getD, List.getElem?_eq_getElem (by omega)]; rfl
      rw [take_snoc hz, List.sum_append, ih (by omega), S1_succ]; simp
  rw [← h r.length (Nat.le_refl _), List.take_length]
theorem sums_S1 (pp : List (List Int)) : cakesF pp = S1 pp.length (fun y => (pp.getD y []).sum) := by
  have h : ∀ n, n ≤ pp.length → ((pp.take n).map List.sum).sum = S1 n (fun y => (pp.getD y []).sum) := by
    intro n hn
    induction n with
    | zero => rfl
    | succ n ih =>
      have hz : pp[n]? = some (pp.getD n []) := by rw [List.getD_eq_getElem?_getD, List.getElem?_eq_getElem (by omega)]; rfl
      rw [take_snoc hz, List.map_append, List.sum_append, ih (by omega), S1_succ]; simp
  unfold cakesF
  rw [← h pp.length (Nat.le_refl _), List.take_length]
theorem cakes_S2 {pp : List (List Int)} (h : ∀ (k : Nat) (r : List Int), pp[k]? = some r → r.length = wide pp) : cakesF pp = S2 (wide pp) pp.length (fun x y => hgt pp x y) := by
  rw [sums_S1]
  refine S1_congr fun y hy => ?_
  have hz : pp[y]? = some (pp.getD y []) := by rw [List.getD_eq_getElem?_getD, List.getElem?_eq_getElem hy]; rfl
  rw [sum_S1, h y _ hz]
  exact S1_congr fun x hx => (hgt_in hx hy).symm
theorem cells_bd {pp : List (List Int)} {c : Int} (h : heapB pp = true) (hc : 0 ≤ c) : (pp.length : Int) * ((wide pp : Int) * c) ≤ 81 * c := by
  have h1 := grid_len h
  have h2 := pond_wide (heap_pond h)
  have h3 : (wide pp : Int) * c ≤ 9 * c := Int.mul_le_mul_of_nonneg_right (by omega) hc
  have h4 : (pp.length : Int) * ((wide pp : Int) * c) ≤ 9 * (9 * c) := Int.mul_le_mul (by omega) h3 (Int.mul_nonneg (by omega) hc) (by omega)
  omega
theorem cakes_bd {pp : List (List Int)} (h : heapB pp = true) : 0 ≤ cakesF pp ∧ cakesF pp ≤ 972 := by
  rw [cakes_S2 fun k r hk => (grid_row h hk).1]
  refine ⟨S2_nn fun x y _ _ => (heap_hgt h _ _).1, ?_⟩
  have h1 := S2_bd (W := wide pp) (H := pp.length) (f := fun x y => hgt pp x y) (c := 12) fun x y _ _ => (heap_hgt h _ _).2
  have := cells_bd (c := 12) h (by omega)
  omega
theorem cellF_bd {pp : List (List Int)} (h : heapB pp = true) (x y : Int) : 0 ≤ cellF pp x y ∧ cellF pp x y ≤ 5 * hgt pp x y ∧ cellF pp x y ≤ 49 := by
  have a := heap_hgt h x y
  have b1 := ovF_le (a := hgt pp x y) (heap_hgt h (x - 1) y).1 a.1
  have b2 := ovF_le (a := hgt pp x y) (heap_hgt h (x + 1) y).1 a.1
  have b3 := ovF_le (a := hgt pp x y) (heap_hgt h x (y - 1)).1 a.1
  have b4 := ovF_le (a := hgt pp x y) (heap_hgt h x (y + 1)).1 a.1
  have c1 := ovF_nn (a := hgt pp x y) (b := hgt pp (x - 1) y)
  have c2 := ovF_nn (a := hgt pp x y) (b := hgt pp (x + 1) y)
  have c3 := ovF_nn (a := hgt pp x y) (b := hgt pp x (y - 1))
  have c4 := ovF_nn (a := hgt pp x y) (b := hgt pp x (y + 1))
  unfold cellF topF
  split <;> omega
theorem faces_bd {pp : List (List Int)} (h : heapB pp = true) : 0 ≤ facesF pp ∧ facesF pp ≤ 3969 ∧ facesF pp ≤ 5 * cakesF pp := by
  refine ⟨S2_nn fun x y _ _ => (cellF_bd h _ _).1, ?_, ?_⟩
  · have h1 := S2_bd (W := wide pp) (H := pp.length) (f := fun x y => cellF pp x y) (c := 49) fun x y _ _ => (cellF_bd h _ _).2.2
    have := cells_bd (c := 49) h (by omega)
    unfold facesF
    omega
  · have h1 := S2_le (W := wide pp) (H := pp.length) (f := fun x y => cellF pp x y) (g := fun x y => hgt pp x y + (hgt pp x y + (hgt pp x y + (hgt pp x y + hgt pp x y)))) fun x y _ _ => by
      have := (cellF_bd h (x : Int) (y : Int)).2.1
      omega
    rw [S2_add, S2_add, S2_add, S2_add, ← cakes_S2 fun k r hk => (grid_row h hk).1] at h1
    unfold facesF
    omega
theorem cellF_zero {pp : List (List Int)} {x y : Int} (h : heapB pp = true) (hz : hgt pp x y = 0) : cellF pp x y = 0 := by
  have := cellF_bd h x y
  omega

end Go.Proofs.Ytggdnpaiaijhgaa

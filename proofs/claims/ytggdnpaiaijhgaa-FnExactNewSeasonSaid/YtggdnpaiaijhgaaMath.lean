/- Plain mathematics of chapter 1: the square root, rounded down, on integers. Nothing of the program. -/
import Derived.WalkKit
set_option linter.unusedVariables false
set_option linter.unusedSimpArgs false
namespace Go.Proofs.Ytggdnpaiaijhgaa

def rtGo : Nat → Int → Int
  | 0, _ => 0
  | k + 1, n => if ((k : Int) + 1) * ((k : Int) + 1) ≤ n then (k : Int) + 1 else rtGo k n

/-- the root, at most 999. -/
def rt (n : Int) : Int := rtGo 999 n

theorem sq_nonneg (a : Int) : 0 ≤ a * a := by
  rcases Int.le_total 0 a with h | h
  · exact Int.mul_nonneg h h
  · have := Int.mul_nonneg (Int.neg_nonneg_of_nonpos h) (Int.neg_nonneg_of_nonpos h); rwa [Int.neg_mul_neg] at this

theorem sq_mono {a b : Int} (h0 : 0 ≤ a) (h : a ≤ b) : a * a ≤ b * b :=
  Int.mul_le_mul h h h0 (Int.le_trans h0 h)

theorem rtGo_range (k : Nat) (n : Int) : 0 ≤ rtGo k n ∧ rtGo k n ≤ k := by
  induction k with
  | zero => simp [rtGo]
  | succ k ih =>
    unfold rtGo
    split
    · omega
    · omega

theorem rtGo_sq (k : Nat) (n : Int) (h : 0 ≤ n) : rtGo k n * rtGo k n ≤ n := by
  induction k with
  | zero => simpa [rtGo] using h
  | succ k ih =>
    unfold rtGo
    split
    · assumption
    · exact ih

theorem rtGo_lt (k : Nat) (n : Int) (h : n < ((k : Int) + 1) * ((k : Int) + 1)) : n < (rtGo k n + 1) * (rtGo k n + 1) := by
  induction k with
  | zero => simpa [rtGo] using h
  | succ k ih =>
    unfold rtGo
    split
    · exact h
    · next g => exact ih (by omega)

theorem rt_range (n : Int) : 0 ≤ rt n ∧ rt n ≤ 999 := rtGo_range 999 n
theorem rt_sq (n : Int) (h : 0 ≤ n) : rt n * rt n ≤ n := rtGo_sq 999 n h
theorem rt_lt (n : Int) (h : n ≤ 998001) : n < (rt n + 1) * (rt n + 1) := rtGo_lt 999 n (by omega)

theorem rt_uniq (n r : Int) (h0 : 0 ≤ r) (h1 : r * r ≤ n) (h2 : n < (r + 1) * (r + 1)) (h3 : n ≤ 998001) : rt n = r := by
  have a := rt_range n
  have hn : 0 ≤ n := Int.le_trans (Int.mul_nonneg h0 h0) h1
  have b := rt_sq n hn
  have c := rt_lt n h3
  generalize rt n = q at *
  rcases Int.lt_trichotomy q r with g | g | g
  · have := sq_mono (a := q + 1) (b := r) (by omega) (by omega); omega
  · exact g
  · have := sq_mono (a := r + 1) (b := q) (by omega) (by omega); omega

theorem rt_of_sq (r : Int) (h0 : 0 ≤ r) (h : r ≤ 999) : rt (r * r) = r := by
  have := sq_mono h0 h
  refine rt_uniq _ _ h0 (Int.le_refl _) ?_ (by omega)
  have e : (r + 1) * (r + 1) = r * r + r + r + 1 := by simp [Int.add_mul, Int.mul_add]; omega
  omega

theorem rt_mono (a b : Int) (h0 : 0 ≤ a) (h : a ≤ b) (hb : b ≤ 998001) : rt a ≤ rt b := by
  have ra := rt_range a
  have rb := rt_range b
  have b1 := rt_sq a h0
  have b2 := rt_lt b hb
  generalize rt a = x at *
  generalize rt b = y at *
  false_or_by_contra
  have := sq_mono (a := y + 1) (b := x) (by omega) (by omega)
  omega

/-- the mass after an hour, for a valid mass and temperature. -/
def hourF (m t : Int) : Int :=
  if t < 0 then (if m - 5 * t ≤ 998001 then m - 5 * t else 998001)
  else if t / 20 = 0 then m
  else if rt m < t / 20 then 0 else (rt m - t / 20) * (rt m - t / 20)

theorem hourF_range (m t : Int) (h0 : 0 ≤ m) (h1 : m ≤ 998001) : 0 ≤ hourF m t ∧ hourF m t ≤ 998001 := by
  unfold hourF
  have := rt_range m
  split
  · split <;> omega
  · split
    · omega
    · split
      · omega
      · have a := Int.mul_nonneg (show 0 ≤ rt m - t / 20 by omega) (show 0 ≤ rt m - t / 20 by omega)
        have b := sq_mono (a := rt m - t / 20) (b := 999) (by omega) (by omega)
        omega

/-- the least thickness that bears a load. -/
def needF (load : Int) : Int := if load ≤ 0 then 0 else rt (load - 1) + 1

theorem needF_range (l : Int) : 0 ≤ needF l ∧ needF l ≤ 1000 := by
  have := rt_range (l - 1)
  unfold needF; split <;> omega

theorem needF_le (l : Int) (h : l ≤ 900000) : needF l ≤ 949 := by
  unfold needF
  split
  · omega
  · have a := rt_sq (l - 1) (by omega)
    have r := rt_range (l - 1)
    generalize rt (l - 1) = q at *
    false_or_by_contra
    have := sq_mono (a := 949) (b := q) (by omega) (by omega)
    omega

theorem needF_ge (l t : Int) (h0 : 0 ≤ l) (h1 : l ≤ 900000) (ht : 0 ≤ t) (h : needF l ≤ t) : l ≤ t * t := by
  unfold needF at h
  split at h
  · have := Int.mul_nonneg ht ht; omega
  · have b := rt_lt (l - 1) (by omega)
    have r := rt_range (l - 1)
    generalize rt (l - 1) = q at *
    have := sq_mono (a := q + 1) (b := t) (by omega) (by omega)
    omega

theorem needF_lt (l t : Int) (h1 : l ≤ 900000) (ht : 0 ≤ t) (h : t < needF l) : t * t < l := by
  unfold needF at h
  split at h
  · omega
  · have b := rt_sq (l - 1) (by omega)
    have r := rt_range (l - 1)
    generalize rt (l - 1) = q at *
    have := sq_mono (a := t) (b := q) (by omega) (by omega)
    omega

theorem needF_of (l t : Int) (h0 : 0 ≤ l) (h1 : l ≤ 900000) (ht : 0 ≤ t) (hge : l ≤ t * t) (hle : t ≤ needF l) : t = needF l := by
  rcases Int.lt_or_eq_of_le hle with h | h
  · have := needF_lt l t h1 ht h; omega
  · exact h

/-- the hours of a frost until a thickness. -/
def hoursF (m f need : Int) : Int := if need * need - m ≤ 0 then 0 else (need * need - m + 5 * f - 1) / (5 * f)

end Go.Proofs.Ytggdnpaiaijhgaa

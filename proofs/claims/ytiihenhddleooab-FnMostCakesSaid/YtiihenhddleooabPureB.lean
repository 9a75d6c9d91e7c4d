/- Contracts of the functions of chapter 1 over integers alone, second part: loads, hours, snow. -/
import Derived.Test.YtiihenhddleooabPure
namespace Go.Proofs.Ytiihenhddleooab
open Go.RowKit
set_option linter.unusedVariables false
set_option linter.unusedSimpArgs false

def loadF (n : Int) : Int := if inB n 0 999 then n * n else -1
theorem loadF_ok {n : Int} (h : 0 ≤ n ∧ n ≤ 999) : loadF n = n * n := by unfold loadF; rw [inB_mk h]; rfl
theorem loadF_no {n : Int} (h : ¬(0 ≤ n ∧ n ≤ 999)) : loadF n = -1 := by unfold loadF; rw [inB_nk h]; rfl

def needT (n : Int) : Int := if inB n 0 900000 then needF n else -1
theorem needT_ok {n : Int} (h : 0 ≤ n ∧ n ≤ 900000) : needT n = needF n := by unfold needT; rw [inB_mk h]; rfl
theorem needT_no {n : Int} (h : ¬(0 ≤ n ∧ n ≤ 900000)) : needT n = -1 := by unfold needT; rw [inB_nk h]; rfl

def hoursT (m f n : Int) : Int := if inB m 0 998001 && inB f 1 400 && inB n 0 999 then hoursF m f n else -1
theorem hoursT_ok {m f n : Int} (h : 0 ≤ m ∧ m ≤ 998001) (g : 1 ≤ f ∧ f ≤ 400) (k : 0 ≤ n ∧ n ≤ 999) : hoursT m f n = hoursF m f n := by unfold hoursT; rw [inB_mk h, inB_mk g, inB_mk k]; rfl
theorem hoursT_no {m f n : Int} (h : ¬((0 ≤ m ∧ m ≤ 998001) ∧ (1 ≤ f ∧ f ≤ 400) ∧ (0 ≤ n ∧ n ≤ 999))) : hoursT m f n = -1 := by
  unfold hoursT
  rw [if_neg]
  intro g
  simp only [Bool.and_eq_true] at g
  exact h ⟨inB_t g.1.1, inB_t g.1.2, inB_t g.2⟩

theorem zero_hours (f : Int) (h : 1 ≤ f) : (5 * f - 1) / (5 * f) = 0 := Int.ediv_eq_zero_of_lt (by omega) (by omega)

def snowT (t s : Int) : Int := if inB t (-400) 400 && inB s 0 500 then (t * 50).tdiv (50 + s) else 0
theorem snowT_ok {t s : Int} (h : -400 ≤ t ∧ t ≤ 400) (g : 0 ≤ s ∧ s ≤ 500) : snowT t s = (t * 50).tdiv (50 + s) := by unfold snowT; rw [inB_mk h, inB_mk g]; rfl
theorem snowT_no {t s : Int} (h : ¬((-400 ≤ t ∧ t ≤ 400) ∧ (0 ≤ s ∧ s ≤ 500))) : snowT t s = 0 := by
  unfold snowT
  rw [if_neg]
  intro g
  simp only [Bool.and_eq_true] at g
  exact h ⟨inB_t g.1, inB_t g.2⟩

end Go.Proofs.Ytiihenhddleooab

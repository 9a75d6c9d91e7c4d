/- Contracts of the functions of chapter 1 over integers alone, second part: loads, hours, snow. -/
import Derived.Test.YtggdnpaiaijhgaaPure
namespace Go.Proofs.Ytggdnpaiaijhgaa
open Go.RowKit
set_option linter.unusedVariables false
set_option linter.unusedSimpArgs false

def loadF (n : Int) : Int := if inB n 0 999 then n * n else -1
theorem loadF_ok {n : Int} (h : 0 ≤ n ∧ n ≤ 999) : loadF n = n * n := by unfold loadF; rw [inB_mk h]; rfl
theorem loadF_no {n : Int} (h : ¬(0 ≤ n ∧ n ≤ 999)) : loadF n = -1 := by unfold loadF; rw [inB_nk h]; rfl

set_option maxRecDepth 100000 in
set_option maxHeartbeats 400000 in
theorem loadOf_any (n : Int) (h0 : 0 ≤ n) (h1 : n ≤ 1000) (w : World) :
    Calls Try.prog 143 #[.int .i64 n] w fun e w' => e = .returned (.int .i64 (n * n)) ∧ w = w' := by
  have c1 := sq_nonneg n
  have c2 := sq_mono (a := n) (b := 1000) h0 h1
  go_enter Try.func143, Try.ntmps143
  go_wp2
  go_ret
  exact ⟨rfl, rfl⟩

set_option maxRecDepth 100000 in
set_option maxHeartbeats 400000 in
theorem iLoadOf_any (n : Int) (w : World) :
    Calls Try.prog 134 #[.int .i64 n] w fun e w' => e = .returned (.int .i64 (loadF n)) ∧ w = w' := by
  by_cases hn : 0 ≤ n ∧ n ≤ 999
  · rw [loadF_ok hn]
    have hv := inB_mk hn
    obtain ⟨n0, n1⟩ := hn
    have c1 := sq_nonneg n
    have c2 := sq_mono (a := n) (b := 1000) n0 (by omega)
    go_enter Try.func134, Try.ntmps134
    go_wp2_with (go_at_call 145; refine (validThick_any _ _).mono ?_; rintro e w' ⟨rfl, rfl⟩)
    go_ret
    exact ⟨rfl, rfl⟩
  · rw [loadF_no hn]
    have hv := inB_nk hn
    clear hn
    go_enter Try.func134, Try.ntmps134
    go_wp2_with (go_at_call 145; refine (validThick_any _ _).mono ?_; rintro e w' ⟨rfl, rfl⟩)
    go_ret
    exact ⟨rfl, rfl⟩

def needT (n : Int) : Int := if inB n 0 900000 then needF n else -1
theorem needT_ok {n : Int} (h : 0 ≤ n ∧ n ≤ 900000) : needT n = needF n := by unfold needT; rw [inB_mk h]; rfl
theorem needT_no {n : Int} (h : ¬(0 ≤ n ∧ n ≤ 900000)) : needT n = -1 := by unfold needT; rw [inB_nk h]; rfl

set_option maxRecDepth 100000 in
set_option maxHeartbeats 400000 in
theorem iLoadOf_ok (n : Int) (h0 : 0 ≤ n) (h1 : n ≤ 999) (w : World) :
    Calls Try.prog 134 #[.int .i64 n] w fun e w' => e = .returned (.int .i64 (n * n)) ∧ w = w' := by
  have h := iLoadOf_any n w
  rw [loadF_ok ⟨h0, h1⟩] at h
  exact h

def hoursT (m f n : Int) : Int := if inB m 0 998001 && inB f 1 400 && inB n 0 999 then hoursF m f n else -1
theorem hoursT_ok {m f n : Int} (h : 0 ≤ m ∧ m ≤ 998001) (g : 1 ≤ f ∧ f ≤ 400) (k : 0 ≤ n ∧ n ≤ 999) : hoursT m f n = hoursF m f n := by unfold hoursT; rw [inB_mk h, inB_mk g, inB_mk k]; rfl
theorem hoursT_no {m f n : Int} (h : ¬((0 ≤ m ∧ m ≤ 998001) ∧ (1 ≤ f ∧ f ≤ 400) ∧ (0 ≤ n ∧ n ≤ 999))) : hoursT m f n = -1 := by
  unfold hoursT
  rw [if_neg]
  intro g
  simp only [Bool.and_eq_true] at g
  exact h ⟨inB_t g.1.1, inB_t g.1.2, inB_t g.2⟩

theorem zero_hours (f : Int) (h : 1 ≤ f) : (5 * f - 1) / (5 * f) = 0 := Int.ediv_eq_zero_of_lt (by omega) (by omega)

def snowT (t s : Int) : Int := if inB t (-400) 400 && inB s 0 500 then (t * 50).tdiv (50 + s) else 0
theorem snowT_ok {t s : Int} (h : -400 ≤ t ∧ t ≤ 400) (g : 0 ≤ s ∧ s ≤ 500) : snowT t s = (t * 50).tdiv (50 + s) := by unfold snowT; rw [inB_mk h, inB_mk g]; rfl
theorem snowT_no {t s : Int} (h : ¬((-400 ≤ t ∧ t ≤ 400) ∧ (0 ≤ s ∧ s ≤ 500))) : snowT t s = 0 := by
  unfold snowT
  rw [if_neg]
  intro g
  simp only [Bool.and_eq_true] at g
  exact h ⟨inB_t g.1, inB_t g.2⟩

end Go.Proofs.Ytggdnpaiaijhgaa

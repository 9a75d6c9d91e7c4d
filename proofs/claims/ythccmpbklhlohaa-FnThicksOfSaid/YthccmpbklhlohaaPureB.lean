/- Contracts of the functions of chapter 1 over integers alone, second part: loads, hours, snow. -/
import Derived.Test.YthccmpbklhlohaaPure
namespace Go.Proofs.Ythccmpbklhlohaa
open Go.RowKit
set_option linter.unusedVariables false
set_option linter.unusedSimpArgs false

def loadF (n : Int) : Int := if inB n 0 999 then n * n else -1
theorem loadF_ok {n : Int} (h : 0 ≤ n ∧ n ≤ 999) : loadF n = n * n := by unfold loadF; rw [inB_mk h]; rfl
theorem loadF_no {n : Int} (h : ¬(0 ≤ n ∧ n ≤ 999)) : loadF n = -1 := by unfold loadF; rw [inB_nk h]; rfl

set_option maxHeartbeats 400000 in
theorem loadOf_any (n : Int) (h0 : 0 ≤ n) (h1 : n ≤ 1000) (w : World) :
    Calls Try.prog 64 #[.int .i64 n] w fun e w' => e = .returned (.int .i64 (n * n)) ∧ w = w' := by
  have c1 := sq_nonneg n
  have c2 := sq_mono (a := n) (b := 1000) h0 h1
  go_enter Try.func64, Try.ntmps64
  go_wp2
  go_ret
  exact ⟨rfl, rfl⟩

set_option maxHeartbeats 400000 in
theorem sLoadOf_any (n : Int) (w : World) :
    Calls Try.prog 41 #[.int .i64 n] w fun e w' => e = .returned (.int .i64 (loadF n)) ∧ w = w' := by
  by_cases hn : 0 ≤ n ∧ n ≤ 999
  · rw [loadF_ok hn]
    have hv := inB_mk hn
    obtain ⟨n0, n1⟩ := hn
    go_enter Try.func41, Try.ntmps41
    go_wp2_with (first | (go_at_call 52; refine (inRange_any _ _ _ _).mono ?_; rintro e w' ⟨rfl, rfl⟩) | (go_at_call 64; refine (loadOf_any _ (by omega) (by omega) _).mono ?_; rintro e w' ⟨rfl, rfl⟩))
    go_ret
    exact ⟨rfl, rfl⟩
  · rw [loadF_no hn]
    have hv := inB_nk hn
    clear hn
    go_enter Try.func41, Try.ntmps41
    go_wp2_with (go_at_call 52; refine (inRange_any _ _ _ _).mono ?_; rintro e w' ⟨rfl, rfl⟩)
    go_ret
    exact ⟨rfl, rfl⟩

set_option maxHeartbeats 400000 in
theorem iLoadOf_any (n : Int) (w : World) :
    Calls Try.prog 39 #[.int .i64 n] w fun e w' => e = .returned (.int .i64 (loadF n)) ∧ w = w' := by
  by_cases hn : 0 ≤ n ∧ n ≤ 999
  · rw [loadF_ok hn]
    have hv := inB_mk hn
    obtain ⟨n0, n1⟩ := hn
    have c1 := sq_nonneg n
    have c2 := sq_mono (a := n) (b := 1000) n0 (by omega)
    go_enter Try.func39, Try.ntmps39
    go_wp2_with (go_at_call 65; refine (validThick_any _ _).mono ?_; rintro e w' ⟨rfl, rfl⟩)
    go_ret
    exact ⟨rfl, rfl⟩
  · rw [loadF_no hn]
    have hv := inB_nk hn
    clear hn
    go_enter Try.func39, Try.ntmps39
    go_wp2_with (go_at_call 65; refine (validThick_any _ _).mono ?_; rintro e w' ⟨rfl, rfl⟩)
    go_ret
    exact ⟨rfl, rfl⟩

def needT (n : Int) : Int := if inB n 0 900000 then needF n else -1
theorem needT_ok {n : Int} (h : 0 ≤ n ∧ n ≤ 900000) : needT n = needF n := by unfold needT; rw [inB_mk h]; rfl
theorem needT_no {n : Int} (h : ¬(0 ≤ n ∧ n ≤ 900000)) : needT n = -1 := by unfold needT; rw [inB_nk h]; rfl

set_option maxHeartbeats 400000 in
theorem sNeed_any (n : Int) (w : World) :
    Calls Try.prog 38 #[.int .i64 n] w fun e w' => e = .returned (.int .i64 (needT n)) ∧ w = w' := by
  by_cases hn : 0 ≤ n ∧ n ≤ 900000
  · rw [needT_ok hn]
    have hv := inB_mk hn
    obtain ⟨n0, n1⟩ := hn
    have H := needF_le n n1
    go_enter Try.func38, Try.ntmps38
    go_wp2_with (go_at_call 52; refine (inRange_any _ _ _ _).mono ?_; rintro e w' ⟨rfl, rfl⟩)
    go_loop [3] (fun v => ∃ t : Int, v = .int .i64 t ∧ 0 ≤ t ∧ t ≤ needF n) (fun v => (needF n - intOf v).toNat)
    case atStart => exact ⟨0, rfl, by omega, (needF_range n).1⟩
    case round =>
      obtain ⟨t, rfl, t0, t1⟩ := hrel
      have c1 := sq_nonneg t
      have c2 := sq_mono (a := t) (b := 1000) t0 (by omega)
      by_cases hlt : t * t < n
      · have hlt2 : t < needF n := by
          rcases Int.lt_or_eq_of_le t1 with h | h
          · exact h
          · have := needF_ge n t n0 n1 t0 (by omega); omega
        go_wp2_with (go_at_call 64; refine (loadOf_any _ (by omega) (by omega) _).mono ?_; rintro e w' ⟨rfl, rfl⟩)
        exact ⟨⟨_, rfl, by omega, by omega⟩, by simp [intOf]; omega⟩
      · have e := needF_of n t n0 n1 t0 (by omega) t1
        have E := Lib.hid e
        clear e
        go_wp2_with (go_at_call 64; refine (loadOf_any _ (by omega) (by omega) _).mono ?_; rintro e w' ⟨rfl, rfl⟩)
        go_ret
        exact ⟨ret_int E.out, rfl⟩
  · rw [needT_no hn]
    have hv := inB_nk hn
    clear hn
    go_enter Try.func38, Try.ntmps38
    go_wp2_with (go_at_call 52; refine (inRange_any _ _ _ _).mono ?_; rintro e w' ⟨rfl, rfl⟩)
    go_ret
    exact ⟨rfl, rfl⟩

set_option maxHeartbeats 400000 in
theorem iLoadOf_ok (n : Int) (h0 : 0 ≤ n) (h1 : n ≤ 999) (w : World) :
    Calls Try.prog 39 #[.int .i64 n] w fun e w' => e = .returned (.int .i64 (n * n)) ∧ w = w' := by
  have h := iLoadOf_any n w
  rw [loadF_ok ⟨h0, h1⟩] at h
  exact h

set_option maxHeartbeats 400000 in
theorem iNeed_any (n : Int) (w : World) :
    Calls Try.prog 37 #[.int .i64 n] w fun e w' => e = .returned (.int .i64 (needT n)) ∧ w = w' := by
  by_cases hn : 0 ≤ n ∧ n ≤ 900000
  · rw [needT_ok hn]
    obtain ⟨n0, n1⟩ := hn
    have H := needF_le n n1
    have g1 : ¬ n < 0 := by omega
    have g2 : ¬ n > 900000 := by omega
    go_enter Try.func37, Try.ntmps37
    go_wp2
    go_loop [3] (fun v => ∃ t : Int, v = .int .i64 t ∧ 0 ≤ t ∧ t ≤ needF n) (fun v => (needF n - intOf v).toNat)
    case atStart => exact ⟨0, rfl, by omega, (needF_range n).1⟩
    case round =>
      obtain ⟨t, rfl, t0, t1⟩ := hrel
      have c1 := sq_nonneg t
      have c2 := sq_mono (a := t) (b := 1000) t0 (by omega)
      by_cases hlt : t * t < n
      · have hlt2 : t < needF n := by
          rcases Int.lt_or_eq_of_le t1 with h | h
          · exact h
          · have := needF_ge n t n0 n1 t0 (by omega); omega
        go_wp2_with (go_at_call 39; refine (iLoadOf_ok _ (by omega) (by omega) _).mono ?_; rintro e w' ⟨rfl, rfl⟩)
        exact ⟨⟨_, rfl, by omega, by omega⟩, by simp [intOf]; omega⟩
      · have e := needF_of n t n0 n1 t0 (by omega) t1
        have E := Lib.hid e
        clear e
        go_wp2_with (go_at_call 39; refine (iLoadOf_ok _ (by omega) (by omega) _).mono ?_; rintro e w' ⟨rfl, rfl⟩)
        go_ret
        exact ⟨ret_int E.out, rfl⟩
  · rw [needT_no hn]
    by_cases h : n < 0
    · clear hn
      go_enter Try.func37, Try.ntmps37
      go_wp2
      go_ret
      exact ⟨rfl, rfl⟩
    · have g : n > 900000 := by omega
      clear hn
      go_enter Try.func37, Try.ntmps37
      go_wp2
      go_ret
      exact ⟨rfl, rfl⟩

def hoursT (m f n : Int) : Int := if inB m 0 998001 && inB f 1 400 && inB n 0 999 then hoursF m f n else -1
theorem hoursT_ok {m f n : Int} (h : 0 ≤ m ∧ m ≤ 998001) (g : 1 ≤ f ∧ f ≤ 400) (k : 0 ≤ n ∧ n ≤ 999) : hoursT m f n = hoursF m f n := by unfold hoursT; rw [inB_mk h, inB_mk g, inB_mk k]; rfl
theorem hoursT_no {m f n : Int} (h : ¬((0 ≤ m ∧ m ≤ 998001) ∧ (1 ≤ f ∧ f ≤ 400) ∧ (0 ≤ n ∧ n ≤ 999))) : hoursT m f n = -1 := by
  unfold hoursT
  rw [if_neg]
  intro g
  simp only [Bool.and_eq_true] at g
  exact h ⟨inB_t g.1.1, inB_t g.1.2, inB_t g.2⟩

theorem zero_hours (f : Int) (h : 1 ≤ f) : (5 * f - 1) / (5 * f) = 0 := Int.ediv_eq_zero_of_lt (by omega) (by omega)

set_option maxHeartbeats 800000 in
theorem sHours_any (m f n : Int) (w : World) :
    Calls Try.prog 44 #[.int .i64 m, .int .i64 f, .int .i64 n] w fun e w' => e = .returned (.int .i64 (hoursT m f n)) ∧ w = w' := by
  by_cases hm : 0 ≤ m ∧ m ≤ 998001
  · by_cases hf : 1 ≤ f ∧ f ≤ 400
    · by_cases hn : 0 ≤ n ∧ n ≤ 999
      · rw [hoursT_ok hm hf hn]
        have v1 := inB_mk hm
        have v2 := inB_mk hf
        have v3 := inB_mk hn
        obtain ⟨m0, m1⟩ := hm
        obtain ⟨f0, f1⟩ := hf
        obtain ⟨n0, n1⟩ := hn
        have c1 := sq_nonneg n
        have c2 := sq_mono (a := n) (b := 999) n0 n1
        by_cases hl : n * n - m ≤ 0
        · have e : hoursF m f n = 0 := if_pos hl
          rw [e]
          clear e
          go_enter Try.func44, Try.ntmps44
          go_wp2_with (go_at_call 52; refine (inRange_any _ _ _ _).mono ?_; rintro e w' ⟨rfl, rfl⟩)
          all_goals go_ret
          all_goals refine ⟨ret_int ?_, rfl⟩
          all_goals (first | rfl | omega | exact zero_hours f (by omega))
        · have e : hoursF m f n = (n * n - m + 5 * f - 1) / (5 * f) := if_neg hl
          rw [e]
          clear e
          have hl' : 0 < n * n - m := by omega
          clear hl
          go_enter Try.func44, Try.ntmps44
          go_wp2_with (go_at_call 52; refine (inRange_any _ _ _ _).mono ?_; rintro e w' ⟨rfl, rfl⟩)
          all_goals go_ret
          all_goals exact ⟨rfl, rfl⟩
      · rw [hoursT_no (fun g => hn g.2.2)]
        have v1 := inB_mk hm
        have v2 := inB_mk hf
        have v3 := inB_nk hn
        obtain ⟨f0, f1⟩ := hf
        clear hm hn
        go_enter Try.func44, Try.ntmps44
        go_wp2_with (go_at_call 52; refine (inRange_any _ _ _ _).mono ?_; rintro e w' ⟨rfl, rfl⟩)
        go_ret
        exact ⟨rfl, rfl⟩
    · rw [hoursT_no (fun g => hf g.2.1)]
      have v1 := inB_mk hm
      have v2 := inB_nk hf
      clear hm
      by_cases hf1 : f < 1
      · clear hf
        go_enter Try.func44, Try.ntmps44
        go_wp2_with (go_at_call 52; refine (inRange_any _ _ _ _).mono ?_; rintro e w' ⟨rfl, rfl⟩)
        go_ret
        exact ⟨rfl, rfl⟩
      · have hf2 : 400 < f := by omega
        have hf3 : 1 ≤ f := by omega
        clear hf hf1
        go_enter Try.func44, Try.ntmps44
        go_wp2_with (go_at_call 52; refine (inRange_any _ _ _ _).mono ?_; rintro e w' ⟨rfl, rfl⟩)
        go_ret
        exact ⟨rfl, rfl⟩
  · rw [hoursT_no (fun g => hm g.1)]
    have v1 := inB_nk hm
    clear hm
    go_enter Try.func44, Try.ntmps44
    go_wp2_with (go_at_call 52; refine (inRange_any _ _ _ _).mono ?_; rintro e w' ⟨rfl, rfl⟩)
    go_ret
    exact ⟨rfl, rfl⟩

set_option maxHeartbeats 800000 in
theorem iHours_any (m f n : Int) (w : World) :
    Calls Try.prog 43 #[.int .i64 m, .int .i64 f, .int .i64 n] w fun e w' => e = .returned (.int .i64 (hoursT m f n)) ∧ w = w' := by
  by_cases hm : 0 ≤ m ∧ m ≤ 998001
  · by_cases hf : 1 ≤ f ∧ f ≤ 400
    · by_cases hn : 0 ≤ n ∧ n ≤ 999
      · rw [hoursT_ok hm hf hn]
        have v1 := inB_mk hm
        have v2 := inB_mk hf
        have v3 := inB_mk hn
        obtain ⟨m0, m1⟩ := hm
        obtain ⟨f0, f1⟩ := hf
        obtain ⟨n0, n1⟩ := hn
        have c1 := sq_nonneg n
        have c2 := sq_mono (a := n) (b := 999) n0 n1
        by_cases hl : n * n - m ≤ 0
        · have e : hoursF m f n = 0 := if_pos hl
          rw [e]
          clear e
          go_enter Try.func43, Try.ntmps43
          go_wp2_with (first | (go_at_call 51; refine (validMass_any _ _).mono ?_; rintro e w' ⟨rfl, rfl⟩) | (go_at_call 65; refine (validThick_any _ _).mono ?_; rintro e w' ⟨rfl, rfl⟩))
          all_goals go_ret
          all_goals refine ⟨ret_int ?_, rfl⟩
          all_goals (first | rfl | omega | exact zero_hours f (by omega))
        · have e : hoursF m f n = (n * n - m + 5 * f - 1) / (5 * f) := if_neg hl
          rw [e]
          clear e
          have hl' : 0 < n * n - m := by omega
          clear hl
          go_enter Try.func43, Try.ntmps43
          go_wp2_with (first | (go_at_call 51; refine (validMass_any _ _).mono ?_; rintro e w' ⟨rfl, rfl⟩) | (go_at_call 65; refine (validThick_any _ _).mono ?_; rintro e w' ⟨rfl, rfl⟩))
          all_goals go_ret
          all_goals exact ⟨rfl, rfl⟩
      · rw [hoursT_no (fun g => hn g.2.2)]
        have v1 := inB_mk hm
        have v2 := inB_mk hf
        have v3 := inB_nk hn
        obtain ⟨f0, f1⟩ := hf
        clear hm hn
        go_enter Try.func43, Try.ntmps43
        go_wp2_with (first | (go_at_call 51; refine (validMass_any _ _).mono ?_; rintro e w' ⟨rfl, rfl⟩) | (go_at_call 65; refine (validThick_any _ _).mono ?_; rintro e w' ⟨rfl, rfl⟩))
        go_ret
        exact ⟨rfl, rfl⟩
    · rw [hoursT_no (fun g => hf g.2.1)]
      have v1 := inB_mk hm
      have v2 := inB_nk hf
      clear hm
      by_cases hf1 : f < 1
      · clear hf
        go_enter Try.func43, Try.ntmps43
        go_wp2_with (first | (go_at_call 51; refine (validMass_any _ _).mono ?_; rintro e w' ⟨rfl, rfl⟩) | (go_at_call 65; refine (validThick_any _ _).mono ?_; rintro e w' ⟨rfl, rfl⟩))
        go_ret
        exact ⟨rfl, rfl⟩
      · have hf2 : 400 < f := by omega
        have hf3 : 1 ≤ f := by omega
        clear hf hf1
        go_enter Try.func43, Try.ntmps43
        go_wp2_with (first | (go_at_call 51; refine (validMass_any _ _).mono ?_; rintro e w' ⟨rfl, rfl⟩) | (go_at_call 65; refine (validThick_any _ _).mono ?_; rintro e w' ⟨rfl, rfl⟩))
        go_ret
        exact ⟨rfl, rfl⟩
  · rw [hoursT_no (fun g => hm g.1)]
    have v1 := inB_nk hm
    clear hm
    go_enter Try.func43, Try.ntmps43
    go_wp2_with (first | (go_at_call 51; refine (validMass_any _ _).mono ?_; rintro e w' ⟨rfl, rfl⟩) | (go_at_call 65; refine (validThick_any _ _).mono ?_; rintro e w' ⟨rfl, rfl⟩))
    go_ret
    exact ⟨rfl, rfl⟩

def snowT (t s : Int) : Int := if inB t (-400) 400 && inB s 0 500 then (t * 50).tdiv (50 + s) else 0
theorem snowT_ok {t s : Int} (h : -400 ≤ t ∧ t ≤ 400) (g : 0 ≤ s ∧ s ≤ 500) : snowT t s = (t * 50).tdiv (50 + s) := by unfold snowT; rw [inB_mk h, inB_mk g]; rfl
theorem snowT_no {t s : Int} (h : ¬((-400 ≤ t ∧ t ≤ 400) ∧ (0 ≤ s ∧ s ≤ 500))) : snowT t s = 0 := by
  unfold snowT
  rw [if_neg]
  intro g
  simp only [Bool.and_eq_true] at g
  exact h ⟨inB_t g.1, inB_t g.2⟩

set_option maxHeartbeats 400000 in
theorem underSnow_any (t s : Int) (t0 : -400 ≤ t) (t1 : t ≤ 400) (s0 : 0 ≤ s) (s1 : s ≤ 500) (w : World) :
    Calls Try.prog 66 #[.int .i64 t, .int .i64 s] w fun e w' => e = .returned (.int .i64 ((t * 50).tdiv (50 + s))) ∧ w = w' := by
  go_enter Try.func66, Try.ntmps66
  go_wp2
  go_ret
  exact ⟨rfl, rfl⟩

set_option maxHeartbeats 800000 in
theorem sSnow_any (t s : Int) (w : World) :
    Calls Try.prog 48 #[.int .i64 t, .int .i64 s] w fun e w' => e = .returned (.int .i64 (snowT t s)) ∧ w = w' := by
  by_cases ht : -400 ≤ t ∧ t ≤ 400
  · have v1 := inB_mk ht
    by_cases hs : 0 ≤ s ∧ s ≤ 500
    · rw [snowT_ok ht hs]
      have v2 := inB_mk hs
      obtain ⟨t0, t1⟩ := ht
      obtain ⟨s0, s1⟩ := hs
      go_enter Try.func48, Try.ntmps48
      go_wp2_with (first | (go_at_call 52; refine (inRange_any _ _ _ _).mono ?_; rintro e w' ⟨rfl, rfl⟩) | (go_at_call 66; refine (underSnow_any _ _ (by omega) (by omega) (by omega) (by omega) _).mono ?_; rintro e w' ⟨rfl, rfl⟩))
      go_ret
      exact ⟨rfl, rfl⟩
    · rw [snowT_no (fun g => hs g.2)]
      have v2 := inB_nk hs
      clear ht
      by_cases hs1 : s < 0
      · clear hs
        go_enter Try.func48, Try.ntmps48
        go_wp2_with (first | (go_at_call 52; refine (inRange_any _ _ _ _).mono ?_; rintro e w' ⟨rfl, rfl⟩) | (go_at_call 66; refine (underSnow_any _ _ (by omega) (by omega) (by omega) (by omega) _).mono ?_; rintro e w' ⟨rfl, rfl⟩))
        go_ret
        exact ⟨rfl, rfl⟩
      · have hs2 : 500 < s := by omega
        have hs3 : 0 ≤ s := by omega
        clear hs hs1
        go_enter Try.func48, Try.ntmps48
        go_wp2_with (first | (go_at_call 52; refine (inRange_any _ _ _ _).mono ?_; rintro e w' ⟨rfl, rfl⟩) | (go_at_call 66; refine (underSnow_any _ _ (by omega) (by omega) (by omega) (by omega) _).mono ?_; rintro e w' ⟨rfl, rfl⟩))
        go_ret
        exact ⟨rfl, rfl⟩
  · rw [snowT_no (fun g => ht g.1)]
    have v1 := inB_nk ht
    clear ht
    go_enter Try.func48, Try.ntmps48
    go_wp2_with (first | (go_at_call 52; refine (inRange_any _ _ _ _).mono ?_; rintro e w' ⟨rfl, rfl⟩) | (go_at_call 66; refine (underSnow_any _ _ (by omega) (by omega) (by omega) (by omega) _).mono ?_; rintro e w' ⟨rfl, rfl⟩))
    go_ret
    exact ⟨rfl, rfl⟩

set_option maxHeartbeats 800000 in
theorem iSnow_any (t s : Int) (w : World) :
    Calls Try.prog 47 #[.int .i64 t, .int .i64 s] w fun e w' => e = .returned (.int .i64 (snowT t s)) ∧ w = w' := by
  by_cases ht : -400 ≤ t ∧ t ≤ 400
  · have v1 := inB_mk ht
    by_cases hs : 0 ≤ s ∧ s ≤ 500
    · rw [snowT_ok ht hs]
      have v2 := inB_mk hs
      obtain ⟨t0, t1⟩ := ht
      obtain ⟨s0, s1⟩ := hs
      go_enter Try.func47, Try.ntmps47
      go_wp2_with (go_at_call 56; refine (validTemp_any _ _).mono ?_; rintro e w' ⟨rfl, rfl⟩)
      go_ret
      exact ⟨rfl, rfl⟩
    · rw [snowT_no (fun g => hs g.2)]
      have v2 := inB_nk hs
      clear ht
      by_cases hs1 : s < 0
      · clear hs
        go_enter Try.func47, Try.ntmps47
        go_wp2_with (go_at_call 56; refine (validTemp_any _ _).mono ?_; rintro e w' ⟨rfl, rfl⟩)
        go_ret
        exact ⟨rfl, rfl⟩
      · have hs2 : 500 < s := by omega
        have hs3 : 0 ≤ s := by omega
        clear hs hs1
        go_enter Try.func47, Try.ntmps47
        go_wp2_with (go_at_call 56; refine (validTemp_any _ _).mono ?_; rintro e w' ⟨rfl, rfl⟩)
        go_ret
        exact ⟨rfl, rfl⟩
  · rw [snowT_no (fun g => ht g.1)]
    have v1 := inB_nk ht
    clear ht
    go_enter Try.func47, Try.ntmps47
    go_wp2_with (go_at_call 56; refine (validTemp_any _ _).mono ?_; rintro e w' ⟨rfl, rfl⟩)
    go_ret
    exact ⟨rfl, rfl⟩

end Go.Proofs.Ythccmpbklhlohaa

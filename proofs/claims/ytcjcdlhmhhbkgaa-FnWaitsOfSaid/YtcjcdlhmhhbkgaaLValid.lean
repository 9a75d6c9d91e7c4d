/- Contracts of chapter 4: whether times, gaps and lifts are valid. -/
import Derived.Test.YtcjcdlhmhhbkgaaLWords
namespace Go.Proofs.Ytcjcdlhmhhbkgaa
open Go.RowKit
set_option linter.unusedVariables false
set_option linter.unusedSimpArgs false
def bef (zs : List Int) (k : Nat) : Int := if k = 0 then 0 else el zs (k - 1)
theorem bef_zero (zs : List Int) : bef zs 0 = 0 := rfl
theorem bef_succ (zs : List Int) (k : Nat) : bef zs (k + 1) = el zs k := by unfold bef; rw [if_neg (by omega)]; rfl
theorem times_nil {zs : List Int} : TimesP (zs.take 0) := ⟨by simp, fun k h => by simp at h, fun k h => by simp at h⟩
theorem times_bef {zs : List Int} {k : Nat} (hk : k ≤ zs.length) (h : TimesP (zs.take k)) : 0 ≤ bef zs k ∧ bef zs k ≤ 2000 := by
  unfold bef
  split
  · omega
  · have := h.bd (k - 1) (by rw [List.length_take]; omega)
    rwa [el_take (by omega)] at this
theorem times_step {zs : List Int} {k : Nat} (hk : k < zs.length) (hl : zs.length ≤ 40) (h : TimesP (zs.take k)) (h1 : bef zs k ≤ el zs k) (h2 : el zs k ≤ 2000) : TimesP (zs.take (k + 1)) := by
  have h0 := times_bef (by omega) h
  refine ⟨by rw [List.length_take]; omega, fun j hj => ?_, fun j hj => ?_⟩
  · rw [List.length_take] at hj
    rw [el_take (by omega)]
    by_cases e : j = k
    · subst e; omega
    · have := h.bd j (by rw [List.length_take]; omega)
      rwa [el_take (by omega)] at this
  · rw [List.length_take] at hj
    rw [el_take (by omega), el_take (by omega)]
    by_cases e : j + 1 = k
    · subst e
      rw [bef_succ] at h1
      exact h1
    · have := h.mono j (by rw [List.length_take]; omega)
      rwa [el_take (by omega), el_take (by omega)] at this
theorem times_bad {zs : List Int} {k : Nat} (hk : k < zs.length) (h : el zs k < bef zs k ∨ 2000 < el zs k) : ¬ TimesP zs := fun g => by
  have h0 := g.bd k hk
  rcases h with h | h
  · unfold bef at h
    split at h
    · omega
    · have := g.mono (k - 1) (by omega)
      rw [show k - 1 + 1 = k by omega] at this
      omega
  · omega
theorem times_all {zs : List Int} (hl : zs.length ≤ 40) (hm : ∀ k, k + 1 < zs.length → el zs k ≤ el zs (k + 1)) : timesB zs = zs.all (fun z => inB z 0 2000) := by
  cases h : zs.all (fun z => inB z 0 2000)
  · refine timesB_nk fun g => ?_
    rw [List.all_eq_false] at h
    obtain ⟨z, hz, hf⟩ := h
    obtain ⟨k, hk, rfl⟩ := mem_el hz
    exact hf (inB_mk (g.bd k hk))
  · exact timesB_mk ⟨hl, fun k hk => inB_t (List.all_eq_true.1 h _ (el_mem hk)), hm⟩
set_option maxHeartbeats 400000 in
theorem iVT_any (zs : List Int) (A : Option Addr) (c : Nat) (w : World) (B : Nat) (hr : Rd w B A (ints zs)) :
    Calls Try.prog 16 #[.slice A zs.length c] w fun e w' => e = .returned (.bool (timesB zs)) ∧ w = w' := by
  by_cases hl : zs.length ≤ 40
  · go_enter Try.func16, Try.ntmps16
    go_wp2
    go_loop [3, 11] (fun v i => ∃ k : Nat, k ≤ zs.length ∧ i = .int .i64 k ∧ v = .int .i64 (bef zs k) ∧ TimesP (zs.take k)) (fun _ i => zs.length - (intOf i).toNat)
    case atStart => exact ⟨0, Nat.zero_le _, rfl, rfl, times_nil⟩
    case round =>
      obtain ⟨k, hk, rfl, rfl, ht⟩ := hrel
      have h0 := times_bef hk ht
      have HT := Lib.hid ht
      clear ht
      by_cases hlt : k < zs.length
      · obtain ⟨b, off, rfl, hb, hc⟩ := hr.el_ hlt
        by_cases h1 : el zs k < bef zs k
        · have HF := Lib.hid (timesB_nk (times_bad hlt (.inl h1)))
          go_wp2
          go_ret
          exact ⟨ret_bool HF.out.symm, rfl⟩
        · by_cases h2 : 2000 < el zs k
          · have HF := Lib.hid (timesB_nk (times_bad hlt (.inr h2)))
            go_wp2
            go_ret
            exact ⟨ret_bool HF.out.symm, rfl⟩
          · have HS := Lib.hid (times_step hlt hl HT.out (by omega) (by omega))
            go_wp2
            go_round
            case rel => exact ⟨k + 1, by omega, by go_num, by rw [bef_succ], HS.out⟩
            case measure => simp [intOf]; omega
      · have HK : Hid (timesB zs = true) := Lib.hid (timesB_mk (by have := HT.out; rwa [List.take_of_length_le (by omega)] at this))
        go_wp2
        go_ret
        exact ⟨ret_bool HK.out.symm, rfl⟩
  · have hl' : 40 < zs.length := by omega
    have HF := Lib.hid (timesB_nk fun g => hl g.len)
    go_enter Try.func16, Try.ntmps16
    go_wp2
    go_ret
    exact ⟨ret_bool HF.out.symm, rfl⟩
set_option maxHeartbeats 400000 in
theorem sVT_any (zs : List Int) (A : Option Addr) (c : Nat) (w : World) (B : Nat) (hr : Rd w B A (ints zs)) (hn : zs.length ≤ 1048576) :
    Calls Try.prog 48 #[.slice A zs.length c] w fun e w' => e = .returned (.bool (timesB zs)) ∧ ∃ n, w' = w.drewN n := by
  go_enter Try.func48, Try.ntmps48
  go_wp2
  go_loopw [3] (fun i wr => ∃ k : Nat, (k ≤ zs.length ∨ k = 0) ∧ i = .int .i64 ((k : Int) + 1) ∧ (∀ j, j + 1 < k + 1 → j + 1 < zs.length → el zs j ≤ el zs (j + 1)) ∧ ∃ n, wr = w.drewN n) (fun i _ => zs.length - (intOf i).toNat)
  case atStart => exact ⟨0, .inr rfl, rfl, fun j h => by omega, 0, rfl⟩
  case round =>
    obtain ⟨k, hk, rfl, hm, n, hwr⟩ := hrel
    have HM := Lib.hid hm
    clear hm
    have hrr : Rd wr B A (ints zs) := by rw [hwr]; exact hr.drewN n
    by_cases hlt : k + 1 < zs.length
    · obtain ⟨b, off, rfl, hb, hc⟩ := hrr.el_ (k := k) (by omega)
      have hc1 := hrr.els hlt
      have i1 : ((k : Int) + 1) = ((k + 1 : Nat) : Int) := by omega
      have i2 : (((k + 1 : Nat) : Int) - 1) = (k : Int) := by omega
      have HW := Lib.hid hwr
      clear hrr hwr
      rw [i1]
      clear i1
      generalize hq : k + 1 = q at *
      have HQ := Lib.hid hq
      clear hq
      by_cases h1 : el zs q < el zs k
      · have HF := Lib.hid (timesB_nk (zs := zs) fun g => by have := g.mono k (by have := HQ.out; omega); rw [HQ.out] at this; omega)
        go_wp2
        refine wp_region_quiet_lit (by kernel_rfl) (by kernel_rfl) ?_
        repeat (go_big_quiet_step (fail))
        refine wpQuiet_nil ?_
        intro _ hw'
        obtain ⟨nq, hw''⟩ := hw'
        subst hw''
        go_wp2
        go_ret
        exact ⟨ret_bool HF.out.symm, n + nq, by rw [HW.out, World.drewN_drewN]⟩
      · go_wp2
        refine wp_region_quiet_lit (by kernel_rfl) (by kernel_rfl) ?_
        repeat (go_big_quiet_step (fail))
        refine wpQuiet_nil ?_
        intro _ hw'
        obtain ⟨nq, hw''⟩ := hw'
        subst hw''
        go_wp2
        go_roundw
        case rel => exact ⟨q, by omega, by go_num, fun j hj hj2 => by by_cases e : j = k; (subst e; rw [HQ.out]; omega); exact HM.out j (by have := HQ.out; omega) hj2, n + nq, by rw [HW.out, World.drewN_drewN]⟩
        case measure => simp [intOf]; have := HQ.out; omega
    · subst hwr
      by_cases hl : zs.length ≤ 40
      · have HK := Lib.hid (times_all hl (fun j hj => HM.out j (by omega) hj))
        have hr : Rd (w.drewN n) B A (ints zs) := hrr
        go_wp2_with (go_at_call 63; refine (allIn_any _ _ _ _ _ hr _ _ (by omega)).mono ?_; rintro e w' ⟨rfl, rfl⟩)
        go_ret
        exact ⟨ret_bool HK.out.symm, n, rfl⟩
      · have hl' : 40 < zs.length := by omega
        have HF := Lib.hid (timesB_nk (zs := zs) fun g => hl g.len)
        go_wp2
        go_ret
        exact ⟨ret_bool HF.out.symm, n, rfl⟩
theorem sVTT_any (zs : List Int) (A : Option Addr) (c : Nat) (w : World) (B : Nat) (hr : Rd w B A (ints zs)) (hn : zs.length ≤ 1048576) :
    Calls Try.prog 17 #[.slice A zs.length c] w fun e w' => e = .returned (.bool (timesB zs)) ∧ ∃ n, w' = w.drewN n := by
  go_enter Try.func17, Try.ntmps17
  go_wp2_with (go_at_call 48; refine (sVT_any _ _ _ _ _ hr hn).mono ?_; rintro e w' ⟨rfl, nv, rfl⟩)
  go_ret
  exact ⟨rfl, nv, rfl⟩
theorem vGap_any (g : Int) (w : World) :
    Calls Try.prog 58 #[.int .i64 g] w fun e w' => e = .returned (.bool (inB g 1 60)) ∧ w = w' := by
  go_enter Try.func58, Try.ntmps58
  go_wp2
  all_goals go_ret
  all_goals (refine ⟨ret_bool ?_, rfl⟩; unfold inB)
  all_goals simp [*]
  all_goals omega
theorem vLifts_any (g : Int) (w : World) :
    Calls Try.prog 54 #[.int .i64 g] w fun e w' => e = .returned (.bool (inB g 1 8)) ∧ w = w' := by
  go_enter Try.func54, Try.ntmps54
  go_wp2
  all_goals go_ret
  all_goals (refine ⟨ret_bool ?_, rfl⟩; unfold inB)
  all_goals simp [*]
  all_goals omega
theorem iVT_is {q : Bool} (zs : List Int) (A : Option Addr) (c : Nat) (w : World) (B : Nat) (hr : Rd w B A (ints zs)) (h : timesB zs = q) :
    Calls Try.prog 16 #[.slice A zs.length c] w fun e w' => e = .returned (.bool q) ∧ w = w' := by
  have := iVT_any zs A c w B hr
  rwa [h] at this
theorem sVT_is {q : Bool} (zs : List Int) (A : Option Addr) (c : Nat) (w : World) (B : Nat) (hr : Rd w B A (ints zs)) (hn : zs.length ≤ 1048576) (h : timesB zs = q) :
    Calls Try.prog 48 #[.slice A zs.length c] w fun e w' => e = .returned (.bool q) ∧ ∃ n, w' = w.drewN n := by
  have := sVT_any zs A c w B hr hn
  rwa [h] at this
/-- times, gap and lifts are valid -/
def lvB (zs : List Int) (g n : Int) : Bool := timesB zs && (inB g 1 60 && inB n 1 8)
theorem lvB_t {zs : List Int} {g n : Int} (h : lvB zs g n = true) : TimesP zs ∧ (1 ≤ g ∧ g ≤ 60) ∧ ∃ m : Nat, n = m ∧ 1 ≤ m ∧ m ≤ 8 := by
  unfold lvB at h
  simp only [Bool.and_eq_true] at h
  have h3 := inB_t h.2.2
  exact ⟨timesB_t h.1, inB_t h.2.1, n.toNat, by omega, by omega, by omega⟩
theorem iLV_any (zs : List Int) (A : Option Addr) (c : Nat) (w : World) (B : Nat) (hr : Rd w B A (ints zs)) (g n : Int) :
    Calls Try.prog 51 #[.slice A zs.length c, .int .i64 g, .int .i64 n] w fun e w' => e = .returned (.bool (lvB zs g n)) ∧ w = w' := by
  unfold lvB
  cases hv : timesB zs
  · have Hv := Lib.hid hv
    clear hv
    go_enter Try.func51, Try.ntmps51
    go_wp2_with (go_at_call 16; refine (iVT_is _ _ _ _ _ hr Hv.out).mono ?_; rintro e w' ⟨rfl, rfl⟩)
    go_ret
    exact ⟨rfl, rfl⟩
  · have Hv := Lib.hid hv
    clear hv
    cases h1 : inB g 1 60
    · go_enter Try.func51, Try.ntmps51
      go_wp2_with (first | (go_at_call 16; refine (iVT_is _ _ _ _ _ hr Hv.out).mono ?_; rintro e w' ⟨rfl, rfl⟩) | (go_at_call 58; refine (vGap_any _ _).mono ?_; rintro e w' ⟨rfl, rfl⟩))
      go_ret
      exact ⟨rfl, rfl⟩
    · cases h2 : inB n 1 8
      all_goals
        go_enter Try.func51, Try.ntmps51
        go_wp2_with (first | (go_at_call 16; refine (iVT_is _ _ _ _ _ hr Hv.out).mono ?_; rintro e w' ⟨rfl, rfl⟩) | (go_at_call 58; refine (vGap_any _ _).mono ?_; rintro e w' ⟨rfl, rfl⟩) | (go_at_call 54; refine (vLifts_any _ _).mono ?_; rintro e w' ⟨rfl, rfl⟩))
        go_ret
        exact ⟨rfl, rfl⟩
theorem sLV_any (g n : Int) (w : World) :
    Calls Try.prog 52 #[.int .i64 g, .int .i64 n] w fun e w' => e = .returned (.bool (inB g 1 60 && inB n 1 8)) ∧ w = w' := by
  cases h1 : inB g 1 60
  · go_enter Try.func52, Try.ntmps52
    go_wp2_with (go_at_call 60; refine (inRange_any _ _ _ _).mono ?_; rintro e w' ⟨rfl, rfl⟩)
    go_ret
    exact ⟨rfl, rfl⟩
  · cases h2 : inB n 1 8
    all_goals
      go_enter Try.func52, Try.ntmps52
      go_wp2_with (go_at_call 60; refine (inRange_any _ _ _ _).mono ?_; rintro e w' ⟨rfl, rfl⟩)
      go_ret
      exact ⟨rfl, rfl⟩
theorem iLV_is {q : Bool} (zs : List Int) (A : Option Addr) (c : Nat) (w : World) (B : Nat) (hr : Rd w B A (ints zs)) (g n : Int) (h : lvB zs g n = q) :
    Calls Try.prog 51 #[.slice A zs.length c, .int .i64 g, .int .i64 n] w fun e w' => e = .returned (.bool q) ∧ w = w' := by
  have := iLV_any zs A c w B hr g n
  rwa [h] at this
theorem sLV_is {q : Bool} (g n : Int) (w : World) (h : (inB g 1 60 && inB n 1 8) = q) :
    Calls Try.prog 52 #[.int .i64 g, .int .i64 n] w fun e w' => e = .returned (.bool q) ∧ w = w' := by
  have := sLV_any g n w
  rwa [h] at this
theorem out_drew {l : List Int} {w w' : World} {e : Ending} {n : Nat} (h : OutI l (w.drewN n) e w') : OutI l w e w' := by
  obtain ⟨A', c', h1, h2, h3⟩ := h
  exact ⟨A', c', h1, h2, (below_drewN (Below.refl _ _) n).trans h3⟩
theorem bel_drew {w w' : World} {n : Nat} (h : Below w.heap.size (w.drewN n) w') : Below w.heap.size w w' := (below_drewN (Below.refl _ _) n).trans h

end Go.Proofs.Ytcjcdlhmhhbkgaa

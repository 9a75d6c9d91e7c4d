/- Contracts of chapter 7: what a contract pays. -/
import Derived.Test.YtiihenhddleooaaTValC
namespace Go.Proofs.Ytiihenhddleooaa
open Go.RowKit
set_option linter.unusedVariables false
set_option linter.unusedSimpArgs false
set_option maxHeartbeats 1000000 in
theorem sPayR_any (n : Nat) (cs : List Cu) (hl : cs.length = n) (A : Option Addr) (c : Nat) (hok : okV clV cs = true) (t : Int) (w : World) (B : Nat) (hr : Rd w B A (custV cs)) :
    Calls Try.prog 74 #[.slice A n c, .int .i64 t] w fun e w' => e = .returned (.int .i64 (payR t cs)) ∧ ∃ q, w' = w.drewN q := by
  have HL := Lib.hid hl
  have HE : Hid (payR t (cs.take n) = payR t cs) := Lib.hid (by rw [← hl, List.take_length])
  have HB := Lib.hid (payR_to hok t)
  have HS := Lib.hid fun k => payR_step (cs := cs) (k := k) t
  have hn : n ≤ 20 := by rw [← hl]; exact (okV_t hok).1
  have HPV := Lib.hid fun i (hi : i < n) => clV_t (allV_at (okV_t hok).2 (show i < cs.length by rw [hl]; exact hi))
  clear hl hok
  go_enter Try.func74, Try.ntmps74
  go_wp2_with (go_at_call 64; refine (inRange_any _ _ _ _).mono ?_; rintro e w' ⟨rfl, rfl⟩)
  go_loopw [5, 6] (fun s i wr => ∃ k : Nat, k ≤ n ∧ i = .int .i64 k ∧ s = .int .i64 (payR t (cs.take k)) ∧ ∃ q, wr = w.drewN q) (fun _ i _ => n - (intOf i).toNat)
  case atStart => exact ⟨0, Nat.zero_le _, rfl, rfl, 0, rfl⟩
  case round =>
    obtain ⟨k, hk, rfl, rfl, q0, rfl⟩ := hrel
    by_cases hlt : k < n
    · obtain ⟨b1, off, x, d, v, rfl, hb1, hz, hc0, hc1, hc2⟩ := (hr.drewN q0).cust_ (k := k) (by rw [HL.out]; exact hlt)
      obtain ⟨wr, hwr⟩ : ∃ wr, wr = w.drewN q0 := ⟨_, rfl⟩
      rw [← hwr] at hc0 hc1 hc2 ⊢
      have HW := Lib.hid hwr
      have hst := HS.out k (by rw [HL.out]; exact hlt)
      have hpv := HPV.out k hlt
      rw [hz.out] at hst hpv
      obtain ⟨_, _, hv1, hv2⟩ := hpv
      simp only at hst hv1 hv2
      obtain ⟨hb3, hb4⟩ := HB.out k
      generalize payR t (cs.take k) = P at *
      clear hwr
      cases hq : inB t x d
      · have HQ := Lib.hid hq
        rw [hq] at hst
        have HT : Hid (payR t (cs.take (k + 1)) = P) := Lib.hid (by rw [hst]; simp)
        clear hst hq
        go_wp2
        refine wp_region_quiet_lit (by kernel_rfl) (by kernel_rfl) ?_
        repeat (go_big_quiet_step (fail))
        go_big_quiet_step ((go_at_call 64; exact quiet_same (inR_is HQ.out _)))
        repeat (go_big_quiet_step (fail))
        refine wpQuiet_nil ?_
        intro _ hw'
        obtain ⟨nq, hw''⟩ := hw'
        subst hw''
        go_wp2
        go_roundw
        case rel => exact ⟨k + 1, by omega, by go_num, by rw [HT.out], q0 + nq, by rw [HW.out, drewN_add]⟩
        case measure => first | (simp [intOf]; omega) | simp [intOf]
      · have HQ := Lib.hid hq
        rw [hq] at hst
        have HT : Hid (payR t (cs.take (k + 1)) = P + v) := Lib.hid (by rw [hst]; simp)
        clear hst hq
        go_wp2
        refine wp_region_quiet_lit (by kernel_rfl) (by kernel_rfl) ?_
        repeat (go_big_quiet_step (fail))
        go_big_quiet_step ((go_at_call 64; exact quiet_same (inR_is HQ.out _)))
        repeat (go_big_quiet_step (fail))
        refine wpQuiet_nil ?_
        intro _ hw'
        obtain ⟨nq, hw''⟩ := hw'
        subst hw''
        go_wp2
        go_roundw
        case rel => exact ⟨k + 1, by omega, by go_num, by rw [HT.out], q0 + nq, by rw [HW.out, drewN_add]⟩
        case measure => first | (simp [intOf]; omega) | simp [intOf]
    · obtain rfl : k = n := by omega
      rw [HE.out]
      go_wp2_with (go_at_call 64; refine (inRange_any _ _ _ _).mono ?_; rintro e w' ⟨rfl, rfl⟩)
      go_ret
      exact ⟨rfl, _, rfl⟩
set_option maxHeartbeats 1000000 in
theorem sPay_any (n : Nat) (cs : List Cu) (hl : cs.length = n) (A : Option Addr) (c : Nat) (hn : n ≤ maxLen) (w : World) (hr : Rd w w.heap.size A (custV cs)) (t : Int) :
    Calls Try.prog 42 #[.slice A n c, .int .i64 t] w fun e w' => e = .returned (.int .i64 (payT cs t)) ∧ Below w.heap.size w w' := by
  have C := Lib.hid (sWCl_any n cs hl A c hn w hr)
  cases hv : okV clV cs
  · have HT : Hid (payT cs t = 0) := Lib.hid (by unfold payT; rw [hv]; rfl)
    rw [hv] at C
    clear hr hv
    rw [HT.out]
    go_enter Try.func42, Try.ntmps42
    go_wp2_with fail
    refine (C.out).mono ?_
    rintro e w1 ⟨rfl, b1⟩
    go_wp2_with (go_at_call 64; refine (inRange_any _ _ _ _).mono ?_; rintro e w' ⟨rfl, rfl⟩)
    go_ret
    exact ⟨rfl, b1⟩
  · have CP := Lib.hid (fun (w1 : World) (b1 : Below w.heap.size w w1) => sPayR_any n cs hl A c hv t w1 _ (hr.below b1))
    rw [hv] at C
    cases ht : inB t 0 999
    · have HT : Hid (payT cs t = 0) := Lib.hid (by unfold payT; rw [hv, ht]; rfl)
      clear hr hv CP
      rw [HT.out]
      go_enter Try.func42, Try.ntmps42
      go_wp2_with fail
      refine (C.out).mono ?_
      rintro e w1 ⟨rfl, b1⟩
      go_wp2_with (go_at_call 64; refine (inRange_any _ _ _ _).mono ?_; rintro e w' ⟨rfl, rfl⟩)
      go_ret
      exact ⟨rfl, b1⟩
    · have HT : Hid (payT cs t = payR t cs) := Lib.hid (by unfold payT; rw [hv, ht]; rfl)
      clear hr hv
      rw [HT.out]
      go_enter Try.func42, Try.ntmps42
      go_wp2_with fail
      refine (C.out).mono ?_
      rintro e w1 ⟨rfl, b1⟩
      have CQ := Lib.hid (CP.out w1 b1)
      go_wp2_with (go_at_call 64; refine (inRange_any _ _ _ _).mono ?_; rintro e w' ⟨rfl, rfl⟩)
      go_wp2_with fail
      refine (CQ.out).mono ?_
      rintro e w2 ⟨rfl, q, rfl⟩
      go_wp2
      go_ret
      exact ⟨rfl, below_drewN b1 q⟩
set_option maxHeartbeats 1000000 in
theorem iPay_any (n : Nat) (cs : List Cu) (hl : cs.length = n) (A : Option Addr) (c : Nat) (hn : n ≤ maxLen) (w : World) (hr : Rd w w.heap.size A (custV cs)) (t : Int) :
    Calls Try.prog 41 #[.slice A n c, .int .i64 t] w fun e w' => e = .returned (.int .i64 (payT cs t)) ∧ Below w.heap.size w w' := by
  have C := Lib.hid (iVCl_any n cs hl A c hn w hr)
  cases hv : okV clV cs
  · have HT : Hid (payT cs t = 0) := Lib.hid (by unfold payT; rw [hv]; rfl)
    rw [hv] at C
    clear hr hv
    rw [HT.out]
    go_enter Try.func41, Try.ntmps41
    go_wp2_with fail
    refine (C.out).mono ?_
    rintro e w1 ⟨rfl, b1⟩
    go_wp2
    go_ret
    exact ⟨rfl, b1⟩
  · rw [hv] at C
    cases ht : inB t 0 999
    · have HT : Hid (payT cs t = 0) := Lib.hid (by unfold payT; rw [hv, ht]; rfl)
      clear hr hv
      rw [HT.out]
      go_enter Try.func41, Try.ntmps41
      go_wp2_with fail
      refine (C.out).mono ?_
      rintro e w1 ⟨rfl, b1⟩
      go_wp2_with (go_at_call 73; refine (validThick_any _ _).mono ?_; rintro e w' ⟨rfl, rfl⟩)
      go_ret
      exact ⟨rfl, b1⟩
    · have HT : Hid (payT cs t = payR t (cs.take n)) := Lib.hid (by unfold payT; rw [hv, ht, ← hl, List.take_length]; rfl)
      obtain ⟨ht1, ht2⟩ := inB_t ht
      have HL := Lib.hid hl
      have HB := Lib.hid (payR_to hv t)
      have HS := Lib.hid fun k => payR_step (cs := cs) (k := k) t
      have HPV := Lib.hid fun i (hi : i < n) => clV_t (allV_at (okV_t hv).2 (show i < cs.length by rw [hl]; exact hi))
      have hn2 : n ≤ 20 := by rw [← hl]; exact (okV_t hv).1
      clear hv hl hn
      rw [HT.out]
      go_enter Try.func41, Try.ntmps41
      go_wp2_with fail
      refine (C.out).mono ?_
      rintro e w1 ⟨rfl, b1⟩
      have hr1 := (hr.below b1).more b1.size
      go_wp2_with (go_at_call 73; refine (validThick_any _ _).mono ?_; rintro e w' ⟨rfl, rfl⟩)
      go_loopw [5, 7, 18] (fun s _ i wr => ∃ k : Nat, k ≤ n ∧ i = .int .i64 k ∧ s = .int .i64 (payR t (cs.take k)) ∧ Below w1.heap.size w1 wr) (fun _ _ i _ => n - (intOf i).toNat)
      case atStart => exact ⟨0, Nat.zero_le _, rfl, rfl, Below.refl _ _⟩
      case round =>
        obtain ⟨k, hk, rfl, rfl, hbel⟩ := hrel
        by_cases hlt : k < n
        · obtain ⟨b2, off, x, d, v, rfl, hb2, hz, hc0, hc1, hc2⟩ := (hr1.below hbel).cust_ (k := k) (by rw [HL.out]; exact hlt)
          have hst := HS.out k (by rw [HL.out]; exact hlt)
          have hpv := HPV.out k hlt
          rw [hz.out] at hst hpv
          obtain ⟨_, _, hv1, hv2⟩ := hpv
          simp only at hst hv1 hv2
          obtain ⟨hb3, hb4⟩ := HB.out k
          generalize payR t (cs.take k) = P at *
          have HBA := Lib.hid (hbel.alloc hbel.size (.cells #[.int .i64 x, .int .i64 d, .int .i64 v] 54))
          clear hbel
          have hways : t < x ∨ (x ≤ t ∧ d < t) ∨ (x ≤ t ∧ t ≤ d) := by omega
          rcases hways with g | ⟨g1, g2⟩ | ⟨g1, g2⟩
          · rw [inB_nk (n := t) (by omega)] at hst
            have HT : Hid (payR t (cs.take (k + 1)) = P) := Lib.hid (by rw [hst]; simp)
            have p1 : decide (x ≤ t) = false := decide_eq_false (by omega)
            have p2 : decide (t ≥ x) = false := decide_eq_false (by omega)
            clear hst
            go_wp2
            go_roundw
            case rel => exact ⟨k + 1, by omega, by go_num, by rw [HT.out], HBA.out⟩
            case measure => first | (simp [intOf]; omega) | simp [intOf]
          · rw [inB_nk (n := t) (by omega)] at hst
            have HT : Hid (payR t (cs.take (k + 1)) = P) := Lib.hid (by rw [hst]; simp)
            clear hst
            go_wp2
            go_roundw
            case rel => exact ⟨k + 1, by omega, by go_num, by rw [HT.out], HBA.out⟩
            case measure => first | (simp [intOf]; omega) | simp [intOf]
          · rw [inB_mk (n := t) ⟨g1, g2⟩] at hst
            have HT : Hid (payR t (cs.take (k + 1)) = P + v) := Lib.hid (by rw [hst]; simp)
            clear hst
            go_wp2
            go_roundw
            case rel => exact ⟨k + 1, by omega, by go_num, by rw [HT.out], HBA.out⟩
            case measure => first | (simp [intOf]; omega) | simp [intOf]
        · obtain rfl : k = n := by omega
          have HB2 := Lib.hid (b1.trans (hbel.mono b1.size))
          clear hbel
          go_wp2
          go_ret
          exact ⟨rfl, HB2.out⟩

end Go.Proofs.Ytiihenhddleooaa

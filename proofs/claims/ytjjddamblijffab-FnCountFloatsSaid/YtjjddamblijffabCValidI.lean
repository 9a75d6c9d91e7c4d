/- Contracts of chapter 3: whether cakes are valid, the program. -/
import Derived.Lib.QuietBelow
import Derived.Test.YtjjddamblijffabCValid
namespace Go.Proofs.Ytjjddamblijffab
open Go.RowKit
set_option linter.unusedVariables false
set_option linter.unusedSimpArgs false
set_option maxRecDepth 100000 in
set_option maxHeartbeats 2000000 in
theorem iVC_any (n : Nat) (hn : n ≤ 1048576) (cs : List (Int × Int)) (hl : cs.length = n) (A : Option Addr) (c : Nat) (hcap : n ≤ c ∧ c ≤ maxLen) (w : World) (hr : Rd w w.heap.size A (cakeV cs)) (a b : Int) :
    Calls Try.prog 45 #[.slice A n c, .int .i64 a, .int .i64 b] w fun e w' => e = .returned (.bool (cakesB a b cs)) ∧ Below w.heap.size w w' := by
  cases hs : sidesB a b
  · rw [cakesB_no hs]
    have Hs := Lib.hid hs
    clear hs
    go_enter Try.func45, Try.ntmps45
    go_wp2_with (go_at_call 87; refine (vSides_is Hs.out _).mono ?_; rintro e w' ⟨rfl, rfl⟩)
    go_ret
    exact ⟨rfl, Below.refl _ _⟩
  · have hs2 := sidesB_t hs
    obtain ⟨⟨s1, s2⟩, ⟨s3, s4⟩⟩ := hs2
    obtain ⟨q3, q4⟩ := hcap
    have HL := Lib.hid hl
    have HF : Hid (cakesB a b cs = okTo a b cs n) := Lib.hid (by rw [cakesB_ok hs, hl])
    generalize cakesB a b cs = R at *
    have Hs := Lib.hid hs
    clear hs hl
    go_enter Try.func45, Try.ntmps45
    go_wp2_with (go_at_call 87; refine (vSides_is Hs.out _).mono ?_; rintro e w' ⟨rfl, rfl⟩)
    go_loopw [15] (fun i wr => ∃ k : Nat, k ≤ n ∧ i = .int .i64 k ∧ okTo a b cs k = true ∧ Below w.heap.size w wr) (fun i _ => n - (intOf i).toNat)
    case atStart => exact ⟨0, Nat.zero_le _, rfl, rfl, Below.refl _ _⟩
    case round =>
      obtain ⟨k, hk, rfl, hok, hbel⟩ := hrel
      have HOK := Lib.hid hok
      have HBEL := Lib.hid hbel
      have hsz := hbel.size
      by_cases hlt : k < n
      · obtain ⟨b1, off, x, y, rfl, hb1, hz, hc, hc2⟩ := (hr.below hbel).cake_ (k := k) (by rw [HL.out]; exact hlt)
        have HR := Lib.hid ((hr.below hbel).more hbel.size)
        have hcat : cAt cs k = (x, y) := cAt_get hz.out
        obtain ⟨wq, hwq⟩ : ∃ wq, wq = wr.alloc (.cells #[.int .i64 x, .int .i64 y] 83) := ⟨_, rfl⟩
        have b0 : Below wr.heap.size wr wq := by rw [hwq]; exact (Below.refl _ _).alloc (Nat.le_refl _) _
        have d0 : wq.cell? ⟨wr.heap.size, 0, none⟩ = some (.int .i64 x) := by rw [hwq]; exact two_new wr (.int .i64 x) (.int .i64 y) _ _ rfl 0 _ rfl
        have d1 : wq.cell? ⟨wr.heap.size, 1, none⟩ = some (.int .i64 y) := by rw [hwq]; exact two_new wr (.int .i64 x) (.int .i64 y) _ _ rfl 1 _ rfl
        have B0 := Lib.hid b0
        have HW := Lib.hid hwq
        have k1 := cell_regrown d0
        have k2 := cell_regrown d1
        have HRQ : Hid (∀ d os, Rd (Go.Sort.grow (redrawn wq d) os) (Go.Sort.grow (redrawn wq d) os).heap.size (some ⟨b1, off, none⟩) (cakeV cs)) := Lib.hid fun d os => by
          have hb := b0.trans ((below_regrown wq d os).mono b0.size)
          exact (HR.out.below hb).more hb.size
        have cOn : ∀ d os, Calls Try.prog 88 #[.agg #[.int .i64 x, .int .i64 y], .int .i64 a, .int .i64 b] (Go.Sort.grow (redrawn wq d) os) fun e w'' => e = .returned (.bool (onB a b (x, y))) ∧ ∃ p : Regrown, w'' = Go.Sort.grow (redrawn wq p.d) p.os := fun d os => Calls.regrown_of (iOn_any x y a b ⟨s1, s2⟩ ⟨s3, s4⟩ _)
        have e1 : ¬ (c : Int) < (k : Int) := by omega
        have e2 : (k : Int) ≤ (c : Int) := by omega
        have e3 : k ≤ c := by omega
        clear hbel hok b0 d0 d1 hz
        cases hq1 : onB a b (x, y)
        · rw [hq1] at cOn
          have HT : Hid (okTo a b cs n = false) := Lib.hid (okTo_bad hlt (by rw [hcat, hq1]; rfl))
          clear hcat hq1
          go_wp2
          rw [← HW.out]
          clear hwq
          refine wp_region_quiet_below (by kernel_rfl) (by kernel_rfl) ?_
          repeat (go_big_quiet_step (first | exact cOn _ _))
          refine wpQuiet_nil ?_
          intro w2 hw'
          have HBw2 : Below wq.heap.size wq w2 := by obtain ⟨⟨dq, osq⟩, hq⟩ := hw'; rw [hq]; exact below_regrown _ _ _
          clear hw'
          have hb2 := HBEL.out.trans ((B0.out.trans (HBw2.mono B0.out.size)).mono hsz)
          have HB2 := Lib.hid hb2
          clear hb2 HBw2 cOn k1 k2
          go_wp2
          go_ret
          exact ⟨ret_bool (by rw [HF.out, HT.out]), HB2.out⟩
        · rw [hq1] at cOn
          have cOv : ∀ d os, Calls Try.prog 89 #[.slice (some ⟨b1, off, none⟩) k c, .agg #[.int .i64 x, .int .i64 y], .int .i64 a, .int .i64 b] (Go.Sort.grow (redrawn wq d) os) fun e w'' => e = .returned (.bool (anyOver a b (x, y) cs k)) ∧ ∃ p : Regrown, w'' = Go.Sort.grow (redrawn wq p.d) p.os := fun d os => Calls.regrown_of (iOver_any k (by omega) cs (by rw [HL.out]; exact hk) _ c _ (HRQ.out d os) x y a b ⟨s1, s2⟩ ⟨s3, s4⟩ hq1 (fun j hj => okTo_on HOK.out hj))
          cases hq2 : anyOver a b (x, y) cs k
          · rw [hq2] at cOv
            have HT : Hid (okTo a b cs (k + 1) = true) := Lib.hid (by rw [okTo_succ, HOK.out, hcat, hq1, hq2]; rfl)
            clear hcat hq1 hq2
            go_wp2
            rw [← HW.out]
            clear hwq
            refine wp_region_quiet_below (by kernel_rfl) (by kernel_rfl) ?_
            repeat (go_big_quiet_step (first | exact cOn _ _ | exact cOv _ _))
            refine wpQuiet_nil ?_
            intro w2 hw'
            have HBw2 : Below wq.heap.size wq w2 := by obtain ⟨⟨dq, osq⟩, hq⟩ := hw'; rw [hq]; exact below_regrown _ _ _
            clear hw'
            have hb2 := HBEL.out.trans ((B0.out.trans (HBw2.mono B0.out.size)).mono hsz)
            have HB2 := Lib.hid hb2
            clear hb2 HBw2 cOn k1 k2 cOv
            go_wp2
            go_roundw
            case rel => exact ⟨k + 1, by omega, by go_num, HT.out, HB2.out⟩
            case measure => simp [intOf]; omega
          · rw [hq2] at cOv
            have HT : Hid (okTo a b cs n = false) := Lib.hid (okTo_bad hlt (by rw [hcat, hq1, hq2]; rfl))
            clear hcat hq1 hq2
            go_wp2
            rw [← HW.out]
            clear hwq
            refine wp_region_quiet_below (by kernel_rfl) (by kernel_rfl) ?_
            repeat (go_big_quiet_step (first | exact cOn _ _ | exact cOv _ _))
            refine wpQuiet_nil ?_
            intro w2 hw'
            have HBw2 : Below wq.heap.size wq w2 := by obtain ⟨⟨dq, osq⟩, hq⟩ := hw'; rw [hq]; exact below_regrown _ _ _
            clear hw'
            have hb2 := HBEL.out.trans ((B0.out.trans (HBw2.mono B0.out.size)).mono hsz)
            have HB2 := Lib.hid hb2
            clear hb2 HBw2 cOn k1 k2 cOv
            go_wp2
            go_ret
            exact ⟨ret_bool (by rw [HF.out, HT.out]), HB2.out⟩
      · obtain rfl : k = n := by omega
        go_wp2
        go_ret
        exact ⟨ret_bool (by rw [HF.out, HOK.out]), HBEL.out⟩

end Go.Proofs.Ytjjddamblijffab

/- Contracts of chapter 3: whether cakes are valid, the model. -/
import Derived.Test.YtjjddamblijffabCValid
import Derived.Test.YtjjddamblijffabFCakes
namespace Go.Proofs.Ytjjddamblijffab
open Go.RowKit
set_option linter.unusedVariables false
set_option linter.unusedSimpArgs false
theorem over_parts {a b x y u v : Int} : overB a b (x, y) (u, v) = decide (x < u + a ∧ u < x + a ∧ y < v + b ∧ v < y + b) := rfl
set_option maxRecDepth 100000 in
set_option maxRecDepth 100000 in
set_option maxHeartbeats 4000000 in
theorem sVC_ok (n : Nat) (hn : n ≤ 1048576) (cs : List (Int × Int)) (hl : cs.length = n) (A : Option Addr) (c : Nat) (w : World) (B : Nat) (hr : Rd w B A (cakeV cs)) (a b : Int) (hs : sidesB a b = true) :
    Calls Try.prog 75 #[.slice A n c, .int .i64 a, .int .i64 b] w fun e w' => e = .returned (.bool (cakesB a b cs)) ∧ ∃ n, w' = w.drewN n := by
  have hs2 := sidesB_t hs
  obtain ⟨⟨s1, s2⟩, ⟨s3, s4⟩⟩ := hs2
  have HL := Lib.hid hl
  have HF : Hid (cakesB a b cs = okTo a b cs n) := Lib.hid (by rw [cakesB_ok hs, hl])
  generalize cakesB a b cs = R at *
  have Hs := Lib.hid hs
  clear hs hl
  go_enter Try.func75, Try.ntmps75
  go_wp2
  go_loopw [7] (fun i wr => ∃ k : Nat, k ≤ n ∧ i = .int .i64 k ∧ okTo a b cs k = true ∧ ∃ m, wr = w.drewN m) (fun i _ => n - (intOf i).toNat)
  case atStart => exact ⟨0, Nat.zero_le _, rfl, rfl, 0, rfl⟩
  case round =>
    obtain ⟨k, hk, rfl, hok, m, hwr⟩ := hrel
    have HOK := Lib.hid hok
    have hrr : Rd wr B A (cakeV cs) := by rw [hwr]; exact hr.drewN m
    have HW := Lib.hid hwr
    clear hok hwr
    by_cases hlt : k < n
    · obtain ⟨b1, off, x, y, rfl, hb1, hz, hc, hc2⟩ := hrr.cake_ (k := k) (by rw [HL.out]; exact hlt)
      have Hcat : Hid (cAt cs k = (x, y)) := Lib.hid (cAt_get hz.out)
      have H : Hid (onB a b (x, y) = (inB x 0 (9 - a) && inB y 0 (9 - b))) := Lib.hid rfl
      clear hz
      cases hq1 : inB x 0 (9 - a)
      · have HX := Lib.hid hq1
        have HT : Hid (okTo a b cs n = false) := Lib.hid (okTo_bad hlt (by rw [Hcat.out, H.out, hq1]; rfl))
        clear hq1
        go_wp2_with fail
        refine (inR_is HX.out _).mono ?_
        rintro e w' ⟨rfl, rfl⟩
        go_wp2
        go_ret
        exact ⟨ret_bool (by rw [HF.out, HT.out]), _, HW.out⟩
      cases hq2 : inB y 0 (9 - b)
      · have HX := Lib.hid hq1
        have HY := Lib.hid hq2
        have HT : Hid (okTo a b cs n = false) := Lib.hid (okTo_bad hlt (by rw [Hcat.out, H.out, hq1, hq2]; rfl))
        clear hq1 hq2
        go_wp2_with fail
        refine (inR_is HX.out _).mono ?_
        rintro e w' ⟨rfl, rfl⟩
        go_wp2_with fail
        refine (inR_is HY.out _).mono ?_
        rintro e w' ⟨rfl, rfl⟩
        go_wp2
        go_ret
        exact ⟨ret_bool (by rw [HF.out, HT.out]), _, HW.out⟩
      have HX := Lib.hid hq1
      have HY := Lib.hid hq2
      have hx := inB_t hq1
      have hy := inB_t hq2
      have HON : Hid (onB a b (cAt cs k) = true) := Lib.hid (by rw [Hcat.out, H.out, hq1, hq2]; rfl)
      clear hq1 hq2
      obtain ⟨p1, p2⟩ := hx
      obtain ⟨p3, p4⟩ := hy
      go_wp2_with fail
      refine (inR_is HX.out _).mono ?_
      rintro e w' ⟨rfl, rfl⟩
      go_wp2_with fail
      refine (inR_is HY.out _).mono ?_
      rintro e w' ⟨rfl, rfl⟩
      go_wp2
      clear hrr
      go_loopw [8] (fun i wi => ∃ j : Nat, j ≤ k ∧ i = .int .i64 j ∧ anyOver a b (x, y) cs j = false ∧ ∃ m, wi = w.drewN m) (fun i _ => k - (intOf i).toNat)
      case atStart => exact ⟨0, Nat.zero_le _, rfl, rfl, m, HW.out⟩
      case round =>
        clear hc hc2 HW
        obtain ⟨j, hj, rfl, hno, m', hwr⟩ := hrel
        have HNO := Lib.hid hno
        have hrr : Rd wr B (some ⟨b1, off, none⟩) (cakeV cs) := by rw [hwr]; exact hr.drewN m'
        have HW := Lib.hid hwr
        clear hno hwr
        by_cases hjt : j < k
        · obtain ⟨b2, off2, u, v, e, hb2, hz2, hc3, hc4⟩ := hrr.cake_ (k := j) (by rw [HL.out]; omega)
          obtain ⟨b3, off3, x2, y2, e2, hb3, hz3, hc5, hc6⟩ := hrr.cake_ (k := k) (by rw [HL.out]; exact hlt)
          injection e with e
          injection e with e1 e3
          subst e1 e3
          injection e2 with e2
          injection e2 with e1 e3
          subst e1 e3
          obtain ⟨rfl, rfl⟩ : x2 = x ∧ y2 = y := by have h1 := Hcat.out; rw [cAt_get hz3.out] at h1; injection h1 with h1 h2; exact ⟨h1, h2⟩
          have ho := onB_t (okTo_on HOK.out hjt)
          rw [cAt_get hz2.out] at ho
          obtain ⟨⟨o1, o2⟩, o3, o4⟩ := ho
          simp only at o1 o2 o3 o4
          have HOV : Hid (overB a b (x2, y2) (cAt cs j) = decide (x2 < u + a ∧ u < x2 + a ∧ y2 < v + b ∧ v < y2 + b)) := Lib.hid (by rw [cAt_get hz2.out]; rfl)
          have HNext : Hid (overB a b (x2, y2) (cAt cs j) = false → anyOver a b (x2, y2) cs (j + 1) = false) := Lib.hid fun h => by rw [anyOver_succ, HNO.out, h]; rfl
          have t1 : IntKind.i64.wrap (u + a) = u + a := IntWalk.i64_in _ (by omega)
          have t2 : IntKind.i64.wrap (x2 + a) = x2 + a := IntWalk.i64_in _ (by omega)
          have t3 : IntKind.i64.wrap (v + b) = v + b := IntWalk.i64_in _ (by omega)
          have t4 : IntKind.i64.wrap (y2 + b) = y2 + b := IntWalk.i64_in _ (by omega)
          clear hz2 hz3 hrr
          by_cases h1 : x2 < u + a
          · by_cases h2 : u < x2 + a
            · by_cases h3 : y2 < v + b
              · by_cases h4 : v < y2 + b
                · have HT : Hid (okTo a b cs n = false) := Lib.hid (okTo_bad hlt (by rw [Hcat.out, anyOver_hit hjt (by rw [HOV.out]; exact decide_eq_true ⟨h1, h2, h3, h4⟩)]; simp))
                  go_wp2
                  refine wp_region_quiet_lit (by kernel_rfl) (by kernel_rfl) ?_
                  repeat (go_big_quiet_step (fail))
                  refine wpQuiet_nil ?_
                  intro _ hw'
                  obtain ⟨nq, hw''⟩ := hw'
                  subst hw''
                  go_wp2
                  go_ret
                  exact ⟨ret_bool (by rw [HF.out, HT.out]), m' + nq, by rw [HW.out, World.drewN_drewN]⟩
                · have HT := Lib.hid (HNext.out (by rw [HOV.out]; exact decide_eq_false (by omega)))
                  have g4 : decide (v < y2 + b) = false := decide_eq_false h4
                  go_wp2
                  refine wp_region_quiet_lit (by kernel_rfl) (by kernel_rfl) ?_
                  repeat (go_big_quiet_step (fail))
                  refine wpQuiet_nil ?_
                  intro _ hw'
                  obtain ⟨nq, hw''⟩ := hw'
                  subst hw''
                  go_wp2
                  go_roundw
                  case rel => exact ⟨j + 1, by omega, by go_num, HT.out, m' + nq, by rw [HW.out, World.drewN_drewN]⟩
                  case measure => simp [intOf]; omega
              · have HT := Lib.hid (HNext.out (by rw [HOV.out]; exact decide_eq_false (by omega)))
                have g4 : decide (y2 < v + b) = false := decide_eq_false h3
                go_wp2
                refine wp_region_quiet_lit (by kernel_rfl) (by kernel_rfl) ?_
                repeat (go_big_quiet_step (fail))
                refine wpQuiet_nil ?_
                intro _ hw'
                obtain ⟨nq, hw''⟩ := hw'
                subst hw''
                go_wp2
                go_roundw
                case rel => exact ⟨j + 1, by omega, by go_num, HT.out, m' + nq, by rw [HW.out, World.drewN_drewN]⟩
                case measure => simp [intOf]; omega
            · have HT := Lib.hid (HNext.out (by rw [HOV.out]; exact decide_eq_false (by omega)))
              have g4 : decide (u < x2 + a) = false := decide_eq_false h2
              go_wp2
              refine wp_region_quiet_lit (by kernel_rfl) (by kernel_rfl) ?_
              repeat (go_big_quiet_step (fail))
              refine wpQuiet_nil ?_
              intro _ hw'
              obtain ⟨nq, hw''⟩ := hw'
              subst hw''
              go_wp2
              go_roundw
              case rel => exact ⟨j + 1, by omega, by go_num, HT.out, m' + nq, by rw [HW.out, World.drewN_drewN]⟩
              case measure => simp [intOf]; omega
          · have HT := Lib.hid (HNext.out (by rw [HOV.out]; exact decide_eq_false (by omega)))
            have g4 : decide (x2 < u + a) = false := decide_eq_false h1
            go_wp2
            refine wp_region_quiet_lit (by kernel_rfl) (by kernel_rfl) ?_
            repeat (go_big_quiet_step (fail))
            refine wpQuiet_nil ?_
            intro _ hw'
            obtain ⟨nq, hw''⟩ := hw'
            subst hw''
            go_wp2
            go_roundw
            case rel => exact ⟨j + 1, by omega, by go_num, HT.out, m' + nq, by rw [HW.out, World.drewN_drewN]⟩
            case measure => simp [intOf]; omega
        · obtain rfl : j = k := by omega
          have HT : Hid (okTo a b cs (j + 1) = true) := Lib.hid (by rw [okTo_succ, HOK.out, HON.out, Hcat.out, HNO.out]; rfl)
          go_wp2
          go_roundw
          case rel => exact ⟨j + 1, by omega, by go_num, HT.out, m', HW.out⟩
          case measure => simp [intOf]; omega
    · obtain rfl : k = n := by omega
      go_wp2_with fail
      refine (vSize_is Hs.out _).mono ?_
      rintro e w' ⟨rfl, rfl⟩
      go_wp2
      go_ret
      exact ⟨ret_bool (by rw [HF.out, HOK.out]), _, HW.out⟩

end Go.Proofs.Ytjjddamblijffab

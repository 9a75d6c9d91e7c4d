/- Contracts of chapter 3: whether cakes are valid, the model, for any sides. -/
import Derived.Test.YtjjddamblijffabCValidS
namespace Go.Proofs.Ytjjddamblijffab
open Go.RowKit
set_option linter.unusedVariables false
set_option linter.unusedSimpArgs false
set_option maxRecDepth 100000 in
set_option maxRecDepth 100000 in
set_option maxHeartbeats 4000000 in
theorem sVC_bad (n : Nat) (hn : n ≤ 1048576) (cs : List (Int × Int)) (hl : cs.length = n) (A : Option Addr) (c : Nat) (w : World) (B : Nat) (hr : Rd w B A (cakeV cs)) (a b : Int) (hs : sidesB a b = false) :
    Calls Try.prog 75 #[.slice A n c, .int .i64 a, .int .i64 b] w fun e w' => e = .returned (.bool (cakesB a b cs)) ∧ ∃ n, w' = w.drewN n := by
  have HL := Lib.hid hl
  rw [cakesB_no hs]
  have Hs := Lib.hid hs
  clear hs hl
  obtain ⟨M, tM⟩ : ∃ M, IntKind.i64.wrap (9 - a) = M := ⟨_, rfl⟩
  obtain ⟨N, tN⟩ : ∃ N, IntKind.i64.wrap (9 - b) = N := ⟨_, rfl⟩
  have tM2 : wrap64 (9 - a) = M := by rw [← IntWalk.i64_left]; exact tM
  have tN2 : wrap64 (9 - b) = N := by rw [← IntWalk.i64_left]; exact tN
  go_enter Try.func75, Try.ntmps75
  go_wp2
  go_loopw [7] (fun i wr => ∃ k : Nat, k ≤ n ∧ i = .int .i64 k ∧ ∃ m, wr = w.drewN m) (fun i _ => n - (intOf i).toNat)
  case atStart => exact ⟨0, Nat.zero_le _, rfl, 0, rfl⟩
  case round =>
    obtain ⟨k, hk, rfl, m, hwr⟩ := hrel
    have hrr : Rd wr B A (cakeV cs) := by rw [hwr]; exact hr.drewN m
    have HW := Lib.hid hwr
    clear hwr
    by_cases hlt : k < n
    · obtain ⟨b1, off, x, y, rfl, hb1, hz, hc, hc2⟩ := hrr.cake_ (k := k) (by rw [HL.out]; exact hlt)
      cases hq1 : inB x 0 M
      · have HX := Lib.hid hq1
        clear hq1
        go_wp2_with fail
        refine (inR_is HX.out _).mono ?_
        rintro e w' ⟨rfl, rfl⟩
        go_wp2
        go_ret
        exact ⟨rfl, _, HW.out⟩
      cases hq2 : inB y 0 N
      · have HX := Lib.hid hq1
        have HY := Lib.hid hq2
        clear hq1 hq2
        go_wp2_with fail
        refine (inR_is HX.out _).mono ?_
        rintro e w' ⟨rfl, rfl⟩
        go_wp2_with fail
        refine (inR_is HY.out _).mono ?_
        rintro e w' ⟨rfl, rfl⟩
        go_wp2
        go_ret
        exact ⟨rfl, _, HW.out⟩
      have HX := Lib.hid hq1
      have HY := Lib.hid hq2
      clear hq1 hq2
      go_wp2_with fail
      refine (inR_is HX.out _).mono ?_
      rintro e w' ⟨rfl, rfl⟩
      go_wp2_with fail
      refine (inR_is HY.out _).mono ?_
      rintro e w' ⟨rfl, rfl⟩
      go_wp2
      clear hrr
      go_loopw [8] (fun i wi => ∃ j : Nat, j ≤ k ∧ i = .int .i64 j ∧ ∃ m, wi = w.drewN m) (fun i _ => k - (intOf i).toNat)
      case atStart => exact ⟨0, Nat.zero_le _, rfl, m, HW.out⟩
      case round =>
        clear hc hc2 HW
        obtain ⟨j, hj, rfl, m', hwr⟩ := hrel
        have hrr : Rd wr B (some ⟨b1, off, none⟩) (cakeV cs) := by rw [hwr]; exact hr.drewN m'
        have HW := Lib.hid hwr
        clear hwr
        by_cases hjt : j < k
        · obtain ⟨b2, off2, u, v, e, hb2, hz2, hc3, hc4⟩ := hrr.cake_ (k := j) (by rw [HL.out]; omega)
          obtain ⟨b3, off3, x2, y2, e2, hb3, hz3, hc5, hc6⟩ := hrr.cake_ (k := k) (by rw [HL.out]; exact hlt)
          injection e with e
          injection e with e1 e3
          subst e1 e3
          injection e2 with e2
          injection e2 with e1 e3
          subst e1 e3
          obtain ⟨U, t1⟩ : ∃ U, IntKind.i64.wrap (u + a) = U := ⟨_, rfl⟩
          obtain ⟨X, t2⟩ : ∃ X, IntKind.i64.wrap (x2 + a) = X := ⟨_, rfl⟩
          obtain ⟨V, t3⟩ : ∃ V, IntKind.i64.wrap (v + b) = V := ⟨_, rfl⟩
          obtain ⟨Y, t4⟩ : ∃ Y, IntKind.i64.wrap (y2 + b) = Y := ⟨_, rfl⟩
          clear hz2 hz3 hrr tM tN tM2 tN2
          by_cases h1 : x2 < U
          · by_cases h2 : u < X
            · by_cases h3 : y2 < V
              · by_cases h4 : v < Y
                · go_wp2
                  refine wp_region_quiet_lit (by kernel_rfl) (by kernel_rfl) ?_
                  repeat (go_big_quiet_step (fail))
                  refine wpQuiet_nil ?_
                  intro _ hw'
                  obtain ⟨nq, hw''⟩ := hw'
                  subst hw''
                  go_wp2
                  go_ret
                  exact ⟨rfl, m' + nq, by rw [HW.out, World.drewN_drewN]⟩
                · have g4 : decide (v < Y) = false := decide_eq_false h4
                  go_wp2
                  refine wp_region_quiet_lit (by kernel_rfl) (by kernel_rfl) ?_
                  repeat (go_big_quiet_step (fail))
                  refine wpQuiet_nil ?_
                  intro _ hw'
                  obtain ⟨nq, hw''⟩ := hw'
                  subst hw''
                  go_wp2
                  go_roundw
                  case rel => exact ⟨j + 1, by omega, by go_num, m' + nq, by rw [HW.out, World.drewN_drewN]⟩
                  case measure => simp [intOf]; omega
              · have g4 : decide (y2 < V) = false := decide_eq_false h3
                go_wp2
                refine wp_region_quiet_lit (by kernel_rfl) (by kernel_rfl) ?_
                repeat (go_big_quiet_step (fail))
                refine wpQuiet_nil ?_
                intro _ hw'
                obtain ⟨nq, hw''⟩ := hw'
                subst hw''
                go_wp2
                go_roundw
                case rel => exact ⟨j + 1, by omega, by go_num, m' + nq, by rw [HW.out, World.drewN_drewN]⟩
                case measure => simp [intOf]; omega
            · have g4 : decide (u < X) = false := decide_eq_false h2
              go_wp2
              refine wp_region_quiet_lit (by kernel_rfl) (by kernel_rfl) ?_
              repeat (go_big_quiet_step (fail))
              refine wpQuiet_nil ?_
              intro _ hw'
              obtain ⟨nq, hw''⟩ := hw'
              subst hw''
              go_wp2
              go_roundw
              case rel => exact ⟨j + 1, by omega, by go_num, m' + nq, by rw [HW.out, World.drewN_drewN]⟩
              case measure => simp [intOf]; omega
          · have g4 : decide (x2 < U) = false := decide_eq_false h1
            go_wp2
            refine wp_region_quiet_lit (by kernel_rfl) (by kernel_rfl) ?_
            repeat (go_big_quiet_step (fail))
            refine wpQuiet_nil ?_
            intro _ hw'
            obtain ⟨nq, hw''⟩ := hw'
            subst hw''
            go_wp2
            go_roundw
            case rel => exact ⟨j + 1, by omega, by go_num, m' + nq, by rw [HW.out, World.drewN_drewN]⟩
            case measure => simp [intOf]; omega
        · obtain rfl : j = k := by omega
          go_wp2
          go_roundw
          case rel => exact ⟨j + 1, by omega, by go_num, m', HW.out⟩
          case measure => simp [intOf]; omega
    · obtain rfl : k = n := by omega
      go_wp2_with fail
      refine (vSize_is Hs.out _).mono ?_
      rintro e w' ⟨rfl, rfl⟩
      go_wp2
      go_ret
      exact ⟨rfl, _, HW.out⟩
theorem sVCv_any (n : Nat) (hn : n ≤ 1048576) (cs : List (Int × Int)) (hl : cs.length = n) (A : Option Addr) (c : Nat) (w : World) (B : Nat) (hr : Rd w B A (cakeV cs)) (a b : Int) :
    Calls Try.prog 75 #[.slice A n c, .int .i64 a, .int .i64 b] w fun e w' => e = .returned (.bool (cakesB a b cs)) ∧ ∃ n, w' = w.drewN n := by
  cases hs : sidesB a b
  · exact sVC_bad n hn cs hl A c w B hr a b hs
  · exact sVC_ok n hn cs hl A c w B hr a b hs
theorem sVC_is {q : Bool} (n : Nat) (hn : n ≤ 1048576) (cs : List (Int × Int)) (hl : cs.length = n) (A : Option Addr) (c : Nat) (w : World) (B : Nat) (hr : Rd w B A (cakeV cs)) (a b : Int) (h : cakesB a b cs = q) :
    Calls Try.prog 75 #[.slice A n c, .int .i64 a, .int .i64 b] w fun e w' => e = .returned (.bool q) ∧ ∃ n, w' = w.drewN n := by
  have := sVCv_any n hn cs hl A c w B hr a b
  rw [h] at this
  exact this
end Go.Proofs.Ytjjddamblijffab

/- The law FnLiftTimes: for every code it answers true, and the code reads as it read before. No condition. -/
import Derived.Test.YtcjcdlhmhhbkgaaLLaw
import Derived.Test.YtcjcdlhmhhbkgaaLDrawsB
import Derived.Test.YtcjcdlhmhhbkgaaLaw
namespace Go.Proofs.Ytcjcdlhmhhbkgaa
open Go.RowKit
set_option linter.unusedVariables false
set_option linter.unusedSimpArgs false

namespace fnLiftTimes
open Go.ChangeShapes Go.WideShapes Go.ChangeAt Go.RowKit
set_option maxHeartbeats 800000 in
set_option maxRecDepth 100000 in
set_option maxHeartbeats 8000000 in
theorem walk (w : World) (cs : List Int) (Acs : Option Addr) (ccs : Nat) (hrcs : Rd w w.heap.size Acs (bytes cs)) (hbcs : ∀ z ∈ cs, 0 ≤ z ∧ z ≤ 255) (hlcs : cs.length ≤ ccs ∧ ccs ≤ maxLen) :
    Calls Try.prog 4 #[.slice Acs cs.length ccs] w fun e w' => e = .returned (.bool true) ∧ Below w.heap.size w w' := by
  by_cases hn : cs.length ≤ 1048576
  · go_enter Try.func4, Try.ntmps4
    go_wp2_with fail
    refine (dLiftTimes _ _ _ _ hrcs hbcs hlcs.1 hlcs.2).mono ?_
    rintro e w1 ⟨zs, Azs, czs, a, b, rfl, ⟨hlzs, hrzs, hczs, hmzs⟩, ⟨loa, hia⟩, ⟨lob, hib⟩, b1⟩
    have hn1 : zs.length ≤ 1048576 := by omega
    obtain ⟨ts, hts⟩ : ∃ ts, ts = liftT zs a b := ⟨_, rfl⟩
    have htl : ts.length ≤ 1048576 := by rw [hts]; exact Nat.le_trans (liftT_le _ _ _) (by omega)
    have HTS := Lib.hid hts
    clear hts
    go_wp2_with fail
    refine (iLift_is zs Azs czs w1 hrzs a b HTS.out).mono ?_
    rintro e w2 ⟨A2, c2, rfl, o2, b2⟩
    have hr2 := hrzs.up b2
    go_wp2_with fail
    refine (sLift_is zs Azs czs w2 hr2 hn1 a b HTS.out).mono ?_
    rintro e w3 ⟨A3, c3, rfl, o3, b3⟩
    have hr3 := hr2.up b3
    have r23 := (Rd.own o2).up b3
    have o23 := own_below o2 b3
    have bl3 : Below w.heap.size w w3 := (b1.trans (b2.mono b1.size)).trans (b3.mono (by have := b1.size; have := b2.size; omega))
    go_wp2_with fail
    refine (eqT_b ts A2 A3 c2 c3 w3 w3.heap.size r23 (Rd.own o3) htl).mono ?_
    rintro e w4 ⟨rfl, b4⟩
    have hr4 := hr3.up b4
    have r24 := r23.up b4
    have o24 := own_below o23 b4
    have bl4 := bl3.trans (b4.mono bl3.size)
    clear o2 o3 b1 b2 b3 b4 hrzs hr2 hr3 r23 o23 bl3
    by_cases h0 : ts.length = 0
    · have hz0 : ((ts.length : Int) == 0) = true := beq_iff_eq.2 (by omega)
      clear h0
      go_wp2_with fail
      refine (sLift_is zs Azs czs w4 hr4 hn1 a b HTS.out).mono ?_
      rintro e w5 ⟨A5, c5, rfl, o5, b5⟩
      go_wp2_with fail
      refine (eqT_b ts A2 A5 c2 c5 w5 w5.heap.size (r24.up b5) (Rd.own o5) htl).mono ?_
      rintro e w6 ⟨rfl, b6⟩
      have bl6 := bl4.trans ((b5.trans (b6.mono b5.size)).mono bl4.size)
      clear o5 b5 b6 r24 o24 hr4 bl4
      go_wp2
      go_ret
      exact ⟨rfl, bl6⟩
    · have hz0 : ((ts.length : Int) == 0) = false := beq_eq_false_iff_ne.2 (by omega)
      have hlv := lift_some HTS.out h0
      obtain ⟨hT, hg, m, hbm, hm0, hm8⟩ := lvB_t hlv
      subst hbm
      have e : ts = liftF zs a m := by rw [HTS.out, liftT_ok hlv]
      have hN : ts.length = zs.length := by rw [e, liftF_len]
      have HE := Lib.hid e
      have HT := Lib.hid hT
      clear hlv hT e h0 htl
      generalize hgen : ts.length = N at *
      subst hN
      clear hgen
      have hpos : 0 < zs.length := by
        have := beq_eq_false_iff_ne.1 hz0
        omega
      obtain ⟨g2, rfl, hg2, hgl2, _, _⟩ := own_some o24 hpos
      have HC : Hid (∀ k, k < zs.length → w4.cell? ⟨g2, k, none⟩ = some (.int .i64 (la zs a m k))) := Lib.hid fun k hk => by
        have := own_cell o24 (ints_el (zs := ts) (k := k) (by rw [HE.out, liftF_len]; exact hk))
        rwa [HE.out, liftF_at hk] at this
      clear o24 r24
      go_wp2
      go_loopw [7] (fun i wr => ∃ k : Nat, k ≤ zs.length ∧ i = .int .i64 k ∧ ∃ n, wr = w4.drewN n) (fun i _ => zs.length - (intOf i).toNat)
      case atStart => exact ⟨0, Nat.zero_le _, rfl, 0, rfl⟩
      case round =>
        obtain ⟨k, hk, rfl, n, hwr⟩ := hrel
        have HW := Lib.hid hwr
        have hw4 : ∀ p, wr.cell? p = w4.cell? p := fun p => by rw [hwr]; rfl
        clear hwr
        by_cases hlt : k < zs.length
        · obtain ⟨b, off, rfl, hb, hc0⟩ := hr4.el_ hlt
          have hcz := (hw4 _).trans hc0
          have hcx := (hw4 _).trans (HC.out k hlt)
          have h1 := la_ge (zs := zs) (g := a) (n := m) (i := k) (by omega)
          have d1 : decide (la zs a m k < el zs k) = false := decide_eq_false (by omega)
          have HPREV : Hid (0 < k → ∃ (j : Nat) (y : Int), (k : Int) - 1 = (j : Int) ∧ j < zs.length ∧ wr.cell? ⟨g2, j, none⟩ = some (.int .i64 y) ∧ y ≤ la zs a m k) := Lib.hid fun h => by
            refine ⟨k - 1, la zs a m (k - 1), by omega, by omega, (hw4 _).trans (HC.out (k - 1) (by omega)), ?_⟩
            have := la_mono (i := k - 1) HT.out (show 0 < m by omega) (show 0 ≤ a by omega) (by omega)
            rwa [show k - 1 + 1 = k by omega] at this
          have HBACK : Hid (m ≤ k → ∃ (j : Nat) (u : Int), (k : Int) - (m : Int) = (j : Int) ∧ j < zs.length ∧ wr.cell? ⟨g2, j, none⟩ = some (.int .i64 u) ∧ u + a ≤ la zs a m k ∧ 0 ≤ u ∧ u ≤ 5000 ∧ (el zs k < la zs a m k → la zs a m k = u + a)) := Lib.hid fun h => by
            have hb := la_bd' HT.out (n := m) (g := a) (i := k - m) (by omega) (by omega) (by omega)
            refine ⟨k - m, la zs a m (k - m), by omega, by omega, (hw4 _).trans (HC.out (k - m) (by omega)), la_gap (by omega) h, by omega, by omega, fun q => (la_why (by omega) q).2⟩
          have HLO : Hid (k < m → la zs a m k = el zs k) := Lib.hid la_lo
          have hxb := la_bd' HT.out (n := m) (g := a) (i := k) (by omega) (by omega) hlt
          clear hw4 hc0
          generalize la zs a m k = x at *
          generalize el zs k = z at *
          by_cases hmk : m ≤ k
          · have hmi : decide ((m : Int) ≤ (k : Int)) = true := decide_eq_true (by omega)
            have hki : decide ((k : Int) < (m : Int)) = false := decide_eq_false (by omega)
            have hmn : ¬ k < m := by omega
            have hk0 : 0 < k := by omega
            obtain ⟨j1, y, e1, f1, g1, y1⟩ := HPREV.out hk0
            obtain ⟨j2, u, e2, f2, g3, u1, u2, u3, u4⟩ := HBACK.out hmk
            have d2 : decide (x < y) = false := decide_eq_false (by omega)
            have d3 : decide (x < u + a) = false := decide_eq_false (by omega)
            have s1 : IntKind.i64.wrap (j1 : Int) = (j1 : Int) := IntWalk.i64_in _ (by omega)
            have s2 : IntKind.i64.wrap (j2 : Int) = (j2 : Int) := IntWalk.i64_in _ (by omega)
            have s3 : IntKind.i64.wrap (u + a) = u + a := IntWalk.i64_in _ (by omega)
            by_cases hq : z < x
            · have d4 : (x == u + a) = true := beq_iff_eq.2 (u4 hq)
              have d5 : decide (z < x) = true := decide_eq_true hq
              clear u4 HPREV HBACK HLO
              as_aux_lemma =>
                go_wp2
                refine wp_region_quiet_lit (by kernel_rfl) (by kernel_rfl) ?_
                try simp only [List.append]
                repeat (go_big_quiet_step (fail))
                refine wpQuiet_nil ?_
                intro _ hw'
                obtain ⟨nq, hw''⟩ := hw'
                subst hw''
                go_wp2
                go_roundw
                case rel => exact ⟨k + 1, by omega, by go_num, n + nq, by rw [HW.out, World.drewN_drewN]⟩
                case measure => simp [intOf]; omega
            · have d5 : decide (z < x) = false := decide_eq_false hq
              clear u4 HPREV HBACK HLO
              as_aux_lemma =>
                go_wp2
                refine wp_region_quiet_lit (by kernel_rfl) (by kernel_rfl) ?_
                try simp only [List.append]
                repeat (go_big_quiet_step (fail))
                refine wpQuiet_nil ?_
                intro _ hw'
                obtain ⟨nq, hw''⟩ := hw'
                subst hw''
                go_wp2
                go_roundw
                case rel => exact ⟨k + 1, by omega, by go_num, n + nq, by rw [HW.out, World.drewN_drewN]⟩
                case measure => simp [intOf]; omega
          · have hxz := HLO.out (by omega)
            subst hxz
            have hki : decide ((m : Int) ≤ (k : Int)) = false := decide_eq_false (by omega)
            have d5 : decide (x < x) = false := decide_eq_false (by omega)
            by_cases hk0 : 0 < k
            · obtain ⟨j1, y, e1, f1, g1, y1⟩ := HPREV.out hk0
              have d2 : decide (x < y) = false := decide_eq_false (by omega)
              have s1 : IntKind.i64.wrap (j1 : Int) = (j1 : Int) := IntWalk.i64_in _ (by omega)
              clear HPREV HBACK HLO
              as_aux_lemma =>
                go_wp2
                refine wp_region_quiet_lit (by kernel_rfl) (by kernel_rfl) ?_
                try simp only [List.append]
                repeat (go_big_quiet_step (fail))
                refine wpQuiet_nil ?_
                intro _ hw'
                obtain ⟨nq, hw''⟩ := hw'
                subst hw''
                go_wp2
                go_roundw
                case rel => exact ⟨k + 1, by omega, by go_num, n + nq, by rw [HW.out, World.drewN_drewN]⟩
                case measure => simp [intOf]; omega
            · have hk0i : ¬ (0 : Int) < (k : Int) := by omega
              clear HPREV HBACK HLO
              as_aux_lemma =>
                go_wp2
                refine wp_region_quiet_lit (by kernel_rfl) (by kernel_rfl) ?_
                try simp only [List.append]
                repeat (go_big_quiet_step (fail))
                refine wpQuiet_nil ?_
                intro _ hw'
                obtain ⟨nq, hw''⟩ := hw'
                subst hw''
                go_wp2
                go_roundw
                case rel => exact ⟨k + 1, by omega, by go_num, n + nq, by rw [HW.out, World.drewN_drewN]⟩
                case measure => simp [intOf]; omega
        · obtain rfl : k = zs.length := by omega
          go_wp2
          go_ret
          exact ⟨rfl, by rw [HW.out]; exact below_drewN bl4 n⟩
  · have hn' : 1048576 < cs.length := by omega
    go_enter Try.func4, Try.ntmps4
    go_wp2
    go_ret
    exact ⟨rfl, Below.refl _ _⟩

set_option maxRecDepth 100000 in
theorem lifted (os : Os) (started : os.Started) (H : Type) (enc : TypeId × Value → H) :
    ReturnsInHanded {} Try.checked os 4 .any (Rows.fnLiftTimesSpec.pre6 enc Try.prog Try.f4 Rows.fnLiftTimesRow.domain false) (Rows.fnLiftTimesSpec.post enc Try.prog Try.f4 false true false false) := by
  refine returnsInHanded_of_change (C := Try.checked) ownNone started (by kernel_rfl) Try.func4
    (ChangeSpec.witness6 (enc := enc) (C := Try.checked) false ⟨#[], #[.slice none 0 0], []⟩ 8 (by kernel_rfl) (by kernel_rfl) (by kernel_rfl) (by kernel_rfl)) ?_
  intro W base args ds gs before hval0 hW hcnd _
  have hval : ∀ (j : Nat) t v, Try.f4.params[j]? = some t → args[j]? = some v → Value.okWide Try.prog W .any base t v := hval0
  have hW' := hW
  obtain ⟨p, q, hA0, hV, rfl, _, _⟩ := hW
  have hA : DataW.TrodAll enc Try.prog W 0 (fun _ => true) true Try.f4.params.toList args.toList ds p := hA0
  rw [Try.params4] at hA hval
  obtain ⟨v0, vs0, d0, ds0, p0, q0, hargs, rfl, rfl, h0, r0⟩ := trodAll_cons hA
  obtain ⟨rfl, rfl, rfl⟩ := trodAll_nil r0
  obtain rfl : args = #[v0] := by cases args; simp_all
  obtain ⟨rfl, rfl⟩ := trodVars_none hV
  obtain ⟨Acs, ccs, cs, rfl, hrcs, hlcs, hqcs⟩ := open_rd Try.underlying22 Try.underlying5 cellsByte (hval 0 22 v0 rfl rfl) h0
  have hbcs := byte_bounds hqcs
  clear hA0 hval0
  refine (walk W cs Acs ccs hrcs hbcs hlcs).mono fun e W' ⟨he, hg⟩ => ?_
  subst he
  exact ⟨_, rfl, law_post laidOut (by kernel_rfl) rfl rfl rfl rfl rfl Try.underlying4 hW' hg⟩

/-- The statement. -/
theorem proved : Rows.FnLiftTimesSaid :=
  OpenClaim.holds_of_wide 4 Try.f4 rfl rfl rfl rfl rfl rfl rfl ⟨rfl, rfl, rfl, rfl, rfl⟩ rfl rfl rfl rfl rfl (by kernel_rfl) Try.func4 (by kernel_rfl)
    (of_decide_eq_true (by kernel_rfl)) (by unfold Func.isWrapper; first | (rw [if_pos (by decide +kernel)]; kernel_rfl) | (rw [if_neg (by decide +kernel)]; exact ⟨rfl, rfl⟩))
    (fun os started H enc _ => lifted os started H enc)
#print axioms proved
end fnLiftTimes

end Go.Proofs.Ytcjcdlhmhhbkgaa

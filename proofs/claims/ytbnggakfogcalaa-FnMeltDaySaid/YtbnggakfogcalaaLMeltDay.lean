/- The law FnMeltDay: for every code it answers true, and the code reads as it read before. No condition. -/
import Derived.Test.YtbnggakfogcalaaHLaw
import Derived.Test.YtbnggakfogcalaaHDraws
import Derived.Test.YtbnggakfogcalaaLaw
namespace Go.Proofs.Ytbnggakfogcalaa
open Go.RowKit
set_option linter.unusedVariables false
set_option linter.unusedSimpArgs false

namespace fnMeltDay
open Go.ChangeShapes Go.WideShapes Go.ChangeAt Go.RowKit
set_option maxRecDepth 100000 in
set_option maxHeartbeats 800000 in
set_option maxRecDepth 100000 in
set_option maxRecDepth 100000 in
set_option maxHeartbeats 8000000 in
theorem walk (w : World) (cs : List Int) (Acs : Option Addr) (ccs : Nat) (hrcs : Rd w w.heap.size Acs (bytes cs)) (hbcs : ∀ z ∈ cs, 0 ≤ z ∧ z ≤ 255) (hlcs : cs.length ≤ ccs ∧ ccs ≤ maxLen) :
    Calls Try.prog 10 #[.slice Acs cs.length ccs] w fun e w' => e = .returned (.bool true) ∧ Below w.heap.size w w' := by
  by_cases hn : cs.length ≤ 1048576
  · go_enter Try.func10, Try.ntmps10
    go_wp2_with fail
    refine (dMeltDay _ _ _ _ hrcs hbcs hlcs.1 hlcs.2).mono ?_
    rintro e w1 ⟨pp, Ap, cp, rfl, ⟨hpl, hpc, hcm, hg⟩, b1⟩
    have hn1 : pp.length ≤ 1048576 := by omega
    obtain ⟨ts, hts⟩ : ∃ ts, ts = meltT pp := ⟨_, rfl⟩
    have hrw := rows_or (pp := ts) (by rw [hts]; exact meltT_heap)
    have hql := hrw.1
    have HQR := hrw.2
    have HTS := Lib.hid hts
    clear hts hrw
    go_wp2_with fail
    refine (iMelt_b pp Ap cp w1 hg HTS).mono ?_
    rintro e w2 ⟨A2, c2, xs2, rfl, o2, b2⟩
    have hg2 := hg.up b2
    go_wp2_with fail
    refine (sMelt_b pp Ap cp w2 hg2 hn1 HTS).mono ?_
    rintro e w3 ⟨A3, c3, xs3, rfl, o3, b3⟩
    have hg3 := hg2.up b3
    have r23 := o2.rd.up b3
    have bl3 : Below w.heap.size w w3 := (b1.trans (b2.mono b1.size)).trans (b3.mono (by have := b1.size; have := b2.size; omega))
    go_wp2_with fail
    refine (eqH_b ts A2 A3 c2 c3 w3 w3.heap.size r23 o3.rd hql HQR).mono ?_
    rintro e w4 ⟨rfl, b4⟩
    have hg4 := hg3.up b4
    have r24 := r23.up b4
    have bl4 := bl3.trans (b4.mono bl3.size)
    have o24 : OwnG w4 w1.heap.size w2.heap.size A2 ts.length c2 xs2 ts := (o2.below (Nat.le_refl _) b3).below b3.size b4
    clear o2 o3 b1 b2 b3 b4 hg hg2 hg3 r23 bl3
    by_cases h0 : ts.length = 0
    · have hz0 : ((ts.length : Int) == 0) = true := beq_iff_eq.2 (by omega)
      have HZ0 := Lib.hid h0
      clear h0 o24
      go_wp2_with fail
      refine (sMelt_b pp Ap cp w4 hg4 hn1 HTS).mono ?_
      rintro e w5 ⟨A5, c5, xs5, rfl, o5, b5⟩
      go_wp2_with fail
      refine (eqH_b ts A2 A5 c2 c5 w5 w5.heap.size (r24.up b5) o5.rd hql HQR).mono ?_
      rintro e w6 ⟨rfl, b6⟩
      have bl6 := bl4.trans ((b5.trans (b6.mono b5.size)).mono bl4.size)
      clear o5 b5 b6
      go_wp2
      go_ret
      exact ⟨rfl, bl6⟩
    · have hz0 : ((ts.length : Int) == 0) = false := beq_eq_false_iff_ne.2 (by omega)
      have hz1 : ¬ (ts.length : Int) = 0 := by omega
      cases hv : heapB pp
      · have := HTS.out
        rw [meltT_no hv] at this
        subst this
        exact absurd rfl h0
      have hts : ts = meltF pp := HTS.out.trans (meltT_ok hv)
      obtain ⟨hv2, ht2, ht3, ht4⟩ := melt_ok hv
      rw [← hts] at hv2 ht2 ht3 ht4
      have hp4 : Pnd w4 w4.heap.size Ap pp := ⟨heap_pond hv, hg4⟩
      have hq4 : Pnd w4 w4.heap.size A2 ts := ⟨heap_pond hv2, r24⟩
      have hl := pond_len hp4.1
      have hwd := pond_wide hp4.1
      have hcb := cakes_bd hv
      have hfb := faces_bd hv
      obtain ⟨hgl, hge⟩ := gone_le hv
      have HLE : Hid (∀ x y : Nat, x < wide pp → y < pp.length → at2 ts x y ≤ at2 pp x y) := Lib.hid fun x y hx hy => by rw [hts]; exact melt_at2 hv hx hy
      have HC1 : Hid (∀ w', Below w4.heap.size w4 w' → Calls Try.prog 21 #[.slice Ap pp.length cp] w' fun e w'' => e = .returned (.int .i64 (cakesF pp)) ∧ w' = w'') := Lib.hid fun w' hb => by
        have h := iCakesH_any pp Ap cp w' _ (hg4.up hb)
        rw [cakesHT_ok hv] at h
        exact h
      have HC2 : Hid (∀ w', Below w4.heap.size w4 w' → Calls Try.prog 21 #[.slice A2 ts.length c2] w' fun e w'' => e = .returned (.int .i64 (cakesF pp - goneF pp)) ∧ w' = w'') := Lib.hid fun w' hb => by
        have h := iCakesH_any ts A2 c2 w' _ (r24.up hb)
        rw [cakesHT_ok hv2, ht4] at h
        exact h
      have HFc : Hid (∀ w', Below w4.heap.size w4 w' → Calls Try.prog 18 #[.slice Ap pp.length cp] w' fun e w'' => e = .returned (.int .i64 (facesF pp)) ∧ w' = w'') := Lib.hid fun w' hb => by
        have h := iFaces_any pp Ap cp w' _ (hg4.up hb)
        rw [facesT_ok hv] at h
        exact h
      have HT3 := Lib.hid ht3
      have HT2 := Lib.hid ht2
      have HGE := Lib.hid hge
      have HGL := Lib.hid hgl
      have HB4 := Lib.hid bl4
      clear hts hv hv2 ht2 ht3 ht4 h0 hg4 r24 bl4 o24 hge hgl
      obtain ⟨bp, op, A0p, c0p, rfl, _, _⟩ := hp4.row0
      obtain ⟨bq, oq, A0q, c0q, rfl, _, _⟩ := hq4.row0
      go_wp2
      go_loopw [5] (fun i wr => ∃ y n : Nat, y ≤ pp.length ∧ i = .int .i64 y ∧ wr = w4.drewN n) (fun i _ => pp.length - (intOf i).toNat)
      case atStart => exact ⟨0, 0, Nat.zero_le _, rfl, rfl⟩
      case round =>
        obtain ⟨y, n, hy, rfl, hwr⟩ := hrel
        have hpr : Pnd wr wr.heap.size (some ⟨bp, op, none⟩) pp := by rw [hwr]; exact hp4.drewN n
        have HW := Lib.hid hwr
        by_cases hlt : y < pp.length
        · clear hwr hpr
          go_wp2
          go_loopw [6] (fun i wr => ∃ x n : Nat, x ≤ wide pp ∧ i = .int .i64 x ∧ wr = w4.drewN n) (fun i _ => wide pp - (intOf i).toNat)
          case atStart => exact ⟨0, n, Nat.zero_le _, rfl, HW.out⟩
          case round =>
            clear HW
            obtain ⟨x, n, hx, rfl, hwr⟩ := hrel
            have hpr : Pnd wr wr.heap.size (some ⟨bp, op, none⟩) pp := by rw [hwr]; exact hp4.drewN n
            have hqr : Pnd wr wr.heap.size (some ⟨bq, oq, none⟩) ts := by rw [hwr]; exact hq4.drewN n
            have HW := Lib.hid hwr
            clear hwr
            obtain ⟨b9, o9, A', c', e9, _, hcy0, _, _⟩ := hpr.rowk hlt
            injection e9 with e9
            injection e9 with e9 e10
            subst e9 e10
            by_cases hxt : x < wide pp
            · obtain ⟨b3, o3, A3', c3', b4', o4', c4', e4, h0', hcy, hcx⟩ := hpr.at_ hxt hlt
              injection e4 with e4
              injection e4 with e4 e5
              subst e4 e5
              obtain ⟨b5, o5, A5, c5, b6, o6, c6, e6, h0q, hqy, hqx⟩ := hqr.at_ (x := x) (y := y) (by rw [HT3.out]; exact hxt) (by rw [HT2.out]; exact hlt)
              injection e6 with e6
              injection e6 with e6 e7
              subst e6 e7
              rw [HT3.out] at hqy
              have hle := HLE.out x y hxt hlt
              have hqlt : y < ts.length := by rw [HT2.out]; exact hlt
              rw [hcy] at hcy0
              clear h0' h0q hpr hqr hcy0
              generalize at2 pp x y = z at *
              generalize at2 ts x y = z2 at *
              generalize hWW : wide pp = W at *
              have HWW := Lib.hid hWW
              clear hWW
              have hnl : ¬ z < z2 := by omega
              go_wp2
              refine wp_region_quiet_lit (by kernel_rfl) (by kernel_rfl) ?_
              repeat (go_big_quiet_step (fail))
              refine wpQuiet_nil ?_
              intro _ hw'
              obtain ⟨nq, hw''⟩ := hw'
              subst hw''
              go_wp2
              go_roundw
              case rel => exact ⟨x + 1, _, by omega, by go_num, by rw [HW.out, drewN_add]⟩
              case measure => simp [intOf]; omega
            · have hxe : x = wide pp := by omega
              clear hpr hqr
              go_wp2
              go_roundw
              case rel => exact ⟨y + 1, n, by omega, by go_num, HW.out⟩
              case measure => simp [intOf]; omega
        · have hye : y = pp.length := by omega
          have hb7 : Hid (Below w4.heap.size w4 wr) := Lib.hid (by rw [hwr]; exact below_drewN (Below.refl _ _) n)
          have HBR : Hid (Below w.heap.size w wr) := Lib.hid (by rw [hwr]; exact below_drewN HB4.out n)
          clear hwr hpr hp4 hq4
          have hge := HGE.out
          have hgl := HGL.out
          clear HGE HGL
          obtain ⟨N, hN⟩ : ∃ N, N = (facesF pp + 9) / 10 := ⟨_, rfl⟩
          have e9 : (facesF pp + 10 - 1).tdiv 10 = N := by
            rw [hN, Int.tdiv_eq_ediv_of_nonneg (by omega)]
            congr 1; omega
          rw [← hN] at hge
          have hn0 : 0 ≤ N := by omega
          have hn1' : N ≤ 1000 := by omega
          clear hN HLE
          generalize facesF pp = FF at *
          generalize cakesF pp = CC at *
          generalize goneF pp = G at *
          have hlost : CC - (CC - (G : Int)) = (G : Int) := by omega
          have hlb : ((CC - (CC - (G : Int))) == (G : Int)) = true := beq_iff_eq.2 hlost
          rcases Int.lt_trichotomy CC N with hlt2 | heq2 | hgt2
          · rw [if_pos hlt2] at hge
            have HGE := Lib.hid hge
            have hN1 : min N CC = CC := by omega
            have hlc : ((G : Int) == CC) = true := beq_iff_eq.2 (by omega)
            clear hlb hge
            go_wp2_with fail
            refine (HC1.out _ hb7.out).mono ?_
            rintro e w' ⟨rfl, rfl⟩
            go_wp2_with fail
            refine (HC2.out _ hb7.out).mono ?_
            rintro e w' ⟨rfl, rfl⟩
            go_wp2_with fail
            refine (HFc.out _ hb7.out).mono ?_
            rintro e w' ⟨rfl, rfl⟩
            go_wp2_with fail
            refine (HC1.out _ hb7.out).mono ?_
            rintro e w' ⟨rfl, rfl⟩
            go_wp2
            go_ret
            exact ⟨rfl, HBR.out⟩
          · rw [if_neg (by omega)] at hge
            subst heq2
            have hlc : ((G : Int) == CC) = true := beq_iff_eq.2 (by omega)
            clear hlb hge
            go_wp2_with fail
            refine (HC1.out _ hb7.out).mono ?_
            rintro e w' ⟨rfl, rfl⟩
            go_wp2_with fail
            refine (HC2.out _ hb7.out).mono ?_
            rintro e w' ⟨rfl, rfl⟩
            go_wp2_with fail
            refine (HFc.out _ hb7.out).mono ?_
            rintro e w' ⟨rfl, rfl⟩
            go_wp2_with fail
            refine (HC1.out _ hb7.out).mono ?_
            rintro e w' ⟨rfl, rfl⟩
            go_wp2
            go_ret
            exact ⟨rfl, HBR.out⟩
          · rw [if_neg (by omega)] at hge
            have hlc : ((G : Int) == N) = true := beq_iff_eq.2 (by omega)
            clear hlb hge
            go_wp2_with fail
            refine (HC1.out _ hb7.out).mono ?_
            rintro e w' ⟨rfl, rfl⟩
            go_wp2_with fail
            refine (HC2.out _ hb7.out).mono ?_
            rintro e w' ⟨rfl, rfl⟩
            go_wp2_with fail
            refine (HFc.out _ hb7.out).mono ?_
            rintro e w' ⟨rfl, rfl⟩
            go_wp2_with fail
            refine (HC1.out _ hb7.out).mono ?_
            rintro e w' ⟨rfl, rfl⟩
            go_wp2
            go_ret
            exact ⟨rfl, HBR.out⟩
  · have hn' : 1048576 < cs.length := by omega
    go_enter Try.func10, Try.ntmps10
    go_wp2
    go_ret
    exact ⟨rfl, Below.refl _ _⟩

set_option maxRecDepth 100000 in
theorem lifted (os : Os) (started : os.Started) (H : Type) (enc : TypeId × Value → H) :
    ReturnsInHanded {} Try.checked os 10 .any (Rows.fnMeltDaySpec.pre6 enc Try.prog Try.f10 Rows.fnMeltDayRow.domain false) (Rows.fnMeltDaySpec.post enc Try.prog Try.f10 false true false false) := by
  refine returnsInHanded_of_change (C := Try.checked) ownNone started (by kernel_rfl) Try.func10
    (ChangeSpec.witness6 (enc := enc) (C := Try.checked) false ⟨#[], #[.slice none 0 0], []⟩ 8 (by kernel_rfl) (by kernel_rfl) (by kernel_rfl) (by kernel_rfl)) ?_
  intro W base args ds gs before hval0 hW hcnd _
  have hval : ∀ (j : Nat) t v, Try.f10.params[j]? = some t → args[j]? = some v → Value.okWide Try.prog W .any base t v := hval0
  have hW' := hW
  obtain ⟨p, q, hA0, hV, rfl, _, _⟩ := hW
  have hA : DataW.TrodAll enc Try.prog W 0 (fun _ => true) true Try.f10.params.toList args.toList ds p := hA0
  rw [Try.params10] at hA hval
  obtain ⟨v0, vs0, d0, ds0, p0, q0, hargs, rfl, rfl, h0, r0⟩ := trodAll_cons hA
  obtain ⟨rfl, rfl, rfl⟩ := trodAll_nil r0
  obtain rfl : args = #[v0] := by cases args; simp_all
  obtain ⟨rfl, rfl⟩ := trodVars_none hV
  obtain ⟨Acs, ccs, cs, rfl, hrcs, hlcs, hqcs⟩ := open_rd Try.underlying22 Try.underlying5 cellsByte (hval 0 22 v0 rfl rfl) h0
  have hbcs := byte_bounds hqcs
  clear hA0 hval0
  refine (walk W cs Acs ccs hrcs hbcs hlcs).mono fun e W' ⟨he, hg⟩ => ?_
  subst he
  exact ⟨_, rfl, law_post laidOut (by kernel_rfl) rfl rfl rfl rfl rfl Try.underlying4 hW' hg⟩

/-- The statement. -/
theorem proved : Rows.FnMeltDaySaid :=
  OpenClaim.holds_of_wide 10 Try.f10 rfl rfl rfl rfl rfl rfl rfl ⟨rfl, rfl, rfl, rfl, rfl⟩ rfl rfl rfl rfl rfl (by kernel_rfl) Try.func10 (by kernel_rfl)
    (of_decide_eq_true (by kernel_rfl)) (by unfold Func.isWrapper; first | (rw [if_pos (by decide +kernel)]; kernel_rfl) | (rw [if_neg (by decide +kernel)]; exact ⟨rfl, rfl⟩))
    (fun os started H enc _ => lifted os started H enc)
#print axioms proved
end fnMeltDay

end Go.Proofs.Ytbnggakfogcalaa

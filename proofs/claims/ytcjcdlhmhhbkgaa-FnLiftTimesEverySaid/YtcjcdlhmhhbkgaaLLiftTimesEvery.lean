/- The law FnLiftTimesEvery: for every code it answers true, and the code reads as it read before. No condition. -/
import Derived.Test.YtcjcdlhmhhbkgaaLLaw
import Derived.Test.YtcjcdlhmhhbkgaaLDrawsB
import Derived.Test.YtcjcdlhmhhbkgaaLaw
namespace Go.Proofs.Ytcjcdlhmhhbkgaa
open Go.RowKit
set_option linter.unusedVariables false
set_option linter.unusedSimpArgs false

namespace fnLiftTimesEvery
open Go.ChangeShapes Go.WideShapes Go.ChangeAt Go.RowKit
set_option maxHeartbeats 800000 in
set_option maxRecDepth 100000 in
set_option maxHeartbeats 8000000 in
theorem walk (w : World) (cs : List Int) (Acs : Option Addr) (ccs : Nat) (hrcs : Rd w w.heap.size Acs (bytes cs)) (hbcs : ∀ z ∈ cs, 0 ≤ z ∧ z ≤ 255) (hlcs : cs.length ≤ ccs ∧ ccs ≤ maxLen) :
    Calls Try.prog 5 #[.slice Acs cs.length ccs] w fun e w' => e = .returned (.bool true) ∧ Below w.heap.size w w' := by
  by_cases hn : cs.length ≤ 1048576
  · go_enter Try.func5, Try.ntmps5
    go_wp2_with fail
    refine (dLiftTimes _ _ _ _ hrcs hbcs hlcs.1 hlcs.2).mono ?_
    rintro e w1 ⟨zs, Azs, czs, a, b, rfl, ⟨hlzs, hrzs, hczs, hmzs⟩, ⟨loa, hia⟩, ⟨lob, hib⟩, b1⟩
    have hn1 : zs.length ≤ 1048576 := by omega
    obtain ⟨ts, hts⟩ : ∃ ts, ts = liftT zs a b := ⟨_, rfl⟩
    have htl : ts.length ≤ 1048576 := by rw [hts]; exact Nat.le_trans (liftT_le _ _ _) (by omega)
    have HTS := Lib.hid hts
    clear hts
    go_wp2_with fail
    refine (iLift_is zs Azs czs w1 hrzs a b HTS.out).mono ?_
    rintro e w2 ⟨A2, c2, rfl, o2, b2⟩
    have hr2 := hrzs.up b2
    go_wp2_with fail
    refine (sLift_is zs Azs czs w2 hr2 hn1 a b HTS.out).mono ?_
    rintro e w3 ⟨A3, c3, rfl, o3, b3⟩
    have hr3 := hr2.up b3
    have r23 := (Rd.own o2).up b3
    have o23 := own_below o2 b3
    have bl3 : Below w.heap.size w w3 := (b1.trans (b2.mono b1.size)).trans (b3.mono (by have := b1.size; have := b2.size; omega))
    go_wp2_with fail
    refine (eqT_b ts A2 A3 c2 c3 w3 w3.heap.size r23 (Rd.own o3) htl).mono ?_
    rintro e w4 ⟨rfl, b4⟩
    have hr4 := hr3.up b4
    have r24 := r23.up b4
    have o24 := own_below o23 b4
    have bl4 := bl3.trans (b4.mono bl3.size)
    clear o2 o3 b1 b2 b3 b4 hrzs hr2 hr3 r23 o23 bl3
    by_cases h0 : ts.length = 0
    · have hz0 : ((ts.length : Int) == 0) = true := beq_iff_eq.2 (by omega)
      clear h0
      go_wp2_with fail
      refine (sLift_is zs Azs czs w4 hr4 hn1 a b HTS.out).mono ?_
      rintro e w5 ⟨A5, c5, rfl, o5, b5⟩
      go_wp2_with fail
      refine (eqT_b ts A2 A5 c2 c5 w5 w5.heap.size (r24.up b5) (Rd.own o5) htl).mono ?_
      rintro e w6 ⟨rfl, b6⟩
      have bl6 := bl4.trans ((b5.trans (b6.mono b5.size)).mono bl4.size)
      clear o5 b5 b6 r24 o24 hr4 bl4
      go_wp2
      go_ret
      exact ⟨rfl, bl6⟩
    · have hz0 : ((ts.length : Int) == 0) = false := beq_eq_false_iff_ne.2 (by omega)
      have hlv := lift_some HTS.out h0
      obtain ⟨hT, hg, m, hbm, hm0, hm8⟩ := lvB_t hlv
      subst hbm
      have e : ts = liftF zs a m := by rw [HTS.out, liftT_ok hlv]
      have hN : ts.length = zs.length := by rw [e, liftF_len]
      have HE := Lib.hid e
      have HT := Lib.hid hT
      clear hlv hT e h0 htl
      generalize hgen : ts.length = N at *
      subst hN
      clear hgen
      have hpos : 0 < zs.length := by
        have := beq_eq_false_iff_ne.1 hz0
        omega
      obtain ⟨g2, rfl, hg2, hgl2, _, _⟩ := own_some o24 hpos
      have HO : Hid (w4.ownsRow w1.heap.size 3 1 (.slice (some ⟨g2, 0, none⟩) zs.length c2) zs.length (ints (liftF zs a m))) := Lib.hid (by rw [← HE.out]; exact o24)
      obtain ⟨i0, hi, hz0', hz1, hz2⟩ := info_parts info_int
      have hz0 := hz0'
      have hl40 := HT.out.len
      clear o24 r24 hz0'
      go_wp2
      go_loopw [7] (fun i wr => ∃ k : Nat, k ≤ m ∧ i = .int .i64 k ∧ Below w4.heap.size w4 wr) (fun i _ => m - (intOf i).toNat)
      case atStart => exact ⟨0, Nat.zero_le _, rfl, Below.refl _ _⟩
      case round =>
        obtain ⟨f, hf, rfl, hbel0⟩ := hrel
        by_cases hlt : f < m
        · have hltN : f < m := hlt
          obtain ⟨w5, hw5⟩ : ∃ w5, w5 = wr := ⟨_, rfl⟩
          have HB0 : Hid (Below w4.heap.size w4 w5) := Lib.hid (by rw [hw5]; exact hbel0)
          have HB1 : Hid (Below w5.heap.size w5 wr) := Lib.hid (by rw [hw5]; exact Below.refl _ _)
          have HW5 := Lib.hid hw5
          clear hw5 hbel0
          go_wp2
          go_loopw [8, 9] (fun v vi wi => EvR (liftF zs a m) w5 m f v vi wi) (fun _ vi _ => zs.length + 9 - (intOf vi).toNat)
          case atStart =>
            rw [HW5.out]
            exact ⟨f, 0, rfl, Lib.hid (by omega), by rw [liftF_len]; omega, Nat.zero_le _, own_empty _ _, (Below.refl _ _).alloc (Nat.le_refl _) _⟩
          case round =>
            clear HW5 HB1
            obtain ⟨i, j, rfl, hij, hib, hjb, hown, hbel⟩ := hrel
            rw [liftF_len] at hib hjb
            have hsz := hbel.size
            have hev := evN_le (L := zs.length) hltN
            by_cases hil : i < zs.length
            · have hcell := (own_below (own_below HO.out HB0.out) hbel)
              have hc := own_cell hcell (ints_el (zs := liftF zs a m) (k := i) (by rw [liftF_len]; exact hil))
              rw [liftF_at hil] at hc
              have HN := Lib.hid (ev_next (zs := liftF zs a m) hltN hij.out (by rw [liftF_len]; exact hil))
              have HN2 : Hid ((evF (liftF zs a m) m f).take (j + 1) = (evF (liftF zs a m) m f).take j ++ [la zs a m i]) := Lib.hid (by rw [HN.out.2.1, liftF_at hil])
              clear hcell
              go_wp2_with (at_builtin; refine wpList_append_own _ rfl _ _ 23 rfl (w5.heap.size) 3 i0 (.int .i64 0) 1 8 Try.underlying23 hi hz0 hz1 hz2 rfl (by decide) _ _ _ rfl (hown.alloc _) ⟨wr.heap.size, 0, none⟩ 1 1 [.int .i64 (la zs a m i)] rfl rfl ?c1 ?c2 ?c3 ?c4 ?c5 ?_)
              first | (case c1 => first | exact one_new _ _ _ _ rfl | exact one_new _ _ _ _ (by simp)) | skip
              case c2 => first | rfl | (intro u hu; simp at hu; subst hu; rfl)
              case c3 => unfold maxLen; omega
              case c4 => omega
              case c5 => have := hbel.size; simp; omega
              · intro v' w6 hown' hgrow _
                have R : w6.ownsRow w5.heap.size 3 1 v' (j + 1) (ints ((evF (liftF zs a m) m f).take (j + 1))) := by rw [HN2.out]; simpa [ints] using hown'
                have hb1 : Below w5.heap.size w5 w6 := (hbel.alloc hbel.size _).grown hgrow (by simp; omega) (own_block hown)
                clear hown' hgrow hown hbel
                go_wp2
                go_roundw
                case rel => exact ⟨i + m, j + 1, by go_num, Lib.hid HN.out.2.2, by rw [liftF_len]; omega, HN.out.1, R, hb1⟩
                case measure => simp [intOf]; omega
            · have hd := ev_done (zs := liftF zs a m) hltN hij.out (by rw [liftF_len]; exact hil) (by rw [liftF_len]; exact hjb)
              rw [liftF_len] at hd
              obtain ⟨A', c', rfl⟩ := own_form hown
              obtain ⟨us, hus⟩ : ∃ us, us = evF (liftF zs a m) m f := ⟨_, rfl⟩
              have huj : j = us.length := by rw [hus, evF_len, liftF_len]; exact hd
              rw [← hus] at hown
              rw [List.take_of_length_le (by omega)] at hown
              have HUS : Hid (us = liftF (evF zs m f) a 1) := Lib.hid (by rw [hus]; exact (every_lift hltN).symm)
              have rus := Rd.own hown
              have HTE := Lib.hid (ev_times HT.out hltN)
              have cE := iEvery_is zs Azs czs wr ((hr4.up HB0.out).up hbel) m f (every_of HT.out ⟨hm0, hm8⟩ hltN)
              obtain ⟨es, hes⟩ : ∃ es, es = evF zs m f := ⟨_, rfl⟩
              rw [← hes] at cE HUS HTE
              have hel := HTE.out.len
              have hul : us.length ≤ 1048576 := by rw [HUS.out, liftF_len]; omega
              clear hus hes hown hd
              subst huj
              go_wp2_with fail
              refine cE.mono ?_
              rintro e w6 ⟨A6, c6, rfl, o6, b6⟩
              have cL : Calls Try.prog 20 #[.slice A6 es.length c6, .int .i64 a, .int .i64 1] w6 (OutI us w6) := iLift_is es A6 c6 w6 (Rd.own o6) a ((1 : Nat) : Int) (by rw [HUS.out]; exact lift_of HTE.out hg (by omega))
              clear cE o6
              go_wp2_with fail
              refine cL.mono ?_
              rintro e w7 ⟨A7, c7, rfl, o7, b7⟩
              clear cL
              go_wp2_with fail
              refine (eqT_b us A7 A' c7 c' w7 w7.heap.size (Rd.own o7) ((rus.up b6).up b7) hul).mono ?_
              rintro e w8 ⟨rfl, b8⟩
              have hb8 := HB0.out.trans ((hbel.trans ((b6.trans ((b7.trans (b8.mono b7.size)).mono b6.size)).mono hbel.size)).mono HB0.out.size)
              clear o7 b6 b7 b8 hbel rus
              go_wp2
              go_roundw
              case rel => exact ⟨f + 1, by omega, by go_num, hb8⟩
              case measure => simp [intOf]; omega
        · obtain rfl : f = m := by omega
          go_wp2
          go_ret
          exact ⟨rfl, bl4.trans (hbel0.mono bl4.size)⟩
  · have hn' : 1048576 < cs.length := by omega
    go_enter Try.func5, Try.ntmps5
    go_wp2
    go_ret
    exact ⟨rfl, Below.refl _ _⟩

set_option maxRecDepth 100000 in
theorem lifted (os : Os) (started : os.Started) (H : Type) (enc : TypeId × Value → H) :
    ReturnsInHanded {} Try.checked os 5 .any (Rows.fnLiftTimesEverySpec.pre6 enc Try.prog Try.f5 Rows.fnLiftTimesEveryRow.domain false) (Rows.fnLiftTimesEverySpec.post enc Try.prog Try.f5 false true false false) := by
  refine returnsInHanded_of_change (C := Try.checked) ownNone started (by kernel_rfl) Try.func5
    (ChangeSpec.witness6 (enc := enc) (C := Try.checked) false ⟨#[], #[.slice none 0 0], []⟩ 8 (by kernel_rfl) (by kernel_rfl) (by kernel_rfl) (by kernel_rfl)) ?_
  intro W base args ds gs before hval0 hW hcnd _
  have hval : ∀ (j : Nat) t v, Try.f5.params[j]? = some t → args[j]? = some v → Value.okWide Try.prog W .any base t v := hval0
  have hW' := hW
  obtain ⟨p, q, hA0, hV, rfl, _, _⟩ := hW
  have hA : DataW.TrodAll enc Try.prog W 0 (fun _ => true) true Try.f5.params.toList args.toList ds p := hA0
  rw [Try.params5] at hA hval
  obtain ⟨v0, vs0, d0, ds0, p0, q0, hargs, rfl, rfl, h0, r0⟩ := trodAll_cons hA
  obtain ⟨rfl, rfl, rfl⟩ := trodAll_nil r0
  obtain rfl : args = #[v0] := by cases args; simp_all
  obtain ⟨rfl, rfl⟩ := trodVars_none hV
  obtain ⟨Acs, ccs, cs, rfl, hrcs, hlcs, hqcs⟩ := open_rd Try.underlying22 Try.underlying5 cellsByte (hval 0 22 v0 rfl rfl) h0
  have hbcs := byte_bounds hqcs
  clear hA0 hval0
  refine (walk W cs Acs ccs hrcs hbcs hlcs).mono fun e W' ⟨he, hg⟩ => ?_
  subst he
  exact ⟨_, rfl, law_post laidOut (by kernel_rfl) rfl rfl rfl rfl rfl Try.underlying4 hW' hg⟩

/-- The statement. -/
theorem proved : Rows.FnLiftTimesEverySaid :=
  OpenClaim.holds_of_wide 5 Try.f5 rfl rfl rfl rfl rfl rfl rfl ⟨rfl, rfl, rfl, rfl, rfl⟩ rfl rfl rfl rfl rfl (by kernel_rfl) Try.func5 (by kernel_rfl)
    (of_decide_eq_true (by kernel_rfl)) (by unfold Func.isWrapper; first | (rw [if_pos (by decide +kernel)]; kernel_rfl) | (rw [if_neg (by decide +kernel)]; exact ⟨rfl, rfl⟩))
    (fun os started H enc _ => lifted os started H enc)
#print axioms proved
end fnLiftTimesEvery

end Go.Proofs.Ytcjcdlhmhhbkgaa

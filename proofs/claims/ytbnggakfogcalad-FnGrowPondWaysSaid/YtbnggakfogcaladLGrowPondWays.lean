/- The law FnGrowPondWays: for every code it answers true, and the code reads as it read before. No condition. -/
import Derived.Test.YtbnggakfogcaladLawM
import Derived.Test.YtbnggakfogcaladHelps
import Derived.Test.YtbnggakfogcaladGMath
import Derived.Test.YtbnggakfogcaladPDraws
import Derived.Test.YtbnggakfogcaladLaw
namespace Go.Proofs.Ytbnggakfogcalad
open Go.RowKit
set_option linter.unusedVariables false
set_option linter.unusedSimpArgs false

namespace fnGrowPondWays
open Go.ChangeShapes Go.WideShapes Go.ChangeAt Go.RowKit
set_option maxRecDepth 100000 in
set_option maxHeartbeats 800000 in
set_option maxRecDepth 100000 in
set_option maxRecDepth 100000 in
set_option maxHeartbeats 8000000 in
theorem walk (w : World) (cs : List Int) (Acs : Option Addr) (ccs : Nat) (hrcs : Rd w w.heap.size Acs (bytes cs)) (hbcs : ∀ z ∈ cs, 0 ≤ z ∧ z ≤ 255) (hlcs : cs.length ≤ ccs ∧ ccs ≤ maxLen) :
    Calls Try.prog 11 #[.slice Acs cs.length ccs] w fun e w' => e = .returned (.bool true) ∧ Below w.heap.size w w' := by
  by_cases hn : cs.length ≤ 1048576
  · go_enter Try.func11, Try.ntmps11
    go_wp2_with fail
    refine (dWayTo _ _ _ _ hrcs hbcs hlcs.1 hlcs.2).mono ?_
    rintro e w1 ⟨pp, Ap, cp, load, f, t, rfl, ⟨hpl, hpc, hcm, hg⟩, hbload, hbf, hbt, b1⟩
    have hn1 : pp.length ≤ 1048576 := by omega
    go_wp2_with fail
    refine (iWay_ans pp Ap cp w1 load f t hg).mono ?_
    rintro e w2 ⟨ts, hts, htl, A2, c2, rfl, o2, b2⟩
    have hg2 := hg.up b2
    go_wp2_with fail
    refine (sWay_ans pp Ap cp w2 load f t hg2 hn1).mono ?_
    rintro e w3 ⟨us, hus, hul, A3, c3, rfl, o3, b3⟩
    obtain rfl : ts = us := WayRel.uniq hts hus
    have HTS := Lib.hid hts
    have hg3 := hg2.up b3
    have r23 := ((Rd.own o2).below b3).more b3.size
    have bl3 : Below w.heap.size w w3 := (b1.trans (b2.mono b1.size)).trans (b3.mono (by have := b1.size; have := b2.size; omega))
    go_wp2_with fail
    refine (eqT_b ts A2 A3 c2 c3 w3 w3.heap.size r23 (Rd.own o3) htl).mono ?_
    rintro e w4 ⟨rfl, b4⟩
    have hg4 := hg3.up b4
    have r24 := (r23.below b4).more b4.size
    have bl4 := bl3.trans (b4.mono bl3.size)
    clear hus hul hts o2 o3 b1 b2 b3 b4 hg hg2 hg3 r23 bl3
    cases hv : pondB pp
    · have HV := Lib.hid hv
      have cV := iVal_is pp Ap cp w4 _ hg4 hv
      clear hv
      go_wp2_with fail
      refine (cV).mono ?_
      rintro e w' ⟨rfl, rfl⟩
      clear cV
      go_wp2_with fail
      refine (sWay_ans pp Ap cp w4 load f t hg4 hn1).mono ?_
      rintro e w5 ⟨us, hus, hul, A5, c5, rfl, o5, b5⟩
      obtain rfl : ts = us := WayRel.uniq HTS.out hus
      go_wp2_with fail
      refine (eqT_b ts A2 A5 c2 c5 w5 w5.heap.size ((r24.below b5).more b5.size) (Rd.own o5) htl).mono ?_
      rintro e w6 ⟨rfl, b6⟩
      have bl6 := bl4.trans ((b5.trans (b6.mono b5.size)).mono bl4.size)
      clear hus o5 b5 b6 r24 hg4 bl4
      go_wp2
      go_ret
      exact ⟨rfl, bl6⟩
    · have HV := Lib.hid hv
      have cV := iVal_is pp Ap cp w4 _ hg4 hv
      clear r24
      go_wp2_with fail
      refine (cV).mono ?_
      rintro e w' ⟨rfl, rfl⟩
      clear cV
      have hga := hg4.up ((Below.refl w4.heap.size w4).alloc (Nat.le_refl _) (.cells #[.int .i64 (-100), .int .i64 (-50)] 3))
      have cG := iGrow_any pp [-100, -50] Ap (some ⟨w4.heap.size, 0, none⟩) cp 2 (w4.alloc (.cells #[.int .i64 (-100), .int .i64 (-50)] 3)) hga (rd_cold w4 3)
      rw [growT_ok hv cold_temps] at cG
      obtain ⟨qq, hqq⟩ : ∃ qq, qq = growF pp [-100, -50] := ⟨_, rfl⟩
      rw [← hqq] at cG
      have HQQ := Lib.hid hqq
      have hvq : pondB qq = true := by rw [hqq]; exact grow_pond hv
      have hcq : cnt qq = cnt pp := by rw [hqq]; exact grow_cnt hv
      have hlq : qq.length = pp.length := by rw [hqq]; exact growF_len pp _
      have HVQ := Lib.hid hvq
      have hcc := pond_cnt hv
      have hbw4 : Below w4.heap.size w4 (w4.alloc (.cells #[.int .i64 (-100), .int .i64 (-50)] 3)) := (Below.refl w4.heap.size w4).alloc (Nat.le_refl _) _
      have bl4a := bl4.trans (hbw4.mono bl4.size)
      have HMON : Hid (∀ i, okF pp load i = true → okF qq load i = true) := Lib.hid (by rw [hqq]; exact grow_ok hv cold_neg)
      have HGR : Hid (∀ x y, GreatR pp f t x → GreatR qq f t y → x ≤ y) := Lib.hid fun x y h1 h2 => by rw [hqq] at h2; exact grow_great hv cold_neg h1 h2
      have HWY : Hid (∀ us, WayRel qq load f t us → 0 < ts.length → 0 < us.length) := Lib.hid fun us h1 h0 => by rw [hqq] at h1; exact grow_way hv cold_neg HTS.out h1 h0
      have hlq2 : qq.length ≤ 1048576 := by omega
      clear hqq hvq hg4 hbw4 hlq
      go_wp2_with fail
      refine cG.mono ?_
      rintro e w5 ⟨A5, c5, xs5, rfl, o5, b5⟩
      have hg5 := hga.up b5
      have hq5 := o5.rd
      have bl5 := bl4a.trans (b5.mono bl4a.size)
      clear cG o5 b5 hga bl4a bl4
      go_wp2_with fail
      refine (iSafe_any pp Ap cp w5 hg5 load).mono ?_
      intro e w6 h6
      obtain ⟨A6, c6, rfl, o6, b6⟩ := safe_out h6 HV.out
      obtain ⟨g6, rfl, hg6a, hg6b, _, _⟩ := own_some o6 (by omega)
      have hg6 := hg5.up b6
      have hq6 := hq5.up b6
      have bl6 := bl5.trans (b6.mono bl5.size)
      clear h6 b6 hg5 hq5 bl5
      go_wp2_with fail
      refine (iSafe_any qq A5 c5 w6 hq6 load).mono ?_
      intro e w7 h7
      obtain ⟨A7, c7, rfl, o7, b7⟩ := safe_out h7 HVQ.out
      rw [hcq] at o7 ⊢
      obtain ⟨g7, rfl, hg7a, hg7b, _, _⟩ := own_some o7 (by omega)
      have hg7 := hg6.up b7
      have hq7 := hq6.up b7
      have bl7 := bl6.trans (b7.mono bl6.size)
      have o67 := own_below o6 b7
      have HCA : Hid (∀ i, i < cnt pp → w7.cell? ⟨g6, i, none⟩ = some (.bool (okF pp load i))) := Lib.hid fun i hi => by
        have := own_cell o67 (bools_at (bs := safeF pp load) (k := i) (by rw [safeF_len]; exact hi))
        rwa [safeF_at] at this
      have HCB : Hid (∀ i, i < cnt pp → w7.cell? ⟨g7, i, none⟩ = some (.bool (okF qq load i))) := Lib.hid fun i hi => by
        have := own_cell o7 (bools_at (bs := safeF qq load) (k := i) (by rw [safeF_len, hcq]; exact hi))
        rwa [safeF_at] at this
      clear h7 b7 hg6 hq6 bl6 o6 o7 o67 hcq hv
      go_wp2
      go_loop [11] (fun i => ∃ k : Nat, k ≤ cnt pp ∧ i = .int .i64 k) (fun i => cnt pp - (intOf i).toNat)
      case atStart => exact ⟨0, Nat.zero_le _, rfl⟩
      case round =>
        obtain ⟨k, hk, rfl⟩ := hrel
        by_cases hlt : k < cnt pp
        · have ha := HCA.out k hlt
          have hb := HCB.out k hlt
          have hm := HMON.out k
          generalize okF pp load k = q at *
          generalize okF qq load k = q2 at *
          cases q
          · clear hm
            go_wp2
            go_round
            case rel => exact ⟨k + 1, by omega, by go_num⟩
            case measure => simp [intOf]; omega
          · obtain rfl : q2 = true := hm rfl
            clear hm
            go_wp2
            go_round
            case rel => exact ⟨k + 1, by omega, by go_num⟩
            case measure => simp [intOf]; omega
        · obtain ⟨N, hN⟩ : ∃ N, N = ts.length := ⟨_, rfl⟩
          go_wp2_with fail
          refine (iGreat_ans qq A5 c5 w7 f t hq7).mono ?_
          rintro e w8 ⟨y, hy, rfl, b8⟩
          have hg8 := hg7.up b8
          have hq8 := hq7.up b8
          have bl8 := bl7.trans (b8.mono bl7.size)
          have HY := Lib.hid hy
          clear hy b8 hg7 hq7 bl7
          go_wp2_with fail
          refine (iGreat_ans pp Ap cp w8 f t hg8).mono ?_
          rintro e w9 ⟨x, hx, rfl, b9⟩
          have hxy := HGR.out x y hx HY.out
          have hq9 := hq8.up b9
          have bl9 := bl8.trans (b9.mono bl8.size)
          clear hx b9 hg8 hq8 bl8
          by_cases h0 : ts.length = 0
          · have hz0 : ((ts.length : Int) == 0) = true := beq_iff_eq.2 (by omega)
            clear h0 hN
            go_wp2
            go_ret
            exact ⟨rfl, bl9⟩
          · have hz0 : ((ts.length : Int) == 0) = false := beq_eq_false_iff_ne.2 (by omega)
            have HP : Hid (0 < ts.length) := Lib.hid (by omega)
            clear h0 hN
            go_wp2_with fail
            refine (iWay_ans qq A5 c5 w9 load f t hq9).mono ?_
            rintro e w10 ⟨us, hus, hul, A10, c10, rfl, o10, b10⟩
            have hpos := HWY.out us hus HP.out
            have bl10 := bl9.trans (b10.mono bl9.size)
            clear hus o10 b10 bl9 hq9
            generalize us.length = m at *
            have hposI : decide ((0 : Int) < (m : Int)) = true := decide_eq_true (by omega)
            go_wp2
            go_ret
            exact ⟨rfl, bl10⟩
  · have hn' : 1048576 < cs.length := by omega
    go_enter Try.func11, Try.ntmps11
    go_wp2
    go_ret
    exact ⟨rfl, Below.refl _ _⟩

set_option maxRecDepth 100000 in
theorem lifted (os : Os) (started : os.Started) (H : Type) (enc : TypeId × Value → H) :
    ReturnsInHanded {} Try.checked os 11 .any (Rows.fnGrowPondWaysSpec.pre6 enc Try.prog Try.f11 Rows.fnGrowPondWaysRow.domain false) (Rows.fnGrowPondWaysSpec.post enc Try.prog Try.f11 false true false false) := by
  refine returnsInHanded_of_change (C := Try.checked) ownNone started (by kernel_rfl) Try.func11
    (ChangeSpec.witness6 (enc := enc) (C := Try.checked) false ⟨#[], #[.slice none 0 0], []⟩ 8 (by kernel_rfl) (by kernel_rfl) (by kernel_rfl) (by kernel_rfl)) ?_
  intro W base args ds gs before hval0 hW hcnd _
  have hval : ∀ (j : Nat) t v, Try.f11.params[j]? = some t → args[j]? = some v → Value.okWide Try.prog W .any base t v := hval0
  have hW' := hW
  obtain ⟨p, q, hA0, hV, rfl, _, _⟩ := hW
  have hA : DataW.TrodAll enc Try.prog W 0 (fun _ => true) true Try.f11.params.toList args.toList ds p := hA0
  rw [Try.params11] at hA hval
  obtain ⟨v0, vs0, d0, ds0, p0, q0, hargs, rfl, rfl, h0, r0⟩ := trodAll_cons hA
  obtain ⟨rfl, rfl, rfl⟩ := trodAll_nil r0
  obtain rfl : args = #[v0] := by cases args; simp_all
  obtain ⟨rfl, rfl⟩ := trodVars_none hV
  obtain ⟨Acs, ccs, cs, rfl, hrcs, hlcs, hqcs⟩ := open_rd Try.underlying22 Try.underlying5 cellsByte (hval 0 22 v0 rfl rfl) h0
  have hbcs := byte_bounds hqcs
  clear hA0 hval0
  refine (walk W cs Acs ccs hrcs hbcs hlcs).mono fun e W' ⟨he, hg⟩ => ?_
  subst he
  exact ⟨_, rfl, law_post laidOut (by kernel_rfl) rfl rfl rfl rfl rfl Try.underlying4 hW' hg⟩

/-- The statement. -/
theorem proved : Rows.FnGrowPondWaysSaid :=
  OpenClaim.holds_of_wide 11 Try.f11 rfl rfl rfl rfl rfl rfl rfl ⟨rfl, rfl, rfl, rfl, rfl⟩ rfl rfl rfl rfl rfl (by kernel_rfl) Try.func11 (by kernel_rfl)
    (of_decide_eq_true (by kernel_rfl)) (by unfold Func.isWrapper; first | (rw [if_pos (by decide +kernel)]; kernel_rfl) | (rw [if_neg (by decide +kernel)]; exact ⟨rfl, rfl⟩))
    (fun os started H enc _ => lifted os started H enc)
#print axioms proved
end fnGrowPondWays

end Go.Proofs.Ytbnggakfogcalad

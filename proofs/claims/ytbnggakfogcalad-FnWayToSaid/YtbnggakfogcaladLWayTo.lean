/- The law FnWayTo: for every code it answers true, and the code reads as it read before. No condition. -/
import Derived.Test.YtbnggakfogcaladLawM
import Derived.Test.YtbnggakfogcaladHelps
import Derived.Test.YtbnggakfogcaladWayL
import Derived.Test.YtbnggakfogcaladPDraws
import Derived.Test.YtbnggakfogcaladLaw
namespace Go.Proofs.Ytbnggakfogcalad
open Go.RowKit
set_option linter.unusedVariables false
set_option linter.unusedSimpArgs false

namespace fnWayTo
open Go.ChangeShapes Go.WideShapes Go.ChangeAt Go.RowKit
set_option maxRecDepth 100000 in
set_option maxHeartbeats 800000 in
set_option maxRecDepth 100000 in
set_option maxRecDepth 100000 in
set_option maxHeartbeats 8000000 in
theorem walk (w : World) (cs : List Int) (Acs : Option Addr) (ccs : Nat) (hrcs : Rd w w.heap.size Acs (bytes cs)) (hbcs : ∀ z ∈ cs, 0 ≤ z ∧ z ≤ 255) (hlcs : cs.length ≤ ccs ∧ ccs ≤ maxLen) :
    Calls Try.prog 8 #[.slice Acs cs.length ccs] w fun e w' => e = .returned (.bool true) ∧ Below w.heap.size w w' := by
  by_cases hn : cs.length ≤ 1048576
  · go_enter Try.func8, Try.ntmps8
    go_wp2_with fail
    refine (dWayTo _ _ _ _ hrcs hbcs hlcs.1 hlcs.2).mono ?_
    rintro e w1 ⟨pp, Ap, cp, load, f, t, rfl, ⟨hpl, hpc, hcm, hg⟩, hbload, hbf, hbt, b1⟩
    have hn1 : pp.length ≤ 1048576 := by omega
    go_wp2_with fail
    refine (iWay_ans pp Ap cp w1 load f t hg).mono ?_
    rintro e w2 ⟨ts, hts, htl, A2, c2, rfl, o2, b2⟩
    have hg2 := (hg.below b2).more b2.size
    go_wp2_with fail
    refine (sWay_ans pp Ap cp w2 load f t hg2 hn1).mono ?_
    rintro e w3 ⟨us, hus, hul, A3, c3, rfl, o3, b3⟩
    obtain rfl : ts = us := WayRel.uniq hts hus
    have HTS := Lib.hid hts
    have hg3 := (hg2.below b3).more b3.size
    have r23 := ((Rd.own o2).below b3).more b3.size
    have o23 := own_below o2 b3
    have bl3 : Below w.heap.size w w3 := (b1.trans (b2.mono b1.size)).trans (b3.mono (by have := b1.size; have := b2.size; omega))
    go_wp2_with fail
    refine (equalInts_same ts A2 A3 c2 c3 w3 w3.heap.size r23 (Rd.own o3) htl).mono ?_
    rintro e w' ⟨rfl, n4, rfl⟩
    have hg4 : RdG (w3.drewN n4) (w3.drewN n4).heap.size Ap pp := hg3.drewN n4
    have bl4 : Below w.heap.size w (w3.drewN n4) := below_drewN bl3 n4
    have r24 : Rd (w3.drewN n4) (w3.drewN n4).heap.size A2 (ints ts) := r23
    have o24 : (w3.drewN n4).ownsRow w1.heap.size 3 1 (.slice A2 ts.length c2) ts.length (ints ts) := o23
    clear hus hul hts o2 o3 b1 b2 b3 hg hg2 r23 o23
    by_cases h0 : ts.length = 0
    · have hz0 : ((ts.length : Int) == 0) = true := beq_iff_eq.2 (by omega)
      clear h0
      go_wp2_with fail
      refine (sWay_ans pp Ap cp (w3.drewN n4) load f t hg4 hn1).mono ?_
      rintro e w5 ⟨us, hus, hul, A5, c5, rfl, o5, b5⟩
      obtain rfl : ts = us := WayRel.uniq HTS.out hus
      go_wp2_with fail
      refine (equalInts_same ts A2 A5 c2 c5 w5 w5.heap.size ((r24.below b5).more b5.size) (Rd.own o5) htl).mono ?_
      rintro e w' ⟨rfl, n6, rfl⟩
      have bl5 := below_drewN (bl4.trans (b5.mono bl4.size)) n6
      clear hus o5 b5
      go_wp2
      go_ret
      exact ⟨rfl, bl5⟩
    · have hz0 : ((ts.length : Int) == 0) = false := beq_eq_false_iff_ne.2 (by omega)
      have hts0 : 0 < ts.length := by omega
      obtain ⟨a, b, rfl, rfl, ha, hb, hv⟩ := way_some HTS.out hts0
      obtain ⟨rs, S, hF⟩ := way_facts HTS.out hv ha hb hts0
      have HF := Lib.hid hF
      have HV := Lib.hid hv
      have hcc := pond_cnt hv
      have hl := pond_len hv
      have hwd := pond_wide hv
      have hp4 : Pnd (w3.drewN n4) (w3.drewN n4).heap.size Ap pp := ⟨hv, hg4⟩
      obtain ⟨g2, rfl, hg2a, hg2b, hcap1, hcap2⟩ := own_some o24 hts0
      obtain ⟨bp, op, A0p, c0p, hAp, hbp, h0p⟩ := hp4.row0
      subst hAp
      clear hF r24 h0
      go_wp2_with fail
      refine (iSafe_any pp _ cp (w3.drewN n4) hg4 load).mono ?_
      intro e w5 h5
      obtain ⟨A5, c5, rfl, o5, b5⟩ := safe_out h5 HV.out
      obtain ⟨g5, rfl, hg5a, hg5b, _, _⟩ := own_some o5 (by omega)
      have hp5 := hp4.up b5
      have o25 := own_below o24 b5
      have bl5 := bl4.trans (b5.mono bl4.size)
      have HB5 := Lib.hid bl5
      have HCT : Hid (∀ k z, ts[k]? = some z → w5.cell? ⟨g2, k, none⟩ = some (.int .i64 z)) := Lib.hid fun k z hk => own_cell o25 (by rw [ints, List.getElem?_map, hk]; rfl)
      have HCS : Hid (∀ k, k < cnt pp → w5.cell? ⟨g5, k, none⟩ = some (.bool (okF pp load k))) := Lib.hid fun k hk => by
        have := own_cell o5 (bools_at (bs := safeF pp load) (k := k) (by rw [safeF_len]; exact hk))
        rw [safeF_at] at this
        exact this
      have hrt := Rd.own o25
      have hs0 : (.int .i64 0 : Value) = .int .i64 (S 0) := by rw [HF.out.zero]
      clear h5 o24 o25 o5 hg3 hg4 bl3 bl4 b5 hp4 hv h0p bl5
      rw [hs0]
      go_wp2
      go_loopw [9, 11] (fun sv i wr => ∃ k n : Nat, k ≤ ts.length ∧ sv = .int .i64 (S k) ∧ i = .int .i64 k ∧ wr = w5.drewN n) (fun _ i _ => ts.length - (intOf i).toNat)
      case atStart => exact ⟨0, 0, Nat.zero_le _, rfl, rfl, rfl⟩
      case round =>
        clear hs0
        obtain ⟨k, n, hk, rfl, rfl, hwr⟩ := hrel
        have hw5 : ∀ p, wr.cell? p = w5.cell? p := fun p => by rw [hwr]; rfl
        have hpr : Pnd wr wr.heap.size (some ⟨bp, op, none⟩) pp := by rw [hwr]; exact hp5.drewN n
        have hrr : Rd wr wr.heap.size (some ⟨g2, 0, none⟩) (ints ts) := by rw [hwr]; exact hrt.drewN n
        have HW := Lib.hid hwr
        by_cases hlt : k < ts.length
        · obtain ⟨c, hc, hcc2, hok, hS, hS0, hS1, hne, hpre⟩ := HF.out.at_ k hlt
          have hck := (hw5 _).trans (HCT.out k _ hc)
          have hcs := (hw5 _).trans (HCS.out c hcc2)
          rw [hok] at hcs
          obtain ⟨b', o', A0', c0', b1, o1, c1, he, h00, hcy, hcx⟩ := hpr.cell_ hcc2
          cases he
          have hz := thk_bd HV.out hcc2
          rw [rkF_eq HV.out hcc2, show thk pp c + 1 = 1 + thk pp c by omega] at hS
          have HNE := Lib.hid hne
          have hyc := row_y hcc2
          have hxc := Nat.mod_lt c (show 0 < wide pp by omega)
          have HPRE : Hid (0 < k → ∃ (d : Nat) (k1 : Nat), wr.cell? ⟨g2, k1, none⟩ = some (.int .i64 d) ∧ d < cnt pp ∧ d ∈ nbP pp c ∧ (k : Int) - 1 = (k1 : Int) ∧ k1 < ts.length) := Lib.hid fun h => by
            obtain ⟨d, h1, h2, h3⟩ := hpre h
            exact ⟨d, k - 1, (hw5 _).trans (HCT.out _ _ h1), h2, h3, by omega, by omega⟩
          have HNB : Hid (nbP pp = nbs (wide pp) (cnt pp)) := Lib.hid rfl
          clear hw5 hwr hc hok hne hpre hpr h00
          generalize hSk : S k = s at *
          generalize hSk1 : S (k + 1) = s1 at *
          have HS1 := Lib.hid hSk1
          clear hSk hSk1
          generalize thk pp c = z at *
          generalize hWW : wide pp = W at *
          have HWW := Lib.hid hWW
          clear hWW
          obtain ⟨q, hq⟩ : ∃ q, q = (200 : Int) / (1 + z) := ⟨_, rfl⟩
          have q0 : 0 ≤ q := by rw [hq]; exact Int.ediv_nonneg (by omega) (by omega)
          have q1 : q ≤ 200 := by rw [hq]; exact Int.ediv_le_self _ (by omega)
          have hq2 : (200 : Int) / (1 + z) = q := hq.symm
          rw [hq2] at hS
          have hq3 : Int.tdiv 200 (1 + z) = q := by rw [Int.tdiv_eq_ediv_of_nonneg (by omega)]; exact hq2
          have e1 : IntKind.i64.wrap (s + 1) = s + 1 := IntWalk.i64_in _ (by omega)
          have e2 : IntKind.i64.wrap (1 + z) = 1 + z := IntWalk.i64_in _ (by omega)
          have e3 : s + 1 + q = s1 := by omega
          have e4 : IntKind.i64.wrap q = q := IntWalk.i64_in _ (by omega)
          have e5 : IntKind.i64.wrap s1 = s1 := IntWalk.i64_in _ (by omega)
          have d3 : (1 + z == 0) = false := beq_eq_false_iff_ne.2 (by omega)
          have d4 : ¬ 1 + z = 0 := by omega
          have i0 : 0 < pp.length := by omega
          have i1 : ((W : Int) == 0) = false := beq_eq_false_iff_ne.2 (by omega)
          have i2 : ¬ W = 0 := by omega
          have j1 : 0 ≤ (c : Int) / (W : Int) := Int.ediv_nonneg (by omega) (by omega)
          have j2 : (c : Int) / (W : Int) < pp.length := by omega
          have j3 : 0 ≤ (c : Int) % (W : Int) := Int.emod_nonneg _ (by omega)
          have j4 : (c : Int) % (W : Int) < W := Int.emod_lt_of_pos _ (by omega)
          have j5 : IntKind.i64.wrap ((c : Int) / (W : Int)) = (c : Int) / (W : Int) := IntWalk.i64_in _ (by omega)
          have l1 : (k : Int) ≤ (ts.length : Int) := by omega
          have l2 : (ts.length : Int) ≤ (c2 : Int) := by omega
          have l3 : ¬ c2 = k := by omega
          have l4 : k ≤ c2 := by omega
          clear hq hS hS0 hS1 hz
          by_cases hk0 : k = 0
          · as_aux_lemma =>
            have hk1 : ¬ (0 : Int) < (k : Int) := by omega
            have hk2 : decide ((0 : Int) < (k : Int)) = false := decide_eq_false hk1
            have hk3 : decide (0 < k) = false := decide_eq_false (by omega)
            clear HPRE hk0 hk1
            go_wp2
            refine wp_region_quiet_lit (by kernel_rfl) (by kernel_rfl) ?_
            repeat (go_big_quiet_step (fail))
            refine wpQuiet_nil ?_
            intro _ hw'
            obtain ⟨nq, hw''⟩ := hw'
            subst hw''
            have hcs2 : (wr.drewN nq).cell? ⟨g5, c, none⟩ = some (.bool true) := hcs
            go_wp2_with fail
            refine (isIn_no ts k (by omega) _ _ _ wr.heap.size (hrr.drewN _) (c : Int) htl HNE).mono ?_
            rintro e w' ⟨rfl, rfl⟩
            go_wp2
            go_roundw
            case rel => exact ⟨k + 1, _, by omega, by rw [HS1.out], by go_num, by first | (rw [HW.out, drewN_add]; done) | (rw [HW.out, drewN_add, drewN_add]; done) | (rw [HW.out, drewN_add, drewN_add, drewN_add]; done) | (rw [HW.out, drewN_add, drewN_add, drewN_add, drewN_add]; done) | exact HW.out⟩
            case measure => simp [intOf]; omega
          · as_aux_lemma =>
            have hk1 : (0 : Int) < (k : Int) := by omega
            have hk2 : decide ((0 : Int) < (k : Int)) = true := decide_eq_true hk1
            obtain ⟨d, k1, hdk, hdc, hdn, hkk, hkl⟩ := HPRE.out (by omega)
            rw [HNB.out] at hdn
            have hsq := step_sq (show 0 < W by omega) hdn
            rw [Int.natCast_emod, Int.natCast_emod, Int.natCast_ediv, Int.natCast_ediv] at hsq
            clear hdn HPRE
            have k5 : IntKind.i64.wrap (k1 : Int) = (k1 : Int) := IntWalk.i64_in _ (by omega)
            have k6 : IntKind.i64.wrap ((d : Int) / (W : Int)) = (d : Int) / (W : Int) := IntWalk.i64_in _ (by have h1 := Int.ediv_nonneg (show (0 : Int) ≤ d by omega) (show (0 : Int) ≤ W by omega); have h2 := Int.ediv_le_self (a := (d : Int)) (W : Int) (by omega); omega)
            obtain ⟨X, hX⟩ : ∃ X, (d : Int) % (W : Int) - (c : Int) % (W : Int) = X := ⟨_, rfl⟩
            obtain ⟨Y, hY⟩ : ∃ Y, (d : Int) / (W : Int) - (c : Int) / (W : Int) = Y := ⟨_, rfl⟩
            rw [hX, hY] at hsq
            have x1 : IntKind.i64.wrap X = X := IntWalk.i64_in _ (by have h1 := Int.emod_nonneg (d : Int) (show (W : Int) ≠ 0 by omega); have h2 := Int.emod_lt_of_pos (d : Int) (show (0 : Int) < W by omega); omega)
            have y1 : IntKind.i64.wrap Y = Y := IntWalk.i64_in _ (by have h1 := Int.ediv_nonneg (show (0 : Int) ≤ d by omega) (show (0 : Int) ≤ W by omega); have h2 := Int.ediv_le_self (a := (d : Int)) (W : Int) (by omega); have h3 := Int.ediv_le_self (a := (c : Int)) (W : Int) (by omega); omega)
            have xx := sq_nonneg X
            have yy := sq_nonneg Y
            obtain ⟨p, hp⟩ : ∃ p, X * X = p := ⟨_, rfl⟩
            obtain ⟨r, hr⟩ : ∃ r, Y * Y = r := ⟨_, rfl⟩
            rw [hp] at hsq xx
            rw [hr] at hsq yy
            have x2 : IntKind.i64.wrap p = p := IntWalk.i64_in _ (by omega)
            have y2 : IntKind.i64.wrap r = r := IntWalk.i64_in _ (by omega)
            go_wp2
            refine wp_region_quiet_lit (by kernel_rfl) (by kernel_rfl) ?_
            repeat (go_big_quiet_step (fail))
            refine wpQuiet_nil ?_
            intro _ hw'
            obtain ⟨nq, hw''⟩ := hw'
            subst hw''
            have hcs2 : (wr.drewN nq).cell? ⟨g5, c, none⟩ = some (.bool true) := hcs
            have hdk2 : (wr.drewN nq).cell? ⟨g2, k1, none⟩ = some (.int .i64 d) := hdk
            go_wp2_with fail
            refine (isIn_no ts k (by omega) _ _ _ wr.heap.size (hrr.drewN _) (c : Int) htl HNE).mono ?_
            rintro e w' ⟨rfl, rfl⟩
            go_wp2
            refine wp_region_quiet_lit (by kernel_rfl) (by kernel_rfl) ?_
            repeat (go_big_quiet_step (fail))
            refine wpQuiet_nil ?_
            intro _ hw'
            obtain ⟨nq, hw''⟩ := hw'
            subst hw''
            go_wp2
            refine wp_region_quiet_lit (by kernel_rfl) (by kernel_rfl) ?_
            repeat (go_big_quiet_step (fail))
            refine wpQuiet_nil ?_
            intro _ hw'
            obtain ⟨nq, hw''⟩ := hw'
            subst hw''
            go_wp2
            go_roundw
            case rel => exact ⟨k + 1, _, by omega, by rw [HS1.out], by go_num, by first | (rw [HW.out, drewN_add]; done) | (rw [HW.out, drewN_add, drewN_add]; done) | (rw [HW.out, drewN_add, drewN_add, drewN_add]; done) | (rw [HW.out, drewN_add, drewN_add, drewN_add, drewN_add]; done) | exact HW.out⟩
            case measure => simp [intOf]; omega
        · obtain rfl : k = ts.length := by omega
          have hst := HF.out.all
          have hc0 := (hw5 _).trans (HCT.out 0 _ HF.out.fst)
          have hcl := (hw5 _).trans (HCT.out _ _ HF.out.lst)
          obtain ⟨k1, hk1⟩ : ∃ k1, k1 = ts.length - 1 := ⟨_, rfl⟩
          rw [← hk1] at hcl
          have hkk : (ts.length : Int) - 1 = (k1 : Int) := by omega
          have hkl : k1 < ts.length := by omega
          have k5 : IntKind.i64.wrap (k1 : Int) = (k1 : Int) := IntWalk.i64_in _ (by omega)
          have hbr : Below w.heap.size w wr := by rw [hwr]; exact below_drewN HB5.out n
          clear hw5 hwr hk1 HW
          generalize S ts.length = s at *
          have HST := Lib.hid hst
          clear hst hrr
          go_wp2_with fail
          refine (iRisk_ans pp _ cp _ load _ hpr.2).mono ?_
          intro e w6 h6
          obtain ⟨rs6, A6, c6, hr6, rfl, o6, b6⟩ := risk_out h6 HV.out ha
          obtain ⟨g6, rfl, _, _, _, _⟩ := own_some o6 (by omega)
          have hcell := own_cell o6 (ints_at' (zs := rs6) (k := b) (by rw [hr6.len]; exact hb))
          obtain rfl : rs = rs6 := HF.out.risk.uniq (rkF_ge pp) hr6
          rw [← HST.out] at hcell
          have bl6 := hbr.trans (b6.mono hbr.size)
          clear h6 hr6 o6 b6 hbr hpr
          go_wp2
          go_ret
          exact ⟨rfl, bl6⟩
  · have hn' : 1048576 < cs.length := by omega
    go_enter Try.func8, Try.ntmps8
    go_wp2
    go_ret
    exact ⟨rfl, Below.refl _ _⟩

set_option maxRecDepth 100000 in
theorem lifted (os : Os) (started : os.Started) (H : Type) (enc : TypeId × Value → H) :
    ReturnsInHanded {} Try.checked os 8 .any (Rows.fnWayToSpec.pre6 enc Try.prog Try.f8 Rows.fnWayToRow.domain false) (Rows.fnWayToSpec.post enc Try.prog Try.f8 false true false false) := by
  refine returnsInHanded_of_change (C := Try.checked) ownNone started (by kernel_rfl) Try.func8
    (ChangeSpec.witness6 (enc := enc) (C := Try.checked) false ⟨#[], #[.slice none 0 0], []⟩ 8 (by kernel_rfl) (by kernel_rfl) (by kernel_rfl) (by kernel_rfl)) ?_
  intro W base args ds gs before hval0 hW hcnd _
  have hval : ∀ (j : Nat) t v, Try.f8.params[j]? = some t → args[j]? = some v → Value.okWide Try.prog W .any base t v := hval0
  have hW' := hW
  obtain ⟨p, q, hA0, hV, rfl, _, _⟩ := hW
  have hA : DataW.TrodAll enc Try.prog W 0 (fun _ => true) true Try.f8.params.toList args.toList ds p := hA0
  rw [Try.params8] at hA hval
  obtain ⟨v0, vs0, d0, ds0, p0, q0, hargs, rfl, rfl, h0, r0⟩ := trodAll_cons hA
  obtain ⟨rfl, rfl, rfl⟩ := trodAll_nil r0
  obtain rfl : args = #[v0] := by cases args; simp_all
  obtain ⟨rfl, rfl⟩ := trodVars_none hV
  obtain ⟨Acs, ccs, cs, rfl, hrcs, hlcs, hqcs⟩ := open_rd Try.underlying22 Try.underlying5 cellsByte (hval 0 22 v0 rfl rfl) h0
  have hbcs := byte_bounds hqcs
  clear hA0 hval0
  refine (walk W cs Acs ccs hrcs hbcs hlcs).mono fun e W' ⟨he, hg⟩ => ?_
  subst he
  exact ⟨_, rfl, law_post laidOut (by kernel_rfl) rfl rfl rfl rfl rfl Try.underlying4 hW' hg⟩

/-- The statement. -/
theorem proved : Rows.FnWayToSaid :=
  OpenClaim.holds_of_wide 8 Try.f8 rfl rfl rfl rfl rfl rfl rfl ⟨rfl, rfl, rfl, rfl, rfl⟩ rfl rfl rfl rfl rfl (by kernel_rfl) Try.func8 (by kernel_rfl)
    (of_decide_eq_true (by kernel_rfl)) (by unfold Func.isWrapper; first | (rw [if_pos (by decide +kernel)]; kernel_rfl) | (rw [if_neg (by decide +kernel)]; exact ⟨rfl, rfl⟩))
    (fun os started H enc _ => lifted os started H enc)
#print axioms proved
end fnWayTo

end Go.Proofs.Ytbnggakfogcalad

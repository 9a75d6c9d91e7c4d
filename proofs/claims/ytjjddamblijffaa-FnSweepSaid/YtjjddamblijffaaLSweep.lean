/- The law FnSweep: for every code it answers true, and the code reads as it read before. No condition. -/
import Derived.Test.YtjjddamblijffaaKLaw
import Derived.Test.YtjjddamblijffaaKHelp
import Derived.Test.YtjjddamblijffaaKLawE
import Derived.Test.YtjjddamblijffaaKLawD
import Derived.Test.YtjjddamblijffaaLaw
namespace Go.Proofs.Ytjjddamblijffaa
open Go.RowKit
set_option linter.unusedVariables false
set_option linter.unusedSimpArgs false

namespace fnSweep
open Go.ChangeShapes Go.WideShapes Go.ChangeAt Go.RowKit
set_option maxRecDepth 100000 in
set_option maxHeartbeats 800000 in
set_option maxRecDepth 100000 in
set_option maxRecDepth 100000 in
set_option maxHeartbeats 8000000 in
theorem walk (w : World) (cs : List Int) (Acs : Option Addr) (ccs : Nat) (hrcs : Rd w w.heap.size Acs (bytes cs)) (hbcs : ∀ z ∈ cs, 0 ≤ z ∧ z ≤ 255) (hlcs : cs.length ≤ ccs ∧ ccs ≤ maxLen) :
    Calls Try.prog 11 #[.slice Acs cs.length ccs] w fun e w' => e = .returned (.bool true) ∧ Below w.heap.size w w' := by
  by_cases hn : cs.length ≤ 1048576
  · go_enter Try.func11, Try.ntmps11
    go_wp2_with fail
    refine (dSweep _ _ _ _ hrcs hbcs hlcs.1 hlcs.2).mono ?_
    rintro e w1 ⟨ks, Ak, ck, rfl, ⟨hkl, hkc, hkm, hrk⟩, b1⟩
    obtain ⟨n, hn0⟩ : ∃ n, ks.length = n := ⟨_, rfl⟩
    rw [hn0] at hkl hkc ⊢
    have HL := Lib.hid hn0
    clear hn0
    have hn1 : n ≤ maxLen := by unfold maxLen; omega
    have HSM : Hid (∀ w, Rd w w.heap.size Ak (custV ks) → Calls Try.prog 40 #[.slice Ak n ck] w (OutI (swT ks) w)) := Lib.hid fun w hr => sSweep_any n ks HL.out Ak ck hn1 w hr
    have HIM : Hid (∀ w, Rd w w.heap.size Ak (custV ks) → Calls Try.prog 29 #[.slice Ak n ck] w (OutI (swT ks) w)) := Lib.hid fun w hr => iSweep_any n ks HL.out Ak ck hn1 w hr
    obtain ⟨ts, hts⟩ : ∃ ts, ts = swT ks := ⟨_, rfl⟩
    have htl8 : ts.length ≤ 8 := by rw [hts]; exact swT_le _
    have htl : ts.length ≤ 1048576 := by omega
    have HTS := Lib.hid hts
    clear hts
    rw [← HTS.out] at HIM HSM
    go_wp2_with fail
    refine (HIM.out w1 hrk).mono ?_
    rintro e w2 ⟨AT, cT, rfl, oT2, b2⟩
    have z2 := b2.size
    have bl2 : Below w1.heap.size w1 w2 := (Below.refl w1.heap.size w1).trans (b2.mono (Nat.le_refl _))
    have HIT := Lib.hid (owz_in oT2)
    clear b2
    go_wp2_with fail
    refine (HSM.out w2 ((hrk.below bl2).more bl2.size)).mono ?_
    rintro e w3 ⟨AS, cS, rfl, oS3, b3⟩
    have z3 := b3.size
    have bl3 : Below w1.heap.size w1 w3 := bl2.trans (b3.mono bl2.size)
    have oT3 := owz_below oT2 b3
    have HIS := Lib.hid (owz_in oS3)
    clear oT2 bl2 b3
    go_wp2_with fail
    refine (eqT_k ts _ _ _ _ w3 w3.heap.size (Rd.ownz oT3) (Rd.ownz oS3) htl).mono ?_
    rintro e w4 ⟨rfl, b4⟩
    have z4 := b4.size
    have bl4 : Below w1.heap.size w1 w4 := bl3.trans (b4.mono bl3.size)
    have oT4 := owz_below oT3 b4
    have oS4 := owz_below oS3 b4
    clear oT3 oS3 bl3 b4
    clear oS4
    by_cases h0 : ts.length = 0
    · have hlb : ((ts.length : Int) == 0) = true := beq_iff_eq.2 (by omega)
      clear h0
      go_wp2_with fail
      refine (HSM.out w4 ((hrk.below bl4).more bl4.size)).mono ?_
      rintro e w5 ⟨AS2, cS2, rfl, oS5, b5⟩
      have z5 := b5.size
      have bl5 : Below w1.heap.size w1 w5 := bl4.trans (b5.mono bl4.size)
      have oT5 := owz_below oT4 b5
      have HIS := Lib.hid (owz_in oS5)
      clear oT4 bl4 b5
      go_wp2_with fail
      refine (eqT_k ts _ _ _ _ w5 w5.heap.size (Rd.ownz oT5) (Rd.ownz oS5) htl).mono ?_
      rintro e w6 ⟨rfl, b6⟩
      have z6 := b6.size
      have bl6 : Below w1.heap.size w1 w6 := bl5.trans (b6.mono bl5.size)
      have oT6 := owz_below oT5 b6
      have oS6 := owz_below oS5 b6
      clear oT5 oS5 bl5 b6
      go_wp2
      go_ret
      exact ⟨rfl, b1.trans (bl6.mono b1.size)⟩
    · have h0i : ((ts.length : Int) == 0) = false := beq_eq_false_iff_ne.2 (by omega)
      have h0n : ¬ (ts.length : Int) = 0 := by omega
      have hvc := swT_pos (cs := ks) (by rw [← HTS.out]; omega)
      have htt : ts = nats (ordS ks n) := by rw [HTS.out, swT_ok hvc, HL.out]
      have hln : ts.length = n := by rw [htt, ordS_len]
      have hwo : ordB n ts = true := by rw [htt]; exact ordS_ord ks n
      have hps : pick ks ts = swS ks := by rw [htt]; unfold swS; rw [HL.out]
      have hn0 : 0 < n := by omega
      have hV := allV_sw hvc HL.out
      have HAT : Hid (∀ p, p < n → ∃ j : Nat, j < n ∧ ts[p]? = some (j : Int) ∧ cuA ks j = cuA (swS ks) p) := Lib.hid fun p hp => by
        obtain ⟨j, hj⟩ : ∃ j, (ordS ks n)[p]? = some j := ⟨_, List.getElem?_eq_getElem (by rw [(ordS_ok ks n).len]; exact hp)⟩
        exact ⟨j, ((ordS_ok ks n).of p j hj).1, by rw [htt, nats, List.getElem?_map, hj]; rfl, (swS_at (by rw [HL.out]; exact hj)).symm⟩
      have HUP := Lib.hid (swS_srt ks)
      have HSL : Hid ((swS ks).length = n) := Lib.hid (by rw [swS_len, HL.out])
      have HLT := Lib.hid hln
      rw [hln] at h0i h0n oT4 ⊢
      have hrr := ((hrk.below bl4).more bl4.size)
      have hrt := Rd.ownz oT4
      have HBL := Lib.hid bl4
      -- the way along the street
      obtain ⟨L, hL⟩ : ∃ L, L = (cuA (swS ks) 0).1 := ⟨_, rfl⟩
      obtain ⟨G, hG⟩ : ∃ G, G = (cuA (swS ks) (n - 1)).1 := ⟨_, rfl⟩
      have hLb := (hV 0 hn0).1
      have hGb := (hV (n - 1) (by omega)).1
      have hLG := HUP.out.up 0 (n - 1) (Nat.zero_le _) (by rw [HSL.out]; omega)
      rw [← hL] at hLb hLG
      rw [← hG] at hGb hLG
      have hrn : rndB ks L ts = true := by unfold rndB; rw [hvc, inB_mk hLb, HL.out, hwo]; rfl
      have hEND : endT L (swS ks) = G - L := by rw [endT_sorted HUP.out HSL.out hn0, ← hL, ← hG, dst_self]; omega
      have HVT : Hid (visT ks L ts = tmL L 0 (pick ks ts)) := Lib.hid (visT_ok hrn)
      have HTM : Hid ((tmL L 0 (pick ks ts))[n - 1]? = some (G - L)) := Lib.hid (by
        rw [tm_at (by omega), show n - 1 + 1 = n by omega, show ts.take n = ts by rw [← hln, List.take_length], hps, hEND])
      have HSR : Hid (srT ks L = G - L) := Lib.hid (by
        rw [srT_ok hvc (inB_mk hLb), srF_ends (by rw [HL.out]; exact hn0), HL.out, ← hL, ← hG, dst_self]
        have := dst_ge L G
        rw [if_neg (by omega)]
        omega)
      obtain ⟨hL1, hL2⟩ := hLb
      obtain ⟨hG1, hG2⟩ := hGb
      have HLH := Lib.hid hL
      have HGH := Lib.hid hG
      clear hvc htt hwo hps hV h0 oT4 bl4 htl htl8 HSM HIM hrn hEND hL hG hln
      obtain ⟨wz, hwz⟩ : ∃ wz, wz = w4 := ⟨_, rfl⟩
      rw [← hwz] at hrr hrt HBL ⊢
      clear hwz
      go_wp2
      go_loopw [5] (fun i wr => ∃ k : Nat, 1 ≤ k ∧ k ≤ n ∧ i = .int .i64 k ∧ ∃ nd, wr = wz.drewN nd) (fun i _ => n - (intOf i).toNat)
      case atStart => exact ⟨1, Nat.le_refl _, by omega, rfl, 0, rfl⟩
      case round =>
        obtain ⟨k, hk1, hk, rfl, nd, hwd⟩ := hrel
        have hrw : Rd wr wr.heap.size Ak (custV ks) := by rw [hwd]; exact hrr.drewN nd
        have htw : Rd wr wr.heap.size AT (ints ts) := by rw [hwd]; exact hrt.drewN nd
        have HWD := Lib.hid hwd
        clear hwd
        by_cases hlt : k < n
        · obtain ⟨kp, hkp⟩ : ∃ kp, kp = k - 1 := ⟨_, rfl⟩
          have e1 : (k : Int) - 1 = (kp : Int) := by omega
          have hkpn : kp < n := by omega
          obtain ⟨j1, hj1, ht1, hc1⟩ := HAT.out k hlt
          obtain ⟨j0, hj0, ht0, hc0⟩ := HAT.out kp hkpn
          have hup := HUP.out.up kp k (by omega) (by rw [HSL.out]; exact hlt)
          rw [← hc1, ← hc0] at hup
          obtain ⟨b4, off4, hA4, hb4, hcy⟩ := htw.at_ (k := k) (x := .int .i64 (j1 : Int)) (by rw [ints, List.getElem?_map, ht1]; rfl)
          obtain ⟨b5, off5, hA5, hb5, hcz⟩ := htw.at_ (k := kp) (x := .int .i64 (j0 : Int)) (by rw [ints, List.getElem?_map, ht0]; rfl)
          obtain ⟨bb, off, x, d, v, hAk, hbb, hzc, q0, q1, q2⟩ := hrw.cust_ (k := j1) (by rw [HL.out]; exact hj1)
          obtain ⟨bb2, off2, x2, d2, v2, hAk2, hbb2, hzc2, r0, r1, r2⟩ := hrw.cust_ (k := j0) (by rw [HL.out]; exact hj0)
          rw [hzc.out, hzc2.out] at hup
          simp only at hup
          subst hA4 hAk
          injection hA5 with hA5
          injection hA5 with g1 g2
          subst g1 g2
          injection hAk2 with hAk2
          injection hAk2 with g1 g2
          subst g1 g2
          have hng : ¬ x < x2 := by omega
          have hw1 : IntKind.i64.wrap (kp : Int) = (kp : Int) := IntWalk.i64_in _ (by omega)
          have HKP := Lib.hid hkp
          clear hzc hzc2 hc1 hc0 ht1 ht0 hkp hrw htw
          go_wp2
          refine wp_region_quiet_lit (by kernel_rfl) (by kernel_rfl) ?_
          repeat (go_big_quiet_step (fail))
          refine wpQuiet_nil ?_
          intro _ hw'
          obtain ⟨nq, hw''⟩ := hw'
          subst hw''
          have HDD : Hid (∃ q, wr.drewN nq = wz.drewN q) := Lib.hid ⟨nd + nq, by rw [HWD.out, drewN_add]⟩
          go_wp2
          go_roundw
          case rel => exact ⟨k + 1, by omega, by omega, by go_num, HDD.out⟩
          case measure => simp [intOf]; omega
        · have hkn : n = k := by omega
          subst hkn
          have hbw : Below w1.heap.size w1 wr := by rw [HWD.out]; exact below_drewN HBL.out nd
          obtain ⟨j0, hj0, ht0, hc0⟩ := HAT.out 0 hn0
          obtain ⟨l1, hl1⟩ : ∃ l1, l1 = n - 1 := ⟨_, rfl⟩
          rw [← hl1] at HTM HGH
          have e1 : (n : Int) - 1 = (l1 : Int) := by omega
          have hl1b : l1 < n := by omega
          obtain ⟨j1, hj1, ht1, hc1⟩ := HAT.out l1 hl1b
          obtain ⟨b4, off4, hA4, hb4, hcy⟩ := htw.at_ (k := 0) (x := .int .i64 (j0 : Int)) (by rw [ints, List.getElem?_map, ht0]; rfl)
          obtain ⟨b5, off5, hA5, hb5, hcz⟩ := htw.at_ (k := l1) (x := .int .i64 (j1 : Int)) (by rw [ints, List.getElem?_map, ht1]; rfl)
          obtain ⟨bb, off, x, d, v, hAk, hbb, hzc, q0, q1, q2⟩ := hrw.cust_ (k := j0) (by rw [HL.out]; exact hj0)
          obtain ⟨bb2, off2, x2, d2, v2, hAk2, hbb2, hzc2, r0, r1, r2⟩ := hrw.cust_ (k := j1) (by rw [HL.out]; exact hj1)
          obtain rfl : x = L := by rw [HLH.out, ← hc0, hzc.out]
          obtain rfl : x2 = G := by rw [HGH.out, ← hc1, hzc2.out]
          have cV := iVis_any n n ks HL.out Ak ck hn1 ts HLT.out (by omega) AT cT wr hrw htw x
          rw [HVT.out] at cV
          have CV := Lib.hid cV
          have CS := Lib.hid (fun w hr => iShort_any n ks HL.out Ak ck hn1 w hr x)
          rw [HSR.out] at CS
          have HRW := Lib.hid hrw
          have HBW := Lib.hid hbw
          subst hA4 hAk
          injection hA5 with hA5
          injection hA5 with g1 g2
          subst g1 g2
          injection hAk2 with hAk2
          injection hAk2 with g1 g2
          subst g1 g2
          have k2 := q0
          clear cV hrw hbw hzc hzc2 hc0 hc1 ht0 ht1 q1 q2 r1 r2
          simp only [Nat.add_zero] at hcy
          go_wp2_with fail
          refine CV.out.mono ?_
          rintro e w8 ⟨A8, c8, rfl, o8, b8⟩
          rw [tmL_len, pick_len, HLT.out] at o8 ⊢
          obtain ⟨g8, rfl, _, _, _, _⟩ := own_some o8 hn0
          have k8 := own_cell o8 (k := l1) (x := .int .i64 (x2 - x)) (by rw [ints, List.getElem?_map, HTM.out]; rfl)
          have hb8 := HBW.out.trans (b8.mono HBW.out.size)
          have m1 := (b8.cell hb5).trans hcz
          have m2 := (b8.cell hbb2).trans r0
          have hr8 := (HRW.out.below b8).more b8.size
          have u1 := cell_regrown k8
          have u2 := cell_regrown m1
          have u3 := cell_regrown m2
          have HB8 := Lib.hid hb8
          have cq : ∀ dd oo, Calls Try.prog 22 #[.slice (some ⟨bb, off, none⟩) n ck, .int .i64 x] (Go.Sort.grow (redrawn w8 dd) oo) fun e w'' => e = .returned (.int .i64 (x2 - x)) ∧ ∃ p : Regrown, w'' = Go.Sort.grow (redrawn w8 p.d) p.os := fun dd oo => Calls.regrown_of (CS.out _ ((hr8.below (below_regrown w8 dd oo)).more (below_regrown w8 dd oo).size))
          have hw1 : IntKind.i64.wrap (l1 : Int) = (l1 : Int) := IntWalk.i64_in _ (by omega)
          have hw2 : IntKind.i64.wrap (x2 - x) = x2 - x := IntWalk.i64_in _ (by omega)
          have HL1 := Lib.hid hl1
          clear o8 b8 hb8 hr8 k8 m1 m2 hcz r0 hcy q0 k2 hl1 htw
          go_wp2
          refine wp_region_quiet_below (by kernel_rfl) (by kernel_rfl) ?_
          repeat (go_big_quiet_step (first | exact cq _ _))
          refine wpQuiet_nil ?_
          intro w9 hw'
          have HBw9 : Below w8.heap.size w8 w9 := by obtain ⟨⟨dq, osq⟩, hq⟩ := hw'; rw [hq]; exact below_regrown _ _ _
          clear hw'
          have HB9 := Lib.hid (HB8.out.trans (HBw9.mono HB8.out.size))
          clear HBw9 cq u1 u2 u3
          go_wp2
          go_ret
          exact ⟨rfl, b1.trans (HB9.out.mono b1.size)⟩
  · have hn' : 1048576 < cs.length := by omega
    go_enter Try.func11, Try.ntmps11
    go_wp2
    go_ret
    exact ⟨rfl, Below.refl _ _⟩

set_option maxRecDepth 100000 in
theorem lifted (os : Os) (started : os.Started) (H : Type) (enc : TypeId × Value → H) :
    ReturnsInHanded {} Try.checked os 11 .any (Rows.fnSweepSpec.pre6 enc Try.prog Try.f11 Rows.fnSweepRow.domain false) (Rows.fnSweepSpec.post enc Try.prog Try.f11 false true false false) := by
  refine returnsInHanded_of_change (C := Try.checked) ownNone started (by kernel_rfl) Try.func11
    (ChangeSpec.witness6 (enc := enc) (C := Try.checked) false ⟨#[], #[.slice none 0 0], []⟩ 8 (by kernel_rfl) (by kernel_rfl) (by kernel_rfl) (by kernel_rfl)) ?_
  intro W base args ds gs before hval0 hW hcnd _
  have hval : ∀ (j : Nat) t v, Try.f11.params[j]? = some t → args[j]? = some v → Value.okWide Try.prog W .any base t v := hval0
  have hW' := hW
  obtain ⟨p, q, hA0, hV, rfl, _, _⟩ := hW
  have hA : DataW.TrodAll enc Try.prog W 0 (fun _ => true) true Try.f11.params.toList args.toList ds p := hA0
  rw [Try.params11] at hA hval
  obtain ⟨v0, vs0, d0, ds0, p0, q0, hargs, rfl, rfl, h0, r0⟩ := trodAll_cons hA
  obtain ⟨rfl, rfl, rfl⟩ := trodAll_nil r0
  obtain rfl : args = #[v0] := by cases args; simp_all
  obtain ⟨rfl, rfl⟩ := trodVars_none hV
  obtain ⟨Acs, ccs, cs, rfl, hrcs, hlcs, hqcs⟩ := open_rd Try.underlying22 Try.underlying5 cellsByte (hval 0 22 v0 rfl rfl) h0
  have hbcs := byte_bounds hqcs
  clear hA0 hval0
  refine (walk W cs Acs ccs hrcs hbcs hlcs).mono fun e W' ⟨he, hg⟩ => ?_
  subst he
  exact ⟨_, rfl, law_post laidOut (by kernel_rfl) rfl rfl rfl rfl rfl Try.underlying4 hW' hg⟩

/-- The statement. -/
theorem proved : Rows.FnSweepSaid :=
  OpenClaim.holds_of_wide 11 Try.f11 rfl rfl rfl rfl rfl rfl rfl ⟨rfl, rfl, rfl, rfl, rfl⟩ rfl rfl rfl rfl rfl (by kernel_rfl) Try.func11 (by kernel_rfl)
    (of_decide_eq_true (by kernel_rfl)) (by unfold Func.isWrapper; first | (rw [if_pos (by decide +kernel)]; kernel_rfl) | (rw [if_neg (by decide +kernel)]; exact ⟨rfl, rfl⟩))
    (fun os started H enc _ => lifted os started H enc)
#print axioms proved
end fnSweep

end Go.Proofs.Ytjjddamblijffaa

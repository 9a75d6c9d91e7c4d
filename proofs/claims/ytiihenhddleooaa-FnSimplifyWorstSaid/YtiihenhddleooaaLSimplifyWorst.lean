/- The law FnSimplifyWorst: for every code it answers true, and the code reads as it read before. No condition. -/
import Derived.Test.YtiihenhddleooaaTLawS
import Derived.Test.YtiihenhddleooaaTLawD
import Derived.Test.YtiihenhddleooaaLaw
namespace Go.Proofs.Ytiihenhddleooaa
open Go.RowKit
set_option linter.unusedVariables false
set_option linter.unusedSimpArgs false

namespace fnSimplifyWorst
open Go.ChangeShapes Go.WideShapes Go.ChangeAt Go.RowKit
set_option maxRecDepth 100000 in
set_option maxHeartbeats 800000 in
set_option maxRecDepth 100000 in
set_option maxRecDepth 100000 in
set_option maxHeartbeats 8000000 in
theorem walk (w : World) (cs : List Int) (Acs : Option Addr) (ccs : Nat) (hrcs : Rd w w.heap.size Acs (bytes cs)) (hbcs : ∀ z ∈ cs, 0 ≤ z ∧ z ≤ 255) (hlcs : cs.length ≤ ccs ∧ ccs ≤ maxLen) :
    Calls Try.prog 14 #[.slice Acs cs.length ccs] w fun e w' => e = .returned (.bool true) ∧ Below w.heap.size w w' := by
  by_cases hn : cs.length ≤ 1048576
  · go_enter Try.func14, Try.ntmps14
    go_wp2_with fail
    refine (dSimplify _ _ _ _ hrcs hbcs hlcs.1 hlcs.2).mono ?_
    rintro e w1 ⟨ks, Ak, ck, rfl, ⟨hkl, hkc, hkm, hrk⟩, b1⟩
    obtain ⟨n, hn0⟩ : ∃ n, ks.length = n := ⟨_, rfl⟩
    rw [hn0] at hkl hkc ⊢
    have HL := Lib.hid hn0
    clear hn0
    have hn1 : n ≤ maxLen := by unfold maxLen; omega
    obtain ⟨ts, hts⟩ : ∃ ts, ts = simT ks := ⟨_, rfl⟩
    have htl : ts.length ≤ 1048576 := by rw [hts]; exact Nat.le_trans (simT_le _) (by omega)
    have HTS := Lib.hid hts
    clear hts
    have HI : Hid (∀ w, Rd w w.heap.size Ak (custV ks) → Calls Try.prog 47 #[.slice Ak n ck] w (OutT 54 ts w)) := Lib.hid fun w hr => by rw [HTS.out]; exact iSim_any n ks HL.out Ak ck hn1 w hr
    have HS : Hid (∀ w, Rd w w.heap.size Ak (custV ks) → Calls Try.prog 49 #[.slice Ak n ck] w (OutT 54 ts w)) := Lib.hid fun w hr => by rw [HTS.out]; exact sSim_any n ks HL.out Ak ck hn1 w hr
    go_wp2_with fail
    refine (HI.out w1 hrk).mono ?_
    rintro e w2 ⟨AG, cG, rfl, oG2, b2⟩
    have z2 := b2.size
    have bl2 : Below w1.heap.size w1 w2 := (Below.refl w1.heap.size w1).trans (b2.mono (Nat.le_refl _))
    have HIG := Lib.hid (owz_in oG2)
    clear b2
    go_wp2_with fail
    refine (HS.out w2 ((hrk.below bl2).more bl2.size)).mono ?_
    rintro e w3 ⟨AS, cS, rfl, oS3, b3⟩
    have z3 := b3.size
    have bl3 : Below w1.heap.size w1 w3 := bl2.trans (b3.mono bl2.size)
    have oG3 := owz_below oG2 b3
    have HIS := Lib.hid (owz_in oS3)
    clear oG2 bl2 b3
    go_wp2_with fail
    refine (eqCl_k _ ts rfl _ _ _ _ w3 w3.heap.size (Rd.ownz oG3) (Rd.ownz oS3) htl).mono ?_
    rintro e w4 ⟨rfl, b4⟩
    have z4 := b4.size
    have bl4 : Below w1.heap.size w1 w4 := bl3.trans (b4.mono bl3.size)
    have oG4 := owz_below oG3 b4
    have oS4 := owz_below oS3 b4
    clear oG3 oS3 bl3 b4
    clear oS4
    have HV : Hid (∀ w, Rd w w.heap.size Ak (custV ks) → Calls Try.prog 38 #[.slice Ak n ck] w fun e w' => e = .returned (.bool (okV clV ks)) ∧ Below w.heap.size w w') := Lib.hid fun w hr => iVCl_any n ks HL.out Ak ck hn1 w hr
    have htl2 : ts.length ≤ 1000 := by rw [HTS.out]; exact simT_le _
    cases hv : okV clV ks
    · rw [hv] at HV
      go_wp2_with fail
      refine (HV.out w4 ((hrk.below bl4).more bl4.size)).mono ?_
      rintro e w5 ⟨rfl, b5⟩
      have z5 := b5.size
      have bl5 : Below w1.heap.size w1 w5 := bl4.trans (b5.mono bl4.size)
      have oG5 := owz_below oG4 b5
      clear oG4 bl4 b5
      go_wp2_with fail
      refine (HS.out w5 ((hrk.below bl5).more bl5.size)).mono ?_
      rintro e w6 ⟨AS2, cS2, rfl, oS6, b6⟩
      have z6 := b6.size
      have bl6 : Below w1.heap.size w1 w6 := bl5.trans (b6.mono bl5.size)
      have oG6 := owz_below oG5 b6
      have HIS := Lib.hid (owz_in oS6)
      clear oG5 bl5 b6
      go_wp2_with fail
      refine (eqCl_k _ ts rfl _ _ _ _ w6 w6.heap.size (Rd.ownz oG6) (Rd.ownz oS6) htl).mono ?_
      rintro e w7 ⟨rfl, b7⟩
      have z7 := b7.size
      have bl7 : Below w1.heap.size w1 w7 := bl6.trans (b7.mono bl6.size)
      have oG7 := owz_below oG6 b7
      have oS7 := owz_below oS6 b7
      clear oG6 oS6 bl6 b7
      go_wp2
      go_ret
      exact ⟨rfl, b1.trans (bl7.mono b1.size)⟩
    · rw [hv] at HV
      go_wp2_with fail
      refine (HV.out w4 ((hrk.below bl4).more bl4.size)).mono ?_
      rintro e w5 ⟨rfl, b5⟩
      have z5 := b5.size
      have bl5 : Below w1.heap.size w1 w5 := bl4.trans (b5.mono bl4.size)
      have oG5 := owz_below oG4 b5
      clear oG4 bl4 b5
      have HPA : Hid (∀ w, Rd w w.heap.size Ak (custV ks) → Calls Try.prog 50 #[.slice Ak n ck] w fun e w' => e = .returned (.bool (payB (payN ks) 1000)) ∧ Below w.heap.size w w') := Lib.hid fun w hr => payable_any n ks HL.out Ak ck hv w hr
      by_cases h20 : 20 < ts.length
      · obtain ⟨l, hl⟩ : ∃ l, l = ts.length := ⟨_, rfl⟩
        have h20i : (20 : Int) < (ts.length : Int) := by omega
        clear hl
        go_wp2_with fail
        refine (HS.out w5 ((hrk.below bl5).more bl5.size)).mono ?_
        rintro e w6 ⟨AS2, cS2, rfl, oS6, b6⟩
        have z6 := b6.size
        have bl6 : Below w1.heap.size w1 w6 := bl5.trans (b6.mono bl5.size)
        have oG6 := owz_below oG5 b6
        have HIS := Lib.hid (owz_in oS6)
        clear oG5 bl5 b6
        go_wp2_with fail
        refine (eqCl_k _ ts rfl _ _ _ _ w6 w6.heap.size (Rd.ownz oG6) (Rd.ownz oS6) htl).mono ?_
        rintro e w7 ⟨rfl, b7⟩
        have z7 := b7.size
        have bl7 : Below w1.heap.size w1 w7 := bl6.trans (b7.mono bl6.size)
        have oG7 := owz_below oG6 b7
        have oS7 := owz_below oS6 b7
        clear oG6 oS6 bl6 b7
        go_wp2
        go_ret
        exact ⟨rfl, b1.trans (bl7.mono b1.size)⟩
      · have h20i : ¬ (20 : Int) < (ts.length : Int) := by omega
        cases hp : payB (payN ks) 1000
        · rw [hp] at HPA
          go_wp2_with fail
          refine (HPA.out w5 ((hrk.below bl5).more bl5.size)).mono ?_
          rintro e w6 ⟨rfl, b6⟩
          have z6 := b6.size
          have bl6 : Below w1.heap.size w1 w6 := bl5.trans (b6.mono bl5.size)
          have oG6 := owz_below oG5 b6
          clear oG5 bl5 b6
          go_wp2_with fail
          refine (HS.out w6 ((hrk.below bl6).more bl6.size)).mono ?_
          rintro e w7 ⟨AS2, cS2, rfl, oS7, b7⟩
          have z7 := b7.size
          have bl7 : Below w1.heap.size w1 w7 := bl6.trans (b7.mono bl6.size)
          have oG7 := owz_below oG6 b7
          have HIS := Lib.hid (owz_in oS7)
          clear oG6 bl6 b7
          go_wp2_with fail
          refine (eqCl_k _ ts rfl _ _ _ _ w7 w7.heap.size (Rd.ownz oG7) (Rd.ownz oS7) htl).mono ?_
          rintro e w8 ⟨rfl, b8⟩
          have z8 := b8.size
          have bl8 : Below w1.heap.size w1 w8 := bl7.trans (b8.mono bl7.size)
          have oG8 := owz_below oG7 b8
          have oS8 := owz_below oS7 b8
          clear oG7 oS7 bl7 b8
          go_wp2
          go_ret
          exact ⟨rfl, b1.trans (bl8.mono b1.size)⟩
        · rw [hp] at HPA
          have HW : Hid (worP ts = worP ks ∧ worT ts = worT ks) := Lib.hid (by rw [HTS.out]; exact worP_sim hv hp (by rw [← HTS.out]; omega))
          go_wp2_with fail
          refine (HPA.out w5 ((hrk.below bl5).more bl5.size)).mono ?_
          rintro e w6 ⟨rfl, b6⟩
          have z6 := b6.size
          have bl6 : Below w1.heap.size w1 w6 := bl5.trans (b6.mono bl5.size)
          have oG6 := owz_below oG5 b6
          clear oG5 bl5 b6
          go_wp2_with fail
          refine (iWor_any n ks HL.out Ak ck hn1 w6 ((hrk.below bl6).more bl6.size)).mono ?_
          rintro e w7 ⟨rfl, b7⟩
          have z7 := b7.size
          have bl7 : Below w1.heap.size w1 w7 := bl6.trans (b7.mono bl6.size)
          have oG7 := owz_below oG6 b7
          clear oG6 bl6 b7
          go_wp2_with fail
          refine (iWor_any _ ts rfl AG cG (by unfold maxLen; omega) w7 (Rd.ownz oG7)).mono ?_
          rintro e w8 ⟨rfl, b8⟩
          have z8 := b8.size
          have bl8 : Below w1.heap.size w1 w8 := bl7.trans (b8.mono bl7.size)
          have oG8 := owz_below oG7 b8
          clear oG7 bl7 b8
          rw [HW.out.1, HW.out.2]
          generalize worP ks = P at *
          generalize worT ks = T at *
          go_wp2
          go_ret
          exact ⟨rfl, b1.trans (bl8.mono b1.size)⟩
  · have hn' : 1048576 < cs.length := by omega
    go_enter Try.func14, Try.ntmps14
    go_wp2
    go_ret
    exact ⟨rfl, Below.refl _ _⟩

set_option maxRecDepth 100000 in
theorem lifted (os : Os) (started : os.Started) (H : Type) (enc : TypeId × Value → H) :
    ReturnsInHanded {} Try.checked os 14 .any (Rows.fnSimplifyWorstSpec.pre6 enc Try.prog Try.f14 Rows.fnSimplifyWorstRow.domain false) (Rows.fnSimplifyWorstSpec.post enc Try.prog Try.f14 false true false false) := by
  refine returnsInHanded_of_change (C := Try.checked) ownNone started (by kernel_rfl) Try.func14
    (ChangeSpec.witness6 (enc := enc) (C := Try.checked) false ⟨#[], #[.slice none 0 0], []⟩ 8 (by kernel_rfl) (by kernel_rfl) (by kernel_rfl) (by kernel_rfl)) ?_
  intro W base args ds gs before hval0 hW hcnd _
  have hval : ∀ (j : Nat) t v, Try.f14.params[j]? = some t → args[j]? = some v → Value.okWide Try.prog W .any base t v := hval0
  have hW' := hW
  obtain ⟨p, q, hA0, hV, rfl, _, _⟩ := hW
  have hA : DataW.TrodAll enc Try.prog W 0 (fun _ => true) true Try.f14.params.toList args.toList ds p := hA0
  rw [Try.params14] at hA hval
  obtain ⟨v0, vs0, d0, ds0, p0, q0, hargs, rfl, rfl, h0, r0⟩ := trodAll_cons hA
  obtain ⟨rfl, rfl, rfl⟩ := trodAll_nil r0
  obtain rfl : args = #[v0] := by cases args; simp_all
  obtain ⟨rfl, rfl⟩ := trodVars_none hV
  obtain ⟨Acs, ccs, cs, rfl, hrcs, hlcs, hqcs⟩ := open_rd Try.underlying22 Try.underlying5 cellsByte (hval 0 22 v0 rfl rfl) h0
  have hbcs := byte_bounds hqcs
  clear hA0 hval0
  refine (walk W cs Acs ccs hrcs hbcs hlcs).mono fun e W' ⟨he, hg⟩ => ?_
  subst he
  exact ⟨_, rfl, law_post laidOut (by kernel_rfl) rfl rfl rfl rfl rfl Try.underlying4 hW' hg⟩

/-- The statement. -/
theorem proved : Rows.FnSimplifyWorstSaid :=
  OpenClaim.holds_of_wide 14 Try.f14 rfl rfl rfl rfl rfl rfl rfl ⟨rfl, rfl, rfl, rfl, rfl⟩ rfl rfl rfl rfl rfl (by kernel_rfl) Try.func14 (by kernel_rfl)
    (of_decide_eq_true (by kernel_rfl)) (by unfold Func.isWrapper; first | (rw [if_pos (by decide +kernel)]; kernel_rfl) | (rw [if_neg (by decide +kernel)]; exact ⟨rfl, rfl⟩))
    (fun os started H enc _ => lifted os started H enc)
#print axioms proved
end fnSimplifyWorst

end Go.Proofs.Ytiihenhddleooaa

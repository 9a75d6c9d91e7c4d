/- The law FnShortestRound: for every code it answers true, and the code reads as it read before. No condition. -/
import Derived.Test.YtjjddamblijffaaKLaw
import Derived.Test.YtjjddamblijffaaKHelp
import Derived.Test.YtjjddamblijffaaKLawE
import Derived.Test.YtjjddamblijffaaKLawD
import Derived.Test.YtjjddamblijffaaLaw
namespace Go.Proofs.Ytjjddamblijffaa
open Go.RowKit
set_option linter.unusedVariables false
set_option linter.unusedSimpArgs false

namespace fnShortestRound
open Go.ChangeShapes Go.WideShapes Go.ChangeAt Go.RowKit
set_option maxRecDepth 100000 in
set_option maxHeartbeats 800000 in
set_option maxRecDepth 100000 in
set_option maxRecDepth 100000 in
set_option maxHeartbeats 8000000 in
theorem walk (w : World) (cs : List Int) (Acs : Option Addr) (ccs : Nat) (hrcs : Rd w w.heap.size Acs (bytes cs)) (hbcs : ∀ z ∈ cs, 0 ≤ z ∧ z ≤ 255) (hlcs : cs.length ≤ ccs ∧ ccs ≤ maxLen) :
    Calls Try.prog 12 #[.slice Acs cs.length ccs] w fun e w' => e = .returned (.bool true) ∧ Below w.heap.size w w' := by
  by_cases hn : cs.length ≤ 1048576
  · go_enter Try.func12, Try.ntmps12
    go_wp2_with fail
    refine (dShortestRound _ _ _ _ hrcs hbcs hlcs.1 hlcs.2).mono ?_
    rintro e w1 ⟨ks, Ak, ck, st, rfl, ⟨hkl, hkc, hkm, hrk⟩, hst, b1⟩
    obtain ⟨n, hn0⟩ : ∃ n, ks.length = n := ⟨_, rfl⟩
    rw [hn0] at hkl hkc ⊢
    have HL := Lib.hid hn0
    clear hn0
    have hn1 : n ≤ maxLen := by unfold maxLen; omega
    go_wp2_with fail
    refine (iShort_any n ks HL.out Ak ck hn1 w1 hrk st).mono ?_
    rintro e w2 ⟨rfl, b2⟩
    have z2 := b2.size
    have bl2 : Below w1.heap.size w1 w2 := (Below.refl w1.heap.size w1).trans (b2.mono (Nat.le_refl _))
    clear b2
    go_wp2_with fail
    refine (sShort_any n ks HL.out Ak ck hn1 w2 ((hrk.below bl2).more bl2.size) st).mono ?_
    rintro e w3 ⟨rfl, b3⟩
    have z3 := b3.size
    have bl3 : Below w1.heap.size w1 w3 := bl2.trans (b3.mono bl2.size)
    clear bl2 b3
    cases hv : (vcB ks && inB st (-100) 100)
    · have e0 : srT ks st = -1 := by unfold srT; rw [hv]; rfl
      have HS := Lib.hid (fun w hr => sShort_any n ks HL.out Ak ck hn1 w hr st)
      rw [e0] at HS ⊢
      clear e0 hv
      go_wp2_with fail
      refine (HS.out w3 ((hrk.below bl3).more bl3.size)).mono ?_
      rintro e w4 ⟨rfl, b4⟩
      have z4 := b4.size
      have bl4 : Below w1.heap.size w1 w4 := bl3.trans (b4.mono bl3.size)
      clear bl3 b4
      go_wp2
      go_ret
      exact ⟨rfl, b1.trans (bl4.mono b1.size)⟩
    · have e0 : srT ks st = srF ks st := by unfold srT; rw [hv]; rfl
      rw [e0]
      have hv2 := hv
      rw [Bool.and_eq_true] at hv2
      obtain ⟨hvc, hin⟩ := hv2
      obtain ⟨s1, s2⟩ := inB_t hin
      by_cases h0 : n = 0
      · have e1 : srF ks st = 0 := by unfold srF; rw [HL.out, h0]; unfold imn; simp [loF, hiF]
        have h0i : ((n : Int) == 0) = true := beq_iff_eq.2 (by omega)
        rw [e1]
        clear e0 e1 hv hvc hin h0
        go_wp2
        go_ret
        exact ⟨rfl, b1.trans (bl3.mono b1.size)⟩
      · have h0i : ((n : Int) == 0) = false := beq_eq_false_iff_ne.2 (by omega)
        have h0n : ¬ (n : Int) = 0 := by omega
        have HMS := Lib.hid (min_short (ks := ks) (st := st) HL.out (by omega))
        obtain ⟨sw, hsw⟩ : ∃ sw, sw = nats (ordS ks n) := ⟨_, rfl⟩
        have hwl : sw.length = n := by rw [hsw, ordS_len]
        have hwo : ordB n sw = true := by rw [hsw]; exact ordS_ord ks n
        have HWL := Lib.hid hwl
        have HW := Lib.hid (fun w hr => iSweep_any n ks HL.out Ak ck hn1 w hr)
        rw [show swT ks = sw by rw [swT_ok hvc, HL.out, hsw]] at HW
        have hr1 : rndB ks st sw = true := by unfold rndB; rw [hv, HL.out, hwo]; rfl
        have hr2 : rndB ks st sw.reverse = true := by unfold rndB; rw [hv, HL.out, ordB_rev hwo]; rfl
        have HVT : Hid (visT ks st sw = tmL st 0 (pick ks sw)) := Lib.hid (visT_ok hr1)
        have HVR : Hid (visT ks st sw.reverse = tmL st 0 (pick ks sw.reverse)) := Lib.hid (visT_ok hr2)
        have hps : pick ks sw = swS ks := by rw [hsw]; unfold swS; rw [HL.out]
        have hlast : ∀ os : List Int, os.length = n → (tmL st 0 (pick ks os))[n - 1]? = some (endT st (pick ks os)) := fun os ho => by
          rw [tm_at (by omega), show n - 1 + 1 = n by omega, show os.take n = os by rw [← ho, List.take_length]]
        have HC1 := Lib.hid (hlast sw hwl)
        have HC2 := Lib.hid (hlast sw.reverse (by rw [List.length_reverse]; exact hwl))
        have hsb := (rndP hr1).time (k := n) (by rw [HL.out]; exact Nat.le_refl _)
        have hrb := (rndP hr2).time (k := n) (by rw [HL.out]; exact Nat.le_refl _)
        rw [show sw.take n = sw by rw [← hwl, List.take_length]] at hsb
        rw [show sw.reverse.take n = sw.reverse by rw [List.take_of_length_le (by rw [List.length_reverse]; omega)]] at hrb
        rw [pick_rev, hps] at hrb
        rw [hps] at hsb
        rw [pick_rev, hps] at HC2
        rw [hps] at HC1
        have HPS := Lib.hid hps
        have hgt : ¬ srF ks st < 0 := by rw [HMS.out]; split <;> omega
        clear hv e0 hvc hin hsw hwl hwo hr1 hr2 hps hlast
        go_wp2_with fail
        refine (HW.out w3 ((hrk.below bl3).more bl3.size)).mono ?_
        rintro e w4 ⟨AW, cW, rfl, oW4, b4⟩
        have z4 := b4.size
        have bl4 : Below w1.heap.size w1 w4 := bl3.trans (b4.mono bl3.size)
        have HIW := Lib.hid (owz_in oW4)
        clear bl3 b4
        rw [HWL.out] at oW4 HIW ⊢
        go_wp2_with fail
        refine (iVis_any n n ks HL.out Ak ck hn1 sw HWL.out (by omega) AW cW w4 ((hrk.below bl4).more bl4.size) (Rd.ownz oW4) st).mono ?_
        rintro e w5 ⟨AT, cT, rfl, oT5, b5⟩
        have z5 := b5.size
        have bl5 : Below w1.heap.size w1 w5 := bl4.trans (b5.mono bl4.size)
        have oW5 := owz_below oW4 b5
        have HIT := Lib.hid (owz_in oT5)
        clear oW4 bl4 b5
        rw [HVT.out] at oT5 HIT ⊢
        rw [tmL_len, pick_len, HWL.out] at oT5 HIT ⊢
        go_wp2_with fail
        refine (backwards_any n sw HWL.out AW cW w5 (Rd.ownz oW5) (by omega)).mono ?_
        rintro e w6 ⟨AR, cR, rfl, oR6, b6⟩
        have z6 := b6.size
        have bl6 : Below w1.heap.size w1 w6 := bl5.trans (b6.mono bl5.size)
        have oW6 := owz_below oW5 b6
        have oT6 := owz_below oT5 b6
        have HIR := Lib.hid (owz_in oR6)
        clear oW5 oT5 bl5 b6
        rw [List.length_reverse, HWL.out] at oR6 HIR ⊢
        go_wp2_with fail
        refine (iVis_any n n ks HL.out Ak ck hn1 sw.reverse (by rw [List.length_reverse]; exact HWL.out) (by omega) AR cR w6 ((hrk.below bl6).more bl6.size) (Rd.ownz oR6) st).mono ?_
        rintro e w7 ⟨AU, cU, rfl, oU7, b7⟩
        have z7 := b7.size
        have bl7 : Below w1.heap.size w1 w7 := bl6.trans (b7.mono bl6.size)
        have oW7 := owz_below oW6 b7
        have oT7 := owz_below oT6 b7
        have oR7 := owz_below oR6 b7
        have HIU := Lib.hid (owz_in oU7)
        clear oW6 oT6 oR6 bl6 b7
        rw [HVR.out] at oU7 HIU ⊢
        rw [tmL_len, pick_len, List.length_reverse, HWL.out] at oU7 HIU ⊢
        have hn1i : (n : Int) - 1 = ((n - 1 : Nat) : Int) := by omega
        obtain ⟨l1, hl1⟩ : ∃ l1, l1 = n - 1 := ⟨_, rfl⟩
        rw [← hl1] at HC1 HC2 hn1i
        rw [pick_rev, HPS.out] at oU7
        rw [HPS.out] at oT7
        have hl1b : l1 < n := by omega
        obtain ⟨gT, rfl, _, _, _, _⟩ := owz_some (by omega) oT7 (by omega)
        obtain ⟨gU, rfl, _, _, _, _⟩ := owz_some (by omega) oU7 (by omega)
        have hcT := owz_cell oT7 (k := l1) (x := .int .i64 (endT st (swS ks))) (by rw [ints, List.getElem?_map, HC1.out]; rfl)
        have hcU := owz_cell oU7 (k := l1) (x := .int .i64 (endT st (swS ks).reverse)) (by rw [ints, List.getElem?_map, HC2.out]; rfl)
        have HBL := Lib.hid bl7
        have hw1 : IntKind.i64.wrap (l1 : Int) = (l1 : Int) := IntWalk.i64_in _ (by omega)
        have hms := HMS.out
        clear oT7 oU7 oW7 oR7 bl7 hl1 hgt
        generalize endT st (swS ks) = T1 at *
        generalize endT st (swS ks).reverse = T2 at *
        by_cases hq : T2 < T1
        · rw [if_pos hq] at hms
          rw [hms]
          clear hms
          go_wp2
          refine wp_region_quiet_lit (by kernel_rfl) (by kernel_rfl) ?_
          repeat (go_big_quiet_step (fail))
          refine wpQuiet_nil ?_
          intro _ hw'
          obtain ⟨nq, hw''⟩ := hw'
          subst hw''
          go_wp2
          go_ret
          exact ⟨rfl, b1.trans ((below_drewN HBL.out nq).mono b1.size)⟩
        · rw [if_neg hq] at hms
          rw [hms]
          clear hms
          go_wp2
          refine wp_region_quiet_lit (by kernel_rfl) (by kernel_rfl) ?_
          repeat (go_big_quiet_step (fail))
          refine wpQuiet_nil ?_
          intro _ hw'
          obtain ⟨nq, hw''⟩ := hw'
          subst hw''
          go_wp2
          go_ret
          exact ⟨rfl, b1.trans ((below_drewN HBL.out nq).mono b1.size)⟩
  · have hn' : 1048576 < cs.length := by omega
    go_enter Try.func12, Try.ntmps12
    go_wp2
    go_ret
    exact ⟨rfl, Below.refl _ _⟩

set_option maxRecDepth 100000 in
theorem lifted (os : Os) (started : os.Started) (H : Type) (enc : TypeId × Value → H) :
    ReturnsInHanded {} Try.checked os 12 .any (Rows.fnShortestRoundSpec.pre6 enc Try.prog Try.f12 Rows.fnShortestRoundRow.domain false) (Rows.fnShortestRoundSpec.post enc Try.prog Try.f12 false true false false) := by
  refine returnsInHanded_of_change (C := Try.checked) ownNone started (by kernel_rfl) Try.func12
    (ChangeSpec.witness6 (enc := enc) (C := Try.checked) false ⟨#[], #[.slice none 0 0], []⟩ 8 (by kernel_rfl) (by kernel_rfl) (by kernel_rfl) (by kernel_rfl)) ?_
  intro W base args ds gs before hval0 hW hcnd _
  have hval : ∀ (j : Nat) t v, Try.f12.params[j]? = some t → args[j]? = some v → Value.okWide Try.prog W .any base t v := hval0
  have hW' := hW
  obtain ⟨p, q, hA0, hV, rfl, _, _⟩ := hW
  have hA : DataW.TrodAll enc Try.prog W 0 (fun _ => true) true Try.f12.params.toList args.toList ds p := hA0
  rw [Try.params12] at hA hval
  obtain ⟨v0, vs0, d0, ds0, p0, q0, hargs, rfl, rfl, h0, r0⟩ := trodAll_cons hA
  obtain ⟨rfl, rfl, rfl⟩ := trodAll_nil r0
  obtain rfl : args = #[v0] := by cases args; simp_all
  obtain ⟨rfl, rfl⟩ := trodVars_none hV
  obtain ⟨Acs, ccs, cs, rfl, hrcs, hlcs, hqcs⟩ := open_rd Try.underlying22 Try.underlying5 cellsByte (hval 0 22 v0 rfl rfl) h0
  have hbcs := byte_bounds hqcs
  clear hA0 hval0
  refine (walk W cs Acs ccs hrcs hbcs hlcs).mono fun e W' ⟨he, hg⟩ => ?_
  subst he
  exact ⟨_, rfl, law_post laidOut (by kernel_rfl) rfl rfl rfl rfl rfl Try.underlying4 hW' hg⟩

/-- The statement. -/
theorem proved : Rows.FnShortestRoundSaid :=
  OpenClaim.holds_of_wide 12 Try.f12 rfl rfl rfl rfl rfl rfl rfl ⟨rfl, rfl, rfl, rfl, rfl⟩ rfl rfl rfl rfl rfl (by kernel_rfl) Try.func12 (by kernel_rfl)
    (of_decide_eq_true (by kernel_rfl)) (by unfold Func.isWrapper; first | (rw [if_pos (by decide +kernel)]; kernel_rfl) | (rw [if_neg (by decide +kernel)]; exact ⟨rfl, rfl⟩))
    (fun os started H enc _ => lifted os started H enc)
#print axioms proved
end fnShortestRound

end Go.Proofs.Ytjjddamblijffaa

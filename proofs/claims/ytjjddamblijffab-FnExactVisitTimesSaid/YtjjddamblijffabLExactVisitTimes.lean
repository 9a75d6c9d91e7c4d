/- The law FnExactVisitTimes: for every argument the program answers as its model, in memory of its own; the arguments read as they read before. No condition. -/
import Derived.Test.YtjjddamblijffabKHelp
import Derived.Test.YtjjddamblijffabKLaw
import Derived.Test.YtjjddamblijffabLaw
namespace Go.Proofs.Ytjjddamblijffab
open Go.RowKit
set_option linter.unusedVariables false
set_option linter.unusedSimpArgs false

namespace fnExactVisitTimes
open Go.ChangeShapes Go.WideShapes Go.ChangeAt Go.RowKit
set_option maxRecDepth 100000 in
set_option maxHeartbeats 800000 in
set_option maxRecDepth 100000 in
set_option maxRecDepth 100000 in
set_option maxHeartbeats 8000000 in
theorem walk (w : World) (cs : List Cu) (Acs : Option Addr) (ccs : Nat) (hrcs : Rd w w.heap.size Acs (custV cs)) (hlcs : cs.length ≤ ccs ∧ ccs ≤ maxLen) (st : Int) (os : List Int) (Aos : Option Addr) (cos : Nat) (hros : Rd w w.heap.size Aos (ints os)) (hlos : os.length ≤ cos ∧ cos ≤ maxLen) :
    Calls Try.prog 3 #[.slice Acs cs.length ccs, .int .i64 st, .slice Aos os.length cos] w fun e w' => e = .returned (.bool true) ∧ Below w.heap.size w w' := by
  have hn0 : cs.length ≤ maxLen := Nat.le_trans hlcs.1 hlcs.2
  by_cases hno : os.length ≤ 1048576
  · skip
    go_enter Try.func3, Try.ntmps3
    go_wp2_with fail
    refine (szCustS_any _ _ _ hn0 _).mono ?_
    rintro e w' ⟨⟨z, rfl, hz⟩, rfl⟩
    rcases hz with rfl | ⟨hz0, hsz⟩
    · go_wp2
      go_ret
      exact ⟨rfl, Below.refl _ _⟩
    · have hz1 : ¬ z < 0 := by omega
      obtain ⟨ts, hts⟩ : ∃ ts, ts = visT cs st os := ⟨_, rfl⟩
      have htl : ts.length ≤ 1048576 := by rw [hts]; exact Nat.le_trans (visT_le _ _ _) (by omega)
      have HTS := Lib.hid hts
      clear hts
      go_wp2_with fail
      refine (toCustS_any _ cs rfl _ _ w hrcs hsz).mono ?_
      rintro e w1 ⟨AC1, cC1, rfl, oC11, b1⟩
      have z1 := b1.size
      have bl1 : Below w.heap.size w w1 := (Below.refl w.heap.size w).trans (b1.mono (Nat.le_refl _))
      have HIC1 := Lib.hid (owz_in oC11)
      clear b1
      go_wp2_with fail
      refine (toIntS_any os _ _ w1 ((hros.below bl1).more bl1.size) hno).mono ?_
      rintro e w2 ⟨AO1, cO1, rfl, oO12, b2⟩
      have z2 := b2.size
      have bl2 : Below w.heap.size w w2 := bl1.trans (b2.mono bl1.size)
      have oC12 := owz_below oC11 b2
      have HIO1 := Lib.hid (owz_in oO12)
      clear oC11 bl1 b2
      have hq1 := owz_capX oO12
      go_wp2_with fail
      refine (sVis_t HTS cs AC1 cC1 hn0 os hno AO1 cO1 w2 (Rd.ownz oC12) (Rd.ownz oO12) st hq1).mono ?_
      rintro e w3 ⟨AW, cW, rfl, oW3, b3⟩
      have z3 := b3.size
      have bl3 : Below w.heap.size w w3 := bl2.trans (b3.mono bl2.size)
      have oC13 := owz_below oC12 b3
      have oO13 := owz_below oO12 b3
      have HIW := Lib.hid (owz_in oW3)
      clear oC12 oO12 bl2 b3
      clear oC13
      clear oO13
      go_wp2_with fail
      refine (toCustS_any _ cs rfl _ _ w3 ((hrcs.below bl3).more bl3.size) hsz).mono ?_
      rintro e w4 ⟨AC2, cC2, rfl, oC24, b4⟩
      have z4 := b4.size
      have bl4 : Below w.heap.size w w4 := bl3.trans (b4.mono bl3.size)
      have oW4 := owz_below oW3 b4
      have HIC2 := Lib.hid (owz_in oC24)
      clear oW3 bl3 b4
      go_wp2_with fail
      refine (toIntS_any os _ _ w4 ((hros.below bl4).more bl4.size) hno).mono ?_
      rintro e w5 ⟨AO2, cO2, rfl, oO25, b5⟩
      have z5 := b5.size
      have bl5 : Below w.heap.size w w5 := bl4.trans (b5.mono bl4.size)
      have oW5 := owz_below oW4 b5
      have oC25 := owz_below oC24 b5
      have HIO2 := Lib.hid (owz_in oO25)
      clear oW4 oC24 bl4 b5
      go_wp2_with fail
      refine (iVis_t HTS cs AC2 cC2 hn0 os hno AO2 cO2 w5 (Rd.ownz oC25) (Rd.ownz oO25) st).mono ?_
      rintro e w6 ⟨AG, cG, rfl, oG6, b6⟩
      have z6 := b6.size
      have bl6 : Below w.heap.size w w6 := bl5.trans (b6.mono bl5.size)
      have oW6 := owz_below oW5 b6
      have oC26 := owz_below oC25 b6
      have oO26 := owz_below oO25 b6
      have HIG := Lib.hid (owz_in oG6)
      clear oW5 oC25 oO25 bl5 b6
      go_wp2_with fail
      refine (eqI_k ts _ _ _ _ w6 w6.heap.size (Rd.ownz oG6) (Rd.ownz oW6) htl).mono ?_
      rintro e w7 ⟨rfl, b7⟩
      have z7 := b7.size
      have bl7 : Below w.heap.size w w7 := bl6.trans (b7.mono bl6.size)
      have oW7 := owz_below oW6 b7
      have oC27 := owz_below oC26 b7
      have oO27 := owz_below oO26 b7
      have oG7 := owz_below oG6 b7
      clear oW6 oC26 oO26 oG6 bl6 b7
      go_wp2_with fail
      refine (toCustS_any _ cs rfl _ _ w7 ((hrcs.below bl7).more bl7.size) hsz).mono ?_
      rintro e w8 ⟨AC3, cC3, rfl, oC38, b8⟩
      have z8 := b8.size
      have bl8 : Below w.heap.size w w8 := bl7.trans (b8.mono bl7.size)
      have oW8 := owz_below oW7 b8
      have oC28 := owz_below oC27 b8
      have oO28 := owz_below oO27 b8
      have oG8 := owz_below oG7 b8
      have HIC3 := Lib.hid (owz_in oC38)
      clear oW7 oC27 oO27 oG7 bl7 b8
      go_wp2_with fail
      refine (eqCustS_same _ cs rfl _ _ _ _ w8 _ (Nat.le_refl _) (Rd.ownz oC28) (Rd.ownz oC38) hsz).mono ?_
      rintro e w9 ⟨rfl, b9⟩
      have z9 := b9.size
      have bl9 : Below w.heap.size w w9 := bl8.trans (b9.mono bl8.size)
      have oW9 := owz_below oW8 b9
      have oC29 := owz_below oC28 b9
      have oO29 := owz_below oO28 b9
      have oG9 := owz_below oG8 b9
      have oC39 := owz_below oC38 b9
      clear oW8 oC28 oO28 oG8 oC38 bl8 b9
      clear oC39
      go_wp2_with fail
      refine (toIntS_any os _ _ w9 ((hros.below bl9).more bl9.size) hno).mono ?_
      rintro e w10 ⟨AO3, cO3, rfl, oO310, b10⟩
      have z10 := b10.size
      have bl10 : Below w.heap.size w w10 := bl9.trans (b10.mono bl9.size)
      have oW10 := owz_below oW9 b10
      have oC210 := owz_below oC29 b10
      have oO210 := owz_below oO29 b10
      have oG10 := owz_below oG9 b10
      have HIO3 := Lib.hid (owz_in oO310)
      clear oW9 oC29 oO29 oG9 bl9 b10
      go_wp2_with fail
      refine (eqI_k os _ _ _ _ w10 w10.heap.size (Rd.ownz oO210) (Rd.ownz oO310) hno).mono ?_
      rintro e w11 ⟨rfl, b11⟩
      have z11 := b11.size
      have bl11 : Below w.heap.size w w11 := bl10.trans (b11.mono bl10.size)
      have oW11 := owz_below oW10 b11
      have oC211 := owz_below oC210 b11
      have oO211 := owz_below oO210 b11
      have oG11 := owz_below oG10 b11
      have oO311 := owz_below oO310 b11
      clear oW10 oC210 oO210 oG10 oO310 bl10 b11
      clear oO311
      go_wp2_with fail
      refine (markCustS_any _ cs rfl AC2 cC2 w11 _ oC211 1 (by omega) (by omega) hsz).mono ?_
      rintro e w12 ⟨rfl, oC212, g12⟩
      have z12 := g12.size
      have bl12 : Below w.heap.size w w12 := only_belowK bl11 g12 (Nat.le_refl _) (fun k hk => by have := HIC2.out k hk; omega)
      have oW12 := owz_grown oW11 g12 (fun k hk h => by have := HIC2.out k hk; have := HIW.out k h; omega)
      have oO212 := owz_grown oO211 g12 (fun k hk h => by have := HIC2.out k hk; have := HIO2.out k h; omega)
      have oG12 := owz_grown oG11 g12 (fun k hk h => by have := HIC2.out k hk; have := HIG.out k h; omega)
      clear oC211 oW11 oO211 oG11 bl11 g12
      go_wp2_with fail
      refine (markIntS_any _ _ AO2 cO2 w12 _ oO212 (1 + 3 * ((cs.length : Nat) : Int)) (by omega) (by omega) hno).mono ?_
      rintro e w13 ⟨rfl, oO213, g13⟩
      have z13 := g13.size
      have bl13 : Below w.heap.size w w13 := only_belowK bl12 g13 (Nat.le_refl _) (fun k hk => by have := HIO2.out k hk; omega)
      have oW13 := owz_grown oW12 g13 (fun k hk h => by have := HIO2.out k hk; have := HIW.out k h; omega)
      have oC213 := owz_grown oC212 g13 (fun k hk h => by have := HIO2.out k hk; have := HIC2.out k h; omega)
      have oG13 := owz_grown oG12 g13 (fun k hk h => by have := HIO2.out k hk; have := HIG.out k h; omega)
      clear oO212 oW12 oC212 oG12 bl12 g13
      have kk : ¬ (1 + 3 * ((cs.length : Nat) : Int) + ((os.length : Nat) : Int)) < 0 := by omega
      go_wp2_with fail
      refine (eqI_k ts _ _ _ _ w13 w13.heap.size (Rd.ownz oG13) (Rd.ownz oW13) htl).mono ?_
      rintro e w14 ⟨rfl, b14⟩
      have z14 := b14.size
      have bl14 : Below w.heap.size w w14 := bl13.trans (b14.mono bl13.size)
      have oW14 := owz_below oW13 b14
      have oC214 := owz_below oC213 b14
      have oO214 := owz_below oO213 b14
      have oG14 := owz_below oG13 b14
      clear oW13 oC213 oO213 oG13 bl13 b14
      clear oC214
      clear oO214
      go_wp2_with fail
      refine (markIntS_any _ _ AG cG w14 _ oG14 1 (by omega) (by omega) htl).mono ?_
      rintro e w15 ⟨rfl, oG15, g15⟩
      have z15 := g15.size
      have bl15 : Below w.heap.size w w15 := only_belowK bl14 g15 (Nat.le_refl _) (fun k hk => by have := HIG.out k hk; omega)
      have oW15 := owz_grown oW14 g15 (fun k hk h => by have := HIG.out k hk; have := HIW.out k h; omega)
      clear oG14 oW14 bl14 g15
      go_wp2_with fail
      refine (heldIntS_any _ _ _ _ _ 1 (Rd.ownz oG15) (by omega) (by omega) htl).mono ?_
      rintro e w' ⟨rfl, rfl⟩
      go_wp2_with fail
      refine (toCustS_any _ cs rfl _ _ w15 ((hrcs.below bl15).more bl15.size) hsz).mono ?_
      rintro e w16 ⟨AC4, cC4, rfl, oC416, b16⟩
      have z16 := b16.size
      have bl16 : Below w.heap.size w w16 := bl15.trans (b16.mono bl15.size)
      have oW16 := owz_below oW15 b16
      have oG16 := owz_below oG15 b16
      have HIC4 := Lib.hid (owz_in oC416)
      clear oW15 oG15 bl15 b16
      go_wp2_with fail
      refine (toIntS_any os _ _ w16 ((hros.below bl16).more bl16.size) hno).mono ?_
      rintro e w17 ⟨AO4, cO4, rfl, oO417, b17⟩
      have z17 := b17.size
      have bl17 : Below w.heap.size w w17 := bl16.trans (b17.mono bl16.size)
      have oW17 := owz_below oW16 b17
      have oG17 := owz_below oG16 b17
      have oC417 := owz_below oC416 b17
      have HIO4 := Lib.hid (owz_in oO417)
      clear oW16 oG16 oC416 bl16 b17
      go_wp2_with fail
      refine (iVis_t HTS cs AC4 cC4 hn0 os hno AO4 cO4 w17 (Rd.ownz oC417) (Rd.ownz oO417) st).mono ?_
      rintro e w18 ⟨AH, cH, rfl, oH18, b18⟩
      have z18 := b18.size
      have bl18 : Below w.heap.size w w18 := bl17.trans (b18.mono bl17.size)
      have oW18 := owz_below oW17 b18
      have oG18 := owz_below oG17 b18
      have oC418 := owz_below oC417 b18
      have oO418 := owz_below oO417 b18
      have HIH := Lib.hid (owz_in oH18)
      clear oW17 oG17 oC417 oO417 bl17 b18
      clear oC418
      clear oO418
      go_wp2_with fail
      refine (eqI_k ts _ _ _ _ w18 w18.heap.size (Rd.ownz oH18) (Rd.ownz oW18) htl).mono ?_
      rintro e w19 ⟨rfl, b19⟩
      have z19 := b19.size
      have bl19 : Below w.heap.size w w19 := bl18.trans (b19.mono bl18.size)
      have oW19 := owz_below oW18 b19
      have oG19 := owz_below oG18 b19
      have oH19 := owz_below oH18 b19
      clear oW18 oG18 oH18 bl18 b19
      clear oH19
      go_wp2_with fail
      refine (heldIntS_any _ _ _ _ _ 1 (Rd.ownz oG19) (by omega) (by omega) htl).mono ?_
      rintro e w' ⟨rfl, rfl⟩
      clear oG19
      clear oW19
      go_wp2
      go_ret
      exact ⟨rfl, bl19⟩
  · have hno2 : 1048576 < os.length := by omega
    go_enter Try.func3, Try.ntmps3
    go_wp2
    go_ret
    exact ⟨rfl, Below.refl _ _⟩

set_option maxRecDepth 100000 in
theorem lifted (os : Os) (started : os.Started) (H : Type) (enc : TypeId × Value → H) :
    ReturnsInHanded {} Try.checked os 3 .any (Rows.fnExactVisitTimesSpec.pre6 enc Try.prog Try.f3 Rows.fnExactVisitTimesRow.domain false) (Rows.fnExactVisitTimesSpec.post enc Try.prog Try.f3 false true false false) := by
  refine returnsInHanded_of_change (C := Try.checked) ownNone started (by kernel_rfl) Try.func3
    (ChangeSpec.witness6 (enc := enc) (C := Try.checked) false ⟨#[], #[.slice none 0 0, .int .i64 0, .slice none 0 0], []⟩ 8 (by kernel_rfl) (by kernel_rfl) (by kernel_rfl) (by kernel_rfl)) ?_
  intro W base args ds gs before hval0 hW hcnd _
  have hval : ∀ (j : Nat) t v, Try.f3.params[j]? = some t → args[j]? = some v → Value.okWide Try.prog W .any base t v := hval0
  have hW' := hW
  obtain ⟨p, q, hA0, hV, rfl, _, _⟩ := hW
  have hA : DataW.TrodAll enc Try.prog W 0 (fun _ => true) true Try.f3.params.toList args.toList ds p := hA0
  rw [Try.params3] at hA hval
  obtain ⟨v0, vs0, d0, ds0, p0, q0, hargs, rfl, rfl, h0, r0⟩ := trodAll_cons hA
  obtain ⟨v1, vs1, d1, ds1, p1, q1, rfl, rfl, rfl, h1, r1⟩ := trodAll_cons r0
  obtain ⟨v2, vs2, d2, ds2, p2, q2, rfl, rfl, rfl, h2, r2⟩ := trodAll_cons r1
  obtain ⟨rfl, rfl, rfl⟩ := trodAll_nil r2
  obtain rfl : args = #[v0, v1, v2] := by cases args; simp_all
  obtain ⟨rfl, rfl⟩ := trodVars_none hV
  obtain ⟨Acs, ccs, cs, rfl, hrcs, hlcs⟩ := Opn.open_rdK Try.underlying22 (hval 0 22 v0 rfl rfl) h0
  obtain ⟨st, rfl, rfl, rfl, w1⟩ := open_int Try.underlying3 (hval 1 3 v1 rfl rfl) h1
  obtain ⟨Aos, cos, os, rfl, hros, hlos, _⟩ := open_rd Try.underlying23 Try.underlying3 cellsInt (hval 2 23 v2 rfl rfl) h2
  clear hA0 hval0
  refine (walk W cs Acs ccs hrcs hlcs st os Aos cos hros hlos).mono fun e W' ⟨he, hg⟩ => ?_
  subst he
  exact ⟨_, rfl, law_post laidOut (by kernel_rfl) rfl rfl rfl rfl rfl Try.underlying4 hW' hg⟩

/-- The statement. -/
theorem proved : Rows.FnExactVisitTimesSaid :=
  OpenClaim.holds_of_wide 3 Try.f3 rfl rfl rfl rfl rfl rfl rfl ⟨rfl, rfl, rfl, rfl, rfl⟩ rfl rfl rfl rfl rfl (by kernel_rfl) Try.func3 (by kernel_rfl)
    (of_decide_eq_true (by kernel_rfl)) (by unfold Func.isWrapper; first | (rw [if_pos (by decide +kernel)]; kernel_rfl) | (rw [if_neg (by decide +kernel)]; exact ⟨rfl, rfl⟩))
    (fun os started H enc _ => lifted os started H enc)
#print axioms proved
end fnExactVisitTimes

end Go.Proofs.Ytjjddamblijffab

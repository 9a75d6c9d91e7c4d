/- The law FnExactLateBy: for every argument the program answers as its model; the arguments read as they read before. No condition. -/
import Derived.Test.YtjjddamblijffabKHelp
import Derived.Test.YtjjddamblijffabKLaw
import Derived.Test.YtjjddamblijffabLaw
namespace Go.Proofs.Ytjjddamblijffab
open Go.RowKit
set_option linter.unusedVariables false
set_option linter.unusedSimpArgs false

namespace fnExactLateBy
open Go.ChangeShapes Go.WideShapes Go.ChangeAt Go.RowKit
set_option maxRecDepth 100000 in
set_option maxHeartbeats 800000 in
set_option maxRecDepth 100000 in
set_option maxRecDepth 100000 in
set_option maxHeartbeats 8000000 in
theorem walk (w : World) (cs : List Cu) (Acs : Option Addr) (ccs : Nat) (hrcs : Rd w w.heap.size Acs (custV cs)) (hlcs : cs.length ≤ ccs ∧ ccs ≤ maxLen) (st : Int) (os : List Int) (Aos : Option Addr) (cos : Nat) (hros : Rd w w.heap.size Aos (ints os)) (hlos : os.length ≤ cos ∧ cos ≤ maxLen) :
    Calls Try.prog 4 #[.slice Acs cs.length ccs, .int .i64 st, .slice Aos os.length cos] w fun e w' => e = .returned (.bool true) ∧ Below w.heap.size w w' := by
  have hn0 : cs.length ≤ maxLen := Nat.le_trans hlcs.1 hlcs.2
  by_cases hno : os.length ≤ 1048576
  · skip
    go_enter Try.func4, Try.ntmps4
    go_wp2_with fail
    refine (szCustS_any _ _ _ hn0 _).mono ?_
    rintro e w' ⟨⟨z, rfl, hz⟩, rfl⟩
    rcases hz with rfl | ⟨hz0, hsz⟩
    · go_wp2
      go_ret
      exact ⟨rfl, Below.refl _ _⟩
    · have hz1 : ¬ z < 0 := by omega
      go_wp2_with fail
      refine (toCustS_any _ cs rfl _ _ w hrcs hsz).mono ?_
      rintro e w1 ⟨AC1, cC1, rfl, oC11, b1⟩
      have z1 := b1.size
      have bl1 : Below w.heap.size w w1 := (Below.refl w.heap.size w).trans (b1.mono (Nat.le_refl _))
      have HIC1 := Lib.hid (owz_in oC11)
      clear b1
      go_wp2_with fail
      refine (toIntS_any os _ _ w1 ((hros.below bl1).more bl1.size) hno).mono ?_
      rintro e w2 ⟨AO1, cO1, rfl, oO12, b2⟩
      have z2 := b2.size
      have bl2 : Below w.heap.size w w2 := bl1.trans (b2.mono bl1.size)
      have oC12 := owz_below oC11 b2
      have HIO1 := Lib.hid (owz_in oO12)
      clear oC11 bl1 b2
      have hq1 := owz_capX oO12
      go_wp2_with fail
      refine (sLate_any _ _ cs rfl AC1 cC1 hn0 os rfl hno AO1 cO1 hq1 w2 (Rd.ownz oC12) (Rd.ownz oO12) st).mono ?_
      rintro e w3 ⟨rfl, b3⟩
      have z3 := b3.size
      have bl3 : Below w.heap.size w w3 := bl2.trans (b3.mono bl2.size)
      have oC13 := owz_below oC12 b3
      have oO13 := owz_below oO12 b3
      clear oC12 oO12 bl2 b3
      clear oC13
      clear oO13
      go_wp2_with fail
      refine (toCustS_any _ cs rfl _ _ w3 ((hrcs.below bl3).more bl3.size) hsz).mono ?_
      rintro e w4 ⟨AC2, cC2, rfl, oC24, b4⟩
      have z4 := b4.size
      have bl4 : Below w.heap.size w w4 := bl3.trans (b4.mono bl3.size)
      have HIC2 := Lib.hid (owz_in oC24)
      clear bl3 b4
      go_wp2_with fail
      refine (toIntS_any os _ _ w4 ((hros.below bl4).more bl4.size) hno).mono ?_
      rintro e w5 ⟨AO2, cO2, rfl, oO25, b5⟩
      have z5 := b5.size
      have bl5 : Below w.heap.size w w5 := bl4.trans (b5.mono bl4.size)
      have oC25 := owz_below oC24 b5
      have HIO2 := Lib.hid (owz_in oO25)
      clear oC24 bl4 b5
      go_wp2_with fail
      refine (iLate_any _ _ cs rfl AC2 cC2 hn0 os rfl hno AO2 cO2 w5 (Rd.ownz oC25) (Rd.ownz oO25) st).mono ?_
      rintro e w6 ⟨rfl, b6⟩
      have z6 := b6.size
      have bl6 : Below w.heap.size w w6 := bl5.trans (b6.mono bl5.size)
      have oC26 := owz_below oC25 b6
      have oO26 := owz_below oO25 b6
      clear oC25 oO25 bl5 b6
      generalize hVAL : lateT cs st os = q at *
      clear hVAL
      go_wp2_with fail
      refine (toCustS_any _ cs rfl _ _ w6 ((hrcs.below bl6).more bl6.size) hsz).mono ?_
      rintro e w7 ⟨AC3, cC3, rfl, oC37, b7⟩
      have z7 := b7.size
      have bl7 : Below w.heap.size w w7 := bl6.trans (b7.mono bl6.size)
      have oC27 := owz_below oC26 b7
      have oO27 := owz_below oO26 b7
      have HIC3 := Lib.hid (owz_in oC37)
      clear oC26 oO26 bl6 b7
      go_wp2_with fail
      refine (eqCustS_same _ cs rfl _ _ _ _ w7 _ (Nat.le_refl _) (Rd.ownz oC27) (Rd.ownz oC37) hsz).mono ?_
      rintro e w8 ⟨rfl, b8⟩
      have z8 := b8.size
      have bl8 : Below w.heap.size w w8 := bl7.trans (b8.mono bl7.size)
      have oC28 := owz_below oC27 b8
      have oO28 := owz_below oO27 b8
      have oC38 := owz_below oC37 b8
      clear oC27 oO27 oC37 bl7 b8
      clear oC38
      go_wp2_with fail
      refine (toIntS_any os _ _ w8 ((hros.below bl8).more bl8.size) hno).mono ?_
      rintro e w9 ⟨AO3, cO3, rfl, oO39, b9⟩
      have z9 := b9.size
      have bl9 : Below w.heap.size w w9 := bl8.trans (b9.mono bl8.size)
      have oC29 := owz_below oC28 b9
      have oO29 := owz_below oO28 b9
      have HIO3 := Lib.hid (owz_in oO39)
      clear oC28 oO28 bl8 b9
      go_wp2_with fail
      refine (eqI_k os _ _ _ _ w9 w9.heap.size (Rd.ownz oO29) (Rd.ownz oO39) hno).mono ?_
      rintro e w10 ⟨rfl, b10⟩
      have z10 := b10.size
      have bl10 : Below w.heap.size w w10 := bl9.trans (b10.mono bl9.size)
      have oC210 := owz_below oC29 b10
      have oO210 := owz_below oO29 b10
      have oO310 := owz_below oO39 b10
      clear oC29 oO29 oO39 bl9 b10
      clear oO310
      clear oC210
      clear oO210
      go_wp2
      go_ret
      exact ⟨rfl, bl10⟩
  · have hno2 : 1048576 < os.length := by omega
    go_enter Try.func4, Try.ntmps4
    go_wp2
    go_ret
    exact ⟨rfl, Below.refl _ _⟩

set_option maxRecDepth 100000 in
theorem lifted (os : Os) (started : os.Started) (H : Type) (enc : TypeId × Value → H) :
    ReturnsInHanded {} Try.checked os 4 .any (Rows.fnExactLateBySpec.pre6 enc Try.prog Try.f4 Rows.fnExactLateByRow.domain false) (Rows.fnExactLateBySpec.post enc Try.prog Try.f4 false true false false) := by
  refine returnsInHanded_of_change (C := Try.checked) ownNone started (by kernel_rfl) Try.func4
    (ChangeSpec.witness6 (enc := enc) (C := Try.checked) false ⟨#[], #[.slice none 0 0, .int .i64 0, .slice none 0 0], []⟩ 8 (by kernel_rfl) (by kernel_rfl) (by kernel_rfl) (by kernel_rfl)) ?_
  intro W base args ds gs before hval0 hW hcnd _
  have hval : ∀ (j : Nat) t v, Try.f4.params[j]? = some t → args[j]? = some v → Value.okWide Try.prog W .any base t v := hval0
  have hW' := hW
  obtain ⟨p, q, hA0, hV, rfl, _, _⟩ := hW
  have hA : DataW.TrodAll enc Try.prog W 0 (fun _ => true) true Try.f4.params.toList args.toList ds p := hA0
  rw [Try.params4] at hA hval
  obtain ⟨v0, vs0, d0, ds0, p0, q0, hargs, rfl, rfl, h0, r0⟩ := trodAll_cons hA
  obtain ⟨v1, vs1, d1, ds1, p1, q1, rfl, rfl, rfl, h1, r1⟩ := trodAll_cons r0
  obtain ⟨v2, vs2, d2, ds2, p2, q2, rfl, rfl, rfl, h2, r2⟩ := trodAll_cons r1
  obtain ⟨rfl, rfl, rfl⟩ := trodAll_nil r2
  obtain rfl : args = #[v0, v1, v2] := by cases args; simp_all
  obtain ⟨rfl, rfl⟩ := trodVars_none hV
  obtain ⟨Acs, ccs, cs, rfl, hrcs, hlcs⟩ := Opn.open_rdK Try.underlying22 (hval 0 22 v0 rfl rfl) h0
  obtain ⟨st, rfl, rfl, rfl, w1⟩ := open_int Try.underlying3 (hval 1 3 v1 rfl rfl) h1
  obtain ⟨Aos, cos, os, rfl, hros, hlos, _⟩ := open_rd Try.underlying23 Try.underlying3 cellsInt (hval 2 23 v2 rfl rfl) h2
  clear hA0 hval0
  refine (walk W cs Acs ccs hrcs hlcs st os Aos cos hros hlos).mono fun e W' ⟨he, hg⟩ => ?_
  subst he
  exact ⟨_, rfl, law_post laidOut (by kernel_rfl) rfl rfl rfl rfl rfl Try.underlying4 hW' hg⟩

/-- The statement. -/
theorem proved : Rows.FnExactLateBySaid :=
  OpenClaim.holds_of_wide 4 Try.f4 rfl rfl rfl rfl rfl rfl rfl ⟨rfl, rfl, rfl, rfl, rfl⟩ rfl rfl rfl rfl rfl (by kernel_rfl) Try.func4 (by kernel_rfl)
    (of_decide_eq_true (by kernel_rfl)) (by unfold Func.isWrapper; first | (rw [if_pos (by decide +kernel)]; kernel_rfl) | (rw [if_neg (by decide +kernel)]; exact ⟨rfl, rfl⟩))
    (fun os started H enc _ => lifted os started H enc)
#print axioms proved
end fnExactLateBy

end Go.Proofs.Ytjjddamblijffab

/- The law FnExactSimplify: for every argument the program answers as its model, in memory of its own; the arguments read as they read before. No condition. -/
import Derived.Test.YtiihenhddleooabTHeld
import Derived.Test.YtiihenhddleooabTSimS
import Derived.Test.YtiihenhddleooabLaw
namespace Go.Proofs.Ytiihenhddleooab
open Go.RowKit
set_option linter.unusedVariables false
set_option linter.unusedSimpArgs false

namespace fnExactSimplify
open Go.ChangeShapes Go.WideShapes Go.ChangeAt Go.RowKit
set_option maxRecDepth 100000 in
set_option maxHeartbeats 800000 in
set_option maxRecDepth 100000 in
set_option maxRecDepth 100000 in
set_option maxHeartbeats 8000000 in
theorem walk (w : World) (cs : List Cu) (Acs : Option Addr) (ccs : Nat) (hrcs : Rd w w.heap.size Acs (custV cs)) (hlcs : cs.length ≤ ccs ∧ ccs ≤ maxLen) :
    Calls Try.prog 12 #[.slice Acs cs.length ccs] w fun e w' => e = .returned (.bool true) ∧ Below w.heap.size w w' := by
  have hn0 : cs.length ≤ maxLen := Nat.le_trans hlcs.1 hlcs.2
  go_enter Try.func12, Try.ntmps12
  go_wp2_with fail
  refine (szClauS_any _ _ _ hn0 _).mono ?_
  rintro e w' ⟨⟨z, rfl, hz⟩, rfl⟩
  rcases hz with rfl | ⟨hz0, hsz⟩
  · go_wp2
    go_ret
    exact ⟨rfl, Below.refl _ _⟩
  · have hz1 : ¬ z < 0 := by omega
    obtain ⟨ts, hts⟩ : ∃ ts, ts = simT cs := ⟨_, rfl⟩
    have htl : ts.length ≤ 1048576 := by rw [hts]; exact Nat.le_trans (simT_le cs) (by omega)
    have HTS := Lib.hid hts
    clear hts
    go_wp2_with fail
    refine (toClauS_any _ cs rfl _ _ w hrcs hsz).mono ?_
    rintro e w1 ⟨AC1, cC1, rfl, oC11, b1⟩
    have z1 := b1.size
    have bl1 : Below w.heap.size w w1 := (Below.refl w.heap.size w).trans (b1.mono (Nat.le_refl _))
    have HIC1 := Lib.hid (owz_in oC11)
    clear b1
    go_wp2_with fail
    refine (sSim_t HTS AC1 cC1 hn0 w1 (Rd.ownz oC11)).mono ?_
    rintro e w2 ⟨AW, cW, rfl, oW2, b2⟩
    have z2 := b2.size
    have bl2 : Below w.heap.size w w2 := bl1.trans (b2.mono bl1.size)
    have oC12 := owz_below oC11 b2
    have HIW := Lib.hid (owz_in oW2)
    clear oC11 bl1 b2
    clear oC12
    go_wp2_with fail
    refine (toClauS_any _ cs rfl _ _ w2 ((hrcs.below bl2).more bl2.size) hsz).mono ?_
    rintro e w3 ⟨AC2, cC2, rfl, oC23, b3⟩
    have z3 := b3.size
    have bl3 : Below w.heap.size w w3 := bl2.trans (b3.mono bl2.size)
    have oW3 := owz_below oW2 b3
    have HIC2 := Lib.hid (owz_in oC23)
    clear oW2 bl2 b3
    go_wp2_with fail
    refine (iSim_t HTS AC2 cC2 hn0 w3 (Rd.ownz oC23)).mono ?_
    rintro e w4 ⟨AG, cG, rfl, oG4, b4⟩
    have z4 := b4.size
    have bl4 : Below w.heap.size w w4 := bl3.trans (b4.mono bl3.size)
    have oW4 := owz_below oW3 b4
    have oC24 := owz_below oC23 b4
    have HIG := Lib.hid (owz_in oG4)
    clear oW3 oC23 bl3 b4
    go_wp2_with fail
    refine (eqClauS_same _ ts rfl _ _ _ _ w4 _ (Nat.le_refl _) (Rd.ownz oG4) (Rd.ownz oW4) htl).mono ?_
    rintro e w5 ⟨rfl, b5⟩
    have z5 := b5.size
    have bl5 : Below w.heap.size w w5 := bl4.trans (b5.mono bl4.size)
    have oW5 := owz_below oW4 b5
    have oC25 := owz_below oC24 b5
    have oG5 := owz_below oG4 b5
    clear oW4 oC24 oG4 bl4 b5
    go_wp2_with fail
    refine (toClauS_any _ cs rfl _ _ w5 ((hrcs.below bl5).more bl5.size) hsz).mono ?_
    rintro e w6 ⟨AC3, cC3, rfl, oC36, b6⟩
    have z6 := b6.size
    have bl6 : Below w.heap.size w w6 := bl5.trans (b6.mono bl5.size)
    have oW6 := owz_below oW5 b6
    have oC26 := owz_below oC25 b6
    have oG6 := owz_below oG5 b6
    have HIC3 := Lib.hid (owz_in oC36)
    clear oW5 oC25 oG5 bl5 b6
    go_wp2_with fail
    refine (eqClauS_same _ cs rfl _ _ _ _ w6 _ (Nat.le_refl _) (Rd.ownz oC26) (Rd.ownz oC36) hsz).mono ?_
    rintro e w7 ⟨rfl, b7⟩
    have z7 := b7.size
    have bl7 : Below w.heap.size w w7 := bl6.trans (b7.mono bl6.size)
    have oW7 := owz_below oW6 b7
    have oC27 := owz_below oC26 b7
    have oG7 := owz_below oG6 b7
    have oC37 := owz_below oC36 b7
    clear oW6 oC26 oG6 oC36 bl6 b7
    clear oC37
    go_wp2_with fail
    refine (markClauS_any _ cs rfl AC2 cC2 w7 _ oC27 1 (by omega) (by omega) hsz).mono ?_
    rintro e w8 ⟨rfl, oC28, g8⟩
    have z8 := g8.size
    have bl8 : Below w.heap.size w w8 := only_belowK bl7 g8 (Nat.le_refl _) (fun k hk => by have := HIC2.out k hk; omega)
    have oW8 := owz_grown oW7 g8 (fun k hk h => by have := HIC2.out k hk; have := HIW.out k h; omega)
    have oG8 := owz_grown oG7 g8 (fun k hk h => by have := HIC2.out k hk; have := HIG.out k h; omega)
    clear oC27 oW7 oG7 bl7 g8
    have kk : ¬ (1 + 3 * ((cs.length : Nat) : Int)) < 0 := by omega
    go_wp2_with fail
    refine (eqClauS_same _ ts rfl _ _ _ _ w8 _ (Nat.le_refl _) (Rd.ownz oG8) (Rd.ownz oW8) htl).mono ?_
    rintro e w9 ⟨rfl, b9⟩
    have z9 := b9.size
    have bl9 : Below w.heap.size w w9 := bl8.trans (b9.mono bl8.size)
    have oW9 := owz_below oW8 b9
    have oC29 := owz_below oC28 b9
    have oG9 := owz_below oG8 b9
    clear oW8 oC28 oG8 bl8 b9
    clear oC29
    go_wp2_with fail
    refine (markClauS_any _ _ rfl AG cG w9 _ oG9 1 (by omega) (by omega) htl).mono ?_
    rintro e w10 ⟨rfl, oG10, g10⟩
    have z10 := g10.size
    have bl10 : Below w.heap.size w w10 := only_belowK bl9 g10 (Nat.le_refl _) (fun k hk => by have := HIG.out k hk; omega)
    have oW10 := owz_grown oW9 g10 (fun k hk h => by have := HIG.out k hk; have := HIW.out k h; omega)
    clear oG9 oW9 bl9 g10
    have kk2 : ¬ (1 + 3 * ((ts.length : Nat) : Int)) < 0 := by omega
    go_wp2_with fail
    refine (heldClauS_any _ _ _ _ _ 1 (Rd.ownz oG10) (by omega) (by omega) htl).mono ?_
    rintro e w' ⟨rfl, rfl⟩
    go_wp2_with fail
    refine (toClauS_any _ cs rfl _ _ w10 ((hrcs.below bl10).more bl10.size) hsz).mono ?_
    rintro e w11 ⟨AC4, cC4, rfl, oC411, b11⟩
    have z11 := b11.size
    have bl11 : Below w.heap.size w w11 := bl10.trans (b11.mono bl10.size)
    have oW11 := owz_below oW10 b11
    have oG11 := owz_below oG10 b11
    have HIC4 := Lib.hid (owz_in oC411)
    clear oW10 oG10 bl10 b11
    go_wp2_with fail
    refine (iSim_t HTS AC4 cC4 hn0 w11 (Rd.ownz oC411)).mono ?_
    rintro e w12 ⟨AH, cH, rfl, oH12, b12⟩
    have z12 := b12.size
    have bl12 : Below w.heap.size w w12 := bl11.trans (b12.mono bl11.size)
    have oW12 := owz_below oW11 b12
    have oG12 := owz_below oG11 b12
    have oC412 := owz_below oC411 b12
    have HIH := Lib.hid (owz_in oH12)
    clear oW11 oG11 oC411 bl11 b12
    clear oC412
    go_wp2_with fail
    refine (eqClauS_same _ ts rfl _ _ _ _ w12 _ (Nat.le_refl _) (Rd.ownz oH12) (Rd.ownz oW12) htl).mono ?_
    rintro e w13 ⟨rfl, b13⟩
    have z13 := b13.size
    have bl13 : Below w.heap.size w w13 := bl12.trans (b13.mono bl12.size)
    have oW13 := owz_below oW12 b13
    have oG13 := owz_below oG12 b13
    have oH13 := owz_below oH12 b13
    clear oW12 oG12 oH12 bl12 b13
    clear oH13
    go_wp2_with fail
    refine (heldClauS_any _ _ _ _ _ 1 (Rd.ownz oG13) (by omega) (by omega) htl).mono ?_
    rintro e w' ⟨rfl, rfl⟩
    clear oG13
    clear oW13
    go_wp2
    go_ret
    exact ⟨rfl, bl13⟩

set_option maxRecDepth 100000 in
theorem lifted (os : Os) (started : os.Started) (H : Type) (enc : TypeId × Value → H) :
    ReturnsInHanded {} Try.checked os 12 .any (Rows.fnExactSimplifySpec.pre6 enc Try.prog Try.f12 Rows.fnExactSimplifyRow.domain false) (Rows.fnExactSimplifySpec.post enc Try.prog Try.f12 false true false false) := by
  refine returnsInHanded_of_change (C := Try.checked) ownNone started (by kernel_rfl) Try.func12
    (ChangeSpec.witness6 (enc := enc) (C := Try.checked) false ⟨#[], #[.slice none 0 0], []⟩ 8 (by kernel_rfl) (by kernel_rfl) (by kernel_rfl) (by kernel_rfl)) ?_
  intro W base args ds gs before hval0 hW hcnd _
  have hval : ∀ (j : Nat) t v, Try.f12.params[j]? = some t → args[j]? = some v → Value.okWide Try.prog W .any base t v := hval0
  have hW' := hW
  obtain ⟨p, q, hA0, hV, rfl, _, _⟩ := hW
  have hA : DataW.TrodAll enc Try.prog W 0 (fun _ => true) true Try.f12.params.toList args.toList ds p := hA0
  rw [Try.params12] at hA hval
  obtain ⟨v0, vs0, d0, ds0, p0, q0, hargs, rfl, rfl, h0, r0⟩ := trodAll_cons hA
  obtain ⟨rfl, rfl, rfl⟩ := trodAll_nil r0
  obtain rfl : args = #[v0] := by cases args; simp_all
  obtain ⟨rfl, rfl⟩ := trodVars_none hV
  obtain ⟨Acs, ccs, cs, rfl, hrcs, hlcs⟩ := Opn.open_rdL Try.underlying40 (hval 0 40 v0 rfl rfl) h0
  clear hA0 hval0
  refine (walk W cs Acs ccs hrcs hlcs).mono fun e W' ⟨he, hg⟩ => ?_
  subst he
  exact ⟨_, rfl, law_post laidOut (by kernel_rfl) rfl rfl rfl rfl rfl Try.underlying4 hW' hg⟩

/-- The statement. -/
theorem proved : Rows.FnExactSimplifySaid :=
  OpenClaim.holds_of_wide 12 Try.f12 rfl rfl rfl rfl rfl rfl rfl ⟨rfl, rfl, rfl, rfl, rfl⟩ rfl rfl rfl rfl rfl (by kernel_rfl) Try.func12 (by kernel_rfl)
    (of_decide_eq_true (by kernel_rfl)) (by unfold Func.isWrapper; first | (rw [if_pos (by decide +kernel)]; kernel_rfl) | (rw [if_neg (by decide +kernel)]; exact ⟨rfl, rfl⟩))
    (fun os started H enc _ => lifted os started H enc)
#print axioms proved
end fnExactSimplify

end Go.Proofs.Ytiihenhddleooab

/- The law FnExactGainOf: for every argument the program answers as its model; the arguments read as they read before. No condition. -/
import Derived.Test.YtiihenhddleooabTAucS
import Derived.Test.YtiihenhddleooabLaw
namespace Go.Proofs.Ytiihenhddleooab
open Go.RowKit
set_option linter.unusedVariables false
set_option linter.unusedSimpArgs false

namespace fnExactGainOf
open Go.ChangeShapes Go.WideShapes Go.ChangeAt Go.RowKit
set_option maxRecDepth 100000 in
set_option maxHeartbeats 800000 in
set_option maxRecDepth 100000 in
set_option maxRecDepth 100000 in
set_option maxHeartbeats 8000000 in
theorem walk (w : World) (zs : List Int) (Azs : Option Addr) (czs : Nat) (hrzs : Rd w w.heap.size Azs (ints zs)) (hlzs : zs.length ≤ czs ∧ czs ≤ maxLen) (n : Int) (pi : Int) (wo : Int) :
    Calls Try.prog 8 #[.slice Azs zs.length czs, .int .i64 n, .int .i64 pi, .int .i64 wo] w fun e w' => e = .returned (.bool true) ∧ Below w.heap.size w w' := by
  have hn0 : zs.length ≤ maxLen := Nat.le_trans hlzs.1 hlzs.2
  by_cases hno : zs.length ≤ 1048576
  · skip
    go_enter Try.func8, Try.ntmps8
    go_wp2_with fail
    refine (toIntS_any zs _ _ w hrzs hno).mono ?_
    rintro e w1 ⟨AC1, cC1, rfl, oC11, b1⟩
    have z1 := b1.size
    have bl1 : Below w.heap.size w w1 := (Below.refl w.heap.size w).trans (b1.mono (Nat.le_refl _))
    have HIC1 := Lib.hid (owz_in oC11)
    clear b1
    go_wp2_with fail
    refine (sGain_any _ zs rfl hn0 AC1 cC1 n pi wo w1 (Rd.ownz oC11)).mono ?_
    rintro e w2 ⟨rfl, b2⟩
    have z2 := b2.size
    have bl2 : Below w.heap.size w w2 := bl1.trans (b2.mono bl1.size)
    have oC12 := owz_below oC11 b2
    clear oC11 bl1 b2
    clear oC12
    go_wp2_with fail
    refine (toIntS_any zs _ _ w2 ((hrzs.below bl2).more bl2.size) hno).mono ?_
    rintro e w3 ⟨AC2, cC2, rfl, oC23, b3⟩
    have z3 := b3.size
    have bl3 : Below w.heap.size w w3 := bl2.trans (b3.mono bl2.size)
    have HIC2 := Lib.hid (owz_in oC23)
    clear bl2 b3
    go_wp2_with fail
    refine (iGain_b _ zs rfl hn0 AC2 cC2 n pi wo w3 (Rd.ownz oC23)).mono ?_
    rintro e w4 ⟨rfl, b4⟩
    have z4 := b4.size
    have bl4 : Below w.heap.size w w4 := bl3.trans (b4.mono bl3.size)
    have oC24 := owz_below oC23 b4
    clear oC23 bl3 b4
    generalize hVAL : gaT zs n pi wo = q0 at *
    clear hVAL
    go_wp2_with fail
    refine (toIntS_any zs _ _ w4 ((hrzs.below bl4).more bl4.size) hno).mono ?_
    rintro e w5 ⟨AC3, cC3, rfl, oC35, b5⟩
    have z5 := b5.size
    have bl5 : Below w.heap.size w w5 := bl4.trans (b5.mono bl4.size)
    have oC25 := owz_below oC24 b5
    have HIC3 := Lib.hid (owz_in oC35)
    clear oC24 bl4 b5
    go_wp2_with fail
    refine (eqI_k zs _ _ _ _ w5 w5.heap.size (Rd.ownz oC25) (Rd.ownz oC35) hno).mono ?_
    rintro e w6 ⟨rfl, b6⟩
    have z6 := b6.size
    have bl6 : Below w.heap.size w w6 := bl5.trans (b6.mono bl5.size)
    have oC26 := owz_below oC25 b6
    have oC36 := owz_below oC35 b6
    clear oC25 oC35 bl5 b6
    clear oC36
    clear oC26
    go_wp2
    go_ret
    exact ⟨rfl, bl6⟩
  · have hno2 : 1048576 < zs.length := by omega
    go_enter Try.func8, Try.ntmps8
    go_wp2
    go_ret
    exact ⟨rfl, Below.refl _ _⟩

set_option maxRecDepth 100000 in
theorem lifted (os : Os) (started : os.Started) (H : Type) (enc : TypeId × Value → H) :
    ReturnsInHanded {} Try.checked os 8 .any (Rows.fnExactGainOfSpec.pre6 enc Try.prog Try.f8 Rows.fnExactGainOfRow.domain false) (Rows.fnExactGainOfSpec.post enc Try.prog Try.f8 false true false false) := by
  refine returnsInHanded_of_change (C := Try.checked) ownNone started (by kernel_rfl) Try.func8
    (ChangeSpec.witness6 (enc := enc) (C := Try.checked) false ⟨#[], #[.slice none 0 0, .int .i64 0, .int .i64 0, .int .i64 0], []⟩ 8 (by kernel_rfl) (by kernel_rfl) (by kernel_rfl) (by kernel_rfl)) ?_
  intro W base args ds gs before hval0 hW hcnd _
  have hval : ∀ (j : Nat) t v, Try.f8.params[j]? = some t → args[j]? = some v → Value.okWide Try.prog W .any base t v := hval0
  have hW' := hW
  obtain ⟨p, q, hA0, hV, rfl, _, _⟩ := hW
  have hA : DataW.TrodAll enc Try.prog W 0 (fun _ => true) true Try.f8.params.toList args.toList ds p := hA0
  rw [Try.params8] at hA hval
  obtain ⟨v0, vs0, d0, ds0, p0, q0, hargs, rfl, rfl, h0, r0⟩ := trodAll_cons hA
  obtain ⟨v1, vs1, d1, ds1, p1, q1, rfl, rfl, rfl, h1, r1⟩ := trodAll_cons r0
  obtain ⟨v2, vs2, d2, ds2, p2, q2, rfl, rfl, rfl, h2, r2⟩ := trodAll_cons r1
  obtain ⟨v3, vs3, d3, ds3, p3, q3, rfl, rfl, rfl, h3, r3⟩ := trodAll_cons r2
  obtain ⟨rfl, rfl, rfl⟩ := trodAll_nil r3
  obtain rfl : args = #[v0, v1, v2, v3] := by cases args; simp_all
  obtain ⟨rfl, rfl⟩ := trodVars_none hV
  obtain ⟨Azs, czs, zs, rfl, hrzs, hlzs, _⟩ := open_rd Try.underlying29 Try.underlying3 cellsInt (hval 0 29 v0 rfl rfl) h0
  obtain ⟨n, rfl, rfl, rfl, w1⟩ := open_int Try.underlying3 (hval 1 3 v1 rfl rfl) h1
  obtain ⟨pi, rfl, rfl, rfl, w2⟩ := open_int Try.underlying3 (hval 2 3 v2 rfl rfl) h2
  obtain ⟨wo, rfl, rfl, rfl, w3⟩ := open_int Try.underlying3 (hval 3 3 v3 rfl rfl) h3
  clear hA0 hval0
  refine (walk W zs Azs czs hrzs hlzs n pi wo).mono fun e W' ⟨he, hg⟩ => ?_
  subst he
  exact ⟨_, rfl, law_post laidOut (by kernel_rfl) rfl rfl rfl rfl rfl Try.underlying4 hW' hg⟩

/-- The statement. -/
theorem proved : Rows.FnExactGainOfSaid :=
  OpenClaim.holds_of_wide 8 Try.f8 rfl rfl rfl rfl rfl rfl rfl ⟨rfl, rfl, rfl, rfl, rfl⟩ rfl rfl rfl rfl rfl (by kernel_rfl) Try.func8 (by kernel_rfl)
    (of_decide_eq_true (by kernel_rfl)) (by unfold Func.isWrapper; first | (rw [if_pos (by decide +kernel)]; kernel_rfl) | (rw [if_neg (by decide +kernel)]; exact ⟨rfl, rfl⟩))
    (fun os started H enc _ => lifted os started H enc)
#print axioms proved
end fnExactGainOf

end Go.Proofs.Ytiihenhddleooab

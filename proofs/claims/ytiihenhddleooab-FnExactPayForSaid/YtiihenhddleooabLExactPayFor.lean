/- The law FnExactPayFor: for every argument the program answers as its model; the arguments read as they read before. No condition. -/
import Derived.Test.YtiihenhddleooabTHeld
import Derived.Test.YtiihenhddleooabTPay
import Derived.Test.YtiihenhddleooabLaw
namespace Go.Proofs.Ytiihenhddleooab
open Go.RowKit
set_option linter.unusedVariables false
set_option linter.unusedSimpArgs false

namespace fnExactPayFor
open Go.ChangeShapes Go.WideShapes Go.ChangeAt Go.RowKit
set_option maxRecDepth 100000 in
set_option maxHeartbeats 800000 in
set_option maxRecDepth 100000 in
set_option maxRecDepth 100000 in
set_option maxHeartbeats 8000000 in
theorem walk (w : World) (cs : List Cu) (Acs : Option Addr) (ccs : Nat) (hrcs : Rd w w.heap.size Acs (custV cs)) (hlcs : cs.length ≤ ccs ∧ ccs ≤ maxLen) (th : Int) :
    Calls Try.prog 10 #[.slice Acs cs.length ccs, .int .i64 th] w fun e w' => e = .returned (.bool true) ∧ Below w.heap.size w w' := by
  have hn0 : cs.length ≤ maxLen := Nat.le_trans hlcs.1 hlcs.2
  go_enter Try.func10, Try.ntmps10
  go_wp2_with fail
  refine (szClauS_any _ _ _ hn0 _).mono ?_
  rintro e w' ⟨⟨z, rfl, hz⟩, rfl⟩
  rcases hz with rfl | ⟨hz0, hsz⟩
  · go_wp2
    go_ret
    exact ⟨rfl, Below.refl _ _⟩
  · have hz1 : ¬ z < 0 := by omega
    go_wp2_with fail
    refine (toClauS_any _ cs rfl _ _ w hrcs hsz).mono ?_
    rintro e w1 ⟨AC1, cC1, rfl, oC11, b1⟩
    have z1 := b1.size
    have bl1 : Below w.heap.size w w1 := (Below.refl w.heap.size w).trans (b1.mono (Nat.le_refl _))
    have HIC1 := Lib.hid (owz_in oC11)
    clear b1
    go_wp2_with fail
    refine (sPay_any _ cs rfl AC1 cC1 hn0 w1 (Rd.ownz oC11) th).mono ?_
    rintro e w2 ⟨rfl, b2⟩
    have z2 := b2.size
    have bl2 : Below w.heap.size w w2 := bl1.trans (b2.mono bl1.size)
    have oC12 := owz_below oC11 b2
    clear oC11 bl1 b2
    clear oC12
    go_wp2_with fail
    refine (toClauS_any _ cs rfl _ _ w2 ((hrcs.below bl2).more bl2.size) hsz).mono ?_
    rintro e w3 ⟨AC2, cC2, rfl, oC23, b3⟩
    have z3 := b3.size
    have bl3 : Below w.heap.size w w3 := bl2.trans (b3.mono bl2.size)
    have HIC2 := Lib.hid (owz_in oC23)
    clear bl2 b3
    go_wp2_with fail
    refine (iPay_any _ cs rfl AC2 cC2 hn0 w3 (Rd.ownz oC23) th).mono ?_
    rintro e w4 ⟨rfl, b4⟩
    have z4 := b4.size
    have bl4 : Below w.heap.size w w4 := bl3.trans (b4.mono bl3.size)
    have oC24 := owz_below oC23 b4
    clear oC23 bl3 b4
    generalize hVAL : payT cs th = q0 at *
    clear hVAL
    go_wp2_with fail
    refine (toClauS_any _ cs rfl _ _ w4 ((hrcs.below bl4).more bl4.size) hsz).mono ?_
    rintro e w5 ⟨AC3, cC3, rfl, oC35, b5⟩
    have z5 := b5.size
    have bl5 : Below w.heap.size w w5 := bl4.trans (b5.mono bl4.size)
    have oC25 := owz_below oC24 b5
    have HIC3 := Lib.hid (owz_in oC35)
    clear oC24 bl4 b5
    go_wp2_with fail
    refine (eqClauS_same _ cs rfl _ _ _ _ w5 _ (Nat.le_refl _) (Rd.ownz oC25) (Rd.ownz oC35) hsz).mono ?_
    rintro e w6 ⟨rfl, b6⟩
    have z6 := b6.size
    have bl6 : Below w.heap.size w w6 := bl5.trans (b6.mono bl5.size)
    have oC26 := owz_below oC25 b6
    have oC36 := owz_below oC35 b6
    clear oC25 oC35 bl5 b6
    clear oC36
    clear oC26
    go_wp2
    go_ret
    exact ⟨rfl, bl6⟩

set_option maxRecDepth 100000 in
theorem lifted (os : Os) (started : os.Started) (H : Type) (enc : TypeId × Value → H) :
    ReturnsInHanded {} Try.checked os 10 .any (Rows.fnExactPayForSpec.pre6 enc Try.prog Try.f10 Rows.fnExactPayForRow.domain false) (Rows.fnExactPayForSpec.post enc Try.prog Try.f10 false true false false) := by
  refine returnsInHanded_of_change (C := Try.checked) ownNone started (by kernel_rfl) Try.func10
    (ChangeSpec.witness6 (enc := enc) (C := Try.checked) false ⟨#[], #[.slice none 0 0, .int .i64 0], []⟩ 8 (by kernel_rfl) (by kernel_rfl) (by kernel_rfl) (by kernel_rfl)) ?_
  intro W base args ds gs before hval0 hW hcnd _
  have hval : ∀ (j : Nat) t v, Try.f10.params[j]? = some t → args[j]? = some v → Value.okWide Try.prog W .any base t v := hval0
  have hW' := hW
  obtain ⟨p, q, hA0, hV, rfl, _, _⟩ := hW
  have hA : DataW.TrodAll enc Try.prog W 0 (fun _ => true) true Try.f10.params.toList args.toList ds p := hA0
  rw [Try.params10] at hA hval
  obtain ⟨v0, vs0, d0, ds0, p0, q0, hargs, rfl, rfl, h0, r0⟩ := trodAll_cons hA
  obtain ⟨v1, vs1, d1, ds1, p1, q1, rfl, rfl, rfl, h1, r1⟩ := trodAll_cons r0
  obtain ⟨rfl, rfl, rfl⟩ := trodAll_nil r1
  obtain rfl : args = #[v0, v1] := by cases args; simp_all
  obtain ⟨rfl, rfl⟩ := trodVars_none hV
  obtain ⟨Acs, ccs, cs, rfl, hrcs, hlcs⟩ := Opn.open_rdL Try.underlying40 (hval 0 40 v0 rfl rfl) h0
  obtain ⟨th, rfl, rfl, rfl, w1⟩ := open_int Try.underlying3 (hval 1 3 v1 rfl rfl) h1
  clear hA0 hval0
  refine (walk W cs Acs ccs hrcs hlcs th).mono fun e W' ⟨he, hg⟩ => ?_
  subst he
  exact ⟨_, rfl, law_post laidOut (by kernel_rfl) rfl rfl rfl rfl rfl Try.underlying4 hW' hg⟩

/-- The statement. -/
theorem proved : Rows.FnExactPayForSaid :=
  OpenClaim.holds_of_wide 10 Try.f10 rfl rfl rfl rfl rfl rfl rfl ⟨rfl, rfl, rfl, rfl, rfl⟩ rfl rfl rfl rfl rfl (by kernel_rfl) Try.func10 (by kernel_rfl)
    (of_decide_eq_true (by kernel_rfl)) (by unfold Func.isWrapper; first | (rw [if_pos (by decide +kernel)]; kernel_rfl) | (rw [if_neg (by decide +kernel)]; exact ⟨rfl, rfl⟩))
    (fun os started H enc _ => lifted os started H enc)
#print axioms proved
end fnExactPayFor

end Go.Proofs.Ytiihenhddleooab

/- The law FnExactMostCakes: for every argument the program answers as its model; the arguments read as they read before. No condition. -/
import Derived.Test.YtiihenhddleooabCMostA
import Derived.Test.YtiihenhddleooabLaw
namespace Go.Proofs.Ytiihenhddleooab
open Go.RowKit
set_option linter.unusedVariables false
set_option linter.unusedSimpArgs false

namespace fnExactMostCakes
open Go.ChangeShapes Go.WideShapes Go.ChangeAt Go.RowKit
set_option maxRecDepth 100000 in
set_option maxHeartbeats 800000 in
set_option maxRecDepth 100000 in
set_option maxRecDepth 100000 in
set_option maxHeartbeats 8000000 in
theorem walk (w : World) (ff : List (List Bool)) (Aff : Option Addr) (cff : Nat) (hgff : RdF w w.heap.size Aff ff) (hlff : ff.length ≤ cff ∧ cff ≤ maxLen) (a : Int) (h : Int) :
    Calls Try.prog 13 #[.slice Aff ff.length cff, .int .i64 a, .int .i64 h] w fun e w' => e = .returned (.bool true) ∧ Below w.heap.size w w' := by
  have hn0 : ff.length ≤ maxLen := Nat.le_trans hlff.1 hlff.2
  go_enter Try.func13, Try.ntmps13
  go_wp2_with fail
  refine (szBoolSS_any ff _ _ _ _ hgff hn0).mono ?_
  rintro e w' ⟨⟨z, rfl, hz⟩, rfl⟩
  rcases hz with rfl | ⟨hz0, hsz⟩
  · go_wp2
    go_ret
    exact ⟨rfl, Below.refl _ _⟩
  · have hz1 : ¬ z < 0 := by omega
    have hn : ff.length ≤ 1048576 := by unfold sizesF at hsz; omega
    go_wp2_with fail
    refine (toBoolSS_any ff _ _ _ hgff hsz).mono ?_
    rintro e w1 ⟨A1, c1, xs1, rfl, o1, b1⟩
    have hg1 := (hgff.below b1).more b1.size
    have hq1 := o1.cap
    go_wp2_with fail
    refine (sMost_T ff A1 c1 hq1 w1 o1.rd hn a h).mono ?_
    rintro e w2 ⟨rfl, b2⟩
    have hg2 := (hg1.below b2).more b2.size
    go_wp2_with fail
    refine (toBoolSS_any ff _ _ _ hg2 hsz).mono ?_
    rintro e w3 ⟨A3, c3, xs3, rfl, o3, b3⟩
    have hg3 := (hg2.below b3).more b3.size
    have hq3 := o3.cap
    go_wp2_with fail
    refine (iMost_T ff A3 c3 hq3 w3 o3.rd a h).mono ?_
    rintro e w4 ⟨rfl, b4⟩
    have hg4 := (hg3.below b4).more b4.size
    have o34 := o3.below (Nat.le_refl _) b4
    have z1 := b1.size
    have z2 := b2.size
    have z3 := b3.size
    have z4 := b4.size
    have bl4 : Below w.heap.size w w4 := ((b1.trans (b2.mono b1.size)).trans (b3.mono (by omega))).trans (b4.mono (by omega))
    clear hg1 hg2 hg3 b1 b2 b3 b4 o1 o3
    generalize mostT ff a h = q at *
    go_wp2_with fail
    refine (toBoolSS_any ff _ _ _ hg4 hsz).mono ?_
    rintro e w6 ⟨A6, c6, xs6, rfl, o6, b6⟩
    have o36 := o34.below (by omega) b6
    have bl6 : Below w.heap.size w w6 := bl4.trans (b6.mono (by omega))
    go_wp2_with fail
    refine (eqBoolSS_same ff _ _ _ _ _ _ o36.rd o6.rd hsz).mono ?_
    rintro e w' ⟨rfl, n7, rfl⟩
    go_wp2
    go_ret
    exact ⟨rfl, below_drewN bl6 n7⟩

set_option maxRecDepth 100000 in
theorem lifted (os : Os) (started : os.Started) (H : Type) (enc : TypeId × Value → H) :
    ReturnsInHanded {} Try.checked os 13 .any (Rows.fnExactMostCakesSpec.pre6 enc Try.prog Try.f13 Rows.fnExactMostCakesRow.domain false) (Rows.fnExactMostCakesSpec.post enc Try.prog Try.f13 false true false false) := by
  refine returnsInHanded_of_change (C := Try.checked) ownNone started (by kernel_rfl) Try.func13
    (ChangeSpec.witness6 (enc := enc) (C := Try.checked) false ⟨#[], #[.slice none 0 0, .int .i64 0, .int .i64 0], []⟩ 8 (by kernel_rfl) (by kernel_rfl) (by kernel_rfl) (by kernel_rfl)) ?_
  intro W base args ds gs before hval0 hW hcnd _
  have hval : ∀ (j : Nat) t v, Try.f13.params[j]? = some t → args[j]? = some v → Value.okWide Try.prog W .any base t v := hval0
  have hW' := hW
  obtain ⟨p, q, hA0, hV, rfl, _, _⟩ := hW
  have hA : DataW.TrodAll enc Try.prog W 0 (fun _ => true) true Try.f13.params.toList args.toList ds p := hA0
  rw [Try.params13] at hA hval
  obtain ⟨v0, vs0, d0, ds0, p0, q0, hargs, rfl, rfl, h0, r0⟩ := trodAll_cons hA
  obtain ⟨v1, vs1, d1, ds1, p1, q1, rfl, rfl, rfl, h1, r1⟩ := trodAll_cons r0
  obtain ⟨v2, vs2, d2, ds2, p2, q2, rfl, rfl, rfl, h2, r2⟩ := trodAll_cons r1
  obtain ⟨rfl, rfl, rfl⟩ := trodAll_nil r2
  obtain rfl : args = #[v0, v1, v2] := by cases args; simp_all
  obtain ⟨rfl, rfl⟩ := trodVars_none hV
  obtain ⟨Aff, cff, ff, rfl, hgff, hlff⟩ := Opn.open_rdF Try.underlying52 Try.underlying84 Try.underlying4 cellsBools cellsBool (hval 0 52 v0 rfl rfl) h0
  obtain ⟨a, rfl, rfl, rfl, w1⟩ := open_int Try.underlying3 (hval 1 3 v1 rfl rfl) h1
  obtain ⟨h, rfl, rfl, rfl, w2⟩ := open_int Try.underlying3 (hval 2 3 v2 rfl rfl) h2
  clear hA0 hval0
  refine (walk W ff Aff cff hgff hlff a h).mono fun e W' ⟨he, hg⟩ => ?_
  subst he
  exact ⟨_, rfl, law_post laidOut (by kernel_rfl) rfl rfl rfl rfl rfl Try.underlying4 hW' hg⟩

/-- The statement. -/
theorem proved : Rows.FnExactMostCakesSaid :=
  OpenClaim.holds_of_wide 13 Try.f13 rfl rfl rfl rfl rfl rfl rfl ⟨rfl, rfl, rfl, rfl, rfl⟩ rfl rfl rfl rfl rfl (by kernel_rfl) Try.func13 (by kernel_rfl)
    (of_decide_eq_true (by kernel_rfl)) (by unfold Func.isWrapper; first | (rw [if_pos (by decide +kernel)]; kernel_rfl) | (rw [if_neg (by decide +kernel)]; exact ⟨rfl, rfl⟩))
    (fun os started H enc _ => lifted os started H enc)
#print axioms proved
end fnExactMostCakes

end Go.Proofs.Ytiihenhddleooab

/- The law FnExactValidPond: for every argument the program answers as its model; the argument reads as it read before. No condition. -/
import Derived.Test.YtodblepldkfagabExactW
import Derived.Test.YtodblepldkfagabLaw
namespace Go.Proofs.Ytodblepldkfagab
open Go.RowKit
set_option linter.unusedVariables false
set_option linter.unusedSimpArgs false

namespace fnExactValidPond
open Go.ChangeShapes Go.WideShapes Go.ChangeAt Go.RowKit
set_option maxHeartbeats 800000 in
theorem walk (w : World) (pp : List (List Int)) (App : Option Addr) (cpp : Nat) (hgpp : RdG w w.heap.size App pp) (hlpp : pp.length ≤ cpp ∧ cpp ≤ maxLen) :
    Calls Try.prog 5 #[.slice App pp.length cpp] w fun e w' => e = .returned (.bool true) ∧ Below w.heap.size w w' := by
  have hn0 : pp.length ≤ maxLen := Nat.le_trans hlpp.1 hlpp.2
  go_enter Try.func5, Try.ntmps5
  go_wp2_with fail
  refine (szIntSS_any pp _ _ _ _ hgpp hn0).mono ?_
  rintro e w' ⟨⟨z, rfl, hz⟩, rfl⟩
  rcases hz with rfl | ⟨hz0, hsz⟩
  · go_wp2
    go_ret
    exact ⟨rfl, Below.refl _ _⟩
  · have hz1 : ¬ z < 0 := by omega
    have hn : pp.length ≤ 1048576 := by unfold sizes at hsz; omega
    go_wp2_with fail
    refine (toIntSS_any pp _ _ _ hgpp hsz).mono ?_
    rintro e w1 ⟨A1, c1, xs1, rfl, o1, b1⟩
    have hg1 := (hgpp.below b1).more b1.size
    go_wp2_with fail
    refine (sValidPond_any pp A1 c1 w1 _ o1.rd hn).mono ?_
    rintro e w' ⟨rfl, n2, rfl⟩
    have hg2 : RdG (w1.drewN n2) (w1.drewN n2).heap.size App pp := hg1.drewN n2
    go_wp2_with fail
    refine (toIntSS_any pp _ _ _ hg2 hsz).mono ?_
    rintro e w3 ⟨A3, c3, xs3, rfl, o3, b3⟩
    have b3' : Below w1.heap.size w1 w3 := (below_drewN (Below.refl _ _) n2).trans b3
    have hg3 := (hg1.below b3').more b3'.size
    go_wp2_with fail
    refine (iValid_any pp A3 c3 w3 _ o3.rd).mono ?_
    rintro e w' ⟨rfl, rfl⟩
    generalize pondB pp = q at *
    go_wp2_with fail
    refine (toIntSS_any pp _ _ _ hg3 hsz).mono ?_
    rintro e w6 ⟨A6, c6, xs6, rfl, o6, b6⟩
    have o36 := o3.below (Nat.le_refl _) b6
    have bl6 : Below w.heap.size w w6 := (b1.trans (b3'.mono b1.size)).trans (b6.mono (by have := b1.size; have := b3'.size; omega))
    go_wp2_with fail
    refine (eqIntSS_same pp _ _ _ _ _ _ o36.rd o6.rd hsz).mono ?_
    rintro e w' ⟨rfl, n7, rfl⟩
    cases q
    all_goals
      go_wp2
      go_ret
      exact ⟨rfl, below_drewN bl6 n7⟩

set_option maxRecDepth 100000 in
theorem lifted (os : Os) (started : os.Started) (H : Type) (enc : TypeId × Value → H) :
    ReturnsInHanded {} Try.checked os 5 .any (Rows.fnExactValidPondSpec.pre6 enc Try.prog Try.f5 Rows.fnExactValidPondRow.domain false) (Rows.fnExactValidPondSpec.post enc Try.prog Try.f5 false true false false) := by
  refine returnsInHanded_of_change (C := Try.checked) ownNone started (by kernel_rfl) Try.func5
    (ChangeSpec.witness6 (enc := enc) (C := Try.checked) false ⟨#[], #[.slice none 0 0], []⟩ 8 (by kernel_rfl) (by kernel_rfl) (by kernel_rfl) (by kernel_rfl)) ?_
  intro W base args ds gs before hval0 hW hcnd _
  have hval : ∀ (j : Nat) t v, Try.f5.params[j]? = some t → args[j]? = some v → Value.okWide Try.prog W .any base t v := hval0
  have hW' := hW
  obtain ⟨p, q, hA0, hV, rfl, _, _⟩ := hW
  have hA : DataW.TrodAll enc Try.prog W 0 (fun _ => true) true Try.f5.params.toList args.toList ds p := hA0
  rw [Try.params5] at hA hval
  obtain ⟨v0, vs0, d0, ds0, p0, q0, hargs, rfl, rfl, h0, r0⟩ := trodAll_cons hA
  obtain ⟨rfl, rfl, rfl⟩ := trodAll_nil r0
  obtain rfl : args = #[v0] := by cases args; simp_all
  obtain ⟨rfl, rfl⟩ := trodVars_none hV
  obtain ⟨App, cpp, pp, rfl, hgpp, hlpp⟩ := Opn.open_rdG Try.underlying23 Try.underlying26 Try.underlying3 cellsInts cellsInt (hval 0 23 v0 rfl rfl) h0
  clear hA0 hval0
  refine (walk W pp App cpp hgpp hlpp).mono fun e W' ⟨he, hg⟩ => ?_
  subst he
  exact ⟨_, rfl, law_post laidOut (by kernel_rfl) rfl rfl rfl rfl rfl Try.underlying4 hW' hg⟩

/-- The statement. -/
theorem proved : Rows.FnExactValidPondSaid :=
  OpenClaim.holds_of_wide 5 Try.f5 rfl rfl rfl rfl rfl rfl rfl ⟨rfl, rfl, rfl, rfl, rfl⟩ rfl rfl rfl rfl rfl (by kernel_rfl) Try.func5 (by kernel_rfl)
    (of_decide_eq_true (by kernel_rfl)) (by unfold Func.isWrapper; first | (rw [if_pos (by decide +kernel)]; kernel_rfl) | (rw [if_neg (by decide +kernel)]; exact ⟨rfl, rfl⟩))
    (fun os started H enc _ => lifted os started H enc)
#print axioms proved
end fnExactValidPond

end Go.Proofs.Ytodblepldkfagab

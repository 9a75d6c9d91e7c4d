/- The law FnExactColdestSpell: for every argument the program answers as its model; the arguments read as they read before. No condition. -/
import Derived.Test.YthccmpbklhlohabSpell
import Derived.Test.YthccmpbklhlohabInts
import Derived.Test.YthccmpbklhlohabLaw
namespace Go.Proofs.Ythccmpbklhlohab
open Go.RowKit
set_option linter.unusedVariables false
set_option linter.unusedSimpArgs false

namespace fnExactColdestSpell
open Go.ChangeShapes Go.WideShapes Go.ChangeAt Go.RowKit
set_option maxHeartbeats 800000 in
theorem walk (w : World) (zs : List Int) (Azs : Option Addr) (czs : Nat) (hr : Rd w w.heap.size Azs (ints zs)) :
    Calls Try.prog 14 #[.slice Azs zs.length czs] w fun e w' => e = .returned (.bool true) ∧ Below w.heap.size w w' := by
  by_cases hn : zs.length ≤ 1048576
  · go_enter Try.func14, Try.ntmps14
    go_wp2_with fail
    refine (toIntS_any zs _ _ _ hr hn).mono ?_
    rintro e w1 ⟨A1, c1, rfl, o1, b1⟩
    have r1 := Rd.own o1
    have hr1 := (hr.below b1).more b1.size
    go_wp2_with fail
    refine (sSpell_any zs _ _ _ _ r1).mono ?_
    rintro e w' ⟨rfl, rfl⟩
    go_wp2_with fail
    refine (toIntS_any zs _ _ _ hr1 hn).mono ?_
    rintro e w2 ⟨A2, c2, rfl, o2, b2⟩
    have r2 := Rd.own o2
    have hr2 := (hr1.below b2).more b2.size
    go_wp2_with fail
    refine (iSpell_any zs _ _ _ _ r2).mono ?_
    rintro e w' ⟨rfl, rfl⟩
    go_wp2_with fail
    refine (toIntS_any zs _ _ _ hr2 hn).mono ?_
    rintro e w3 ⟨A3, c3, rfl, o3, b3⟩
    have r3 := Rd.own o3
    have r23 := (r2.below b3).more b3.size
    go_wp2_with fail
    refine (eqIntS_same zs _ _ _ _ _ _ r23 r3 hn).mono ?_
    rintro e w' ⟨rfl, n, rfl⟩
    go_wp2
    go_ret
    exact ⟨rfl, below_drewN ((b1.trans (b2.mono b1.size)).trans (b3.mono (Nat.le_trans b1.size b2.size))) n⟩
  · have hn' : 1048576 < zs.length := by omega
    go_enter Try.func14, Try.ntmps14
    go_wp2
    go_ret
    exact ⟨rfl, Below.refl _ _⟩

set_option maxRecDepth 100000 in
theorem lifted (os : Os) (started : os.Started) (H : Type) (enc : TypeId × Value → H) :
    ReturnsInHanded {} Try.checked os 14 .any (Rows.fnExactColdestSpellSpec.pre6 enc Try.prog Try.f14 Rows.fnExactColdestSpellRow.domain false) (Rows.fnExactColdestSpellSpec.post enc Try.prog Try.f14 false true false false) := by
  refine returnsInHanded_of_change (C := Try.checked) ownNone started (by kernel_rfl) Try.func14
    (ChangeSpec.witness6 (enc := enc) (C := Try.checked) false ⟨#[], #[.slice none 0 0], []⟩ 8 (by kernel_rfl) (by kernel_rfl) (by kernel_rfl) (by kernel_rfl)) ?_
  intro W base args ds gs before hval0 hW hcnd _
  have hval : ∀ (j : Nat) t v, Try.f14.params[j]? = some t → args[j]? = some v → Value.okWide Try.prog W .any base t v := hval0
  have hW' := hW
  obtain ⟨p, q, hA0, hV, rfl, _, _⟩ := hW
  have hA : DataW.TrodAll enc Try.prog W 0 (fun _ => true) true Try.f14.params.toList args.toList ds p := hA0
  rw [Try.params14] at hA hval
  obtain ⟨v0, vs0, d0, ds0, p0, q0, hargs, rfl, rfl, h0, r0⟩ := trodAll_cons hA
  obtain ⟨rfl, rfl, rfl⟩ := trodAll_nil r0
  obtain rfl : args = #[v0] := by cases args; simp_all
  obtain ⟨rfl, rfl⟩ := trodVars_none hV
  obtain ⟨Azs, czs, zs, rfl, hrzs, _, _⟩ := open_rd Try.underlying23 Try.underlying3 cellsInt (hval 0 23 v0 rfl rfl) h0
  clear hA0 hval0
  refine (walk W zs Azs czs hrzs).mono fun e W' ⟨he, hg⟩ => ?_
  subst he
  exact ⟨_, rfl, law_post laidOut (by kernel_rfl) rfl rfl rfl rfl rfl Try.underlying4 hW' hg⟩

/-- The statement. -/
theorem proved : Rows.FnExactColdestSpellSaid :=
  OpenClaim.holds_of_wide 14 Try.f14 rfl rfl rfl rfl rfl rfl rfl ⟨rfl, rfl, rfl, rfl, rfl⟩ rfl rfl rfl rfl rfl (by kernel_rfl) Try.func14 (by kernel_rfl)
    (of_decide_eq_true (by kernel_rfl)) (by unfold Func.isWrapper; first | (rw [if_pos (by decide +kernel)]; kernel_rfl) | (rw [if_neg (by decide +kernel)]; exact ⟨rfl, rfl⟩))
    (fun os started H enc _ => lifted os started H enc)
#print axioms proved
end fnExactColdestSpell

end Go.Proofs.Ythccmpbklhlohab

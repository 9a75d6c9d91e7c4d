/- The law FnFacesOf: for every code it answers true, and the code reads as it read before. No condition. -/
import Derived.Test.YtbnggakfogcalaaHLaw
import Derived.Test.YtbnggakfogcalaaHDraws
import Derived.Test.YtbnggakfogcalaaLaw
namespace Go.Proofs.Ytbnggakfogcalaa
open Go.RowKit
set_option linter.unusedVariables false
set_option linter.unusedSimpArgs false

namespace fnFacesOf
open Go.ChangeShapes Go.WideShapes Go.ChangeAt Go.RowKit
set_option maxRecDepth 100000 in
set_option maxHeartbeats 800000 in
set_option maxRecDepth 100000 in
set_option maxRecDepth 100000 in
set_option maxHeartbeats 8000000 in
theorem walk (w : World) (cs : List Int) (Acs : Option Addr) (ccs : Nat) (hrcs : Rd w w.heap.size Acs (bytes cs)) (hbcs : ∀ z ∈ cs, 0 ≤ z ∧ z ≤ 255) (hlcs : cs.length ≤ ccs ∧ ccs ≤ maxLen) :
    Calls Try.prog 5 #[.slice Acs cs.length ccs] w fun e w' => e = .returned (.bool true) ∧ Below w.heap.size w w' := by
  by_cases hn : cs.length ≤ 1048576
  · go_enter Try.func5, Try.ntmps5
    go_wp2_with fail
    refine (dFacesOf _ _ _ _ hrcs hbcs hlcs.1 hlcs.2).mono ?_
    rintro e w1 ⟨pp, Ap, cp, rfl, ⟨hpl, hpc, hcm, hg⟩, b1⟩
    have hn1 : pp.length ≤ 1048576 := by omega
    go_wp2_with fail
    refine (iFaces_b pp Ap cp w1 hg).mono ?_
    rintro e w2 ⟨rfl, b2⟩
    have hg2 := hg.up b2
    go_wp2_with fail
    refine (sFaces_b pp Ap cp w2 hg2 hn1).mono ?_
    rintro e w3 ⟨rfl, b3⟩
    have hg3 := hg2.up b3
    have bl3 : Below w.heap.size w w3 := (b1.trans (b2.mono b1.size)).trans (b3.mono (by have := b1.size; have := b2.size; omega))
    clear b1 b2 b3 hg hg2
    cases hv : heapB pp
    · have e0 := facesT_no hv
      have HS := Lib.hid (sFaces_b pp Ap cp w3 hg3 hn1)
      rw [e0] at HS ⊢
      clear e0 hv
      go_wp2_with fail
      refine (HS.out).mono ?_
      rintro e w4 ⟨rfl, b4⟩
      have bl4 := bl3.trans (b4.mono bl3.size)
      clear b4
      go_wp2
      go_ret
      exact ⟨rfl, bl4⟩
    · have e0 := facesT_ok hv
      have hcb := cakes_bd hv
      have hfb := faces_bd hv
      rw [e0]
      have HC := Lib.hid (iCakesH_any pp Ap cp w3 _ hg3)
      rw [cakesHT_ok hv] at HC
      have HT1 := Lib.hid (tpH_any pp hv (Lib.hid rfl) Ap cp w3 hg3)
      have HF1 : Hid (∀ A' c' w', RdG w' w'.heap.size A' (tpF pp) → Calls Try.prog 18 #[.slice A' (tpF pp).length c'] w' fun e w'' => e = .returned (.int .i64 (facesF pp)) ∧ w' = w'') := Lib.hid fun A' c' w' h => by
        have h2 := iFaces_any (tpF pp) A' c' w' _ h
        rw [facesT_ok (heap_turned hv), tp_faces hv] at h2
        exact h2
      have hfive : cakesF pp = 0 ∧ facesF pp = 0 ∨ 1 ≤ cakesF pp ∧ 5 ≤ facesF pp := by
        by_cases h : cakesF pp = 0
        · exact .inl ⟨h, faces_none hv h⟩
        · exact .inr ⟨by omega, faces_five hv (by omega)⟩
      clear hv e0 hg3
      generalize cakesF pp = q at *
      generalize facesF pp = f at *
      generalize (tpF pp).length = T at *
      rcases hfive with ⟨rfl, rfl⟩ | ⟨hq, hf⟩
      · skip
        go_wp2_with fail
        refine (HC.out).mono ?_
        rintro e w' ⟨rfl, rfl⟩
        go_wp2_with fail
        refine (HT1.out).mono ?_
        rintro e w5 ⟨A5, c5, rfl, g5, b5⟩
        have bl5 := bl3.trans (b5.mono bl3.size)
        go_wp2_with fail
        refine (HF1.out A5 c5 w5 g5).mono ?_
        rintro e w' ⟨rfl, rfl⟩
        clear g5 b5
        go_wp2
        go_ret
        exact ⟨rfl, bl5⟩
      · have n0 : (q == 0) = false := beq_eq_false_iff_ne.2 (by omega)
        have f0 : (f == 0) = false := beq_eq_false_iff_ne.2 (by omega)
        have n1 : ¬ q = 0 := by omega
        have hf5 : f ≤ 5 * q := hfb.2.2
        go_wp2_with fail
        refine (HC.out).mono ?_
        rintro e w' ⟨rfl, rfl⟩
        go_wp2_with fail
        refine (HT1.out).mono ?_
        rintro e w5 ⟨A5, c5, rfl, g5, b5⟩
        have bl5 := bl3.trans (b5.mono bl3.size)
        go_wp2_with fail
        refine (HF1.out A5 c5 w5 g5).mono ?_
        rintro e w' ⟨rfl, rfl⟩
        clear g5 b5
        go_wp2
        go_ret
        exact ⟨rfl, bl5⟩
  · have hn' : 1048576 < cs.length := by omega
    go_enter Try.func5, Try.ntmps5
    go_wp2
    go_ret
    exact ⟨rfl, Below.refl _ _⟩

set_option maxRecDepth 100000 in
theorem lifted (os : Os) (started : os.Started) (H : Type) (enc : TypeId × Value → H) :
    ReturnsInHanded {} Try.checked os 5 .any (Rows.fnFacesOfSpec.pre6 enc Try.prog Try.f5 Rows.fnFacesOfRow.domain false) (Rows.fnFacesOfSpec.post enc Try.prog Try.f5 false true false false) := by
  refine returnsInHanded_of_change (C := Try.checked) ownNone started (by kernel_rfl) Try.func5
    (ChangeSpec.witness6 (enc := enc) (C := Try.checked) false ⟨#[], #[.slice none 0 0], []⟩ 8 (by kernel_rfl) (by kernel_rfl) (by kernel_rfl) (by kernel_rfl)) ?_
  intro W base args ds gs before hval0 hW hcnd _
  have hval : ∀ (j : Nat) t v, Try.f5.params[j]? = some t → args[j]? = some v → Value.okWide Try.prog W .any base t v := hval0
  have hW' := hW
  obtain ⟨p, q, hA0, hV, rfl, _, _⟩ := hW
  have hA : DataW.TrodAll enc Try.prog W 0 (fun _ => true) true Try.f5.params.toList args.toList ds p := hA0
  rw [Try.params5] at hA hval
  obtain ⟨v0, vs0, d0, ds0, p0, q0, hargs, rfl, rfl, h0, r0⟩ := trodAll_cons hA
  obtain ⟨rfl, rfl, rfl⟩ := trodAll_nil r0
  obtain rfl : args = #[v0] := by cases args; simp_all
  obtain ⟨rfl, rfl⟩ := trodVars_none hV
  obtain ⟨Acs, ccs, cs, rfl, hrcs, hlcs, hqcs⟩ := open_rd Try.underlying22 Try.underlying5 cellsByte (hval 0 22 v0 rfl rfl) h0
  have hbcs := byte_bounds hqcs
  clear hA0 hval0
  refine (walk W cs Acs ccs hrcs hbcs hlcs).mono fun e W' ⟨he, hg⟩ => ?_
  subst he
  exact ⟨_, rfl, law_post laidOut (by kernel_rfl) rfl rfl rfl rfl rfl Try.underlying4 hW' hg⟩

/-- The statement. -/
theorem proved : Rows.FnFacesOfSaid :=
  OpenClaim.holds_of_wide 5 Try.f5 rfl rfl rfl rfl rfl rfl rfl ⟨rfl, rfl, rfl, rfl, rfl⟩ rfl rfl rfl rfl rfl (by kernel_rfl) Try.func5 (by kernel_rfl)
    (of_decide_eq_true (by kernel_rfl)) (by unfold Func.isWrapper; first | (rw [if_pos (by decide +kernel)]; kernel_rfl) | (rw [if_neg (by decide +kernel)]; exact ⟨rfl, rfl⟩))
    (fun os started H enc _ => lifted os started H enc)
#print axioms proved
end fnFacesOf

end Go.Proofs.Ytbnggakfogcalaa

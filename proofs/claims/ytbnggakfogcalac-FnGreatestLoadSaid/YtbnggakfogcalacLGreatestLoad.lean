/- The law FnGreatestLoad: for every code it answers true, and the code reads as it read before. No condition. -/
import Derived.Test.YtbnggakfogcalacLawM
import Derived.Test.YtbnggakfogcalacHelps
import Derived.Test.YtbnggakfogcalacPDraws
import Derived.Test.YtbnggakfogcalacLaw
namespace Go.Proofs.Ytbnggakfogcalac
open Go.RowKit
set_option linter.unusedVariables false
set_option linter.unusedSimpArgs false

namespace fnGreatestLoad
open Go.ChangeShapes Go.WideShapes Go.ChangeAt Go.RowKit
set_option maxRecDepth 100000 in
set_option maxHeartbeats 800000 in
theorem walk (w : World) (cs : List Int) (Acs : Option Addr) (ccs : Nat) (hrcs : Rd w w.heap.size Acs (bytes cs)) (hbcs : ∀ z ∈ cs, 0 ≤ z ∧ z ≤ 255) (hlcs : cs.length ≤ ccs ∧ ccs ≤ maxLen) :
    Calls Try.prog 12 #[.slice Acs cs.length ccs] w fun e w' => e = .returned (.bool true) ∧ Below w.heap.size w w' := by
  by_cases hn : cs.length ≤ 1048576
  · go_enter Try.func12, Try.ntmps12
    go_wp2_with fail
    refine (dGreatestLoad _ _ _ _ hrcs hbcs hlcs.1 hlcs.2).mono ?_
    rintro e w1 ⟨pp, Ap, cp, f, t, rfl, ⟨hpl, hpc, hcm, hg⟩, hbf, hbt, b1⟩
    have hn1 : pp.length ≤ 1048576 := by omega
    go_wp2_with fail
    refine (iGreat_ans pp Ap cp w1 f t hg).mono ?_
    rintro e w2 ⟨x, hx, rfl, b2⟩
    have hg2 := (hg.below b2).more b2.size
    go_wp2_with fail
    refine (sGreat_ans pp Ap cp w2 f t hg2 hn1).mono ?_
    rintro e w3 ⟨y, hy, rfl, b3⟩
    obtain rfl : x = y := hx.uniq hy
    have hg3 := (hg2.below b3).more b3.size
    have bl3 : Below w.heap.size w w3 := (b1.trans (b2.mono b1.size)).trans (b3.mono (by have := b1.size; have := b2.size; omega))
    clear hy b1 b2 b3 hg hg2
    rcases hx with ⟨hbad, rfl⟩ | ⟨a, b, rfl, rfl, ha, hb, hv, hgl⟩
    · have hB := Lib.hid hbad
      clear hbad
      go_wp2_with fail
      refine (sGreat_ans pp Ap cp w3 f t hg3 hn1).mono ?_
      rintro e w4 ⟨z, hz, rfl, b4⟩
      have hz1 : z = -1 := hz.uniq (.inl ⟨hB.out, rfl⟩)
      subst hz1
      have bl4 := bl3.trans (b4.mono bl3.size)
      clear hz b4 bl3
      go_wp2
      go_ret
      exact ⟨rfl, bl4⟩
    · have HG := Lib.hid hgl
      have x0 := hgl.lo
      have x1 := hgl.up
      have HV := Lib.hid hv
      clear hgl hv
      go_wp2_with fail
      refine (iWay_ans pp Ap cp w3 x a b hg3).mono ?_
      rintro e w4 ⟨ts, hts, htl, A4, c4, rfl, o4, b4⟩
      have hpos : 0 < ts.length := (way_pos hts HV.out ha hb).2 (HG.out.rch HV.out ha hb)
      have hg4 := (hg3.below b4).more b4.size
      have bl4 := bl3.trans (b4.mono bl3.size)
      clear hts o4 b4 bl3 hg3
      generalize ts.length = n4 at *
      have hpos2 : (0 : Int) < (n4 : Int) := by omega
      by_cases hmax : x = 900000
      · have hmb : (x == 900000) = true := beq_iff_eq.2 hmax
        go_wp2
        go_ret
        exact ⟨rfl, bl4⟩
      · have hmb : (x == 900000) = false := beq_eq_false_iff_ne.2 hmax
        go_wp2_with fail
        refine (iWay_ans pp Ap cp w4 (x + 1) a b hg4).mono ?_
        rintro e w5 ⟨us, hus, hul, A5, c5, rfl, o5, b5⟩
        have hzero : us = [] := by
          have h1 := (way_pos hus HV.out ha hb)
          have h2 : ¬ RchL pp a b (x + 1) := HG.out.top (x + 1) (by omega) (by omega)
          cases us with
          | nil => rfl
          | cons u us => exact absurd (h1.1 (by simp)) h2
        subst hzero
        have bl5 := bl4.trans (b5.mono bl4.size)
        clear hus o5 b5 bl4 hg4
        go_wp2
        go_ret
        exact ⟨rfl, bl5⟩
  · have hn' : 1048576 < cs.length := by omega
    go_enter Try.func12, Try.ntmps12
    go_wp2
    go_ret
    exact ⟨rfl, Below.refl _ _⟩

set_option maxRecDepth 100000 in
theorem lifted (os : Os) (started : os.Started) (H : Type) (enc : TypeId × Value → H) :
    ReturnsInHanded {} Try.checked os 12 .any (Rows.fnGreatestLoadSpec.pre6 enc Try.prog Try.f12 Rows.fnGreatestLoadRow.domain false) (Rows.fnGreatestLoadSpec.post enc Try.prog Try.f12 false true false false) := by
  refine returnsInHanded_of_change (C := Try.checked) ownNone started (by kernel_rfl) Try.func12
    (ChangeSpec.witness6 (enc := enc) (C := Try.checked) false ⟨#[], #[.slice none 0 0], []⟩ 8 (by kernel_rfl) (by kernel_rfl) (by kernel_rfl) (by kernel_rfl)) ?_
  intro W base args ds gs before hval0 hW hcnd _
  have hval : ∀ (j : Nat) t v, Try.f12.params[j]? = some t → args[j]? = some v → Value.okWide Try.prog W .any base t v := hval0
  have hW' := hW
  obtain ⟨p, q, hA0, hV, rfl, _, _⟩ := hW
  have hA : DataW.TrodAll enc Try.prog W 0 (fun _ => true) true Try.f12.params.toList args.toList ds p := hA0
  rw [Try.params12] at hA hval
  obtain ⟨v0, vs0, d0, ds0, p0, q0, hargs, rfl, rfl, h0, r0⟩ := trodAll_cons hA
  obtain ⟨rfl, rfl, rfl⟩ := trodAll_nil r0
  obtain rfl : args = #[v0] := by cases args; simp_all
  obtain ⟨rfl, rfl⟩ := trodVars_none hV
  obtain ⟨Acs, ccs, cs, rfl, hrcs, hlcs, hqcs⟩ := open_rd Try.underlying40 Try.underlying5 cellsByte (hval 0 40 v0 rfl rfl) h0
  have hbcs := byte_bounds hqcs
  clear hA0 hval0
  refine (walk W cs Acs ccs hrcs hbcs hlcs).mono fun e W' ⟨he, hg⟩ => ?_
  subst he
  exact ⟨_, rfl, law_post laidOut (by kernel_rfl) rfl rfl rfl rfl rfl Try.underlying4 hW' hg⟩

/-- The statement. -/
theorem proved : Rows.FnGreatestLoadSaid :=
  OpenClaim.holds_of_wide 12 Try.f12 rfl rfl rfl rfl rfl rfl rfl ⟨rfl, rfl, rfl, rfl, rfl⟩ rfl rfl rfl rfl rfl (by kernel_rfl) Try.func12 (by kernel_rfl)
    (of_decide_eq_true (by kernel_rfl)) (by unfold Func.isWrapper; first | (rw [if_pos (by decide +kernel)]; kernel_rfl) | (rw [if_neg (by decide +kernel)]; exact ⟨rfl, rfl⟩))
    (fun os started H enc _ => lifted os started H enc)
#print axioms proved
end fnGreatestLoad

end Go.Proofs.Ytbnggakfogcalac

/- The law FnGreatestLoadBetween: for every code it answers true, and the code reads as it read before. No condition. -/
import Derived.Test.YtbnggakfogcalacLawM
import Derived.Test.YtbnggakfogcalacHelps
import Derived.Test.YtbnggakfogcalacPDraws
import Derived.Test.YtbnggakfogcalacLaw
namespace Go.Proofs.Ytbnggakfogcalac
open Go.RowKit
set_option linter.unusedVariables false
set_option linter.unusedSimpArgs false

namespace fnGreatestLoadBetween
open Go.ChangeShapes Go.WideShapes Go.ChangeAt Go.RowKit
set_option maxRecDepth 100000 in
set_option maxHeartbeats 800000 in
theorem walk (w : World) (cs : List Int) (Acs : Option Addr) (ccs : Nat) (hrcs : Rd w w.heap.size Acs (bytes cs)) (hbcs : ∀ z ∈ cs, 0 ≤ z ∧ z ≤ 255) (hlcs : cs.length ≤ ccs ∧ ccs ≤ maxLen) :
    Calls Try.prog 13 #[.slice Acs cs.length ccs] w fun e w' => e = .returned (.bool true) ∧ Below w.heap.size w w' := by
  by_cases hn : cs.length ≤ 1048576
  · go_enter Try.func13, Try.ntmps13
    go_wp2_with fail
    refine (dGreatestLoad _ _ _ _ hrcs hbcs hlcs.1 hlcs.2).mono ?_
    rintro e w1 ⟨pp, Ap, cp, f, t, rfl, ⟨hpl, hpc, hcm, hg⟩, hbf, hbt, b1⟩
    have hn1 : pp.length ≤ 1048576 := by omega
    go_wp2_with fail
    refine (iGreat_ans pp Ap cp w1 f t hg).mono ?_
    rintro e w2 ⟨x, hx, rfl, b2⟩
    have hg2 := (hg.below b2).more b2.size
    go_wp2_with fail
    refine (sGreat_ans pp Ap cp w2 f t hg2 hn1).mono ?_
    rintro e w3 ⟨y, hy, rfl, b3⟩
    obtain rfl : x = y := hx.uniq hy
    have hg3 := (hg2.below b3).more b3.size
    have bl3 : Below w.heap.size w w3 := (b1.trans (b2.mono b1.size)).trans (b3.mono (by have := b1.size; have := b2.size; omega))
    clear hy b1 b2 b3 hg hg2
    rcases hx with ⟨hbad, rfl⟩ | ⟨a, b, rfl, rfl, ha, hb, hv, hgl⟩
    · have hB := Lib.hid hbad
      clear hbad
      go_wp2_with fail
      refine (sGreat_ans pp Ap cp w3 f t hg3 hn1).mono ?_
      rintro e w4 ⟨z, hz, rfl, b4⟩
      have hz1 : z = -1 := hz.uniq (.inl ⟨hB.out, rfl⟩)
      subst hz1
      have bl4 := bl3.trans (b4.mono bl3.size)
      clear hz b4 bl3
      go_wp2
      go_ret
      exact ⟨rfl, bl4⟩
    · have HG := Lib.hid hgl
      have x0 := hgl.lo
      have x1 := hgl.up
      have HV := Lib.hid hv
      clear hgl
      have hp3 : Pnd w3 w3.heap.size Ap pp := ⟨hv, hg3⟩
      obtain ⟨bb, off, A0, c0, rfl, hbb, h00⟩ := hp3.row0
      have hl := pond_len hv
      have hw := pond_wide hv
      have hc := pond_cnt hv
      have H : Hid ((pp.length : Int) * (wide pp : Int) = ((cnt pp : Nat) : Int)) := Lib.hid (by unfold cnt; exact (Int.natCast_mul _ _).symm)
      have hm1 : 0 ≤ (pp.length : Int) * (wide pp : Int) := by rw [H.out]; omega
      have hm2 : (pp.length : Int) * (wide pp : Int) ≤ 81 := by rw [H.out]; omega
      clear hv h00
      go_wp2
      go_loopw [7] (fun i wr => ∃ k : Nat, k ≤ cnt pp ∧ i = .int .i64 k ∧ Below w3.heap.size w3 wr) (fun i _ => cnt pp - (intOf i).toNat)
      case atStart => exact ⟨0, Nat.zero_le _, rfl, Below.refl _ _⟩
      case round =>
        obtain ⟨k, hk, rfl, hbel⟩ := hrel
        have hpr : Pnd wr wr.heap.size _ pp := hp3.up hbel
        have h0r := hpr.row0
        obtain ⟨bb', off', A0', c0', heq, hbb', h00⟩ := h0r
        cases heq
        by_cases hlt : k < cnt pp
        · have hck : decide ((k : Int) < (pp.length : Int) * (wide pp : Int)) = true := decide_eq_true (by rw [H.out]; omega)
          go_wp2_with fail
          refine (iGreat_ans pp _ cp wr a k hpr.2).mono ?_
          rintro e w5 ⟨y, hy, rfl, b5⟩
          have hg5 := (hpr.2.below b5).more b5.size
          have HY := Lib.hid (great_rel hy HV.out ha hlt)
          clear hy
          go_wp2_with fail
          refine (iGreat_ans pp _ cp w5 k b hg5).mono ?_
          rintro e w6 ⟨z, hz, rfl, b6⟩
          have HZ := Lib.hid (great_rel hz HV.out hlt hb)
          clear hz
          have hmm := HG.out.between HV.out ha hb hlt HY.out HZ.out
          have bl6 := hbel.trans ((b5.trans (b6.mono b5.size)).mono hbel.size)
          clear hbel b5 b6 hg5 h00 hpr
          go_wp2
          go_roundw
          case rel => exact ⟨k + 1, by omega, by go_num, bl6⟩
          case measure => simp [intOf]; omega
        · have hck : decide ((k : Int) < (pp.length : Int) * (wide pp : Int)) = false := decide_eq_false (by rw [H.out]; omega)
          go_wp2_with fail
          refine (iGreat_ans pp _ cp wr b a hpr.2).mono ?_
          rintro e w5 ⟨y, hy, rfl, b5⟩
          obtain rfl : y = x := (great_rel hy HV.out hb ha).uniq (HG.out.sym HV.out)
          have bl5 := bl3.trans ((hbel.trans (b5.mono hbel.size)).mono bl3.size)
          clear hy hbel b5 hpr h00
          go_wp2
          go_ret
          exact ⟨rfl, bl5⟩
  · have hn' : 1048576 < cs.length := by omega
    go_enter Try.func13, Try.ntmps13
    go_wp2
    go_ret
    exact ⟨rfl, Below.refl _ _⟩

set_option maxRecDepth 100000 in
theorem lifted (os : Os) (started : os.Started) (H : Type) (enc : TypeId × Value → H) :
    ReturnsInHanded {} Try.checked os 13 .any (Rows.fnGreatestLoadBetweenSpec.pre6 enc Try.prog Try.f13 Rows.fnGreatestLoadBetweenRow.domain false) (Rows.fnGreatestLoadBetweenSpec.post enc Try.prog Try.f13 false true false false) := by
  refine returnsInHanded_of_change (C := Try.checked) ownNone started (by kernel_rfl) Try.func13
    (ChangeSpec.witness6 (enc := enc) (C := Try.checked) false ⟨#[], #[.slice none 0 0], []⟩ 8 (by kernel_rfl) (by kernel_rfl) (by kernel_rfl) (by kernel_rfl)) ?_
  intro W base args ds gs before hval0 hW hcnd _
  have hval : ∀ (j : Nat) t v, Try.f13.params[j]? = some t → args[j]? = some v → Value.okWide Try.prog W .any base t v := hval0
  have hW' := hW
  obtain ⟨p, q, hA0, hV, rfl, _, _⟩ := hW
  have hA : DataW.TrodAll enc Try.prog W 0 (fun _ => true) true Try.f13.params.toList args.toList ds p := hA0
  rw [Try.params13] at hA hval
  obtain ⟨v0, vs0, d0, ds0, p0, q0, hargs, rfl, rfl, h0, r0⟩ := trodAll_cons hA
  obtain ⟨rfl, rfl, rfl⟩ := trodAll_nil r0
  obtain rfl : args = #[v0] := by cases args; simp_all
  obtain ⟨rfl, rfl⟩ := trodVars_none hV
  obtain ⟨Acs, ccs, cs, rfl, hrcs, hlcs, hqcs⟩ := open_rd Try.underlying40 Try.underlying5 cellsByte (hval 0 40 v0 rfl rfl) h0
  have hbcs := byte_bounds hqcs
  clear hA0 hval0
  refine (walk W cs Acs ccs hrcs hbcs hlcs).mono fun e W' ⟨he, hg⟩ => ?_
  subst he
  exact ⟨_, rfl, law_post laidOut (by kernel_rfl) rfl rfl rfl rfl rfl Try.underlying4 hW' hg⟩

/-- The statement. -/
theorem proved : Rows.FnGreatestLoadBetweenSaid :=
  OpenClaim.holds_of_wide 13 Try.f13 rfl rfl rfl rfl rfl rfl rfl ⟨rfl, rfl, rfl, rfl, rfl⟩ rfl rfl rfl rfl rfl (by kernel_rfl) Try.func13 (by kernel_rfl)
    (of_decide_eq_true (by kernel_rfl)) (by unfold Func.isWrapper; first | (rw [if_pos (by decide +kernel)]; kernel_rfl) | (rw [if_neg (by decide +kernel)]; exact ⟨rfl, rfl⟩))
    (fun os started H enc _ => lifted os started H enc)
#print axioms proved
end fnGreatestLoadBetween

end Go.Proofs.Ytbnggakfogcalac

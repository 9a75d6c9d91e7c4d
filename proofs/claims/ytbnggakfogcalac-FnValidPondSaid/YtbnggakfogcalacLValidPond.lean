/- The law FnValidPond: for every code it answers true, and the code reads as it read before. No condition. -/
import Derived.Test.YtbnggakfogcalacLawM
import Derived.Test.YtbnggakfogcalacHelps
import Derived.Test.YtbnggakfogcalacTurnM
import Derived.Test.YtbnggakfogcalacPDraws
import Derived.Test.YtbnggakfogcalacLaw
namespace Go.Proofs.Ytbnggakfogcalac
open Go.RowKit
set_option linter.unusedVariables false
set_option linter.unusedSimpArgs false

namespace fnValidPond
open Go.ChangeShapes Go.WideShapes Go.ChangeAt Go.RowKit
set_option maxRecDepth 100000 in
set_option maxHeartbeats 800000 in
set_option maxRecDepth 100000 in
set_option maxRecDepth 100000 in
set_option maxHeartbeats 8000000 in
theorem walk (w : World) (cs : List Int) (Acs : Option Addr) (ccs : Nat) (hrcs : Rd w w.heap.size Acs (bytes cs)) (hbcs : ∀ z ∈ cs, 0 ≤ z ∧ z ≤ 255) (hlcs : cs.length ≤ ccs ∧ ccs ≤ maxLen) :
    Calls Try.prog 10 #[.slice Acs cs.length ccs] w fun e w' => e = .returned (.bool true) ∧ Below w.heap.size w w' := by
  by_cases hn : cs.length ≤ 1048576
  · go_enter Try.func10, Try.ntmps10
    go_wp2_with fail
    refine (dValidPond _ _ _ _ hrcs hbcs hlcs.1 hlcs.2).mono ?_
    rintro e w1 ⟨pp, Ap, cp, rfl, ⟨hpl, hpc, hcm, hg⟩, b1⟩
    have hn1 : pp.length ≤ 1048576 := by omega
    cases hv : pondB pp
    · have HV := Lib.hid hv
      have cI := iValid_any pp Ap cp w1 w1.heap.size hg
      have cS := fun w hg => sValidPond_any pp Ap cp w1 w hg hn1
      rw [hv] at cI
      have cS1 := sValidPond_any pp Ap cp w1 w1.heap.size hg hn1
      have cS2 := fun n : Nat => sValidPond_any pp Ap cp (w1.drewN n) w1.heap.size (hg.drewN n) hn1
      rw [hv] at cS1
      simp only [hv] at cS2
      clear hv cS
      go_wp2_with fail
      refine cI.mono ?_
      rintro e w' ⟨rfl, rfl⟩
      go_wp2_with fail
      refine cS1.mono ?_
      rintro e w' ⟨rfl, n2, rfl⟩
      go_wp2_with fail
      refine (cS2 n2).mono ?_
      rintro e w' ⟨rfl, n3, rfl⟩
      clear cI cS1 cS2
      go_wp2
      go_ret
      exact ⟨rfl, below_drewN b1 _⟩
    · have HV := Lib.hid hv
      have hl := pond_len hv
      have hw := pond_wide hv
      have cI := iValid_any pp Ap cp w1 w1.heap.size hg
      have cS1 := sValidPond_any pp Ap cp w1 w1.heap.size hg hn1
      rw [hv] at cI cS1
      clear hv
      go_wp2_with fail
      refine cI.mono ?_
      rintro e w' ⟨rfl, rfl⟩
      go_wp2_with fail
      refine cS1.mono ?_
      rintro e w' ⟨rfl, n2, rfl⟩
      clear cI cS1
      obtain ⟨bp, op, row0, hAp, hbp, _, _⟩ := hg.sub_ (k := 0) (by omega)
      subst hAp
      have hg2 : RdG (w1.drewN n2) w1.heap.size (some ⟨bp, op, none⟩) pp := hg.drewN n2
      have bl2 := below_drewN b1 n2
      generalize hw2 : w1.drewN n2 = w2 at *
      have hp2 : Pnd w2 w2.heap.size (some ⟨bp, op, none⟩) pp := ⟨HV.out, by rw [← hw2]; exact hg.drewN n2⟩
      clear hw2 hg
      go_wp2
      go_loopw [5] (fun i wr => ∃ k : Nat, k ≤ pp.length ∧ i = .int .i64 k ∧ wr = w2) (fun i _ => pp.length - (intOf i).toNat)
      case atStart => exact ⟨0, Nat.zero_le _, rfl, rfl⟩
      case round =>
        obtain ⟨k, hk, rfl, rfl⟩ := hrel
        by_cases hlt : k < pp.length
        · obtain ⟨b, off, row, heq, hb, hrow, hsub⟩ := hg2.sub_ hlt
          cases heq
          have cR := fun c => iValid_any [row] (some ⟨bp, op + k, none⟩) c wr w1.heap.size hsub
          simp only [pond_one HV.out hrow.out] at cR
          have hcp : k ≤ cp := by omega
          have hcp1 : k + 1 ≤ cp := by omega
          go_wp2_with fail
          refine (cR (cp - k)).mono ?_
          rintro e w' ⟨rfl, rfl⟩
          clear cR hsub hrow
          go_wp2
          go_roundw
          case rel => exact ⟨k + 1, by omega, by go_num, trivial⟩
          case measure => simp [intOf]; omega
        · obtain rfl : k = pp.length := by omega
          go_wp2_with fail
          refine (turned_any pp _ cp wr hp2).mono ?_
          rintro e w5 ⟨A5, c5, rfl, hg5, b5⟩
          have cT := iValid_any (tpF pp) A5 c5 w5 w5.heap.size hg5
          rw [pond_turned HV.out, tpF_len] at cT
          go_wp2_with fail
          refine cT.mono ?_
          rintro e w' ⟨rfl, rfl⟩
          have bl5 := bl2.trans (b5.mono bl2.size)
          clear cT hg5 b5
          go_wp2
          go_ret
          exact ⟨rfl, bl5⟩
  · have hn' : 1048576 < cs.length := by omega
    go_enter Try.func10, Try.ntmps10
    go_wp2
    go_ret
    exact ⟨rfl, Below.refl _ _⟩

set_option maxRecDepth 100000 in
theorem lifted (os : Os) (started : os.Started) (H : Type) (enc : TypeId × Value → H) :
    ReturnsInHanded {} Try.checked os 10 .any (Rows.fnValidPondSpec.pre6 enc Try.prog Try.f10 Rows.fnValidPondRow.domain false) (Rows.fnValidPondSpec.post enc Try.prog Try.f10 false true false false) := by
  refine returnsInHanded_of_change (C := Try.checked) ownNone started (by kernel_rfl) Try.func10
    (ChangeSpec.witness6 (enc := enc) (C := Try.checked) false ⟨#[], #[.slice none 0 0], []⟩ 8 (by kernel_rfl) (by kernel_rfl) (by kernel_rfl) (by kernel_rfl)) ?_
  intro W base args ds gs before hval0 hW hcnd _
  have hval : ∀ (j : Nat) t v, Try.f10.params[j]? = some t → args[j]? = some v → Value.okWide Try.prog W .any base t v := hval0
  have hW' := hW
  obtain ⟨p, q, hA0, hV, rfl, _, _⟩ := hW
  have hA : DataW.TrodAll enc Try.prog W 0 (fun _ => true) true Try.f10.params.toList args.toList ds p := hA0
  rw [Try.params10] at hA hval
  obtain ⟨v0, vs0, d0, ds0, p0, q0, hargs, rfl, rfl, h0, r0⟩ := trodAll_cons hA
  obtain ⟨rfl, rfl, rfl⟩ := trodAll_nil r0
  obtain rfl : args = #[v0] := by cases args; simp_all
  obtain ⟨rfl, rfl⟩ := trodVars_none hV
  obtain ⟨Acs, ccs, cs, rfl, hrcs, hlcs, hqcs⟩ := open_rd Try.underlying40 Try.underlying5 cellsByte (hval 0 40 v0 rfl rfl) h0
  have hbcs := byte_bounds hqcs
  clear hA0 hval0
  refine (walk W cs Acs ccs hrcs hbcs hlcs).mono fun e W' ⟨he, hg⟩ => ?_
  subst he
  exact ⟨_, rfl, law_post laidOut (by kernel_rfl) rfl rfl rfl rfl rfl Try.underlying4 hW' hg⟩

/-- The statement. -/
theorem proved : Rows.FnValidPondSaid :=
  OpenClaim.holds_of_wide 10 Try.f10 rfl rfl rfl rfl rfl rfl rfl ⟨rfl, rfl, rfl, rfl, rfl⟩ rfl rfl rfl rfl rfl (by kernel_rfl) Try.func10 (by kernel_rfl)
    (of_decide_eq_true (by kernel_rfl)) (by unfold Func.isWrapper; first | (rw [if_pos (by decide +kernel)]; kernel_rfl) | (rw [if_neg (by decide +kernel)]; exact ⟨rfl, rfl⟩))
    (fun os started H enc _ => lifted os started H enc)
#print axioms proved
end fnValidPond

end Go.Proofs.Ytbnggakfogcalac

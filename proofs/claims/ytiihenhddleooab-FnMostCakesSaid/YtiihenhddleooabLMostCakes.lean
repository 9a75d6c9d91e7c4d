/- The law FnMostCakes: for every code it answers true, and the code reads as it read before. No condition. -/
import Derived.Test.YtiihenhddleooabGMostM
import Derived.Test.YtiihenhddleooabFDraws
import Derived.Test.YtiihenhddleooabLaw
namespace Go.Proofs.Ytiihenhddleooab
open Go.RowKit
set_option linter.unusedVariables false
set_option linter.unusedSimpArgs false

namespace fnMostCakes
open Go.ChangeShapes Go.WideShapes Go.ChangeAt Go.RowKit
set_option maxRecDepth 100000 in
set_option maxHeartbeats 800000 in
set_option maxRecDepth 100000 in
set_option maxRecDepth 100000 in
set_option maxHeartbeats 8000000 in
theorem walk (w : World) (cs : List Int) (Acs : Option Addr) (ccs : Nat) (hrcs : Rd w w.heap.size Acs (bytes cs)) (hbcs : ∀ z ∈ cs, 0 ≤ z ∧ z ≤ 255) (hlcs : cs.length ≤ ccs ∧ ccs ≤ maxLen) :
    Calls Try.prog 14 #[.slice Acs cs.length ccs] w fun e w' => e = .returned (.bool true) ∧ Below w.heap.size w w' := by
  by_cases hn : cs.length ≤ 1048576
  · go_enter Try.func14, Try.ntmps14
    go_wp2_with fail
    refine (dMostCakes _ _ _ _ hrcs hbcs hlcs.1 hlcs.2).mono ?_
    rintro e w1 ⟨ff, Af, cf, a, h, rfl, ⟨hpl, hpc, hcm, hg⟩, hba, hbh, b1⟩
    have hn1 : ff.length ≤ 1048576 := by omega
    obtain ⟨q, hq⟩ : ∃ q, q = mostT ff a h := ⟨_, rfl⟩
    have cI := iMost_T ff Af cf ⟨hpc, hcm⟩ w1 hg a h
    rw [← hq] at cI
    have CS : Hid (∀ w', Below w1.heap.size w1 w' → Calls Try.prog 50 #[.slice Af ff.length cf, .int .i64 a, .int .i64 h] w' (fun e w'' => e = .returned (.int .i64 q) ∧ Below w'.heap.size w' w'')) := Lib.hid fun w' hb' => by
      have := sMost_T ff Af cf ⟨hpc, hcm⟩ w' ((hg.below hb').more hb'.size) hn1 a h
      rw [← hq] at this
      exact this
    have HQ := Lib.hid hq
    clear hq
    go_wp2_with fail
    refine (cI).mono ?_
    rintro e w2 ⟨rfl, b2⟩
    clear cI
    go_wp2_with fail
    refine (CS.out _ b2).mono ?_
    rintro e w3 ⟨rfl, b3⟩
    have d3 : Below w1.heap.size w1 w3 := b2.trans (b3.mono b2.size)
    cases hm : smallB ff a h
    · obtain rfl : q = -1 := by rw [HQ.out]; exact mostT_no hm
      have HM := Lib.hid hm
      clear hm
      go_wp2_with fail
      refine (CS.out _ d3).mono ?_
      rintro e w4 ⟨rfl, b4⟩
      have d4 : Below w1.heap.size w1 w4 := d3.trans (b4.mono d3.size)
      go_wp2
      go_ret
      exact ⟨rfl, b1.trans (d4.mono b1.size)⟩
    · obtain ⟨cw, ch, bx, b2', M, N, rfl, rfl, em, eb, hbx, hby, ea, hv, hs, hw4, hh4, hgr, hM, hMw, hMN, hN⟩ := most_sum hm
      obtain rfl : q = (M : Nat) := by rw [HQ.out]; exact em
      have hg3 := (hg.below d3).more d3.size
      have cB : Calls Try.prog 55 #[.slice Af ff.length cf, .int .i64 (cw : Nat), .int .i64 (ch : Nat)] w3 (fun e w' => e = .returned (.tuple #[.int .i64 (bx : Nat), .int .i64 (b2' : Nat)]) ∧ Below w3.heap.size w3 w') := by
        have := iBest_any ff Af cf ⟨hpc, hcm⟩ w3 hg3 cw ch
        rw [eb] at this
        exact this
      have HC : Hid (∀ (wr : World), Below w3.heap.size w3 wr → Calls Try.prog 56 #[.slice Af ff.length cf, .int .i64 (cw : Nat), .int .i64 (ch : Nat), .int .i64 (bx : Nat), .int .i64 (b2' : Nat)] wr (OutC (gridF ff cw ch bx b2') wr)) :=
        Lib.hid fun wr hb => iCakesOk_any ff Af cf ⟨hpc, hcm⟩ wr ((hg3.below hb).more hb.size) cw ch bx b2' hv hs hbx hby
      have HA : Hid (∀ (wr : World), Below w3.heap.size w3 wr → Calls Try.prog 57 #[.slice Af ff.length cf] wr (fun e w' => e = .returned (.int .i64 (N : Nat)) ∧ wr = w')) := Lib.hid fun wr hb => by
        have := iArea_any ff Af cf wr _ (hg3.below hb)
        rw [ea] at this
        exact this
      obtain ⟨w41, w42⟩ := hw4
      obtain ⟨h41, h42⟩ := hh4
      clear hm em eb ea hv hs HQ CS hg hg3
      go_wp2_with fail
      refine (cB).mono ?_
      rintro e w5 ⟨rfl, b5⟩
      clear cB
      have hc5 := HC.out _ b5
      go_wp2_with fail
      refine hc5.mono ?_
      rintro e w6 ⟨A6, c6, rfl, o6, b6⟩
      have d6 : Below w3.heap.size w3 w6 := b5.trans (b6.mono b5.size)
      clear o6 hc5
      generalize (gridF ff cw ch bx b2').length = K at *
      have hge : decide ((M : Int) ≥ (K : Int)) = true := decide_eq_true (by omega)
      have m1 : ((M : Nat) : Int) * ((cw : Nat) : Int) = ((M * cw : Nat) : Int) := (Int.natCast_mul M cw).symm
      have m2 : ((M * cw : Nat) : Int) * ((ch : Nat) : Int) = ((M * cw * ch : Nat) : Int) := (Int.natCast_mul (M * cw) ch).symm
      have x1 : IntKind.i64.wrap (((M : Nat) : Int) * ((cw : Nat) : Int)) = ((M * cw : Nat) : Int) := by rw [m1]; exact IntWalk.i64_in _ (by omega)
      have x2 : IntKind.i64.wrap (((M * cw : Nat) : Int) * ((ch : Nat) : Int)) = ((M * cw * ch : Nat) : Int) := by rw [m2]; exact IntWalk.i64_in _ (by omega)
      have hle : decide (((M * cw * ch : Nat) : Int) ≤ ((N : Nat) : Int)) = true := decide_eq_true (by omega)
      generalize M * cw * ch = P2 at *
      generalize M * cw = P1 at *
      have hcA := HA.out _ d6
      go_wp2_with fail
      refine (hcA).mono ?_
      rintro e w7 ⟨rfl, rfl⟩
      go_wp2
      go_ret
      exact ⟨rfl, b1.trans ((d3.trans (d6.mono d3.size)).mono b1.size)⟩
  · have hn' : 1048576 < cs.length := by omega
    go_enter Try.func14, Try.ntmps14
    go_wp2
    go_ret
    exact ⟨rfl, Below.refl _ _⟩

set_option maxRecDepth 100000 in
theorem lifted (os : Os) (started : os.Started) (H : Type) (enc : TypeId × Value → H) :
    ReturnsInHanded {} Try.checked os 14 .any (Rows.fnMostCakesSpec.pre6 enc Try.prog Try.f14 Rows.fnMostCakesRow.domain false) (Rows.fnMostCakesSpec.post enc Try.prog Try.f14 false true false false) := by
  refine returnsInHanded_of_change (C := Try.checked) ownNone started (by kernel_rfl) Try.func14
    (ChangeSpec.witness6 (enc := enc) (C := Try.checked) false ⟨#[], #[.slice none 0 0], []⟩ 8 (by kernel_rfl) (by kernel_rfl) (by kernel_rfl) (by kernel_rfl)) ?_
  intro W base args ds gs before hval0 hW hcnd _
  have hval : ∀ (j : Nat) t v, Try.f14.params[j]? = some t → args[j]? = some v → Value.okWide Try.prog W .any base t v := hval0
  have hW' := hW
  obtain ⟨p, q, hA0, hV, rfl, _, _⟩ := hW
  have hA : DataW.TrodAll enc Try.prog W 0 (fun _ => true) true Try.f14.params.toList args.toList ds p := hA0
  rw [Try.params14] at hA hval
  obtain ⟨v0, vs0, d0, ds0, p0, q0, hargs, rfl, rfl, h0, r0⟩ := trodAll_cons hA
  obtain ⟨rfl, rfl, rfl⟩ := trodAll_nil r0
  obtain rfl : args = #[v0] := by cases args; simp_all
  obtain ⟨rfl, rfl⟩ := trodVars_none hV
  obtain ⟨Acs, ccs, cs, rfl, hrcs, hlcs, hqcs⟩ := open_rd Try.underlying58 Try.underlying5 cellsByte (hval 0 58 v0 rfl rfl) h0
  have hbcs := byte_bounds hqcs
  clear hA0 hval0
  refine (walk W cs Acs ccs hrcs hbcs hlcs).mono fun e W' ⟨he, hg⟩ => ?_
  subst he
  exact ⟨_, rfl, law_post laidOut (by kernel_rfl) rfl rfl rfl rfl rfl Try.underlying4 hW' hg⟩

/-- The statement. -/
theorem proved : Rows.FnMostCakesSaid :=
  OpenClaim.holds_of_wide 14 Try.f14 rfl rfl rfl rfl rfl rfl rfl ⟨rfl, rfl, rfl, rfl, rfl⟩ rfl rfl rfl rfl rfl (by kernel_rfl) Try.func14 (by kernel_rfl)
    (of_decide_eq_true (by kernel_rfl)) (by unfold Func.isWrapper; first | (rw [if_pos (by decide +kernel)]; kernel_rfl) | (rw [if_neg (by decide +kernel)]; exact ⟨rfl, rfl⟩))
    (fun os started H enc _ => lifted os started H enc)
#print axioms proved
end fnMostCakes

end Go.Proofs.Ytiihenhddleooab

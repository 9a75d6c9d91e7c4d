/- The law FnDaysLeft: for every code it answers true, and the code reads as it read before. No condition. -/
import Derived.Test.YtbnggakfogcalaaHLaw
import Derived.Test.YtbnggakfogcalaaHDraws
import Derived.Test.YtbnggakfogcalaaLaw
namespace Go.Proofs.Ytbnggakfogcalaa
open Go.RowKit
set_option linter.unusedVariables false
set_option linter.unusedSimpArgs false

namespace fnDaysLeft
open Go.ChangeShapes Go.WideShapes Go.ChangeAt Go.RowKit
set_option maxRecDepth 100000 in
set_option maxHeartbeats 800000 in
set_option maxRecDepth 100000 in
set_option maxRecDepth 100000 in
set_option maxHeartbeats 8000000 in
theorem walk (w : World) (cs : List Int) (Acs : Option Addr) (ccs : Nat) (hrcs : Rd w w.heap.size Acs (bytes cs)) (hbcs : ∀ z ∈ cs, 0 ≤ z ∧ z ≤ 255) (hlcs : cs.length ≤ ccs ∧ ccs ≤ maxLen) :
    Calls Try.prog 12 #[.slice Acs cs.length ccs] w fun e w' => e = .returned (.bool true) ∧ Below w.heap.size w w' := by
  by_cases hn : cs.length ≤ 1048576
  · go_enter Try.func12, Try.ntmps12
    go_wp2_with fail
    refine (dDaysLeft _ _ _ _ hrcs hbcs hlcs.1 hlcs.2).mono ?_
    rintro e w1 ⟨pp, Ap, cp, t, rfl, ⟨hpl, hpc, hcm, hg⟩, hbt, b1⟩
    have hn1 : pp.length ≤ 1048576 := by omega
    go_wp2_with fail
    refine (iLeft_any pp Ap cp w1 hg t).mono ?_
    rintro e w2 ⟨x, hx, rfl, b2⟩
    have hg2 := hg.up b2
    go_wp2_with fail
    refine (sLeft_any pp Ap cp w2 hg2 hn1 t).mono ?_
    rintro e w3 ⟨y, hy, rfl, b3⟩
    obtain rfl : x = y := hx.uniq hy
    have hg3 := hg2.up b3
    have bl3 : Below w.heap.size w w3 := (b1.trans (b2.mono b1.size)).trans (b3.mono (by have := b1.size; have := b2.size; omega))
    clear b1 b2 b3 hg hg2 hy
    by_cases hneg : x < 0
    · have HX := Lib.hid hx
      clear hx
      go_wp2_with fail
      refine (sLeft_any pp Ap cp w3 hg3 hn1 t).mono ?_
      rintro e w4 ⟨y, hy, rfl, b4⟩
      obtain rfl : x = y := HX.out.uniq hy
      have bl4 := bl3.trans (b4.mono bl3.size)
      clear b4 hy
      go_wp2
      go_ret
      exact ⟨rfl, bl4⟩
    · have hv : heapB pp = true := by
        cases h : heapB pp
        · have := hx.no h; omega
        · rfl
      have hk : t ≤ cakesF pp := by
        false_or_by_contra
        have := hx.few hv (by omega)
        omega
      obtain ⟨n, rfl, n1, n2, n3⟩ := hx.some_ hv hk
      have HM : Hid (∀ (j : Nat) (w' : World), j ≤ 60 → Below w3.heap.size w3 w' → Calls Try.prog 42 #[.slice Ap pp.length cp, .int .i64 (j : Nat)] w' (OutGr (daysF pp j) w')) := Lib.hid fun j w' hj hb => by
        have h := iMelts_any pp Ap cp w' (hg3.up hb) (j : Int)
        rw [daysT_ok hv hj] at h
        exact h
      have HC : Hid (∀ (j : Nat) (A' : Option Addr) (c' : Nat) (w' : World), RdG w' w'.heap.size A' (daysF pp j) → Calls Try.prog 21 #[.slice A' (daysF pp j).length c'] w' fun e w'' => e = .returned (.int .i64 (cakesF (daysF pp j))) ∧ w' = w'') := Lib.hid fun j A' c' w' h => by
        have h2 := iCakesH_any (daysF pp j) A' c' w' _ h
        rw [cakesHT_ok (days_ok hv j).1] at h2
        exact h2
      have hn2 := n2 n (Nat.le_refl _)
      have HN3 := Lib.hid n3
      obtain ⟨q, hq⟩ : ∃ q, q = cakesF (daysF pp n) := ⟨_, rfl⟩
      rw [← hq] at hn2
      have HQ := Lib.hid hq
      clear hx hneg hv hk n2 n3 hq
      go_wp2_with fail
      refine (HM.out n w3 n1 (Below.refl _ _)).mono ?_
      rintro e w4 ⟨A4, c4, xs4, rfl, o4, b4⟩
      have HC4 := Lib.hid (HC.out n A4 c4 w4 o4.rd)
      rw [← HQ.out] at HC4
      have bl4 := bl3.trans (b4.mono bl3.size)
      have HB34 := Lib.hid b4
      clear o4 b4
      generalize (daysF pp n).length = L4 at *
      by_cases h60 : n = 60
      · subst h60
        go_wp2_with fail
        refine (HC4.out).mono ?_
        rintro e w' ⟨rfl, rfl⟩
        go_wp2
        go_ret
        exact ⟨rfl, bl4⟩
      · have h60b : ((n : Int) == 60) = false := beq_eq_false_iff_ne.2 (by omega)
        have h60c : ¬ (n : Int) = 60 := by omega
        have HM2 := Lib.hid (HM.out (n + 1) w4 (by omega) HB34.out)
        have hn3 := HN3.out (by omega)
        obtain ⟨q2, hq2⟩ : ∃ q, q = cakesF (daysF pp (n + 1)) := ⟨_, rfl⟩
        rw [← hq2] at hn3
        have HQ2 := Lib.hid hq2
        have HCC := Lib.hid (fun (A' : Option Addr) (c' : Nat) (w' : World) h => HC.out (n + 1) A' c' w' h)
        rw [← hq2] at HCC
        clear hq2 HC HM
        generalize daysF pp (n + 1) = us at *
        go_wp2_with fail
        refine (HC4.out).mono ?_
        rintro e w' ⟨rfl, rfl⟩
        go_wp2_with fail
        refine (HM2.out).mono ?_
        rintro e w5 ⟨A5, c5, xs5, rfl, o5, b5⟩
        have HC5 := Lib.hid (HCC.out A5 c5 w5 o5.rd)
        have bl5 := bl4.trans (b5.mono bl4.size)
        clear o5 b5
        go_wp2_with fail
        refine (HC5.out).mono ?_
        rintro e w' ⟨rfl, rfl⟩
        go_wp2
        go_ret
        exact ⟨rfl, bl5⟩
  · have hn' : 1048576 < cs.length := by omega
    go_enter Try.func12, Try.ntmps12
    go_wp2
    go_ret
    exact ⟨rfl, Below.refl _ _⟩

set_option maxRecDepth 100000 in
theorem lifted (os : Os) (started : os.Started) (H : Type) (enc : TypeId × Value → H) :
    ReturnsInHanded {} Try.checked os 12 .any (Rows.fnDaysLeftSpec.pre6 enc Try.prog Try.f12 Rows.fnDaysLeftRow.domain false) (Rows.fnDaysLeftSpec.post enc Try.prog Try.f12 false true false false) := by
  refine returnsInHanded_of_change (C := Try.checked) ownNone started (by kernel_rfl) Try.func12
    (ChangeSpec.witness6 (enc := enc) (C := Try.checked) false ⟨#[], #[.slice none 0 0], []⟩ 8 (by kernel_rfl) (by kernel_rfl) (by kernel_rfl) (by kernel_rfl)) ?_
  intro W base args ds gs before hval0 hW hcnd _
  have hval : ∀ (j : Nat) t v, Try.f12.params[j]? = some t → args[j]? = some v → Value.okWide Try.prog W .any base t v := hval0
  have hW' := hW
  obtain ⟨p, q, hA0, hV, rfl, _, _⟩ := hW
  have hA : DataW.TrodAll enc Try.prog W 0 (fun _ => true) true Try.f12.params.toList args.toList ds p := hA0
  rw [Try.params12] at hA hval
  obtain ⟨v0, vs0, d0, ds0, p0, q0, hargs, rfl, rfl, h0, r0⟩ := trodAll_cons hA
  obtain ⟨rfl, rfl, rfl⟩ := trodAll_nil r0
  obtain rfl : args = #[v0] := by cases args; simp_all
  obtain ⟨rfl, rfl⟩ := trodVars_none hV
  obtain ⟨Acs, ccs, cs, rfl, hrcs, hlcs, hqcs⟩ := open_rd Try.underlying22 Try.underlying5 cellsByte (hval 0 22 v0 rfl rfl) h0
  have hbcs := byte_bounds hqcs
  clear hA0 hval0
  refine (walk W cs Acs ccs hrcs hbcs hlcs).mono fun e W' ⟨he, hg⟩ => ?_
  subst he
  exact ⟨_, rfl, law_post laidOut (by kernel_rfl) rfl rfl rfl rfl rfl Try.underlying4 hW' hg⟩

/-- The statement. -/
theorem proved : Rows.FnDaysLeftSaid :=
  OpenClaim.holds_of_wide 12 Try.f12 rfl rfl rfl rfl rfl rfl rfl ⟨rfl, rfl, rfl, rfl, rfl⟩ rfl rfl rfl rfl rfl (by kernel_rfl) Try.func12 (by kernel_rfl)
    (of_decide_eq_true (by kernel_rfl)) (by unfold Func.isWrapper; first | (rw [if_pos (by decide +kernel)]; kernel_rfl) | (rw [if_neg (by decide +kernel)]; exact ⟨rfl, rfl⟩))
    (fun os started H enc _ => lifted os started H enc)
#print axioms proved
end fnDaysLeft

end Go.Proofs.Ytbnggakfogcalaa

/- The law FnStepIce: for every code it answers true, and the code reads as it read before. No condition. -/
import Derived.Test.YthccmpbklhlohaaPure
import Derived.Test.YthccmpbklhlohaaDraws
import Derived.Test.YthccmpbklhlohaaLaw
namespace Go.Proofs.Ythccmpbklhlohaa
open Go.RowKit
set_option linter.unusedVariables false
set_option linter.unusedSimpArgs false

theorem hourF_zero (m : Int) : hourF m 0 = m := by unfold hourF; rw [if_neg (by omega), if_pos (by omega)]
theorem hourF_ge (m t : Int) (h1 : m ≤ 998001) (h : t < 0) : m ≤ hourF m t := by rw [hourF_cold h]; split <;> omega
theorem hourF_le (m t : Int) (h0 : 0 ≤ m) (h1 : m ≤ 998001) (h : ¬ t < 0) : hourF m t ≤ m := by
  have r := rt_range m
  have q := rt_sq m h0
  by_cases h2 : t / 20 = 0
  · rw [hourF_stay h h2]; omega
  · by_cases h3 : rt m < t / 20
    · rw [hourF_gone h h2 h3]; omega
    · rw [hourF_thaw h h2 h3]
      have := sq_mono (a := rt m - t / 20) (b := rt m) (by omega) (by omega)
      omega

namespace fnStepIce
open Go.ChangeShapes Go.WideShapes Go.ChangeAt Go.RowKit
set_option maxHeartbeats 800000 in
theorem walk (w : World) (cs : List Int) (Acs : Option Addr) (ccs : Nat) (hrcs : Rd w w.heap.size Acs (bytes cs)) (hbcs : ∀ z ∈ cs, 0 ≤ z ∧ z ≤ 255) (hlcs : cs.length ≤ ccs ∧ ccs ≤ maxLen) :
    Calls Try.prog 4 #[.slice Acs cs.length ccs] w fun e w' => e = .returned (.bool true) ∧ Below w.heap.size w w' := by
  by_cases hn : cs.length ≤ 1048576
  · go_enter Try.func4, Try.ntmps4
    go_wp2_with fail
    refine (dStepIce _ _ _ _ hrcs hbcs hlcs.1 hlcs.2).mono ?_
    rintro e w1 ⟨m, t, rfl, hm, ht, b1⟩
    by_cases h : (0 ≤ m ∧ m ≤ 998001) ∧ (-400 ≤ t ∧ t ≤ 400)
    · obtain ⟨⟨m0, m1⟩, t0, t1⟩ := h
      have q0 := hourF_range m t m0 m1
      rw [← stepF_ok ⟨m0, m1⟩ ⟨t0, t1⟩] at q0
      have q6 : (stepF m 0 == m) = true := beq_iff_eq.2 (by rw [stepF_ok ⟨m0, m1⟩ (by omega)]; exact hourF_zero m)
      by_cases hc : t < 0
      · have q1 := hourF_ge m t m1 hc
        rw [← stepF_ok ⟨m0, m1⟩ ⟨t0, t1⟩] at q1
        go_wp2_with (first | (go_at_call 19; refine (iStep_any _ _ _).mono ?_; rintro e w' ⟨rfl, rfl⟩) | (go_at_call 20; refine (sStep_any _ _ _).mono ?_; rintro e w' ⟨rfl, rfl⟩))
        go_ret
        exact ⟨rfl, b1⟩
      · have q1 := hourF_le m t m0 m1 hc
        rw [← stepF_ok ⟨m0, m1⟩ ⟨t0, t1⟩] at q1
        go_wp2_with (first | (go_at_call 19; refine (iStep_any _ _ _).mono ?_; rintro e w' ⟨rfl, rfl⟩) | (go_at_call 20; refine (sStep_any _ _ _).mono ?_; rintro e w' ⟨rfl, rfl⟩))
        go_ret
        exact ⟨rfl, b1⟩
    · have e : stepF m t = -1 := by
        by_cases h1 : 0 ≤ m ∧ m ≤ 998001
        · exact stepF_t h1 (fun h2 => h ⟨h1, h2⟩)
        · exact stepF_m h1
      have q0 : stepF m t < 0 := by omega
      have H := Lib.hid e
      clear e h
      go_wp2_with (first | (go_at_call 19; refine (iStep_any _ _ _).mono ?_; rintro e w' ⟨rfl, rfl⟩) | (go_at_call 20; refine (sStep_any _ _ _).mono ?_; rintro e w' ⟨rfl, rfl⟩))
      go_ret
      exact ⟨rfl, b1⟩
  · have hn' : 1048576 < cs.length := by omega
    go_enter Try.func4, Try.ntmps4
    go_wp2
    go_ret
    exact ⟨rfl, Below.refl _ _⟩

set_option maxRecDepth 100000 in
theorem lifted (os : Os) (started : os.Started) (H : Type) (enc : TypeId × Value → H) :
    ReturnsInHanded {} Try.checked os 4 .any (Rows.fnStepIceSpec.pre6 enc Try.prog Try.f4 Rows.fnStepIceRow.domain false) (Rows.fnStepIceSpec.post enc Try.prog Try.f4 false true false false) := by
  refine returnsInHanded_of_change (C := Try.checked) ownNone started (by kernel_rfl) Try.func4
    (ChangeSpec.witness6 (enc := enc) (C := Try.checked) false ⟨#[], #[.slice none 0 0], []⟩ 8 (by kernel_rfl) (by kernel_rfl) (by kernel_rfl) (by kernel_rfl)) ?_
  intro W base args ds gs before hval0 hW hcnd _
  have hval : ∀ (j : Nat) t v, Try.f4.params[j]? = some t → args[j]? = some v → Value.okWide Try.prog W .any base t v := hval0
  have hW' := hW
  obtain ⟨p, q, hA0, hV, rfl, _, _⟩ := hW
  have hA : DataW.TrodAll enc Try.prog W 0 (fun _ => true) true Try.f4.params.toList args.toList ds p := hA0
  rw [Try.params4] at hA hval
  obtain ⟨v0, vs0, d0, ds0, p0, q0, hargs, rfl, rfl, h0, r0⟩ := trodAll_cons hA
  obtain ⟨rfl, rfl, rfl⟩ := trodAll_nil r0
  obtain rfl : args = #[v0] := by cases args; simp_all
  obtain ⟨rfl, rfl⟩ := trodVars_none hV
  obtain ⟨Acs, ccs, cs, rfl, hrcs, hlcs, hqcs⟩ := open_rd Try.underlying22 Try.underlying5 cellsByte (hval 0 22 v0 rfl rfl) h0
  have hbcs := byte_bounds hqcs
  clear hA0 hval0
  refine (walk W cs Acs ccs hrcs hbcs hlcs).mono fun e W' ⟨he, hg⟩ => ?_
  subst he
  exact ⟨_, rfl, law_post laidOut (by kernel_rfl) rfl rfl rfl rfl rfl Try.underlying4 hW' hg⟩

/-- The statement. -/
theorem proved : Rows.FnStepIceSaid :=
  OpenClaim.holds_of_wide 4 Try.f4 rfl rfl rfl rfl rfl rfl rfl ⟨rfl, rfl, rfl, rfl, rfl⟩ rfl rfl rfl rfl rfl (by kernel_rfl) Try.func4 (by kernel_rfl)
    (of_decide_eq_true (by kernel_rfl)) (by unfold Func.isWrapper; first | (rw [if_pos (by decide +kernel)]; kernel_rfl) | (rw [if_neg (by decide +kernel)]; exact ⟨rfl, rfl⟩))
    (fun os started H enc _ => lifted os started H enc)
#print axioms proved
end fnStepIce

end Go.Proofs.Ythccmpbklhlohaa

/- The law FnUnderSnow: for every code it answers true, and the code reads as it read before. No condition. -/
import Derived.Test.YthccmpbklhlohaaPureB
import Derived.Test.YthccmpbklhlohaaDraws
import Derived.Test.YthccmpbklhlohaaLaw
namespace Go.Proofs.Ythccmpbklhlohaa
open Go.RowKit
set_option linter.unusedVariables false
set_option linter.unusedSimpArgs false

theorem snow_le {t s : Int} (h : -400 ≤ t ∧ t ≤ 400) (g : 0 ≤ s ∧ s ≤ 500) : (0 ≤ t → 0 ≤ snowT t s ∧ snowT t s ≤ t) ∧ (t ≤ 0 → t ≤ snowT t s ∧ snowT t s ≤ 0) := by
  rw [snowT_ok h g]
  refine ⟨fun h0 => ?_, fun h0 => ?_⟩
  · rw [Int.tdiv_eq_ediv_of_nonneg (by omega)]
    refine ⟨Int.ediv_nonneg (by omega) (by omega), Int.ediv_le_of_le_mul (by omega) ?_⟩
    exact Int.mul_le_mul_of_nonneg_left (by omega) h0
  · have e : t * 50 = -(-t * 50) := by omega
    have p1 := Int.ediv_nonneg (a := -t * 50) (b := 50 + s) (by omega) (by omega)
    have p2 : (-t * 50) / (50 + s) ≤ -t := Int.ediv_le_of_le_mul (by omega) (Int.mul_le_mul_of_nonneg_left (by omega) (by omega))
    rw [e, Int.neg_tdiv, Int.tdiv_eq_ediv_of_nonneg (by omega)]
    omega
theorem snow_none {t : Int} (h : -400 ≤ t ∧ t ≤ 400) : snowT t 0 = t := by
  rw [snowT_ok h ⟨by omega, by omega⟩]
  exact Int.mul_tdiv_cancel t (by omega)
theorem snow_neg {t s : Int} (h : -400 ≤ t ∧ t ≤ 400) (g : 0 ≤ s ∧ s ≤ 500) : snowT (-t) s = -snowT t s := by
  rw [snowT_ok h g, snowT_ok ⟨by omega, by omega⟩ g, Int.neg_mul, Int.neg_tdiv]

namespace fnUnderSnow
open Go.ChangeShapes Go.WideShapes Go.ChangeAt Go.RowKit
set_option maxHeartbeats 800000 in
theorem walk (w : World) (cs : List Int) (Acs : Option Addr) (ccs : Nat) (hrcs : Rd w w.heap.size Acs (bytes cs)) (hbcs : ∀ z ∈ cs, 0 ≤ z ∧ z ≤ 255) (hlcs : cs.length ≤ ccs ∧ ccs ≤ maxLen) :
    Calls Try.prog 14 #[.slice Acs cs.length ccs] w fun e w' => e = .returned (.bool true) ∧ Below w.heap.size w w' := by
  by_cases hn : cs.length ≤ 1048576
  · go_enter Try.func14, Try.ntmps14
    go_wp2_with fail
    refine (dUnderSnow _ _ _ _ hrcs hbcs hlcs.1 hlcs.2).mono ?_
    rintro e w1 ⟨t, s, rfl, ht, hs, b1⟩
    by_cases h : (-400 ≤ t ∧ t ≤ 400) ∧ (0 ≤ s ∧ s ≤ 500)
    · have f1 := snow_le h.1 h.2
      have f3 : (snowT t 0 == t) = true := beq_iff_eq.2 (snow_none h.1)
      have f4 : (snowT (-t) s == -snowT t s) = true := beq_iff_eq.2 (snow_neg h.1 h.2)
      obtain ⟨⟨t0, t1⟩, s0, s1⟩ := h
      by_cases hc : t < 0
      · have g1 := f1.2 (by omega)
        clear f1
        by_cases hz : snowT t s = 0
        · have q5 : (snowT t s == 0) = true := beq_iff_eq.2 hz
          have H := Lib.hid hz
          clear hz
          go_wp2_with (first | (go_at_call 47; refine (iSnow_any _ _ _).mono ?_; rintro e w' ⟨rfl, rfl⟩) | (go_at_call 48; refine (sSnow_any _ _ _).mono ?_; rintro e w' ⟨rfl, rfl⟩))
          all_goals (first | (go_ret; exact ⟨rfl, b1⟩) | (exfalso; have := H.out; omega))
        · have q5 : (snowT t s == 0) = false := beq_eq_false_iff_ne.2 hz
          have q6 : snowT t s < 0 := by omega
          clear hz
          go_wp2_with (first | (go_at_call 47; refine (iSnow_any _ _ _).mono ?_; rintro e w' ⟨rfl, rfl⟩) | (go_at_call 48; refine (sSnow_any _ _ _).mono ?_; rintro e w' ⟨rfl, rfl⟩))
          all_goals (first | (go_ret; exact ⟨rfl, b1⟩) | (exfalso; omega))
      · have g1 := f1.1 (by omega)
        clear f1
        by_cases hz : snowT t s = 0
        · have q5 : (snowT t s == 0) = true := beq_iff_eq.2 hz
          have H := Lib.hid hz
          clear hz
          go_wp2_with (first | (go_at_call 47; refine (iSnow_any _ _ _).mono ?_; rintro e w' ⟨rfl, rfl⟩) | (go_at_call 48; refine (sSnow_any _ _ _).mono ?_; rintro e w' ⟨rfl, rfl⟩))
          all_goals (first | (go_ret; exact ⟨rfl, b1⟩) | (exfalso; have := H.out; omega))
        · have q5 : (snowT t s == 0) = false := beq_eq_false_iff_ne.2 hz
          have q6 : 0 < snowT t s := by omega
          clear hz
          go_wp2_with (first | (go_at_call 47; refine (iSnow_any _ _ _).mono ?_; rintro e w' ⟨rfl, rfl⟩) | (go_at_call 48; refine (sSnow_any _ _ _).mono ?_; rintro e w' ⟨rfl, rfl⟩))
          all_goals (first | (go_ret; exact ⟨rfl, b1⟩) | (exfalso; omega))
    · have H : Hid (¬((-400 ≤ t ∧ t ≤ 400) ∧ (0 ≤ s ∧ s ≤ 500))) := Lib.hid h
      clear h
      go_wp2_with (first | (go_at_call 47; refine (iSnow_any _ _ _).mono ?_; rintro e w' ⟨rfl, rfl⟩) | (go_at_call 48; refine (sSnow_any _ _ _).mono ?_; rintro e w' ⟨rfl, rfl⟩))
      all_goals (first | (go_ret; exact ⟨rfl, b1⟩) | (exfalso; have := H.out; omega))
  · have hn' : 1048576 < cs.length := by omega
    go_enter Try.func14, Try.ntmps14
    go_wp2
    go_ret
    exact ⟨rfl, Below.refl _ _⟩

set_option maxRecDepth 100000 in
theorem lifted (os : Os) (started : os.Started) (H : Type) (enc : TypeId × Value → H) :
    ReturnsInHanded {} Try.checked os 14 .any (Rows.fnUnderSnowSpec.pre6 enc Try.prog Try.f14 Rows.fnUnderSnowRow.domain false) (Rows.fnUnderSnowSpec.post enc Try.prog Try.f14 false true false false) := by
  refine returnsInHanded_of_change (C := Try.checked) ownNone started (by kernel_rfl) Try.func14
    (ChangeSpec.witness6 (enc := enc) (C := Try.checked) false ⟨#[], #[.slice none 0 0], []⟩ 8 (by kernel_rfl) (by kernel_rfl) (by kernel_rfl) (by kernel_rfl)) ?_
  intro W base args ds gs before hval0 hW hcnd _
  have hval : ∀ (j : Nat) t v, Try.f14.params[j]? = some t → args[j]? = some v → Value.okWide Try.prog W .any base t v := hval0
  have hW' := hW
  obtain ⟨p, q, hA0, hV, rfl, _, _⟩ := hW
  have hA : DataW.TrodAll enc Try.prog W 0 (fun _ => true) true Try.f14.params.toList args.toList ds p := hA0
  rw [Try.params14] at hA hval
  obtain ⟨v0, vs0, d0, ds0, p0, q0, hargs, rfl, rfl, h0, r0⟩ := trodAll_cons hA
  obtain ⟨rfl, rfl, rfl⟩ := trodAll_nil r0
  obtain rfl : args = #[v0] := by cases args; simp_all
  obtain ⟨rfl, rfl⟩ := trodVars_none hV
  obtain ⟨Acs, ccs, cs, rfl, hrcs, hlcs, hqcs⟩ := open_rd Try.underlying22 Try.underlying5 cellsByte (hval 0 22 v0 rfl rfl) h0
  have hbcs := byte_bounds hqcs
  clear hA0 hval0
  refine (walk W cs Acs ccs hrcs hbcs hlcs).mono fun e W' ⟨he, hg⟩ => ?_
  subst he
  exact ⟨_, rfl, law_post laidOut (by kernel_rfl) rfl rfl rfl rfl rfl Try.underlying4 hW' hg⟩

/-- The statement. -/
theorem proved : Rows.FnUnderSnowSaid :=
  OpenClaim.holds_of_wide 14 Try.f14 rfl rfl rfl rfl rfl rfl rfl ⟨rfl, rfl, rfl, rfl, rfl⟩ rfl rfl rfl rfl rfl (by kernel_rfl) Try.func14 (by kernel_rfl)
    (of_decide_eq_true (by kernel_rfl)) (by unfold Func.isWrapper; first | (rw [if_pos (by decide +kernel)]; kernel_rfl) | (rw [if_neg (by decide +kernel)]; exact ⟨rfl, rfl⟩))
    (fun os started H enc _ => lifted os started H enc)
#print axioms proved
end fnUnderSnow

end Go.Proofs.Ythccmpbklhlohaa

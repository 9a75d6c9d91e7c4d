/- The law FnDaysLeftBox: for every code it answers true, and the code reads as it read before. No condition. -/
import Derived.Test.YtbnggakfogcalaaHLaw
import Derived.Test.YtbnggakfogcalaaHDraws
import Derived.Test.YtbnggakfogcalaaLaw
namespace Go.Proofs.Ytbnggakfogcalaa
open Go.RowKit
set_option linter.unusedVariables false
set_option linter.unusedSimpArgs false

namespace fnDaysLeftBox
open Go.ChangeShapes Go.WideShapes Go.ChangeAt Go.RowKit
set_option maxRecDepth 100000 in
set_option maxHeartbeats 800000 in
set_option maxRecDepth 100000 in
set_option maxRecDepth 100000 in
set_option maxHeartbeats 8000000 in
theorem walk (w : World) (cs : List Int) (Acs : Option Addr) (ccs : Nat) (hrcs : Rd w w.heap.size Acs (bytes cs)) (hbcs : ∀ z ∈ cs, 0 ≤ z ∧ z ≤ 255) (hlcs : cs.length ≤ ccs ∧ ccs ≤ maxLen) :
    Calls Try.prog 13 #[.slice Acs cs.length ccs] w fun e w' => e = .returned (.bool true) ∧ Below w.heap.size w w' := by
  by_cases hn : cs.length ≤ 1048576
  · go_enter Try.func13, Try.ntmps13
    go_wp2_with fail
    refine (dBestBox _ _ _ _ hrcs hbcs hlcs.1 hlcs.2).mono ?_
    rintro e w1 ⟨n, rfl, hbn, b1⟩
    have hn0 : n ≤ 9223372036854775807 := by omega
    have CI := Lib.hid (iBest_any n hn0 w1)
    have CS := Lib.hid (fun w' => sBest_any n hn0 w')
    have HOK : BxOk n (bestF n) := bxOut_ok 9 (Nat.le_refl _)
    have HR : Hid (∀ k : Nat, n = (k : Int) → 1 ≤ k → k ≤ 9 → rowDay k = true) := Lib.hid fun k _ h1 h2 => rowDay_all k h1 h2
    have HBF : Hid (∀ k : Nat, n = (k : Int) → rowDay k = (decide ((bestF n).w = 0) || decide (cakesF (meltF (layF k 1 k)) ≤ cakesF (meltF (layF (bestF n).w.toNat (bestF n).d.toNat k))))) := Lib.hid fun k h => by subst h; rfl
    generalize bestF n = s at *
    go_wp2_with fail
    refine (CI.out).mono ?_
    rintro e w2 ⟨rfl, b2⟩
    go_wp2_with fail
    refine (CS.out w2).mono ?_
    rintro e w' ⟨rfl, rfl⟩
    have bl2 := b1.trans (b2.mono b1.size)
    by_cases hw0 : s.w = 0
    · have hwb : (s.w == 0) = true := beq_iff_eq.2 hw0
      clear HOK b1 b2
      go_wp2
      go_ret
      exact ⟨rfl, bl2⟩
    · have hwb : (s.w == 0) = false := beq_eq_false_iff_ne.2 hw0
      by_cases h9 : 9 < n
      · clear HOK b1 b2
        go_wp2
        go_ret
        exact ⟨rfl, bl2⟩
      · obtain ⟨W, D, w1', w2', w3, w4, w5, w6, w7, w8, w9⟩ := HOK.yes (fun h => hw0 (HOK.no h).1)
        obtain ⟨k, k1, k2, hnk, hqk⟩ := okBx_nat w3 w5 w7
        obtain ⟨n', hn'⟩ : ∃ n', n' = W * D * k := ⟨_, rfl⟩
        rw [← hn'] at hnk
        have hM : W * D * k ≤ W * D * 12 := Nat.mul_le_mul_left _ k2
        have hn1 : n' ≤ W * D * 12 := by omega
        have hpos : 1 ≤ n' := by
          have : 1 * 1 ≤ W * D := Nat.mul_le_mul w3 w5
          have : 1 * 1 ≤ W * D * k := Nat.mul_le_mul (by omega) k1
          omega
        have hn9 : n' ≤ 9 := by omega
        have hrow := HR.out n' hnk hpos hn9
        rw [HBF.out n' hnk, w1', w2', Int.toNat_natCast, Int.toNat_natCast, decide_eq_false (by omega), Bool.false_or] at hrow
        have hle := of_decide_eq_true hrow
        have hv1 := lay_heap (n := n') ⟨w3, w4⟩ ⟨w5, w6⟩ hn1
        have hv2 := lay_heap (w := n') (d := 1) (n := n') ⟨hpos, hn9⟩ ⟨Nat.le_refl _, by omega⟩ (by omega)
        have HF1 := Lib.hid (fun w' => iFill_any (W : Int) (D : Int) (n' : Int) w')
        rw [fillT_ok ⟨w3, w4⟩ ⟨w5, w6⟩ hn1] at HF1
        have HF2 := Lib.hid (fun w' => iFill_any (n' : Int) ((1 : Nat) : Int) (n' : Int) w')
        rw [fillT_ok ⟨hpos, hn9⟩ ⟨Nat.le_refl _, by omega⟩ (by omega)] at HF2
        have HM1 := Lib.hid (fun A' c' w' h => iMelt_any (layF W D n') A' c' w' h)
        rw [meltT_ok hv1] at HM1
        have HM2 := Lib.hid (fun A' c' w' h => iMelt_any (layF n' 1 n') A' c' w' h)
        rw [meltT_ok hv2] at HM2
        have HC1 := Lib.hid (fun A' c' w' h => iCakesH_any (meltF (layF W D n')) A' c' w' (World.heap w').size h)
        rw [cakesHT_ok (melt_ok hv1).1] at HC1
        have HC2 := Lib.hid (fun A' c' w' h => iCakesH_any (meltF (layF n' 1 n')) A' c' w' (World.heap w').size h)
        rw [cakesHT_ok (melt_ok hv2).1] at HC2
        rw [← hnk] at HF1 HF2
        have hW0 : ((W : Int) == 0) = false := beq_eq_false_iff_ne.2 (by omega)
        have hW1 : ¬ (W : Int) = 0 := by omega
        have hor : (((W : Int) == 0) || decide (9 < n)) = false := by rw [hW0, decide_eq_false h9]; rfl
        rw [w1', w2']
        clear HOK b1 b2 hrow hv1 hv2 hM hwb hw0 w1' w2' w8 w9 hnk hn' hqk
        generalize s.h = sh at *
        generalize meltF (layF W D n') = m1 at *
        generalize meltF (layF n' 1 n') = m2 at *
        generalize layF W D n' = f1 at *
        generalize layF n' 1 n' = f2 at *
        go_wp2_with fail
        refine (HF1.out w2).mono ?_
        rintro e w5 ⟨A5, c5, xs5, rfl, o5, b5⟩
        go_wp2_with fail
        refine (HM1.out A5 c5 w5 o5.rd).mono ?_
        rintro e w6 ⟨A6, c6, xs6, rfl, o6, b6⟩
        have H1 := Lib.hid (HC1.out A6 c6 w6 o6.rd)
        have b56 := b5.trans (b6.mono b5.size)
        clear o5 o6 b5 b6
        go_wp2_with fail
        refine (H1.out).mono ?_
        rintro e w' ⟨rfl, rfl⟩
        go_wp2_with fail
        refine (HF2.out w6).mono ?_
        rintro e w7 ⟨A7, c7, xs7, rfl, o7, b7⟩
        go_wp2_with fail
        refine (HM2.out A7 c7 w7 o7.rd).mono ?_
        rintro e w8 ⟨A8, c8, xs8, rfl, o8, b8⟩
        have H2 := Lib.hid (HC2.out A8 c8 w8 o8.rd)
        have b78 := b7.trans (b8.mono b7.size)
        have bl8 := bl2.trans ((b56.trans (b78.mono b56.size)).mono bl2.size)
        clear o7 o8 b7 b8 b56 b78
        go_wp2_with fail
        refine (H2.out).mono ?_
        rintro e w' ⟨rfl, rfl⟩
        generalize cakesF m1 = q1 at *
        generalize cakesF m2 = q2 at *
        go_wp2
        go_ret
        exact ⟨rfl, bl8⟩
  · have hn' : 1048576 < cs.length := by omega
    go_enter Try.func13, Try.ntmps13
    go_wp2
    go_ret
    exact ⟨rfl, Below.refl _ _⟩

set_option maxRecDepth 100000 in
theorem lifted (os : Os) (started : os.Started) (H : Type) (enc : TypeId × Value → H) :
    ReturnsInHanded {} Try.checked os 13 .any (Rows.fnDaysLeftBoxSpec.pre6 enc Try.prog Try.f13 Rows.fnDaysLeftBoxRow.domain false) (Rows.fnDaysLeftBoxSpec.post enc Try.prog Try.f13 false true false false) := by
  refine returnsInHanded_of_change (C := Try.checked) ownNone started (by kernel_rfl) Try.func13
    (ChangeSpec.witness6 (enc := enc) (C := Try.checked) false ⟨#[], #[.slice none 0 0], []⟩ 8 (by kernel_rfl) (by kernel_rfl) (by kernel_rfl) (by kernel_rfl)) ?_
  intro W base args ds gs before hval0 hW hcnd _
  have hval : ∀ (j : Nat) t v, Try.f13.params[j]? = some t → args[j]? = some v → Value.okWide Try.prog W .any base t v := hval0
  have hW' := hW
  obtain ⟨p, q, hA0, hV, rfl, _, _⟩ := hW
  have hA : DataW.TrodAll enc Try.prog W 0 (fun _ => true) true Try.f13.params.toList args.toList ds p := hA0
  rw [Try.params13] at hA hval
  obtain ⟨v0, vs0, d0, ds0, p0, q0, hargs, rfl, rfl, h0, r0⟩ := trodAll_cons hA
  obtain ⟨rfl, rfl, rfl⟩ := trodAll_nil r0
  obtain rfl : args = #[v0] := by cases args; simp_all
  obtain ⟨rfl, rfl⟩ := trodVars_none hV
  obtain ⟨Acs, ccs, cs, rfl, hrcs, hlcs, hqcs⟩ := open_rd Try.underlying22 Try.underlying5 cellsByte (hval 0 22 v0 rfl rfl) h0
  have hbcs := byte_bounds hqcs
  clear hA0 hval0
  refine (walk W cs Acs ccs hrcs hbcs hlcs).mono fun e W' ⟨he, hg⟩ => ?_
  subst he
  exact ⟨_, rfl, law_post laidOut (by kernel_rfl) rfl rfl rfl rfl rfl Try.underlying4 hW' hg⟩

/-- The statement. -/
theorem proved : Rows.FnDaysLeftBoxSaid :=
  OpenClaim.holds_of_wide 13 Try.f13 rfl rfl rfl rfl rfl rfl rfl ⟨rfl, rfl, rfl, rfl, rfl⟩ rfl rfl rfl rfl rfl (by kernel_rfl) Try.func13 (by kernel_rfl)
    (of_decide_eq_true (by kernel_rfl)) (by unfold Func.isWrapper; first | (rw [if_pos (by decide +kernel)]; kernel_rfl) | (rw [if_neg (by decide +kernel)]; exact ⟨rfl, rfl⟩))
    (fun os started H enc _ => lifted os started H enc)
#print axioms proved
end fnDaysLeftBox

end Go.Proofs.Ytbnggakfogcalaa

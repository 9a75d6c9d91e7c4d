/- The law FnGreatestGap: for every code it answers true, and the code reads as it read before. No condition. -/
import Derived.Test.YtcjcdlhmhhbkgaaLLaw
import Derived.Test.YtcjcdlhmhhbkgaaLDrawsB
import Derived.Test.YtcjcdlhmhhbkgaaLaw
namespace Go.Proofs.Ytcjcdlhmhhbkgaa
open Go.RowKit
set_option linter.unusedVariables false
set_option linter.unusedSimpArgs false

namespace fnGreatestGap
open Go.ChangeShapes Go.WideShapes Go.ChangeAt Go.RowKit
set_option maxHeartbeats 800000 in
set_option maxRecDepth 100000 in
set_option maxHeartbeats 8000000 in
theorem walk (w : World) (cs : List Int) (Acs : Option Addr) (ccs : Nat) (hrcs : Rd w w.heap.size Acs (bytes cs)) (hbcs : ∀ z ∈ cs, 0 ≤ z ∧ z ≤ 255) (hlcs : cs.length ≤ ccs ∧ ccs ≤ maxLen) :
    Calls Try.prog 11 #[.slice Acs cs.length ccs] w fun e w' => e = .returned (.bool true) ∧ Below w.heap.size w w' := by
  by_cases hn : cs.length ≤ 1048576
  · go_enter Try.func11, Try.ntmps11
    go_wp2_with fail
    refine (dGreatestGap _ _ _ _ hrcs hbcs hlcs.1 hlcs.2).mono ?_
    rintro e w1 ⟨zs, Azs, czs, b, t, rfl, ⟨hlzs, hrzs, hczs, hmzs⟩, ⟨lob, hib⟩, ⟨lot, hit⟩, b1⟩
    have hn1 : zs.length ≤ 1048576 := by omega
    obtain ⟨x, hx⟩ : ∃ x, x = gapT zs b t := ⟨_, rfl⟩
    have HX := Lib.hid hx
    clear hx
    have CS : Hid (∀ w' : World, Rd w' w'.heap.size Azs (ints zs) → Calls Try.prog 40 #[.slice Azs zs.length czs, .int .i64 b, .int .i64 t] w' fun e w'' => e = .returned (.int .i64 x) ∧ Below w'.heap.size w' w'') := Lib.hid fun w' h => by
      rw [HX.out]; exact sGap_any zs Azs czs w' h hn1 b t
    have CI : Calls Try.prog 39 #[.slice Azs zs.length czs, .int .i64 b, .int .i64 t] w1 fun e w'' => e = .returned (.int .i64 x) ∧ Below w1.heap.size w1 w'' := by
      rw [HX.out]; exact iGap_any zs Azs czs w1 hrzs b t
    go_wp2_with fail
    refine (CI).mono ?_
    rintro e w2 ⟨rfl, b2⟩
    have hr2 := hrzs.up b2
    go_wp2_with fail
    refine (CS.out w2 hr2).mono ?_
    rintro e w3 ⟨rfl, b3⟩
    have hr3 := hr2.up b3
    have bl3 : Below w.heap.size w w3 := (b1.trans (b2.mono b1.size)).trans (b3.mono (by have := b1.size; have := b2.size; omega))
    clear b1 b2 b3 hrzs hr2 CI
    by_cases h0 : x < 0
    · skip
      go_wp2_with fail
      refine (CS.out w3 hr3).mono ?_
      rintro e w4 ⟨rfl, b4⟩
      have bl4 := bl3.trans (b4.mono bl3.size)
      clear b4 bl3 hr3 CS
      go_wp2
      go_ret
      exact ⟨rfl, bl4⟩
    · by_cases hz : zs.length = 0
      · have hz0 : ((zs.length : Int) == 0) = true := beq_iff_eq.2 (by omega)
        clear hz
        go_wp2_with fail
        refine (CS.out w3 hr3).mono ?_
        rintro e w4 ⟨rfl, b4⟩
        have bl4 := bl3.trans (b4.mono bl3.size)
        clear b4 bl3 hr3 CS
        go_wp2
        go_ret
        exact ⟨rfl, bl4⟩
      · have hz0 : ((zs.length : Int) == 0) = false := beq_eq_false_iff_ne.2 (by omega)
        obtain ⟨hT, m, hbm, hm0, hm8, X, hX, hX1, hX60, hok, hno⟩ := gap_some HX.out (by omega)
        subst hbm
        subst hX
        have HT := Lib.hid hT
        have hl40 := hT.len
        have ok1 : grF (el (liftF zs X m)) zs.length ≤ t := by
          have h1 := underB_t hok
          refine grF_bd ?_ fun i hi => h1 i (by rw [liftF_len]; exact hi)
          have h2 := h1 0 (by rw [liftF_len]; omega)
          rw [liftF_at (by omega)] at h2
          have h3 := la_bd' hT (n := m) (g := X) (i := 0) (by omega) (by omega) (by omega)
          omega
        have HNO : Hid (∀ q : Nat, q = X + 1 → q ≤ 60 → t < grF (el (liftF zs q m)) zs.length) := Lib.hid fun q hq h1 => by
          obtain ⟨i, hi, h2⟩ := underB_f (hno q (by omega) h1)
          rw [liftF_len] at hi
          have := grF_le (f := el (liftF zs q m)) hi
          omega
        have HLT : Hid (∀ g : Nat, 1 ≤ g → g ≤ 60 → liftF zs g m = liftT zs g m) := Lib.hid fun g h1 h2 => lift_of HT.out (by omega) ⟨hm0, hm8⟩
        clear hok hno hT CS hz
        go_wp2_with fail
        refine (iLift_is zs Azs czs w3 hr3 X m (HLT.out X hX1 hX60)).mono ?_
        rintro e w4 ⟨A4, c4, rfl, o4, b4⟩
        rw [liftF_len] at o4 ⊢
        have r4 := Rd.own o4
        have hr4 := hr3.up b4
        have bl4 := bl3.trans (b4.mono bl3.size)
        clear o4 b4 bl3 hr3
        go_wp2_with fail
        refine (greatest_any zs.length (liftF zs X m) (liftF_len zs X m) A4 c4 w4 _ r4 (by omega)).mono ?_
        rintro e w' ⟨rfl, rfl⟩
        generalize grF (el (liftF zs X m)) zs.length = M at *
        by_cases h1 : X = 60
        · have hx1 : ((X : Int) == 60) = true := beq_iff_eq.2 (by omega)
          clear HNO h1
          go_wp2
          go_ret
          exact ⟨rfl, bl4⟩
        · obtain ⟨q, hq⟩ : ∃ q : Nat, q = X + 1 := ⟨X + 1, rfl⟩
          have hqi : (X : Int) + 1 = (q : Int) := by omega
          have hgt := HNO.out q hq (by omega)
          have hx1 : ((X : Int) == 60) = false := beq_eq_false_iff_ne.2 (by omega)
          have cW := iLift_is zs Azs czs w4 hr4 q m (HLT.out q (by omega) (by omega))
          clear HNO h1 hq
          go_wp2_with fail
          refine cW.mono ?_
          rintro e w5 ⟨A5, c5, rfl, o5, b5⟩
          rw [liftF_len] at o5 ⊢
          have r5 := Rd.own o5
          have bl5 := bl4.trans (b5.mono bl4.size)
          clear o5 b5 bl4 cW
          go_wp2_with fail
          refine (greatest_any zs.length (liftF zs q m) (liftF_len zs q m) A5 c5 w5 _ r5 (by omega)).mono ?_
          rintro e w' ⟨rfl, rfl⟩
          generalize grF (el (liftF zs q m)) zs.length = M2 at *
          go_wp2
          go_ret
          exact ⟨rfl, bl5⟩
  · have hn' : 1048576 < cs.length := by omega
    go_enter Try.func11, Try.ntmps11
    go_wp2
    go_ret
    exact ⟨rfl, Below.refl _ _⟩

set_option maxRecDepth 100000 in
theorem lifted (os : Os) (started : os.Started) (H : Type) (enc : TypeId × Value → H) :
    ReturnsInHanded {} Try.checked os 11 .any (Rows.fnGreatestGapSpec.pre6 enc Try.prog Try.f11 Rows.fnGreatestGapRow.domain false) (Rows.fnGreatestGapSpec.post enc Try.prog Try.f11 false true false false) := by
  refine returnsInHanded_of_change (C := Try.checked) ownNone started (by kernel_rfl) Try.func11
    (ChangeSpec.witness6 (enc := enc) (C := Try.checked) false ⟨#[], #[.slice none 0 0], []⟩ 8 (by kernel_rfl) (by kernel_rfl) (by kernel_rfl) (by kernel_rfl)) ?_
  intro W base args ds gs before hval0 hW hcnd _
  have hval : ∀ (j : Nat) t v, Try.f11.params[j]? = some t → args[j]? = some v → Value.okWide Try.prog W .any base t v := hval0
  have hW' := hW
  obtain ⟨p, q, hA0, hV, rfl, _, _⟩ := hW
  have hA : DataW.TrodAll enc Try.prog W 0 (fun _ => true) true Try.f11.params.toList args.toList ds p := hA0
  rw [Try.params11] at hA hval
  obtain ⟨v0, vs0, d0, ds0, p0, q0, hargs, rfl, rfl, h0, r0⟩ := trodAll_cons hA
  obtain ⟨rfl, rfl, rfl⟩ := trodAll_nil r0
  obtain rfl : args = #[v0] := by cases args; simp_all
  obtain ⟨rfl, rfl⟩ := trodVars_none hV
  obtain ⟨Acs, ccs, cs, rfl, hrcs, hlcs, hqcs⟩ := open_rd Try.underlying22 Try.underlying5 cellsByte (hval 0 22 v0 rfl rfl) h0
  have hbcs := byte_bounds hqcs
  clear hA0 hval0
  refine (walk W cs Acs ccs hrcs hbcs hlcs).mono fun e W' ⟨he, hg⟩ => ?_
  subst he
  exact ⟨_, rfl, law_post laidOut (by kernel_rfl) rfl rfl rfl rfl rfl Try.underlying4 hW' hg⟩

/-- The statement. -/
theorem proved : Rows.FnGreatestGapSaid :=
  OpenClaim.holds_of_wide 11 Try.f11 rfl rfl rfl rfl rfl rfl rfl ⟨rfl, rfl, rfl, rfl, rfl⟩ rfl rfl rfl rfl rfl (by kernel_rfl) Try.func11 (by kernel_rfl)
    (of_decide_eq_true (by kernel_rfl)) (by unfold Func.isWrapper; first | (rw [if_pos (by decide +kernel)]; kernel_rfl) | (rw [if_neg (by decide +kernel)]; exact ⟨rfl, rfl⟩))
    (fun os started H enc _ => lifted os started H enc)
#print axioms proved
end fnGreatestGap

end Go.Proofs.Ytcjcdlhmhhbkgaa

/- The law FnExactGreatestGap: for every argument the program answers as its model; the arguments read as they read before. No condition. -/
import Derived.Test.YtcjcdlhmhhbkgabLExact
import Derived.Test.YtcjcdlhmhhbkgabLLeastS
import Derived.Test.YtcjcdlhmhhbkgabLaw
namespace Go.Proofs.Ytcjcdlhmhhbkgab
open Go.RowKit
set_option linter.unusedVariables false
set_option linter.unusedSimpArgs false

namespace fnExactGreatestGap
open Go.ChangeShapes Go.WideShapes Go.ChangeAt Go.RowKit
set_option maxHeartbeats 800000 in
set_option maxRecDepth 100000 in
set_option maxHeartbeats 8000000 in
theorem walk (w : World) (zs : List Int) (Azs : Option Addr) (czs : Nat) (hr : Rd w w.heap.size Azs (ints zs)) (m : Int) (t : Int) :
    Calls Try.prog 10 #[.slice Azs zs.length czs, .int .i64 m, .int .i64 t] w fun e w' => e = .returned (.bool true) ∧ Below w.heap.size w w' := by
  by_cases hn : zs.length ≤ 1048576
  · go_enter Try.func10, Try.ntmps10
    go_wp2_with fail
    refine (toIntS_any zs _ _ _ hr hn).mono ?_
    rintro e w1 ⟨A1, c1, rfl, o1, b1⟩
    have hr1 := hr.up b1
    go_wp2_with fail
    refine (sGap_any zs A1 c1 w1 (Rd.own o1) hn m t).mono ?_
    rintro e w2 ⟨rfl, b2⟩
    have hr2 := hr1.up b2
    go_wp2_with fail
    refine (toIntS_any zs _ _ _ hr2 hn).mono ?_
    rintro e w3 ⟨A3, c3, rfl, o3, b3⟩
    have hr3 := hr2.up b3
    go_wp2_with fail
    refine (iGap_any zs A3 c3 w3 (Rd.own o3) m t).mono ?_
    rintro e w4 ⟨rfl, b4⟩
    have hr4 := hr3.up b4
    have o34 := owz_below o3 b4
    have bl4 := ((b1.trans (b2.mono b1.size)).trans (b3.mono (Nat.le_trans b1.size b2.size))).trans (b4.mono (Nat.le_trans b1.size (Nat.le_trans b2.size b3.size)))
    clear hr1 hr2 hr3 b1 b2 b3 b4 o1 o3
    generalize gapT zs m t = q at *
    go_wp2_with fail
    refine (toIntS_any zs _ _ _ hr4 hn).mono ?_
    rintro e w5 ⟨A5, c5, rfl, o5, b5⟩
    have r35 := Rd.own (owz_below o34 b5)
    have bl5 := bl4.trans (b5.mono bl4.size)
    go_wp2_with fail
    refine (eqIntS_same zs _ _ _ _ w5 _ r35 (Rd.own o5) hn).mono ?_
    rintro e w' ⟨rfl, n, rfl⟩
    go_wp2
    go_ret
    exact ⟨rfl, below_drewN bl5 n⟩
  · have hn' : 1048576 < zs.length := by omega
    go_enter Try.func10, Try.ntmps10
    go_wp2
    go_ret
    exact ⟨rfl, Below.refl _ _⟩

set_option maxRecDepth 100000 in
theorem lifted (os : Os) (started : os.Started) (H : Type) (enc : TypeId × Value → H) :
    ReturnsInHanded {} Try.checked os 10 .any (Rows.fnExactGreatestGapSpec.pre6 enc Try.prog Try.f10 Rows.fnExactGreatestGapRow.domain false) (Rows.fnExactGreatestGapSpec.post enc Try.prog Try.f10 false true false false) := by
  refine returnsInHanded_of_change (C := Try.checked) ownNone started (by kernel_rfl) Try.func10
    (ChangeSpec.witness6 (enc := enc) (C := Try.checked) false ⟨#[], #[.slice none 0 0, .int .i64 0, .int .i64 0], []⟩ 8 (by kernel_rfl) (by kernel_rfl) (by kernel_rfl) (by kernel_rfl)) ?_
  intro W base args ds gs before hval0 hW hcnd _
  have hval : ∀ (j : Nat) t v, Try.f10.params[j]? = some t → args[j]? = some v → Value.okWide Try.prog W .any base t v := hval0
  have hW' := hW
  obtain ⟨p, q, hA0, hV, rfl, _, _⟩ := hW
  have hA : DataW.TrodAll enc Try.prog W 0 (fun _ => true) true Try.f10.params.toList args.toList ds p := hA0
  rw [Try.params10] at hA hval
  obtain ⟨v0, vs0, d0, ds0, p0, q0, hargs, rfl, rfl, h0, r0⟩ := trodAll_cons hA
  obtain ⟨v1, vs1, d1, ds1, p1, q1, rfl, rfl, rfl, h1, r1⟩ := trodAll_cons r0
  obtain ⟨v2, vs2, d2, ds2, p2, q2, rfl, rfl, rfl, h2, r2⟩ := trodAll_cons r1
  obtain ⟨rfl, rfl, rfl⟩ := trodAll_nil r2
  obtain rfl : args = #[v0, v1, v2] := by cases args; simp_all
  obtain ⟨rfl, rfl⟩ := trodVars_none hV
  obtain ⟨Azs, czs, zs, rfl, hrzs, _, _⟩ := open_rd Try.underlying23 Try.underlying3 cellsInt (hval 0 23 v0 rfl rfl) h0
  obtain ⟨m, rfl, rfl, rfl, w1⟩ := open_int Try.underlying3 (hval 1 3 v1 rfl rfl) h1
  obtain ⟨t, rfl, rfl, rfl, w2⟩ := open_int Try.underlying3 (hval 2 3 v2 rfl rfl) h2
  clear hA0 hval0
  refine (walk W zs Azs czs hrzs m t).mono fun e W' ⟨he, hg⟩ => ?_
  subst he
  exact ⟨_, rfl, law_post laidOut (by kernel_rfl) rfl rfl rfl rfl rfl Try.underlying4 hW' hg⟩

/-- The statement. -/
theorem proved : Rows.FnExactGreatestGapSaid :=
  OpenClaim.holds_of_wide 10 Try.f10 rfl rfl rfl rfl rfl rfl rfl ⟨rfl, rfl, rfl, rfl, rfl⟩ rfl rfl rfl rfl rfl (by kernel_rfl) Try.func10 (by kernel_rfl)
    (of_decide_eq_true (by kernel_rfl)) (by unfold Func.isWrapper; first | (rw [if_pos (by decide +kernel)]; kernel_rfl) | (rw [if_neg (by decide +kernel)]; exact ⟨rfl, rfl⟩))
    (fun os started H enc _ => lifted os started H enc)
#print axioms proved
end fnExactGreatestGap

end Go.Proofs.Ytcjcdlhmhhbkgab

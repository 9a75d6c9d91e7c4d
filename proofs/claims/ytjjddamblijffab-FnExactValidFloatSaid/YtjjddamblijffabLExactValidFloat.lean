/- The law FnExactValidFloat: for every argument the program answers as its model; the arguments read as they read before. No condition. -/
import Derived.Test.YtjjddamblijffabCBelV
import Derived.Test.YtjjddamblijffabCFloatS
import Derived.Test.YtjjddamblijffabLaw
namespace Go.Proofs.Ytjjddamblijffab
open Go.RowKit
set_option linter.unusedVariables false
set_option linter.unusedSimpArgs false

namespace fnExactValidFloat
open Go.ChangeShapes Go.WideShapes Go.ChangeAt Go.RowKit
set_option maxRecDepth 100000 in
set_option maxHeartbeats 800000 in
set_option maxRecDepth 100000 in
set_option maxRecDepth 100000 in
set_option maxHeartbeats 8000000 in
theorem walk (w : World) (cs : List (Int × Int)) (Acs : Option Addr) (ccs : Nat) (hrcs : Rd w w.heap.size Acs (cakeV cs)) (hlcs : cs.length ≤ ccs ∧ ccs ≤ maxLen) (a : Int) (h : Int) (order : List Int) (Aorder : Option Addr) (corder : Nat) (hr : Rd w w.heap.size Aorder (ints order)) :
    Calls Try.prog 9 #[.slice Acs cs.length ccs, .int .i64 a, .int .i64 h, .slice Aorder order.length corder] w fun e w' => e = .returned (.bool true) ∧ Below w.heap.size w w' := by
  have hn0 : cs.length ≤ maxLen := Nat.le_trans hlcs.1 hlcs.2
  by_cases hno : order.length ≤ 1048576
  · go_enter Try.func9, Try.ntmps9
    go_wp2_with fail
    refine (szCakeS_any _ _ _ hn0 _).mono ?_
    rintro e w' ⟨⟨z, rfl, hz⟩, rfl⟩
    rcases hz with rfl | ⟨hz0, hsz⟩
    · go_wp2
      go_ret
      exact ⟨rfl, Below.refl _ _⟩
    · have hz1 : ¬ z < 0 := by omega
      go_wp2_with fail
      refine (toCakeS_any _ cs rfl _ _ _ hrcs hsz).mono ?_
      rintro e w1 ⟨A1, c1, rfl, o1, b1⟩
      have hg1 := (hrcs.below b1).more b1.size
      have hr1 := (hr.below b1).more b1.size
      go_wp2_with fail
      refine (toIntS_any order _ _ _ hr1 hno).mono ?_
      rintro e w2 ⟨A2, c2, rfl, o2, b2⟩
      have hq2 := owz_cap o2
      have o12 := owz_below o1 b2
      have hg2 := (hg1.below b2).more b2.size
      have hr2 := (hr1.below b2).more b2.size
      go_wp2_with fail
      refine (sFloat_any _ _ hsz hno cs order rfl rfl _ _ c1 c2 hq2 w2 (Rd.ownz o12) (Rd.ownz o2) a h).mono ?_
      rintro e w3 ⟨rfl, b3⟩
      have hg3 := (hg2.below b3).more b3.size
      have hr3 := (hr2.below b3).more b3.size
      clear o1 o2 o12 hg1 hg2 hr1 hr2
      go_wp2_with fail
      refine (toCakeS_any _ cs rfl _ _ _ hg3 hsz).mono ?_
      rintro e w4 ⟨A4, c4, rfl, o4, b4⟩
      have hq4 := owz_cap o4
      have hr4 := (hr3.below b4).more b4.size
      have hg4 := (hg3.below b4).more b4.size
      go_wp2_with fail
      refine (toIntS_any order _ _ _ hr4 hno).mono ?_
      rintro e w5 ⟨A5, c5, rfl, o5, b5⟩
      have o45 := owz_below o4 b5
      have hg5 := (hg4.below b5).more b5.size
      have hr5 := (hr4.below b5).more b5.size
      go_wp2_with fail
      refine (iFloat_any _ _ hsz hno cs order rfl rfl _ _ c4 c5 hq4 w5 (Rd.ownz o45) (Rd.ownz o5) a h).mono ?_
      rintro e w6 ⟨rfl, b6⟩
      have o46 := owz_below o45 b6
      have o56 := owz_below o5 b6
      have hg6 := (hg5.below b6).more b6.size
      have hr6 := (hr5.below b6).more b6.size
      have z1 := b1.size
      have z2 := b2.size
      have z3 := b3.size
      have z4 := b4.size
      have z5 := b5.size
      have z6 := b6.size
      have bl3 : Below w.heap.size w w3 := (b1.trans (b2.mono z1)).trans (b3.mono (by omega))
      have bl6 : Below w.heap.size w w6 := ((bl3.trans (b4.mono (by omega))).trans (b5.mono (by omega))).trans (b6.mono (by omega))
      clear hg3 hg4 hg5 hr3 hr4 hr5 o4 o45 o5 b1 b2 b3 b4 b5 b6 bl3
      generalize vfT a h cs order = q at *
      go_wp2_with fail
      refine (toCakeS_any _ cs rfl _ _ _ hg6 hsz).mono ?_
      rintro e w7 ⟨A7, c7, rfl, o7, b7⟩
      have o47 := owz_below o46 b7
      have o57 := owz_below o56 b7
      have hr7 := (hr6.below b7).more b7.size
      go_wp2_with fail
      refine (eqCakeS_same _ cs rfl _ _ _ _ w7 _ (Nat.le_refl _) (Rd.ownz o47) (Rd.ownz o7) hsz).mono ?_
      rintro e w8 ⟨rfl, b8⟩
      have o58 := owz_below o57 b8
      have hr8 := (hr7.below b8).more b8.size
      go_wp2_with fail
      refine (toIntS_any order _ _ _ hr8 hno).mono ?_
      rintro e w9 ⟨A9, c9, rfl, o9, b9⟩
      have o59 := owz_below o58 b9
      have z7 := b7.size
      have z8 := b8.size
      have bl9 : Below w.heap.size w w9 := ((bl6.trans (b7.mono (by omega))).trans (b8.mono (by omega))).trans (b9.mono (by omega))
      go_wp2_with fail
      refine (eqIntS_same order _ _ _ _ w9 w9.heap.size (Rd.ownz o59) (Rd.ownz o9) hno).mono ?_
      rintro e w' ⟨rfl, n9, rfl⟩
      cases q
      all_goals
        go_wp2
        go_ret
        exact ⟨rfl, below_drewN bl9 n9⟩
  · have hn' : 1048576 < order.length := by omega
    go_enter Try.func9, Try.ntmps9
    go_wp2
    go_ret
    exact ⟨rfl, Below.refl _ _⟩

set_option maxRecDepth 100000 in
theorem lifted (os : Os) (started : os.Started) (H : Type) (enc : TypeId × Value → H) :
    ReturnsInHanded {} Try.checked os 9 .any (Rows.fnExactValidFloatSpec.pre6 enc Try.prog Try.f9 Rows.fnExactValidFloatRow.domain false) (Rows.fnExactValidFloatSpec.post enc Try.prog Try.f9 false true false false) := by
  refine returnsInHanded_of_change (C := Try.checked) ownNone started (by kernel_rfl) Try.func9
    (ChangeSpec.witness6 (enc := enc) (C := Try.checked) false ⟨#[], #[.slice none 0 0, .int .i64 0, .int .i64 0, .slice none 0 0], []⟩ 8 (by kernel_rfl) (by kernel_rfl) (by kernel_rfl) (by kernel_rfl)) ?_
  intro W base args ds gs before hval0 hW hcnd _
  have hval : ∀ (j : Nat) t v, Try.f9.params[j]? = some t → args[j]? = some v → Value.okWide Try.prog W .any base t v := hval0
  have hW' := hW
  obtain ⟨p, q, hA0, hV, rfl, _, _⟩ := hW
  have hA : DataW.TrodAll enc Try.prog W 0 (fun _ => true) true Try.f9.params.toList args.toList ds p := hA0
  rw [Try.params9] at hA hval
  obtain ⟨v0, vs0, d0, ds0, p0, q0, hargs, rfl, rfl, h0, r0⟩ := trodAll_cons hA
  obtain ⟨v1, vs1, d1, ds1, p1, q1, rfl, rfl, rfl, h1, r1⟩ := trodAll_cons r0
  obtain ⟨v2, vs2, d2, ds2, p2, q2, rfl, rfl, rfl, h2, r2⟩ := trodAll_cons r1
  obtain ⟨v3, vs3, d3, ds3, p3, q3, rfl, rfl, rfl, h3, r3⟩ := trodAll_cons r2
  obtain ⟨rfl, rfl, rfl⟩ := trodAll_nil r3
  obtain rfl : args = #[v0, v1, v2, v3] := by cases args; simp_all
  obtain ⟨rfl, rfl⟩ := trodVars_none hV
  obtain ⟨Acs, ccs, cs, rfl, hrcs, hlcs⟩ := Opn.open_rdC Try.underlying40 (hval 0 40 v0 rfl rfl) h0
  obtain ⟨a, rfl, rfl, rfl, w1⟩ := open_int Try.underlying3 (hval 1 3 v1 rfl rfl) h1
  obtain ⟨h, rfl, rfl, rfl, w2⟩ := open_int Try.underlying3 (hval 2 3 v2 rfl rfl) h2
  obtain ⟨Aorder, corder, order, rfl, hrorder, _, _⟩ := open_rd Try.underlying23 Try.underlying3 cellsInt (hval 3 23 v3 rfl rfl) h3
  clear hA0 hval0
  refine (walk W cs Acs ccs hrcs hlcs a h order Aorder corder hrorder).mono fun e W' ⟨he, hg⟩ => ?_
  subst he
  exact ⟨_, rfl, law_post laidOut (by kernel_rfl) rfl rfl rfl rfl rfl Try.underlying4 hW' hg⟩

/-- The statement. -/
theorem proved : Rows.FnExactValidFloatSaid :=
  OpenClaim.holds_of_wide 9 Try.f9 rfl rfl rfl rfl rfl rfl rfl ⟨rfl, rfl, rfl, rfl, rfl⟩ rfl rfl rfl rfl rfl (by kernel_rfl) Try.func9 (by kernel_rfl)
    (of_decide_eq_true (by kernel_rfl)) (by unfold Func.isWrapper; first | (rw [if_pos (by decide +kernel)]; kernel_rfl) | (rw [if_neg (by decide +kernel)]; exact ⟨rfl, rfl⟩))
    (fun os started H enc _ => lifted os started H enc)
#print axioms proved
end fnExactValidFloat

end Go.Proofs.Ytjjddamblijffab

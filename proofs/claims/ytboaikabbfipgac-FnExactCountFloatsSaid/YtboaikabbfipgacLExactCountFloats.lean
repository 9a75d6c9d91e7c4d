/- The law FnExactCountFloats: for every argument the program answers as its model; the arguments read as they read before. No condition. -/
import Derived.Test.YtboaikabbfipgacCBelV
import Derived.Test.YtboaikabbfipgacCCountS
import Derived.Test.YtboaikabbfipgacLaw
namespace Go.Proofs.Ytboaikabbfipgac
open Go.RowKit
set_option linter.unusedVariables false
set_option linter.unusedSimpArgs false

namespace fnExactCountFloats
open Go.ChangeShapes Go.WideShapes Go.ChangeAt Go.RowKit
set_option maxHeartbeats 800000 in
set_option maxRecDepth 100000 in
set_option maxHeartbeats 8000000 in
theorem walk (w : World) (cs : List (Int × Int)) (Acs : Option Addr) (ccs : Nat) (hrcs : Rd w w.heap.size Acs (cakeV cs)) (hlcs : cs.length ≤ ccs ∧ ccs ≤ maxLen) (a : Int) (h : Int) :
    Calls Try.prog 12 #[.slice Acs cs.length ccs, .int .i64 a, .int .i64 h] w fun e w' => e = .returned (.bool true) ∧ Below w.heap.size w w' := by
  have hn0 : cs.length ≤ maxLen := Nat.le_trans hlcs.1 hlcs.2
  go_enter Try.func12, Try.ntmps12
  go_wp2_with fail
  refine (szCakeS_any _ _ _ hn0 _).mono ?_
  rintro e w' ⟨⟨z, rfl, hz⟩, rfl⟩
  rcases hz with rfl | ⟨hz0, hsz⟩
  · go_wp2
    go_ret
    exact ⟨rfl, Below.refl _ _⟩
  · have hz1 : ¬ z < 0 := by omega
    go_wp2_with fail
    refine (toCakeS_any _ cs rfl _ _ _ hrcs hsz).mono ?_
    rintro e w1 ⟨A1, c1, rfl, o1, b1⟩
    have hg1 := (hrcs.below b1).more b1.size
    have hq1 := owz_cap o1
    go_wp2_with fail
    refine (sCount_any _ hsz cs rfl A1 c1 w1 (Rd.ownz o1) a h).mono ?_
    rintro e w2 ⟨rfl, b2⟩
    have hg2 := (hg1.below b2).more b2.size
    go_wp2_with fail
    refine (toCakeS_any _ cs rfl _ _ _ hg2 hsz).mono ?_
    rintro e w3 ⟨A3, c3, rfl, o3, b3⟩
    have hg3 := (hg2.below b3).more b3.size
    have hq3 := owz_cap o3
    go_wp2_with fail
    refine (iCount_any _ hsz cs rfl A3 c3 hq3 w3 (Rd.ownz o3) a h).mono ?_
    rintro e w4 ⟨rfl, b4⟩
    have hg4 := (hg3.below b4).more b4.size
    have o34 := owz_below o3 b4
    have z1 := b1.size
    have z2 := b2.size
    have z3 := b3.size
    have z4 := b4.size
    have bl4 : Below w.heap.size w w4 := ((b1.trans (b2.mono b1.size)).trans (b3.mono (by omega))).trans (b4.mono (by omega))
    clear hg1 hg2 hg3 b1 b2 b3 b4 o1 o3
    generalize countT a h cs = q at *
    go_wp2_with fail
    refine (toCakeS_any _ cs rfl _ _ _ hg4 hsz).mono ?_
    rintro e w6 ⟨A6, c6, rfl, o6, b6⟩
    have o36 := owz_below o34 b6
    have bl6 : Below w.heap.size w w6 := bl4.trans (b6.mono (by omega))
    go_wp2_with fail
    refine (eqCakeS_same _ cs rfl _ _ _ _ w6 _ (Nat.le_refl _) (Rd.ownz o36) (Rd.ownz o6) hsz).mono ?_
    rintro e w7 ⟨rfl, b7⟩
    have bl7 := bl6.trans (b7.mono (by have := bl6.size; exact this))
    go_wp2
    go_ret
    exact ⟨rfl, bl7⟩

set_option maxRecDepth 100000 in
theorem lifted (os : Os) (started : os.Started) (H : Type) (enc : TypeId × Value → H) :
    ReturnsInHanded {} Try.checked os 12 .any (Rows.fnExactCountFloatsSpec.pre6 enc Try.prog Try.f12 Rows.fnExactCountFloatsRow.domain false) (Rows.fnExactCountFloatsSpec.post enc Try.prog Try.f12 false true false false) := by
  refine returnsInHanded_of_change (C := Try.checked) ownNone started (by kernel_rfl) Try.func12
    (ChangeSpec.witness6 (enc := enc) (C := Try.checked) false ⟨#[], #[.slice none 0 0, .int .i64 0, .int .i64 0], []⟩ 8 (by kernel_rfl) (by kernel_rfl) (by kernel_rfl) (by kernel_rfl)) ?_
  intro W base args ds gs before hval0 hW hcnd _
  have hval : ∀ (j : Nat) t v, Try.f12.params[j]? = some t → args[j]? = some v → Value.okWide Try.prog W .any base t v := hval0
  have hW' := hW
  obtain ⟨p, q, hA0, hV, rfl, _, _⟩ := hW
  have hA : DataW.TrodAll enc Try.prog W 0 (fun _ => true) true Try.f12.params.toList args.toList ds p := hA0
  rw [Try.params12] at hA hval
  obtain ⟨v0, vs0, d0, ds0, p0, q0, hargs, rfl, rfl, h0, r0⟩ := trodAll_cons hA
  obtain ⟨v1, vs1, d1, ds1, p1, q1, rfl, rfl, rfl, h1, r1⟩ := trodAll_cons r0
  obtain ⟨v2, vs2, d2, ds2, p2, q2, rfl, rfl, rfl, h2, r2⟩ := trodAll_cons r1
  obtain ⟨rfl, rfl, rfl⟩ := trodAll_nil r2
  obtain rfl : args = #[v0, v1, v2] := by cases args; simp_all
  obtain ⟨rfl, rfl⟩ := trodVars_none hV
  obtain ⟨Acs, ccs, cs, rfl, hrcs, hlcs⟩ := Opn.open_rdC Try.underlying43 (hval 0 43 v0 rfl rfl) h0
  obtain ⟨a, rfl, rfl, rfl, w1⟩ := open_int Try.underlying3 (hval 1 3 v1 rfl rfl) h1
  obtain ⟨h, rfl, rfl, rfl, w2⟩ := open_int Try.underlying3 (hval 2 3 v2 rfl rfl) h2
  clear hA0 hval0
  refine (walk W cs Acs ccs hrcs hlcs a h).mono fun e W' ⟨he, hg⟩ => ?_
  subst he
  exact ⟨_, rfl, law_post laidOut (by kernel_rfl) rfl rfl rfl rfl rfl Try.underlying4 hW' hg⟩

/-- The statement. -/
theorem proved : Rows.FnExactCountFloatsSaid :=
  OpenClaim.holds_of_wide 12 Try.f12 rfl rfl rfl rfl rfl rfl rfl ⟨rfl, rfl, rfl, rfl, rfl⟩ rfl rfl rfl rfl rfl (by kernel_rfl) Try.func12 (by kernel_rfl)
    (of_decide_eq_true (by kernel_rfl)) (by unfold Func.isWrapper; first | (rw [if_pos (by decide +kernel)]; kernel_rfl) | (rw [if_neg (by decide +kernel)]; exact ⟨rfl, rfl⟩))
    (fun os started H enc _ => lifted os started H enc)
#print axioms proved
end fnExactCountFloats

end Go.Proofs.Ytboaikabbfipgac

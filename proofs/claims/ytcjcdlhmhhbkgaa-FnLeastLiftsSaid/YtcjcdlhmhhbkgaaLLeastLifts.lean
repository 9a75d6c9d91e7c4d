/- The law FnLeastLifts: for every code it answers true, and the code reads as it read before. No condition. -/
import Derived.Test.YtcjcdlhmhhbkgaaLLaw
import Derived.Test.YtcjcdlhmhhbkgaaLDrawsB
import Derived.Test.YtcjcdlhmhhbkgaaLaw
namespace Go.Proofs.Ytcjcdlhmhhbkgaa
open Go.RowKit
set_option linter.unusedVariables false
set_option linter.unusedSimpArgs false

namespace fnLeastLifts
open Go.ChangeShapes Go.WideShapes Go.ChangeAt Go.RowKit
set_option maxHeartbeats 800000 in
set_option maxRecDepth 100000 in
set_option maxHeartbeats 8000000 in
theorem walk (w : World) (cs : List Int) (Acs : Option Addr) (ccs : Nat) (hrcs : Rd w w.heap.size Acs (bytes cs)) (hbcs : ∀ z ∈ cs, 0 ≤ z ∧ z ≤ 255) (hlcs : cs.length ≤ ccs ∧ ccs ≤ maxLen) :
    Calls Try.prog 10 #[.slice Acs cs.length ccs] w fun e w' => e = .returned (.bool true) ∧ Below w.heap.size w w' := by
  by_cases hn : cs.length ≤ 1048576
  · go_enter Try.func10, Try.ntmps10
    go_wp2_with fail
    refine (dLeastLifts _ _ _ _ hrcs hbcs hlcs.1 hlcs.2).mono ?_
    rintro e w1 ⟨zs, Azs, czs, a, t, rfl, ⟨hlzs, hrzs, hczs, hmzs⟩, ⟨loa, hia⟩, ⟨lot, hit⟩, b1⟩
    have hn1 : zs.length ≤ 1048576 := by omega
    obtain ⟨x, hx⟩ : ∃ x, x = leastT zs a t := ⟨_, rfl⟩
    have HX := Lib.hid hx
    clear hx
    have CI : Hid (∀ w' : World, Rd w' w'.heap.size Azs (ints zs) → Calls Try.prog 36 #[.slice Azs zs.length czs, .int .i64 a, .int .i64 t] w' fun e w'' => e = .returned (.int .i64 x) ∧ Below w'.heap.size w' w'') := Lib.hid fun w' h => by
        rw [HX.out]; exact iLeast_any zs Azs czs w' h a t
    have CS : Hid (∀ w' : World, Rd w' w'.heap.size Azs (ints zs) → Calls Try.prog 37 #[.slice Azs zs.length czs, .int .i64 a, .int .i64 t] w' fun e w'' => e = .returned (.int .i64 x) ∧ Below w'.heap.size w' w'') := Lib.hid fun w' h => by
        rw [HX.out]; exact sLeast_any zs Azs czs w' h hn1 a t
    go_wp2_with fail
    refine (CI.out w1 hrzs).mono ?_
    rintro e w2 ⟨rfl, b2⟩
    have hr2 := hrzs.up b2
    go_wp2_with fail
    refine (CS.out w2 hr2).mono ?_
    rintro e w3 ⟨rfl, b3⟩
    have hr3 := hr2.up b3
    have bl3 : Below w.heap.size w w3 := (b1.trans (b2.mono b1.size)).trans (b3.mono (by have := b1.size; have := b2.size; omega))
    clear b1 b2 b3 hrzs hr2 CI
    by_cases h0 : x < 0
    · skip
      go_wp2_with fail
      refine (CS.out w3 hr3).mono ?_
      rintro e w4 ⟨rfl, b4⟩
      have bl4 := bl3.trans (b4.mono bl3.size)
      clear b4 bl3 hr3 CS
      go_wp2
      go_ret
      exact ⟨rfl, bl4⟩
    · skip
      obtain ⟨hT, hg, ht0, X, hX, hX1, hX8, hok, hno⟩ := least_some HX.out (by omega)
      have HT := Lib.hid hT
      have hl40 := hT.len
      subst hX
      have ok1 : grF (el (waitsF zs a X)) zs.length ≤ t := by
        have h1 := hok
        unfold okL at h1
        rw [underB_gr ht0, waitsF_len] at h1
        exact of_decide_eq_true h1
      have HNO : Hid (∀ q, (X : Int) - 1 = (q : Nat) → 1 ≤ q → t < grF (el (waitsF zs a q)) zs.length) := Lib.hid fun q hq h1 => by
        have h2 := hno q h1 (by omega)
        unfold okL at h2
        rw [underB_gr ht0, waitsF_len] at h2
        have h3 := of_decide_eq_false h2
        omega
      have HWT : Hid (∀ m : Nat, 1 ≤ m → m ≤ 8 → waitsF zs a m = waitsT zs a m) := Lib.hid fun m h1 h2 => waits_of HT.out hg ⟨h1, h2⟩
      clear hok hno hT CS
      go_wp2_with fail
      refine (iWaits_is zs Azs czs w3 hr3 a X (HWT.out X hX1 hX8)).mono ?_
      rintro e w4 ⟨A4, c4, rfl, o4, b4⟩
      rw [waitsF_len] at o4 ⊢
      have r4 := Rd.own o4
      have hr4 := hr3.up b4
      have bl4 := bl3.trans (b4.mono bl3.size)
      clear o4 b4 bl3 hr3
      go_wp2_with fail
      refine (greatest_any zs.length (waitsF zs a X) (waitsF_len zs a X) A4 c4 w4 _ r4 (by omega)).mono ?_
      rintro e w' ⟨rfl, rfl⟩
      generalize grF (el (waitsF zs a X)) zs.length = M at *
      by_cases h1 : X = 1
      · subst h1
        clear HNO
        go_wp2
        go_ret
        exact ⟨rfl, bl4⟩
      · obtain ⟨q, hq⟩ : ∃ q : Nat, (X : Int) - 1 = (q : Int) := ⟨X - 1, by omega⟩
        have hq1 : 1 ≤ q := by omega
        have hgt := HNO.out q hq hq1
        have hx1 : ((X : Int) == 1) = false := beq_eq_false_iff_ne.2 (by omega)
        have cW := iWaits_is zs Azs czs w4 hr4 a q (HWT.out q hq1 (by omega))
        clear HNO h1
        go_wp2_with fail
        refine cW.mono ?_
        rintro e w5 ⟨A5, c5, rfl, o5, b5⟩
        rw [waitsF_len] at o5 ⊢
        have r5 := Rd.own o5
        have bl5 := bl4.trans (b5.mono bl4.size)
        clear o5 b5 bl4 cW
        go_wp2_with fail
        refine (greatest_any zs.length (waitsF zs a q) (waitsF_len zs a q) A5 c5 w5 _ r5 (by omega)).mono ?_
        rintro e w' ⟨rfl, rfl⟩
        generalize grF (el (waitsF zs a q)) zs.length = M2 at *
        go_wp2
        go_ret
        exact ⟨rfl, bl5⟩
  · have hn' : 1048576 < cs.length := by omega
    go_enter Try.func10, Try.ntmps10
    go_wp2
    go_ret
    exact ⟨rfl, Below.refl _ _⟩

set_option maxRecDepth 100000 in
theorem lifted (os : Os) (started : os.Started) (H : Type) (enc : TypeId × Value → H) :
    ReturnsInHanded {} Try.checked os 10 .any (Rows.fnLeastLiftsSpec.pre6 enc Try.prog Try.f10 Rows.fnLeastLiftsRow.domain false) (Rows.fnLeastLiftsSpec.post enc Try.prog Try.f10 false true false false) := by
  refine returnsInHanded_of_change (C := Try.checked) ownNone started (by kernel_rfl) Try.func10
    (ChangeSpec.witness6 (enc := enc) (C := Try.checked) false ⟨#[], #[.slice none 0 0], []⟩ 8 (by kernel_rfl) (by kernel_rfl) (by kernel_rfl) (by kernel_rfl)) ?_
  intro W base args ds gs before hval0 hW hcnd _
  have hval : ∀ (j : Nat) t v, Try.f10.params[j]? = some t → args[j]? = some v → Value.okWide Try.prog W .any base t v := hval0
  have hW' := hW
  obtain ⟨p, q, hA0, hV, rfl, _, _⟩ := hW
  have hA : DataW.TrodAll enc Try.prog W 0 (fun _ => true) true Try.f10.params.toList args.toList ds p := hA0
  rw [Try.params10] at hA hval
  obtain ⟨v0, vs0, d0, ds0, p0, q0, hargs, rfl, rfl, h0, r0⟩ := trodAll_cons hA
  obtain ⟨rfl, rfl, rfl⟩ := trodAll_nil r0
  obtain rfl : args = #[v0] := by cases args; simp_all
  obtain ⟨rfl, rfl⟩ := trodVars_none hV
  obtain ⟨Acs, ccs, cs, rfl, hrcs, hlcs, hqcs⟩ := open_rd Try.underlying22 Try.underlying5 cellsByte (hval 0 22 v0 rfl rfl) h0
  have hbcs := byte_bounds hqcs
  clear hA0 hval0
  refine (walk W cs Acs ccs hrcs hbcs hlcs).mono fun e W' ⟨he, hg⟩ => ?_
  subst he
  exact ⟨_, rfl, law_post laidOut (by kernel_rfl) rfl rfl rfl rfl rfl Try.underlying4 hW' hg⟩

/-- The statement. -/
theorem proved : Rows.FnLeastLiftsSaid :=
  OpenClaim.holds_of_wide 10 Try.f10 rfl rfl rfl rfl rfl rfl rfl ⟨rfl, rfl, rfl, rfl, rfl⟩ rfl rfl rfl rfl rfl (by kernel_rfl) Try.func10 (by kernel_rfl)
    (of_decide_eq_true (by kernel_rfl)) (by unfold Func.isWrapper; first | (rw [if_pos (by decide +kernel)]; kernel_rfl) | (rw [if_neg (by decide +kernel)]; exact ⟨rfl, rfl⟩))
    (fun os started H enc _ => lifted os started H enc)
#print axioms proved
end fnLeastLifts

end Go.Proofs.Ytcjcdlhmhhbkgaa

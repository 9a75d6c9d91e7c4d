/- The law FnValidTimes: for every code it answers true, and the code reads as it read before. No condition. -/
import Derived.Test.YtcjcdlhmhhbkgaaLLaw
import Derived.Test.YtcjcdlhmhhbkgaaLDrawsB
import Derived.Test.YtcjcdlhmhhbkgaaLaw
namespace Go.Proofs.Ytcjcdlhmhhbkgaa
open Go.RowKit
set_option linter.unusedVariables false
set_option linter.unusedSimpArgs false

namespace fnValidTimes
open Go.ChangeShapes Go.WideShapes Go.ChangeAt Go.RowKit
set_option maxHeartbeats 800000 in
set_option maxRecDepth 100000 in
set_option maxHeartbeats 8000000 in
theorem walk (w : World) (cs : List Int) (Acs : Option Addr) (ccs : Nat) (hrcs : Rd w w.heap.size Acs (bytes cs)) (hbcs : ∀ z ∈ cs, 0 ≤ z ∧ z ≤ 255) (hlcs : cs.length ≤ ccs ∧ ccs ≤ maxLen) :
    Calls Try.prog 3 #[.slice Acs cs.length ccs] w fun e w' => e = .returned (.bool true) ∧ Below w.heap.size w w' := by
  by_cases hn : cs.length ≤ 1048576
  · go_enter Try.func3, Try.ntmps3
    go_wp2_with fail
    refine (dValidTimes _ _ _ _ hrcs hbcs hlcs.1 hlcs.2).mono ?_
    rintro e w1 ⟨zs, Azs, czs, rfl, ⟨hlzs, hrzs, hczs, hmzs⟩, b1⟩
    have hn1 : zs.length ≤ 1048576 := by omega
    cases hv : timesB zs
    · have cI := iVT_is zs Azs czs w1 _ hrzs hv
      have HV := Lib.hid hv
      have cS : Hid (∀ w', Rd w' w1.heap.size Azs (ints zs) → Calls Try.prog 17 #[.slice Azs zs.length czs] w' fun e w'' => e = .returned (.bool false) ∧ ∃ n, w'' = w'.drewN n) := Lib.hid fun w' h => by
        have := sVTT_any zs Azs czs w' _ h hn1
        rwa [hv] at this
      clear hv
      go_wp2_with fail
      refine (cI).mono ?_
      rintro e w' ⟨rfl, rfl⟩
      go_wp2_with fail
      refine (cS.out _ hrzs).mono ?_
      rintro e w' ⟨rfl, n2, rfl⟩
      go_wp2_with fail
      refine (cS.out _ (hrzs.drewN n2)).mono ?_
      rintro e w' ⟨rfl, n3, rfl⟩
      clear cI
      go_wp2
      go_ret
      exact ⟨rfl, below_drewN b1 _⟩
    · have cI := iVT_is zs Azs czs w1 _ hrzs hv
      have HT := Lib.hid (timesB_t hv)
      have cS : Calls Try.prog 17 #[.slice Azs zs.length czs] w1 fun e w'' => e = .returned (.bool true) ∧ ∃ n, w'' = w1.drewN n := by
        have := sVTT_any zs Azs czs w1 _ hrzs hn1
        rwa [hv] at this
      clear hv
      go_wp2_with fail
      refine (cI).mono ?_
      rintro e w' ⟨rfl, rfl⟩
      go_wp2_with fail
      refine (cS).mono ?_
      rintro e w2 ⟨rfl, n2, hw2⟩
      have b2 : Below w.heap.size w w2 := by rw [hw2]; exact below_drewN b1 n2
      have hr2 : Rd w2 w2.heap.size Azs (ints zs) := by rw [hw2]; exact hrzs.drewN n2
      clear cI cS hw2
      go_wp2
      go_loopw [5] (fun i wr => ∃ k : Nat, k ≤ zs.length ∧ i = .int .i64 k ∧ Below w2.heap.size w2 wr) (fun i _ => zs.length - (intOf i).toNat)
      case atStart => exact ⟨0, Nat.zero_le _, rfl, Below.refl _ _⟩
      case round =>
        obtain ⟨k, hk, rfl, hbel⟩ := hrel
        by_cases hlt : k < zs.length
        · have HWO := Lib.hid (wo_times HT.out k)
          have HWN : Hid ((zs.take k ++ zs.drop (k + 1)).length ≤ 40) := Lib.hid HWO.out.len
          have cW := without_any zs.length zs rfl Azs czs ⟨hczs, hmzs⟩ wr (hr2.up hbel) (by omega) k hlt
          obtain ⟨us, hus⟩ : ∃ us, us = zs.take k ++ zs.drop (k + 1) := ⟨_, rfl⟩
          rw [← hus] at HWO HWN cW
          clear hus
          go_wp2_with fail
          refine cW.mono ?_
          rintro e w5 ⟨A5, c5, rfl, o5, b5⟩
          have r5 := Rd.own o5
          have hb5 := hbel.trans (b5.mono hbel.size)
          clear cW o5 b5 hbel
          go_wp2_with fail
          refine (iVT_ok us us.length rfl A5 c5 w5 _ r5 HWO.out).mono ?_
          rintro e w' ⟨rfl, rfl⟩
          go_wp2
          go_roundw
          case rel => exact ⟨k + 1, by omega, by go_num, hb5⟩
          case measure => simp [intOf]; omega
        · obtain rfl : k = zs.length := by omega
          go_wp2
          go_ret
          exact ⟨rfl, b2.trans (hbel.mono b2.size)⟩
  · have hn' : 1048576 < cs.length := by omega
    go_enter Try.func3, Try.ntmps3
    go_wp2
    go_ret
    exact ⟨rfl, Below.refl _ _⟩

set_option maxRecDepth 100000 in
theorem lifted (os : Os) (started : os.Started) (H : Type) (enc : TypeId × Value → H) :
    ReturnsInHanded {} Try.checked os 3 .any (Rows.fnValidTimesSpec.pre6 enc Try.prog Try.f3 Rows.fnValidTimesRow.domain false) (Rows.fnValidTimesSpec.post enc Try.prog Try.f3 false true false false) := by
  refine returnsInHanded_of_change (C := Try.checked) ownNone started (by kernel_rfl) Try.func3
    (ChangeSpec.witness6 (enc := enc) (C := Try.checked) false ⟨#[], #[.slice none 0 0], []⟩ 8 (by kernel_rfl) (by kernel_rfl) (by kernel_rfl) (by kernel_rfl)) ?_
  intro W base args ds gs before hval0 hW hcnd _
  have hval : ∀ (j : Nat) t v, Try.f3.params[j]? = some t → args[j]? = some v → Value.okWide Try.prog W .any base t v := hval0
  have hW' := hW
  obtain ⟨p, q, hA0, hV, rfl, _, _⟩ := hW
  have hA : DataW.TrodAll enc Try.prog W 0 (fun _ => true) true Try.f3.params.toList args.toList ds p := hA0
  rw [Try.params3] at hA hval
  obtain ⟨v0, vs0, d0, ds0, p0, q0, hargs, rfl, rfl, h0, r0⟩ := trodAll_cons hA
  obtain ⟨rfl, rfl, rfl⟩ := trodAll_nil r0
  obtain rfl : args = #[v0] := by cases args; simp_all
  obtain ⟨rfl, rfl⟩ := trodVars_none hV
  obtain ⟨Acs, ccs, cs, rfl, hrcs, hlcs, hqcs⟩ := open_rd Try.underlying22 Try.underlying5 cellsByte (hval 0 22 v0 rfl rfl) h0
  have hbcs := byte_bounds hqcs
  clear hA0 hval0
  refine (walk W cs Acs ccs hrcs hbcs hlcs).mono fun e W' ⟨he, hg⟩ => ?_
  subst he
  exact ⟨_, rfl, law_post laidOut (by kernel_rfl) rfl rfl rfl rfl rfl Try.underlying4 hW' hg⟩

/-- The statement. -/
theorem proved : Rows.FnValidTimesSaid :=
  OpenClaim.holds_of_wide 3 Try.f3 rfl rfl rfl rfl rfl rfl rfl ⟨rfl, rfl, rfl, rfl, rfl⟩ rfl rfl rfl rfl rfl (by kernel_rfl) Try.func3 (by kernel_rfl)
    (of_decide_eq_true (by kernel_rfl)) (by unfold Func.isWrapper; first | (rw [if_pos (by decide +kernel)]; kernel_rfl) | (rw [if_neg (by decide +kernel)]; exact ⟨rfl, rfl⟩))
    (fun os started H enc _ => lifted os started H enc)
#print axioms proved
end fnValidTimes

end Go.Proofs.Ytcjcdlhmhhbkgaa

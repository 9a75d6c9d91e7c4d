/- The law FnMergeTimesLifts: for every code it answers true, and the code reads as it read before. No condition. -/
import Derived.Test.YtcjcdlhmhhbkgaaLLaw
import Derived.Test.YtcjcdlhmhhbkgaaLMerge
import Derived.Test.YtcjcdlhmhhbkgaaLDrawsB
import Derived.Test.YtcjcdlhmhhbkgaaLaw
namespace Go.Proofs.Ytcjcdlhmhhbkgaa
open Go.RowKit
set_option linter.unusedVariables false
set_option linter.unusedSimpArgs false

namespace fnMergeTimesLifts
open Go.ChangeShapes Go.WideShapes Go.ChangeAt Go.RowKit
set_option maxHeartbeats 800000 in
set_option maxRecDepth 100000 in
set_option maxHeartbeats 8000000 in
theorem walk (w : World) (cs : List Int) (Acs : Option Addr) (ccs : Nat) (hrcs : Rd w w.heap.size Acs (bytes cs)) (hbcs : ∀ z ∈ cs, 0 ≤ z ∧ z ≤ 255) (hlcs : cs.length ≤ ccs ∧ ccs ≤ maxLen) :
    Calls Try.prog 13 #[.slice Acs cs.length ccs] w fun e w' => e = .returned (.bool true) ∧ Below w.heap.size w w' := by
  by_cases hn : cs.length ≤ 1048576
  · go_enter Try.func13, Try.ntmps13
    go_wp2_with fail
    refine (dMergeTimes _ _ _ _ hrcs hbcs hlcs.1 hlcs.2).mono ?_
    rintro e w1 ⟨zs, Azs, czs, ys, Ays, cys, rfl, ⟨hlzs, hrzs, hczs, hmzs⟩, ⟨hlys, hrys, hcys, hmys⟩, b1⟩
    have hn1 : zs.length ≤ 1048576 := by omega
    have hn2 : ys.length ≤ 1048576 := by omega
    obtain ⟨ts, hts⟩ : ∃ ts, ts = mergeT zs ys := ⟨_, rfl⟩
    have htl : ts.length ≤ 1048576 := by rw [hts]; exact Nat.le_trans (mergeT_le _ _) (by omega)
    obtain ⟨q, hq⟩ : ∃ q, q = mergeB zs ys := ⟨_, rfl⟩
    have HTS := Lib.hid hts
    have HQ := Lib.hid hq
    clear hts hq
    have cI : Calls Try.prog 42 #[.slice Azs zs.length czs, .slice Ays ys.length cys] w1 (fun e w' => ∃ A' c', e = .returned (.tuple #[.slice A' ts.length c', .bool q]) ∧ w'.ownsRow w1.heap.size 3 1 (.slice A' ts.length c') ts.length (ints ts) ∧ Below w1.heap.size w1 w') := by
      rw [HTS.out, HQ.out]; exact iMerge_any zs ys Azs Ays czs cys w1 hrzs hrys ⟨hcys, hmys⟩
    go_wp2_with fail
    refine (cI).mono ?_
    rintro e w2 ⟨A2, c2, rfl, o2, b2⟩
    have hrz2 := hrzs.up b2
    have hry2 := hrys.up b2
    have cS : Calls Try.prog 43 #[.slice Azs zs.length czs, .slice Ays ys.length cys] w2 (fun e w' => ∃ A' c', e = .returned (.tuple #[.slice A' ts.length c', .bool q]) ∧ w'.ownsRow w2.heap.size 3 1 (.slice A' ts.length c') ts.length (ints ts) ∧ Below w2.heap.size w2 w') := by
      rw [HTS.out, HQ.out]; exact sMerge_any zs ys Azs Ays czs cys w2 hrz2 hry2 hn1 hn2
    clear cI
    go_wp2_with fail
    refine (cS).mono ?_
    rintro e w3 ⟨A3, c3, rfl, o3, b3⟩
    have hrz3 := hrz2.up b3
    have hry3 := hry2.up b3
    have r23 := (Rd.own o2).up b3
    have r33 := Rd.own o3
    have bl3 : Below w.heap.size w w3 := (b1.trans (b2.mono b1.size)).trans (b3.mono (by have := b1.size; have := b2.size; omega))
    clear cS
    have hc2 := own_cap o2
    go_wp2_with fail
    refine (eqT_b ts A2 A3 c2 c3 w3 w3.heap.size r23 r33 htl).mono ?_
    rintro e w4 ⟨rfl, b4⟩
    have hrz4 := hrz3.up b4
    have hry4 := hry3.up b4
    have r24 := r23.up b4
    have r34 := r33.up b4
    have bl4 := bl3.trans (b4.mono bl3.size)
    clear o2 o3 b1 b2 b3 b4 hrzs hrys hrz2 hry2 hrz3 hry3 r23 r33 bl3
    cases q
    · skip
      go_wp2_with fail
      refine (eqT_b ts A2 A3 c2 c3 w4 w4.heap.size r24 r34 htl).mono ?_
      rintro e w5 ⟨rfl, b5⟩
      have bl5 := bl4.trans (b5.mono bl4.size)
      clear b5 r24 r34 hrz4 hry4 bl4
      go_wp2
      go_ret
      exact ⟨rfl, bl5⟩
    · obtain ⟨hTa, hTb, hlen⟩ := mergeB_t HQ.out.symm
      have e : ts = mg zs ys := by rw [HTS.out, mergeT_ok HQ.out.symm]
      have HE := Lib.hid e
      have HTA := Lib.hid hTa
      have HTB := Lib.hid hTb
      have HTT : Hid (TimesP ts) := Lib.hid (by rw [HE.out]; exact mg_times hTa hTb hlen)
      have htl2 : ts.length = zs.length + ys.length := by rw [e, mg_length]
      have HL := Lib.hid htl2
      clear e hTa hTb htl2
      have HLT : Hid (∀ (us : List Int) (g : Nat), TimesP us → 1 ≤ g → g ≤ 60 → ∀ (A' : Option Addr) (c' : Nat) (w' : World), Rd w' w'.heap.size A' (ints us) → Calls Try.prog 20 #[.slice A' us.length c', .int .i64 g, .int .i64 1] w' (OutI (liftF us g 1) w')) := Lib.hid fun us g h h1 h2 A' c' w' hr => iLift_is us A' c' w' hr g ((1 : Nat) : Int) (lift_of h (by omega) (by omega))
      have HG : Hid (∀ (us : List Int) (g : Nat), us.length ≤ 40 → ∀ (A' : Option Addr) (c' : Nat) (w' : World), Rd w' w'.heap.size A' (ints (liftF us g 1)) → Calls Try.prog 30 #[.slice A' us.length c'] w' fun e w'' => e = .returned (.int .i64 (grF (la us g 1) us.length)) ∧ w' = w'') := Lib.hid fun us g h A' c' w' hr => by
        have := greatest_any us.length (liftF us g 1) (liftF_len us g 1) A' c' w' _ hr (by omega)
        rwa [gr_lift] at this
      have HLE : Hid (∀ g : Nat, grF (la zs g 1) zs.length ≤ grF (la ts g 1) ts.length ∧ grF (la ys g 1) ys.length ≤ grF (la ts g 1) ts.length) := Lib.hid fun g => by
        have hs := mg_sub zs ys
        rw [← HE.out] at hs
        exact ⟨gr_sub HTA.out HTT.out (by omega) hs.1, gr_sub HTB.out HTT.out (by omega) hs.2⟩
      have ht40 := HTT.out.len
      have hz40 := HTA.out.len
      have hy40 := HTB.out.len
      clear r34
      go_wp2
      go_loopw [9] (fun i wr => ∃ k : Nat, 1 ≤ k ∧ k ≤ 11 ∧ i = .int .i64 k ∧ Below w4.heap.size w4 wr) (fun i _ => 12 - (intOf i).toNat)
      case atStart => exact ⟨1, by omega, by omega, rfl, Below.refl _ _⟩
      case round =>
        obtain ⟨k, hk1, hk, rfl, hbel⟩ := hrel
        by_cases hlt : k < 9
        · have hle := HLE.out k
          obtain ⟨hle1, hle2⟩ := hle
          go_wp2_with fail
          refine (HLT.out ts k HTT.out hk1 (by omega) A2 c2 wr (r24.up hbel)).mono ?_
          rintro e w5 ⟨A5, c5, rfl, o5, b5⟩
          rw [liftF_len] at o5 ⊢
          have r5 := Rd.own o5
          have hb5 := hbel.trans (b5.mono hbel.size)
          clear o5 b5 hbel
          go_wp2_with fail
          refine (HG.out ts k ht40 A5 c5 w5 r5).mono ?_
          rintro e w' ⟨rfl, rfl⟩
          generalize grF (la ts k 1) ts.length = G at *
          go_wp2_with fail
          refine (HLT.out zs k HTA.out hk1 (by omega) Azs czs w5 (hrz4.up hb5)).mono ?_
          rintro e w6 ⟨A6, c6, rfl, o6, b6⟩
          rw [liftF_len] at o6 ⊢
          have r6 := Rd.own o6
          have hb6 := hb5.trans (b6.mono hb5.size)
          clear o6 b6 hb5 r5
          go_wp2_with fail
          refine (HG.out zs k hz40 A6 c6 w6 r6).mono ?_
          rintro e w' ⟨rfl, rfl⟩
          generalize grF (la zs k 1) zs.length = G1 at *
          go_wp2_with fail
          refine (HLT.out ys k HTB.out hk1 (by omega) Ays cys w6 (hry4.up hb6)).mono ?_
          rintro e w7 ⟨A7, c7, rfl, o7, b7⟩
          rw [liftF_len] at o7 ⊢
          have r7 := Rd.own o7
          have hb7 := hb6.trans (b7.mono hb6.size)
          clear o7 b7 hb6 r6
          go_wp2_with fail
          refine (HG.out ys k hy40 A7 c7 w7 r7).mono ?_
          rintro e w' ⟨rfl, rfl⟩
          generalize grF (la ys k 1) ys.length = G2 at *
          go_wp2
          go_roundw
          case rel => exact ⟨k + 3, by omega, by omega, by go_num, hb7⟩
          case measure => simp [intOf]; omega
        · go_wp2
          go_ret
          exact ⟨rfl, bl4.trans (hbel.mono bl4.size)⟩
  · have hn' : 1048576 < cs.length := by omega
    go_enter Try.func13, Try.ntmps13
    go_wp2
    go_ret
    exact ⟨rfl, Below.refl _ _⟩

set_option maxRecDepth 100000 in
theorem lifted (os : Os) (started : os.Started) (H : Type) (enc : TypeId × Value → H) :
    ReturnsInHanded {} Try.checked os 13 .any (Rows.fnMergeTimesLiftsSpec.pre6 enc Try.prog Try.f13 Rows.fnMergeTimesLiftsRow.domain false) (Rows.fnMergeTimesLiftsSpec.post enc Try.prog Try.f13 false true false false) := by
  refine returnsInHanded_of_change (C := Try.checked) ownNone started (by kernel_rfl) Try.func13
    (ChangeSpec.witness6 (enc := enc) (C := Try.checked) false ⟨#[], #[.slice none 0 0], []⟩ 8 (by kernel_rfl) (by kernel_rfl) (by kernel_rfl) (by kernel_rfl)) ?_
  intro W base args ds gs before hval0 hW hcnd _
  have hval : ∀ (j : Nat) t v, Try.f13.params[j]? = some t → args[j]? = some v → Value.okWide Try.prog W .any base t v := hval0
  have hW' := hW
  obtain ⟨p, q, hA0, hV, rfl, _, _⟩ := hW
  have hA : DataW.TrodAll enc Try.prog W 0 (fun _ => true) true Try.f13.params.toList args.toList ds p := hA0
  rw [Try.params13] at hA hval
  obtain ⟨v0, vs0, d0, ds0, p0, q0, hargs, rfl, rfl, h0, r0⟩ := trodAll_cons hA
  obtain ⟨rfl, rfl, rfl⟩ := trodAll_nil r0
  obtain rfl : args = #[v0] := by cases args; simp_all
  obtain ⟨rfl, rfl⟩ := trodVars_none hV
  obtain ⟨Acs, ccs, cs, rfl, hrcs, hlcs, hqcs⟩ := open_rd Try.underlying22 Try.underlying5 cellsByte (hval 0 22 v0 rfl rfl) h0
  have hbcs := byte_bounds hqcs
  clear hA0 hval0
  refine (walk W cs Acs ccs hrcs hbcs hlcs).mono fun e W' ⟨he, hg⟩ => ?_
  subst he
  exact ⟨_, rfl, law_post laidOut (by kernel_rfl) rfl rfl rfl rfl rfl Try.underlying4 hW' hg⟩

/-- The statement. -/
theorem proved : Rows.FnMergeTimesLiftsSaid :=
  OpenClaim.holds_of_wide 13 Try.f13 rfl rfl rfl rfl rfl rfl rfl ⟨rfl, rfl, rfl, rfl, rfl⟩ rfl rfl rfl rfl rfl (by kernel_rfl) Try.func13 (by kernel_rfl)
    (of_decide_eq_true (by kernel_rfl)) (by unfold Func.isWrapper; first | (rw [if_pos (by decide +kernel)]; kernel_rfl) | (rw [if_neg (by decide +kernel)]; exact ⟨rfl, rfl⟩))
    (fun os started H enc _ => lifted os started H enc)
#print axioms proved
end fnMergeTimesLifts

end Go.Proofs.Ytcjcdlhmhhbkgaa

/- The law FnWaitingAt: for every code it answers true, and the code reads as it read before. No condition. -/
import Derived.Test.YtcjcdlhmhhbkgaaLLaw
import Derived.Test.YtcjcdlhmhhbkgaaLDrawsB
import Derived.Test.YtcjcdlhmhhbkgaaLaw
namespace Go.Proofs.Ytcjcdlhmhhbkgaa
open Go.RowKit
set_option linter.unusedVariables false
set_option linter.unusedSimpArgs false

namespace fnWaitingAt
open Go.ChangeShapes Go.WideShapes Go.ChangeAt Go.RowKit
set_option maxHeartbeats 800000 in
set_option maxRecDepth 100000 in
set_option maxHeartbeats 8000000 in
theorem walk (w : World) (cs : List Int) (Acs : Option Addr) (ccs : Nat) (hrcs : Rd w w.heap.size Acs (bytes cs)) (hbcs : ∀ z ∈ cs, 0 ≤ z ∧ z ≤ 255) (hlcs : cs.length ≤ ccs ∧ ccs ≤ maxLen) :
    Calls Try.prog 8 #[.slice Acs cs.length ccs] w fun e w' => e = .returned (.bool true) ∧ Below w.heap.size w w' := by
  by_cases hn : cs.length ≤ 1048576
  · go_enter Try.func8, Try.ntmps8
    go_wp2_with fail
    refine (dWaitingAt _ _ _ _ hrcs hbcs hlcs.1 hlcs.2).mono ?_
    rintro e w1 ⟨zs, Azs, czs, a, b, t, rfl, ⟨hlzs, hrzs, hczs, hmzs⟩, ⟨loa, hia⟩, ⟨lob, hib⟩, ⟨lot, hit⟩, b1⟩
    have hn1 : zs.length ≤ 1048576 := by omega
    obtain ⟨x, hx⟩ : ∃ x, x = waitT zs a b t := ⟨_, rfl⟩
    have HX := Lib.hid hx
    clear hx
    have CI : Hid (∀ w' : World, Rd w' w'.heap.size Azs (ints zs) → Calls Try.prog 28 #[.slice Azs zs.length czs, .int .i64 a, .int .i64 b, .int .i64 t] w' fun e w'' => e = .returned (.int .i64 x) ∧ Below w'.heap.size w' w'') := Lib.hid fun w' h => by
        rw [HX.out]; exact iWaitAt_any zs Azs czs w' h a b t
    have CS : Hid (∀ w' : World, Rd w' w'.heap.size Azs (ints zs) → Calls Try.prog 29 #[.slice Azs zs.length czs, .int .i64 a, .int .i64 b, .int .i64 t] w' fun e w'' => e = .returned (.int .i64 x) ∧ Below w'.heap.size w' w'') := Lib.hid fun w' h => by
        rw [HX.out]; exact sWaitAt_any zs Azs czs w' h hn1 a b t
    go_wp2_with fail
    refine (CI.out w1 hrzs).mono ?_
    rintro e w2 ⟨rfl, b2⟩
    have hr2 := hrzs.up b2
    go_wp2_with fail
    refine (CS.out w2 hr2).mono ?_
    rintro e w3 ⟨rfl, b3⟩
    have hr3 := hr2.up b3
    have bl3 : Below w.heap.size w w3 := (b1.trans (b2.mono b1.size)).trans (b3.mono (by have := b1.size; have := b2.size; omega))
    clear b1 b2 b3 hrzs hr2 CI
    by_cases h0 : x < 0
    · skip
      go_wp2_with fail
      refine (CS.out w3 hr3).mono ?_
      rintro e w4 ⟨rfl, b4⟩
      have bl4 := bl3.trans (b4.mono bl3.size)
      clear b4 bl3 hr3 CS
      go_wp2
      go_ret
      exact ⟨rfl, bl4⟩
    · skip
      have hlv : lvB zs a b = true := by
        cases hq : lvB zs a b
        · rw [HX.out, waitT_no hq] at h0; omega
        · rfl
      obtain ⟨hT, hg, m, hbm, hm0, hm8⟩ := lvB_t hlv
      subst hbm
      have hl40 := hT.len
      have HX2 : Hid (x = wc (el zs) (la zs a m) t zs.length) := Lib.hid (by rw [HX.out, waitT_ok hlv])
      have HLV := Lib.hid hlv
      have HT := Lib.hid hT
      clear hlv hT
      go_wp2_with fail
      refine (iLift_is zs Azs czs w3 hr3 a m (lift_of HT.out hg ⟨hm0, hm8⟩)).mono ?_
      rintro e w4 ⟨A4, c4, rfl, o4, b4⟩
      rw [liftF_len] at o4 ⊢
      have r4 := Rd.own o4
      have hr4 := hr3.up b4
      have bl4 := bl3.trans (b4.mono bl3.size)
      obtain ⟨G, hG⟩ : ∃ G : Nat, grF (la zs a m) zs.length = G := ⟨_, (Int.toNat_of_nonneg (grF_ge _ _)).symm⟩
      have HGL : Hid (grF (el (liftF zs a m)) zs.length = (G : Int)) := Lib.hid (by rw [gr_lift, hG])
      have hG1 : (G : Int) ≤ 4440 := by rw [← hG]; exact grF_bd (by omega) fun i hi => (la_bd' HT.out (by omega) (by omega) hi).2
      have HEND : Hid (sm (fun t => wc (el zs) (la zs a m) (t : Int) zs.length) (G + 1) = (waitsF zs a m).sum) := Lib.hid (by
        rw [waits_sum]
        refine wc_total (fun i _ => la_ge (by omega)) (fun i hi => (HT.out.bd i hi).1) fun i hi => ?_
        have h1 := grF_le (f := la zs a m) hi
        rw [hG] at h1
        omega)
      have CW : Hid (∀ (w' : World) (k : Nat), Rd w' w'.heap.size Azs (ints zs) → Calls Try.prog 28 #[.slice Azs zs.length czs, .int .i64 a, .int .i64 m, .int .i64 k] w' fun e w'' => e = .returned (.int .i64 (wc (el zs) (la zs a m) (k : Int) zs.length)) ∧ Below w'.heap.size w' w'') := Lib.hid fun w' k h => by
        have := iWaitAt_any zs Azs czs w' h a m k
        rwa [waitT_ok HLV.out] at this
      clear o4 b4 bl3 hr3 CS hG
      go_wp2
      go_loopw [9, 10] (fun v i wr => ∃ k : Nat, k ≤ G + 1 ∧ i = .int .i64 k ∧ v = .int .i64 (sm (fun t => wc (el zs) (la zs a m) (t : Int) zs.length) k) ∧ Below w4.heap.size w4 wr) (fun _ i _ => G + 1 - (intOf i).toNat)
      case atStart => exact ⟨0, Nat.zero_le _, rfl, rfl, Below.refl _ _⟩
      case round =>
        obtain ⟨k, hk, rfl, rfl, hbel⟩ := hrel
        have hrr := hr4.up hbel
        have rr := r4.up hbel
        have cG := greatest_any zs.length (liftF zs a m) (liftF_len zs a m) A4 c4 wr _ rr (by omega)
        rw [HGL.out] at cG
        have hs := sm_bd (f := fun t : Nat => wc (el zs) (la zs a m) (t : Int) zs.length) (a := 0) (b := 40) (n := k) (fun i _ => by have := wc_bd (el zs) (la zs a m) (i : Int) zs.length; omega)
        have hs1 : 0 ≤ sm (fun t => wc (el zs) (la zs a m) (t : Int) zs.length) k := by omega
        have hs2 : sm (fun t => wc (el zs) (la zs a m) (t : Int) zs.length) k ≤ 200000 := by omega
        clear hs
        go_wp2_with fail
        refine (cG).mono ?_
        rintro e w' ⟨rfl, rfl⟩
        clear cG
        by_cases hlt : k ≤ G
        · have hwb := wc_bd (el zs) (la zs a m) (k : Int) zs.length
          have HS : Hid (sm (fun t => wc (el zs) (la zs a m) (t : Int) zs.length) (k + 1) = sm (fun t => wc (el zs) (la zs a m) (t : Int) zs.length) k + wc (el zs) (la zs a m) (k : Int) zs.length) := Lib.hid rfl
          generalize sm (fun t => wc (el zs) (la zs a m) (t : Int) zs.length) k = S at *
          have cw := CW.out wr k hrr
          generalize wc (el zs) (la zs a m) (k : Int) zs.length = W at *
          go_wp2_with fail
          refine (cw).mono ?_
          rintro e w5 ⟨rfl, b5⟩
          have hb5 := hbel.trans (b5.mono hbel.size)
          clear b5 hbel hrr rr cw
          go_wp2
          go_roundw
          case rel => exact ⟨k + 1, by omega, by go_num, by rw [HS.out], hb5⟩
          case measure => simp [intOf]; omega
        · obtain rfl : k = G + 1 := by omega
          rw [HEND.out] at *
          have HKG : ¬ ((G + 1 : Nat) : Int) ≤ (G : Int) := by omega
          generalize hq : G + 1 = q at *
          have HQ := Lib.hid hq
          clear hq
          have hql : G < q := by have := HQ.out; omega
          have hqn : ¬ q ≤ G := by omega
          go_wp2_with fail
          refine (iWaits_is zs Azs czs wr hrr a m (waits_of HT.out hg ⟨hm0, hm8⟩)).mono ?_
          rintro e w5 ⟨A5, c5, rfl, o5, b5⟩
          rw [waitsF_len] at o5 ⊢
          have bl5 := bl4.trans ((hbel.trans (b5.mono hbel.size)).mono bl4.size)
          have r5 := Rd.own o5
          clear o5 b5 hbel hrr rr
          go_wp2_with fail
          refine (totalB_any zs.length (waitsF zs a m) (waitsF_len zs a m) A5 c5 w5 _ r5 (fun k hk => by have h1 := la_bd' HT.out (n := m) (g := a) (i := k) (by omega) (by omega) hk; have h2 := la_ge (zs := zs) (g := a) (n := m) (i := k) (by omega); have h3 := HT.out.bd k hk; rw [waitsF_at hk]; omega) (by omega)).mono ?_
          rintro e w' ⟨rfl, rfl⟩
          generalize (waitsF zs a m).sum = S at *
          go_wp2
          go_ret
          exact ⟨rfl, bl5⟩
  · have hn' : 1048576 < cs.length := by omega
    go_enter Try.func8, Try.ntmps8
    go_wp2
    go_ret
    exact ⟨rfl, Below.refl _ _⟩

set_option maxRecDepth 100000 in
theorem lifted (os : Os) (started : os.Started) (H : Type) (enc : TypeId × Value → H) :
    ReturnsInHanded {} Try.checked os 8 .any (Rows.fnWaitingAtSpec.pre6 enc Try.prog Try.f8 Rows.fnWaitingAtRow.domain false) (Rows.fnWaitingAtSpec.post enc Try.prog Try.f8 false true false false) := by
  refine returnsInHanded_of_change (C := Try.checked) ownNone started (by kernel_rfl) Try.func8
    (ChangeSpec.witness6 (enc := enc) (C := Try.checked) false ⟨#[], #[.slice none 0 0], []⟩ 8 (by kernel_rfl) (by kernel_rfl) (by kernel_rfl) (by kernel_rfl)) ?_
  intro W base args ds gs before hval0 hW hcnd _
  have hval : ∀ (j : Nat) t v, Try.f8.params[j]? = some t → args[j]? = some v → Value.okWide Try.prog W .any base t v := hval0
  have hW' := hW
  obtain ⟨p, q, hA0, hV, rfl, _, _⟩ := hW
  have hA : DataW.TrodAll enc Try.prog W 0 (fun _ => true) true Try.f8.params.toList args.toList ds p := hA0
  rw [Try.params8] at hA hval
  obtain ⟨v0, vs0, d0, ds0, p0, q0, hargs, rfl, rfl, h0, r0⟩ := trodAll_cons hA
  obtain ⟨rfl, rfl, rfl⟩ := trodAll_nil r0
  obtain rfl : args = #[v0] := by cases args; simp_all
  obtain ⟨rfl, rfl⟩ := trodVars_none hV
  obtain ⟨Acs, ccs, cs, rfl, hrcs, hlcs, hqcs⟩ := open_rd Try.underlying22 Try.underlying5 cellsByte (hval 0 22 v0 rfl rfl) h0
  have hbcs := byte_bounds hqcs
  clear hA0 hval0
  refine (walk W cs Acs ccs hrcs hbcs hlcs).mono fun e W' ⟨he, hg⟩ => ?_
  subst he
  exact ⟨_, rfl, law_post laidOut (by kernel_rfl) rfl rfl rfl rfl rfl Try.underlying4 hW' hg⟩

/-- The statement. -/
theorem proved : Rows.FnWaitingAtSaid :=
  OpenClaim.holds_of_wide 8 Try.f8 rfl rfl rfl rfl rfl rfl rfl ⟨rfl, rfl, rfl, rfl, rfl⟩ rfl rfl rfl rfl rfl (by kernel_rfl) Try.func8 (by kernel_rfl)
    (of_decide_eq_true (by kernel_rfl)) (by unfold Func.isWrapper; first | (rw [if_pos (by decide +kernel)]; kernel_rfl) | (rw [if_neg (by decide +kernel)]; exact ⟨rfl, rfl⟩))
    (fun os started H enc _ => lifted os started H enc)
#print axioms proved
end fnWaitingAt

end Go.Proofs.Ytcjcdlhmhhbkgaa

/- The law FnEveryOf: for every code it answers true, and the code reads as it read before. No condition. -/
import Derived.Test.YtcjcdlhmhhbkgaaLLaw
import Derived.Test.YtcjcdlhmhhbkgaaLDrawsB
import Derived.Test.YtcjcdlhmhhbkgaaLaw
namespace Go.Proofs.Ytcjcdlhmhhbkgaa
open Go.RowKit
set_option linter.unusedVariables false
set_option linter.unusedSimpArgs false

namespace fnEveryOf
open Go.ChangeShapes Go.WideShapes Go.ChangeAt Go.RowKit
set_option maxHeartbeats 800000 in
set_option maxRecDepth 100000 in
set_option maxHeartbeats 8000000 in
theorem walk (w : World) (cs : List Int) (Acs : Option Addr) (ccs : Nat) (hrcs : Rd w w.heap.size Acs (bytes cs)) (hbcs : ∀ z ∈ cs, 0 ≤ z ∧ z ≤ 255) (hlcs : cs.length ≤ ccs ∧ ccs ≤ maxLen) :
    Calls Try.prog 14 #[.slice Acs cs.length ccs] w fun e w' => e = .returned (.bool true) ∧ Below w.heap.size w w' := by
  by_cases hn : cs.length ≤ 1048576
  · go_enter Try.func14, Try.ntmps14
    go_wp2_with fail
    refine (dEveryOf _ _ _ _ hrcs hbcs hlcs.1 hlcs.2).mono ?_
    rintro e w1 ⟨zs, Azs, czs, b, t, rfl, ⟨hlzs, hrzs, hczs, hmzs⟩, ⟨lob, hib⟩, ⟨lot, hit⟩, b1⟩
    have hn1 : zs.length ≤ 1048576 := by omega
    obtain ⟨ts, hts⟩ : ∃ ts, ts = everyT zs b t := ⟨_, rfl⟩
    have htl : ts.length ≤ 1048576 := by rw [hts]; exact Nat.le_trans (everyT_le _ _ _) (by omega)
    have HTS := Lib.hid hts
    clear hts
    go_wp2_with fail
    refine (iEvery_is zs Azs czs w1 hrzs b t HTS.out).mono ?_
    rintro e w2 ⟨A2, c2, rfl, o2, b2⟩
    have hr2 := hrzs.up b2
    go_wp2_with fail
    refine (sEvery_is zs Azs czs w2 hr2 hn1 b t HTS.out).mono ?_
    rintro e w3 ⟨A3, c3, rfl, o3, b3⟩
    have hr3 := hr2.up b3
    have r23 := (Rd.own o2).up b3
    have o23 := own_below o2 b3
    have bl3 : Below w.heap.size w w3 := (b1.trans (b2.mono b1.size)).trans (b3.mono (by have := b1.size; have := b2.size; omega))
    go_wp2_with fail
    refine (eqT_b ts A2 A3 c2 c3 w3 w3.heap.size r23 (Rd.own o3) htl).mono ?_
    rintro e w4 ⟨rfl, b4⟩
    have hr4 := hr3.up b4
    have r24 := r23.up b4
    have o24 := own_below o23 b4
    have bl4 := bl3.trans (b4.mono bl3.size)
    clear o2 o3 b1 b2 b3 b4 hrzs hr2 hr3 r23 o23 bl3
    by_cases h0 : ts.length = 0
    · have hz0 : ((ts.length : Int) == 0) = true := beq_iff_eq.2 (by omega)
      clear h0
      go_wp2_with fail
      refine (sEvery_is zs Azs czs w4 hr4 hn1 b t HTS.out).mono ?_
      rintro e w5 ⟨A5, c5, rfl, o5, b5⟩
      go_wp2_with fail
      refine (eqT_b ts A2 A5 c2 c5 w5 w5.heap.size (r24.up b5) (Rd.own o5) htl).mono ?_
      rintro e w6 ⟨rfl, b6⟩
      have bl6 := bl4.trans ((b5.trans (b6.mono b5.size)).mono bl4.size)
      clear o5 b5 b6 r24 o24 hr4 bl4
      go_wp2
      go_ret
      exact ⟨rfl, bl6⟩
    · have hz0 : ((ts.length : Int) == 0) = false := beq_eq_false_iff_ne.2 (by omega)
      have hev := every_some HTS.out h0
      obtain ⟨hT, m, f, hbm, htf, hm0, hm8, hfm⟩ := evB_t hev
      subst hbm
      subst htf
      have e : ts = evF zs m f := by rw [HTS.out, everyT_ok hev]
      have HTE := Lib.hid (ev_times hT hfm)
      have HE := Lib.hid e
      have HT := Lib.hid hT
      have hl40 := hT.len
      have HSUM := Lib.hid (ev_total (zs := zs) (n := m) (by omega))
      have HMANY := Lib.hid (ev_many (zs := zs) (n := m) (by omega))
      have HTT : Hid (TimesP ts) := Lib.hid (by rw [HE.out]; exact HTE.out)
      clear hev e hT h0
      go_wp2
      go_loopw [7, 8, 9] (fun v s i wr => ∃ k : Nat, k ≤ m ∧ i = .int .i64 k ∧ v = .int .i64 (sm (fun f => ((evF zs m f).length : Int)) k) ∧ s = .int .i64 (sm (fun f => (evF zs m f).sum) k) ∧ Below w4.heap.size w4 wr) (fun _ _ i _ => m - (intOf i).toNat)
      case atStart => exact ⟨0, Nat.zero_le _, rfl, rfl, rfl, Below.refl _ _⟩
      case round =>
        obtain ⟨k, hk, rfl, rfl, rfl, hbel⟩ := hrel
        have h1 := sm_bd (f := fun f => ((evF zs m f).length : Int)) (a := 0) (b := 40) (n := k) (fun i hi => by have := evN_le (L := zs.length) (n := m) (f := i) (by omega); rw [evF_len]; omega)
        have h2 := sm_bd (f := fun f => (evF zs m f).sum) (a := 0) (b := 80000) (n := k) (fun i hi => ev_sum_bd HT.out (by omega))
        have h3 : 0 ≤ sm (fun f => ((evF zs m f).length : Int)) k ∧ sm (fun f => ((evF zs m f).length : Int)) k ≤ 400 := by omega
        have h4 : 0 ≤ sm (fun f => (evF zs m f).sum) k ∧ sm (fun f => (evF zs m f).sum) k ≤ 1000000 := by omega
        obtain ⟨h5, h6⟩ := h3
        obtain ⟨h7, h8⟩ := h4
        clear h1 h2
        by_cases hlt : k < m
        · have HS1 : Hid (sm (fun f => ((evF zs m f).length : Int)) (k + 1) = sm (fun f => ((evF zs m f).length : Int)) k + ((evF zs m k).length : Int)) := Lib.hid rfl
          have HS2 : Hid (sm (fun f => (evF zs m f).sum) (k + 1) = sm (fun f => (evF zs m f).sum) k + (evF zs m k).sum) := Lib.hid rfl
          generalize sm (fun f => ((evF zs m f).length : Int)) k = P at *
          generalize sm (fun f => (evF zs m f).sum) k = Q at *
          have HKT := Lib.hid (ev_times HT.out hlt)
          have hsb := ev_sum_bd HT.out hlt
          have cE := iEvery_is zs Azs czs wr (hr4.up hbel) m k (every_of HT.out ⟨hm0, hm8⟩ hlt)
          generalize evF zs m k = es at *
          have hel := HKT.out.len
          go_wp2_with fail
          refine cE.mono ?_
          rintro e w5 ⟨A5, c5, rfl, o5, b5⟩
          have r5 := Rd.own o5
          have hb5 := hbel.trans (b5.mono hbel.size)
          clear o5 b5 cE hbel
          go_wp2_with fail
          refine (totalB_any es.length es rfl A5 c5 w5 _ r5 (fun k hk => by have := HKT.out.bd k hk; omega) (by omega)).mono ?_
          rintro e w' ⟨rfl, rfl⟩
          generalize es.sum = S at *
          go_wp2
          go_roundw
          case rel => exact ⟨k + 1, by omega, by go_num, by rw [HS1.out], by rw [HS2.out], hb5⟩
          case measure => simp [intOf]; omega
        · obtain rfl : k = m := by omega
          rw [HMANY.out, HSUM.out] at *
          have cT := totalB_any zs.length zs rfl Azs czs wr _ (hr4.up hbel) (fun k hk => by have := HT.out.bd k hk; omega) (by omega)
          generalize zs.sum = S at *
          go_wp2_with fail
          refine (cT).mono ?_
          rintro e w' ⟨rfl, rfl⟩
          go_wp2_with fail
          refine (iVT_ok ts ts.length rfl A2 c2 _ _ (r24.up hbel) HTT.out).mono ?_
          rintro e w' ⟨rfl, rfl⟩
          clear cT
          go_wp2
          go_ret
          exact ⟨rfl, bl4.trans (hbel.mono bl4.size)⟩
  · have hn' : 1048576 < cs.length := by omega
    go_enter Try.func14, Try.ntmps14
    go_wp2
    go_ret
    exact ⟨rfl, Below.refl _ _⟩

set_option maxRecDepth 100000 in
theorem lifted (os : Os) (started : os.Started) (H : Type) (enc : TypeId × Value → H) :
    ReturnsInHanded {} Try.checked os 14 .any (Rows.fnEveryOfSpec.pre6 enc Try.prog Try.f14 Rows.fnEveryOfRow.domain false) (Rows.fnEveryOfSpec.post enc Try.prog Try.f14 false true false false) := by
  refine returnsInHanded_of_change (C := Try.checked) ownNone started (by kernel_rfl) Try.func14
    (ChangeSpec.witness6 (enc := enc) (C := Try.checked) false ⟨#[], #[.slice none 0 0], []⟩ 8 (by kernel_rfl) (by kernel_rfl) (by kernel_rfl) (by kernel_rfl)) ?_
  intro W base args ds gs before hval0 hW hcnd _
  have hval : ∀ (j : Nat) t v, Try.f14.params[j]? = some t → args[j]? = some v → Value.okWide Try.prog W .any base t v := hval0
  have hW' := hW
  obtain ⟨p, q, hA0, hV, rfl, _, _⟩ := hW
  have hA : DataW.TrodAll enc Try.prog W 0 (fun _ => true) true Try.f14.params.toList args.toList ds p := hA0
  rw [Try.params14] at hA hval
  obtain ⟨v0, vs0, d0, ds0, p0, q0, hargs, rfl, rfl, h0, r0⟩ := trodAll_cons hA
  obtain ⟨rfl, rfl, rfl⟩ := trodAll_nil r0
  obtain rfl : args = #[v0] := by cases args; simp_all
  obtain ⟨rfl, rfl⟩ := trodVars_none hV
  obtain ⟨Acs, ccs, cs, rfl, hrcs, hlcs, hqcs⟩ := open_rd Try.underlying22 Try.underlying5 cellsByte (hval 0 22 v0 rfl rfl) h0
  have hbcs := byte_bounds hqcs
  clear hA0 hval0
  refine (walk W cs Acs ccs hrcs hbcs hlcs).mono fun e W' ⟨he, hg⟩ => ?_
  subst he
  exact ⟨_, rfl, law_post laidOut (by kernel_rfl) rfl rfl rfl rfl rfl Try.underlying4 hW' hg⟩

/-- The statement. -/
theorem proved : Rows.FnEveryOfSaid :=
  OpenClaim.holds_of_wide 14 Try.f14 rfl rfl rfl rfl rfl rfl rfl ⟨rfl, rfl, rfl, rfl, rfl⟩ rfl rfl rfl rfl rfl (by kernel_rfl) Try.func14 (by kernel_rfl)
    (of_decide_eq_true (by kernel_rfl)) (by unfold Func.isWrapper; first | (rw [if_pos (by decide +kernel)]; kernel_rfl) | (rw [if_neg (by decide +kernel)]; exact ⟨rfl, rfl⟩))
    (fun os started H enc _ => lifted os started H enc)
#print axioms proved
end fnEveryOf

end Go.Proofs.Ytcjcdlhmhhbkgaa

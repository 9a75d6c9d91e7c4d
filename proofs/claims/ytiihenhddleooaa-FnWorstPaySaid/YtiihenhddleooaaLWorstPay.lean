/- The law FnWorstPay: for every code it answers true, and the code reads as it read before. No condition. -/
import Derived.Test.YtiihenhddleooaaTLawE
import Derived.Test.YtiihenhddleooaaTWor
import Derived.Test.YtiihenhddleooaaTLawD
import Derived.Test.YtiihenhddleooaaLaw
namespace Go.Proofs.Ytiihenhddleooaa
open Go.RowKit
set_option linter.unusedVariables false
set_option linter.unusedSimpArgs false

namespace fnWorstPay
open Go.ChangeShapes Go.WideShapes Go.ChangeAt Go.RowKit
set_option maxRecDepth 100000 in
set_option maxHeartbeats 800000 in
set_option maxRecDepth 100000 in
set_option maxRecDepth 100000 in
set_option maxHeartbeats 8000000 in
theorem walk (w : World) (cs : List Int) (Acs : Option Addr) (ccs : Nat) (hrcs : Rd w w.heap.size Acs (bytes cs)) (hbcs : ∀ z ∈ cs, 0 ≤ z ∧ z ≤ 255) (hlcs : cs.length ≤ ccs ∧ ccs ≤ maxLen) :
    Calls Try.prog 12 #[.slice Acs cs.length ccs] w fun e w' => e = .returned (.bool true) ∧ Below w.heap.size w w' := by
  by_cases hn : cs.length ≤ 1048576
  · go_enter Try.func12, Try.ntmps12
    go_wp2_with fail
    refine (dWorstPay _ _ _ _ hrcs hbcs hlcs.1 hlcs.2).mono ?_
    rintro e w1 ⟨ks, Ak, ck, rfl, ⟨hkl, hkc, hkm, hrk⟩, b1⟩
    obtain ⟨n, hn0⟩ : ∃ n, ks.length = n := ⟨_, rfl⟩
    rw [hn0] at hkl hkc ⊢
    have HL := Lib.hid hn0
    clear hn0
    have hn1 : n ≤ maxLen := by unfold maxLen; omega
    obtain ⟨P, hP⟩ : ∃ P, P = worP ks := ⟨_, rfl⟩
    obtain ⟨T, hT⟩ : ∃ T, T = worT ks := ⟨_, rfl⟩
    have HI : Hid (∀ w, Rd w w.heap.size Ak (custV ks) → Calls Try.prog 44 #[.slice Ak n ck] w fun e w' => e = .returned (.tuple #[.int .i64 P, .int .i64 T]) ∧ Below w.heap.size w w') := Lib.hid fun w hr => by rw [hP, hT]; exact iWor_any n ks HL.out Ak ck hn1 w hr
    have HS : Hid (∀ w, Rd w w.heap.size Ak (custV ks) → Calls Try.prog 45 #[.slice Ak n ck] w fun e w' => e = .returned (.tuple #[.int .i64 P, .int .i64 T]) ∧ Below w.heap.size w w') := Lib.hid fun w hr => by rw [hP, hT]; exact sWor_any n ks HL.out Ak ck hn1 w hr
    have HPT := Lib.hid (And.intro hP hT)
    clear hP hT
    go_wp2_with fail
    refine (HI.out w1 hrk).mono ?_
    rintro e w2 ⟨rfl, b2⟩
    have z2 := b2.size
    have bl2 : Below w1.heap.size w1 w2 := (Below.refl w1.heap.size w1).trans (b2.mono (Nat.le_refl _))
    clear b2
    go_wp2_with fail
    refine (HS.out w2 ((hrk.below bl2).more bl2.size)).mono ?_
    rintro e w3 ⟨rfl, b3⟩
    have z3 := b3.size
    have bl3 : Below w1.heap.size w1 w3 := bl2.trans (b3.mono bl2.size)
    clear bl2 b3
    by_cases hneg : T < 0
    · skip
      go_wp2
      go_ret
      exact ⟨rfl, b1.trans (bl3.mono b1.size)⟩
    · have hv : okV clV ks = true := by
        cases h : okV clV ks
        · exfalso
          have := HPT.out.2
          unfold worT at this
          rw [h] at this
          simp at this
          omega
        · rfl
      obtain ⟨M, hM, hM9, hPM⟩ : ∃ M : Nat, T = M ∧ M ≤ 999 ∧ P = payN ks M := ⟨worF (payN ks) 999, by rw [HPT.out.2]; unfold worT; rw [hv]; rfl, worF_le _ _, by rw [HPT.out.1]; unfold worP; rw [hv]; rfl⟩
      have HMIN : Hid (∀ t, t ≤ 999 → P ≤ payN ks t) := Lib.hid fun t ht => by
        rw [HPT.out.1]
        unfold worP
        rw [hv]
        exact worF_min (payN ks) 999 t ht
      have CP : Hid (∀ (w : World) (t : Nat), t ≤ 999 → Rd w w.heap.size Ak (custV ks) → Calls Try.prog 41 #[.slice Ak n ck, .int .i64 (t : Int)] w fun e w' => e = .returned (.int .i64 (payN ks t)) ∧ Below w.heap.size w w') := Lib.hid fun w t ht hr => by
        have := iPay_any n ks HL.out Ak ck hn1 w hr (t : Int)
        rw [payT_ok hv (t := (t : Int)) (by omega)] at this
        exact this
      have HRK := Lib.hid (((hrk.below bl3).more bl3.size))
      have HBL := Lib.hid bl3
      obtain ⟨wz, hwz⟩ : ∃ wz, wz = w3 := ⟨_, rfl⟩
      have hrz : Rd wz wz.heap.size Ak (custV ks) := by rw [hwz]; exact HRK.out
      have hbz : Below w1.heap.size w1 wz := by rw [hwz]; exact HBL.out
      rw [← hwz]
      clear bl3 hwz HRK HBL HI HS HPT hrk hv
      subst hM
      have hnn : ¬ (M : Int) < 0 := hneg
      go_wp2
      go_loopw [8] (fun i wr => ∃ k : Nat, k ≤ 1000 ∧ i = .int .i64 k ∧ Below wz.heap.size wz wr) (fun i _ => 1000 - (intOf i).toNat)
      case atStart => exact ⟨0, by omega, rfl, Below.refl _ _⟩
      case round =>
        obtain ⟨k, hk, rfl, hbel⟩ := hrel
        by_cases hlt : k ≤ 999
        · have CQ := Lib.hid (CP.out wr k hlt ((hrz.below hbel).more hbel.size))
          have hmin := HMIN.out k hlt
          generalize payN ks k = Q at *
          have HBE := Lib.hid hbel
          clear hbel
          go_wp2_with fail
          refine (CQ.out).mono ?_
          rintro e w8 ⟨rfl, b8⟩
          have HB8 := Lib.hid (HBE.out.trans (b8.mono HBE.out.size))
          clear b8
          go_wp2
          go_roundw
          case rel => exact ⟨k + 1, by omega, by go_num, HB8.out⟩
          case measure => first | (simp [intOf]; omega) | simp [intOf]
        · obtain rfl : k = 1000 := by omega
          have CQ := Lib.hid (CP.out wr M hM9 ((hrz.below hbel).more hbel.size))
          rw [← hPM] at CQ
          have HBE := Lib.hid (hbz.trans (hbel.mono hbz.size))
          clear hbel
          go_wp2_with fail
          refine (CQ.out).mono ?_
          rintro e w8 ⟨rfl, b8⟩
          have HB8 := Lib.hid (HBE.out.trans (b8.mono HBE.out.size))
          clear b8
          go_wp2
          go_ret
          exact ⟨rfl, b1.trans (HB8.out.mono b1.size)⟩
  · have hn' : 1048576 < cs.length := by omega
    go_enter Try.func12, Try.ntmps12
    go_wp2
    go_ret
    exact ⟨rfl, Below.refl _ _⟩

set_option maxRecDepth 100000 in
theorem lifted (os : Os) (started : os.Started) (H : Type) (enc : TypeId × Value → H) :
    ReturnsInHanded {} Try.checked os 12 .any (Rows.fnWorstPaySpec.pre6 enc Try.prog Try.f12 Rows.fnWorstPayRow.domain false) (Rows.fnWorstPaySpec.post enc Try.prog Try.f12 false true false false) := by
  refine returnsInHanded_of_change (C := Try.checked) ownNone started (by kernel_rfl) Try.func12
    (ChangeSpec.witness6 (enc := enc) (C := Try.checked) false ⟨#[], #[.slice none 0 0], []⟩ 8 (by kernel_rfl) (by kernel_rfl) (by kernel_rfl) (by kernel_rfl)) ?_
  intro W base args ds gs before hval0 hW hcnd _
  have hval : ∀ (j : Nat) t v, Try.f12.params[j]? = some t → args[j]? = some v → Value.okWide Try.prog W .any base t v := hval0
  have hW' := hW
  obtain ⟨p, q, hA0, hV, rfl, _, _⟩ := hW
  have hA : DataW.TrodAll enc Try.prog W 0 (fun _ => true) true Try.f12.params.toList args.toList ds p := hA0
  rw [Try.params12] at hA hval
  obtain ⟨v0, vs0, d0, ds0, p0, q0, hargs, rfl, rfl, h0, r0⟩ := trodAll_cons hA
  obtain ⟨rfl, rfl, rfl⟩ := trodAll_nil r0
  obtain rfl : args = #[v0] := by cases args; simp_all
  obtain ⟨rfl, rfl⟩ := trodVars_none hV
  obtain ⟨Acs, ccs, cs, rfl, hrcs, hlcs, hqcs⟩ := open_rd Try.underlying22 Try.underlying5 cellsByte (hval 0 22 v0 rfl rfl) h0
  have hbcs := byte_bounds hqcs
  clear hA0 hval0
  refine (walk W cs Acs ccs hrcs hbcs hlcs).mono fun e W' ⟨he, hg⟩ => ?_
  subst he
  exact ⟨_, rfl, law_post laidOut (by kernel_rfl) rfl rfl rfl rfl rfl Try.underlying4 hW' hg⟩

/-- The statement. -/
theorem proved : Rows.FnWorstPaySaid :=
  OpenClaim.holds_of_wide 12 Try.f12 rfl rfl rfl rfl rfl rfl rfl ⟨rfl, rfl, rfl, rfl, rfl⟩ rfl rfl rfl rfl rfl (by kernel_rfl) Try.func12 (by kernel_rfl)
    (of_decide_eq_true (by kernel_rfl)) (by unfold Func.isWrapper; first | (rw [if_pos (by decide +kernel)]; kernel_rfl) | (rw [if_neg (by decide +kernel)]; exact ⟨rfl, rfl⟩))
    (fun os started H enc _ => lifted os started H enc)
#print axioms proved
end fnWorstPay

end Go.Proofs.Ytiihenhddleooaa

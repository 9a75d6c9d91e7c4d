/- The law FnLoadForEnd: for every code it answers true, and the code reads as it read before. No condition. -/
import Derived.Test.YtjjddamblijffaaKLaw
import Derived.Test.YtjjddamblijffaaKHelp
import Derived.Test.YtjjddamblijffaaKLawD
import Derived.Test.YtjjddamblijffaaLaw
namespace Go.Proofs.Ytjjddamblijffaa
open Go.RowKit
set_option linter.unusedVariables false
set_option linter.unusedSimpArgs false

namespace fnLoadForEnd
open Go.ChangeShapes Go.WideShapes Go.ChangeAt Go.RowKit
set_option maxRecDepth 100000 in
set_option maxHeartbeats 800000 in
set_option maxRecDepth 100000 in
set_option maxRecDepth 100000 in
set_option maxHeartbeats 8000000 in
theorem walk (w : World) (cs : List Int) (Acs : Option Addr) (ccs : Nat) (hrcs : Rd w w.heap.size Acs (bytes cs)) (hbcs : ∀ z ∈ cs, 0 ≤ z ∧ z ≤ 255) (hlcs : cs.length ≤ ccs ∧ ccs ≤ maxLen) :
    Calls Try.prog 10 #[.slice Acs cs.length ccs] w fun e w' => e = .returned (.bool true) ∧ Below w.heap.size w w' := by
  by_cases hn : cs.length ≤ 1048576
  · go_enter Try.func10, Try.ntmps10
    go_wp2_with fail
    refine (dLoadFor _ _ _ _ hrcs hbcs hlcs.1 hlcs.2).mono ?_
    rintro e w1 ⟨ks, Ak, ck, st, os, Ao, co, ev, rfl, ⟨hkl, hkc, hkm, hrk⟩, ⟨hol, hoc, hom, hro⟩, hst, hev, b1⟩
    obtain ⟨n, hn0⟩ : ∃ n, ks.length = n := ⟨_, rfl⟩
    rw [hn0] at hkl hkc ⊢
    have HL := Lib.hid hn0
    clear hn0
    have hn1 : n ≤ maxLen := by unfold maxLen; omega
    obtain ⟨m, hm0⟩ : ∃ m, os.length = m := ⟨_, rfl⟩
    rw [hm0] at hol hoc ⊢
    have HLO := Lib.hid hm0
    clear hm0
    have hm1 : m ≤ 1048576 := by omega
    go_wp2_with fail
    refine (iLoad_any n m ks HL.out Ak ck hn1 os HLO.out hm1 Ao co w1 hrk hro st ev).mono ?_
    rintro e w2 ⟨rfl, b2⟩
    have z2 := b2.size
    have bl2 : Below w1.heap.size w1 w2 := (Below.refl w1.heap.size w1).trans (b2.mono (Nat.le_refl _))
    clear b2
    go_wp2_with fail
    refine (sLoad_any n m ks HL.out Ak ck hn1 os HLO.out hm1 Ao co ⟨hoc, hom⟩ w2 ((hrk.below bl2).more bl2.size) ((hro.below bl2).more bl2.size) st ev).mono ?_
    rintro e w3 ⟨rfl, b3⟩
    have z3 := b3.size
    have bl3 : Below w1.heap.size w1 w3 := bl2.trans (b3.mono bl2.size)
    clear bl2 b3
    cases hv : (rndB ks st os && inB ev 1 2000)
    · have e0 : loadT ks st os ev = -1 := by unfold loadT; rw [hv]; rfl
      have HS := Lib.hid (fun w hr hro => sLoad_any n m ks HL.out Ak ck hn1 os HLO.out hm1 Ao co ⟨hoc, hom⟩ w hr hro st ev)
      rw [e0] at HS ⊢
      clear e0 hv
      go_wp2_with fail
      refine (HS.out w3 ((hrk.below bl3).more bl3.size) ((hro.below bl3).more bl3.size)).mono ?_
      rintro e w4 ⟨rfl, b4⟩
      have z4 := b4.size
      have bl4 : Below w1.heap.size w1 w4 := bl3.trans (b4.mono bl3.size)
      clear bl3 b4
      go_wp2
      go_ret
      exact ⟨rfl, b1.trans (bl4.mono b1.size)⟩
    · have hv2 := hv
      rw [Bool.and_eq_true] at hv2
      obtain ⟨hrn, hin⟩ := hv2
      obtain ⟨he1, he2⟩ := inB_t hin
      have hP := rndP hrn
      rw [HL.out] at hP
      have hmn : m = n := by rw [← HLO.out]; exact hP.olen
      subst hmn
      have e0 : loadT ks st os ev = lodR st ev (pick ks os) := by unfold loadT; rw [hv]; rfl
      have hpk : pick ks (os.take m) = pick ks os := by rw [← HLO.out, List.take_length]
      have hpm := hP.want (k := m) (Nat.le_refl _)
      have hpt := hP.time (k := m) (Nat.le_refl _)
      rw [hpk] at hpm hpt
      obtain ⟨hw1, hw2⟩ := hpm
      obtain ⟨ht1, ht2⟩ := hpt
      by_cases h0 : m = 0
      · have h0i : ((m : Int) == 0) = true := beq_iff_eq.2 (by omega)
        have hpn : pick ks os = [] := List.length_eq_zero_iff.1 (by rw [pick_len, HLO.out]; exact h0)
        have e1 : loadT ks st os ev = 0 := by rw [e0, hpn]; unfold lodR; rw [if_pos rfl]
        have HS := Lib.hid (fun w hr hro => sLoad_any m m ks HL.out Ak ck hn1 os HLO.out hm1 Ao co ⟨hoc, hom⟩ w hr hro st ev)
        rw [e1] at HS ⊢
        clear h0 e0 e1 hpn hv hrn hin hP hpk hw1 hw2 ht1 ht2 he1 he2
        go_wp2_with fail
        refine (HS.out w3 ((hrk.below bl3).more bl3.size) ((hro.below bl3).more bl3.size)).mono ?_
        rintro e w4 ⟨rfl, b4⟩
        have z4 := b4.size
        have bl4 : Below w1.heap.size w1 w4 := bl3.trans (b4.mono bl3.size)
        clear bl3 b4
        go_wp2
        go_ret
        exact ⟨rfl, b1.trans (bl4.mono b1.size)⟩
      · have h0i : ((m : Int) == 0) = false := beq_eq_false_iff_ne.2 (by omega)
        have h0n : ¬ (m : Int) = 0 := by omega
        have hpn : pick ks os ≠ [] := fun e => by have := pick_len ks os; rw [e, HLO.out] at this; simp at this; omega
        have e1 : loadT ks st os ev = wanS (pick ks os) + endT st (pick ks os) / ev := by rw [e0]; unfold lodR; rw [if_neg hpn]
        have hdv := Int.ediv_nonneg ht1 (show 0 ≤ ev by omega)
        have hdv2 : endT st (pick ks os) / ev ≤ endT st (pick ks os) := Int.ediv_le_self _ ht1
        have hne : ev ≠ 0 := by omega
        have hneb : (ev == 0) = false := beq_eq_false_iff_ne.2 hne
        have hgt : ¬ wanS (pick ks os) + endT st (pick ks os) / ev < 0 := by omega
        have HE0 := Lib.hid e1
        have HRN := Lib.hid hrn
        rw [e1]
        clear e0 e1 hpn hv hrn hin hpk
        have HSUM : Hid (wantsTo ks m = wanS (pick ks os)) := Lib.hid (by have := wants_pick (cs := ks) (os := os) (by rw [HL.out]; exact hP.ord); rwa [HL.out] at this)
        have HVA := Lib.hid (fun i (hi : i < m) => (cuV_t (cuTo_at (vcB_t hP.ok).2 (show i < ks.length by rw [HL.out]; exact hi))).2.2)
        obtain ⟨wz, hwz⟩ : ∃ wz, wz = w3 := ⟨_, rfl⟩
        have hrz : Rd wz wz.heap.size Ak (custV ks) := by rw [hwz]; exact ((hrk.below bl3).more bl3.size)
        rw [← hwz]
        have HWZ := Lib.hid hwz
        clear hwz
        go_wp2
        go_loop [8, 9] (fun q i => ∃ k : Nat, k ≤ m ∧ i = .int .i64 k ∧ q = .int .i64 (wantsTo ks k)) (fun _ i => m - (intOf i).toNat)
        case atStart => exact ⟨0, Nat.zero_le _, rfl, rfl⟩
        case round =>
          obtain ⟨k, hk, rfl, rfl⟩ := hrel
          have hwb := wantsTo_bd (ks := ks) (n := m) HVA.out hk
          obtain ⟨hwb1, hwb2⟩ := hwb
          by_cases hlt : k < m
          · obtain ⟨bb, off, x, d, v, hAk, hb2, hz, hc, hc2, hc3⟩ := hrz.cust_ (k := k) (by rw [HL.out]; exact hlt)
            have hva := HVA.out k hlt
            rw [hz.out] at hva
            obtain ⟨v1, v2⟩ := hva
            simp only at v1 v2
            have HNX : Hid (wantsTo ks (k + 1) = wantsTo ks k + v) := Lib.hid (by rw [wantsTo, hz.out])
            generalize wantsTo ks k = L at *
            subst hAk
            clear hz
            go_wp2
            go_round
            case rel => exact ⟨k + 1, by omega, by go_num, by rw [HNX.out]⟩
            case measure => simp [intOf]; omega
          · have hkm2 : m = k := by omega
            subst hkm2
            rw [HWZ.out]
            clear HWZ hrz
            rw [HSUM.out] at hwb1 hwb2 ⊢
            go_wp2_with fail
            refine (iVis_any m m ks HL.out Ak ck hn1 os HLO.out hm1 Ao co w3 ((hrk.below bl3).more bl3.size) ((hro.below bl3).more bl3.size) st).mono ?_
            rintro e w4 ⟨A5, c5, rfl, oT4, b4⟩
            have z4 := b4.size
            have bl4 : Below w1.heap.size w1 w4 := bl3.trans (b4.mono bl3.size)
            have HIT := Lib.hid (owz_in oT4)
            clear bl3 b4
            rw [visT_ok HRN.out] at oT4 ⊢
            rw [tmL_len, pick_len, HLO.out] at oT4 ⊢
            obtain ⟨gT, rfl, _, _, _, _⟩ := owz_some (by omega) oT4 (by omega)
            have hcT := owz_cell oT4 (k := m - 1) (x := .int .i64 (endT st (pick ks os))) (by
              have := tm_at (cs := ks) (st := st) (os := os) (k := m - 1) (by rw [HLO.out]; omega)
              rw [show m - 1 + 1 = m by omega, show os.take m = os by rw [← HLO.out, List.take_length]] at this
              rw [ints, List.getElem?_map, this]; rfl)
            have hn1i : (m : Int) - 1 = ((m - 1 : Nat) : Int) := by omega
            obtain ⟨l1, hl1⟩ : ∃ l1, l1 = m - 1 := ⟨_, rfl⟩
            rw [← hl1] at hcT hn1i
            have HBL := Lib.hid bl4
            have hl1b : l1 < m := by omega
            clear oT4 bl4 hl1
            generalize endT st (pick ks os) = T at *
            generalize wanS (pick ks os) = S at *
            go_wp2
            go_ret
            exact ⟨rfl, b1.trans (HBL.out.mono b1.size)⟩
  · have hn' : 1048576 < cs.length := by omega
    go_enter Try.func10, Try.ntmps10
    go_wp2
    go_ret
    exact ⟨rfl, Below.refl _ _⟩

set_option maxRecDepth 100000 in
theorem lifted (os : Os) (started : os.Started) (H : Type) (enc : TypeId × Value → H) :
    ReturnsInHanded {} Try.checked os 10 .any (Rows.fnLoadForEndSpec.pre6 enc Try.prog Try.f10 Rows.fnLoadForEndRow.domain false) (Rows.fnLoadForEndSpec.post enc Try.prog Try.f10 false true false false) := by
  refine returnsInHanded_of_change (C := Try.checked) ownNone started (by kernel_rfl) Try.func10
    (ChangeSpec.witness6 (enc := enc) (C := Try.checked) false ⟨#[], #[.slice none 0 0], []⟩ 8 (by kernel_rfl) (by kernel_rfl) (by kernel_rfl) (by kernel_rfl)) ?_
  intro W base args ds gs before hval0 hW hcnd _
  have hval : ∀ (j : Nat) t v, Try.f10.params[j]? = some t → args[j]? = some v → Value.okWide Try.prog W .any base t v := hval0
  have hW' := hW
  obtain ⟨p, q, hA0, hV, rfl, _, _⟩ := hW
  have hA : DataW.TrodAll enc Try.prog W 0 (fun _ => true) true Try.f10.params.toList args.toList ds p := hA0
  rw [Try.params10] at hA hval
  obtain ⟨v0, vs0, d0, ds0, p0, q0, hargs, rfl, rfl, h0, r0⟩ := trodAll_cons hA
  obtain ⟨rfl, rfl, rfl⟩ := trodAll_nil r0
  obtain rfl : args = #[v0] := by cases args; simp_all
  obtain ⟨rfl, rfl⟩ := trodVars_none hV
  obtain ⟨Acs, ccs, cs, rfl, hrcs, hlcs, hqcs⟩ := open_rd Try.underlying22 Try.underlying5 cellsByte (hval 0 22 v0 rfl rfl) h0
  have hbcs := byte_bounds hqcs
  clear hA0 hval0
  refine (walk W cs Acs ccs hrcs hbcs hlcs).mono fun e W' ⟨he, hg⟩ => ?_
  subst he
  exact ⟨_, rfl, law_post laidOut (by kernel_rfl) rfl rfl rfl rfl rfl Try.underlying4 hW' hg⟩

/-- The statement. -/
theorem proved : Rows.FnLoadForEndSaid :=
  OpenClaim.holds_of_wide 10 Try.f10 rfl rfl rfl rfl rfl rfl rfl ⟨rfl, rfl, rfl, rfl, rfl⟩ rfl rfl rfl rfl rfl (by kernel_rfl) Try.func10 (by kernel_rfl)
    (of_decide_eq_true (by kernel_rfl)) (by unfold Func.isWrapper; first | (rw [if_pos (by decide +kernel)]; kernel_rfl) | (rw [if_neg (by decide +kernel)]; exact ⟨rfl, rfl⟩))
    (fun os started H enc _ => lifted os started H enc)
#print axioms proved
end fnLoadForEnd

end Go.Proofs.Ytjjddamblijffaa

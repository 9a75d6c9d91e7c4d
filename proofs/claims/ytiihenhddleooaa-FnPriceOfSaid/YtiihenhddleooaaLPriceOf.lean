/- The law FnPriceOf: for every code it answers true, and the code reads as it read before. No condition. -/
import Derived.Test.YtiihenhddleooaaTLawE
import Derived.Test.YtiihenhddleooaaTLawD
import Derived.Test.YtiihenhddleooaaLaw
namespace Go.Proofs.Ytiihenhddleooaa
open Go.RowKit
set_option linter.unusedVariables false
set_option linter.unusedSimpArgs false

namespace fnPriceOf
open Go.ChangeShapes Go.WideShapes Go.ChangeAt Go.RowKit
set_option maxRecDepth 100000 in
set_option maxHeartbeats 800000 in
set_option maxRecDepth 100000 in
set_option maxRecDepth 100000 in
set_option maxHeartbeats 8000000 in
theorem walk (w : World) (cs : List Int) (Acs : Option Addr) (ccs : Nat) (hrcs : Rd w w.heap.size Acs (bytes cs)) (hbcs : ∀ z ∈ cs, 0 ≤ z ∧ z ≤ 255) (hlcs : cs.length ≤ ccs ∧ ccs ≤ maxLen) :
    Calls Try.prog 8 #[.slice Acs cs.length ccs] w fun e w' => e = .returned (.bool true) ∧ Below w.heap.size w w' := by
  by_cases hn : cs.length ≤ 1048576
  · go_enter Try.func8, Try.ntmps8
    go_wp2_with fail
    refine (dPriceOf _ _ _ _ hrcs hbcs hlcs.1 hlcs.2).mono ?_
    rintro e w1 ⟨bs, Ab, cb, n, rfl, ⟨hbl, hbc, hbm, hrb⟩, hn9, b1⟩
    obtain ⟨m, hm0⟩ : ∃ m, bs.length = m := ⟨_, rfl⟩
    rw [hm0] at hbl hbc ⊢
    have HL := Lib.hid hm0
    clear hm0
    have hm1 : m ≤ maxLen := by unfold maxLen; omega
    have HI := Lib.hid fun w (hr : Rd w w.heap.size Ab (ints bs)) => iPrice_b m bs HL.out hm1 Ab cb n w hr
    have HS := Lib.hid fun w (hr : Rd w w.heap.size Ab (ints bs)) => sPrice_any m bs HL.out hm1 Ab cb n w hr
    have HW := Lib.hid fun w (hr : Rd w w.heap.size Ab (ints bs)) => iWin_any m bs HL.out hm1 Ab cb n w hr
    cases hv : aucB bs n
    · have e0 : prT bs n = -1 := by unfold prT; rw [hv]; rfl
      rw [e0] at HI HS
      clear e0 hv
      go_wp2_with fail
      refine (HI.out w1 hrb).mono ?_
      rintro e w2 ⟨rfl, b2⟩
      have z2 := b2.size
      have bl2 : Below w1.heap.size w1 w2 := (Below.refl w1.heap.size w1).trans (b2.mono (Nat.le_refl _))
      clear b2
      go_wp2_with fail
      refine (HS.out w2 ((hrb.below bl2).more bl2.size)).mono ?_
      rintro e w3 ⟨rfl, b3⟩
      have z3 := b3.size
      have bl3 : Below w1.heap.size w1 w3 := bl2.trans (b3.mono bl2.size)
      clear bl2 b3
      go_wp2_with fail
      refine (HS.out w3 ((hrb.below bl3).more bl3.size)).mono ?_
      rintro e w4 ⟨rfl, b4⟩
      have z4 := b4.size
      have bl4 : Below w1.heap.size w1 w4 := bl3.trans (b4.mono bl3.size)
      clear bl3 b4
      go_wp2
      go_ret
      exact ⟨rfl, b1.trans (bl4.mono b1.size)⟩
    · obtain ⟨h8, hbz, hn0, hn8⟩ := aucB_t hv
      obtain ⟨N, rfl⟩ := Int.eq_ofNat_of_zero_le hn0
      have e0 : prT bs (N : Int) = prF bs N := by unfold prT; rw [hv]; rfl
      rw [e0] at HI HS
      have HMEM : Hid (∀ j, j < m → memB (winT bs (N : Int)) (j : Int) = decide (rkW bs j < N)) := Lib.hid fun j hj => winT_mem hv (by rw [HL.out]; exact hj)
      have HWL : Hid ((winT bs (N : Int)).length = min N m) := Lib.hid (by rw [winT_len hv, HL.out]; rfl)
      have HPB : Hid (0 ≤ prF bs N) := Lib.hid (by
        by_cases g : N < bs.length
        · obtain ⟨x, x1, x2, _⟩ := prF_has g
          rw [prF_at x1 x2]
          exact (hbz _ (List.mem_of_getElem? (of_at x1))).1
        · rw [prF_none (by omega)]; exact Int.le_refl _)
      have HIN : Hid (∀ j, j < m → rkW bs j < N → prF bs N ≤ at_ bs j) := Lib.hid fun j hj hr => by
        by_cases g : N < bs.length
        · obtain ⟨x, x1, x2, _⟩ := prF_has g
          rw [prF_at x1 x2]
          exact rkW_le (by rw [HL.out]; exact hj) x1 (by omega)
        · rw [prF_none (by omega)]; exact (hbz _ (List.mem_of_getElem? (of_at (by rw [HL.out]; exact hj)))).1
      have HOUT : Hid (∀ j, j < m → ¬ rkW bs j < N → at_ bs j ≤ prF bs N) := Lib.hid fun j hj hr => by
        have hrl := rkW_lt (bs := bs) (j := j) (by rw [HL.out]; exact hj)
        obtain ⟨x, x1, x2, _⟩ := prF_has (bs := bs) (n := N) (by omega)
        rw [prF_at x1 x2]
        by_cases e : rkW bs j = N
        · have O := wL_ok bs
          have h1 := O.to j (by rw [HL.out]; exact hj)
          have h2 := O.to x x1
          unfold rkW at e x2
          rw [e] at h1
          rw [x2, h1] at h2
          injection h2 with h2
          rw [h2]; exact Int.le_refl _
        · exact rkW_le x1 (by rw [HL.out]; exact hj) (by omega)
      have HZ : Hid (m ≤ N → prF bs N = 0) := Lib.hid fun h => prF_none (by rw [HL.out]; exact h)
      have hbd := HPB.out
      clear hv hbz e0 h8 HPB
      generalize prF bs N = P at *
      generalize winT bs (N : Int) = ws at *
      have hgt : ¬ P < 0 := by omega
      have hm8 : m ≤ 8 := hbl
      go_wp2_with fail
      refine (HI.out w1 hrb).mono ?_
      rintro e w2 ⟨rfl, b2⟩
      have z2 := b2.size
      have bl2 : Below w1.heap.size w1 w2 := (Below.refl w1.heap.size w1).trans (b2.mono (Nat.le_refl _))
      clear b2
      go_wp2_with fail
      refine (HS.out w2 ((hrb.below bl2).more bl2.size)).mono ?_
      rintro e w3 ⟨rfl, b3⟩
      have z3 := b3.size
      have bl3 : Below w1.heap.size w1 w3 := bl2.trans (b3.mono bl2.size)
      clear bl2 b3
      go_wp2_with fail
      refine (HW.out w3 ((hrb.below bl3).more bl3.size)).mono ?_
      rintro e w4 ⟨AW, cW, rfl, oW4, b4⟩
      have z4 := b4.size
      have bl4 : Below w1.heap.size w1 w4 := bl3.trans (b4.mono bl3.size)
      have HIW := Lib.hid (owz_in oW4)
      clear bl3 b4
      rw [HWL.out] at oW4 ⊢
      have hrw := Rd.own oW4
      have hrz := ((hrb.below bl4).more bl4.size)
      have HBL := Lib.hid bl4
      obtain ⟨wz, hwz⟩ : ∃ wz, wz = w4 := ⟨_, rfl⟩
      rw [← hwz] at hrw hrz HBL ⊢
      clear oW4 bl4 hwz HI HS HW hrb
      go_wp2
      go_loop [7] (fun i => ∃ k : Nat, k ≤ m ∧ i = .int .i64 k) (fun i => m - (intOf i).toNat)
      case atStart => exact ⟨0, Nat.zero_le _, rfl⟩
      case round =>
        obtain ⟨k, hk, rfl⟩ := hrel
        by_cases hlt : k < m
        · obtain ⟨b3, off3, u, rfl, hb3, hu, hc⟩ := hrz.int_ (k := k) (by rw [HL.out]; exact hlt)
          have CI := Lib.hid (isIn_any (min N m) (by omega) ws HWL.out AW cW wz _ hrw (k : Int))
          rw [HMEM.out k hlt] at CI
          have HU := Lib.hid (at_of hu.out)
          clear hu
          by_cases hr : rkW bs k < N
          · have h1 := HIN.out k hlt hr
            rw [HU.out] at h1
            have h1d : decide (u < P) = false := decide_eq_false (by omega)
            rw [decide_eq_true hr] at CI
            clear hr
            go_wp2_with fail
            refine (CI.out).mono ?_
            rintro e w' ⟨rfl, rfl⟩
            go_wp2_with fail
            refine (CI.out).mono ?_
            rintro e w' ⟨rfl, rfl⟩
            go_wp2
            go_round
            case rel => exact ⟨k + 1, by omega, by go_num⟩
            case measure => first | (simp [intOf]; omega) | simp [intOf]
          · have h1 := HOUT.out k hlt hr
            rw [HU.out] at h1
            have h1d : decide (P < u) = false := decide_eq_false (by omega)
            rw [decide_eq_false hr] at CI
            clear hr
            go_wp2_with fail
            refine (CI.out).mono ?_
            rintro e w' ⟨rfl, rfl⟩
            go_wp2_with fail
            refine (CI.out).mono ?_
            rintro e w' ⟨rfl, rfl⟩
            go_wp2
            go_round
            case rel => exact ⟨k + 1, by omega, by go_num⟩
            case measure => first | (simp [intOf]; omega) | simp [intOf]
        · obtain rfl : k = m := by omega
          by_cases hkN : N < k
          · have hki : decide ((N : Int) < (k : Int)) = true := decide_eq_true (by omega)
            have hki2 : (N : Int) < (k : Int) := by omega
            go_wp2
            go_ret
            exact ⟨rfl, b1.trans (HBL.out.mono b1.size)⟩
          · have hz := HZ.out (by omega)
            subst hz
            have hki : decide ((N : Int) < (k : Int)) = false := decide_eq_false (by omega)
            go_wp2
            go_ret
            exact ⟨rfl, b1.trans (HBL.out.mono b1.size)⟩
  · have hn' : 1048576 < cs.length := by omega
    go_enter Try.func8, Try.ntmps8
    go_wp2
    go_ret
    exact ⟨rfl, Below.refl _ _⟩

set_option maxRecDepth 100000 in
theorem lifted (os : Os) (started : os.Started) (H : Type) (enc : TypeId × Value → H) :
    ReturnsInHanded {} Try.checked os 8 .any (Rows.fnPriceOfSpec.pre6 enc Try.prog Try.f8 Rows.fnPriceOfRow.domain false) (Rows.fnPriceOfSpec.post enc Try.prog Try.f8 false true false false) := by
  refine returnsInHanded_of_change (C := Try.checked) ownNone started (by kernel_rfl) Try.func8
    (ChangeSpec.witness6 (enc := enc) (C := Try.checked) false ⟨#[], #[.slice none 0 0], []⟩ 8 (by kernel_rfl) (by kernel_rfl) (by kernel_rfl) (by kernel_rfl)) ?_
  intro W base args ds gs before hval0 hW hcnd _
  have hval : ∀ (j : Nat) t v, Try.f8.params[j]? = some t → args[j]? = some v → Value.okWide Try.prog W .any base t v := hval0
  have hW' := hW
  obtain ⟨p, q, hA0, hV, rfl, _, _⟩ := hW
  have hA : DataW.TrodAll enc Try.prog W 0 (fun _ => true) true Try.f8.params.toList args.toList ds p := hA0
  rw [Try.params8] at hA hval
  obtain ⟨v0, vs0, d0, ds0, p0, q0, hargs, rfl, rfl, h0, r0⟩ := trodAll_cons hA
  obtain ⟨rfl, rfl, rfl⟩ := trodAll_nil r0
  obtain rfl : args = #[v0] := by cases args; simp_all
  obtain ⟨rfl, rfl⟩ := trodVars_none hV
  obtain ⟨Acs, ccs, cs, rfl, hrcs, hlcs, hqcs⟩ := open_rd Try.underlying22 Try.underlying5 cellsByte (hval 0 22 v0 rfl rfl) h0
  have hbcs := byte_bounds hqcs
  clear hA0 hval0
  refine (walk W cs Acs ccs hrcs hbcs hlcs).mono fun e W' ⟨he, hg⟩ => ?_
  subst he
  exact ⟨_, rfl, law_post laidOut (by kernel_rfl) rfl rfl rfl rfl rfl Try.underlying4 hW' hg⟩

/-- The statement. -/
theorem proved : Rows.FnPriceOfSaid :=
  OpenClaim.holds_of_wide 8 Try.f8 rfl rfl rfl rfl rfl rfl rfl ⟨rfl, rfl, rfl, rfl, rfl⟩ rfl rfl rfl rfl rfl (by kernel_rfl) Try.func8 (by kernel_rfl)
    (of_decide_eq_true (by kernel_rfl)) (by unfold Func.isWrapper; first | (rw [if_pos (by decide +kernel)]; kernel_rfl) | (rw [if_neg (by decide +kernel)]; exact ⟨rfl, rfl⟩))
    (fun os started H enc _ => lifted os started H enc)
#print axioms proved
end fnPriceOf

end Go.Proofs.Ytiihenhddleooaa

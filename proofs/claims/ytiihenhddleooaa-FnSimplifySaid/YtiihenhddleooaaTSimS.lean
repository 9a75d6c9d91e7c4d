/- Contracts of chapter 7: simple contracts of the model. -/
import Derived.Deep.AppendSrc
import Derived.Test.YtiihenhddleooaaTSim
namespace Go.Proofs.Ytiihenhddleooaa
open Go.RowKit
set_option linter.unusedVariables false
set_option linter.unusedSimpArgs false
theorem extC_grow {S : List Cu} {t p lo hi q : Int} {j : Nat} (hl : S.length = j + 1) (hc : cuA S j = (lo, hi, q)) (h1 : q = p) (h2 : hi = t - 1) : extC S t p = S.set j (lo, t, q) := by
  have e : lastC S = (lo, hi, q) := by unfold lastC; rw [hl]; exact hc
  have hg : grB S t p = true := by
    unfold grB
    rw [e, decide_eq_true (show 0 < S.length by omega), decide_eq_true (show (lo, hi, q).2.2 = p from h1), decide_eq_true (show (lo, hi, q).2.1 = t - 1 from h2)]
    rfl
  unfold extC
  rw [if_pos hg, e, hl]
  rfl
theorem extC_not {S : List Cu} {t p : Int} (h : grB S t p = false) : extC S t p = if p = 0 then S else S ++ [(t, t, p)] := by
  unfold extC
  rw [h]
  simp
theorem grB_zero {S : List Cu} {t p : Int} (h : S.length = 0) : grB S t p = false := by
  unfold grB
  rw [decide_eq_false (show ¬ 0 < S.length by omega)]
  rfl
theorem grB_pay {S : List Cu} {t p lo hi q : Int} {j : Nat} (hl : S.length = j + 1) (hc : cuA S j = (lo, hi, q)) (h1 : ¬ (q = p ∧ hi = t - 1)) : grB S t p = false := by
  cases e : grB S t p
  · rfl
  · obtain ⟨_, e1, e2⟩ := grB_t e
    have e3 : lastC S = (lo, hi, q) := by unfold lastC; rw [hl]; exact hc
    rw [e3] at e1 e2
    exact absurd ⟨e1, e2⟩ h1
set_option maxHeartbeats 4000000 in
theorem sSim_any (n : Nat) (cs : List Cu) (hl : cs.length = n) (A : Option Addr) (c : Nat) (hn : n ≤ maxLen) (w : World) (hr : Rd w w.heap.size A (custV cs)) :
    Calls Try.prog 49 #[.slice A n c] w (OutT 54 (simT cs) w) := by
  have C := Lib.hid (sWCl_any n cs hl A c hn w hr)
  cases hv : okV clV cs
  · have HT : Hid (simT cs = []) := Lib.hid (by unfold simT; rw [hv]; rfl)
    rw [HT.out]
    rw [hv] at C
    clear hr hv
    go_enter Try.func49, Try.ntmps49
    go_wp2_with fail
    refine (C.out).mono ?_
    rintro e w1 ⟨rfl, b1⟩
    go_wp2
    go_ret
    exact ⟨none, 0, rfl, ⟨rfl, .inl ⟨rfl, rfl⟩⟩, b1⟩
  · rw [hv] at C
    have CP : Hid (∀ (w1 : World) (_ : Below w.heap.size w w1) (t : Nat), Calls Try.prog 74 #[.slice A n c, .int .i64 (t : Int)] w1 fun e w' => e = .returned (.int .i64 (payN cs t)) ∧ ∃ q, w' = w1.drewN q) := Lib.hid fun w1 b1 t => sPayR_any n cs hl A c hv (t : Int) w1 _ (hr.below b1)
    have HBAD : Hid (∀ t, t ≤ 999 → inB (payN cs t) (-10000) 10000 = false → simT cs = []) := Lib.hid fun t ht h => by
      unfold simT
      rw [payB_bad (show t < 1000 by omega) h, Bool.and_false]; rfl
    have HGOOD : Hid (payB (payN cs) 1000 = true → simT cs = simF (payN cs) 1000) := Lib.hid fun h => by
      unfold simT
      rw [hv, h]; exact if_pos rfl
    have HLEN : Hid (∀ k, (simF (payN cs) k).length ≤ k) := Lib.hid (simF_len (payN cs))
    have HSTEP : Hid (∀ t, simF (payN cs) (t + 1) = extC (simF (payN cs) t) t (payN cs t)) := Lib.hid fun t => rfl
    have HPB : Hid (∀ t, payB (payN cs) t = true → inB (payN cs t) (-10000) 10000 = true → payB (payN cs) (t + 1) = true) := Lib.hid fun t h1 h2 => by rw [payB_succ, h1, h2]; rfl
    obtain ⟨i0, hi, hz0, hz1, hz2⟩ := info_parts info_clau2
    obtain ⟨ss, hss⟩ : ∃ ss, ss = simT cs := ⟨_, rfl⟩
    rw [← hss] at HBAD HGOOD ⊢
    generalize payN cs = f at *
    clear hr hv hl hn hss
    go_enter Try.func49, Try.ntmps49
    go_wp2_with fail
    refine (C.out).mono ?_
    rintro e w1 ⟨rfl, b1⟩
    have hz10 := b1.size
    have oe := owz_empty w1 54 3
    have HBE := Lib.hid (And.intro (owz_base oe b1.size) (b1.alloc b1.size (.cells #[] 54)))
    clear oe b1
    go_wp2
    go_loopw [3, 4, 5, 6] (fun v lo _ _ wr => ∃ (t k g c5 : Nat) (S : List Cu), t ≤ 1000 ∧ lo = .int .i64 t ∧ S = simF f t ∧ S.length = k ∧ payB f t = true ∧ v = .slice (some ⟨g, 0, none⟩) k c5 ∧ wr.ownsRow w.heap.size 54 3 v k (custV S) ∧ Below w.heap.size w wr) (fun _ lo _ _ _ => 1000 - (intOf lo).toNat)
    case atStart => exact ⟨0, 0, _, _, [], by omega, rfl, rfl, rfl, rfl, rfl, HBE.out.1, HBE.out.2⟩
    case round =>
      obtain ⟨t, k, g, c5, S, hlow, rfl, hS, hSk, hpb, rfl, hown, hbel⟩ := hrel
      by_cases hlt : t ≤ 999
      · have hkk : k ≤ 999 := by rw [← hSk, hS]; have := HLEN.out t; omega
        have CA := Lib.hid (CP.out wr hbel t)
        have HS := Lib.hid (And.intro hS (And.intro hSk hpb))
        have hgb := owz_block hown g rfl
        obtain ⟨p, hp⟩ : ∃ p, p = f t := ⟨_, rfl⟩
        rw [← hp] at CA
        have HPP := Lib.hid hp
        have HO := Lib.hid (And.intro hown hbel)
        clear hS hpb hown hp hbel
        go_wp2_with fail
        refine (CA.out).mono ?_
        rintro e w2 ⟨rfl, q2, rfl⟩
        obtain ⟨wn, hwn⟩ : ∃ wn, wn = wr.drewN q2 := ⟨_, rfl⟩
        rw [← hwn]
        have hown2 : wn.ownsRow w.heap.size 54 3 (.slice (some ⟨g, 0, none⟩) k c5) k (custV S) := by rw [hwn]; exact owz_drewN HO.out.1 q2
        have hbel2 : Below w.heap.size w wn := by rw [hwn]; exact below_drewN HO.out.2 q2
        have HO2 := Lib.hid (And.intro hown2 hbel2)
        have hs2 := hbel2.size
        clear hown2 hbel2 hwn HO
        cases hvp : inB p (-10000) 10000
        · have HT := Lib.hid (HBAD.out t hlt (by rw [← HPP.out]; exact hvp))
          go_wp2_with (go_at_call 64; refine (inRange_any _ _ _ _).mono ?_; rintro e w' ⟨rfl, rfl⟩)
          go_ret
          rw [HT.out]
          exact ⟨none, 0, rfl, ⟨rfl, .inl ⟨rfl, rfl⟩⟩, HO2.out.2⟩
        · obtain ⟨hv1, hv2⟩ := inB_t hvp
          have HP2 := Lib.hid (HPB.out t HS.out.2.2 (by rw [← HPP.out]; exact hvp))
          have HST := Lib.hid (HSTEP.out t)
          rw [← HS.out.1, ← HPP.out] at HST
          have HVP := Lib.hid fun w => inR_is hvp w
          clear hvp
          go_wp2_with fail
          refine (HVP.out _).mono ?_
          rintro e w' ⟨rfl, rfl⟩
          -- what the last clause is
          have hways : (k = 0 ∨ ∃ (j : Nat) (lo hi q : Int), k = j + 1 ∧ cuA S j = (lo, hi, q) ∧ ¬ (q = p ∧ hi = (t : Int) - 1)) ∨ ∃ (j : Nat) (lo hi q : Int), k = j + 1 ∧ cuA S j = (lo, hi, q) ∧ q = p ∧ hi = (t : Int) - 1 := by
            by_cases h0 : k = 0
            · exact .inl (.inl h0)
            · obtain ⟨j, rfl⟩ : ∃ j, k = j + 1 := ⟨k - 1, by omega⟩
              obtain ⟨lo, hi, q, hc⟩ : ∃ lo hi q, cuA S j = (lo, hi, q) := ⟨_, _, _, rfl⟩
              by_cases h1 : q = p ∧ hi = (t : Int) - 1
              · exact .inr ⟨j, lo, hi, q, rfl, hc, h1⟩
              · exact .inl (.inr ⟨j, lo, hi, q, rfl, hc, h1⟩)
          rcases hways with hno | ⟨j, lo, hi', q, rfl, hc, rfl, rfl⟩
          · have HG : Hid (simF f (t + 1) = if p = 0 then S else S ++ [((t : Int), (t : Int), p)]) := Lib.hid (by
              rw [HST.out]
              refine extC_not ?_
              rcases hno with h0 | ⟨j, lo, hi', q, h0, hc, h1⟩
              · exact grB_zero (by omega)
              · exact grB_pay (by omega) hc h1)
            by_cases hp0 : p = 0
            · have HG2 := Lib.hid (HG.out.trans (if_pos hp0))
              have hp0b : (p == 0) = true := beq_iff_eq.2 hp0
              rcases hno with h0 | ⟨j, lo, hi', q, h0, hc, h1⟩
              · subst hp0
                subst h0
                go_wp2
                go_roundw
                case rel => exact ⟨t + 1, 0, g, c5, S, by omega, by go_num, by rw [HG2.out], HS.out.2.1, HP2.out, rfl, HO2.out.1, HO2.out.2⟩
                case measure => first | (simp [intOf]; omega) | simp [intOf]
              · subst hp0
                subst h0
                have hcv := custV_at (show S[j]? = some _ by rw [get_cuA (show j < S.length by omega), hc])
                have kp := owz_cell HO2.out.1 hcv.2.2
                have kh := owz_cell HO2.out.1 hcv.2.1
                have ej : ((j + 1 : Nat) : Int) - 1 = (j : Int) := by omega
                clear hcv
                by_cases hqp : q = 0
                · have hhi : ¬ hi' = (t : Int) - 1 := fun e => h1 ⟨hqp, e⟩
                  have hhb : (hi' == (t : Int) - 1) = false := beq_eq_false_iff_ne.2 hhi
                  subst hqp
                  go_wp2
                  go_roundw
                  case rel => exact ⟨t + 1, j + 1, g, c5, S, by omega, by go_num, by rw [HG2.out], HS.out.2.1, HP2.out, rfl, HO2.out.1, HO2.out.2⟩
                  case measure => first | (simp [intOf]; omega) | simp [intOf]
                · have hqb : (q == 0) = false := beq_eq_false_iff_ne.2 hqp
                  go_wp2
                  go_roundw
                  case rel => exact ⟨t + 1, j + 1, g, c5, S, by omega, by go_num, by rw [HG2.out], HS.out.2.1, HP2.out, rfl, HO2.out.1, HO2.out.2⟩
                  case measure => first | (simp [intOf]; omega) | simp [intOf]
            · have HG2 := Lib.hid (HG.out.trans (if_neg hp0))
              have hp0b : (p == 0) = false := beq_eq_false_iff_ne.2 hp0
              rcases hno with h0 | ⟨j, lo, hi', q, h0, hc, h1⟩
              · subst h0
                go_wp2_with (at_builtin; refine wpList_append_own _ rfl _ _ 43 rfl (w.heap.size) 54 i0 (.agg #[.int .i64 0, .int .i64 0, .int .i64 0]) 3 24 Try.underlying43 hi hz0 hz1 hz2 rfl (by decide) _ _ _ rfl (owz_alloc HO2.out.1 _) ⟨wn.heap.size, 0, none⟩ 1 1 [.int .i64 (t : Int), .int .i64 (t : Int), .int .i64 p] rfl rfl (three_new _ _ _ _ _ _ rfl) (fun u hu => by simp at hu; rcases hu with rfl | rfl <;> rfl) (by unfold maxLen; omega) (by omega) (by simp; omega) ?_)
                intro v' w11 hown' hgrow _
                obtain ⟨A6, c6, rfl⟩ := owz_form hown'
                obtain ⟨g6, rfl, _, _, _, _⟩ := owz_some (by omega) hown' (by omega)
                have hown5 : w11.ownsRow w.heap.size 54 3 (.slice (some ⟨g6, 0, none⟩) (0 + 1) c6) (0 + 1) (custV (S ++ [((t : Int), (t : Int), p)])) := by rw [custV_snoc]; exact hown'
                have hb6 : Below w.heap.size w w11 := only_belowK (HO2.out.2.alloc HO2.out.2.size (.cells #[.int .i64 (t : Int), .int .i64 (t : Int), .int .i64 p] 54)) hgrow (Nat.le_refl _) (fun k hk => by simp [Value.ownBlock] at hk; omega)
                have HP := Lib.hid (And.intro hown5 hb6)
                have HL5 : Hid ((S ++ [((t : Int), (t : Int), p)]).length = 0 + 1) := Lib.hid (by rw [List.length_append, HS.out.2.1]; rfl)
                clear hown' hgrow hown5 hb6
                go_wp2
                go_roundw
                case rel => exact ⟨t + 1, 0 + 1, g6, c6, S ++ [((t : Int), (t : Int), p)], by omega, by go_num, by rw [HG2.out], HL5.out, HP2.out, rfl, HP.out.1, HP.out.2⟩
                case measure => first | (simp [intOf]; omega) | simp [intOf]
              · subst h0
                have hcv := custV_at (show S[j]? = some _ by rw [get_cuA (show j < S.length by omega), hc])
                have kp := owz_cell HO2.out.1 hcv.2.2
                have kh := owz_cell HO2.out.1 hcv.2.1
                have ej : ((j + 1 : Nat) : Int) - 1 = (j : Int) := by omega
                clear hcv
                by_cases hqp : q = p
                · have hhi : ¬ hi' = (t : Int) - 1 := fun e => h1 ⟨hqp, e⟩
                  have hhb : (hi' == (t : Int) - 1) = false := beq_eq_false_iff_ne.2 hhi
                  have hpq := hqp.symm
                  clear hqp
                  subst hpq
                  go_wp2_with (at_builtin; refine wpList_append_own _ rfl _ _ 43 rfl (w.heap.size) 54 i0 (.agg #[.int .i64 0, .int .i64 0, .int .i64 0]) 3 24 Try.underlying43 hi hz0 hz1 hz2 rfl (by decide) _ _ _ rfl (owz_alloc HO2.out.1 _) ⟨wn.heap.size, 0, none⟩ 1 1 [.int .i64 (t : Int), .int .i64 (t : Int), .int .i64 p] rfl rfl (three_new _ _ _ _ _ _ rfl) (fun u hu => by simp at hu; rcases hu with rfl | rfl <;> rfl) (by unfold maxLen; omega) (by omega) (by simp; omega) ?_)
                  intro v' w11 hown' hgrow _
                  obtain ⟨A6, c6, rfl⟩ := owz_form hown'
                  obtain ⟨g6, rfl, _, _, _, _⟩ := owz_some (by omega) hown' (by omega)
                  have hown5 : w11.ownsRow w.heap.size 54 3 (.slice (some ⟨g6, 0, none⟩) (j + 1 + 1) c6) (j + 1 + 1) (custV (S ++ [((t : Int), (t : Int), p)])) := by rw [custV_snoc]; exact hown'
                  have hb6 : Below w.heap.size w w11 := only_belowK (HO2.out.2.alloc HO2.out.2.size (.cells #[.int .i64 (t : Int), .int .i64 (t : Int), .int .i64 p] 54)) hgrow (Nat.le_refl _) (fun k hk => by simp [Value.ownBlock] at hk; omega)
                  have HP := Lib.hid (And.intro hown5 hb6)
                  have HL5 : Hid ((S ++ [((t : Int), (t : Int), p)]).length = j + 1 + 1) := Lib.hid (by rw [List.length_append, HS.out.2.1]; rfl)
                  clear hown' hgrow hown5 hb6
                  go_wp2
                  go_roundw
                  case rel => exact ⟨t + 1, j + 1 + 1, g6, c6, S ++ [((t : Int), (t : Int), p)], by omega, by go_num, by rw [HG2.out], HL5.out, HP2.out, rfl, HP.out.1, HP.out.2⟩
                  case measure => first | (simp [intOf]; omega) | simp [intOf]
                · have hqb : (q == p) = false := beq_eq_false_iff_ne.2 hqp
                  go_wp2_with (at_builtin; refine wpList_append_own _ rfl _ _ 43 rfl (w.heap.size) 54 i0 (.agg #[.int .i64 0, .int .i64 0, .int .i64 0]) 3 24 Try.underlying43 hi hz0 hz1 hz2 rfl (by decide) _ _ _ rfl (owz_alloc HO2.out.1 _) ⟨wn.heap.size, 0, none⟩ 1 1 [.int .i64 (t : Int), .int .i64 (t : Int), .int .i64 p] rfl rfl (three_new _ _ _ _ _ _ rfl) (fun u hu => by simp at hu; rcases hu with rfl | rfl <;> rfl) (by unfold maxLen; omega) (by omega) (by simp; omega) ?_)
                  intro v' w11 hown' hgrow _
                  obtain ⟨A6, c6, rfl⟩ := owz_form hown'
                  obtain ⟨g6, rfl, _, _, _, _⟩ := owz_some (by omega) hown' (by omega)
                  have hown5 : w11.ownsRow w.heap.size 54 3 (.slice (some ⟨g6, 0, none⟩) (j + 1 + 1) c6) (j + 1 + 1) (custV (S ++ [((t : Int), (t : Int), p)])) := by rw [custV_snoc]; exact hown'
                  have hb6 : Below w.heap.size w w11 := only_belowK (HO2.out.2.alloc HO2.out.2.size (.cells #[.int .i64 (t : Int), .int .i64 (t : Int), .int .i64 p] 54)) hgrow (Nat.le_refl _) (fun k hk => by simp [Value.ownBlock] at hk; omega)
                  have HP := Lib.hid (And.intro hown5 hb6)
                  have HL5 : Hid ((S ++ [((t : Int), (t : Int), p)]).length = j + 1 + 1) := Lib.hid (by rw [List.length_append, HS.out.2.1]; rfl)
                  clear hown' hgrow hown5 hb6
                  go_wp2
                  go_roundw
                  case rel => exact ⟨t + 1, j + 1 + 1, g6, c6, S ++ [((t : Int), (t : Int), p)], by omega, by go_num, by rw [HG2.out], HL5.out, HP2.out, rfl, HP.out.1, HP.out.2⟩
                  case measure => first | (simp [intOf]; omega) | simp [intOf]
          · have hcv := custV_at (show S[j]? = some _ by rw [get_cuA (show j < S.length by omega), hc])
            have kp := owz_cell HO2.out.1 hcv.2.2
            have kh := owz_cell HO2.out.1 hcv.2.1
            have ej : ((j + 1 : Nat) : Int) - 1 = (j : Int) := by omega
            clear hcv
            have f1 := owz_frozen HO2.out.1 (j * 3 + 1)
            have hput := owz_put HO2.out.1 (j * 3 + 1) (.int .i64 (t : Int))
            have hlj : S[j]? = some (lo, (t : Int) - 1, q) := by rw [get_cuA (by omega), hc]
            rw [custV_set1 hlj] at hput
            have HG2 : Hid (simF f (t + 1) = S.set j (lo, (t : Int), q)) := Lib.hid (by rw [HST.out]; exact extC_grow HS.out.2.1 hc rfl rfl)
            have HQ := Lib.hid (And.intro hput (HO2.out.2.setCell (p := ⟨g, j * 3 + 1, none⟩) hgb (.int .i64 (t : Int))))
            have HLS : Hid ((S.set j (lo, (t : Int), q)).length = j + 1) := Lib.hid (by rw [List.length_set]; exact HS.out.2.1)
            clear hput hlj hc
            go_wp2
            go_roundw
            case rel => exact ⟨t + 1, j + 1, g, c5, S.set j (lo, (t : Int), q), by omega, by go_num, by rw [HG2.out], HLS.out, HP2.out, rfl, HQ.out.1, HQ.out.2⟩
            case measure => first | (simp [intOf]; omega) | simp [intOf]
      · obtain rfl : t = 1000 := by omega
        have HT := Lib.hid (HGOOD.out hpb)
        have R := outT_mk (T := 54) (l := S) hSk hown hbel
        rw [hS, ← HT.out] at R
        have HR := Lib.hid R
        clear R hown hbel hS hSk hpb
        go_wp2
        go_ret
        exact HR.out
theorem sSim_t {ts cs : List Cu} (H : Hid (ts = simT cs)) (A : Option Addr) (c : Nat) (hn : cs.length ≤ maxLen) (w : World) (hr : Rd w w.heap.size A (custV cs)) :
    Calls Try.prog 49 #[.slice A cs.length c] w (OutT 54 ts w) := by
  rw [H.out]; exact sSim_any _ cs rfl A c hn w hr
theorem iSim_t {ts cs : List Cu} (H : Hid (ts = simT cs)) (A : Option Addr) (c : Nat) (hn : cs.length ≤ maxLen) (w : World) (hr : Rd w w.heap.size A (custV cs)) :
    Calls Try.prog 47 #[.slice A cs.length c] w (OutT 54 ts w) := by
  rw [H.out]; exact iSim_any _ cs rfl A c hn w hr

end Go.Proofs.Ytiihenhddleooaa

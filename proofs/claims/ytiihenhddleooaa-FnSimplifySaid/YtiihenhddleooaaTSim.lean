/- Contracts of chapter 7: simple contracts. -/
import Derived.Deep.AppendSrc
import Derived.Test.YtiihenhddleooaaTSegs
import Derived.Test.YtiihenhddleooaaTPay
import Derived.Test.YtiihenhddleooaaTSetI
import Derived.Test.YtiihenhddleooaaTExL
namespace Go.Proofs.Ytiihenhddleooaa
open Go.RowKit
set_option linter.unusedVariables false
set_option linter.unusedSimpArgs false
theorem payB_run {f : Nat → Int} {low : Nat} (h : payB f low = true) (hv : inB (f low) (-10000) 10000 = true) : ∀ m, (∀ j, j ≤ m → f (low + j) = f low) → payB f (low + m + 1) = true
  | 0, _ => by rw [Nat.add_zero, payB_succ, h, hv]; rfl
  | m + 1, hc => by
    have ih := payB_run h hv m fun j hj => hc j (by omega)
    rw [show low + (m + 1) + 1 = (low + m + 1) + 1 by omega, payB_succ, ih, show f (low + m + 1) = f low from hc (m + 1) (Nat.le_refl _), hv]; rfl
theorem iPV_any (x : Int) (w : World) :
    Calls Try.prog 75 #[.int .i64 x] w fun e w' => e = .returned (.bool (inB x (-10000) 10000)) ∧ w = w' := by
  go_enter Try.func75, Try.ntmps75
  go_wp2
  all_goals go_ret
  all_goals (refine ⟨ret_bool ?_, rfl⟩; unfold inB)
  all_goals simp [*]
  all_goals omega
theorem info_clau2 : (Try.prog.info? 54).map (fun i => (i.zero, i.size, i.bytes)) = some (some (.agg #[.int .i64 0, .int .i64 0, .int .i64 0]), 3, 24) := by kernel_rfl
def AlikeR (f : Nat → Int) (low : Nat) (w : World) (e : Ending) (w' : World) : Prop :=
  ∃ m : Nat, e = .returned (.int .i64 ((low + m : Nat) : Int)) ∧ low + m ≤ 999 ∧ (∀ j, j ≤ m → f (low + j) = f low) ∧ (low + m = 999 ∨ f (low + m + 1) ≠ f low) ∧ Below w.heap.size w w'
set_option maxHeartbeats 2000000 in
theorem iAlike_any (n : Nat) (cs : List Cu) (hl : cs.length = n) (A : Option Addr) (c : Nat) (hv : okV clV cs = true) (low : Nat) (hlow : low ≤ 999) (w : World) (hr : Rd w w.heap.size A (custV cs)) :
    Calls Try.prog 76 #[.slice A n c, .int .i64 low] w (AlikeR (payN cs) low w) := by
  have hn : n ≤ maxLen := by unfold maxLen; have := (okV_t hv).1; omega
  have CP : Hid (∀ (w1 : World) (_ : Below w.heap.size w w1) (t : Nat), t ≤ 999 → Calls Try.prog 41 #[.slice A n c, .int .i64 (t : Int)] w1 fun e w' => e = .returned (.int .i64 (payN cs t)) ∧ Below w1.heap.size w1 w') := Lib.hid fun w1 b1 t ht => by
    have := iPay_any n cs hl A c hn w1 ((hr.below b1).more b1.size) (t : Int)
    rw [payT_ok hv (t := (t : Int)) (by omega)] at this
    exact this
  clear hr hv hl hn
  go_enter Try.func76, Try.ntmps76
  go_wp2
  go_loopw [5] (fun h wr => ∃ m : Nat, low + m ≤ 999 ∧ h = .int .i64 ((low + m : Nat) : Int) ∧ (∀ j, j ≤ m → payN cs (low + j) = payN cs low) ∧ Below w.heap.size w wr) (fun h _ => 1000 - (intOf h).toNat)
  case atStart => exact ⟨0, hlow, rfl, fun j hj => by rw [show j = 0 by omega, Nat.add_zero], Below.refl _ _⟩
  case round =>
    obtain ⟨m, hm, rfl, hc, hbel⟩ := hrel
    have HC := Lib.hid hc
    clear hc
    obtain ⟨H, hH⟩ : ∃ H, H = low + m := ⟨_, rfl⟩
    rw [← hH] at hm ⊢
    have HH := Lib.hid hH
    clear hH
    by_cases hlt : H < 999
    · have CA := Lib.hid (CP.out wr hbel (H + 1) (by omega))
      have hcast : (((H + 1 : Nat)) : Int) = (H : Int) + 1 := by omega
      rw [hcast] at CA
      have hlti : (H : Int) < 999 := by omega
      go_wp2_with fail
      refine (CA.out).mono ?_
      rintro e w2 ⟨rfl, b2⟩
      have hb2 := hbel.trans (b2.mono hbel.size)
      have CB := Lib.hid (CP.out w2 hb2 low hlow)
      clear b2 hbel
      go_wp2_with fail
      refine (CB.out).mono ?_
      rintro e w3 ⟨rfl, b3⟩
      have HB3 := Lib.hid (hb2.trans (b3.mono hb2.size))
      clear b3 hb2
      by_cases he : payN cs (H + 1) = payN cs low
      · have HN : Hid (∀ j, j ≤ m + 1 → payN cs (low + j) = payN cs low) := Lib.hid fun j hj => by
          by_cases e : j = m + 1
          · rw [e, show low + (m + 1) = H + 1 by rw [HH.out]; omega]; exact he
          · exact HC.out j (by omega)
        rw [he]
        go_wp2
        go_roundw
        case rel => exact ⟨m + 1, by have := HH.out; omega, by have := HH.out; rw [this]; go_num, HN.out, HB3.out⟩
        case measure => first | (simp [intOf]; omega) | simp [intOf]
      · have heb : (payN cs (H + 1) == payN cs low) = false := beq_eq_false_iff_ne.2 he
        have HD : Hid (low + m = 999 ∨ payN cs (low + m + 1) ≠ payN cs low) := Lib.hid (.inr (by rw [← HH.out]; exact he))
        generalize payN cs (H + 1) = Q at *
        go_wp2
        go_ret
        exact ⟨m, ret_int (by rw [HH.out]), by rw [← HH.out]; exact hm, HC.out, HD.out, HB3.out⟩
    · have HD : Hid (low + m = 999 ∨ payN cs (low + m + 1) ≠ payN cs low) := Lib.hid (.inl (by rw [← HH.out]; omega))
      have hlti : decide ((H : Int) < 999) = false := decide_eq_false (by omega)
      have HBE := Lib.hid hbel
      clear hbel
      go_wp2
      go_ret
      exact ⟨m, ret_int (by rw [HH.out]), by rw [← HH.out]; exact hm, HC.out, HD.out, HBE.out⟩
set_option maxHeartbeats 4000000 in
theorem iSim_any (n : Nat) (cs : List Cu) (hl : cs.length = n) (A : Option Addr) (c : Nat) (hn : n ≤ maxLen) (w : World) (hr : Rd w w.heap.size A (custV cs)) :
    Calls Try.prog 47 #[.slice A n c] w (OutT 54 (simT cs) w) := by
  have C := Lib.hid (iVCl_any n cs hl A c hn w hr)
  cases hv : okV clV cs
  · have HT : Hid (simT cs = []) := Lib.hid (by unfold simT; rw [hv]; rfl)
    rw [HT.out]
    rw [hv] at C
    clear hr hv
    go_enter Try.func47, Try.ntmps47
    go_wp2_with fail
    refine (C.out).mono ?_
    rintro e w1 ⟨rfl, b1⟩
    go_wp2
    go_ret
    exact ⟨none, 0, rfl, ⟨rfl, .inl ⟨rfl, rfl⟩⟩, b1⟩
  · rw [hv] at C
    have CP : Hid (∀ (w1 : World) (_ : Below w.heap.size w w1) (t : Nat), t ≤ 999 → Calls Try.prog 41 #[.slice A n c, .int .i64 (t : Int)] w1 fun e w' => e = .returned (.int .i64 (payN cs t)) ∧ Below w1.heap.size w1 w') := Lib.hid fun w1 b1 t ht => by
      have := iPay_any n cs hl A c hn w1 ((hr.below b1).more b1.size) (t : Int)
      rw [payT_ok hv (t := (t : Int)) (by omega)] at this
      exact this
    have CL : Hid (∀ (w1 : World) (_ : Below w.heap.size w w1) (t : Nat), t ≤ 999 → Calls Try.prog 76 #[.slice A n c, .int .i64 (t : Int)] w1 (AlikeR (payN cs) t w1)) := Lib.hid fun w1 b1 t ht => iAlike_any n cs hl A c hv t ht w1 ((hr.below b1).more b1.size)
    have HBAD : Hid (∀ t, t ≤ 999 → inB (payN cs t) (-10000) 10000 = false → simT cs = []) := Lib.hid fun t ht h => by
      unfold simT
      rw [payB_bad (show t < 1000 by omega) h, Bool.and_false]; rfl
    have HGOOD : Hid (payB (payN cs) 1000 = true → simT cs = simF (payN cs) 1000) := Lib.hid fun h => by
      unfold simT
      rw [hv, h]; exact if_pos rfl
    have HLEN : Hid (∀ k, (simF (payN cs) k).length ≤ k) := Lib.hid (simF_len (payN cs))
    have HRUN : Hid (∀ low, (low = 0 ∨ payN cs (low - 1) ≠ payN cs low) → ∀ m, (∀ j, j ≤ m → payN cs (low + j) = payN cs low) → simF (payN cs) (low + m + 1) = if payN cs low = 0 then simF (payN cs) low else simF (payN cs) low ++ [((low : Int), ((low + m : Nat) : Int), payN cs low)]) := Lib.hid fun low hb m hc => sim_run hb m hc
    have HPB : Hid (∀ low, payB (payN cs) low = true → inB (payN cs low) (-10000) 10000 = true → ∀ m, (∀ j, j ≤ m → payN cs (low + j) = payN cs low) → payB (payN cs) (low + m + 1) = true) := Lib.hid fun low h1 h2 m hc => payB_run h1 h2 m hc
    obtain ⟨i0, hi, hz0, hz1, hz2⟩ := info_parts info_clau2
    obtain ⟨ss, hss⟩ : ∃ ss, ss = simT cs := ⟨_, rfl⟩
    rw [← hss] at HBAD HGOOD ⊢
    generalize payN cs = f at *
    clear hr hv hl hn hss
    go_enter Try.func47, Try.ntmps47
    go_wp2_with fail
    refine (C.out).mono ?_
    rintro e w1 ⟨rfl, b1⟩
    have hz10 := b1.size
    have oe := owz_empty w1 54 3
    have HBE := Lib.hid (And.intro (owz_base oe b1.size) (b1.alloc b1.size (.cells #[] 54)))
    clear oe b1
    go_wp2
    go_loopw [3, 4, 5, 6] (fun v lo _ _ wr => ∃ (low k g c5 : Nat) (S : List Cu), low ≤ 1000 ∧ lo = .int .i64 low ∧ S = simF f low ∧ S.length = k ∧ (low = 1000 ∨ low = 0 ∨ f (low - 1) ≠ f low) ∧ payB f low = true ∧ v = .slice (some ⟨g, 0, none⟩) k c5 ∧ wr.ownsRow w.heap.size 54 3 v k (custV S) ∧ Below w.heap.size w wr) (fun _ lo _ _ _ => 1000 - (intOf lo).toNat)
    case atStart => exact ⟨0, 0, _, _, [], by omega, rfl, rfl, rfl, .inr (.inl rfl), rfl, rfl, HBE.out.1, HBE.out.2⟩
    case round =>
      obtain ⟨low, k, g, c5, S, hlow, rfl, hS, hSk, hbo, hpb, rfl, hown, hbel⟩ := hrel
      by_cases hlt : low ≤ 999
      · have hkk : k ≤ 999 := by rw [← hSk, hS]; have := HLEN.out low; omega
        have CA := Lib.hid (CP.out wr hbel low hlt)
        have HS := Lib.hid (And.intro hS (And.intro hSk (And.intro hpb hbo)))
        have HOW := Lib.hid hown
        obtain ⟨p, hp⟩ : ∃ p, p = f low := ⟨_, rfl⟩
        rw [← hp] at CA
        have HPP := Lib.hid hp
        clear hS hSk hbo hpb hown hp
        go_wp2_with fail
        refine (CA.out).mono ?_
        rintro e w2 ⟨rfl, b2⟩
        have hown2 := owz_below HOW.out (b2.mono (Nat.le_refl _))
        have hbel2 := hbel.trans (b2.mono hbel.size)
        have HO2 := Lib.hid (And.intro hown2 hbel2)
        clear b2 hbel hown2 hbel2 HOW
        have CV := Lib.hid fun w => iPV_any p w
        cases hvp : inB p (-10000) 10000
        · have HT := Lib.hid (HBAD.out low hlt (by rw [← HPP.out]; exact hvp))
          rw [hvp] at CV
          clear hvp
          go_wp2_with fail
          refine (CV.out _).mono ?_
          rintro e w' ⟨rfl, rfl⟩
          go_wp2
          go_ret
          rw [HT.out]
          exact ⟨none, 0, rfl, ⟨rfl, .inl ⟨rfl, rfl⟩⟩, HO2.out.2⟩
        · obtain ⟨hv1, hv2⟩ := inB_t hvp
          have HVP := Lib.hid hvp
          rw [hvp] at CV
          have CQ := Lib.hid (CL.out w2 HO2.out.2 low hlt)
          clear hvp
          go_wp2_with fail
          refine (CV.out _).mono ?_
          rintro e w' ⟨rfl, rfl⟩
          go_wp2_with fail
          refine (CQ.out).mono ?_
          rintro e w3 ⟨m, rfl, hm, hc, hd, b3⟩
          have hown3 := owz_below HO2.out.1 (b3.mono (Nat.le_refl _))
          have hbel3 := HO2.out.2.trans (b3.mono HO2.out.2.size)
          have HO3 := Lib.hid (And.intro hown3 hbel3)
          have hs3 := hbel3.size
          have HC := Lib.hid (And.intro hc hd)
          clear b3 hown3 hbel3 hc hd CQ CV HO2
          have hbo : low = 0 ∨ f (low - 1) ≠ f low := by
            rcases HS.out.2.2.2 with h | h
            · omega
            · exact h
          have HR := Lib.hid (HRUN.out low hbo m HC.out.1)
          have HP2 := Lib.hid (HPB.out low HS.out.2.2.1 (by rw [← HPP.out]; exact HVP.out) m HC.out.1)
          have HBO : Hid (low + m + 1 = 1000 ∨ low + m + 1 = 0 ∨ f (low + m + 1 - 1) ≠ f (low + m + 1)) := Lib.hid (by
            rcases HC.out.2 with h | h
            · left; omega
            · right; right
              rw [Nat.add_sub_cancel, HC.out.1 m (Nat.le_refl _)]
              exact fun e => h e.symm)
          obtain ⟨H, hH⟩ : ∃ H, H = low + m := ⟨_, rfl⟩
          rw [← hH] at HR HP2 HBO hm ⊢
          have HHH := Lib.hid hH
          clear hH hbo
          rw [← HPP.out] at HR
          by_cases hp0 : p = 0
          · subst hp0
            rw [if_pos rfl] at HR
            go_wp2
            go_roundw
            case rel => exact ⟨H + 1, k, g, c5, S, by omega, by go_num, by rw [HS.out.1, HR.out], HS.out.2.1, HBO.out, HP2.out, rfl, HO3.out.1, HO3.out.2⟩
            case measure => have := HHH.out; first | (simp [intOf]; omega) | simp [intOf]
          · rw [if_neg hp0] at HR
            have hpb : (p == 0) = false := beq_eq_false_iff_ne.2 hp0
            go_wp2_with (at_builtin; refine wpList_append_own _ rfl _ _ 43 rfl (w.heap.size) 54 i0 (.agg #[.int .i64 0, .int .i64 0, .int .i64 0]) 3 24 Try.underlying43 hi hz0 hz1 hz2 rfl (by decide) _ _ _ rfl (owz_alloc HO3.out.1 _) ⟨w3.heap.size, 0, none⟩ 1 1 [.int .i64 (low : Int), .int .i64 (H : Int), .int .i64 p] rfl rfl (three_new _ _ _ _ _ _ rfl) (fun u hu => by simp at hu; rcases hu with rfl | rfl | rfl <;> rfl) (by unfold maxLen; omega) (by omega) (by simp; omega) ?_)
            intro v' w11 hown' hgrow _
            obtain ⟨A6, c6, rfl⟩ := owz_form hown'
            obtain ⟨g6, rfl, _, _, _, _⟩ := owz_some (by omega) hown' (by omega)
            have hown5 : w11.ownsRow w.heap.size 54 3 (.slice (some ⟨g6, 0, none⟩) (k + 1) c6) (k + 1) (custV (S ++ [((low : Int), (H : Int), p)])) := by rw [custV_snoc]; exact hown'
            have hgb := owz_block HO3.out.1 g rfl
            have hb6 : Below w.heap.size w w11 := only_belowK (HO3.out.2.alloc HO3.out.2.size (.cells #[.int .i64 (low : Int), .int .i64 (H : Int), .int .i64 p] 54)) hgrow (Nat.le_refl _) (fun k hk => by simp [Value.ownBlock] at hk; omega)
            have HP := Lib.hid (And.intro hown5 hb6)
            have HL5 : Hid ((S ++ [((low : Int), (H : Int), p)]).length = k + 1) := Lib.hid (by rw [List.length_append, HS.out.2.1]; rfl)
            clear hown' hgrow hown5 hb6
            go_wp2
            go_roundw
            case rel => exact ⟨H + 1, k + 1, g6, c6, S ++ [((low : Int), (H : Int), p)], by omega, by go_num, by rw [HS.out.1, HR.out], HL5.out, HBO.out, HP2.out, rfl, HP.out.1, HP.out.2⟩
            case measure => have := HHH.out; first | (simp [intOf]; omega) | simp [intOf]
      · obtain rfl : low = 1000 := by omega
        have HT := Lib.hid (HGOOD.out hpb)
        have R := outT_mk (T := 54) (l := S) hSk hown hbel
        rw [hS, ← HT.out] at R
        have HR := Lib.hid R
        clear R hown hbel hS hSk hpb hbo
        go_wp2
        go_ret
        exact HR.out

end Go.Proofs.Ytiihenhddleooaa

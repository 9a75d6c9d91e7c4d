/- The law FnAddCake: for every code it answers true, and the code reads as it read before. No condition. -/
import Derived.Test.YtbnggakfogcalaaHLaw
import Derived.Test.YtbnggakfogcalaaHDraws
import Derived.Test.YtbnggakfogcalaaLaw
namespace Go.Proofs.Ytbnggakfogcalaa
open Go.RowKit
set_option linter.unusedVariables false
set_option linter.unusedSimpArgs false

namespace fnAddCake
open Go.ChangeShapes Go.WideShapes Go.ChangeAt Go.RowKit
set_option maxRecDepth 100000 in
set_option maxHeartbeats 800000 in
set_option maxRecDepth 100000 in
set_option maxRecDepth 100000 in
set_option maxHeartbeats 8000000 in
theorem walk (w : World) (cs : List Int) (Acs : Option Addr) (ccs : Nat) (hrcs : Rd w w.heap.size Acs (bytes cs)) (hbcs : ∀ z ∈ cs, 0 ≤ z ∧ z ≤ 255) (hlcs : cs.length ≤ ccs ∧ ccs ≤ maxLen) :
    Calls Try.prog 6 #[.slice Acs cs.length ccs] w fun e w' => e = .returned (.bool true) ∧ Below w.heap.size w w' := by
  by_cases hn : cs.length ≤ 1048576
  · go_enter Try.func6, Try.ntmps6
    go_wp2_with fail
    refine (dAddCake _ _ _ _ hrcs hbcs hlcs.1 hlcs.2).mono ?_
    rintro e w1 ⟨pp, Ap, cp, t, rfl, ⟨hpl, hpc, hcm, hg⟩, hbt, b1⟩
    have hn1 : pp.length ≤ 1048576 := by omega
    obtain ⟨ts, hts⟩ : ∃ ts, ts = addT pp t := ⟨_, rfl⟩
    have hrw := rows_or (pp := ts) (by rw [hts]; exact addT_heap)
    have hql := hrw.1
    have HQR := hrw.2
    have HTS := Lib.hid hts
    clear hts hrw
    go_wp2_with fail
    refine (iAdd_b pp Ap cp w1 hg t HTS).mono ?_
    rintro e w2 ⟨A2, c2, xs2, rfl, o2, b2⟩
    have hg2 := hg.up b2
    go_wp2_with fail
    refine (sAdd_b pp Ap cp w2 hg2 hn1 t HTS).mono ?_
    rintro e w3 ⟨A3, c3, xs3, rfl, o3, b3⟩
    have hg3 := hg2.up b3
    have r23 := o2.rd.up b3
    have bl3 : Below w.heap.size w w3 := (b1.trans (b2.mono b1.size)).trans (b3.mono (by have := b1.size; have := b2.size; omega))
    go_wp2_with fail
    refine (eqH_b ts A2 A3 c2 c3 w3 w3.heap.size r23 o3.rd hql HQR).mono ?_
    rintro e w4 ⟨rfl, b4⟩
    have hg4 := hg3.up b4
    have r24 := r23.up b4
    have bl4 := bl3.trans (b4.mono bl3.size)
    have o24 : OwnG w4 w1.heap.size w2.heap.size A2 ts.length c2 xs2 ts := (o2.below (Nat.le_refl _) b3).below b3.size b4
    clear o2 o3 b1 b2 b3 b4 hg hg2 hg3 r23 bl3
    by_cases h0 : ts.length = 0
    · have hz0 : ((ts.length : Int) == 0) = true := beq_iff_eq.2 (by omega)
      have HZ0 := Lib.hid h0
      clear h0 o24
      go_wp2_with fail
      refine (sAdd_b pp Ap cp w4 hg4 hn1 t HTS).mono ?_
      rintro e w5 ⟨A5, c5, xs5, rfl, o5, b5⟩
      go_wp2_with fail
      refine (eqH_b ts A2 A5 c2 c5 w5 w5.heap.size (r24.up b5) o5.rd hql HQR).mono ?_
      rintro e w6 ⟨rfl, b6⟩
      have bl6 := bl4.trans ((b5.trans (b6.mono b5.size)).mono bl4.size)
      clear o5 b5 b6
      go_wp2
      go_ret
      exact ⟨rfl, bl6⟩
    · have hz0 : ((ts.length : Int) == 0) = false := beq_eq_false_iff_ne.2 (by omega)
      have hz1 : ¬ (ts.length : Int) = 0 := by omega
      rcases addT_some (pp := pp) (z := t) with h | ⟨k, rfl, hv, hk, h12, hts⟩
      · have := HTS.out
        rw [h] at this
        subst this
        exact absurd rfl h0
      rw [← HTS.out] at hts
      have hcb := cakes_bd hv
      have hfb := faces_bd hv
      have hcd : cakesF (addF pp k 1) = cakesF pp + 1 := cakes_add hv hk
      have hfd := faces_more hv hk
      have ht := heap_thk hv hk
      have hv2 : heapB ts = true := by rw [hts]; exact addF_heap hv (by omega)
      have HA : Hid (takeT ts (k : Int) = pp) := Lib.hid (by
        rw [hts, takeT_ok (by rw [← hts]; exact hv2) (by rw [addF_cnt]; exact hk) (by
          have h3 : thk (addF pp k 1) k = thk pp k + 1 := by unfold addF; rw [set_thk (heap_pond hv) hk hk, if_pos rfl]
          rw [h3]; omega)]
        exact addF_back (a := 1) (heap_pond hv) hk)
      have hrp := rows_or (pp := pp) (.inr hv)
      have HRP := hrp.2
      have hp4 : Pnd w4 w4.heap.size Ap pp := ⟨heap_pond hv, hg4⟩
      have hl := pond_len hp4.1
      have hwd := pond_wide hp4.1
      have hy := row_y hk
      have hxm := Nat.mod_lt k (show 0 < wide pp by omega)
      obtain ⟨z, hz0⟩ : ∃ z, z = thk pp k := ⟨_, rfl⟩
      obtain ⟨l1, hl1⟩ : ∃ l, l = lossF pp z (((k % wide pp : Nat) : Int) - 1) ((k / wide pp : Nat) : Int) := ⟨_, rfl⟩
      obtain ⟨l2, hl2⟩ : ∃ l, l = lossF pp z (((k % wide pp : Nat) : Int) + 1) ((k / wide pp : Nat) : Int) := ⟨_, rfl⟩
      obtain ⟨l3, hl3⟩ : ∃ l, l = lossF pp z ((k % wide pp : Nat) : Int) (((k / wide pp : Nat) : Int) - 1) := ⟨_, rfl⟩
      obtain ⟨l4, hl4⟩ : ∃ l, l = lossF pp z ((k % wide pp : Nat) : Int) (((k / wide pp : Nat) : Int) + 1) := ⟨_, rfl⟩
      obtain ⟨d0, hd0⟩ : ∃ d : Int, d = if z = 0 then 5 else 4 := ⟨_, rfl⟩
      have hd0b : 4 ≤ d0 ∧ d0 ≤ 5 := by rw [hd0]; split <;> omega
      rw [← hz0, ← hl1, ← hl2, ← hl3, ← hl4, ← hd0] at hfd
      have hb1' := loss_bd pp z (((k % wide pp : Nat) : Int) - 1) ((k / wide pp : Nat) : Int)
      have hb2' := loss_bd pp z (((k % wide pp : Nat) : Int) + 1) ((k / wide pp : Nat) : Int)
      have hb3' := loss_bd pp z ((k % wide pp : Nat) : Int) (((k / wide pp : Nat) : Int) - 1)
      have hb4' := loss_bd pp z ((k % wide pp : Nat) : Int) (((k / wide pp : Nat) : Int) + 1)
      rw [← hl1] at hb1'
      rw [← hl2] at hb2'
      rw [← hl3] at hb3'
      rw [← hl4] at hb4'
      have hfd2 : facesF ts = facesF pp + (d0 + 2 * l1 + 2 * l2 + 2 * l3 + 2 * l4) := by rw [hts, hfd]; omega
      have HF1 : Hid (∀ w', Below w4.heap.size w4 w' → Calls Try.prog 18 #[.slice A2 ts.length c2] w' fun e w'' => e = .returned (.int .i64 (facesF pp + (d0 + 2 * l1 + 2 * l2 + 2 * l3 + 2 * l4))) ∧ w' = w'') := Lib.hid fun w' hb => by
        have h := iFaces_any ts A2 c2 w' _ (r24.up hb)
        rw [facesT_ok hv2, hfd2] at h
        exact h
      have HF2 : Hid (∀ w', Below w4.heap.size w4 w' → Calls Try.prog 18 #[.slice Ap pp.length cp] w' fun e w'' => e = .returned (.int .i64 (facesF pp)) ∧ w' = w'') := Lib.hid fun w' hb => by
        have h := iFaces_any pp Ap cp w' _ (hg4.up hb)
        rw [facesT_ok hv] at h
        exact h
      have HC1 : Hid (∀ w', Below w4.heap.size w4 w' → Calls Try.prog 21 #[.slice A2 ts.length c2] w' fun e w'' => e = .returned (.int .i64 (cakesF pp + 1)) ∧ w' = w'') := Lib.hid fun w' hb => by
        have h := iCakesH_any ts A2 c2 w' _ (r24.up hb)
        rw [cakesHT_ok hv2, hts, hcd, ← hts] at h
        exact h
      have HC2 : Hid (∀ w', Below w4.heap.size w4 w' → Calls Try.prog 21 #[.slice Ap pp.length cp] w' fun e w'' => e = .returned (.int .i64 (cakesF pp)) ∧ w' = w'') := Lib.hid fun w' hb => by
        have h := iCakesH_any pp Ap cp w' _ (hg4.up hb)
        rw [cakesHT_ok hv] at h
        exact h
      have HTK := Lib.hid (iTake_b (ts := pp) ts A2 c2 w4 r24 (k : Int) (Lib.hid HA.out.symm))
      have HB4 := Lib.hid bl4
      have HZT := Lib.hid (thk_at2 pp k)
      obtain ⟨b, off, A0, c0, b1, o1, c1, rfl, h00, hcy, hcx⟩ := hp4.cell_ hk
      rw [← hz0] at hcx ht
      have hkq : k / wide pp ≤ 81 := by omega
      have hkx : k % wide pp ≤ 81 := by omega
      have q2 : (k : Int) / ((wide pp : Nat) : Int) = ((k / wide pp : Nat) : Int) := (Int.natCast_ediv _ _).symm
      have q3 : (k : Int).tdiv ((wide pp : Nat) : Int) = ((k / wide pp : Nat) : Int) := by rw [Int.tdiv_eq_ediv_of_nonneg (by omega)]; exact q2
      have r2 : (k : Int) % ((wide pp : Nat) : Int) = ((k % wide pp : Nat) : Int) := (Int.natCast_emod _ _).symm
      have r3 : (k : Int).tmod ((wide pp : Nat) : Int) = ((k % wide pp : Nat) : Int) := by rw [Int.tmod_eq_emod_of_nonneg (by omega)]; exact r2
      have i0 : 0 < pp.length := by omega
      have i1 : (((wide pp : Nat) : Int) == 0) = false := beq_eq_false_iff_ne.2 (by omega)
      have i2 : ¬ wide pp = 0 := by omega
      have HD0 := Lib.hid hd0
      obtain ⟨q1, hq1⟩ : ∃ q, q = decide (l1 = -1) := ⟨_, rfl⟩
      obtain ⟨q2', hq2⟩ : ∃ q, q = decide (l2 = -1) := ⟨_, rfl⟩
      obtain ⟨q3', hq3⟩ : ∃ q, q = decide (l3 = -1) := ⟨_, rfl⟩
      obtain ⟨q4, hq4⟩ : ∃ q, q = decide (l4 = -1) := ⟨_, rfl⟩
      have HQ1 := Lib.hid hq1
      have HQ2 := Lib.hid hq2
      have HQ3 := Lib.hid hq3
      have HQ4 := Lib.hid hq4
      have HM1 : Hid (l1 = if q1 = true then -1 else 0) := Lib.hid (by rw [hq1]; by_cases h : l1 = -1 <;> simp [h]; omega)
      have HM2 : Hid (l2 = if q2' = true then -1 else 0) := Lib.hid (by rw [hq2]; by_cases h : l2 = -1 <;> simp [h]; omega)
      have HM3 : Hid (l3 = if q3' = true then -1 else 0) := Lib.hid (by rw [hq3]; by_cases h : l3 = -1 <;> simp [h]; omega)
      have HM4 : Hid (l4 = if q4 = true then -1 else 0) := Lib.hid (by rw [hq4]; by_cases h : l4 = -1 <;> simp [h]; omega)
      clear hq1 hq2 hq3 hq4
      have Hl1 := Lib.hid hl1
      have Hl2 := Lib.hid hl2
      have Hl3 := Lib.hid hl3
      have Hl4 := Lib.hid hl4
      clear hfd hfd2 hcd hts hv2 hv hg4 r24 h0 o24 h12 hrp bl4 hz0 hl1 hl2 hl3 hl4 hd0 HZT hk
      generalize k / wide pp = Y at *
      generalize k % wide pp = X at *
      generalize facesF pp = FF at *
      generalize cakesF pp = CC at *
      go_upto_if 56 with (fail)
      go_cut [10] from 56 to 56 (fun d wx => d = .int .i64 d0 ∧ w4 = wx)
      case first =>
        by_cases hz : z = 0
        · have hzb : (z == 0) = true := beq_iff_eq.2 hz
          have HD2 : Hid (d0 = 5) := Lib.hid (by rw [HD0.out, if_pos hz])
          go_wp2_with fail
          go_meet
          case rel => exact ⟨by first | rfl | (have h := HD2.out; congr 1; omega), rfl⟩
        · have hzb : (z == 0) = false := beq_eq_false_iff_ne.2 hz
          have HD2 : Hid (d0 = 4) := Lib.hid (by rw [HD0.out, if_neg hz])
          go_wp2_with fail
          go_meet
          case rel => exact ⟨by first | rfl | (have h := HD2.out; congr 1; omega), rfl⟩
      case rest =>
        obtain ⟨rfl, rfl⟩ := hcut
        go_upto_region 14 with (fail)
        go_cut [70] from 57 to 69 (fun q wx => q = .bool q1 ∧ w4 = wx)
        case first =>
          by_cases hin : 0 < X
          · have hinI : (0 : Int) < (X : Int) := by omega
            have t1 : ((X : Int) - 1).toNat = X - 1 := by omega
            obtain ⟨bb, oo, A0', c0', b1', o1', c1', e, h0', hcy', hcx'⟩ := hp4.at_ (x := (X - 1)) (y := Y) (by omega) (by omega)
            injection e with e
            injection e with e e'
            subst e e'
            rw [hcy] at hcy'
            injection hcy' with hcy'
            injection hcy' with hcy' hcyw hcyc
            clear hcyw hcyc
            injection hcy' with hcy'
            injection hcy' with hcy1 hcy2
            rw [← hcy1, ← hcy2] at hcx'
            clear hcy1 hcy2
            have HL : Hid (l1 = if z < at2 pp (X - 1) Y then -1 else 0) := Lib.hid (by
              rw [← loss_in (pp := pp) (a := z) (x := (X - 1)) (y := Y) (by omega) (by omega), Hl1.out]; congr 1; omega)
            generalize at2 pp (X - 1) Y = v at *
            by_cases hv' : z < v
            · have HQ : Hid (q1 = true) := Lib.hid (by rw [HQ1.out, HL.out, if_pos hv']; rfl)
              go_wp2_with fail
              go_meet
              case rel => exact ⟨by rw [HQ.out], rfl⟩
            · have HQ : Hid (q1 = false) := Lib.hid (by rw [HQ1.out, HL.out, if_neg hv']; rfl)
              go_wp2_with fail
              go_meet
              case rel => exact ⟨by rw [HQ.out], rfl⟩
          · have hinI : ¬ (0 : Int) < (X : Int) := by omega
            have HQ : Hid (q1 = false) := Lib.hid (by rw [HQ1.out, Hl1.out, loss_out (by omega) (by omega)]; rfl)
            go_wp2_with fail
            go_meet
            case rel => exact ⟨by rw [HQ.out], rfl⟩
        case rest =>
          obtain ⟨rfl, rfl⟩ := hcut
          go_upto_if 70 with (fail)
          go_cut [10] from 70 to 72 (fun d wx => d = .int .i64 (d0 + 2 * l1) ∧ w4 = wx)
          case first =>
            have HL2 := Lib.hid (HM1.out)
            cases q1
            · go_wp2_with fail
              go_meet
              case rel => exact ⟨by first | rfl | (have h := HL2.out; simp only [Bool.false_eq_true, if_false] at h; congr 1; omega), rfl⟩
            · go_wp2_with fail
              go_meet
              case rel => exact ⟨by first | rfl | (have h := HL2.out; simp only [if_true] at h; congr 1; omega), rfl⟩
          case rest =>
            obtain ⟨rfl, rfl⟩ := hcut
            go_upto_region 16 with (fail)
            go_cut [88] from 73 to 87 (fun q wx => q = .bool q2' ∧ w4 = wx)
            case first =>
              by_cases hin : X + 1 < wide pp
              · have hinI : (X : Int) < ((wide pp : Nat) : Int) - 1 := by omega
                have t1 : ((X : Int) + 1).toNat = (X + 1) := by omega
                obtain ⟨bb, oo, A0', c0', b1', o1', c1', e, h0', hcy', hcx'⟩ := hp4.at_ (x := (X + 1)) (y := Y) (by omega) (by omega)
                injection e with e
                injection e with e e'
                subst e e'
                rw [hcy] at hcy'
                injection hcy' with hcy'
                injection hcy' with hcy' hcyw hcyc
                clear hcyw hcyc
                injection hcy' with hcy'
                injection hcy' with hcy1 hcy2
                rw [← hcy1, ← hcy2] at hcx'
                clear hcy1 hcy2
                have HL : Hid (l2 = if z < at2 pp (X + 1) Y then -1 else 0) := Lib.hid (by
                  rw [← loss_in (pp := pp) (a := z) (x := (X + 1)) (y := Y) (by omega) (by omega), Hl2.out]; first | rfl | (congr 1; omega))
                generalize at2 pp (X + 1) Y = v at *
                by_cases hv' : z < v
                · have HQ : Hid (q2' = true) := Lib.hid (by rw [HQ2.out, HL.out, if_pos hv']; rfl)
                  go_wp2_with fail
                  go_meet
                  case rel => exact ⟨by rw [HQ.out], rfl⟩
                · have HQ : Hid (q2' = false) := Lib.hid (by rw [HQ2.out, HL.out, if_neg hv']; rfl)
                  go_wp2_with fail
                  go_meet
                  case rel => exact ⟨by rw [HQ.out], rfl⟩
              · have hinI : ¬ (X : Int) < ((wide pp : Nat) : Int) - 1 := by omega
                have HQ : Hid (q2' = false) := Lib.hid (by rw [HQ2.out, Hl2.out, loss_out (by omega) (by omega)]; rfl)
                go_wp2_with fail
                go_meet
                case rel => exact ⟨by rw [HQ.out], rfl⟩
            case rest =>
              obtain ⟨rfl, rfl⟩ := hcut
              go_upto_if 88 with (fail)
              go_cut [10] from 88 to 90 (fun d wx => d = .int .i64 (d0 + 2 * l1 + 2 * l2) ∧ w4 = wx)
              case first =>
                have HL2 := Lib.hid (HM2.out)
                cases q2'
                · go_wp2_with fail
                  go_meet
                  case rel => exact ⟨by first | rfl | (have h := HL2.out; simp only [Bool.false_eq_true, if_false] at h; congr 1; omega), rfl⟩
                · go_wp2_with fail
                  go_meet
                  case rel => exact ⟨by first | rfl | (have h := HL2.out; simp only [if_true] at h; congr 1; omega), rfl⟩
              case rest =>
                obtain ⟨rfl, rfl⟩ := hcut
                go_upto_region 18 with (fail)
                go_cut [104] from 91 to 103 (fun q wx => q = .bool q3' ∧ w4 = wx)
                case first =>
                  by_cases hin : 0 < Y
                  · have hinI : (0 : Int) < (Y : Int) := by omega
                    have t1 : ((Y : Int) - 1).toNat = Y - 1 := by omega
                    obtain ⟨bb, oo, A0', c0', b1', o1', c1', e, h0', hcy', hcx'⟩ := hp4.at_ (x := X) (y := (Y - 1)) (by omega) (by omega)
                    injection e with e
                    injection e with e e'
                    subst e e'
                    have HL : Hid (l3 = if z < at2 pp X (Y - 1) then -1 else 0) := Lib.hid (by
                      rw [← loss_in (pp := pp) (a := z) (x := X) (y := (Y - 1)) (by omega) (by omega), Hl3.out]; congr 1; omega)
                    generalize at2 pp X (Y - 1) = v at *
                    by_cases hv' : z < v
                    · have HQ : Hid (q3' = true) := Lib.hid (by rw [HQ3.out, HL.out, if_pos hv']; rfl)
                      go_wp2_with fail
                      go_meet
                      case rel => exact ⟨by rw [HQ.out], rfl⟩
                    · have HQ : Hid (q3' = false) := Lib.hid (by rw [HQ3.out, HL.out, if_neg hv']; rfl)
                      go_wp2_with fail
                      go_meet
                      case rel => exact ⟨by rw [HQ.out], rfl⟩
                  · have hinI : ¬ (0 : Int) < (Y : Int) := by omega
                    have HQ : Hid (q3' = false) := Lib.hid (by rw [HQ3.out, Hl3.out, loss_out (by omega) (by omega)]; rfl)
                    go_wp2_with fail
                    go_meet
                    case rel => exact ⟨by rw [HQ.out], rfl⟩
                case rest =>
                  obtain ⟨rfl, rfl⟩ := hcut
                  go_upto_if 104 with (fail)
                  go_cut [10] from 104 to 106 (fun d wx => d = .int .i64 (d0 + 2 * l1 + 2 * l2 + 2 * l3) ∧ w4 = wx)
                  case first =>
                    have HL2 := Lib.hid (HM3.out)
                    cases q3'
                    · go_wp2_with fail
                      go_meet
                      case rel => exact ⟨by first | rfl | (have h := HL2.out; simp only [Bool.false_eq_true, if_false] at h; congr 1; omega), rfl⟩
                    · go_wp2_with fail
                      go_meet
                      case rel => exact ⟨by first | rfl | (have h := HL2.out; simp only [if_true] at h; congr 1; omega), rfl⟩
                  case rest =>
                    obtain ⟨rfl, rfl⟩ := hcut
                    go_upto_region 20 with (fail)
                    go_cut [123] from 107 to 122 (fun q wx => q = .bool q4 ∧ w4 = wx)
                    case first =>
                      by_cases hin : Y + 1 < pp.length
                      · have hinI : (Y : Int) < (pp.length : Int) - 1 := by omega
                        have t1 : ((Y : Int) + 1).toNat = (Y + 1) := by omega
                        obtain ⟨bb, oo, A0', c0', b1', o1', c1', e, h0', hcy', hcx'⟩ := hp4.at_ (x := X) (y := (Y + 1)) (by omega) (by omega)
                        injection e with e
                        injection e with e e'
                        subst e e'
                        have HL : Hid (l4 = if z < at2 pp X (Y + 1) then -1 else 0) := Lib.hid (by
                          rw [← loss_in (pp := pp) (a := z) (x := X) (y := (Y + 1)) (by omega) (by omega), Hl4.out]; first | rfl | (congr 1; omega))
                        generalize at2 pp X (Y + 1) = v at *
                        by_cases hv' : z < v
                        · have HQ : Hid (q4 = true) := Lib.hid (by rw [HQ4.out, HL.out, if_pos hv']; rfl)
                          go_wp2_with fail
                          go_meet
                          case rel => exact ⟨by rw [HQ.out], rfl⟩
                        · have HQ : Hid (q4 = false) := Lib.hid (by rw [HQ4.out, HL.out, if_neg hv']; rfl)
                          go_wp2_with fail
                          go_meet
                          case rel => exact ⟨by rw [HQ.out], rfl⟩
                      · have hinI : ¬ (Y : Int) < (pp.length : Int) - 1 := by omega
                        have HQ : Hid (q4 = false) := Lib.hid (by rw [HQ4.out, Hl4.out, loss_out (by omega) (by omega)]; rfl)
                        go_wp2_with fail
                        go_meet
                        case rel => exact ⟨by rw [HQ.out], rfl⟩
                    case rest =>
                      obtain ⟨rfl, rfl⟩ := hcut
                      go_upto_if 123 with (fail)
                      go_cut [10] from 123 to 125 (fun d wx => d = .int .i64 (d0 + 2 * l1 + 2 * l2 + 2 * l3 + 2 * l4) ∧ w4 = wx)
                      case first =>
                        have HL2 := Lib.hid (HM4.out)
                        cases q4
                        · go_wp2_with fail
                          go_meet
                          case rel => exact ⟨by first | rfl | (have h := HL2.out; simp only [Bool.false_eq_true, if_false] at h; congr 1; omega), rfl⟩
                        · go_wp2_with fail
                          go_meet
                          case rel => exact ⟨by first | rfl | (have h := HL2.out; simp only [if_true] at h; congr 1; omega), rfl⟩
                      case rest =>
                        obtain ⟨rfl, rfl⟩ := hcut
                        have H1 := Lib.hid (HF1.out w4 (Below.refl _ _))
                        have H2 := Lib.hid (HF2.out w4 (Below.refl _ _))
                        have H3 := Lib.hid (HC1.out w4 (Below.refl _ _))
                        have H4 := Lib.hid (HC2.out w4 (Below.refl _ _))
                        obtain ⟨dd, hdd⟩ : ∃ dd, dd = d0 + 2 * l1 + 2 * l2 + 2 * l3 + 2 * l4 := ⟨_, rfl⟩
                        rw [← hdd] at H1 ⊢
                        have hdb : -10 ≤ dd ∧ dd ≤ 10 := by omega
                        have HG4 := Lib.hid hp4.2
                        clear hdd Hl1 Hl2 Hl3 Hl4 HD0 HF1 HF2 HC1 HC2 hp4
                        go_wp2_with fail
                        refine (H1.out).mono ?_
                        rintro e w' ⟨rfl, rfl⟩
                        go_wp2_with fail
                        refine (H2.out).mono ?_
                        rintro e w' ⟨rfl, rfl⟩
                        go_wp2_with fail
                        refine (H3.out).mono ?_
                        rintro e w' ⟨rfl, rfl⟩
                        go_wp2_with fail
                        refine (H4.out).mono ?_
                        rintro e w' ⟨rfl, rfl⟩
                        go_wp2_with fail
                        refine (HTK.out).mono ?_
                        rintro e w5 ⟨A5, c5, xs5, rfl, o5, b5⟩
                        go_wp2_with fail
                        refine (eqH_b pp A5 _ c5 cp w5 w5.heap.size o5.rd (HG4.out.up b5) hn1 HRP).mono ?_
                        rintro e w6 ⟨rfl, b6⟩
                        have b46 := b5.trans (b6.mono b5.size)
                        have bl6 := HB4.out.trans (b46.mono HB4.out.size)
                        clear o5 b5 b6 b46
                        go_wp2
                        go_ret
                        exact ⟨rfl, bl6⟩
  · have hn' : 1048576 < cs.length := by omega
    go_enter Try.func6, Try.ntmps6
    go_wp2
    go_ret
    exact ⟨rfl, Below.refl _ _⟩

set_option maxRecDepth 100000 in
theorem lifted (os : Os) (started : os.Started) (H : Type) (enc : TypeId × Value → H) :
    ReturnsInHanded {} Try.checked os 6 .any (Rows.fnAddCakeSpec.pre6 enc Try.prog Try.f6 Rows.fnAddCakeRow.domain false) (Rows.fnAddCakeSpec.post enc Try.prog Try.f6 false true false false) := by
  refine returnsInHanded_of_change (C := Try.checked) ownNone started (by kernel_rfl) Try.func6
    (ChangeSpec.witness6 (enc := enc) (C := Try.checked) false ⟨#[], #[.slice none 0 0], []⟩ 8 (by kernel_rfl) (by kernel_rfl) (by kernel_rfl) (by kernel_rfl)) ?_
  intro W base args ds gs before hval0 hW hcnd _
  have hval : ∀ (j : Nat) t v, Try.f6.params[j]? = some t → args[j]? = some v → Value.okWide Try.prog W .any base t v := hval0
  have hW' := hW
  obtain ⟨p, q, hA0, hV, rfl, _, _⟩ := hW
  have hA : DataW.TrodAll enc Try.prog W 0 (fun _ => true) true Try.f6.params.toList args.toList ds p := hA0
  rw [Try.params6] at hA hval
  obtain ⟨v0, vs0, d0, ds0, p0, q0, hargs, rfl, rfl, h0, r0⟩ := trodAll_cons hA
  obtain ⟨rfl, rfl, rfl⟩ := trodAll_nil r0
  obtain rfl : args = #[v0] := by cases args; simp_all
  obtain ⟨rfl, rfl⟩ := trodVars_none hV
  obtain ⟨Acs, ccs, cs, rfl, hrcs, hlcs, hqcs⟩ := open_rd Try.underlying22 Try.underlying5 cellsByte (hval 0 22 v0 rfl rfl) h0
  have hbcs := byte_bounds hqcs
  clear hA0 hval0
  refine (walk W cs Acs ccs hrcs hbcs hlcs).mono fun e W' ⟨he, hg⟩ => ?_
  subst he
  exact ⟨_, rfl, law_post laidOut (by kernel_rfl) rfl rfl rfl rfl rfl Try.underlying4 hW' hg⟩

/-- The statement. -/
theorem proved : Rows.FnAddCakeSaid :=
  OpenClaim.holds_of_wide 6 Try.f6 rfl rfl rfl rfl rfl rfl rfl ⟨rfl, rfl, rfl, rfl, rfl⟩ rfl rfl rfl rfl rfl (by kernel_rfl) Try.func6 (by kernel_rfl)
    (of_decide_eq_true (by kernel_rfl)) (by unfold Func.isWrapper; first | (rw [if_pos (by decide +kernel)]; kernel_rfl) | (rw [if_neg (by decide +kernel)]; exact ⟨rfl, rfl⟩))
    (fun os started H enc _ => lifted os started H enc)
#print axioms proved
end fnAddCake

end Go.Proofs.Ytbnggakfogcalaa

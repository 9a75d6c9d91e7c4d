/- Contracts of chapter 7: auctions, the model. -/
import Derived.Deep.AppendSrc
import Derived.Deep.Upon
import Derived.Test.YtiihenhddleooaaTAucI
import Derived.Test.YtiihenhddleooaaVOrdS
namespace Go.Proofs.Ytiihenhddleooaa
open Go.RowKit
set_option linter.unusedVariables false
set_option linter.unusedSimpArgs false
theorem sBids_any (m : Nat) (bs : List Int) (hl : bs.length = m) (hm : m ≤ maxLen) (A : Option Addr) (c : Nat) (w : World) (B : Nat) (hr : Rd w B A (ints bs)) :
    Calls Try.prog 63 #[.slice A m c] w fun e w' => e = .returned (.bool (decide (m ≤ 8) && bs.all (fun z => inB z 0 10000))) ∧ w = w' := by
  unfold maxLen at hm
  by_cases h8 : m ≤ 8
  · have h8i : (m : Int) ≤ 8 := by omega
    have C := Lib.hid fun w' (h : Rd w' B A (ints bs)) => allIn_any bs A c w' B h 0 10000 (by omega)
    rw [hl] at C
    have CQ := Lib.hid (C.out w hr)
    rw [decide_eq_true h8, Bool.true_and]
    generalize bs.all (fun z => inB z 0 10000) = R at *
    clear hr hl
    go_enter Try.func63, Try.ntmps63
    go_wp2_with fail
    refine (CQ.out).mono ?_
    rintro e w' ⟨rfl, rfl⟩
    go_wp2
    go_ret
    exact ⟨rfl, rfl⟩
  · have h8i : decide ((m : Int) ≤ 8) = false := decide_eq_false (by omega)
    have h8j : (8 : Int) < (m : Int) := by omega
    rw [decide_eq_false h8, Bool.false_and]
    clear hr hl
    go_enter Try.func63, Try.ntmps63
    go_wp2
    go_ret
    exact ⟨rfl, rfl⟩
theorem winF_get (bs : List Int) {k : Nat} {x : Nat} (h : (wL bs)[k]? = some x) : nats ((wL bs).take (k + 1)) = nats ((wL bs).take k) ++ [(x : Int)] := by
  rw [take_snoc h]; simp [nats]
set_option maxHeartbeats 8000000 in
theorem sWinL_any (m : Nat) (bs : List Int) (hl : bs.length = m) (hm : m ≤ 8) (A : Option Addr) (c : Nat) (n : Nat) (hn : n ≤ 9) (w : World) (hr : Rd w w.heap.size A (ints bs)) :
    Calls Try.prog 65 #[.slice A m c, .int .i64 n] w (OutI (nats ((wL bs).take n)) w) := by
  have HL := Lib.hid hl
  obtain ⟨i0, hi, hz0, hz1, hz2⟩ := info_parts info_int
  have HTK : Hid (∀ k, m ≤ k → (wL bs).take k = wL bs) := Lib.hid fun k hk => take_all (by omega)
  have HLN : Hid (∀ k, k ≤ m → (nats ((wL bs).take k)).length = k) := Lib.hid fun k hk => by rw [winF_len]; omega
  clear hl
  go_enter Try.func65, Try.ntmps65
  go_wp2
  go_loopw [5, 6] (fun v i wr => ∃ k g c5 : Nat, k ≤ n ∧ k ≤ m ∧ v = .slice (some ⟨g, 0, none⟩) k c5 ∧ i = .int .i64 k ∧ wr.ownsRow w.heap.size 3 1 (.slice (some ⟨g, 0, none⟩) k c5) k (ints (nats ((wL bs).take k))) ∧ Below w.heap.size w wr) (fun _ i _ => n - (intOf i).toNat)
  case atStart => exact ⟨0, _, _, Nat.zero_le _, Nat.zero_le _, rfl, rfl, own_empty w _, (Below.refl _ _).alloc (Nat.le_refl _) _⟩
  case round =>
    obtain ⟨k, g, c5, hkn, hkm, rfl, rfl, hown0, hbel0⟩ := hrel
    have HOW := Lib.hid hown0
    have HBEL := Lib.hid hbel0
    by_cases hlt : k < n ∧ k < m
    · obtain ⟨h1, h2⟩ := hlt
      obtain ⟨wo, hwo⟩ : ∃ wo, wo = wr := ⟨wr, rfl⟩
      rw [← hwo] at HOW HBEL
      have HWO := Lib.hid hwo
      have hro := hr.below HBEL.out
      have HMT : Hid (∀ j, j < m → memB (nats ((wL bs).take k)) (j : Int) = decide (rkW bs j < k)) := Lib.hid fun j hj => by
        unfold memB
        exact decide_eq_decide.2 (mem_take (by rw [HL.out]; exact hj))
      clear hown0 hbel0 hwo
      go_wp2
      go_loopw [7, 8] (fun b i wi => ∃ (j : Nat) (z : Int), j ≤ m ∧ i = .int .i64 j ∧ b = .int .i64 z ∧ bestAt bs k j z ∧ ∃ q, wi = wo.drewN q) (fun _ i _ => m - (intOf i).toNat)
      case atStart => exact ⟨0, -1, Nat.zero_le _, rfl, rfl, bestAt_zero bs k, 0, HWO.out.symm⟩
      case round =>
        obtain ⟨j, z, hj, rfl, rfl, hbe, q0, hwi⟩ := hrel
        have HWI := Lib.hid hwi
        have HBE := Lib.hid hbe
        by_cases hjm : j < m
        · have hri : Rd wr w.heap.size A (ints bs) := by rw [hwi]; exact hro.drewN q0
          have hoi : Rd wr wr.heap.size (some ⟨g, 0, none⟩) (ints (nats ((wL bs).take k))) := by rw [hwi]; exact (Rd.own HOW.out).drewN q0
          obtain ⟨b1, off, u, rfl, hb1, hzz, hc⟩ := hri.int_ (k := j) (by rw [HL.out]; exact hjm)
          have HPL : Hid (∀ m' : Nat, Calls Try.prog 81 #[.slice (some ⟨g, 0, none⟩) k c5, .int .i64 (j : Int)] (wr.drewN m') fun e w'' => e = .returned (.int .i64 (plF (nats ((wL bs).take k)) (j : Int))) ∧ wr.drewN m' = w'') := Lib.hid fun m' => sPlace_any k (by omega) _ (HLN.out k hkm) _ _ _ _ (hoi.drewN m') _
          have hpb := plF_bd (l := nats ((wL bs).take k)) (z := (j : Int))
          have hpm := plF_ge (l := nats ((wL bs).take k)) (z := (j : Int))
          rw [HMT.out j hjm] at hpm
          rw [HLN.out k hkm] at hpb
          obtain ⟨P, hP⟩ : ∃ P, P = plF (nats ((wL bs).take k)) (j : Int) := ⟨_, rfl⟩
          rw [← hP] at HPL hpb hpm
          clear hwi hbe hoi hP
          by_cases hr1 : rkW bs j < k
          · rw [decide_eq_true hr1] at hpm
            have hp0 : 0 ≤ P := hpm.2 rfl
            have hpd : decide (P < 0) = false := decide_eq_false (by omega)
            have HN := Lib.hid (bestAt_skip HBE.out hr1)
            clear hpm
            go_wp2
            refine wp_region_quiet_lit (by kernel_rfl) (by kernel_rfl) ?_
            repeat (go_big_quiet_step (fail))
            go_big_quiet_step ((go_at_call 81; exact quiet_same (HPL.out _)))
            repeat (go_big_quiet_step (fail))
            refine wpQuiet_nil ?_
            intro _ hw'
            obtain ⟨nq, hw''⟩ := hw'
            subst hw''
            go_wp2
            go_roundw
            case rel => exact ⟨j + 1, z, by omega, by go_num, rfl, HN.out, q0 + nq, by rw [HWI.out, drewN_add]⟩
            case measure => first | (simp [intOf]; omega) | simp [intOf]
          · rw [decide_eq_false hr1] at hpm
            have hp0 : P < 0 := by
              by_cases g : 0 ≤ P
              · exact absurd (hpm.1 g) (by simp)
              · omega
            have hpd : decide (P < 0) = true := decide_eq_true hp0
            clear hpm
            rcases HBE.out with ⟨hz1, _⟩ | ⟨M, hz1, hM, _⟩
            · subst hz1
              have HN := Lib.hid (bestAt_first HBE.out (by omega))
              go_wp2
              refine wp_region_quiet_lit (by kernel_rfl) (by kernel_rfl) ?_
              repeat (go_big_quiet_step (fail))
              go_big_quiet_step ((go_at_call 81; exact quiet_same (HPL.out _)))
              repeat (go_big_quiet_step (fail))
              refine wpQuiet_nil ?_
              intro _ hw'
              obtain ⟨nq, hw''⟩ := hw'
              subst hw''
              go_wp2
              go_roundw
              case rel => exact ⟨j + 1, (j : Int), by omega, by go_num, rfl, HN.out, q0 + nq, by rw [HWI.out, drewN_add]⟩
              case measure => first | (simp [intOf]; omega) | simp [intOf]
            · subst hz1
              obtain ⟨b2, off2, y, e7, hb2, hyy, hd⟩ := hri.int_ (k := M) (by rw [HL.out]; omega)
              injection e7 with e7
              injection e7 with q1 q2
              subst q1 q2
              have hM0 : decide ((M : Int) < 0) = false := decide_eq_false (by omega)
              have hMm : M < m := by omega
              by_cases hg : y < u
              · have HN := Lib.hid (bestAt_new HBE.out (show k ≤ rkW bs j by omega) (by rw [at_of hyy.out, at_of hzz.out]; exact hg))
                have hgd : decide (y < u) = true := decide_eq_true hg
                clear hyy hzz
                go_wp2
                refine wp_region_quiet_lit (by kernel_rfl) (by kernel_rfl) ?_
                repeat (go_big_quiet_step (fail))
                go_big_quiet_step ((go_at_call 81; exact quiet_same (HPL.out _)))
                repeat (go_big_quiet_step (fail))
                refine wpQuiet_nil ?_
                intro _ hw'
                obtain ⟨nq, hw''⟩ := hw'
                subst hw''
                go_wp2
                go_roundw
                case rel => exact ⟨j + 1, (j : Int), by omega, by go_num, rfl, HN.out, q0 + nq, by rw [HWI.out, drewN_add]⟩
                case measure => first | (simp [intOf]; omega) | simp [intOf]
              · have HN := Lib.hid (bestAt_keep HBE.out (by rw [at_of hyy.out, at_of hzz.out]; exact hg))
                have hgd : decide (y < u) = false := decide_eq_false hg
                have hgl : u ≤ y := by omega
                clear hyy hzz
                go_wp2
                refine wp_region_quiet_lit (by kernel_rfl) (by kernel_rfl) ?_
                repeat (go_big_quiet_step (fail))
                go_big_quiet_step ((go_at_call 81; exact quiet_same (HPL.out _)))
                repeat (go_big_quiet_step (fail))
                refine wpQuiet_nil ?_
                intro _ hw'
                obtain ⟨nq, hw''⟩ := hw'
                subst hw''
                go_wp2
                go_roundw
                case rel => exact ⟨j + 1, (M : Int), by omega, by go_num, rfl, HN.out, q0 + nq, by rw [HWI.out, drewN_add]⟩
                case measure => first | (simp [intOf]; omega) | simp [intOf]
        · obtain rfl : j = m := by omega
          obtain ⟨M, rfl, hM, hWM⟩ := bestAt_end (k := k) (b := z) (by rw [HL.out]; exact hbe) (by rw [HL.out]; exact h2)
          have HGT := Lib.hid (winF_get bs hWM)
          have hown : wr.ownsRow w.heap.size 3 1 (.slice (some ⟨g, 0, none⟩) k c5) k (ints (nats ((wL bs).take k))) := by rw [hwi]; exact own_drewN HOW.out q0
          have hbw : Below w.heap.size w wr := by rw [hwi]; exact below_drewN HBEL.out q0
          have hsz := hbw.size
          have HO := Lib.hid (And.intro hown hbw)
          clear hwi hbe hown hbw hWM
          go_wp2_with (at_builtin; refine wpList_append_own _ rfl _ _ 27 rfl (w.heap.size) 3 i0 (.int .i64 0) 1 8 Try.underlying27 hi hz0 hz1 hz2 rfl (by decide) _ _ _ rfl (HO.out.1.alloc _) ⟨wr.heap.size, 0, none⟩ 1 1 [.int .i64 (M : Int)] rfl rfl (one_new _ _ _ _ rfl) (fun u hu => by simp at hu; subst hu; rfl) (by unfold maxLen; omega) (by omega) (by simp; omega) ?_)
          intro v' w5 hown' hgrow _
          obtain ⟨A6, c6, rfl⟩ := own_form hown'
          obtain ⟨g6, rfl, _⟩ := own_some hown' (by omega)
          have hown2 : w5.ownsRow w.heap.size 3 1 (.slice (some ⟨g6, 0, none⟩) (k + 1) c6) (k + 1) (ints (nats ((wL bs).take (k + 1)))) := by rw [HGT.out, ints, List.map_append]; exact hown'
          have hb5 : Below w.heap.size w w5 := (HO.out.2.alloc hsz (.cells #[.int .i64 (M : Int)] 3)).grown hgrow (by simp; omega) (own_block HO.out.1)
          have HP := Lib.hid (And.intro hown2 hb5)
          clear hown' hgrow hown2 hb5
          go_wp2
          go_roundw
          case rel => exact ⟨k + 1, g6, c6, by omega, by omega, rfl, by go_num, HP.out.1, HP.out.2⟩
          case measure => first | (simp [intOf]; omega) | simp [intOf]
    · have HLAST : Hid (nats ((wL bs).take n) = nats ((wL bs).take k)) := Lib.hid (by
        by_cases h1 : k < n
        · rw [HTK.out n (by omega), HTK.out k (by omega)]
        · rw [show k = n by omega])
      have HR := Lib.hid (out_mk (HLN.out k hkm) hown0 hbel0)
      rw [← HLAST.out] at HR
      clear hown0 hbel0 HLAST HOW HBEL
      by_cases h1 : k < n
      · obtain rfl : k = m := by omega
        go_wp2
        go_ret
        exact HR.out
      · obtain rfl : k = n := by omega
        go_wp2
        go_ret
        exact HR.out
theorem sWin_any (m : Nat) (bs : List Int) (hl : bs.length = m) (hm : m ≤ maxLen) (A : Option Addr) (c : Nat) (n : Int) (w : World) (hr : Rd w w.heap.size A (ints bs)) :
    Calls Try.prog 29 #[.slice A m c, .int .i64 n] w (OutI (winT bs n) w) := by
  have C := Lib.hid (sBids_any m bs hl hm A c w _ hr)
  have HV : Hid (aucB bs n = ((decide (m ≤ 8) && bs.all (fun z => inB z 0 10000)) && inB n 0 8)) := Lib.hid (by unfold aucB; rw [hl])
  cases hq : (decide (m ≤ 8) && bs.all (fun z => inB z 0 10000))
  · rw [hq] at C HV
    have HT : Hid (winT bs n = []) := Lib.hid (by unfold winT; rw [HV.out]; rfl)
    clear hr hq
    rw [HT.out]
    go_enter Try.func29, Try.ntmps29
    go_wp2_with fail
    refine (C.out).mono ?_
    rintro e w' ⟨rfl, rfl⟩
    go_wp2_with (go_at_call 64; refine (inRange_any _ _ _ _).mono ?_; rintro e w' ⟨rfl, rfl⟩)
    go_ret
    exact ⟨none, 0, rfl, ⟨rfl, .inl ⟨rfl, rfl⟩⟩, Below.refl _ _⟩
  · rw [hq] at C HV
    cases hn : inB n 0 8
    · have HT : Hid (winT bs n = []) := Lib.hid (by unfold winT; rw [HV.out, hn]; rfl)
      clear hr hq
      rw [HT.out]
      go_enter Try.func29, Try.ntmps29
      go_wp2_with fail
      refine (C.out).mono ?_
      rintro e w' ⟨rfl, rfl⟩
      go_wp2_with (go_at_call 64; refine (inRange_any _ _ _ _).mono ?_; rintro e w' ⟨rfl, rfl⟩)
      go_ret
      exact ⟨none, 0, rfl, ⟨rfl, .inl ⟨rfl, rfl⟩⟩, Below.refl _ _⟩
    · obtain ⟨hn0, hn8⟩ := inB_t hn
      obtain ⟨N, rfl⟩ := Int.eq_ofNat_of_zero_le hn0
      have hm8 : m ≤ 8 := by
        rw [Bool.and_eq_true, decide_eq_true_eq] at hq
        exact hq.1
      have HT : Hid (winT bs (N : Int) = nats ((wL bs).take N)) := Lib.hid (by unfold winT; rw [HV.out, hn]; rfl)
      have CW := Lib.hid (sWinL_any m bs hl hm8 A c N (by omega) w hr)
      rw [HT.out]
      generalize nats ((wL bs).take N) = ts at *
      have HN := Lib.hid fun w => inR_is hn w
      clear hr hq hn
      go_enter Try.func29, Try.ntmps29
      go_wp2_with fail
      refine (C.out).mono ?_
      rintro e w' ⟨rfl, rfl⟩
      go_wp2_with fail
      refine (HN.out _).mono ?_
      rintro e w' ⟨rfl, rfl⟩
      go_wp2_with fail
      refine (CW.out).mono ?_
      rintro e w2 ⟨A2, c2, rfl, o2, b2⟩
      have H := Lib.hid (And.intro o2 b2)
      clear o2 b2
      go_wp2
      go_ret
      exact ⟨A2, c2, rfl, H.out.1, H.out.2⟩
set_option maxHeartbeats 1000000 in
theorem sPriL_any (m : Nat) (bs : List Int) (hl : bs.length = m) (hm : m ≤ 8) (A : Option Addr) (c : Nat) (n : Nat) (hn : n ≤ 8) (w : World) (hr : Rd w w.heap.size A (ints bs)) :
    Calls Try.prog 66 #[.slice A m c, .int .i64 n] w fun e w' => e = .returned (.int .i64 (prF bs n)) ∧ Below w.heap.size w w' := by
  have HL := Lib.hid hl
  have CW := Lib.hid (sWinL_any m bs hl hm A c (n + 1) (by omega) w hr)
  have HLN : Hid ((nats ((wL bs).take (n + 1))).length = min (n + 1) m) := Lib.hid (by rw [winF_len, hl])
  by_cases hg : n < m
  · obtain ⟨x, x1, x2, x3⟩ := prF_has (bs := bs) (n := n) (by omega)
    have HX : Hid ((nats ((wL bs).take (n + 1)))[n]? = some (x : Int)) := Lib.hid (by
      rw [nats, List.getElem?_map, List.getElem?_take, if_pos (by omega), x3]; rfl)
    have HP : Hid (prF bs n = at_ bs x) := Lib.hid (prF_at x1 x2)
    have hxm : x < m := by omega
    have HLE : Hid ((nats ((wL bs).take (n + 1))).length = n + 1) := Lib.hid (by rw [HLN.out]; omega)
    generalize nats ((wL bs).take (n + 1)) = ts at *
    rw [HP.out]
    clear hl x1 x2 x3
    go_enter Try.func66, Try.ntmps66
    go_wp2_with fail
    refine (CW.out).mono ?_
    rintro e w2 ⟨A2, c2, rfl, o2, b2⟩
    rw [HLE.out] at o2 ⊢
    have hr2 := hr.below b2
    have hrt := Rd.own o2
    obtain ⟨b3, off3, z, rfl, hb3, hz, hc⟩ := hrt.int_ (k := n) (by rw [HLE.out]; omega)
    obtain rfl : z = (x : Int) := by have := hz.out; rw [HX.out] at this; injection this with this; exact this.symm
    obtain ⟨b4, off4, y, rfl, hb4, hy, hd⟩ := hr2.int_ (k := x) (by rw [HL.out]; exact hxm)
    have HY := Lib.hid (at_of hy.out)
    have HB := Lib.hid b2
    have hle : decide (((n + 1 : Nat) : Int) ≤ (n : Int)) = false := decide_eq_false (by omega)
    clear o2 hz hy b2 hrt
    go_wp2
    go_ret
    exact ⟨ret_int HY.out.symm, HB.out⟩
  · have HP : Hid (prF bs n = 0) := Lib.hid (prF_none (by omega))
    have HLE : Hid ((nats ((wL bs).take (n + 1))).length = m) := Lib.hid (by rw [HLN.out]; omega)
    generalize nats ((wL bs).take (n + 1)) = ts at *
    rw [HP.out]
    have hle : (m : Int) ≤ (n : Int) := by omega
    clear hl hr
    go_enter Try.func66, Try.ntmps66
    go_wp2_with fail
    refine (CW.out).mono ?_
    rintro e w2 ⟨A2, c2, rfl, o2, b2⟩
    rw [HLE.out] at o2 ⊢
    go_wp2
    go_ret
    exact ⟨rfl, b2⟩
theorem sPrice_any (m : Nat) (bs : List Int) (hl : bs.length = m) (hm : m ≤ maxLen) (A : Option Addr) (c : Nat) (n : Int) (w : World) (hr : Rd w w.heap.size A (ints bs)) :
    Calls Try.prog 33 #[.slice A m c, .int .i64 n] w fun e w' => e = .returned (.int .i64 (prT bs n)) ∧ Below w.heap.size w w' := by
  have C := Lib.hid (sBids_any m bs hl hm A c w _ hr)
  have HV : Hid (aucB bs n = ((decide (m ≤ 8) && bs.all (fun z => inB z 0 10000)) && inB n 0 8)) := Lib.hid (by unfold aucB; rw [hl])
  cases hq : (decide (m ≤ 8) && bs.all (fun z => inB z 0 10000))
  · rw [hq] at C HV
    have HT : Hid (prT bs n = -1) := Lib.hid (by unfold prT; rw [HV.out]; rfl)
    clear hr hq
    rw [HT.out]
    go_enter Try.func33, Try.ntmps33
    go_wp2_with fail
    refine (C.out).mono ?_
    rintro e w' ⟨rfl, rfl⟩
    go_wp2_with (go_at_call 64; refine (inRange_any _ _ _ _).mono ?_; rintro e w' ⟨rfl, rfl⟩)
    go_ret
    exact ⟨rfl, Below.refl _ _⟩
  · rw [hq] at C HV
    cases hn : inB n 0 8
    · have HT : Hid (prT bs n = -1) := Lib.hid (by unfold prT; rw [HV.out, hn]; rfl)
      clear hr hq
      rw [HT.out]
      go_enter Try.func33, Try.ntmps33
      go_wp2_with fail
      refine (C.out).mono ?_
      rintro e w' ⟨rfl, rfl⟩
      go_wp2_with (go_at_call 64; refine (inRange_any _ _ _ _).mono ?_; rintro e w' ⟨rfl, rfl⟩)
      go_ret
      exact ⟨rfl, Below.refl _ _⟩
    · obtain ⟨hn0, hn8⟩ := inB_t hn
      obtain ⟨N, rfl⟩ := Int.eq_ofNat_of_zero_le hn0
      have hm8 : m ≤ 8 := by
        rw [Bool.and_eq_true, decide_eq_true_eq] at hq
        exact hq.1
      have HT : Hid (prT bs (N : Int) = prF bs N) := Lib.hid (by unfold prT; rw [HV.out, hn]; rfl)
      have CW := Lib.hid (sPriL_any m bs hl hm8 A c N (by omega) w hr)
      rw [HT.out]
      have HN := Lib.hid fun w => inR_is hn w
      clear hr hq hn
      go_enter Try.func33, Try.ntmps33
      go_wp2_with fail
      refine (C.out).mono ?_
      rintro e w' ⟨rfl, rfl⟩
      go_wp2_with fail
      refine (HN.out _).mono ?_
      rintro e w' ⟨rfl, rfl⟩
      go_wp2_with fail
      refine (CW.out).mono ?_
      rintro e w2 ⟨rfl, b2⟩
      go_wp2
      go_ret
      exact ⟨rfl, b2⟩
set_option maxHeartbeats 1000000 in
theorem sGainL_any (m : Nat) (bs : List Int) (hl : bs.length = m) (hm : m ≤ 8) (A : Option Addr) (c : Nat) (n : Nat) (hn : n ≤ 8) (i : Nat) (hi : i < m) (wo : Int) (hwo : 0 ≤ wo ∧ wo ≤ 10000) (hbz : ∀ z ∈ bs, 0 ≤ z ∧ z ≤ 10000) (w : World) (hr : Rd w w.heap.size A (ints bs)) :
    Calls Try.prog 69 #[.slice A m c, .int .i64 n, .int .i64 i, .int .i64 wo] w fun e w' => e = .returned (.int .i64 (gaF bs n i wo)) ∧ Below w.heap.size w w' := by
  have CW := Lib.hid (sWinL_any m bs hl hm A c n (by omega) w hr)
  have HLN : Hid ((nats ((wL bs).take n)).length = min n m) := Lib.hid (by rw [winF_len, hl])
  have HMT : Hid (memB (nats ((wL bs).take n)) (i : Int) = decide (rkW bs i < n)) := Lib.hid (by
    unfold memB
    exact decide_eq_decide.2 (mem_take (by rw [hl]; exact hi)))
  have HPB : Hid (0 ≤ prF bs n ∧ prF bs n ≤ 10000) := Lib.hid (by
    by_cases g : n < bs.length
    · obtain ⟨x, x1, x2, _⟩ := prF_has g
      rw [prF_at x1 x2]
      exact hbz _ (List.mem_of_getElem? (of_at x1))
    · rw [prF_none (by omega)]; omega)
  have CP := Lib.hid fun (w2 : World) (b2 : Below w.heap.size w w2) => sPriL_any m bs hl hm A c n hn w2 ((hr.below b2).more b2.size)
  have hpm := plF_ge (l := nats ((wL bs).take n)) (z := (i : Int))
  rw [HMT.out] at hpm
  have HPM := Lib.hid hpm
  have CPL : Hid (∀ (L : Nat) (hL : (nats ((wL bs).take n)).length = L) (w2 : World) (A2 : Option Addr) (c2 : Nat), Rd w2 w2.heap.size A2 (ints (nats ((wL bs).take n))) → Calls Try.prog 81 #[.slice A2 L c2, .int .i64 (i : Int)] w2 fun e w'' => e = .returned (.int .i64 (plF (nats ((wL bs).take n)) (i : Int))) ∧ w2 = w'') := Lib.hid fun L hL w2 A2 c2 h => sPlace_any L (by have := HLN.out; omega) _ hL A2 c2 w2 _ h _
  obtain ⟨P, hP⟩ : ∃ P, P = plF (nats ((wL bs).take n)) (i : Int) := ⟨_, rfl⟩
  rw [← hP] at CPL HPM
  have HG : Hid (gaF bs n i wo = if rkW bs i < n then wo - prF bs n else 0) := Lib.hid rfl
  rw [HG.out]
  clear hr hpm hP hl hbz
  generalize nats ((wL bs).take n) = ts at *
  generalize rkW bs i = r at *
  generalize prF bs n = Q at *
  obtain ⟨hp1, hp2⟩ := HPB.out
  obtain ⟨hw1, hw2⟩ := hwo
  by_cases hg : r < n
  · have hP0 : 0 ≤ P := HPM.out.2 (decide_eq_true hg)
    have hPd : decide (P < 0) = false := decide_eq_false (by omega)
    rw [if_pos hg]
    go_enter Try.func69, Try.ntmps69
    go_wp2_with fail
    refine (CW.out).mono ?_
    rintro e w2 ⟨A2, c2, rfl, o2, b2⟩
    have CQ := Lib.hid (CPL.out ts.length rfl w2 A2 c2 (Rd.own o2))
    have CR := Lib.hid (CP.out w2 b2)
    have HB := Lib.hid b2
    clear o2 b2
    go_wp2_with fail
    refine (CQ.out).mono ?_
    rintro e w' ⟨rfl, rfl⟩
    go_wp2_with fail
    refine (CR.out).mono ?_
    rintro e w3 ⟨rfl, b3⟩
    have HB3 := Lib.hid (HB.out.trans (b3.mono HB.out.size))
    clear b3
    go_wp2
    go_ret
    exact ⟨rfl, HB3.out⟩
  · have hP0 : P < 0 := by
      by_cases g : 0 ≤ P
      · exact absurd (HPM.out.1 g) (by rw [decide_eq_false hg]; simp)
      · omega
    have hPd : decide (P < 0) = true := decide_eq_true hP0
    rw [if_neg hg]
    go_enter Try.func69, Try.ntmps69
    go_wp2_with fail
    refine (CW.out).mono ?_
    rintro e w2 ⟨A2, c2, rfl, o2, b2⟩
    have CQ := Lib.hid (CPL.out ts.length rfl w2 A2 c2 (Rd.own o2))
    have HB := Lib.hid b2
    clear o2 b2
    go_wp2_with fail
    refine (CQ.out).mono ?_
    rintro e w' ⟨rfl, rfl⟩
    go_wp2
    go_ret
    exact ⟨rfl, HB.out⟩
set_option maxHeartbeats 1000000 in
theorem sGain_any (m : Nat) (bs : List Int) (hl : bs.length = m) (hm : m ≤ maxLen) (A : Option Addr) (c : Nat) (n i wo : Int) (w : World) (hr : Rd w w.heap.size A (ints bs)) :
    Calls Try.prog 36 #[.slice A m c, .int .i64 n, .int .i64 i, .int .i64 wo] w fun e w' => e = .returned (.int .i64 (gaT bs n i wo)) ∧ Below w.heap.size w w' := by
  have C := Lib.hid (sBids_any m bs hl hm A c w _ hr)
  have HV : Hid (aucB bs n = ((decide (m ≤ 8) && bs.all (fun z => inB z 0 10000)) && inB n 0 8)) := Lib.hid (by unfold aucB; rw [hl])
  have HG : Hid (gaT bs n i wo = if aucB bs n && (inB i 0 ((m : Int) - 1) && inB wo 0 10000) then gaF bs n.toNat i.toNat wo else 0) := Lib.hid (by unfold gaT; rw [hl])
  cases hq : (decide (m ≤ 8) && bs.all (fun z => inB z 0 10000))
  · rw [hq] at C HV
    have HT : Hid (gaT bs n i wo = 0) := Lib.hid (by rw [HG.out, HV.out]; rfl)
    clear hr hq
    rw [HT.out]
    go_enter Try.func36, Try.ntmps36
    go_wp2_with fail
    refine (C.out).mono ?_
    rintro e w' ⟨rfl, rfl⟩
    go_wp2_with (go_at_call 64; refine (inRange_any _ _ _ _).mono ?_; rintro e w' ⟨rfl, rfl⟩)
    go_ret
    exact ⟨rfl, Below.refl _ _⟩
  · rw [hq] at C HV
    have hm8 : m ≤ 8 := by
      rw [Bool.and_eq_true, decide_eq_true_eq] at hq
      exact hq.1
    have hbz : ∀ z ∈ bs, 0 ≤ z ∧ z ≤ 10000 := by
      rw [Bool.and_eq_true, List.all_eq_true] at hq
      exact fun z hz => inB_t (hq.2 z hz)
    have HBZ := Lib.hid hbz
    clear hq hbz
    cases hn : inB n 0 8
    · have HT : Hid (gaT bs n i wo = 0) := Lib.hid (by rw [HG.out, HV.out, hn]; rfl)
      clear hr
      rw [HT.out]
      go_enter Try.func36, Try.ntmps36
      go_wp2_with fail
      refine (C.out).mono ?_
      rintro e w' ⟨rfl, rfl⟩
      go_wp2_with (go_at_call 64; refine (inRange_any _ _ _ _).mono ?_; rintro e w' ⟨rfl, rfl⟩)
      go_ret
      exact ⟨rfl, Below.refl _ _⟩
    · cases hi : inB i 0 ((m : Int) - 1)
      · have HT : Hid (gaT bs n i wo = 0) := Lib.hid (by rw [HG.out, HV.out, hn, hi]; rfl)
        clear hr
        rw [HT.out]
        go_enter Try.func36, Try.ntmps36
        go_wp2_with fail
        refine (C.out).mono ?_
        rintro e w' ⟨rfl, rfl⟩
        go_wp2_with (go_at_call 64; refine (inRange_any _ _ _ _).mono ?_; rintro e w' ⟨rfl, rfl⟩)
        go_ret
        exact ⟨rfl, Below.refl _ _⟩
      · cases hw : inB wo 0 10000
        · have HT : Hid (gaT bs n i wo = 0) := Lib.hid (by rw [HG.out, HV.out, hn, hi, hw]; rfl)
          clear hr
          rw [HT.out]
          go_enter Try.func36, Try.ntmps36
          go_wp2_with fail
          refine (C.out).mono ?_
          rintro e w' ⟨rfl, rfl⟩
          go_wp2_with (go_at_call 64; refine (inRange_any _ _ _ _).mono ?_; rintro e w' ⟨rfl, rfl⟩)
          go_ret
          exact ⟨rfl, Below.refl _ _⟩
        · obtain ⟨hn0, hn8⟩ := inB_t hn
          obtain ⟨hi0, hi8⟩ := inB_t hi
          obtain ⟨N, rfl⟩ := Int.eq_ofNat_of_zero_le hn0
          obtain ⟨I, rfl⟩ := Int.eq_ofNat_of_zero_le hi0
          have HT : Hid (gaT bs (N : Int) (I : Int) wo = gaF bs N I wo) := Lib.hid (by rw [HG.out, HV.out, hn, hi, hw]; rfl)
          have CW := Lib.hid (sGainL_any m bs hl hm8 A c N (by omega) I (by omega) wo (inB_t hw) HBZ.out w hr)
          rw [HT.out]
          clear hr hl
          go_enter Try.func36, Try.ntmps36
          go_wp2_with fail
          refine (C.out).mono ?_
          rintro e w' ⟨rfl, rfl⟩
          go_wp2_with (go_at_call 64; refine (inRange_any _ _ _ _).mono ?_; rintro e w' ⟨rfl, rfl⟩)
          go_wp2_with fail
          refine (CW.out).mono ?_
          rintro e w2 ⟨rfl, b2⟩
          go_wp2
          go_ret
          exact ⟨rfl, b2⟩
theorem sWin_t {ts bs : List Int} {n : Int} (H : Hid (ts = winT bs n)) (A : Option Addr) (c : Nat) (hn : bs.length ≤ maxLen) (w : World) (hr : Rd w w.heap.size A (ints bs)) :
    Calls Try.prog 29 #[.slice A bs.length c, .int .i64 n] w (OutI ts w) := by
  rw [H.out]; exact sWin_any _ bs rfl hn A c n w hr
theorem iWin_t {ts bs : List Int} {n : Int} (H : Hid (ts = winT bs n)) (A : Option Addr) (c : Nat) (hn : bs.length ≤ maxLen) (w : World) (hr : Rd w w.heap.size A (ints bs)) :
    Calls Try.prog 28 #[.slice A bs.length c, .int .i64 n] w (OutI ts w) := by
  rw [H.out]; exact iWin_any _ bs rfl hn A c n w hr
theorem iPrice_b (m : Nat) (bs : List Int) (hl : bs.length = m) (hm : m ≤ maxLen) (A : Option Addr) (c : Nat) (n : Int) (w : World) (hr : Rd w w.heap.size A (ints bs)) :
    Calls Try.prog 32 #[.slice A m c, .int .i64 n] w fun e w' => e = .returned (.int .i64 (prT bs n)) ∧ Below w.heap.size w w' :=
  (iPrice_any m bs hl hm A c n w _ hr).mono fun _ _ ⟨h, e⟩ => ⟨h, e ▸ Below.refl _ _⟩
theorem iGain_b (m : Nat) (bs : List Int) (hl : bs.length = m) (hm : m ≤ maxLen) (A : Option Addr) (c : Nat) (n i wo : Int) (w : World) (hr : Rd w w.heap.size A (ints bs)) :
    Calls Try.prog 35 #[.slice A m c, .int .i64 n, .int .i64 i, .int .i64 wo] w fun e w' => e = .returned (.int .i64 (gaT bs n i wo)) ∧ Below w.heap.size w w' :=
  (iGain_any m bs hl hm A c n i wo w _ hr).mono fun _ _ ⟨h, e⟩ => ⟨h, e ▸ Below.refl _ _⟩

end Go.Proofs.Ytiihenhddleooaa

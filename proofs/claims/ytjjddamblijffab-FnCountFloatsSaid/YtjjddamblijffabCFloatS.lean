/- Contracts of chapter 3: whether cakes can float out, the model. -/
import Derived.Lib.QuietBelow
import Derived.Test.YtjjddamblijffabCFloat
import Derived.Test.YtjjddamblijffabCValidT
import Derived.Test.YtjjddamblijffabVOrdS
namespace Go.Proofs.Ytjjddamblijffab
open Go.RowKit
set_option linter.unusedVariables false
set_option linter.unusedSimpArgs false
set_option maxRecDepth 100000 in
set_option maxHeartbeats 800000 in
theorem sBlocks_any (x y u v b : Int) (hb : 1 ≤ b ∧ b ≤ 4) (hy : 0 ≤ y ∧ y ≤ 9) (hv : 0 ≤ v ∧ v ≤ 9) (w : World) :
    Calls Try.prog 111 #[.agg #[.int .i64 x, .int .i64 y], .agg #[.int .i64 u, .int .i64 v], .int .i64 b] w fun e w' => e = .returned (.bool (blkB b (x, y) (u, v))) ∧ Below w.heap.size w w' := by
  obtain ⟨y1, y2⟩ := hy
  obtain ⟨v1, v2⟩ := hv
  obtain ⟨b1, b2⟩ := hb
  have H : Hid (blkB b (x, y) (u, v) = decide (u < x ∧ v < y + b ∧ y < v + b)) := Lib.hid rfl
  have bel : ∀ o o' : Obj, Below w.heap.size w ((w.alloc o).alloc o') := fun o o' => ((Below.refl _ _).alloc (Nat.le_refl _) _).alloc (by simp) _
  have BEL := Lib.hid bel
  clear bel
  by_cases h1 : u < x
  · by_cases h2 : v < y + b
    · by_cases h3 : y < v + b
      · have HT : Hid (blkB b (x, y) (u, v) = true) := Lib.hid (by rw [H.out]; exact decide_eq_true ⟨h1, h2, h3⟩)
        go_enter Try.func111, Try.ntmps111
        go_wp2
        go_ret
        exact ⟨ret_bool HT.out.symm, BEL.out _ _⟩
      · have HT : Hid (blkB b (x, y) (u, v) = false) := Lib.hid (by rw [H.out]; exact decide_eq_false (by omega))
        have h4 : v + b ≤ y := by omega
        go_enter Try.func111, Try.ntmps111
        go_wp2
        go_ret
        exact ⟨ret_bool HT.out.symm, BEL.out _ _⟩
    · have HT : Hid (blkB b (x, y) (u, v) = false) := Lib.hid (by rw [H.out]; exact decide_eq_false (by omega))
      have h4 : y + b ≤ v := by omega
      go_enter Try.func111, Try.ntmps111
      go_wp2
      go_ret
      exact ⟨ret_bool HT.out.symm, BEL.out _ _⟩
  · have HT : Hid (blkB b (x, y) (u, v) = false) := Lib.hid (by rw [H.out]; exact decide_eq_false (by omega))
    have h4 : x ≤ u := by omega
    go_enter Try.func111, Try.ntmps111
    go_wp2
    go_ret
    exact ⟨ret_bool HT.out.symm, BEL.out _ _⟩
set_option maxRecDepth 100000 in
set_option maxRecDepth 100000 in
set_option maxHeartbeats 4000000 in
theorem sFloatN_any (n m : Nat) (hn : n ≤ 1048576) (hm : m ≤ 1048576) (cs : List (Int × Int)) (order : List Int) (hl : cs.length = n) (hlo : order.length = m) (A Ao : Option Addr) (c co : Nat) (hcap : m ≤ co ∧ co ≤ maxLen) (w : World) (hr : Rd w w.heap.size A (cakeV cs)) (hro : Rd w w.heap.size Ao (ints order)) (a b : Int) (hv : cakesB a b cs = true) :
    Calls Try.prog 76 #[.slice A n c, .int .i64 b, .slice Ao m co] w fun e w' => e = .returned (.bool (vfB b cs order)) ∧ Below w.heap.size w w' := by
  obtain ⟨hs, hok⟩ := cakesB_parts hv
  obtain ⟨⟨s1, s2⟩, ⟨s3, s4⟩⟩ := sidesB_t hs
  rw [hl] at hok
  have HL := Lib.hid hl
  have HLO := Lib.hid hlo
  have HON : Hid (∀ j, j < n → 0 ≤ (cAt cs j).2 ∧ (cAt cs j).2 ≤ 9) := Lib.hid fun j hj => by have := onB_t (okTo_on hok hj); omega
  have HF : Hid (vfB b cs order = (decide (m = n) && vfTo b cs order m)) := Lib.hid (by unfold vfB; rw [hl, hlo])
  have HStep : Hid (∀ (l : List Int) (z : Int), stepB b cs l z = ((inB z 0 ((n : Int) - 1) && !memB l z) && !heldTo b cs l (cAt cs z.toNat) n)) := Lib.hid fun l z => by unfold stepB; rw [hl]
  generalize vfB b cs order = R at *
  obtain ⟨q3, q4⟩ := hcap
  clear hv hs hok hl hlo
  go_enter Try.func76, Try.ntmps76
  go_wp2
  go_loopw [7] (fun i wr => ∃ k : Nat, k ≤ m ∧ i = .int .i64 k ∧ vfTo b cs order k = true ∧ Below w.heap.size w wr) (fun i _ => m - (intOf i).toNat)
  case atStart => exact ⟨0, Nat.zero_le _, rfl, rfl, Below.refl _ _⟩
  case round =>
    obtain ⟨k, hk, rfl, hvf, hbel⟩ := hrel
    have HVF := Lib.hid hvf
    have HBEL := Lib.hid hbel
    have hsz := hbel.size
    clear hvf
    by_cases hlt : k < m
    · obtain ⟨b3, off3, z, rfl, hb3, hz, hcz⟩ := (hro.below hbel).int_ (k := k) (by rw [HLO.out]; exact hlt)
      have Hat : Hid (at_ order k = z) := Lib.hid (by unfold at_; rw [List.getD_eq_getElem?_getD, hz.out]; rfl)
      have HBad : Hid (stepB b cs (order.take k) z = false → R = false) := Lib.hid fun h => by rw [HF.out, vfTo_bad hlt (by rw [Hat.out]; exact h), Bool.and_false]
      have HGood : Hid (stepB b cs (order.take k) z = true → vfTo b cs order (k + 1) = true) := Lib.hid fun h => by rw [vfTo_succ, HVF.out, Hat.out, h]; rfl
      have HRT : Hid (∀ w', Below w.heap.size w w' → Rd w' w.heap.size (some ⟨b3, off3, none⟩) (ints (order.take k))) := Lib.hid fun w' hb => by
        have := (hro.below hb).take k
        rw [ints, ← List.map_take] at this
        exact this
      have HPl : Hid (∀ w', Below w.heap.size w w' → ∀ y, Calls Try.prog 103 #[.slice (some ⟨b3, off3, none⟩) k co, .int .i64 y] w' fun e w'' => e = .returned (.int .i64 (plF (order.take k) y)) ∧ w' = w'') := Lib.hid fun w' hb y => sPlace_any k (by omega) (order.take k) (by rw [List.length_take, HLO.out]; omega) _ co w' _ (HRT.out w' hb) y
      have e3 : k ≤ co := by omega
      cases hzi : inB z 0 ((n : Int) - 1)
      · have HZ := Lib.hid hzi
        have HT := Lib.hid (HBad.out (by rw [HStep.out, hzi]; rfl))
        clear hzi hbel hz
        go_wp2
        refine wp_region_quiet_lit (by kernel_rfl) (by kernel_rfl) ?_
        repeat (go_big_quiet_step (fail))
        go_big_quiet_step ((go_at_call 59; exact quiet_same (inR_is HZ.out _)))
        repeat (go_big_quiet_step (fail))
        refine wpQuiet_nil ?_
        intro _ hw'
        obtain ⟨nq, hw''⟩ := hw'
        subst hw''
        go_wp2
        go_ret
        exact ⟨ret_bool HT.out.symm, below_drewN HBEL.out _⟩
      have HZ := Lib.hid hzi
      have hz2 := inB_t hzi
      obtain ⟨t, rfl⟩ := Int.eq_ofNat_of_zero_le hz2.1
      have htn : t < n := by omega
      have hpb := plF_bd (l := order.take k) (z := (t : Int))
      cases hmq : memB (order.take k) (t : Int)
      case true =>
        have hpg : 0 ≤ plF (order.take k) (t : Int) := plF_ge.2 hmq
        have HT := Lib.hid (HBad.out (by rw [HStep.out, hzi, hmq]; rfl))
        have HPL : Hid (∀ m : Nat, Calls Try.prog 103 #[.slice (some ⟨b3, off3, none⟩) k co, .int .i64 (t : Int)] (wr.drewN m) fun e w'' => e = .returned (.int .i64 (plF (order.take k) (t : Int))) ∧ wr.drewN m = w'') := Lib.hid fun m => HPl.out _ (below_drewN hbel m) t
        clear hzi hbel hz hmq hz2
        generalize plF (order.take k) (t : Int) = P at *
        go_wp2
        refine wp_region_quiet_lit (by kernel_rfl) (by kernel_rfl) ?_
        repeat (go_big_quiet_step (fail))
        go_big_quiet_step ((go_at_call 59; exact quiet_same (inR_is HZ.out _)))
        repeat (go_big_quiet_step (fail))
        go_big_quiet_step ((go_at_call 103; exact quiet_same (HPL.out _)))
        repeat (go_big_quiet_step (fail))
        refine wpQuiet_nil ?_
        intro _ hw'
        obtain ⟨nq, hw''⟩ := hw'
        subst hw''
        go_wp2
        go_ret
        exact ⟨ret_bool HT.out.symm, below_drewN HBEL.out _⟩
      case false =>
        have hpg : ¬ 0 ≤ plF (order.take k) (t : Int) := by rw [plF_ge, hmq]; simp
        have hpg2 : plF (order.take k) (t : Int) < 0 := by omega
        have HPL : Hid (∀ m : Nat, Calls Try.prog 103 #[.slice (some ⟨b3, off3, none⟩) k co, .int .i64 (t : Int)] (wr.drewN m) fun e w'' => e = .returned (.int .i64 (plF (order.take k) (t : Int))) ∧ wr.drewN m = w'') := Lib.hid fun m => HPl.out _ (below_drewN hbel m) t
        obtain ⟨b1, off, x, y, rfl, hb1, hzc, hc, hc2⟩ := (hr.below hbel).cake_ (k := t) (by rw [HL.out]; exact htn)
        have Hct : Hid (cAt cs t = (x, y)) := Lib.hid (cAt_get hzc.out)
        have hon := HON.out t htn
        rw [Hct.out] at hon
        obtain ⟨y1, y2⟩ := hon
        simp only at y1 y2
        have HSt : Hid (∀ hq, heldTo b cs (order.take k) (x, y) n = hq → stepB b cs (order.take k) (t : Int) = !hq) := Lib.hid fun hq h2 => by rw [HStep.out, hzi, hmq, Int.toNat_natCast, Hct.out, h2]; rfl
        clear hzi hbel hz hmq hz2 hzc hc hc2 hcz
        have hcz : wr.cell? ⟨b3, off3 + k, none⟩ = some (.int .i64 (t : Int)) := by
          obtain ⟨b5, off5, z5, e5, _, h5, h6⟩ := (hro.below HBEL.out).int_ (k := k) (by rw [HLO.out]; exact hlt)
          injection e5 with e5
          injection e5 with q1 q2
          subst q1 q2
          have : z5 = (t : Int) := by have h7 := Hat.out; unfold at_ at h7; rw [List.getD_eq_getElem?_getD, h5.out] at h7; exact h7
          rw [this] at h6
          exact h6
        generalize plF (order.take k) (t : Int) = P at *
        go_wp2
        refine wp_region_quiet_lit (by kernel_rfl) (by kernel_rfl) ?_
        repeat (go_big_quiet_step (fail))
        go_big_quiet_step ((go_at_call 59; exact quiet_same (inR_is HZ.out _)))
        repeat (go_big_quiet_step (fail))
        go_big_quiet_step ((go_at_call 103; exact quiet_same (HPL.out _)))
        repeat (go_big_quiet_step (fail))
        refine wpQuiet_nil ?_
        intro _ hw'
        obtain ⟨nq, hw''⟩ := hw'
        subst hw''
        have HBEQ : Hid (Below w.heap.size w (wr.drewN nq)) := Lib.hid (below_drewN HBEL.out nq)
        generalize hwq : wr.drewN nq = wq at *
        clear hwq hcz HPL
        go_wp2
        go_loopw [8] (fun i wi => ∃ j : Nat, j ≤ n ∧ i = .int .i64 j ∧ heldTo b cs (order.take k) (x, y) j = false ∧ Below w.heap.size w wi) (fun i _ => n - (intOf i).toNat)
        case atStart => exact ⟨0, Nat.zero_le _, rfl, rfl, HBEQ.out⟩
        case round =>
          clear HBEQ
          obtain ⟨j, hj, rfl, hno, hbi⟩ := hrel
          have HNO := Lib.hid hno
          have HBI := Lib.hid hbi
          have hszi := hbi.size
          clear hno
          by_cases hjt : j < n
          · obtain ⟨b5, off5, z5, e5, _, h5, h6⟩ := (hro.below hbi).int_ (k := k) (by rw [HLO.out]; exact hlt)
            injection e5 with e5
            injection e5 with q1 q2
            subst q1 q2
            obtain rfl : z5 = (t : Int) := by have h7 := Hat.out; unfold at_ at h7; rw [List.getD_eq_getElem?_getD, h5.out] at h7; exact h7
            obtain ⟨b2, off2, x2, y2', e6, _, h7, h8, h9⟩ := (hr.below hbi).cake_ (k := t) (by rw [HL.out]; exact htn)
            injection e6 with e6
            injection e6 with q1 q2
            subst q1 q2
            obtain ⟨rfl, rfl⟩ : x2 = x ∧ y2' = y := by have h1 := Hct.out; rw [cAt_get h7.out] at h1; injection h1 with h1 h2; exact ⟨h1, h2⟩
            obtain ⟨b4, off4, u, v, e7, _, h10, h11, h12⟩ := (hr.below hbi).cake_ (k := j) (by rw [HL.out]; exact hjt)
            injection e7 with e7
            injection e7 with q1 q2
            subst q1 q2
            have hon2 := HON.out j hjt
            rw [cAt_get h10.out] at hon2
            have HOV : Hid (blkB b (x2, y2') (cAt cs j) = blkB b (x2, y2') (u, v)) := Lib.hid (by rw [cAt_get h10.out])
            have HNext : Hid ((!memB (order.take k) (j : Int) && blkB b (x2, y2') (cAt cs j)) = false → heldTo b cs (order.take k) (x2, y2') (j + 1) = false) := Lib.hid fun h => by rw [heldTo_succ, HNO.out, h]; rfl
            have HHit : Hid ((!memB (order.take k) (j : Int) && blkB b (x2, y2') (cAt cs j)) = true → R = false) := Lib.hid fun h => HBad.out (by rw [HSt.out _ (heldTo_hit hjt h)]; rfl)
            have k1 := cell_regrown h6
            have k2 := cell_regrown h8
            have k3 := cell_regrown h9
            have k4 := cell_regrown h11
            have k5 := cell_regrown h12
            have hpb2 := plF_bd (l := order.take k) (z := (j : Int))
            have cPl : ∀ d os, Calls Try.prog 103 #[.slice (some ⟨b3, off3, none⟩) k co, .int .i64 (j : Int)] (Go.Sort.grow (redrawn wr d) os) fun e w'' => e = .returned (.int .i64 (plF (order.take k) (j : Int))) ∧ ∃ p : Regrown, w'' = Go.Sort.grow (redrawn wr p.d) p.os := fun d os => Calls.regrown_of ((HPl.out _ (hbi.trans ((below_regrown wr d os).mono hszi)) (j : Int)).mono fun _ _ ⟨h, e⟩ => ⟨h, e ▸ Below.refl _ _⟩)
            have cBl : ∀ d os, Calls Try.prog 111 #[.agg #[.int .i64 x2, .int .i64 y2'], .agg #[.int .i64 u, .int .i64 v], .int .i64 b] (Go.Sort.grow (redrawn wr d) os) fun e w'' => e = .returned (.bool (blkB b (x2, y2') (u, v))) ∧ ∃ p : Regrown, w'' = Go.Sort.grow (redrawn wr p.d) p.os := fun d os => Calls.regrown_of (sBlocks_any x2 y2' u v b ⟨s3, s4⟩ ⟨y1, y2⟩ hon2 _)
            clear hbi h5 h6 h7 h8 h9 h10 h11 h12 hon2
            cases hmj : memB (order.take k) (j : Int)
            · have hp2 : plF (order.take k) (j : Int) < 0 := by
                have : ¬ 0 ≤ plF (order.take k) (j : Int) := by rw [plF_ge, hmj]; simp
                omega
              generalize plF (order.take k) (j : Int) = P2 at *
              cases hbq : blkB b (x2, y2') (u, v)
              · rw [hbq] at cBl
                have HT := Lib.hid (HNext.out (by rw [hmj, HOV.out, hbq]; rfl))
                clear hmj hbq
                go_wp2
                refine wp_region_quiet_below (by kernel_rfl) (by kernel_rfl) ?_
                repeat (go_big_quiet_step (first | exact cPl _ _ | exact cBl _ _))
                refine wpQuiet_nil ?_
                intro w7 hw'
                have HBw7 : Below wr.heap.size wr w7 := by obtain ⟨⟨dq, osq⟩, hq⟩ := hw'; rw [hq]; exact below_regrown _ _ _
                clear hw'
                have hb7 := HBI.out.trans (HBw7.mono hszi)
                have HB7 := Lib.hid hb7
                clear hb7 HBw7 cPl cBl k1 k2 k3 k4 k5
                go_wp2
                go_roundw
                case rel => exact ⟨j + 1, by omega, by go_num, HT.out, HB7.out⟩
                case measure => simp [intOf]; omega
              · rw [hbq] at cBl
                have HT := Lib.hid (HHit.out (by rw [hmj, HOV.out, hbq]; rfl))
                clear hmj hbq
                go_wp2
                refine wp_region_quiet_below (by kernel_rfl) (by kernel_rfl) ?_
                repeat (go_big_quiet_step (first | exact cPl _ _ | exact cBl _ _))
                refine wpQuiet_nil ?_
                intro w7 hw'
                have HBw7 : Below wr.heap.size wr w7 := by obtain ⟨⟨dq, osq⟩, hq⟩ := hw'; rw [hq]; exact below_regrown _ _ _
                clear hw'
                have hb7 := HBI.out.trans (HBw7.mono hszi)
                have HB7 := Lib.hid hb7
                clear hb7 HBw7 cPl cBl k1 k2 k3 k4 k5
                go_wp2
                go_ret
                exact ⟨ret_bool HT.out.symm, HB7.out⟩
            · have hp2 : 0 ≤ plF (order.take k) (j : Int) := plF_ge.2 hmj
              have hp3 : decide (plF (order.take k) (j : Int) < 0) = false := decide_eq_false (by omega)
              generalize plF (order.take k) (j : Int) = P2 at *
              have HT := Lib.hid (HNext.out (by rw [hmj]; rfl))
              clear hmj cBl
              go_wp2
              refine wp_region_quiet_below (by kernel_rfl) (by kernel_rfl) ?_
              repeat (go_big_quiet_step (first | exact cPl _ _))
              refine wpQuiet_nil ?_
              intro w7 hw'
              have HBw7 : Below wr.heap.size wr w7 := by obtain ⟨⟨dq, osq⟩, hq⟩ := hw'; rw [hq]; exact below_regrown _ _ _
              clear hw'
              have hb7 := HBI.out.trans (HBw7.mono hszi)
              have HB7 := Lib.hid hb7
              clear hb7 HBw7 cPl k1 k2 k3 k4 k5
              go_wp2
              go_roundw
              case rel => exact ⟨j + 1, by omega, by go_num, HT.out, HB7.out⟩
              case measure => simp [intOf]; omega
          · obtain rfl : j = n := by omega
            have HT := Lib.hid (HGood.out (by rw [HSt.out _ HNO.out]; rfl))
            clear hbi
            go_wp2
            go_roundw
            case rel => exact ⟨k + 1, by omega, by go_num, HT.out, HBI.out⟩
            case measure => simp [intOf]; omega
    · obtain rfl : k = m := by omega
      have HT : Hid (R = decide (k = n)) := Lib.hid (by rw [HF.out, HVF.out, Bool.and_true])
      clear hbel
      by_cases hmn : k = n
      · have e : ((k : Int) == (n : Int)) = true := beq_iff_eq.2 (by omega)
        go_wp2
        go_ret
        exact ⟨ret_bool (by rw [HT.out]; simp [hmn]), HBEL.out⟩
      · have e : ((k : Int) == (n : Int)) = false := beq_eq_false_iff_ne.2 (by omega)
        go_wp2
        go_ret
        exact ⟨ret_bool (by rw [HT.out]; simp [hmn]), HBEL.out⟩
set_option maxRecDepth 100000 in
set_option maxHeartbeats 400000 in
theorem sFloat_any (n m : Nat) (hn : n ≤ 1048576) (hm : m ≤ 1048576) (cs : List (Int × Int)) (order : List Int) (hl : cs.length = n) (hlo : order.length = m) (A Ao : Option Addr) (c co : Nat) (hcap : m ≤ co ∧ co ≤ maxLen) (w : World) (hr : Rd w w.heap.size A (cakeV cs)) (hro : Rd w w.heap.size Ao (ints order)) (a b : Int) :
    Calls Try.prog 36 #[.slice A n c, .int .i64 a, .int .i64 b, .slice Ao m co] w fun e w' => e = .returned (.bool (vfT a b cs order)) ∧ Below w.heap.size w w' := by
  cases hv : cakesB a b cs
  · have HF : Hid (vfT a b cs order = false) := Lib.hid (by unfold vfT; rw [hv]; rfl)
    have HC := Lib.hid (sVC_is n hn cs hl A c w _ hr a b hv)
    clear hv hl hlo
    go_enter Try.func36, Try.ntmps36
    go_wp2_with fail
    refine (HC.out).mono ?_
    rintro e w' ⟨rfl, q, rfl⟩
    go_wp2
    go_ret
    exact ⟨ret_bool HF.out.symm, below_drewN (Below.refl _ _) _⟩
  · have HF : Hid (vfT a b cs order = vfB b cs order) := Lib.hid (by unfold vfT; rw [hv]; rfl)
    have HC := Lib.hid (sVC_is n hn cs hl A c w _ hr a b hv)
    have HN : Hid (∀ q : Nat, Calls Try.prog 76 #[.slice A n c, .int .i64 b, .slice Ao m co] (w.drewN q) fun e w' => e = .returned (.bool (vfB b cs order)) ∧ Below (w.drewN q).heap.size (w.drewN q) w') := Lib.hid fun q => sFloatN_any n m hn hm cs order hl hlo A Ao c co hcap (w.drewN q) (hr.drewN q) (hro.drewN q) a b hv
    clear hv hl hlo
    go_enter Try.func36, Try.ntmps36
    go_wp2_with fail
    refine (HC.out).mono ?_
    rintro e w' ⟨rfl, q, rfl⟩
    go_wp2_with fail
    refine (HN.out q).mono ?_
    rintro e w2 ⟨rfl, b2⟩
    have hb2 : Below w.heap.size w w2 := (below_drewN (Below.refl _ _) q).trans b2
    go_wp2
    go_ret
    exact ⟨ret_bool HF.out.symm, hb2⟩

end Go.Proofs.Ytjjddamblijffab

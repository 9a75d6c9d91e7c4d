/- Contracts of chapter 3: in how many orders cakes can float out, the model. -/
import Derived.Lib.QuietBelow
import Derived.Test.YtjjddamblijffabCCount
namespace Go.Proofs.Ytjjddamblijffab
open Go.RowKit
set_option linter.unusedVariables false
set_option linter.unusedSimpArgs false
set_option maxRecDepth 100000 in
set_option maxHeartbeats 1000000 in
theorem sCopyL_any (n : Nat) (row : List Int) (hl : row.length = n) (h9 : n ≤ 1000) (b c : Nat) (w : World) (hb : b < w.heap.size) (hr : Rd w w.heap.size (some ⟨b, 0, none⟩) (ints row)) :
    Calls Try.prog 86 #[.slice (some ⟨b, 0, none⟩) n c] w fun e w' => ∃ g c', e = .returned (.slice (some ⟨g, 0, none⟩) n c') ∧ w'.ownsRow w.heap.size 3 1 (.slice (some ⟨g, 0, none⟩) n c') n (ints row) ∧ Below w.heap.size w w' := by
  obtain ⟨i0, hi, hz0, hz1, hz2⟩ := info_parts info_int
  have hown := own_empty w 3
  have HL := Lib.hid hl
  have HR := Lib.hid hr
  clear hl hr
  go_enter Try.func86, Try.ntmps86
  go_wp2_with (at_builtin; refine wpList_append_own _ rfl _ _ 23 rfl (w.heap.size) 3 i0 (.int .i64 0) 1 8 Try.underlying23 hi hz0 hz1 hz2 rfl (by decide) _ _ _ rfl hown ⟨b, 0, none⟩ n c (ints row) rfl ?c0 ?c1 ?c2 ?c3 ?c4 ?c5 ?_)
  case c0 => rw [ints_length, HL.out]; omega
  case c1 =>
    intro j u hu
    rw [Addr.add_lit]
    obtain ⟨b', off', e, _, hc⟩ := HR.out.at_ hu
    injection e with e
    injection e with e1 e2
    subst e1 e2
    exact (World.cell?_alloc_lt w _ _ hb).trans hc
  case c2 =>
    intro v hv
    rw [ints, List.mem_map] at hv
    obtain ⟨z, _, rfl⟩ := hv
    rfl
  case c3 => unfold maxLen; omega
  case c4 => omega
  case c5 => simp
  · intro v' w5 hown' hgrow hnil
    have hob := own_block hown
    have hown2 : w5.ownsRow w.heap.size 3 1 v' n (ints row) := by simpa using hown'
    have hb5 : Below w.heap.size w w5 := ((Below.refl _ _).alloc (Nat.le_refl _) (.cells #[] 3)).grown hgrow (by simp) hob
    have hv : ∃ g c', v' = .slice (some ⟨g, 0, none⟩) n c' := by
      rcases hown2.2 with ⟨h1, h2⟩ | ⟨g, cap, cur, h1, _⟩
      · exact (hnil h1).elim
      · exact ⟨g, cap, h1⟩
    obtain ⟨g', c', rfl⟩ := hv
    have HP := Lib.hid (And.intro hown2 hb5)
    clear hown' hgrow hown2 hb5 hnil
    go_wp2
    go_ret
    exact ⟨g', c', rfl, HP.out.1, HP.out.2⟩
set_option maxRecDepth 100000 in
set_option maxRecDepth 100000 in
set_option maxHeartbeats 4000000 in
theorem sOrders_any (n : Nat) (hn : n ≤ 6) (cs : List (Int × Int)) (hl : cs.length = n) (A : Option Addr) (c base : Nat) (b : Int) (hb : 1 ≤ b ∧ b ≤ 4) (hon : ∀ j, j < n → 0 ≤ (cAt cs j).2 ∧ (cAt cs j).2 ≤ 9) :
    ∀ (f m : Nat), f + m = n → ∀ (l : List Int), l.length = m → ∀ (g cg : Nat) (w : World), base ≤ w.heap.size → g < w.heap.size → Rd w base A (cakeV cs) → Rd w w.heap.size (some ⟨g, 0, none⟩) (ints l) →
    Calls Try.prog 91 #[.slice A n c, .int .i64 b, .slice (some ⟨g, 0, none⟩) m cg] w fun e w' => e = .returned (.int .i64 (cntO b cs f l)) ∧ Below w.heap.size w w' := by
  intro f
  induction f with
  | zero =>
    intro m hfm l hlm g cg w h1 h2 hr hrl
    obtain rfl : m = n := by omega
    clear hr hrl
    go_enter Try.func91, Try.ntmps91
    go_wp2
    go_ret
    exact ⟨rfl, Below.refl _ _⟩
  | succ f ih =>
    intro m hfm l hlm g cg w h1 h2 hr hrl
    have IH := Lib.hid ih
    clear ih
    obtain ⟨hb1, hb2⟩ := hb
    have HON := Lib.hid hon
    have HL := Lib.hid hl
    have HLM := Lib.hid hlm
    have HTot : Hid (cntO b cs (f + 1) l = cntS b cs f l n) := Lib.hid (by unfold cntS; rw [← hl]; rfl)
    have HSB : Hid (∀ k : Nat, k ≤ 6 → 0 ≤ cntS b cs f l k ∧ cntS b cs f l k ≤ 46656 * (k : Int)) := Lib.hid fun k hk => cntS_6 (by omega) (by omega) l k hk
    have HOB : Hid (∀ l', 0 ≤ cntO b cs f l' ∧ cntO b cs f l' ≤ 46656) := Lib.hid fun l' => cntO_6 (by omega) (by omega) l'
    have HFr : Hid (∀ k, freeB b cs l k = (!memB l (k : Int) && !heldTo b cs l (cAt cs k) n)) := Lib.hid fun k => by unfold freeB; rw [hl]
    have HRD := Lib.hid hr
    have HRL := Lib.hid hrl
    have HFM : Hid (f + (m + 1) = n) := Lib.hid (by omega)
    have hmn : m < n := by omega
    have e0 : ((m : Int) == (n : Int)) = false := beq_eq_false_iff_ne.2 (by omega)
    have HPl : Hid (∀ w', Below w.heap.size w w' → ∀ y, Calls Try.prog 103 #[.slice (some ⟨g, 0, none⟩) m cg, .int .i64 y] w' fun e w'' => e = .returned (.int .i64 (plF l y)) ∧ w' = w'') := Lib.hid fun w' hb y => sPlace_any m (by omega) l hlm _ cg w' _ (hrl.below hb) y
    generalize cntO b cs (f + 1) l = TOT at *
    have hf5 : f ≤ 5 := by omega
    obtain ⟨i0, hi, hz0, hz1, hz2⟩ := info_parts info_int
    clear hon hl hlm hr hrl hfm
    go_enter Try.func91, Try.ntmps91
    go_wp2
    go_loopw [7, 8] (fun s i wr => ∃ k : Nat, k ≤ n ∧ i = .int .i64 k ∧ s = .int .i64 (cntS b cs f l k) ∧ Below w.heap.size w wr) (fun _ i _ => n - (intOf i).toNat)
    case atStart => exact ⟨0, Nat.zero_le _, rfl, by simp [cntS], Below.refl _ _⟩
    case round =>
      obtain ⟨i, hi', rfl, rfl, hbel⟩ := hrel
      have HBEL := Lib.hid hbel
      have hsz := hbel.size
      have hsk := HSB.out i (by omega)
      by_cases hlt : i < n
      · obtain ⟨b1, off, x, y, rfl, hb1', hz, hc, hc2⟩ := (HRD.out.below (hbel.mono h1)).cake_ (k := i) (by rw [HL.out]; exact hlt)
        have Hct : Hid (cAt cs i = (x, y)) := Lib.hid (cAt_get hz.out)
        have hon := HON.out i hlt
        rw [Hct.out] at hon
        obtain ⟨y1, y2⟩ := hon
        simp only at y1 y2
        have HS : Hid (∀ q : Bool, freeB b cs l i = q → cntS b cs f l (i + 1) = cntS b cs f l i + (if q = true then cntO b cs f (l ++ [(i : Int)]) else 0)) := Lib.hid fun q h => by rw [cntS_succ, h]
        have hpb := plF_bd (l := l) (z := (i : Int))
        have hcall := HPl.out wr hbel (i : Int)
        have hmem : ∃ q0, q0 = !memB l (i : Int) ∧ decide (plF l (i : Int) < 0) = q0 := by
          refine ⟨_, rfl, ?_⟩
          have h5 := plF_ge (l := l) (z := (i : Int))
          cases hq : memB l (i : Int)
          · rw [hq] at h5
            exact decide_eq_true (by have : ¬ 0 ≤ plF l (i : Int) := fun h => by have := h5.1 h; cases this
                                     omega)
          · rw [hq] at h5
            exact decide_eq_false (by have := h5.2 rfl; omega)
        obtain ⟨q0, hq0, hd0⟩ := hmem
        have HQ0 := Lib.hid hq0
        clear hbel hz hc hc2 hq0
        generalize hS0 : cntS b cs f l i = S0 at *
        clear hS0
        generalize plF l (i : Int) = P at *
        go_wp2_with fail
        refine hcall.mono ?_
        rintro e w4 ⟨rfl, rfl⟩
        clear hcall
        cases q0
        all_goals
          go_wp2
          go_loopw [9, 10] (fun fr j wi => ∃ (j' : Nat) (q : Bool), j' ≤ n ∧ j = .int .i64 j' ∧ fr = .bool q ∧ q = (!memB l (i : Int) && !heldTo b cs l (x, y) j') ∧ Below w.heap.size w wi) (fun _ j _ => n - (intOf j).toNat)
          case atStart => exact ⟨0, _, Nat.zero_le _, rfl, rfl, by rw [← HQ0.out]; rfl, HBEL.out⟩
          case round =>
            clear HBEL hsz
            obtain ⟨j, q, hj, rfl, rfl, hqe, hbi⟩ := hrel
            have HQE := Lib.hid hqe
            have HBI := Lib.hid hbi
            have hszi := hbi.size
            clear hqe
            by_cases hjt : j < n
            · obtain ⟨b2, off2, x2, y2', e6, _, h7, h8, h9⟩ := (HRD.out.below (hbi.mono h1)).cake_ (k := i) (by rw [HL.out]; exact hlt)
              injection e6 with e6
              injection e6 with q1 q2
              subst q1 q2
              obtain ⟨rfl, rfl⟩ : x2 = x ∧ y2' = y := by have h1 := Hct.out; rw [cAt_get h7.out] at h1; injection h1 with h1 h2; exact ⟨h1, h2⟩
              obtain ⟨b4, off4, u, v, e7, _, h10, h11, h12⟩ := (HRD.out.below (hbi.mono h1)).cake_ (k := j) (by rw [HL.out]; exact hjt)
              injection e7 with e7
              injection e7 with q1 q2
              subst q1 q2
              have hon2 := HON.out j hjt
              rw [cAt_get h10.out] at hon2
              have HOV : Hid (blkB b (x2, y2') (cAt cs j) = blkB b (x2, y2') (u, v)) := Lib.hid (by rw [cAt_get h10.out])
              have HNext : Hid (heldTo b cs l (x2, y2') (j + 1) = (heldTo b cs l (x2, y2') j || (!memB l (j : Int) && blkB b (x2, y2') (u, v)))) := Lib.hid (by rw [heldTo_succ, HOV.out])
              have k2 := cell_regrown h8
              have k3 := cell_regrown h9
              have k4 := cell_regrown h11
              have k5 := cell_regrown h12
              have hpb2 := plF_bd (l := l) (z := (j : Int))
              have cPl : ∀ d os, Calls Try.prog 103 #[.slice (some ⟨g, 0, none⟩) m cg, .int .i64 (j : Int)] (Go.Sort.grow (redrawn wr d) os) fun e w'' => e = .returned (.int .i64 (plF l (j : Int))) ∧ ∃ p : Regrown, w'' = Go.Sort.grow (redrawn wr p.d) p.os := fun d os => Calls.regrown_of ((HPl.out _ (hbi.trans ((below_regrown wr d os).mono hszi)) (j : Int)).mono fun _ _ ⟨h, e⟩ => ⟨h, e ▸ Below.refl _ _⟩)
              have cBl : ∀ d os, Calls Try.prog 111 #[.agg #[.int .i64 x2, .int .i64 y2'], .agg #[.int .i64 u, .int .i64 v], .int .i64 b] (Go.Sort.grow (redrawn wr d) os) fun e w'' => e = .returned (.bool (blkB b (x2, y2') (u, v))) ∧ ∃ p : Regrown, w'' = Go.Sort.grow (redrawn wr p.d) p.os := fun d os => Calls.regrown_of (sBlocks_any x2 y2' u v b ⟨hb1, hb2⟩ ⟨y1, y2⟩ hon2 _)
              clear hbi h7 h8 h9 h10 h11 h12 hon2
              cases q
              · have HT : Hid (false = (!memB l (i : Int) && !heldTo b cs l (x2, y2') (j + 1))) := Lib.hid (by
                  have h5 := HQE.out
                  rw [HNext.out]
                  cases hA : memB l (i : Int)
                  · rw [hA] at h5
                    cases hB : heldTo b cs l (x2, y2') j
                    · rw [hB] at h5; cases h5
                    · rfl
                  · rfl)
                clear cPl cBl k2 k3 k4 k5
                go_wp2
                refine wp_region_quiet_below (by kernel_rfl) (by kernel_rfl) ?_
                repeat (go_big_quiet_step (fail))
                refine wpQuiet_nil ?_
                intro w7 hw'
                have HBw7 : Below wr.heap.size wr w7 := by obtain ⟨⟨dq, osq⟩, hq⟩ := hw'; rw [hq]; exact below_regrown _ _ _
                clear hw'
                have hb7 := HBI.out.trans (HBw7.mono hszi)
                have HB7 := Lib.hid hb7
                clear hb7 HBw7
                go_wp2
                go_roundw
                case rel => exact ⟨j + 1, false, by omega, by go_num, rfl, HT.out, HB7.out⟩
                case measure => simp [intOf]; omega
              · have HP2 : Hid (memB l (i : Int) = false ∧ heldTo b cs l (x2, y2') j = false) := Lib.hid (by
                  have h5 := HQE.out
                  cases hA : memB l (i : Int)
                  · rw [hA] at h5
                    cases hB : heldTo b cs l (x2, y2') j
                    · exact ⟨rfl, rfl⟩
                    · rw [hB] at h5; cases h5
                  · rw [hA] at h5; cases h5)
                cases hmj : memB l (j : Int)
                · have hp2 : ¬ 0 ≤ plF l (j : Int) := by rw [plF_ge, hmj]; simp
                  have hp3 : decide (0 ≤ plF l (j : Int)) = false := decide_eq_false hp2
                  cases hbq : blkB b (x2, y2') (u, v)
                  · rw [hbq] at cBl
                    have HT : Hid (true = (!memB l (i : Int) && !heldTo b cs l (x2, y2') (j + 1))) := Lib.hid (by rw [HNext.out, HP2.out.1, HP2.out.2, hmj, hbq]; rfl)
                    clear hmj hbq
                    generalize plF l (j : Int) = P2 at *
                    go_wp2
                    refine wp_region_quiet_below (by kernel_rfl) (by kernel_rfl) ?_
                    repeat (go_big_quiet_step (first | exact cPl _ _ | exact cBl _ _))
                    refine wpQuiet_nil ?_
                    intro w7 hw'
                    have HBw7 : Below wr.heap.size wr w7 := by obtain ⟨⟨dq, osq⟩, hq⟩ := hw'; rw [hq]; exact below_regrown _ _ _
                    clear hw'
                    have hb7 := HBI.out.trans (HBw7.mono hszi)
                    have HB7 := Lib.hid hb7
                    clear hb7 HBw7 cPl cBl k2 k3 k4 k5
                    go_wp2
                    go_roundw
                    case rel => exact ⟨j + 1, true, by omega, by go_num, rfl, HT.out, HB7.out⟩
                    case measure => simp [intOf]; omega
                  · rw [hbq] at cBl
                    have HT : Hid (false = (!memB l (i : Int) && !heldTo b cs l (x2, y2') (j + 1))) := Lib.hid (by rw [HNext.out, HP2.out.1, HP2.out.2, hmj, hbq]; rfl)
                    clear hmj hbq
                    generalize plF l (j : Int) = P2 at *
                    go_wp2
                    refine wp_region_quiet_below (by kernel_rfl) (by kernel_rfl) ?_
                    repeat (go_big_quiet_step (first | exact cPl _ _ | exact cBl _ _))
                    refine wpQuiet_nil ?_
                    intro w7 hw'
                    have HBw7 : Below wr.heap.size wr w7 := by obtain ⟨⟨dq, osq⟩, hq⟩ := hw'; rw [hq]; exact below_regrown _ _ _
                    clear hw'
                    have hb7 := HBI.out.trans (HBw7.mono hszi)
                    have HB7 := Lib.hid hb7
                    clear hb7 HBw7 cPl cBl k2 k3 k4 k5
                    go_wp2
                    go_roundw
                    case rel => exact ⟨j + 1, false, by omega, by go_num, rfl, HT.out, HB7.out⟩
                    case measure => simp [intOf]; omega
                · have hp2 : 0 ≤ plF l (j : Int) := plF_ge.2 hmj
                  have HT : Hid (true = (!memB l (i : Int) && !heldTo b cs l (x2, y2') (j + 1))) := Lib.hid (by rw [HNext.out, HP2.out.1, HP2.out.2, hmj]; rfl)
                  clear hmj cBl
                  generalize plF l (j : Int) = P2 at *
                  go_wp2
                  refine wp_region_quiet_below (by kernel_rfl) (by kernel_rfl) ?_
                  repeat (go_big_quiet_step (first | exact cPl _ _))
                  refine wpQuiet_nil ?_
                  intro w7 hw'
                  have HBw7 : Below wr.heap.size wr w7 := by obtain ⟨⟨dq, osq⟩, hq⟩ := hw'; rw [hq]; exact below_regrown _ _ _
                  clear hw'
                  have hb7 := HBI.out.trans (HBw7.mono hszi)
                  have HB7 := Lib.hid hb7
                  clear hb7 HBw7 cPl k2 k3 k4 k5
                  go_wp2
                  go_roundw
                  case rel => exact ⟨j + 1, true, by omega, by go_num, rfl, HT.out, HB7.out⟩
                  case measure => simp [intOf]; omega
            · obtain rfl : j = n := by omega
              have HN := Lib.hid (HS.out q (by rw [HFr.out, Hct.out]; exact HQE.out.symm))
              clear hbi
              cases q
              · have HN2 : Hid (cntS b cs f l (i + 1) = S0) := Lib.hid (by rw [HN.out]; simp)
                go_wp2
                go_roundw
                case rel => exact ⟨i + 1, by omega, by go_num, by rw [HN2.out], HBI.out⟩
                case measure => simp [intOf]; omega
              · have HN2 : Hid (cntS b cs f l (i + 1) = S0 + cntO b cs f (l ++ [(i : Int)])) := Lib.hid (by rw [HN.out]; simp)
                have hcp := sCopyL_any m l HLM.out (by omega) g cg wr (by omega) ((HRL.out.below HBI.out).more hszi)
                go_wp2_with fail
                refine hcp.mono ?_
                rintro e w4 ⟨g4, c4, rfl, o4, b4⟩
                have hown4 := o4
                have hs4 := b4.size
                have B4 := Lib.hid b4
                clear hcp o4 b4
                go_wp2_with (at_builtin; refine wpList_append_own _ rfl _ _ 23 rfl (wr.heap.size) 3 i0 (.int .i64 0) 1 8 Try.underlying23 hi hz0 hz1 hz2 rfl (by decide) _ _ _ rfl (hown4.alloc _) ⟨w4.heap.size, 0, none⟩ 1 1 [.int .i64 (i : Nat)] rfl rfl ?c1 ?c2 ?c3 ?c4 ?c5 ?_)
                case c1 => first | exact one_new _ _ _ _ rfl | exact one_new _ _ _ _ (by simp)
                case c2 => first | rfl | (intro u hu; simp at hu; subst hu; rfl)
                case c3 => unfold maxLen; omega
                case c4 => omega
                case c5 => simp; omega
                · intro v' w5 hown' hgrow _
                  have hob := own_block hown4
                  have R : w5.ownsRow wr.heap.size 3 1 v' (m + 1) (ints (l ++ [(i : Int)])) := by simpa [ints] using hown'
                  obtain ⟨A5, c5, rfl⟩ := own_form R
                  obtain ⟨g5, rfl, hg5, hg5l, _, _⟩ := own_some R (by omega)
                  have hb5 : Below wr.heap.size wr w5 := (B4.out.alloc (by omega) (.cells #[.int .i64 (i : Nat)] 3)).grown hgrow (by simp; omega) hob
                  have hbw5 := HBI.out.trans (hb5.mono hszi)
                  have hs5 := hbw5.size
                  have hrec := IH.out (m + 1) HFM.out (l ++ [(i : Int)]) (by rw [List.length_append, HLM.out]; rfl) g5 c5 w5 (by omega) hg5l (HRD.out.below (hbw5.mono h1)) (Rd.own R)
                  have HBW5 := Lib.hid hbw5
                  have hob2 := HOB.out (l ++ [(i : Int)])
                  clear hown' hgrow hown4 R hb5 hbw5
                  go_wp2_with fail
                  refine hrec.mono ?_
                  rintro e w6 ⟨rfl, b6⟩
                  have hb6 := HBW5.out.trans (b6.mono hs5)
                  have HB6 := Lib.hid hb6
                  clear b6 hb6 hrec
                  generalize cntO b cs f (l ++ [(i : Int)]) = Q at *
                  go_wp2
                  go_roundw
                  case rel => exact ⟨i + 1, by omega, by go_num, by rw [HN2.out], HB6.out⟩
                  case measure => simp [intOf]; omega
      · obtain rfl : i = n := by omega
        clear hbel
        generalize hS0 : cntS b cs f l i = S0 at *
        clear hS0
        go_wp2
        go_ret
        exact ⟨ret_int HTot.out.symm, HBEL.out⟩
set_option maxRecDepth 100000 in
set_option maxHeartbeats 1000000 in
theorem sCount_any (n : Nat) (hn : n ≤ 1048576) (cs : List (Int × Int)) (hl : cs.length = n) (A : Option Addr) (c : Nat) (w : World) (hr : Rd w w.heap.size A (cakeV cs)) (a b : Int) :
    Calls Try.prog 48 #[.slice A n c, .int .i64 a, .int .i64 b] w fun e w' => e = .returned (.int .i64 (countT a b cs)) ∧ Below w.heap.size w w' := by
  cases hv : cakesB a b cs
  · have HF : Hid (countT a b cs = -1) := Lib.hid (by unfold countT; rw [hv, Bool.and_false]; rfl)
    have HC := Lib.hid (sVC_is n hn cs hl A c w _ hr a b hv)
    clear hv hl
    go_enter Try.func48, Try.ntmps48
    go_wp2_with fail
    refine (HC.out).mono ?_
    rintro e w' ⟨rfl, q, rfl⟩
    go_wp2
    go_ret
    exact ⟨ret_int HF.out.symm, below_drewN (Below.refl _ _) _⟩
  have HC := Lib.hid (sVC_is n hn cs hl A c w _ hr a b hv)
  by_cases h6 : 6 < n
  · have HF : Hid (countT a b cs = -1) := Lib.hid (by unfold countT; rw [hl, decide_eq_false (by omega)]; rfl)
    clear hv hl
    go_enter Try.func48, Try.ntmps48
    go_wp2_with fail
    refine (HC.out).mono ?_
    rintro e w' ⟨rfl, q, rfl⟩
    go_wp2
    go_ret
    exact ⟨ret_int HF.out.symm, below_drewN (Below.refl _ _) _⟩
  have h7 : n ≤ 6 := by omega
  obtain ⟨hs, hok⟩ := cakesB_parts hv
  obtain ⟨⟨s1, s2⟩, ⟨s3, s4⟩⟩ := sidesB_t hs
  rw [hl] at hok
  have HON : Hid (∀ j, j < n → 0 ≤ (cAt cs j).2 ∧ (cAt cs j).2 ≤ 9) := Lib.hid fun j hj => by have := onB_t (okTo_on hok hj); omega
  have HF : Hid (countT a b cs = cntO b cs n []) := Lib.hid (by unfold countT; rw [hv, hl, decide_eq_true h7]; rfl)
  have HL := Lib.hid hl
  have HRec : Hid (∀ q : Nat, Calls Try.prog 91 #[.slice A n c, .int .i64 b, .slice (some ⟨w.heap.size, 0, none⟩) 0 0] ((w.drewN q).alloc (.cells #[] 3)) fun e w' => e = .returned (.int .i64 (cntO b cs n [])) ∧ Below ((w.drewN q).alloc (.cells #[] 3)).heap.size ((w.drewN q).alloc (.cells #[] 3)) w') := Lib.hid fun q => sOrders_any n h7 cs hl A c w.heap.size b ⟨s3, s4⟩ HON.out n 0 (by omega) [] rfl w.heap.size 0 _ (by simp [World.drewN]) (by simp [World.drewN]) ((hr.drewN q).alloc (Nat.le_refl _) _) (fun h => absurd rfl h)
  clear hv hs hok hl h6
  go_enter Try.func48, Try.ntmps48
  go_wp2_with fail
  refine (HC.out).mono ?_
  rintro e w' ⟨rfl, q, rfl⟩
  go_wp2_with fail
  refine (HRec.out q).mono ?_
  rintro e w3 ⟨rfl, b3⟩
  have hb3 : Below w.heap.size w w3 := ((below_drewN (Below.refl _ _) q).alloc (Nat.le_refl _) _).trans (b3.mono (by simp [World.drewN]))
  have HB3 := Lib.hid hb3
  clear hb3 b3
  go_wp2
  go_ret
  exact ⟨ret_int HF.out.symm, HB3.out⟩

end Go.Proofs.Ytjjddamblijffab

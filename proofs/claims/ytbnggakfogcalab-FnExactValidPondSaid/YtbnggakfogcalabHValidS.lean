/- Contracts of chapter 5's model: whether a heap is valid, whatever is behind it. -/
import Derived.Test.YtbnggakfogcalabValidS
import Derived.Test.YtbnggakfogcalabHImp
namespace Go.Proofs.Ytbnggakfogcalab
open Go.RowKit
set_option linter.unusedVariables false
set_option linter.unusedSimpArgs false
theorem rowH_no {W : Nat} {r : List Int} (h : ¬(1 ≤ W ∧ W ≤ 9)) : r.length = W → rowM 12 r = false := fun e => rowM_len (by rw [e]; exact h)
theorem heapB_no {pp : List (List Int)} (h : rowsM 12 (wide pp) pp = false) : heapB pp = false := by unfold heapB gridB; rw [h, Bool.and_false]
theorem heapB_yes {pp : List (List Int)} (h : rowsM 12 (wide pp) pp = true) : heapB pp = inB (pp.length : Int) 1 9 := by
  unfold heapB gridB inB
  rw [h, Bool.and_true]
  exact decide_eq_decide.2 (by omega)
set_option maxHeartbeats 1000000 in
theorem sHeap0_any (pp : List (List Int)) (A : Option Addr) (c : Nat) (w : World) (B : Nat) (hg : RdG w B A pp) (hn : pp.length ≤ 1048576) :
    Calls Try.prog 48 #[.slice A pp.length c] w fun e w' => e = .returned (.bool (heapB pp)) ∧ ∃ n, w' = w.drewN n := by
  by_cases hz : pp = []
  · subst hz
    have H : Hid (heapB [] = inB 0 1 9) := Lib.hid rfl
    go_enter Try.func48, Try.ntmps48
    go_wp2
    refine wp_loop_rounds 1 ?_
    rw [rounds_succ]
    go_wp2_with (go_at_call 53; refine (inRange_any _ _ _ _).mono ?_; rintro e w' ⟨rfl, rfl⟩)
    go_ret
    exact ⟨ret_bool H.out.symm, 0, rfl⟩
  · have hpos := List.length_pos_iff.2 hz
    clear hz
    obtain ⟨b, off, A0, c0, rfl, h0⟩ := hg.first hpos
    have Hno := @heapB_no pp
    have Hyes := @heapB_yes pp
    generalize heapB pp = R at *
    generalize wide pp = W at *
    have HR := Lib.hid (And.intro Hno Hyes)
    clear Hno Hyes
    go_enter Try.func48, Try.ntmps48
    go_wp2
    go_loopw [3] (fun i wr => ∃ k : Nat, k ≤ pp.length ∧ i = .int .i64 k ∧ rowsM 12 W (pp.take k) = true ∧ ∃ n, wr = w.drewN n) (fun i _ => pp.length - (intOf i).toNat)
    case atStart => exact ⟨0, Nat.zero_le _, rfl, rfl, 0, rfl⟩
    case round =>
      obtain ⟨k, hk, rfl, ha, n, hwr⟩ := hrel
      have Ha := Lib.hid ha
      have hgr : RdG wr B (some ⟨b, off, none⟩) pp := by rw [hwr]; exact hg.drewN n
      have h0r : wr.cell? ⟨b, off, none⟩ = some (.slice A0 W c0) := by rw [hwr]; exact h0
      have HW := Lib.hid hwr
      clear ha hwr
      by_cases hlt : k < pp.length
      · obtain ⟨b', off', row, A', c', e, hb, hrow, hc, _, _, hr⟩ := hgr.row_ hlt
        injection e with e
        injection e with e1 e2
        subst e1 e2
        generalize hL : row.length = L at *
        have HL := Lib.hid hL
        clear hL
        cases hi : inB L 1 9
        · have Hi := Lib.hid hi
          clear hi
          go_wp2
          refine wp_region_quiet_lit (by kernel_rfl) (by kernel_rfl) ?_
          repeat (go_big_quiet_step (fail))
          go_big_quiet_step ((go_at_call 53; exact quiet_same (inR_is Hi.out _)))
          repeat (go_big_quiet_step (fail))
          refine wpQuiet_nil ?_
          intro _ hw'
          obtain ⟨nq, hw''⟩ := hw'
          subst hw''
          go_wp2
          go_ret
          exact ⟨ret_bool (HR.out.1 (rowsM_no hrow.out (fun _ => rowM_len (by rw [HL.out]; have := inB_f Hi.out; omega)))).symm, _, by rw [HW.out, drewN_add]⟩
        · have hi2 := inB_t hi
          have Hi := Lib.hid hi
          clear hi
          by_cases hLW : L = W
          · subst hLW
            have Hrb : Hid (rowM 12 row = row.all (fun z => inB z 0 12)) := Lib.hid (rowM_all (by rw [HL.out]; omega))
            have hL2 : L ≤ 1048576 := by omega
            generalize hq : row.all (fun z => inB z 0 12) = q at *
            have Hq := Lib.hid hq
            clear hq
            cases q
            · go_wp2
              refine wp_region_quiet_lit (by kernel_rfl) (by kernel_rfl) ?_
              repeat (go_big_quiet_step (fail))
              go_big_quiet_step ((go_at_call 53; exact quiet_same (inR_is Hi.out _)))
              repeat (go_big_quiet_step (fail))
              go_big_quiet_step ((go_at_call 75; exact quiet_same (allIn_is L row HL.out _ _ _ B (hr.drewN _) 0 12 hL2 Hq.out)))
              repeat (go_big_quiet_step (fail))
              refine wpQuiet_nil ?_
              intro _ hw'
              obtain ⟨nq, hw''⟩ := hw'
              subst hw''
              go_wp2
              go_ret
              exact ⟨ret_bool (HR.out.1 (rowsM_no hrow.out (fun _ => Hrb.out))).symm, _, by rw [HW.out, drewN_add]⟩
            · go_wp2
              refine wp_region_quiet_lit (by kernel_rfl) (by kernel_rfl) ?_
              repeat (go_big_quiet_step (fail))
              go_big_quiet_step ((go_at_call 53; exact quiet_same (inR_is Hi.out _)))
              repeat (go_big_quiet_step (fail))
              go_big_quiet_step ((go_at_call 75; exact quiet_same (allIn_is L row HL.out _ _ _ B (hr.drewN _) 0 12 hL2 Hq.out)))
              repeat (go_big_quiet_step (fail))
              refine wpQuiet_nil ?_
              intro _ hw'
              obtain ⟨nq, hw''⟩ := hw'
              subst hw''
              go_wp2
              go_roundw
              case rel => exact ⟨k + 1, by omega, by go_num, rowsM_snoc hrow.out Ha.out HL.out Hrb.out, _, by rw [HW.out, drewN_add]⟩
              case measure => simp [intOf]; omega
          · have hne : ¬ ((L : Int) = (W : Int)) := by omega
            have hne2 : ((L : Int) != (W : Int)) = true := bne_iff_ne.2 hne
            go_wp2
            refine wp_region_quiet_lit (by kernel_rfl) (by kernel_rfl) ?_
            repeat (go_big_quiet_step (fail))
            go_big_quiet_step ((go_at_call 53; exact quiet_same (inR_is Hi.out _)))
            repeat (go_big_quiet_step (fail))
            refine wpQuiet_nil ?_
            intro _ hw'
            obtain ⟨nq, hw''⟩ := hw'
            subst hw''
            go_wp2
            go_ret
            exact ⟨ret_bool (HR.out.1 (rowsM_no hrow.out (fun h => absurd (HL.out.symm.trans h) hLW))).symm, _, by rw [HW.out, drewN_add]⟩
      · have Hk : Hid (k = pp.length) := Lib.hid (by omega)
        go_wp2_with (go_at_call 53; refine (inRange_any _ _ _ _).mono ?_; rintro e w' ⟨rfl, rfl⟩)
        go_ret
        refine ⟨ret_bool ?_, _, HW.out⟩
        have h := Ha.out
        rw [Hk.out, List.take_length] at h
        exact (HR.out.2 h).symm
theorem sHp_is {q : Bool} (pp : List (List Int)) (A : Option Addr) (c : Nat) (w : World) (B : Nat) (hg : RdG w B A pp) (hn : pp.length ≤ 1048576) (h : heapB pp = q) :
    Calls Try.prog 48 #[.slice A pp.length c] w fun e w' => e = .returned (.bool q) ∧ ∃ n, w' = w.drewN n := by
  have := sHeap0_any pp A c w B hg hn
  rw [h] at this
  exact this

end Go.Proofs.Ytbnggakfogcalab

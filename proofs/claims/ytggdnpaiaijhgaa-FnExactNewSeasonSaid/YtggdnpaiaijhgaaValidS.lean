/- Contracts of chapter 2's model: whether a pond is valid, whatever is behind it. -/
import Derived.Test.YtggdnpaiaijhgaaValid
namespace Go.Proofs.Ytggdnpaiaijhgaa
open Go.RowKit
set_option linter.unusedVariables false
set_option linter.unusedSimpArgs false
theorem allIn_n (n : Nat) (zs : List Int) (hn : zs.length = n) (A : Option Addr) (c : Nat) (w : World) (B : Nat) (hr : Rd w B A (ints zs)) (a b : Int) (hm : n ≤ 1048576) :
    Calls Try.prog 85 #[.slice A n c, .int .i64 a, .int .i64 b] w fun e w' => e = .returned (.bool (zs.all (fun z => inB z a b))) ∧ w = w' := by
  subst hn
  exact allIn_any _ _ _ _ _ hr _ _ hm
theorem allIn_is {q : Bool} (n : Nat) (zs : List Int) (hn : zs.length = n) (A : Option Addr) (c : Nat) (w : World) (B : Nat) (hr : Rd w B A (ints zs)) (a b : Int) (hm : n ≤ 1048576) (h : zs.all (fun z => inB z a b) = q) :
    Calls Try.prog 85 #[.slice A n c, .int .i64 a, .int .i64 b] w fun e w' => e = .returned (.bool q) ∧ w = w' := by
  have := allIn_n n zs hn A c w B hr a b hm
  rw [h] at this
  exact this
theorem rowB_no {W : Nat} {r : List Int} (h : ¬(1 ≤ W ∧ W ≤ 9)) : r.length = W → rowB r = false := fun e => rowB_len (by rw [e]; exact h)
theorem pondB_no {pp : List (List Int)} (h : rowsB (wide pp) pp = false) : pondB pp = false := by unfold pondB; rw [h, Bool.and_false]
theorem pondB_yes {pp : List (List Int)} (h : rowsB (wide pp) pp = true) : pondB pp = inB (pp.length : Int) 1 9 := by
  unfold pondB inB
  rw [h, Bool.and_true]
  exact decide_eq_decide.2 (by omega)
theorem inR_is {n a b : Int} {q : Bool} (h : inB n a b = q) (w : World) :
    Calls Try.prog 61 #[.int .i64 n, .int .i64 a, .int .i64 b] w fun e w' => e = .returned (.bool q) ∧ w = w' := by
  have := inRange_any n a b w
  rw [h] at this
  exact this
set_option maxRecDepth 100000 in
set_option maxHeartbeats 1000000 in
theorem sValid_any (pp : List (List Int)) (A : Option Addr) (c : Nat) (w : World) (B : Nat) (hg : RdG w B A pp) (hn : pp.length ≤ 1048576) :
    Calls Try.prog 60 #[.slice A pp.length c] w fun e w' => e = .returned (.bool (pondB pp)) ∧ ∃ n, w' = w.drewN n := by
  by_cases hz : pp = []
  · subst hz
    have H : Hid (pondB [] = inB 0 1 9) := Lib.hid rfl
    go_enter Try.func60, Try.ntmps60
    go_wp2
    refine wp_loop_rounds 1 ?_
    rw [rounds_succ]
    go_wp2_with (go_at_call 61; refine (inRange_any _ _ _ _).mono ?_; rintro e w' ⟨rfl, rfl⟩)
    go_ret
    exact ⟨ret_bool H.out.symm, 0, rfl⟩
  · have hpos := List.length_pos_iff.2 hz
    clear hz
    obtain ⟨b, off, A0, c0, rfl, h0⟩ := hg.first hpos
    have Hno := @pondB_no pp
    have Hyes := @pondB_yes pp
    generalize pondB pp = R at *
    generalize wide pp = W at *
    have HR := Lib.hid (And.intro Hno Hyes)
    clear Hno Hyes
    go_enter Try.func60, Try.ntmps60
    go_wp2
    go_loopw [3] (fun i wr => ∃ k : Nat, k ≤ pp.length ∧ i = .int .i64 k ∧ rowsB W (pp.take k) = true ∧ ∃ n, wr = w.drewN n) (fun i _ => pp.length - (intOf i).toNat)
    case atStart => exact ⟨0, Nat.zero_le _, rfl, rfl, 0, rfl⟩
    case round =>
      obtain ⟨k, hk, rfl, ha, n, hwr⟩ := hrel
      have Ha := Lib.hid ha
      have hgr : RdG wr B (some ⟨b, off, none⟩) pp := by rw [hwr]; exact hg.drewN n
      have h0r : wr.cell? ⟨b, off, none⟩ = some (.slice A0 W c0) := by rw [hwr]; exact h0
      have HW := Lib.hid hwr
      clear ha hwr
      by_cases hlt : k < pp.length
      · obtain ⟨b', off', row, A', c', e, hb, hrow, hc, _, _, hr⟩ := hgr.row_ hlt
        injection e with e
        injection e with e1 e2
        subst e1 e2
        generalize hL : row.length = L at *
        have HL := Lib.hid hL
        clear hL
        cases hi : inB L 1 9
        · have Hi := Lib.hid hi
          clear hi
          go_wp2
          refine wp_region_quiet_lit (by kernel_rfl) (by kernel_rfl) ?_
          repeat (go_big_quiet_step (fail))
          go_big_quiet_step ((go_at_call 61; exact quiet_same (inR_is Hi.out _)))
          repeat (go_big_quiet_step (fail))
          refine wpQuiet_nil ?_
          intro _ hw'
          obtain ⟨nq, hw''⟩ := hw'
          subst hw''
          go_wp2
          go_ret
          exact ⟨ret_bool (HR.out.1 (rowsB_no hrow.out (fun _ => rowB_len (by rw [HL.out]; have := inB_f Hi.out; omega)))).symm, _, by rw [HW.out, drewN_add]⟩
        · have hi2 := inB_t hi
          have Hi := Lib.hid hi
          clear hi
          by_cases hLW : L = W
          · subst hLW
            have Hrb : Hid (rowB row = row.all (fun z => inB z 0 999)) := Lib.hid (rowB_all (by rw [HL.out]; omega))
            have hL2 : L ≤ 1048576 := by omega
            generalize hq : row.all (fun z => inB z 0 999) = q at *
            have Hq := Lib.hid hq
            clear hq
            cases q
            · go_wp2
              refine wp_region_quiet_lit (by kernel_rfl) (by kernel_rfl) ?_
              repeat (go_big_quiet_step (fail))
              go_big_quiet_step ((go_at_call 61; exact quiet_same (inR_is Hi.out _)))
              repeat (go_big_quiet_step (fail))
              go_big_quiet_step ((go_at_call 85; exact quiet_same (allIn_is L row HL.out _ _ _ B (hr.drewN _) 0 999 hL2 Hq.out)))
              repeat (go_big_quiet_step (fail))
              refine wpQuiet_nil ?_
              intro _ hw'
              obtain ⟨nq, hw''⟩ := hw'
              subst hw''
              go_wp2
              go_ret
              exact ⟨ret_bool (HR.out.1 (rowsB_no hrow.out (fun _ => Hrb.out))).symm, _, by rw [HW.out, drewN_add]⟩
            · go_wp2
              refine wp_region_quiet_lit (by kernel_rfl) (by kernel_rfl) ?_
              repeat (go_big_quiet_step (fail))
              go_big_quiet_step ((go_at_call 61; exact quiet_same (inR_is Hi.out _)))
              repeat (go_big_quiet_step (fail))
              go_big_quiet_step ((go_at_call 85; exact quiet_same (allIn_is L row HL.out _ _ _ B (hr.drewN _) 0 999 hL2 Hq.out)))
              repeat (go_big_quiet_step (fail))
              refine wpQuiet_nil ?_
              intro _ hw'
              obtain ⟨nq, hw''⟩ := hw'
              subst hw''
              go_wp2
              go_roundw
              case rel => exact ⟨k + 1, by omega, by go_num, rowsB_snoc hrow.out Ha.out HL.out Hrb.out, _, by rw [HW.out, drewN_add]⟩
              case measure => simp [intOf]; omega
          · have hne : ¬ ((L : Int) = (W : Int)) := by omega
            have hne2 : ((L : Int) != (W : Int)) = true := bne_iff_ne.2 hne
            go_wp2
            refine wp_region_quiet_lit (by kernel_rfl) (by kernel_rfl) ?_
            repeat (go_big_quiet_step (fail))
            go_big_quiet_step ((go_at_call 61; exact quiet_same (inR_is Hi.out _)))
            repeat (go_big_quiet_step (fail))
            refine wpQuiet_nil ?_
            intro _ hw'
            obtain ⟨nq, hw''⟩ := hw'
            subst hw''
            go_wp2
            go_ret
            exact ⟨ret_bool (HR.out.1 (rowsB_no hrow.out (fun h => absurd (HL.out.symm.trans h) hLW))).symm, _, by rw [HW.out, drewN_add]⟩
      · have Hk : Hid (k = pp.length) := Lib.hid (by omega)
        go_wp2_with (go_at_call 61; refine (inRange_any _ _ _ _).mono ?_; rintro e w' ⟨rfl, rfl⟩)
        go_ret
        refine ⟨ret_bool ?_, _, HW.out⟩
        have h := Ha.out
        rw [Hk.out, List.take_length] at h
        exact (HR.out.2 h).symm
end Go.Proofs.Ytggdnpaiaijhgaa

/- Contracts of chapter 3: whether a field is valid, and how many of its cells have ice. -/
import Derived.Test.YtiihenhddleooacFGrid
namespace Go.Proofs.Ytiihenhddleooac
open Go.RowKit
set_option linter.unusedVariables false
set_option linter.unusedSimpArgs false
theorem field_first {ff : List (List Bool)} (h : 0 < ff.length) (hw : ¬ (1 ≤ wideB ff ∧ wideB ff ≤ 9)) : fieldB ff = false := by
  refine fieldB_no (rowsF_no (k := 0) (row := ff[0]'h) (List.getElem?_eq_getElem h) ?_)
  have : wideB ff = (ff[0]'h).length := by unfold wideB; rw [List.getD_eq_getElem?_getD, List.getElem?_eq_getElem h]; rfl
  rw [this] at hw
  omega
set_option maxRecDepth 100000 in
set_option maxHeartbeats 800000 in
theorem iVF_any (ff : List (List Bool)) (A : Option Addr) (c : Nat) (w : World) (B : Nat) (hg : RdF w B A ff) :
    Calls Try.prog 29 #[.slice A ff.length c] w fun e w' => e = .returned (.bool (fieldB ff)) ∧ w = w' := by
  by_cases l1 : ff.length < 1
  · have H := Lib.hid (fieldB_len (ff := ff) (by omega))
    go_enter Try.func29, Try.ntmps29
    go_wp2
    go_ret
    exact ⟨ret_bool H.out.symm, rfl⟩
  by_cases l2 : 9 < ff.length
  · have l3 : 1 ≤ ff.length := by omega
    have H := Lib.hid (fieldB_len (ff := ff) (by omega))
    clear l1
    go_enter Try.func29, Try.ntmps29
    go_wp2
    go_ret
    exact ⟨ret_bool H.out.symm, rfl⟩
  have l3 : 1 ≤ ff.length := by omega
  have l4 : ff.length ≤ 9 := by omega
  clear l1 l2
  obtain ⟨b, off, A0, c0, rfl, h0⟩ := hg.first (by omega)
  have HR := Lib.hid (fieldB_rows (ff := ff) ⟨l3, l4⟩)
  have HO := Lib.hid (field_first (ff := ff) (by omega))
  generalize fieldB ff = R at *
  generalize wideB ff = W at *
  by_cases w1 : W < 1
  · go_enter Try.func29, Try.ntmps29
    go_wp2
    go_ret
    exact ⟨ret_bool (HO.out (by omega)).symm, rfl⟩
  by_cases w2 : 9 < W
  · have w3 : 1 ≤ W := by omega
    clear w1
    go_enter Try.func29, Try.ntmps29
    go_wp2
    go_ret
    exact ⟨ret_bool (HO.out (by omega)).symm, rfl⟩
  have w3 : 1 ≤ W := by omega
  have w4 : W ≤ 9 := by omega
  clear w1 w2
  go_enter Try.func29, Try.ntmps29
  go_wp2
  go_loop [29] (fun i => ∃ k : Nat, k ≤ ff.length ∧ i = .int .i64 k ∧ rowsF W (ff.take k) = true) (fun i => ff.length - (intOf i).toNat)
  case atStart => exact ⟨0, Nat.zero_le _, rfl, rfl⟩
  case round =>
    obtain ⟨k, hk, rfl, ha⟩ := hrel
    have Ha := Lib.hid ha
    clear ha
    by_cases hlt : k < ff.length
    · obtain ⟨b', off', row, A', c', e, hb, hrow, hc, _, _, hr⟩ := hg.row_ hlt
      injection e with e
      injection e with e1 e2
      subst e1 e2
      generalize hL : row.length = L at *
      have HL := Lib.hid hL
      clear hL
      by_cases hLW : L = W
      · subst hLW
        go_wp2
        go_round
        case rel => exact ⟨k + 1, by omega, by go_num, rowsF_snoc hrow.out Ha.out HL.out ⟨w3, w4⟩⟩
        case measure => simp [intOf]; omega
      · have hne : ¬ ((L : Int) = (W : Int)) := by omega
        go_wp2
        go_ret
        exact ⟨ret_bool (by rw [HR.out]; exact (rowsF_no hrow.out (by rw [HL.out]; omega)).symm), rfl⟩
    · have Hk : Hid (k = ff.length) := Lib.hid (by omega)
      go_wp2
      go_ret
      refine ⟨ret_bool ?_, rfl⟩
      have h := Ha.out
      rw [Hk.out, List.take_length] at h
      rw [HR.out, h]
theorem inR_is {n a b : Int} {q : Bool} (h : inB n a b = q) (w : World) :
    Calls Try.prog 55 #[.int .i64 n, .int .i64 a, .int .i64 b] w fun e w' => e = .returned (.bool q) ∧ w = w' := by
  have := inRange_any n a b w
  rw [h] at this
  exact this
set_option maxRecDepth 100000 in
set_option maxHeartbeats 1000000 in
theorem sVFv_any (ff : List (List Bool)) (A : Option Addr) (c : Nat) (w : World) (B : Nat) (hg : RdF w B A ff) (hn : ff.length ≤ 1048576) :
    Calls Try.prog 33 #[.slice A ff.length c] w fun e w' => e = .returned (.bool (fieldB ff)) ∧ ∃ n, w' = w.drewN n := by
  by_cases hz : ff = []
  · subst hz
    have H : Hid (fieldB [] = inB 0 1 9) := Lib.hid rfl
    go_enter Try.func33, Try.ntmps33
    go_wp2
    refine wp_loop_rounds 1 ?_
    rw [rounds_succ]
    go_wp2_with (go_at_call 55; refine (inRange_any _ _ _ _).mono ?_; rintro e w' ⟨rfl, rfl⟩)
    go_ret
    exact ⟨ret_bool H.out.symm, 0, rfl⟩
  · have hpos := List.length_pos_iff.2 hz
    clear hz
    obtain ⟨b, off, A0, c0, rfl, h0⟩ := hg.first hpos
    have Hno := @fieldB_no ff
    have Hyes := @fieldB_yes ff
    generalize fieldB ff = R at *
    generalize wideB ff = W at *
    have HR := Lib.hid (And.intro Hno Hyes)
    clear Hno Hyes
    go_enter Try.func33, Try.ntmps33
    go_wp2
    go_loopw [3] (fun i wr => ∃ k : Nat, k ≤ ff.length ∧ i = .int .i64 k ∧ rowsF W (ff.take k) = true ∧ ∃ n, wr = w.drewN n) (fun i _ => ff.length - (intOf i).toNat)
    case atStart => exact ⟨0, Nat.zero_le _, rfl, rfl, 0, rfl⟩
    case round =>
      obtain ⟨k, hk, rfl, ha, n, hwr⟩ := hrel
      have Ha := Lib.hid ha
      have hgr : RdF wr B (some ⟨b, off, none⟩) ff := by rw [hwr]; exact hg.drewN n
      have h0r : wr.cell? ⟨b, off, none⟩ = some (.slice A0 W c0) := by rw [hwr]; exact h0
      have HW := Lib.hid hwr
      clear ha hwr
      by_cases hlt : k < ff.length
      · obtain ⟨b', off', row, A', c', e, hb, hrow, hc, _, _, hr⟩ := hgr.row_ hlt
        injection e with e
        injection e with e1 e2
        subst e1 e2
        generalize hL : row.length = L at *
        have HL := Lib.hid hL
        clear hL
        cases hi : inB L 1 9
        · have Hi := Lib.hid hi
          clear hi
          go_wp2
          refine wp_region_quiet_lit (by kernel_rfl) (by kernel_rfl) ?_
          repeat (go_big_quiet_step (fail))
          go_big_quiet_step ((go_at_call 55; exact quiet_same (inR_is Hi.out _)))
          repeat (go_big_quiet_step (fail))
          refine wpQuiet_nil ?_
          intro _ hw'
          obtain ⟨nq, hw''⟩ := hw'
          subst hw''
          go_wp2
          go_ret
          exact ⟨ret_bool (HR.out.1 (rowsF_no hrow.out (by rw [HL.out]; have := inB_f Hi.out; omega))).symm, _, by rw [HW.out, drewN_add]⟩
        · have hi2 := inB_t hi
          have Hi := Lib.hid hi
          clear hi
          by_cases hLW : L = W
          · subst hLW
            go_wp2
            refine wp_region_quiet_lit (by kernel_rfl) (by kernel_rfl) ?_
            repeat (go_big_quiet_step (fail))
            go_big_quiet_step ((go_at_call 55; exact quiet_same (inR_is Hi.out _)))
            repeat (go_big_quiet_step (fail))
            refine wpQuiet_nil ?_
            intro _ hw'
            obtain ⟨nq, hw''⟩ := hw'
            subst hw''
            go_wp2
            go_roundw
            case rel => exact ⟨k + 1, by omega, by go_num, rowsF_snoc hrow.out Ha.out HL.out (by omega), _, by rw [HW.out, drewN_add]⟩
            case measure => simp [intOf]; omega
          · have hne : ¬ ((L : Int) = (W : Int)) := by omega
            have hne2 : ((L : Int) != (W : Int)) = true := bne_iff_ne.2 hne
            go_wp2
            refine wp_region_quiet_lit (by kernel_rfl) (by kernel_rfl) ?_
            repeat (go_big_quiet_step (fail))
            go_big_quiet_step ((go_at_call 55; exact quiet_same (inR_is Hi.out _)))
            repeat (go_big_quiet_step (fail))
            refine wpQuiet_nil ?_
            intro _ hw'
            obtain ⟨nq, hw''⟩ := hw'
            subst hw''
            go_wp2
            go_ret
            exact ⟨ret_bool (HR.out.1 (rowsF_no hrow.out (by rw [HL.out]; omega))).symm, _, by rw [HW.out, drewN_add]⟩
      · have Hk : Hid (k = ff.length) := Lib.hid (by omega)
        go_wp2_with (go_at_call 55; refine (inRange_any _ _ _ _).mono ?_; rintro e w' ⟨rfl, rfl⟩)
        go_ret
        refine ⟨ret_bool ?_, _, HW.out⟩
        have h := Ha.out
        rw [Hk.out, List.take_length] at h
        exact (HR.out.2 h).symm
def areaT (ff : List (List Bool)) : Int := if fieldB ff then (areaN ff : Nat) else -1
theorem areaT_ok {ff : List (List Bool)} (h : fieldB ff = true) : areaT ff = (areaN ff : Nat) := by unfold areaT; rw [h]; rfl
theorem areaT_no {ff : List (List Bool)} (h : fieldB ff = false) : areaT ff = -1 := by unfold areaT; rw [h]; rfl
theorem iVF_is {q : Bool} (ff : List (List Bool)) (A : Option Addr) (c : Nat) (w : World) (B : Nat) (hg : RdF w B A ff) (h : fieldB ff = q) :
    Calls Try.prog 29 #[.slice A ff.length c] w fun e w' => e = .returned (.bool q) ∧ w = w' := by
  have := iVF_any ff A c w B hg
  rw [h] at this
  exact this
theorem sVF_is {q : Bool} (ff : List (List Bool)) (A : Option Addr) (c : Nat) (w : World) (B : Nat) (hg : RdF w B A ff) (hn : ff.length ≤ 1048576) (h : fieldB ff = q) :
    Calls Try.prog 33 #[.slice A ff.length c] w fun e w' => e = .returned (.bool q) ∧ ∃ n, w' = w.drewN n := by
  have := sVFv_any ff A c w B hg hn
  rw [h] at this
  exact this
theorem area_mono {ff : List (List Bool)} (k : Nat) : areaN (ff.take k) ≤ areaN ff := by
  have h : areaN ff = areaN (ff.take k) + areaN (ff.drop k) := by
    unfold areaN
    rw [← List.sum_append, ← List.map_append, List.take_append_drop]
  omega
theorem iceRow_mono {r : List Bool} (k : Nat) : iceRow (r.take k) ≤ iceRow r := by
  have h : iceRow r = iceRow (r.take k) + iceRow (r.drop k) := by
    unfold iceRow
    rw [← List.length_append, ← List.filter_append, List.take_append_drop]
  omega
theorem area_bd {ff : List (List Bool)} (h : fieldB ff = true) : areaN ff ≤ 81 := by
  have h1 := areaN_le (ff := ff) 9 (fun r hr => by
    obtain ⟨k, hk⟩ := List.getElem?_of_mem hr
    have := field_row h hk
    omega)
  have := field_len h
  omega
end Go.Proofs.Ytiihenhddleooac

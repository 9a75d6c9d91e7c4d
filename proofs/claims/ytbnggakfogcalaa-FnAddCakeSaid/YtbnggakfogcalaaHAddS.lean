/- Contracts of chapter 5's model: AddCake, TakeCake, the highest place. -/
import Derived.StillTailTactics
import Derived.Deep.RegionWith
import Derived.Test.YtbnggakfogcalaaHWith
namespace Go.Proofs.Ytbnggakfogcalaa
open Go.RowKit
set_option linter.unusedVariables false
set_option linter.unusedSimpArgs false
set_option maxHeartbeats 1000000 in
theorem sAdd_any (pp : List (List Int)) (A : Option Addr) (c : Nat) (w : World) (hg : RdG w w.heap.size A pp) (hn : pp.length ≤ 1048576) (z : Int) :
    Calls Try.prog 28 #[.slice A pp.length c, .int .i64 z] w (OutGr (addT pp z) w) := by
  cases hv : heapB pp
  · rw [addT_no (by rw [hv]; rfl)]
    have Hv := Lib.hid hv
    clear hv
    go_enter Try.func28, Try.ntmps28
    go_wp2
    refine wp_region_quiet_lit (by kernel_rfl) (by kernel_rfl) ?_
    repeat (go_big_quiet_step (fail))
    go_big_quiet_step ((go_at_call 53; exact quiet_draw (sHp_is _ _ _ _ _ (hg.drewN _) hn Hv.out)))
    repeat (go_big_quiet_step (fail))
    refine wpQuiet_nil ?_
    intro _ hw'
    obtain ⟨nq, hw''⟩ := hw'
    subst hw''
    go_wp2
    go_ret
    exact outGr_nil' w nq
  have hpv := heap_pond hv
  have hp : Pnd w w.heap.size A pp := ⟨hpv, hg⟩
  have hl := pond_len hpv
  have hwd := pond_wide hpv
  have hcn := pond_cnt hpv
  have eN : IntKind.i64.wrap ((pp.length : Int) * ((wide pp : Nat) : Int)) = ((cnt pp : Nat) : Int) := by
    have h1 : (pp.length : Int) * ((wide pp : Nat) : Int) = ((cnt pp : Nat) : Int) := by unfold cnt; exact (Int.natCast_mul _ _).symm
    rw [h1]; exact IntWalk.i64_in _ (by omega)
  have eM : IntKind.i64.wrap (((cnt pp : Nat) : Int) - 1) = ((cnt pp : Nat) : Int) - 1 := IntWalk.i64_in _ (by omega)
  have i0 : 0 < pp.length := by omega
  cases hz : inB z 0 ((cnt pp : Nat) - 1)
  · rw [addT_no (by rw [hz]; simp)]
    obtain ⟨b0, off0, A00, c00, hA0, _, h00⟩ := hp.row0
    have Hv := Lib.hid hv
    have Hz := Lib.hid hz
    subst hA0
    clear hv hz hp
    generalize cnt pp = N at *
    generalize wide pp = W at *
    go_enter Try.func28, Try.ntmps28
    go_wp2
    refine wp_region_quiet_lit (by kernel_rfl) (by kernel_rfl) ?_
    repeat (go_big_quiet_step (fail))
    go_big_quiet_step ((go_at_call 53; exact quiet_draw (sHp_is _ _ _ _ _ (hg.drewN _) hn Hv.out)))
    repeat (go_big_quiet_step (fail))
    go_big_quiet_step ((go_at_call 62; exact quiet_same (inR_is Hz.out _)))
    repeat (go_big_quiet_step (fail))
    refine wpQuiet_nil ?_
    intro _ hw'
    obtain ⟨nq, hw''⟩ := hw'
    subst hw''
    go_wp2
    go_ret
    exact outGr_nil' w nq
  have hz2 := inB_t hz
  obtain ⟨k, rfl⟩ := Int.eq_ofNat_of_zero_le hz2.1
  have hk : k < cnt pp := by omega
  obtain ⟨b, off, A0, c0, b1, o1, c1, rfl, h0, hcy, hcx⟩ := hp.cell_ hk
  have hy := row_y hk
  have hxm := Nat.mod_lt k (show 0 < wide pp by omega)
  have Hv := Lib.hid hv
  have Hz := Lib.hid hz
  by_cases h12 : thk pp k = 12
  · rw [addT_no (by rw [Int.toNat_natCast, decide_eq_false (by omega)]; simp)]
    have hzz : (thk pp k == 12) = true := beq_iff_eq.2 h12
    clear hv hz hp h12 hk hz2
    generalize thk pp k = t at *
    generalize cnt pp = N at *
    generalize wide pp = W at *
    have i1 : ((W : Int) == 0) = false := beq_eq_false_iff_ne.2 (by omega)
    have i2 : ¬ W = 0 := by omega
    have j1 : 0 ≤ (k : Int) / (W : Int) := Int.ediv_nonneg (by omega) (by omega)
    have j2 : (k : Int) / (W : Int) < pp.length := by omega
    have j3 : 0 ≤ (k : Int) % (W : Int) := Int.emod_nonneg _ (by omega)
    have j4 : (k : Int) % (W : Int) < W := Int.emod_lt_of_pos _ (by omega)
    have j5 : IntKind.i64.wrap ((k : Int) / (W : Int)) = (k : Int) / (W : Int) := IntWalk.i64_in _ (by omega)
    go_enter Try.func28, Try.ntmps28
    go_wp2
    refine wp_region_quiet_lit (by kernel_rfl) (by kernel_rfl) ?_
    repeat (go_big_quiet_step (fail))
    go_big_quiet_step ((go_at_call 53; exact quiet_draw (sHp_is _ _ _ _ _ (hg.drewN _) hn Hv.out)))
    repeat (go_big_quiet_step (fail))
    go_big_quiet_step ((go_at_call 62; exact quiet_same (inR_is Hz.out _)))
    repeat (go_big_quiet_step (fail))
    refine wpQuiet_nil ?_
    intro _ hw'
    obtain ⟨nq, hw''⟩ := hw'
    subst hw''
    go_wp2
    go_ret
    exact outGr_nil' w nq
  · rw [addT_ok hv hk h12]
    have hzz : (thk pp k == 12) = false := beq_eq_false_iff_ne.2 h12
    have HG := Lib.hid (fun n : Nat => sWith_any pp (some ⟨b, off, none⟩) c (w.drewN n) (hg.drewN n) hv k hk (1) (by omega) (by omega))
    clear hv hz hp h12 hk hz2
    generalize addF pp k (1) = ts at *
    generalize thk pp k = t at *
    generalize cnt pp = N at *
    generalize wide pp = W at *
    have i1 : ((W : Int) == 0) = false := beq_eq_false_iff_ne.2 (by omega)
    have i2 : ¬ W = 0 := by omega
    have j1 : 0 ≤ (k : Int) / (W : Int) := Int.ediv_nonneg (by omega) (by omega)
    have j2 : (k : Int) / (W : Int) < pp.length := by omega
    have j3 : 0 ≤ (k : Int) % (W : Int) := Int.emod_nonneg _ (by omega)
    have j4 : (k : Int) % (W : Int) < W := Int.emod_lt_of_pos _ (by omega)
    have j5 : IntKind.i64.wrap ((k : Int) / (W : Int)) = (k : Int) / (W : Int) := IntWalk.i64_in _ (by omega)
    go_enter Try.func28, Try.ntmps28
    go_wp2
    refine wp_region_quiet_lit (by kernel_rfl) (by kernel_rfl) ?_
    repeat (go_big_quiet_step (fail))
    go_big_quiet_step ((go_at_call 53; exact quiet_draw (sHp_is _ _ _ _ _ (hg.drewN _) hn Hv.out)))
    repeat (go_big_quiet_step (fail))
    go_big_quiet_step ((go_at_call 62; exact quiet_same (inR_is Hz.out _)))
    repeat (go_big_quiet_step (fail))
    refine wpQuiet_nil ?_
    intro _ hw'
    obtain ⟨nq, hw''⟩ := hw'
    subst hw''
    go_wp2_with fail
    refine (HG.out nq).mono ?_
    intro e w3 hout
    obtain ⟨A3, c3, xs3, rfl, o3, b3⟩ := hout
    have R := outGr_drew nq ⟨A3, c3, xs3, rfl, o3, b3⟩
    have HR := Lib.hid R
    clear R o3 b3
    go_wp2
    go_ret
    exact HR.out
set_option maxHeartbeats 1000000 in
theorem sTake_any (pp : List (List Int)) (A : Option Addr) (c : Nat) (w : World) (hg : RdG w w.heap.size A pp) (hn : pp.length ≤ 1048576) (z : Int) :
    Calls Try.prog 31 #[.slice A pp.length c, .int .i64 z] w (OutGr (takeT pp z) w) := by
  cases hv : heapB pp
  · rw [takeT_no (by rw [hv]; rfl)]
    have Hv := Lib.hid hv
    clear hv
    go_enter Try.func31, Try.ntmps31
    go_wp2
    refine wp_region_quiet_lit (by kernel_rfl) (by kernel_rfl) ?_
    repeat (go_big_quiet_step (fail))
    go_big_quiet_step ((go_at_call 53; exact quiet_draw (sHp_is _ _ _ _ _ (hg.drewN _) hn Hv.out)))
    repeat (go_big_quiet_step (fail))
    refine wpQuiet_nil ?_
    intro _ hw'
    obtain ⟨nq, hw''⟩ := hw'
    subst hw''
    go_wp2
    go_ret
    exact outGr_nil' w nq
  have hpv := heap_pond hv
  have hp : Pnd w w.heap.size A pp := ⟨hpv, hg⟩
  have hl := pond_len hpv
  have hwd := pond_wide hpv
  have hcn := pond_cnt hpv
  have eN : IntKind.i64.wrap ((pp.length : Int) * ((wide pp : Nat) : Int)) = ((cnt pp : Nat) : Int) := by
    have h1 : (pp.length : Int) * ((wide pp : Nat) : Int) = ((cnt pp : Nat) : Int) := by unfold cnt; exact (Int.natCast_mul _ _).symm
    rw [h1]; exact IntWalk.i64_in _ (by omega)
  have eM : IntKind.i64.wrap (((cnt pp : Nat) : Int) - 1) = ((cnt pp : Nat) : Int) - 1 := IntWalk.i64_in _ (by omega)
  have i0 : 0 < pp.length := by omega
  cases hz : inB z 0 ((cnt pp : Nat) - 1)
  · rw [takeT_no (by rw [hz]; simp)]
    obtain ⟨b0, off0, A00, c00, hA0, _, h00⟩ := hp.row0
    have Hv := Lib.hid hv
    have Hz := Lib.hid hz
    subst hA0
    clear hv hz hp
    generalize cnt pp = N at *
    generalize wide pp = W at *
    go_enter Try.func31, Try.ntmps31
    go_wp2
    refine wp_region_quiet_lit (by kernel_rfl) (by kernel_rfl) ?_
    repeat (go_big_quiet_step (fail))
    go_big_quiet_step ((go_at_call 53; exact quiet_draw (sHp_is _ _ _ _ _ (hg.drewN _) hn Hv.out)))
    repeat (go_big_quiet_step (fail))
    go_big_quiet_step ((go_at_call 62; exact quiet_same (inR_is Hz.out _)))
    repeat (go_big_quiet_step (fail))
    refine wpQuiet_nil ?_
    intro _ hw'
    obtain ⟨nq, hw''⟩ := hw'
    subst hw''
    go_wp2
    go_ret
    exact outGr_nil' w nq
  have hz2 := inB_t hz
  obtain ⟨k, rfl⟩ := Int.eq_ofNat_of_zero_le hz2.1
  have hk : k < cnt pp := by omega
  obtain ⟨b, off, A0, c0, b1, o1, c1, rfl, h0, hcy, hcx⟩ := hp.cell_ hk
  have hy := row_y hk
  have hxm := Nat.mod_lt k (show 0 < wide pp by omega)
  have Hv := Lib.hid hv
  have Hz := Lib.hid hz
  by_cases h12 : thk pp k = 0
  · rw [takeT_no (by rw [Int.toNat_natCast, decide_eq_false (by omega)]; simp)]
    have hzz : (thk pp k == 0) = true := beq_iff_eq.2 h12
    clear hv hz hp h12 hk hz2
    generalize thk pp k = t at *
    generalize cnt pp = N at *
    generalize wide pp = W at *
    have i1 : ((W : Int) == 0) = false := beq_eq_false_iff_ne.2 (by omega)
    have i2 : ¬ W = 0 := by omega
    have j1 : 0 ≤ (k : Int) / (W : Int) := Int.ediv_nonneg (by omega) (by omega)
    have j2 : (k : Int) / (W : Int) < pp.length := by omega
    have j3 : 0 ≤ (k : Int) % (W : Int) := Int.emod_nonneg _ (by omega)
    have j4 : (k : Int) % (W : Int) < W := Int.emod_lt_of_pos _ (by omega)
    have j5 : IntKind.i64.wrap ((k : Int) / (W : Int)) = (k : Int) / (W : Int) := IntWalk.i64_in _ (by omega)
    go_enter Try.func31, Try.ntmps31
    go_wp2
    refine wp_region_quiet_lit (by kernel_rfl) (by kernel_rfl) ?_
    repeat (go_big_quiet_step (fail))
    go_big_quiet_step ((go_at_call 53; exact quiet_draw (sHp_is _ _ _ _ _ (hg.drewN _) hn Hv.out)))
    repeat (go_big_quiet_step (fail))
    go_big_quiet_step ((go_at_call 62; exact quiet_same (inR_is Hz.out _)))
    repeat (go_big_quiet_step (fail))
    refine wpQuiet_nil ?_
    intro _ hw'
    obtain ⟨nq, hw''⟩ := hw'
    subst hw''
    go_wp2
    go_ret
    exact outGr_nil' w nq
  · rw [takeT_ok hv hk h12]
    have hzz : (thk pp k == 0) = false := beq_eq_false_iff_ne.2 h12
    have HG := Lib.hid (fun n : Nat => sWith_any pp (some ⟨b, off, none⟩) c (w.drewN n) (hg.drewN n) hv k hk (-1) (by omega) (by omega))
    clear hv hz hp h12 hk hz2
    generalize addF pp k (-1) = ts at *
    generalize thk pp k = t at *
    generalize cnt pp = N at *
    generalize wide pp = W at *
    have i1 : ((W : Int) == 0) = false := beq_eq_false_iff_ne.2 (by omega)
    have i2 : ¬ W = 0 := by omega
    have j1 : 0 ≤ (k : Int) / (W : Int) := Int.ediv_nonneg (by omega) (by omega)
    have j2 : (k : Int) / (W : Int) < pp.length := by omega
    have j3 : 0 ≤ (k : Int) % (W : Int) := Int.emod_nonneg _ (by omega)
    have j4 : (k : Int) % (W : Int) < W := Int.emod_lt_of_pos _ (by omega)
    have j5 : IntKind.i64.wrap ((k : Int) / (W : Int)) = (k : Int) / (W : Int) := IntWalk.i64_in _ (by omega)
    go_enter Try.func31, Try.ntmps31
    go_wp2
    refine wp_region_quiet_lit (by kernel_rfl) (by kernel_rfl) ?_
    repeat (go_big_quiet_step (fail))
    go_big_quiet_step ((go_at_call 53; exact quiet_draw (sHp_is _ _ _ _ _ (hg.drewN _) hn Hv.out)))
    repeat (go_big_quiet_step (fail))
    go_big_quiet_step ((go_at_call 62; exact quiet_same (inR_is Hz.out _)))
    repeat (go_big_quiet_step (fail))
    refine wpQuiet_nil ?_
    intro _ hw'
    obtain ⟨nq, hw''⟩ := hw'
    subst hw''
    go_wp2_with fail
    refine (HG.out nq).mono ?_
    intro e w3 hout
    obtain ⟨A3, c3, xs3, rfl, o3, b3⟩ := hout
    have R := outGr_drew nq ⟨A3, c3, xs3, rfl, o3, b3⟩
    have HR := Lib.hid R
    clear R o3 b3
    go_wp2
    go_ret
    exact HR.out
set_option maxHeartbeats 2000000 in
theorem sHighest_any (pp : List (List Int)) (A : Option Addr) (c : Nat) (w : World) (B : Nat) (hp : Pnd w B A pp) :
    Calls Try.prog 84 #[.slice A pp.length c] w fun e w' => e = .returned (.int .i64 (hiF pp : Nat)) ∧ ∃ n, w' = w.drewN n := by
  have hc := pond_cnt hp.1
  have hl := pond_len hp.1
  have hwd := pond_wide hp.1
  have HI : Hid (∀ k, k ≤ cnt pp → hiTo pp k < cnt pp) := Lib.hid (hiTo_in hp.1)
  have HS : Hid (∀ k, hiTo pp (k + 1) = if thk pp (hiTo pp k) ≤ thk pp k then k else hiTo pp k) := Lib.hid fun k => rfl
  have HF : Hid (hiTo pp (cnt pp) = hiF pp) := Lib.hid rfl
  have eN : IntKind.i64.wrap ((pp.length : Int) * ((wide pp : Nat) : Int)) = ((cnt pp : Nat) : Int) := by
    have h1 : (pp.length : Int) * ((wide pp : Nat) : Int) = ((cnt pp : Nat) : Int) := by unfold cnt; exact (Int.natCast_mul _ _).symm
    rw [h1]; exact IntWalk.i64_in _ (by omega)
  have i0 : 0 < pp.length := by omega
  obtain ⟨b0, off0, A00, c00, hA0, _, h00⟩ := hp.row0
  subst hA0
  have H00 := Lib.hid h00
  clear h00
  have i1 : (((wide pp : Nat) : Int) == 0) = false := beq_eq_false_iff_ne.2 (by omega)
  have i2 : ¬ wide pp = 0 := by omega
  go_enter Try.func84, Try.ntmps84
  go_wp2
  go_loopw [3, 4] (fun s i wr => ∃ k n : Nat, k ≤ cnt pp ∧ i = .int .i64 k ∧ s = .int .i64 (hiTo pp k : Nat) ∧ wr = w.drewN n) (fun _ i _ => cnt pp - (intOf i).toNat)
  case atStart => exact ⟨0, 0, Nat.zero_le _, rfl, rfl, rfl⟩
  case round =>
    obtain ⟨k, n, hk, rfl, rfl, hwr⟩ := hrel
    have hpr : Pnd wr B (some ⟨b0, off0, none⟩) pp := by rw [hwr]; exact hp.drewN n
    have h00 : wr.cell? ⟨b0, off0, none⟩ = some (.slice A00 (wide pp) c00) := by rw [hwr]; exact H00.out
    have HW := Lib.hid hwr
    clear hwr
    by_cases hlt : k < cnt pp
    · have hi := HI.out k hk
      have hs := HS.out k
      obtain ⟨b, off, A0, c0, b1, o1, c1, e, h0, hcy, hcx⟩ := hpr.cell_ hlt
      injection e with e
      injection e with e1 e2
      subst e1 e2
      obtain ⟨b', off', A0', c0', b2, o2, c2, e, h0', hcy2, hcx2⟩ := hpr.cell_ hi
      injection e with e
      injection e with e1 e2
      subst e1 e2
      have hy := row_y hlt
      have hxm := Nat.mod_lt k (show 0 < wide pp by omega)
      have hy2 := row_y hi
      have hxm2 := Nat.mod_lt (hiTo pp k) (show 0 < wide pp by omega)
      clear h0 h0' hpr
      have hltI : (k : Int) < ((cnt pp : Nat) : Int) := by omega
      generalize hT : hiTo pp k = t at *
      clear hT
      have HCN : Hid (∀ q : Nat, q < cnt pp → q / wide pp ≤ 81) := Lib.hid fun q hq => Nat.le_trans (Nat.div_le_self _ _) (by omega)
      have d1 := HCN.out k hlt
      have d2 := HCN.out t hi
      generalize thk pp t = zt at *
      generalize thk pp k = zk at *
      generalize hNN : cnt pp = N at *
      have HNN := Lib.hid hNN
      generalize hWW : wide pp = W at *
      have HWW := Lib.hid hWW
      clear hWW hNN
      have j1 : 0 ≤ (k : Int) / (W : Int) := Int.ediv_nonneg (by omega) (by omega)
      have j2 : (k : Int) / (W : Int) < pp.length := by omega
      have j3 : 0 ≤ (k : Int) % (W : Int) := Int.emod_nonneg _ (by omega)
      have j4 : (k : Int) % (W : Int) < W := Int.emod_lt_of_pos _ (by omega)
      have j5 : IntKind.i64.wrap ((k : Int) / (W : Int)) = (k : Int) / (W : Int) := IntWalk.i64_in _ (by omega)
      have k1 : 0 ≤ (t : Int) / (W : Int) := Int.ediv_nonneg (by omega) (by omega)
      have k2 : (t : Int) / (W : Int) < pp.length := by omega
      have k3 : 0 ≤ (t : Int) % (W : Int) := Int.emod_nonneg _ (by omega)
      have k4 : (t : Int) % (W : Int) < W := Int.emod_lt_of_pos _ (by omega)
      have k5 : IntKind.i64.wrap ((t : Int) / (W : Int)) = (t : Int) / (W : Int) := IntWalk.i64_in _ (by omega)
      by_cases hle : zt ≤ zk
      · rw [if_pos hle] at hs
        have HS2 := Lib.hid hs
        clear hs
        go_wp2
        refine wp_region_quiet_lit (by kernel_rfl) (by kernel_rfl) ?_
        repeat (go_big_quiet_step (fail))
        refine wpQuiet_nil ?_
        intro _ hw'
        obtain ⟨nq, hw''⟩ := hw'
        subst hw''
        go_wp2
        go_roundw
        case rel => exact ⟨k + 1, _, by omega, by go_num, by rw [HS2.out], by rw [HW.out, drewN_add]⟩
        case measure => simp [intOf]; omega
      · rw [if_neg hle] at hs
        have HS2 := Lib.hid hs
        clear hs
        go_wp2
        refine wp_region_quiet_lit (by kernel_rfl) (by kernel_rfl) ?_
        repeat (go_big_quiet_step (fail))
        refine wpQuiet_nil ?_
        intro _ hw'
        obtain ⟨nq, hw''⟩ := hw'
        subst hw''
        go_wp2
        go_roundw
        case rel => exact ⟨k + 1, _, by omega, by go_num, by rw [HS2.out], by rw [HW.out, drewN_add]⟩
        case measure => simp [intOf]; omega
    · obtain rfl : k = cnt pp := by omega
      go_wp2
      go_ret
      exact ⟨ret_int (by rw [HF.out]), _, HW.out⟩

end Go.Proofs.Ytbnggakfogcalaa

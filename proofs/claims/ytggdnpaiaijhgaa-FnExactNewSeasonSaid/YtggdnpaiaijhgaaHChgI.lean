/- Contracts of chapter 5: a cake more or less, the highest place, the program. -/
import Derived.StillTailTactics
import Derived.Test.YtggdnpaiaijhgaaCutI
import Derived.Test.YtggdnpaiaijhgaaHImp
namespace Go.Proofs.Ytggdnpaiaijhgaa
open Go.RowKit
set_option linter.unusedVariables false
set_option linter.unusedSimpArgs false
theorem outGr_drew {ts : List (List Int)} {w w' : World} {e : Ending} (n : Nat) (h : OutGr ts (w.drewN n) e w') : OutGr ts w e w' := by
  obtain ⟨A, c, xs, h1, h2, h3⟩ := h
  exact ⟨A, c, xs, h1, h2, (below_drewN (Below.refl _ _) n).trans h3⟩
theorem outGr_nil' (w : World) (n : Nat) : OutGr [] w (.returned (.slice none 0 0)) (w.drewN n) := outGr_drew n (outGr_nil (w.drewN n))
set_option maxRecDepth 100000 in
set_option maxHeartbeats 2000000 in
theorem iChg_any (pp : List (List Int)) (A : Option Addr) (c : Nat) (w : World) (hg : RdG w w.heap.size A pp) (hv : heapB pp = true) (k : Nat) (hk : k < cnt pp) (bz : Int) (hb0 : -12 ≤ bz) (hb1 : bz ≤ 12) :
    Calls Try.prog 128 #[.slice A pp.length c, .int .i64 (k : Nat), .int .i64 bz] w (OutGr (addF pp k bz) w) := by
  have hpv := heap_pond hv
  have hp : Pnd w w.heap.size A pp := ⟨hpv, hg⟩
  have hl := pond_len hpv
  have hwd := pond_wide hpv
  have hz := heap_thk hv hk
  have HCo := Lib.hid (iCopy_any pp A c w hg hpv)
  obtain ⟨bq, off, A0, c0, rfl, hbq, h00⟩ := hp.row0
  have hy := row_y hk
  have hxm := Nat.mod_lt k (show 0 < wide pp by omega)
  have Hv := Lib.hid hpv
  have HLN : Hid ((addF pp k bz).length = pp.length) := Lib.hid addF_len
  have Hk := Lib.hid hk
  have HEQ : Hid (∀ r, pp[k / wide pp]? = some r → pp.set (k / wide pp) (r.set (k % wide pp) (thk pp k + bz)) = addF pp k bz) := Lib.hid fun r hr => setF_eq hr
  clear hv hpv hp
  go_enter Try.func128, Try.ntmps128
  go_wp2_with fail
  refine (HCo.out).mono ?_
  rintro e w2 ⟨A2, c2, xs, rfl, o2, b2⟩
  obtain ⟨g, b, c', r, rfl, hr, hrl, hx, hcy, hcx, hfz, hbb⟩ := o2.cell_ Hv.out Hk.out
  have h0 := (b2.cell (p := ⟨bq, off, none⟩) hbq).trans h00
  have hput := (OwnG.far (w' := w2.drewN 1) o2 (fun _ _ _ => rfl)).put hr hx (k % wide pp) (thk pp k + bz)
  rw [HEQ.out r hr] at hput
  have hbl : Below w.heap.size w ((w2.drewN 1).setCell ⟨b, k % wide pp, none⟩ (.int .i64 (thk pp k + bz))) := (below_drewN b2 1).setCell (by omega) _
  have R : OutGr (addF pp k bz) w (.returned (.slice (some ⟨g, 0, none⟩) pp.length c2)) ((w2.drewN 1).setCell ⟨b, k % wide pp, none⟩ (.int .i64 (thk pp k + bz))) := by
    refine ⟨_, c2, xs, by rw [HLN.out], ?_, hbl⟩
    have hs : ((w2.drewN 1).setCell ⟨b, k % wide pp, none⟩ (.int .i64 (thk pp k + bz))).heap.size = w2.heap.size := by simp [World.setCell, World.drewN]
    rw [hs, HLN.out]
    exact hput
  have HR := Lib.hid R
  clear hput hbl R o2 b2 hr hx h00 hg
  generalize thk pp k = z at *
  generalize hWW : wide pp = W at *
  clear hWW
  have i0 : 0 < pp.length := by omega
  have t1 : ((k : Int) / (W : Int)).toNat = k / W := by rw [← Int.natCast_ediv, Int.toNat_natCast]
  have t2 : ((k : Int) % (W : Int)).toNat = k % W := by rw [← Int.natCast_emod, Int.toNat_natCast]
  have m1 : (k : Int).tmod (W : Int) = ((k % W : Nat) : Int) := by rw [Int.tmod_eq_emod_of_nonneg (by omega)]; exact (Int.natCast_emod k W).symm
  have i1 : ((W : Int) == 0) = false := beq_eq_false_iff_ne.2 (by omega)
  have i2 : ¬ W = 0 := by omega
  have j1 : 0 ≤ (k : Int) / (W : Int) := Int.ediv_nonneg (by omega) (by omega)
  have j2 : (k : Int) / (W : Int) < pp.length := by omega
  have j3 : 0 ≤ (k : Int) % (W : Int) := Int.emod_nonneg _ (by omega)
  have j4 : (k : Int) % (W : Int) < W := Int.emod_lt_of_pos _ (by omega)
  have j5 : IntKind.i64.wrap ((k : Int) / (W : Int)) = (k : Int) / (W : Int) := IntWalk.i64_in _ (by omega)
  have j6 : IntKind.i64.wrap (z + bz) = z + bz := IntWalk.i64_in _ (by omega)
  go_wp2
  go_still_tail 20, (by kernel_rfl)
  change wpList _ _ _ _ _ (w2.drewN 1)
  go_wp2
  go_ret
  exact HR.out
set_option maxRecDepth 100000 in
set_option maxHeartbeats 1000000 in
theorem iHigh_any (pp : List (List Int)) (A : Option Addr) (c : Nat) (w : World) (B : Nat) (hp : Pnd w B A pp) (k : Nat) (hk : k < cnt pp) :
    Calls Try.prog 142 #[.slice A pp.length c, .int .i64 k] w fun e w' => e = .returned (.int .i64 (thk pp k)) ∧ ∃ n, w' = w.drewN n := by
  obtain ⟨b, off, A0, c0, b1, o1, c1, rfl, h0, h1, h2⟩ := hp.cell_ hk
  have hl := pond_len hp.1
  have hw := pond_wide hp.1
  have hc := pond_cnt hp.1
  have hy := row_y hk
  have hx := Nat.mod_lt k (show 0 < wide pp by omega)
  clear hp
  generalize thk pp k = t at *
  generalize cnt pp = N at *
  generalize wide pp = W at *
  generalize pp.length = H at *
  have i0 : 0 < H := by omega
  have i1 : ((W : Int) == 0) = false := beq_eq_false_iff_ne.2 (by omega)
  have i2 : ¬ W = 0 := by omega
  have j1 : 0 ≤ (k : Int) / (W : Int) := Int.ediv_nonneg (by omega) (by omega)
  have j2 : (k : Int) / (W : Int) < H := by omega
  have j3 : 0 ≤ (k : Int) % (W : Int) := Int.emod_nonneg _ (by omega)
  have j4 : (k : Int) % (W : Int) < W := Int.emod_lt_of_pos _ (by omega)
  have j5 : IntKind.i64.wrap ((k : Int) / (W : Int)) = (k : Int) / (W : Int) := IntWalk.i64_in _ (by omega)
  go_enter Try.func142, Try.ntmps142
  go_wp2
  go_quiet (fail)
  go_wp2
  go_ret
  exact ⟨rfl, _, rfl⟩
theorem hiTo_in {pp : List (List Int)} (h : pondB pp = true) (k : Nat) (hk : k ≤ cnt pp) : hiTo pp k < cnt pp := by
  have h1 := pond_cnt h
  have := hiTo_lt pp k
  omega
set_option maxRecDepth 100000 in
set_option maxHeartbeats 1000000 in
theorem iHighest_any (pp : List (List Int)) (A : Option Addr) (c : Nat) (w : World) (B : Nat) (hp : Pnd w B A pp) :
    Calls Try.prog 129 #[.slice A pp.length c] w fun e w' => e = .returned (.int .i64 (hiF pp : Nat)) ∧ ∃ n, w' = w.drewN n := by
  have hc := pond_cnt hp.1
  have HI : Hid (∀ k, k ≤ cnt pp → hiTo pp k < cnt pp) := Lib.hid (hiTo_in hp.1)
  have HS : Hid (∀ k, hiTo pp (k + 1) = if thk pp (hiTo pp k) ≤ thk pp k then k else hiTo pp k) := Lib.hid fun k => rfl
  have HF : Hid (hiTo pp (cnt pp) = hiF pp) := Lib.hid rfl
  go_enter Try.func129, Try.ntmps129
  go_wp2
  go_loopw [3, 4] (fun s i wr => ∃ k n : Nat, k ≤ cnt pp ∧ i = .int .i64 k ∧ s = .int .i64 (hiTo pp k : Nat) ∧ wr = w.drewN n) (fun _ i _ => cnt pp - (intOf i).toNat)
  case atStart => exact ⟨0, 0, Nat.zero_le _, rfl, rfl, rfl⟩
  case round =>
    obtain ⟨k, n, hk, rfl, rfl, hwr⟩ := hrel
    have hpr : Pnd wr B A pp := by rw [hwr]; exact hp.drewN n
    have HW := Lib.hid hwr
    clear hwr
    by_cases hlt : k < cnt pp
    · have hi := HI.out k hk
      have hs := HS.out k
      have C1 := Lib.hid (fun w' (h : Pnd w' B A pp) => iHigh_any pp A c w' B h k hlt)
      have C2 := Lib.hid (fun w' (h : Pnd w' B A pp) => iHigh_any pp A c w' B h (hiTo pp k) hi)
      generalize hT : hiTo pp k = t at *
      clear hT
      generalize thk pp t = zt at *
      generalize thk pp k = zk at *
      go_wp2_with fail
      refine (iCnt_any _ _ _ _ _ hpr).mono ?_
      rintro e w' ⟨rfl, rfl⟩
      go_wp2_with fail
      refine (C1.out _ hpr).mono ?_
      rintro e w1 ⟨rfl, n1, rfl⟩
      go_wp2_with fail
      refine (C2.out _ (hpr.drewN n1)).mono ?_
      rintro e w2 ⟨rfl, n2, rfl⟩
      by_cases hle : zt ≤ zk
      · rw [if_pos hle] at hs
        have HS2 := Lib.hid hs
        clear hs
        go_wp2
        go_roundw
        case rel => exact ⟨k + 1, _, by omega, by go_num, by rw [HS2.out], by rw [HW.out, drewN_add]⟩
        case measure => simp [intOf]; omega
      · rw [if_neg hle] at hs
        have HS2 := Lib.hid hs
        clear hs
        go_wp2
        go_roundw
        case rel => exact ⟨k + 1, _, by omega, by go_num, by rw [HS2.out], by rw [HW.out, drewN_add]⟩
        case measure => simp [intOf]; omega
    · obtain rfl : k = cnt pp := by omega
      go_wp2_with (go_at_call 124; refine (iCnt_any _ _ _ _ _ hpr).mono ?_; rintro e w' ⟨rfl, rfl⟩)
      go_ret
      exact ⟨ret_int (by rw [HF.out]), _, HW.out⟩

def addT (pp : List (List Int)) (z : Int) : List (List Int) := if heapB pp && (inB z 0 ((cnt pp : Nat) - 1) && decide (thk pp z.toNat ≠ 12)) then addF pp z.toNat 1 else []
def takeT (pp : List (List Int)) (z : Int) : List (List Int) := if heapB pp && (inB z 0 ((cnt pp : Nat) - 1) && decide (thk pp z.toNat ≠ 0)) then addF pp z.toNat (-1) else []
theorem addT_no {pp : List (List Int)} {z : Int} (h : (heapB pp && (inB z 0 ((cnt pp : Nat) - 1) && decide (thk pp z.toNat ≠ 12))) = false) : addT pp z = [] := by unfold addT; rw [h]; rfl
theorem takeT_no {pp : List (List Int)} {z : Int} (h : (heapB pp && (inB z 0 ((cnt pp : Nat) - 1) && decide (thk pp z.toNat ≠ 0))) = false) : takeT pp z = [] := by unfold takeT; rw [h]; rfl
theorem addT_ok {pp : List (List Int)} {k : Nat} (h : heapB pp = true) (hk : k < cnt pp) (hz : thk pp k ≠ 12) : addT pp (k : Int) = addF pp k 1 := by
  unfold addT
  rw [h, inB_mk (show (0 : Int) ≤ (k : Int) ∧ (k : Int) ≤ ((cnt pp : Nat) : Int) - 1 by omega), Int.toNat_natCast, decide_eq_true hz]; rfl
theorem takeT_ok {pp : List (List Int)} {k : Nat} (h : heapB pp = true) (hk : k < cnt pp) (hz : thk pp k ≠ 0) : takeT pp (k : Int) = addF pp k (-1) := by
  unfold takeT
  rw [h, inB_mk (show (0 : Int) ≤ (k : Int) ∧ (k : Int) ≤ ((cnt pp : Nat) : Int) - 1 by omega), Int.toNat_natCast, decide_eq_true hz]; rfl
end Go.Proofs.Ytggdnpaiaijhgaa

/- Contract of the model's FieldSizes. -/
import Derived.StillTailTactics
import Derived.BigRegion
import Derived.Test.YtiihenhddleooacSizes
namespace Go.Proofs.Ytiihenhddleooac
open Go.RowKit
set_option linter.unusedVariables false
set_option linter.unusedSimpArgs false
set_option maxRecDepth 100000 in
set_option maxHeartbeats 2000000 in
theorem sSizes_ok (pp : List (List Int)) (A : Option Addr) (c : Nat) (w : World) (hp : Pnd w w.heap.size A pp) (load : Int) :
    Calls Try.prog 13 #[.slice A pp.length c, .int .i64 load] w (OutSz (cnt pp) (nbP pp) (okF pp load) w) := by
  have Hv : Hid (pondB pp = true) := Lib.hid hp.1
  have hg := hp.2
  have hc := pond_cnt hp.1
  have hn : pp.length ≤ 1048576 := by have := pond_len hp.1; omega
  go_enter Try.func13, Try.ntmps13
  go_wp2_with fail
  refine (sVal_is _ _ _ _ _ hg hn Hv.out).mono ?_
  rintro e w' ⟨rfl, nv, rfl⟩
  go_wp2_with fail
  refine (regions_all (hp.drewN nv) load).mono ?_
  rintro e w1 ⟨fs, hlab, A1, c1, hl1, rfl, o1, b1'⟩
  have b1 : Below w.heap.size w w1 := (below_drewN (Below.refl _ _) nv).trans b1'
  obtain ⟨g1, rfl, hg1, hgl1, _, _⟩ := own_some o1 (by omega)
  have hg1 : w.heap.size ≤ g1 := hg1
  have HLab := Lib.hid hlab
  have HL := Lib.hid hl1
  have hbd := hlab.bd
  have hh := hlab.hi_lt
  have hh0 := hi_ge fs
  have hm0 := hi_toNat fs
  have HBD := Lib.hid hbd
  clear hbd hlab hl1 b1'
  generalize hM : (hi fs + 1).toNat = M at *
  have HM := Lib.hid hM
  have HM0 := Lib.hid hm0
  have hM1 : M ≤ 81 := by omega
  have HHI : Hid (∀ z ∈ fs, z < M) := Lib.hid fun z hz => by have := hi_le hz; omega
  clear hM hm0
  generalize hn : cnt pp = n at *
  have HN := Lib.hid hn
  clear hn
  have hmk := run_make_row' (P := Try.prog) 32 3 (.int .i64 0) 8 Try.underlying32 info_int rfl .i64 .i64 M (by omega) (by omega)
  go_wp2_with fail
  refine (highest_any _ fs HL.out _ _ _ _ (Rd.own o1) (by omega)).mono ?_
  rintro e w' ⟨rfl, rfl⟩
  have hM2 : hi fs = (M : Int) - 1 := by have := HM0.out; omega
  rw [hM2]
  have e1 : (M : Int) - 1 + 1 = (M : Int) := by omega
  have omk := own_made w1 (.int .i64 0) M 3 (by unfold maxLen; omega)
  have omk2 : (w1.alloc (.cells (madeCells #[Value.int .i64 0] M) 3)).ownsRow w1.heap.size 3 1 (.slice (some ⟨w1.heap.size, 0, none⟩) M M) M (ints (szT fs M 0)) := by
    rw [szT_zero]; simpa [ints] using omk
  have o12 := own_alloc o1 (.cells (madeCells #[Value.int .i64 0] M) 3)
  have b12 := b1.alloc b1.size (.cells (madeCells #[Value.int .i64 0] M) 3)
  have hb1s := b1.size
  have HST := Lib.hid (show SzRel w (w1.alloc (.cells (madeCells #[Value.int .i64 0] M) 3)) n M w1.heap.size g1 c1 fs (.int .i64 (0 : Nat)) from ⟨0, Nat.zero_le _, rfl, o12, ⟨_, hgl1, omk2⟩, b12, hb1s⟩)
  clear omk omk2 o12 b12 o1 b1 hgl1 hM2 hh hh0
  go_wp2
  go_loopw [7] (fun i wr => SzRel w wr n M w1.heap.size g1 c1 fs i) (fun i _ => n - (intOf i).toNat)
  case atStart => exact HST.out
  case round =>
    obtain ⟨k, hk, rfl, of, ⟨lo, hlo, os⟩, hbel, hgs⟩ := hrel
    by_cases hlt : k < n
    · have hcf := own_cell of (ints_at' (zs := fs) (k := k) (by rw [HL.out]; exact hlt))
      have hzk : fs[k]? = some (at_ fs k) := of_at (by rw [HL.out]; exact hlt)
      have hmem := List.mem_of_getElem? hzk
      have HZ := Lib.hid hzk
      have hzM := HHI.out _ hmem
      clear hzk hmem
      by_cases hneg : at_ fs k < 0
      · generalize at_ fs k = z at *
        go_wp2
        go_roundw
        case rel => exact ⟨k + 1, by omega, by go_num, of, ⟨lo, hlo, by rw [szT_neg HZ.out hneg]; exact os⟩, hbel, hgs⟩
        case measure => simp [intOf]; omega
      · obtain ⟨q, hq⟩ := Int.eq_ofNat_of_zero_le (show 0 ≤ at_ fs k by omega)
        have hq' : at_ fs k = (q : Int) := hq
        rw [hq'] at hcf hzM
        have HZ2 : Hid (fs[k]? = some (q : Int)) := Lib.hid (by rw [← hq']; exact HZ.out)
        clear HZ hneg hq hq'
        have hqM : q < M := by omega
        have hcs := own_cell os (ints_at' (zs := szT fs M k) (k := q) (by rw [szT_len]; exact hqM))
        have hfs := own_frozen os q
        have hcnt : 0 ≤ at_ (szT fs M k) q ∧ at_ (szT fs M k) q ≤ 81 := by
          rw [szT_at hqM]
          have := List.count_le_length (a := (q : Int)) (l := fs.take k)
          rw [List.length_take] at this
          omega
        have HSET := Lib.hid (szT_pos HZ2.out hqM)
        generalize at_ (szT fs M k) q = y at *
        have hw1 : IntKind.i64.wrap (y + 1) = y + 1 := IntWalk.i64_in _ (by omega)
        go_wp2
        go_still_tail 14, (by kernel_rfl)
        change wpList _ _ _ _ _ (wr.drewN 1)
        go_wp2
        go_roundw
        case rel =>
          refine ⟨k + 1, by omega, by go_num, own_other (own_drewN of 1) ?_ _, ⟨lo, hlo, ?_⟩, (below_drewN hbel 1).setCell (by simpa using hgs) _, hgs⟩
          · intro e; have := own_block os w1.heap.size rfl; simp [Value.ownBlock] at e; omega
          · rw [HSET.out, ← ints_set]; exact own_put (own_drewN os 1) q _
        case measure => simp [intOf]; omega
    · obtain rfl : k = n := by omega
      have hout : OutI (szF fs) w (.returned (.slice (some ⟨w1.heap.size, 0, none⟩) M M)) wr := by
        refine out_mk (n := M) ?_ ?_ hbel
        · unfold szF; rw [szT_len, HM.out]
        · unfold szF; rw [HM.out, HL.out]; exact own_base os (by omega)
      have R : OutSz k (nbP pp) (okF pp load) w (.returned (.slice (some ⟨w1.heap.size, 0, none⟩) M M)) wr := ⟨fs, HLab.out, hout⟩
      have HR := Lib.hid R
      clear R hout of os hbel
      go_wp2
      go_ret
      exact HR.out

end Go.Proofs.Ytiihenhddleooac

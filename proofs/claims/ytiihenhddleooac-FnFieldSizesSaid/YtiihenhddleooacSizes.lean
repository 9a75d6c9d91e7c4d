/- Contracts of FieldsOf and FieldSizes, of the program and of the model. -/
import Derived.BigRegion
import Derived.Test.YtiihenhddleooacRegions
import Derived.Test.YtiihenhddleooacGraphC
namespace Go.Proofs.Ytiihenhddleooac
open Go.RowKit
set_option linter.unusedVariables false
set_option linter.unusedSimpArgs false
section
variable {w : World} {A : Option Addr} {pp : List (List Int)} {c : Nat}
theorem iSafe_ok (hp : Pnd w w.heap.size A pp) (load : Int) : Calls Try.prog 15 #[.slice A pp.length c, .int .i64 load] w (OutBL (cnt pp) (safeF pp load) w) := by
  have h := iSafe_any pp A c w hp.2 load
  rw [safeT_ok hp.1] at h
  exact h.mono fun _ _ h => outB_n (safeF_len pp load) h
/-- fieldsOn of the cells that bear a load -/
theorem fieldsOn_safe (hp : Pnd w w.heap.size A pp) (load : Int) (As : Option Addr) (cs0 : Nat) (hs : Rd w w.heap.size As (bools (safeF pp load))) :
    Calls Try.prog 45 #[.slice A pp.length c, .slice As (cnt pp) cs0] w (OutLab (cnt pp) (nbP pp) (okF pp load) w) := by
  have h := fieldsOn_any pp A c w hp (safeF pp load) (safeF_len pp load) As cs0 hs
  rw [safeF_at] at h
  exact h
theorem regions_all (hp : Pnd w w.heap.size A pp) (load : Int) : Calls Try.prog 39 #[.slice A pp.length c, .int .i64 load, .int .i64 (-1)] w (OutLab (cnt pp) (nbP pp) (okF pp load) w) := by
  have h := regions_any pp A c w hp load (-1)
  rw [okB_none] at h
  exact h
theorem regions_but (hp : Pnd w w.heap.size A pp) (load : Int) (v : Nat) : Calls Try.prog 39 #[.slice A pp.length c, .int .i64 load, .int .i64 (v : Int)] w (OutLab (cnt pp) (nbP pp) (okW (okF pp load) v) w) := by
  have h := regions_any pp A c w hp load v
  rw [okB_W] at h
  exact h
theorem outLab_after {n : Nat} {nb : Nat → List Nat} {ok : Nat → Bool} {w w1 w' : World} {e : Ending} (hb : Below w.heap.size w w1) (h : OutLab n nb ok w1 e w') : OutLab n nb ok w e w' := by
  obtain ⟨fs, hl, A', c', h1, h2, h3, h4⟩ := h
  exact ⟨fs, hl, A', c', h1, h2, own_base h3 hb.size, hb.trans (h4.mono hb.size)⟩
end
set_option maxRecDepth 100000 in
set_option maxHeartbeats 400000 in
theorem iFields_no (pp : List (List Int)) (A : Option Addr) (c : Nat) (w : World) (hg : RdG w w.heap.size A pp) (hv : pondB pp = false) (load : Int) :
    Calls Try.prog 25 #[.slice A pp.length c, .int .i64 load] w (OutL 0 [] w) := by
  have Hv := Lib.hid hv
  clear hv
  go_enter Try.func25, Try.ntmps25
  go_wp2_with (go_at_call 14; refine (iVal_is _ _ _ _ _ hg Hv.out).mono ?_; rintro e w' ⟨rfl, rfl⟩)
  go_ret
  exact out_n rfl (out_nil w)
set_option maxRecDepth 100000 in
set_option maxHeartbeats 400000 in
theorem iFields_ok (pp : List (List Int)) (A : Option Addr) (c : Nat) (w : World) (hp : Pnd w w.heap.size A pp) (load : Int) :
    Calls Try.prog 25 #[.slice A pp.length c, .int .i64 load] w (OutLab (cnt pp) (nbP pp) (okF pp load) w) := by
  have Hv : Hid (pondB pp = true) := Lib.hid hp.1
  have hg := hp.2
  go_enter Try.func25, Try.ntmps25
  go_wp2_with fail
  refine (iVal_is _ _ _ _ _ hg Hv.out).mono ?_
  rintro e w' ⟨rfl, rfl⟩
  go_wp2_with fail
  refine (iSafe_ok hp load).mono ?_
  rintro e w1 ⟨A1, c1, _, rfl, o1, b1⟩
  go_wp2_with fail
  refine (fieldsOn_safe (hp.up b1) load _ _ (Rd.own o1)).mono ?_
  intro e w2 h2
  have R := outLab_after b1 h2
  obtain ⟨fs, hl, A', c', h1, rfl, h3, h4⟩ := h2
  have HR := Lib.hid R
  clear hl h1 h3 h4 R o1 b1
  go_wp2
  go_ret
  exact HR.out
/-- the sizes of M fields, of the first k cells -/
def szT (fs : List Int) (M k : Nat) : List Int := (List.range M).map (fun j : Nat => (((fs.take k).count (j : Int) : Nat) : Int))
def szF (fs : List Int) : List Int := szT fs (hi fs + 1).toNat fs.length
theorem szT_len (fs : List Int) (M k : Nat) : (szT fs M k).length = M := rg_len _ M
theorem szT_zero (fs : List Int) (M : Nat) : szT fs M 0 = List.replicate M 0 := by
  apply List.ext_getElem <;> simp [szT]
theorem szT_at {fs : List Int} {M k j : Nat} (h : j < M) : at_ (szT fs M k) j = (((fs.take k).count (j : Int) : Nat) : Int) := by
  refine at_of ?_
  unfold szT
  rw [List.getElem?_map, List.getElem?_range h]
  rfl
theorem szT_neg {fs : List Int} {M k : Nat} {z : Int} (hz : fs[k]? = some z) (h : z < 0) : szT fs M (k + 1) = szT fs M k := by
  unfold szT
  refine List.map_congr_left fun j _ => ?_
  rw [take_snoc hz, List.count_append]
  have : List.count (j : Int) [z] = 0 := by
    rw [List.count_eq_zero]
    simp
    omega
  rw [this, Nat.add_zero]
theorem szT_pos {fs : List Int} {M k q : Nat} (hz : fs[k]? = some (q : Int)) (h : q < M) : szT fs M (k + 1) = (szT fs M k).set q (at_ (szT fs M k) q + 1) := by
  rw [szT_at h]
  apply List.ext_getElem
  · simp [szT]
  · intro i h1 h2
    rw [List.getElem_set]
    simp only [szT, List.getElem_map, List.getElem_range]
    rw [take_snoc hz, List.count_append]
    by_cases e : q = i
    · subst e; simp
    · rw [if_neg e]
      have : List.count (i : Int) [(q : Int)] = 0 := by
        rw [List.count_eq_zero]
        simp
        omega
      rw [this, Nat.add_zero]
def OutSz (n : Nat) (nb : Nat → List Nat) (ok : Nat → Bool) (w : World) (e : Ending) (w' : World) : Prop :=
  ∃ fs, Lab n nb ok fs ∧ OutI (szF fs) w e w'
def SzRel (w wr : World) (n M g g1 c1 : Nat) (fs : List Int) (i : Value) : Prop :=
  ∃ k : Nat, k ≤ n ∧ i = .int .i64 k ∧ wr.ownsRow w.heap.size 3 1 (.slice (some ⟨g1, 0, none⟩) n c1) n (ints fs) ∧ (∃ lo, g1 < lo ∧ wr.ownsRow lo 3 1 (.slice (some ⟨g, 0, none⟩) M M) M (ints (szT fs M k))) ∧ Below w.heap.size w wr ∧ w.heap.size ≤ g
theorem hi_toNat (fs : List Int) : (((hi fs + 1).toNat : Nat) : Int) = hi fs + 1 := by have := hi_ge fs; omega
set_option maxRecDepth 100000 in
set_option maxHeartbeats 1000000 in
theorem iSizes_ok (pp : List (List Int)) (A : Option Addr) (c : Nat) (w : World) (hp : Pnd w w.heap.size A pp) (load : Int) :
    Calls Try.prog 11 #[.slice A pp.length c, .int .i64 load] w (OutSz (cnt pp) (nbP pp) (okF pp load) w) := by
  have Hv : Hid (pondB pp = true) := Lib.hid hp.1
  have hg := hp.2
  have hc := pond_cnt hp.1
  go_enter Try.func11, Try.ntmps11
  go_wp2_with fail
  refine (iVal_is _ _ _ _ _ hg Hv.out).mono ?_
  rintro e w' ⟨rfl, rfl⟩
  go_wp2_with fail
  refine (iFields_ok pp A c w hp load).mono ?_
  rintro e w1 ⟨fs, hlab, A1, c1, hl1, rfl, o1, b1⟩
  obtain ⟨g1, rfl, hg1, hgl1, _, _⟩ := own_some o1 (by omega)
  have HLab := Lib.hid hlab
  have HL := Lib.hid hl1
  have hbd := hlab.bd
  have hh := hlab.hi_lt
  have hh0 := hi_ge fs
  have hm0 := hi_toNat fs
  have HBD := Lib.hid hbd
  clear hbd hlab hl1
  generalize hM : (hi fs + 1).toNat = M at *
  have HM := Lib.hid hM
  have HM0 := Lib.hid hm0
  have hM1 : M ≤ 81 := by omega
  have HHI : Hid (∀ z ∈ fs, z < M) := Lib.hid fun z hz => by have := hi_le hz; omega
  clear hM hm0
  generalize hn : cnt pp = n at *
  have HN := Lib.hid hn
  clear hn
  have hmk := run_make_row' (P := Try.prog) 32 3 (.int .i64 0) 8 Try.underlying32 info_int rfl .i64 .i64 M (by omega) (by omega)
  go_wp2_with fail
  refine (fieldCount_any _ fs HL.out _ _ _ _ (Rd.own o1) (fun z hz => by have := HBD.out z hz; omega) (by omega)).mono ?_
  rintro e w' ⟨rfl, rfl⟩
  rw [← HM0.out]
  have omk := own_made w1 (.int .i64 0) M 3 (by unfold maxLen; omega)
  have omk2 : (w1.alloc (.cells (madeCells #[Value.int .i64 0] M) 3)).ownsRow w1.heap.size 3 1 (.slice (some ⟨w1.heap.size, 0, none⟩) M M) M (ints (szT fs M 0)) := by
    rw [szT_zero]; simpa [ints] using omk
  have o12 := own_alloc o1 (.cells (madeCells #[Value.int .i64 0] M) 3)
  have b12 := b1.alloc b1.size (.cells (madeCells #[Value.int .i64 0] M) 3)
  have hb1s := b1.size
  have HST := Lib.hid (show SzRel w (w1.alloc (.cells (madeCells #[Value.int .i64 0] M) 3)) n M w1.heap.size g1 c1 fs (.int .i64 (0 : Nat)) from ⟨0, Nat.zero_le _, rfl, o12, ⟨_, hgl1, omk2⟩, b12, hb1s⟩)
  clear omk omk2 o12 b12 o1 b1 hgl1
  go_wp2
  go_loopw [20] (fun i wr => SzRel w wr n M w1.heap.size g1 c1 fs i) (fun i _ => n - (intOf i).toNat)
  case atStart => exact HST.out
  case round =>
    obtain ⟨k, hk, rfl, of, ⟨lo, hlo, os⟩, hbel, hgs⟩ := hrel
    by_cases hlt : k < n
    · have hcf := own_cell of (ints_at' (zs := fs) (k := k) (by rw [HL.out]; exact hlt))
      have hzk : fs[k]? = some (at_ fs k) := of_at (by rw [HL.out]; exact hlt)
      have hmem := List.mem_of_getElem? hzk
      have HZ := Lib.hid hzk
      have hzM := HHI.out _ hmem
      clear hzk hmem
      by_cases hneg : at_ fs k < 0
      · generalize at_ fs k = z at *
        go_wp2
        go_roundw
        case rel => exact ⟨k + 1, by omega, by go_num, of, ⟨lo, hlo, by rw [szT_neg HZ.out hneg]; exact os⟩, hbel, hgs⟩
        case measure => simp [intOf]; omega
      · obtain ⟨q, hq⟩ := Int.eq_ofNat_of_zero_le (show 0 ≤ at_ fs k by omega)
        have hq' : at_ fs k = (q : Int) := hq
        rw [hq'] at hcf hzM
        have HZ2 : Hid (fs[k]? = some (q : Int)) := Lib.hid (by rw [← hq']; exact HZ.out)
        clear HZ hneg hq hq'
        have hqM : q < M := by omega
        have hcs := own_cell os (ints_at' (zs := szT fs M k) (k := q) (by rw [szT_len]; exact hqM))
        have hfs := own_frozen os q
        have hcnt : 0 ≤ at_ (szT fs M k) q ∧ at_ (szT fs M k) q ≤ 81 := by
          rw [szT_at hqM]
          have := List.count_le_length (a := (q : Int)) (l := fs.take k)
          rw [List.length_take] at this
          omega
        have HSET := Lib.hid (szT_pos HZ2.out hqM)
        generalize at_ (szT fs M k) q = y at *
        go_wp2
        go_roundw
        case rel =>
          refine ⟨k + 1, by omega, by go_num, own_other of ?_ _, ⟨lo, hlo, ?_⟩, hbel.setCell (by simpa using hgs) _, hgs⟩
          · intro e; have := own_block os w1.heap.size rfl; simp [Value.ownBlock] at e; omega
          · rw [HSET.out, ← ints_set]; exact own_put os q _
        case measure => simp [intOf]; omega
    · obtain rfl : k = n := by omega
      have hout : OutI (szF fs) w (.returned (.slice (some ⟨w1.heap.size, 0, none⟩) M M)) wr := by
        refine out_mk (n := M) ?_ ?_ hbel
        · unfold szF; rw [szT_len, HM.out]
        · unfold szF; rw [HM.out, HL.out]; exact own_base os (by omega)
      have R : OutSz k (nbP pp) (okF pp load) w (.returned (.slice (some ⟨w1.heap.size, 0, none⟩) M M)) wr := ⟨fs, HLab.out, hout⟩
      have HR := Lib.hid R
      clear R hout of os hbel
      go_wp2
      go_ret
      exact HR.out

end Go.Proofs.Ytiihenhddleooac

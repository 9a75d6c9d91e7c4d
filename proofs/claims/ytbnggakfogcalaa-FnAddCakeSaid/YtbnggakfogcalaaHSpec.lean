/- Contracts of chapter 5's model: cakes and faces. -/
import Derived.Test.YtbnggakfogcalaaHValidS
namespace Go.Proofs.Ytbnggakfogcalaa
open Go.RowKit
set_option linter.unusedVariables false
set_option linter.unusedSimpArgs false
set_option maxHeartbeats 800000 in
theorem sTotal_any (n : Nat) (zs : List Int) (hl : zs.length = n) (A : Option Addr) (c : Nat) (w : World) (B : Nat) (hr : Rd w B A (ints zs)) (hz : ∀ z ∈ zs, 0 ≤ z ∧ z ≤ 12) (hn : n ≤ 9) :
    Calls Try.prog 80 #[.slice A n c] w fun e w' => e = .returned (.int .i64 zs.sum) ∧ w = w' := by
  subst hl
  have Hrb : Hid (∀ j, 0 ≤ (zs.take j).sum ∧ (zs.take j).sum ≤ 108) := Lib.hid fun j => by have := sumTake_bd hz j; omega
  have HrL := Lib.hid hz
  clear hz
  go_enter Try.func80, Try.ntmps80
  go_wp2
  go_loop [3, 4] (fun s i => ∃ j : Nat, j ≤ zs.length ∧ i = .int .i64 j ∧ s = .int .i64 (zs.take j).sum) (fun _ i => zs.length - (intOf i).toNat)
  case atStart => exact ⟨0, Nat.zero_le _, rfl, by simp⟩
  case round =>
    obtain ⟨j, hj, rfl, rfl⟩ := hrel
    by_cases hjt : j < zs.length
    · obtain ⟨b1, o1, z, rfl, _, hz, hcc⟩ := hr.int_ hjt
      have Hq := Lib.hid (isum_snoc hz.out)
      have hij := Hrb.out j
      have hzb := HrL.out z (List.mem_of_getElem? hz.out)
      generalize (zs.take j).sum = rj at *
      go_wp2
      go_round
      case rel => exact ⟨j + 1, by omega, by go_num, by rw [Hq.out]⟩
      case measure => simp [intOf]; omega
    · obtain rfl : j = zs.length := by omega
      have Hjr : Hid (zs.take zs.length = zs) := Lib.hid (List.take_length)
      go_wp2
      go_ret
      exact ⟨by first | rfl | exact ret_int (by rw [Hjr.out]), rfl⟩
set_option maxHeartbeats 800000 in
theorem sCakes0_any (pp : List (List Int)) (A : Option Addr) (c : Nat) (w : World) (B : Nat) (hg : RdG w B A pp) (hv : heapB pp = true) :
    Calls Try.prog 55 #[.slice A pp.length c] w fun e w' => e = .returned (.int .i64 (cakesF pp)) ∧ w = w' := by
  have hl := grid_len hv
  have Hct : Hid (∀ k, 0 ≤ cakesF (pp.take k) ∧ cakesF (pp.take k) ≤ 972) := Lib.hid (cakesTake_bd hv)
  have Hrow : Hid (∀ (k : Nat) (r : List Int), pp[k]? = some r → r.length ≤ 9 ∧ ∀ z ∈ r, 0 ≤ z ∧ z ≤ 12) := Lib.hid fun k r h => ⟨(grid_row hv h).2.2.1, (grid_row hv h).2.2.2⟩
  clear hv
  go_enter Try.func55, Try.ntmps55
  go_wp2
  go_loop [3, 4] (fun s i => ∃ k : Nat, k ≤ pp.length ∧ i = .int .i64 k ∧ s = .int .i64 (cakesF (pp.take k))) (fun _ i => pp.length - (intOf i).toNat)
  case atStart => exact ⟨0, Nat.zero_le _, rfl, rfl⟩
  case round =>
    obtain ⟨k, hk, rfl, rfl⟩ := hrel
    have hct := Hct.out k
    by_cases hlt : k < pp.length
    · obtain ⟨b, off, row, A', c', rfl, hb, hrow, hc, _, _, hr⟩ := hg.row_ hlt
      have hrw := Hrow.out k row hrow.out
      have Hs : Hid (cakesF (pp.take (k + 1)) = cakesF (pp.take k) + row.sum) := Lib.hid (cakes_snoc hrow.out)
      have hrb := sumTake_bd hrw.2 row.length
      rw [List.take_length] at hrb
      have hrb2 : row.sum ≤ 108 := by omega
      have HT := Lib.hid (sTotal_any row.length row rfl A' c' w _ hr hrw.2 hrw.1)
      clear hrw hr
      generalize cakesF (pp.take k) = a at *
      generalize row.sum = rs at *
      go_wp2_with fail
      refine (HT.out).mono ?_
      rintro e w' ⟨rfl, rfl⟩
      go_wp2
      go_round
      case rel => exact ⟨k + 1, by omega, by go_num, by rw [Hs.out]⟩
      case measure => simp [intOf]; omega
    · have Hk : Hid (pp.take k = pp) := Lib.hid (List.take_of_length_le (by omega))
      go_wp2
      go_ret
      exact ⟨ret_int (by rw [Hk.out]), rfl⟩
set_option maxHeartbeats 800000 in
theorem sCakesH_any (pp : List (List Int)) (A : Option Addr) (c : Nat) (w : World) (B : Nat) (hg : RdG w B A pp) (hn : pp.length ≤ 1048576) :
    Calls Try.prog 22 #[.slice A pp.length c] w fun e w' => e = .returned (.int .i64 (cakesHT pp)) ∧ ∃ n, w' = w.drewN n := by
  cases hv : heapB pp
  · rw [cakesHT_no hv]
    have Hv := Lib.hid hv
    clear hv
    go_enter Try.func22, Try.ntmps22
    go_wp2_with (go_at_call 53; refine (sHp_is _ _ _ _ _ hg hn Hv.out).mono ?_; rintro e w' ⟨rfl, nv, rfl⟩)
    go_ret
    exact ⟨rfl, _, rfl⟩
  · rw [cakesHT_ok hv]
    have HC := Lib.hid (fun n : Nat => sCakes0_any pp A c (w.drewN n) B (hg.drewN n) hv)
    have Hv := Lib.hid hv
    clear hv
    go_enter Try.func22, Try.ntmps22
    go_wp2_with fail
    refine (sHp_is _ _ _ _ _ hg hn Hv.out).mono ?_
    rintro e w' ⟨rfl, nv, rfl⟩
    go_wp2_with fail
    refine (HC.out nv).mono ?_
    rintro e w' ⟨rfl, rfl⟩
    go_wp2
    go_ret
    exact ⟨rfl, _, rfl⟩
set_option maxHeartbeats 1000000 in
theorem sHgt_any (pp : List (List Int)) (A : Option Addr) (c : Nat) (w : World) (B : Nat) (hp : Pnd w B A pp) (x y : Int) :
    Calls Try.prog 81 #[.slice A pp.length c, .int .i64 x, .int .i64 y] w fun e w' => e = .returned (.int .i64 (hgt pp x y)) ∧ w = w' := by
  have hl := pond_len hp.1
  have hw := pond_wide hp.1
  cases hy : inB y 0 ((pp.length : Int) - 1)
  · have hy2 := inB_f hy
    rw [hgt_out (by omega)]
    have HI := Lib.hid (inR_is hy w)
    clear hy hy2
    go_enter Try.func81, Try.ntmps81
    go_wp2_with fail
    refine (HI.out).mono ?_
    rintro e w' ⟨rfl, rfl⟩
    go_wp2
    go_ret
    exact ⟨rfl, rfl⟩
  have hy2 := inB_t hy
  have HI := Lib.hid (inR_is hy w)
  obtain ⟨b0, off0, A00, c00, hA0, _, h00⟩ := hp.row0
  cases hx : inB x 0 ((wide pp : Int) - 1)
  · have hx2 := inB_f hx
    rw [hgt_out (by omega)]
    have HJ := Lib.hid (inR_is hx w)
    have i0 : 0 < pp.length := by omega
    subst hA0
    clear hy hy2 hx hx2 hp
    generalize wide pp = W at *
    go_enter Try.func81, Try.ntmps81
    go_wp2_with fail
    refine (HI.out).mono ?_
    rintro e w' ⟨rfl, rfl⟩
    go_wp2_with fail
    refine (HJ.out).mono ?_
    rintro e w' ⟨rfl, rfl⟩
    go_wp2
    go_ret
    exact ⟨rfl, rfl⟩
  have hx2 := inB_t hx
  have HJ := Lib.hid (inR_is hx w)
  clear hA0 h00
  obtain ⟨x', rfl⟩ := Int.eq_ofNat_of_zero_le (show 0 ≤ x by omega)
  obtain ⟨y', rfl⟩ := Int.eq_ofNat_of_zero_le (show 0 ≤ y by omega)
  have hxx : x' < wide pp := by omega
  have hyy : y' < pp.length := by omega
  rw [hgt_in hxx hyy]
  obtain ⟨b, off, A0, c0, b1, o1, c1, rfl, h0, hcy, hcx⟩ := hp.at_ hxx hyy
  clear hp hx hy
  generalize at2 pp x' y' = z at *
  generalize wide pp = W at *
  have i0 : 0 < pp.length := by omega
  go_enter Try.func81, Try.ntmps81
  go_wp2_with fail
  refine (HI.out).mono ?_
  rintro e w' ⟨rfl, rfl⟩
  go_wp2_with fail
  refine (HJ.out).mono ?_
  rintro e w' ⟨rfl, rfl⟩
  go_wp2
  go_ret
  exact ⟨rfl, rfl⟩
theorem ovF_max (a b : Int) : ovF a b = max 0 (a - b) := by unfold ovF; split <;> omega
theorem topF_min {a : Int} (h : 0 ≤ a) : topF a = min a 1 := by unfold topF; split <;> omega
set_option maxHeartbeats 1000000 in
theorem sFaces0_any (pp : List (List Int)) (A : Option Addr) (c : Nat) (w : World) (B : Nat) (hp : Pnd w B A pp) (hv : heapB pp = true) :
    Calls Try.prog 56 #[.slice A pp.length c] w fun e w' => e = .returned (.int .i64 (facesF pp)) ∧ w = w' := by
  have hl := pond_len hp.1
  have hw := pond_wide hp.1
  have HA : Hid (∀ u v : Int, Calls Try.prog 81 #[.slice A pp.length c, .int .i64 u, .int .i64 v] w fun e w' => e = .returned (.int .i64 (hgt pp u v)) ∧ w = w') := Lib.hid fun u v => sHgt_any pp A c w B hp u v
  have HHB : Hid (∀ u v : Int, 0 ≤ hgt pp u v ∧ hgt pp u v ≤ 12) := Lib.hid (heap_hgt hv)
  have Hb1 : Hid (∀ y j : Nat, j ≤ 9 → 0 ≤ S1 j (fun x => cellF pp x y) ∧ S1 j (fun x => cellF pp x y) ≤ 441) := Lib.hid (facesRow_bd hv)
  have Hb2 : Hid (∀ k, k ≤ 9 → 0 ≤ S2 (wide pp) k (fun x y => cellF pp x y) ∧ S2 (wide pp) k (fun x y => cellF pp x y) ≤ 3969) := Lib.hid (facesTo_bd hv)
  have HE : Hid (facesF pp = S2 (wide pp) pp.length (fun x y => cellF pp x y)) := Lib.hid rfl
  have HS2 : Hid (∀ k, S2 (wide pp) (k + 1) (fun x y => cellF pp x y) = S2 (wide pp) k (fun x y => cellF pp x y) + S1 (wide pp) (fun x => cellF pp x k)) := Lib.hid fun k => rfl
  have HCF : Hid (∀ x y : Int, cellF pp x y = min (hgt pp x y) 1 + max 0 (hgt pp x y - hgt pp (x - 1) y) + max 0 (hgt pp x y - hgt pp (x + 1) y) + max 0 (hgt pp x y - hgt pp x (y - 1)) + max 0 (hgt pp x y - hgt pp x (y + 1))) := Lib.hid fun x y => by
    unfold cellF
    rw [ovF_max, ovF_max, ovF_max, ovF_max, topF_min (heap_hgt hv x y).1]
  clear hv
  obtain ⟨b0, off0, A00, c00, hA0, _, h00⟩ := hp.row0
  rw [HE.out]
  generalize facesF pp = FF at *
  have i0 : 0 < pp.length := by omega
  subst hA0
  go_enter Try.func56, Try.ntmps56
  go_wp2
  go_loop [3, 4] (fun s i => ∃ k : Nat, k ≤ pp.length ∧ i = .int .i64 k ∧ s = .int .i64 (S2 (wide pp) k (fun x y => cellF pp x y))) (fun _ i => pp.length - (intOf i).toNat)
  case atStart => exact ⟨0, Nat.zero_le _, rfl, rfl⟩
  case round =>
    obtain ⟨k, hk, rfl, rfl⟩ := hrel
    have hct := Hb2.out k (by omega)
    by_cases hlt : k < pp.length
    · have Hs := Lib.hid (HS2.out k)
      have HSn : Hid (∀ j, S1 (j + 1) (fun x => cellF pp x k) = S1 j (fun x => cellF pp x k) + cellF pp j k) := Lib.hid fun j => rfl
      have hrb := Hb1.out k
      have HRB := Lib.hid hrb
      clear hrb
      generalize S2 (wide pp) k (fun x y => cellF pp x y) = a at *
      generalize hWW : wide pp = W at *
      have HWW := Lib.hid hWW
      clear hWW
      go_wp2
      go_loop [3, 5] (fun s i => ∃ j : Nat, j ≤ W ∧ i = .int .i64 j ∧ s = .int .i64 (a + S1 j (fun x => cellF pp x k))) (fun _ i => W - (intOf i).toNat)
      case atStart => exact ⟨0, Nat.zero_le _, rfl, by simp [S1]⟩
      case round =>
        obtain ⟨j, hj, rfl, rfl⟩ := hrel
        have hij := HRB.out j (by omega)
        by_cases hjt : j < W
        · obtain ⟨b, off, A0, c0, b1, o1, c1, e, h0, hcy, hcx⟩ := hp.at_ (x := j) (y := k) (by rw [HWW.out]; exact hjt) hlt
          injection e with e
          injection e with e1 e2
          subst e1 e2
          rw [HWW.out] at hcy
          have Hq := Lib.hid (HSn.out j)
          have HC := Lib.hid (HCF.out j k)
          have hz0 := HHB.out j k
          have hz1 := HHB.out ((j : Int) - 1) k
          have hz2 := HHB.out ((j : Int) + 1) k
          have hz3 := HHB.out j ((k : Int) - 1)
          have hz4 := HHB.out j ((k : Int) + 1)
          rw [← hgt_in (by rw [HWW.out]; exact hjt) hlt] at hcx
          generalize S1 j (fun x => cellF pp x k) = rj at *
          generalize hgt pp j k = z at *
          generalize cellF pp j k = CF at *
          go_wp2_with (go_at_call 81; refine (HA.out _ _).mono ?_; rintro e w' ⟨rfl, rfl⟩)
          all_goals
            go_round
            case rel => exact ⟨j + 1, by omega, by first | rfl | (congr 1; omega), by rw [Hq.out, HC.out]; congr 1; omega⟩
            case measure => simp [intOf]; omega
        · obtain rfl : j = W := by omega
          go_wp2
          go_round
          case rel => exact ⟨k + 1, by omega, by go_num, by rw [Hs.out]⟩
          case measure => simp [intOf]; omega
    · obtain rfl : k = pp.length := by omega
      go_wp2
      go_ret
      exact ⟨rfl, rfl⟩
set_option maxHeartbeats 800000 in
theorem sFaces_any (pp : List (List Int)) (A : Option Addr) (c : Nat) (w : World) (B : Nat) (hg : RdG w B A pp) (hn : pp.length ≤ 1048576) :
    Calls Try.prog 24 #[.slice A pp.length c] w fun e w' => e = .returned (.int .i64 (facesT pp)) ∧ ∃ n, w' = w.drewN n := by
  cases hv : heapB pp
  · rw [facesT_no hv]
    have Hv := Lib.hid hv
    clear hv
    go_enter Try.func24, Try.ntmps24
    go_wp2_with (go_at_call 53; refine (sHp_is _ _ _ _ _ hg hn Hv.out).mono ?_; rintro e w' ⟨rfl, nv, rfl⟩)
    go_ret
    exact ⟨rfl, _, rfl⟩
  · rw [facesT_ok hv]
    have HC := Lib.hid (fun n : Nat => sFaces0_any pp A c (w.drewN n) B ⟨heap_pond hv, hg.drewN n⟩ hv)
    have Hv := Lib.hid hv
    clear hv
    go_enter Try.func24, Try.ntmps24
    go_wp2_with fail
    refine (sHp_is _ _ _ _ _ hg hn Hv.out).mono ?_
    rintro e w' ⟨rfl, nv, rfl⟩
    go_wp2_with fail
    refine (HC.out nv).mono ?_
    rintro e w' ⟨rfl, rfl⟩
    go_wp2
    go_ret
    exact ⟨rfl, _, rfl⟩

end Go.Proofs.Ytbnggakfogcalaa

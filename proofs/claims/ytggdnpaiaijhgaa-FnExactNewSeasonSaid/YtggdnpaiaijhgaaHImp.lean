/- Contracts of chapter 5: cakes and faces, the program. -/
import Derived.Test.YtggdnpaiaijhgaaValid
import Derived.Test.YtggdnpaiaijhgaaHMathC
namespace Go.Proofs.Ytggdnpaiaijhgaa
open Go.RowKit
set_option linter.unusedVariables false
set_option linter.unusedSimpArgs false
theorem iHp_is {q : Bool} (pp : List (List Int)) (A : Option Addr) (c : Nat) (w : World) (B : Nat) (hg : RdG w B A pp) (h : heapB pp = q) :
    Calls Try.prog 126 #[.slice A pp.length c] w fun e w' => e = .returned (.bool q) ∧ w = w' := by
  have := iHeap_any pp A c w B hg
  rw [h] at this
  exact this
section
variable {w : World} {B : Nat} {A : Option Addr} {pp : List (List Int)}
theorem Pnd.at_ {x y : Nat} (h : Pnd w B A pp) (hx : x < wide pp) (hy : y < pp.length) : ∃ b off A0 c0 b1 o1 c1, A = some ⟨b, off, none⟩ ∧ w.cell? ⟨b, off, none⟩ = some (.slice A0 (wide pp) c0) ∧
    w.cell? ⟨b, off + y, none⟩ = some (.slice (some ⟨b1, o1, none⟩) (wide pp) c1) ∧ w.cell? ⟨b1, o1 + x, none⟩ = some (.int .i64 (at2 pp x y)) := by
  obtain ⟨b, off, A0, c0, rfl, hb, h0⟩ := h.row0
  obtain ⟨b', off', A', c', e, _, hc', hr, hl⟩ := h.rowk hy
  injection e with e
  injection e with e1 e2
  subst e1 e2
  obtain ⟨b1, o1, rfl, _, hc⟩ := hr.at_ (ints_at (k := x) (by rw [hl.out]; exact hx))
  exact ⟨b, off, A0, c0, b1, o1, c', rfl, h0, hc', hc⟩
end
theorem sumTake_bd {r : List Int} (h : ∀ z ∈ r, 0 ≤ z ∧ z ≤ 12) (j : Nat) : 0 ≤ (r.take j).sum ∧ (r.take j).sum ≤ 12 * r.length := by
  induction r generalizing j with
  | nil => simp
  | cons a r ih =>
    have h1 := h a (by simp)
    cases j with
    | zero => simp; omega
    | succ j =>
      have h2 := ih (fun z hz => h z (by simp [hz])) j
      rw [List.take_succ_cons, List.sum_cons, List.length_cons]
      omega
theorem cakesTake_bd {pp : List (List Int)} (h : heapB pp = true) (k : Nat) : 0 ≤ cakesF (pp.take k) ∧ cakesF (pp.take k) ≤ 972 := by
  have hl := grid_len h
  have hr : ∀ r ∈ pp, 0 ≤ r.sum ∧ r.sum ≤ 108 := fun r hr => by
    obtain ⟨j, hj, e⟩ := List.getElem_of_mem hr
    obtain ⟨_, _, g3, g4⟩ := grid_row h (k := j) (row := r) (by rw [List.getElem?_eq_getElem hj, e])
    have := sumTake_bd g4 r.length
    rw [List.take_length] at this
    omega
  have : ∀ (qq : List (List Int)) (k : Nat), (∀ r ∈ qq, 0 ≤ r.sum ∧ r.sum ≤ 108) → 0 ≤ cakesF (qq.take k) ∧ cakesF (qq.take k) ≤ 108 * qq.length := by
    intro qq
    induction qq with
    | nil => intro k _; simp [cakesF]
    | cons a qq ih =>
      intro k hq
      have h1 := hq a (by simp)
      cases k with
      | zero => simp [cakesF]; omega
      | succ k =>
        have h2 := ih k (fun z hz => hq z (by simp [hz]))
        rw [List.take_succ_cons]
        unfold cakesF at *
        rw [List.map_cons, List.sum_cons, List.length_cons]
        omega
  have := this pp k hr
  omega
theorem cakes_snoc {pp : List (List Int)} {k : Nat} {r : List Int} (h : pp[k]? = some r) : cakesF (pp.take (k + 1)) = cakesF (pp.take k) + r.sum := by
  unfold cakesF
  rw [take_snoc h]
  simp
theorem isum_snoc {r : List Int} {k : Nat} {z : Int} (h : r[k]? = some z) : (r.take (k + 1)).sum = (r.take k).sum + z := by
  rw [take_snoc h]
  simp
set_option maxRecDepth 100000 in
set_option maxHeartbeats 800000 in
theorem iCakesH_any (pp : List (List Int)) (A : Option Addr) (c : Nat) (w : World) (B : Nat) (hg : RdG w B A pp) :
    Calls Try.prog 100 #[.slice A pp.length c] w fun e w' => e = .returned (.int .i64 (cakesHT pp)) ∧ w = w' := by
  cases hv : heapB pp
  · rw [cakesHT_no hv]
    have Hv := Lib.hid hv
    clear hv
    go_enter Try.func100, Try.ntmps100
    go_wp2_with (go_at_call 126; refine (iHp_is _ _ _ _ _ hg Hv.out).mono ?_; rintro e w' ⟨rfl, rfl⟩)
    go_ret
    exact ⟨rfl, rfl⟩
  · rw [cakesHT_ok hv]
    have hl := grid_len hv
    have Hct : Hid (∀ k, 0 ≤ cakesF (pp.take k) ∧ cakesF (pp.take k) ≤ 972) := Lib.hid (cakesTake_bd hv)
    have Hrow : Hid (∀ (k : Nat) (r : List Int), pp[k]? = some r → r.length ≤ 9 ∧ ∀ z ∈ r, 0 ≤ z ∧ z ≤ 12) := Lib.hid fun k r h => ⟨(grid_row hv h).2.2.1, (grid_row hv h).2.2.2⟩
    have Hv := Lib.hid hv
    clear hv
    go_enter Try.func100, Try.ntmps100
    go_wp2_with (go_at_call 126; refine (iHp_is _ _ _ _ _ hg Hv.out).mono ?_; rintro e w' ⟨rfl, rfl⟩)
    go_loop [3, 13] (fun s i => ∃ k : Nat, k ≤ pp.length ∧ i = .int .i64 k ∧ s = .int .i64 (cakesF (pp.take k))) (fun _ i => pp.length - (intOf i).toNat)
    case atStart => exact ⟨0, Nat.zero_le _, rfl, rfl⟩
    case round =>
      obtain ⟨k, hk, rfl, rfl⟩ := hrel
      have hct := Hct.out k
      by_cases hlt : k < pp.length
      · obtain ⟨b, off, row, A', c', rfl, hb, hrow, hc, _, _, hr⟩ := hg.row_ hlt
        have hrw := Hrow.out k row hrow.out
        have Hs : Hid (cakesF (pp.take (k + 1)) = cakesF (pp.take k) + row.sum) := Lib.hid (cakes_snoc hrow.out)
        have Hrb : Hid (∀ j, 0 ≤ (row.take j).sum ∧ (row.take j).sum ≤ 108) := Lib.hid fun j => by have := sumTake_bd hrw.2 j; omega
        have HrL := Lib.hid hrw.2
        have hr9 := hrw.1
        clear hrw
        generalize cakesF (pp.take k) = a at *
        go_wp2
        go_loop [3, 19] (fun s i => ∃ j : Nat, j ≤ row.length ∧ i = .int .i64 j ∧ s = .int .i64 (a + (row.take j).sum)) (fun _ i => row.length - (intOf i).toNat)
        case atStart => exact ⟨0, Nat.zero_le _, rfl, by simp⟩
        case round =>
          obtain ⟨j, hj, rfl, rfl⟩ := hrel
          by_cases hjt : j < row.length
          · obtain ⟨b1, o1, z, rfl, _, hz, hcc⟩ := hr.int_ hjt
            have Hq := Lib.hid (isum_snoc hz.out)
            have hij := Hrb.out j
            have hzb := HrL.out z (List.mem_of_getElem? hz.out)
            generalize (row.take j).sum = rj at *
            go_wp2
            go_round
            case rel => exact ⟨j + 1, by omega, by go_num, by rw [Hq.out]; first | go_num | (congr 1; omega)⟩
            case measure => simp [intOf]; omega
          · obtain rfl : j = row.length := by omega
            have Hjr : Hid (row.take row.length = row) := Lib.hid (List.take_length)
            go_wp2
            go_round
            case rel => exact ⟨k + 1, by omega, by go_num, by rw [Hs.out, Hjr.out]⟩
            case measure => simp [intOf]; omega
      · have Hk : Hid (pp.take k = pp) := Lib.hid (List.take_of_length_le (by omega))
        go_wp2
        go_ret
        exact ⟨ret_int (by rw [Hk.out]), rfl⟩
set_option maxRecDepth 100000 in
set_option maxHeartbeats 1000000 in
theorem iOver_any (pp : List (List Int)) (A : Option Addr) (c : Nat) (w : World) (B : Nat) (hp : Pnd w B A pp) (a x y : Int) (ha : 0 ≤ a ∧ a ≤ 12) (hb : heapB pp = true) :
    Calls Try.prog 148 #[.int .i64 a, .slice A pp.length c, .int .i64 x, .int .i64 y] w fun e w' => e = .returned (.int .i64 (ovF a (hgt pp x y))) ∧ w = w' := by
  have hl := pond_len hp.1
  have hw := pond_wide hp.1
  obtain ⟨a0, a1⟩ := ha
  have ov0 : ovF a 0 = a := by unfold ovF; rw [if_neg (by omega)]; omega
  by_cases h1 : y < 0
  · rw [hgt_out (by omega), ov0]
    clear ov0 hb
    go_enter Try.func148, Try.ntmps148
    go_wp2
    go_ret
    exact ⟨rfl, rfl⟩
  by_cases h2 : (pp.length : Int) ≤ y
  · rw [hgt_out (by omega), ov0]
    have h3 : ¬ y < 0 := h1
    clear ov0 hb
    go_enter Try.func148, Try.ntmps148
    go_wp2
    go_ret
    exact ⟨rfl, rfl⟩
  by_cases h3 : x < 0
  · rw [hgt_out (by omega), ov0]
    have h4 : y < (pp.length : Int) := by omega
    clear ov0 hb
    go_enter Try.func148, Try.ntmps148
    go_wp2
    go_ret
    exact ⟨rfl, rfl⟩
  obtain ⟨b0, off0, A00, c00, hA0, _, h00⟩ := hp.row0
  by_cases h4 : (wide pp : Int) ≤ x
  · rw [hgt_out (by omega), ov0]
    have h5 : y < (pp.length : Int) := by omega
    have i0 : 0 < pp.length := by omega
    subst hA0
    clear ov0 hb hp
    generalize wide pp = W at *
    go_enter Try.func148, Try.ntmps148
    go_wp2
    go_ret
    exact ⟨rfl, rfl⟩
  clear hA0 h00
  obtain ⟨x', rfl⟩ := Int.eq_ofNat_of_zero_le (show 0 ≤ x by omega)
  obtain ⟨y', rfl⟩ := Int.eq_ofNat_of_zero_le (show 0 ≤ y by omega)
  have hx : x' < wide pp := by omega
  have hy : y' < pp.length := by omega
  rw [hgt_in hx hy]
  have hz := heap_at2 hb hx hy
  obtain ⟨b, off, A0, c0, b1, o1, c1, rfl, h0, hcy, hcx⟩ := hp.at_ hx hy
  clear hp hb ov0 h1 h2 h3 h4
  generalize at2 pp x' y' = z at *
  generalize wide pp = W at *
  have i0 : 0 < pp.length := by omega
  by_cases hlt : a < z
  · have e : ovF a z = 0 := by unfold ovF; rw [if_pos hlt]
    rw [e]
    clear e
    go_enter Try.func148, Try.ntmps148
    go_wp2
    go_ret
    exact ⟨rfl, rfl⟩
  · have e : ovF a z = a - z := by unfold ovF; rw [if_neg hlt]
    rw [e]
    clear e
    have hle : z ≤ a := by omega
    go_enter Try.func148, Try.ntmps148
    go_wp2
    go_ret
    exact ⟨rfl, rfl⟩
set_option maxRecDepth 100000 in
set_option maxHeartbeats 1000000 in
theorem iFacesAt_any (pp : List (List Int)) (A : Option Addr) (c : Nat) (w : World) (B : Nat) (hp : Pnd w B A pp) (hv : heapB pp = true) (x y : Nat) (hx : x < wide pp) (hy : y < pp.length) :
    Calls Try.prog 141 #[.slice A pp.length c, .int .i64 (x : Nat), .int .i64 (y : Nat)] w fun e w' => e = .returned (.int .i64 (cellF pp x y)) ∧ w = w' := by
  have hl := pond_len hp.1
  have hw := pond_wide hp.1
  have hz := heap_at2 hv hx hy
  have HO : Hid (∀ u v : Int, Calls Try.prog 148 #[.int .i64 (at2 pp x y), .slice A pp.length c, .int .i64 u, .int .i64 v] w fun e w' => e = .returned (.int .i64 (ovF (at2 pp x y) (hgt pp u v))) ∧ w = w') := Lib.hid fun u v => iOver_any pp A c w B hp _ u v hz hv
  have HB : Hid (∀ u v : Int, 0 ≤ ovF (at2 pp x y) (hgt pp u v) ∧ ovF (at2 pp x y) (hgt pp u v) ≤ 12) := Lib.hid fun u v => ⟨ovF_nn, Int.le_trans (ovF_le (heap_hgt hv _ _).1 hz.1) hz.2⟩
  have Hzero := Lib.hid (fun h => cellF_zero (x := x) (y := y) hv h)
  have HC : Hid (cellF pp x y = topF (at2 pp x y) + ovF (at2 pp x y) (hgt pp ((x : Int) - 1) y) + ovF (at2 pp x y) (hgt pp ((x : Int) + 1) y) + ovF (at2 pp x y) (hgt pp x ((y : Int) - 1)) + ovF (at2 pp x y) (hgt pp x ((y : Int) + 1))) := Lib.hid (by unfold cellF; rw [hgt_in hx hy])
  have HG := Lib.hid (hgt_in hx hy)
  obtain ⟨b, off, A0, c0, b1, o1, c1, rfl, h0, hcy, hcx⟩ := hp.at_ hx hy
  clear hp hv
  generalize at2 pp x y = z at *
  by_cases h1 : z = 0
  · subst h1
    have e := Hzero.out HG.out
    rw [e]
    clear e
    generalize wide pp = W at *
    go_enter Try.func141, Try.ntmps141
    go_wp2
    go_ret
    exact ⟨rfl, rfl⟩
  · have hzb : (z == 0) = false := beq_eq_false_iff_ne.2 h1
    have ht : topF z = 1 := by unfold topF; rw [if_neg (by omega)]
    rw [HC.out, ht]
    clear ht Hzero HG HC
    have b1' := HB.out ((x : Int) - 1) y
    have b2' := HB.out ((x : Int) + 1) y
    have b3' := HB.out x ((y : Int) - 1)
    have b4' := HB.out x ((y : Int) + 1)
    have H1 := Lib.hid (HO.out ((x : Int) - 1) y)
    have H2 := Lib.hid (HO.out ((x : Int) + 1) y)
    have H3 := Lib.hid (HO.out x ((y : Int) - 1))
    have H4 := Lib.hid (HO.out x ((y : Int) + 1))
    clear HO HB
    generalize ovF z (hgt pp ((x : Int) - 1) y) = o1 at *
    generalize ovF z (hgt pp ((x : Int) + 1) y) = o2 at *
    generalize ovF z (hgt pp x ((y : Int) - 1)) = o3 at *
    generalize ovF z (hgt pp x ((y : Int) + 1)) = o4 at *
    generalize wide pp = W at *
    go_enter Try.func141, Try.ntmps141
    go_wp2_with fail
    refine (H1.out).mono ?_
    rintro e w' ⟨rfl, rfl⟩
    go_wp2_with fail
    refine (H2.out).mono ?_
    rintro e w' ⟨rfl, rfl⟩
    go_wp2_with fail
    refine (H3.out).mono ?_
    rintro e w' ⟨rfl, rfl⟩
    go_wp2_with fail
    refine (H4.out).mono ?_
    rintro e w' ⟨rfl, rfl⟩
    go_wp2
    go_ret
    exact ⟨rfl, rfl⟩
theorem facesRow_bd {pp : List (List Int)} (h : heapB pp = true) (y : Nat) (j : Nat) (hj : j ≤ 9) : 0 ≤ S1 j (fun x => cellF pp x y) ∧ S1 j (fun x => cellF pp x y) ≤ 441 := by
  have h1 := S1_bd (n := j) (f := fun x => cellF pp x y) (c := 49) fun x _ => (cellF_bd h _ _).2.2
  exact ⟨S1_nn fun x _ => (cellF_bd h _ _).1, by omega⟩
theorem facesTo_bd {pp : List (List Int)} (h : heapB pp = true) (k : Nat) (hk : k ≤ 9) : 0 ≤ S2 (wide pp) k (fun x y => cellF pp x y) ∧ S2 (wide pp) k (fun x y => cellF pp x y) ≤ 3969 := by
  have hw := pond_wide (heap_pond h)
  have h1 := S1_bd (n := k) (f := fun y => S1 (wide pp) (fun x => cellF pp x y)) (c := 441) fun y _ => (facesRow_bd h y _ hw.2).2
  refine ⟨S2_nn fun x y _ _ => (cellF_bd h _ _).1, ?_⟩
  show S1 k (fun y => S1 (wide pp) (fun x => cellF pp x y)) ≤ 3969
  omega
set_option maxRecDepth 100000 in
set_option maxHeartbeats 1000000 in
theorem iFaces_any (pp : List (List Int)) (A : Option Addr) (c : Nat) (w : World) (B : Nat) (hg : RdG w B A pp) :
    Calls Try.prog 127 #[.slice A pp.length c] w fun e w' => e = .returned (.int .i64 (facesT pp)) ∧ w = w' := by
  cases hv : heapB pp
  · rw [facesT_no hv]
    have Hv := Lib.hid hv
    clear hv
    go_enter Try.func127, Try.ntmps127
    go_wp2_with (go_at_call 126; refine (iHp_is _ _ _ _ _ hg Hv.out).mono ?_; rintro e w' ⟨rfl, rfl⟩)
    go_ret
    exact ⟨rfl, rfl⟩
  · rw [facesT_ok hv]
    have hp : Pnd w B A pp := ⟨heap_pond hv, hg⟩
    have hl := pond_len hp.1
    have hw := pond_wide hp.1
    have HA : Hid (∀ x y : Nat, x < wide pp → y < pp.length → Calls Try.prog 141 #[.slice A pp.length c, .int .i64 (x : Nat), .int .i64 (y : Nat)] w fun e w' => e = .returned (.int .i64 (cellF pp x y)) ∧ w = w') := Lib.hid fun x y hx hy => iFacesAt_any pp A c w B hp hv x y hx hy
    have Hb1 : Hid (∀ y j : Nat, j ≤ 9 → 0 ≤ S1 j (fun x => cellF pp x y) ∧ S1 j (fun x => cellF pp x y) ≤ 441) := Lib.hid (facesRow_bd hv)
    have Hb2 : Hid (∀ k, k ≤ 9 → 0 ≤ S2 (wide pp) k (fun x y => cellF pp x y) ∧ S2 (wide pp) k (fun x y => cellF pp x y) ≤ 3969) := Lib.hid (facesTo_bd hv)
    have Hb3 : Hid (∀ x y : Nat, 0 ≤ cellF pp x y ∧ cellF pp x y ≤ 49) := Lib.hid fun x y => ⟨(cellF_bd hv x y).1, (cellF_bd hv x y).2.2⟩
    have HE : Hid (facesF pp = S2 (wide pp) pp.length (fun x y => cellF pp x y)) := Lib.hid rfl
    have HS2 : Hid (∀ k, S2 (wide pp) (k + 1) (fun x y => cellF pp x y) = S2 (wide pp) k (fun x y => cellF pp x y) + S1 (wide pp) (fun x => cellF pp x k)) := Lib.hid fun k => rfl
    have Hv := Lib.hid hv
    clear hv
    rw [HE.out]
    generalize facesF pp = FF at *
    go_enter Try.func127, Try.ntmps127
    go_wp2_with (go_at_call 126; refine (iHp_is _ _ _ _ _ hg Hv.out).mono ?_; rintro e w' ⟨rfl, rfl⟩)
    go_loop [3, 12] (fun s i => ∃ k : Nat, k ≤ pp.length ∧ i = .int .i64 k ∧ s = .int .i64 (S2 (wide pp) k (fun x y => cellF pp x y))) (fun _ i => pp.length - (intOf i).toNat)
    case atStart => exact ⟨0, Nat.zero_le _, rfl, rfl⟩
    case round =>
      obtain ⟨k, hk, rfl, rfl⟩ := hrel
      have hct := Hb2.out k (by omega)
      by_cases hlt : k < pp.length
      · obtain ⟨b, off, A', c', rfl, hb, hc, hr, hrl⟩ := hp.rowk hlt
        have Hs := Lib.hid (HS2.out k)
        have Hcell : Hid (∀ x : Nat, x < wide pp → Calls Try.prog 141 #[.slice (some ⟨b, off, none⟩) pp.length c, .int .i64 (x : Nat), .int .i64 (k : Nat)] w fun e w' => e = .returned (.int .i64 (cellF pp x k)) ∧ w = w') := Lib.hid fun x hx => HA.out x k hx hlt
        have HSn : Hid (∀ j, S1 (j + 1) (fun x => cellF pp x k) = S1 j (fun x => cellF pp x k) + cellF pp j k) := Lib.hid fun j => rfl
        have hrb := Hb1.out k
        have HRB := Lib.hid hrb
        clear hrb
        generalize S2 (wide pp) k (fun x y => cellF pp x y) = a at *
        generalize hWW : wide pp = W at *
        clear hWW
        go_wp2
        go_loop [3, 19] (fun s i => ∃ j : Nat, j ≤ W ∧ i = .int .i64 j ∧ s = .int .i64 (a + S1 j (fun x => cellF pp x k))) (fun _ i => W - (intOf i).toNat)
        case atStart => exact ⟨0, Nat.zero_le _, rfl, by simp [S1]⟩
        case round =>
          obtain ⟨j, hj, rfl, rfl⟩ := hrel
          have hij := HRB.out j (by omega)
          by_cases hjt : j < W
          · have Hq := Lib.hid (HSn.out j)
            have hcb := Hb3.out j k
            have HCj := Lib.hid (Hcell.out j hjt)
            generalize S1 j (fun x => cellF pp x k) = rj at *
            generalize cellF pp j k = z at *
            go_wp2_with fail
            refine (HCj.out).mono ?_
            rintro e w' ⟨rfl, rfl⟩
            go_wp2
            go_round
            case rel => exact ⟨j + 1, by omega, by go_num, by rw [Hq.out]; first | go_num | (congr 1; omega)⟩
            case measure => simp [intOf]; omega
          · obtain rfl : j = W := by omega
            go_wp2
            go_round
            case rel => exact ⟨k + 1, by omega, by go_num, by rw [Hs.out]⟩
            case measure => simp [intOf]; omega
      · obtain rfl : k = pp.length := by omega
        go_wp2
        go_ret
        exact ⟨rfl, rfl⟩

end Go.Proofs.Ytggdnpaiaijhgaa

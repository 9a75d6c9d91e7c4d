/- Contracts of chapter 2: whether a pond is valid, whatever is behind it. -/
import Derived.Test.YtggdnpaiaijhgaaCells
import Derived.Test.YtggdnpaiaijhgaaHMath
namespace Go.Proofs.Ytggdnpaiaijhgaa
open Go.RowKit
set_option linter.unusedVariables false
set_option linter.unusedSimpArgs false
theorem rowB_len {r : List Int} (h : ¬(1 ≤ r.length ∧ r.length ≤ 9)) : rowB r = false := by unfold rowB; rw [decide_eq_false h]; rfl
theorem rowB_all {r : List Int} (h : 1 ≤ r.length ∧ r.length ≤ 9) : rowB r = r.all (fun z => inB z 0 999) := by unfold rowB; rw [decide_eq_true h]; rfl
theorem pondB_len {pp : List (List Int)} (h : ¬(1 ≤ pp.length ∧ pp.length ≤ 9)) : pondB pp = false := by unfold pondB; rw [decide_eq_false h]; rfl
theorem pondB_rows {pp : List (List Int)} (h : 1 ≤ pp.length ∧ pp.length ≤ 9) : pondB pp = rowsB (wide pp) pp := by unfold pondB; rw [decide_eq_true h]; rfl
theorem rowsB_no {W k : Nat} {pp : List (List Int)} {row : List Int} (hk : pp[k]? = some row) (h : row.length = W → rowB row = false) : rowsB W pp = false := by
  unfold rowsB
  rw [List.all_eq_false]
  refine ⟨row, List.mem_of_getElem? hk, ?_⟩
  simp only [Bool.and_eq_true, decide_eq_true_eq]
  rintro ⟨h1, h2⟩
  rw [h h1] at h2
  cases h2
theorem rowsB_snoc {W k : Nat} {pp : List (List Int)} {row : List Int} (hk : pp[k]? = some row) (h0 : rowsB W (pp.take k) = true) (h : row.length = W) (h1 : rowB row = true) : rowsB W (pp.take (k + 1)) = true := by
  unfold rowsB at *
  rw [take_snoc hk, List.all_append, h0]
  simp [h, h1]
theorem rowM_len {M : Int} {r : List Int} (h : ¬(1 ≤ r.length ∧ r.length ≤ 9)) : rowM M r = false := by unfold rowM; rw [decide_eq_false h]; rfl
theorem rowM_all {M : Int} {r : List Int} (h : 1 ≤ r.length ∧ r.length ≤ 9) : rowM M r = r.all (fun z => inB z 0 M) := by unfold rowM; rw [decide_eq_true h]; rfl
theorem gridB_len {M : Int} {pp : List (List Int)} (h : ¬(1 ≤ pp.length ∧ pp.length ≤ 9)) : gridB M pp = false := by unfold gridB; rw [decide_eq_false h]; rfl
theorem gridB_rows {M : Int} {pp : List (List Int)} (h : 1 ≤ pp.length ∧ pp.length ≤ 9) : gridB M pp = rowsM M (wide pp) pp := by unfold gridB; rw [decide_eq_true h]; rfl
theorem rowsM_no {M : Int} {W k : Nat} {pp : List (List Int)} {row : List Int} (hk : pp[k]? = some row) (h : row.length = W → rowM M row = false) : rowsM M W pp = false := by
  unfold rowsM
  rw [List.all_eq_false]
  refine ⟨row, List.mem_of_getElem? hk, ?_⟩
  simp only [Bool.and_eq_true, decide_eq_true_eq]
  rintro ⟨h1, h2⟩
  rw [h h1] at h2
  cases h2
theorem rowsM_snoc {M : Int} {W k : Nat} {pp : List (List Int)} {row : List Int} (hk : pp[k]? = some row) (h0 : rowsM M W (pp.take k) = true) (h : row.length = W) (h1 : rowM M row = true) : rowsM M W (pp.take (k + 1)) = true := by
  unfold rowsM at *
  rw [take_snoc hk, List.all_append, h0]
  simp [h, h1]
section
variable {w : World} {B : Nat} {A : Option Addr} {pp : List (List Int)}
theorem RdG.first (h : RdG w B A pp) (hk : 0 < pp.length) : ∃ b off A0 c0, A = some ⟨b, off, none⟩ ∧ w.cell? ⟨b, off, none⟩ = some (.slice A0 (wide pp) c0) := by
  obtain ⟨b, off, row, A', c', e, hb, hrow, hc, _, _, _⟩ := h.row_ hk
  have h1 : wide pp = row.length := by unfold wide; rw [List.getD_eq_getElem?_getD, hrow.out]; rfl
  rw [← h1] at hc
  exact ⟨b, off, A', c', e, hc⟩
end
set_option maxRecDepth 100000 in
set_option maxHeartbeats 400000 in
theorem iRow_any (n : Nat) (zs : List Int) (hn : zs.length = n) (A : Option Addr) (c : Nat) (w : World) (B : Nat) (hr : Rd w B A (ints zs)) (M : Int) :
    Calls Try.prog 116 #[.slice A n c, .int .i64 M] w fun e w' => e = .returned (.bool (rowM M zs)) ∧ w = w' := by
  subst hn
  by_cases hl : 1 ≤ zs.length ∧ zs.length ≤ 9
  · rw [rowM_all hl]
    obtain ⟨l1, l2⟩ := hl
    go_enter Try.func116, Try.ntmps116
    go_wp2
    go_loop [17] (fun i => ∃ k : Nat, k ≤ zs.length ∧ i = .int .i64 k ∧ (zs.take k).all (fun z => inB z 0 M) = true) (fun i => zs.length - (intOf i).toNat)
    case atStart => exact ⟨0, Nat.zero_le _, rfl, by simp⟩
    case round =>
      obtain ⟨k, hk, rfl, ha⟩ := hrel
      have Ha := Lib.hid ha
      clear ha
      by_cases hlt : k < zs.length
      · obtain ⟨b, off, z, rfl, hb, hz, hc⟩ := hr.int_ hlt
        by_cases z1 : z < 0
        · have Hq : Hid (inB z 0 M = false) := Lib.hid (inB_nk (by omega))
          go_wp2
          go_ret
          exact ⟨ret_bool (by rw [all_false hz.out Hq.out]), rfl⟩
        · by_cases z2 : M < z
          · have Hq : Hid (inB z 0 M = false) := Lib.hid (inB_nk (by omega))
            go_wp2
            go_ret
            exact ⟨ret_bool (by rw [all_false hz.out Hq.out]), rfl⟩
          · have Hq : Hid (inB z 0 M = true) := Lib.hid (inB_mk (by omega))
            go_wp2
            go_round
            case rel => exact ⟨k + 1, by omega, by go_num, by rw [take_snoc hz.out, List.all_append, Ha.out]; simp [Hq.out]⟩
            case measure => simp [intOf]; omega
      · have Hk : Hid (k = zs.length) := Lib.hid (by omega)
        go_wp2
        go_ret
        refine ⟨ret_bool ?_, rfl⟩
        have h := Ha.out
        rw [Hk.out, List.take_length] at h
        rw [h]
  · rw [rowM_len hl]
    by_cases l1 : zs.length < 1
    · go_enter Try.func116, Try.ntmps116
      go_wp2
      go_ret
      exact ⟨rfl, rfl⟩
    · have l2 : 9 < zs.length := by omega
      have l3 : 1 ≤ zs.length := by omega
      clear hl l1
      go_enter Try.func116, Try.ntmps116
      go_wp2
      go_ret
      exact ⟨rfl, rfl⟩
set_option maxRecDepth 100000 in
set_option maxHeartbeats 800000 in
theorem iGrid_any (pp : List (List Int)) (A : Option Addr) (c : Nat) (w : World) (B : Nat) (hg : RdG w B A pp) (M : Int) :
    Calls Try.prog 84 #[.slice A pp.length c, .int .i64 M] w fun e w' => e = .returned (.bool (gridB M pp)) ∧ w = w' := by
  by_cases hl : 1 ≤ pp.length ∧ pp.length ≤ 9
  · rw [gridB_rows hl]
    obtain ⟨l1, l2⟩ := hl
    obtain ⟨b, off, A0, c0, rfl, h0⟩ := hg.first (by omega)
    generalize wide pp = W at *
    go_enter Try.func84, Try.ntmps84
    go_wp2
    go_loop [17] (fun i => ∃ k : Nat, k ≤ pp.length ∧ i = .int .i64 k ∧ rowsM M W (pp.take k) = true) (fun i => pp.length - (intOf i).toNat)
    case atStart => exact ⟨0, Nat.zero_le _, rfl, rfl⟩
    case round =>
      obtain ⟨k, hk, rfl, ha⟩ := hrel
      have Ha := Lib.hid ha
      clear ha
      by_cases hlt : k < pp.length
      · obtain ⟨b', off', row, A', c', e, hb, hrow, hc, _, _, hr⟩ := hg.row_ hlt
        injection e with e
        injection e with e1 e2
        subst e1 e2
        generalize hL : row.length = L at *
        have HL := Lib.hid hL
        clear hL
        by_cases hLW : L = W
        · subst hLW
          cases hq : rowM M row
          · have Hq := Lib.hid hq
            go_wp2_with (go_at_call 116; refine (iRow_any _ _ HL.out _ _ _ _ hr _).mono ?_; rintro e w' ⟨rfl, rfl⟩)
            go_ret
            exact ⟨ret_bool (rowsM_no hrow.out (fun _ => Hq.out)).symm, rfl⟩
          · have Hq := Lib.hid hq
            go_wp2_with (go_at_call 116; refine (iRow_any _ _ HL.out _ _ _ _ hr _).mono ?_; rintro e w' ⟨rfl, rfl⟩)
            go_round
            case rel => exact ⟨k + 1, by omega, by go_num, rowsM_snoc hrow.out Ha.out HL.out Hq.out⟩
            case measure => simp [intOf]; omega
        · have hne : ¬ ((L : Int) = (W : Int)) := by omega
          go_wp2_with (go_at_call 116; refine (iRow_any _ _ HL.out _ _ _ _ hr _).mono ?_; rintro e w' ⟨rfl, rfl⟩)
          go_ret
          exact ⟨ret_bool (rowsM_no hrow.out (fun h => absurd (HL.out.symm.trans h) hLW)).symm, rfl⟩
      · have Hk : Hid (k = pp.length) := Lib.hid (by omega)
        go_wp2
        go_ret
        refine ⟨ret_bool ?_, rfl⟩
        have h := Ha.out
        rw [Hk.out, List.take_length] at h
        rw [h]
  · rw [gridB_len hl]
    by_cases l1 : pp.length < 1
    · go_enter Try.func84, Try.ntmps84
      go_wp2
      go_ret
      exact ⟨rfl, rfl⟩
    · have l2 : 9 < pp.length := by omega
      have l3 : 1 ≤ pp.length := by omega
      clear hl l1
      go_enter Try.func84, Try.ntmps84
      go_wp2
      go_ret
      exact ⟨rfl, rfl⟩
set_option maxRecDepth 100000 in
set_option maxHeartbeats 400000 in
theorem iValid_any (pp : List (List Int)) (A : Option Addr) (c : Nat) (w : World) (B : Nat) (hg : RdG w B A pp) :
    Calls Try.prog 56 #[.slice A pp.length c] w fun e w' => e = .returned (.bool (pondB pp)) ∧ w = w' := by
  have hG := iGrid_any pp A c w B hg 999
  rw [grid_pondB] at hG
  go_enter Try.func56, Try.ntmps56
  go_wp2_with fail
  refine (hG).mono ?_
  rintro e w' ⟨rfl, rfl⟩
  go_wp2
  go_ret
  exact ⟨rfl, rfl⟩
set_option maxRecDepth 100000 in
set_option maxHeartbeats 400000 in
theorem iHeap_any (pp : List (List Int)) (A : Option Addr) (c : Nat) (w : World) (B : Nat) (hg : RdG w B A pp) :
    Calls Try.prog 126 #[.slice A pp.length c] w fun e w' => e = .returned (.bool (heapB pp)) ∧ w = w' := by
  have hG := iGrid_any pp A c w B hg 12
  go_enter Try.func126, Try.ntmps126
  go_wp2_with fail
  refine (hG).mono ?_
  rintro e w' ⟨rfl, rfl⟩
  go_wp2
  go_ret
  exact ⟨rfl, rfl⟩

end Go.Proofs.Ytggdnpaiaijhgaa

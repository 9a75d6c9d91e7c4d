/- What the law FnGrowPond asks of ponds that grow, and of turned ones. -/
import Derived.Deep.RegionHeld3
import Derived.Test.YtbnggakfogcaladGrowS
import Derived.Test.YtbnggakfogcaladGMath
import Derived.Test.YtbnggakfogcaladTurnM
import Derived.Test.YtbnggakfogcaladHelps
import Derived.Test.YtbnggakfogcaladLawM
namespace Go.Proofs.Ytbnggakfogcalad
open Go.RowKit
set_option linter.unusedVariables false
set_option linter.unusedSimpArgs false
set_option maxRecDepth 100000 in
set_option maxHeartbeats 800000 in
theorem eqLs_same (pp : List (List Int)) (A A' : Option Addr) (c c' : Nat) (w : World) (B : Nat) (hg : RdG w B A pp) (hg' : RdG w B A' pp) (hpl : pp.length ≤ 1048576) (HROW : Hid (∀ (k : Nat) (r : List Int), pp[k]? = some r → r.length ≤ 1048576)) :
    Calls Try.prog 41 #[.slice A pp.length c, .slice A' pp.length c'] w fun e w' => e = .returned (.bool true) ∧ ∃ n, w' = w.drewN n := by
  go_enter Try.func41, Try.ntmps41
  go_wp2
  go_loopw [5] (fun i wr => ∃ k : Nat, k ≤ pp.length ∧ i = .int .i64 k ∧ ∃ n, wr = w.drewN n) (fun i _ => pp.length - (intOf i).toNat)
  case atStart => exact ⟨0, Nat.zero_le _, rfl, 0, rfl⟩
  case round =>
    obtain ⟨k, hk, rfl, n, hwr⟩ := hrel
    have hgr : RdG wr B A pp := by rw [hwr]; exact hg.drewN n
    have hgr' : RdG wr B A' pp := by rw [hwr]; exact hg'.drewN n
    have HW := Lib.hid hwr
    clear hwr
    by_cases hlt : k < pp.length
    · obtain ⟨b, off, row, A1, c1, rfl, hb, hrow, hc, _, _, hr⟩ := hgr.row_ hlt
      obtain ⟨b', off', row', A2, c2, rfl, hb', hrow', hc', _, _, hr'⟩ := hgr'.row_ hlt
      obtain rfl : row = row' := by have h1 := hrow.out; have h2 := hrow'.out; rw [h1] at h2; injection h2
      have hrl := HROW.out k row hrow.out
      go_wp2
      refine wp_region_quiet_lit (by kernel_rfl) (by kernel_rfl) ?_
      repeat (go_big_quiet_step (fail))
      go_big_quiet_step ((go_at_call 17; exact quiet_draw (equalInts_same row _ _ _ _ _ B (hr.drewN _) (hr'.drewN _) hrl)))
      repeat (go_big_quiet_step (fail))
      refine wpQuiet_nil ?_
      intro _ hw'
      obtain ⟨nq, hw''⟩ := hw'
      subst hw''
      go_wp2
      go_roundw
      case rel => exact ⟨k + 1, by omega, by go_num, _, by rw [HW.out, drewN_add]⟩
      case measure => simp [intOf]; omega
    · go_wp2
      go_ret
      exact ⟨rfl, _, HW.out⟩
theorem eqLs_b (pp : List (List Int)) (A A' : Option Addr) (c c' : Nat) (w : World) (B : Nat) (hg : RdG w B A pp) (hg' : RdG w B A' pp) (hpl : pp.length ≤ 1048576) (HROW : Hid (∀ (k : Nat) (r : List Int), pp[k]? = some r → r.length ≤ 1048576)) :
    Calls Try.prog 41 #[.slice A pp.length c, .slice A' pp.length c'] w fun e w' => e = .returned (.bool true) ∧ Below w.heap.size w w' :=
  (eqLs_same pp A A' c c' w B hg hg' hpl HROW).mono fun _ _ ⟨h, n, e⟩ => ⟨h, e ▸ below_drewN (Below.refl _ _) n⟩
theorem pond_rows {pp : List (List Int)} (h : pondB pp = true) : pp.length ≤ 1048576 ∧ Hid (∀ (k : Nat) (r : List Int), pp[k]? = some r → r.length ≤ 1048576) :=
  ⟨by have := pond_len h; omega, Lib.hid fun k r hr => by have := pond_row h hr; omega⟩
theorem growT_rows {pp : List (List Int)} {zs : List Int} : (growT pp zs).length ≤ 1048576 ∧ Hid (∀ (k : Nat) (r : List Int), (growT pp zs)[k]? = some r → r.length ≤ 1048576) := by
  unfold growT
  split
  · rename_i h
    rw [Bool.and_eq_true] at h
    exact pond_rows (grow_pond h.1)
  · exact ⟨by simp, Lib.hid fun k r hr => by simp at hr⟩
theorem growT_some {pp : List (List Int)} {zs : List Int} (h : ¬ (growT pp zs).length = 0) : pondB pp = true ∧ tempsB zs = true ∧ growT pp zs = growF pp zs := by
  cases hc : (pondB pp && tempsB zs)
  · rw [growT_no hc] at h; exact absurd rfl h
  · rw [Bool.and_eq_true] at hc
    exact ⟨hc.1, hc.2, growT_ok hc.1 hc.2⟩
theorem cell_yx {pp : List (List Int)} {y x : Nat} (hy : y < pp.length) (hx : x < wide pp) : y * wide pp + x < cnt pp ∧ (y * wide pp + x) / wide pp = y ∧ (y * wide pp + x) % wide pp = x := by
  refine ⟨?_, ?_, ?_⟩
  · unfold cnt
    have : (y + 1) * wide pp ≤ pp.length * wide pp := Nat.mul_le_mul (by omega) (Nat.le_refl _)
    rw [Nat.add_mul] at this
    omega
  · rw [Nat.add_comm, Nat.add_mul_div_right _ _ (by omega), Nat.div_eq_of_lt hx, Nat.zero_add]
  · rw [Nat.add_comm, Nat.add_mul_mod_self_right, Nat.mod_eq_of_lt hx]
theorem turn_grow {pp : List (List Int)} {zs : List Int} (h : pondB pp = true) : growF (tpF pp) zs = tpF (growF pp zs) := by
  have hw := grow_wide (zs := zs) h
  unfold growF tpF
  rw [show wide (List.map (growRow zs) pp) = wide pp from hw, List.map_map]
  refine List.map_congr_left fun x hx => ?_
  rw [List.mem_range] at hx
  show growRow zs (colF pp x) = colF (List.map (growRow zs) pp) x
  unfold colF growRow
  rw [List.map_map, List.map_map]
  refine List.map_congr_left fun r hr => ?_
  obtain ⟨k, hk, e⟩ := List.getElem_of_mem hr
  have hrl := (pond_row h (k := k) (row := r) (by rw [List.getElem?_eq_getElem hk, e])).1
  have hx2 : x < r.length := by omega
  simp only [Function.comp, List.getD_eq_getElem?_getD, List.getElem?_map, List.getElem?_eq_getElem hx2, Option.map_some, Option.getD_some]
theorem iGrowTp_any {T : List (List Int)} (pp : List (List Int)) (zs : List Int) (hv : pondB pp = true) (ht : tempsB zs = true) (hT : Hid (T = tpF (growF pp zs))) (A Az : Option Addr) (c cz : Nat) (w : World) (hg : RdG w w.heap.size A (tpF pp)) (hrz : Rd w w.heap.size Az (ints zs)) :
    Calls Try.prog 40 #[.slice A (wide pp) c, .slice Az zs.length cz] w (OutGr T w) := by
  have h := iGrow_any (tpF pp) zs A Az c cz w hg hrz
  rw [growT_ok (pond_turned hv) ht, turn_grow hv, ← hT.out, tpF_len] at h
  exact h
theorem turnOut_any {T : List (List Int)} (ts : List (List Int)) (hv : pondB ts = true) (hT : Hid (T = tpF ts)) (A : Option Addr) (c : Nat) (w : World) (hg : RdG w w.heap.size A ts) :
    Calls Try.prog 24 #[.slice A ts.length c] w fun e w' => ∃ A' c', e = .returned (.slice A' T.length c') ∧ RdG w' w'.heap.size A' T ∧ Below w.heap.size w w' := by
  have h := turned_any ts A c w ⟨hv, hg⟩
  rw [← tpF_len ts, ← hT.out] at h
  exact h
theorem cold5_temps : tempsB (List.replicate 5 (-30)) = true := by decide
theorem cold5_neg : ∀ z ∈ List.replicate 5 (-30 : Int), z < 0 := by decide
theorem iGrowZ_any {ts : List (List Int)} (pp : List (List Int)) (zs : List Int) (A Az : Option Addr) (c cz : Nat) (w : World) (hg : RdG w w.heap.size A pp) (hrz : Rd w w.heap.size Az (ints zs)) (hts : Hid (ts = growT pp zs)) :
    Calls Try.prog 40 #[.slice A pp.length c, .slice Az zs.length cz] w (OutGr ts w) := by
  rw [hts.out]; exact iGrow_any pp zs A Az c cz w hg hrz
theorem sGrowZ_any {ts : List (List Int)} (pp : List (List Int)) (zs : List Int) (A Az : Option Addr) (c cz : Nat) (w : World) (hg : RdG w w.heap.size A pp) (hn : pp.length ≤ 1048576) (hrz : Rd w w.heap.size Az (ints zs)) (hts : Hid (ts = growT pp zs)) :
    Calls Try.prog 42 #[.slice A pp.length c, .slice Az zs.length cz] w (OutGr ts w) := by
  rw [hts.out]; exact sGrow_any pp zs A Az c cz w hg hn hrz
theorem steady5_any (w : World) : Calls Try.prog 43 #[.int .i64 (-30), .int .i64 5] w fun e w' => ∃ A' c', e = .returned (.slice A' (List.replicate 5 (-30 : Int)).length c') ∧ w'.ownsRow w.heap.size 3 1 (.slice A' (List.replicate 5 (-30 : Int)).length c') (List.replicate 5 (-30 : Int)).length (ints (List.replicate 5 (-30 : Int))) ∧ Below w.heap.size w w' :=
  steady_any (-30) 5 (by omega) w

end Go.Proofs.Ytbnggakfogcalad

/- Words of the laws of chapter 5. -/
import Derived.Deep.RegionHeld3
import Derived.Test.YtbnggakfogcalaaHExact
import Derived.Test.YtbnggakfogcalaaHDraws
import Derived.Test.YtbnggakfogcalaaTurn
import Derived.Test.YtbnggakfogcalaaHelps
namespace Go.Proofs.Ytbnggakfogcalaa
open Go.RowKit
set_option linter.unusedVariables false
set_option linter.unusedSimpArgs false
set_option maxHeartbeats 800000 in
theorem eqH_same (pp : List (List Int)) (A A' : Option Addr) (c c' : Nat) (w : World) (B : Nat) (hg : RdG w B A pp) (hg' : RdG w B A' pp) (hpl : pp.length ≤ 1048576) (HROW : Hid (∀ (k : Nat) (r : List Int), pp[k]? = some r → r.length ≤ 1048576)) :
    Calls Try.prog 27 #[.slice A pp.length c, .slice A' pp.length c'] w fun e w' => e = .returned (.bool true) ∧ ∃ n, w' = w.drewN n := by
  go_enter Try.func27, Try.ntmps27
  go_wp2
  go_loopw [5] (fun i wr => ∃ k : Nat, k ≤ pp.length ∧ i = .int .i64 k ∧ ∃ n, wr = w.drewN n) (fun i _ => pp.length - (intOf i).toNat)
  case atStart => exact ⟨0, Nat.zero_le _, rfl, 0, rfl⟩
  case round =>
    obtain ⟨k, hk, rfl, n, hwr⟩ := hrel
    have hgr : RdG wr B A pp := by rw [hwr]; exact hg.drewN n
    have hgr' : RdG wr B A' pp := by rw [hwr]; exact hg'.drewN n
    have HW := Lib.hid hwr
    clear hwr
    by_cases hlt : k < pp.length
    · obtain ⟨b, off, row, A1, c1, rfl, hb, hrow, hc, _, _, hr⟩ := hgr.row_ hlt
      obtain ⟨b', off', row', A2, c2, rfl, hb', hrow', hc', _, _, hr'⟩ := hgr'.row_ hlt
      obtain rfl : row = row' := by have h1 := hrow.out; have h2 := hrow'.out; rw [h1] at h2; injection h2
      have hrl := HROW.out k row hrow.out
      go_wp2
      refine wp_region_quiet_lit (by kernel_rfl) (by kernel_rfl) ?_
      repeat (go_big_quiet_step (fail))
      go_big_quiet_step ((go_at_call 61; exact quiet_draw (equalInts_same row _ _ _ _ _ B (hr.drewN _) (hr'.drewN _) hrl)))
      repeat (go_big_quiet_step (fail))
      refine wpQuiet_nil ?_
      intro _ hw'
      obtain ⟨nq, hw''⟩ := hw'
      subst hw''
      go_wp2
      go_roundw
      case rel => exact ⟨k + 1, by omega, by go_num, _, by rw [HW.out, drewN_add]⟩
      case measure => simp [intOf]; omega
    · go_wp2
      go_ret
      exact ⟨rfl, _, HW.out⟩
theorem eqH_b (pp : List (List Int)) (A A' : Option Addr) (c c' : Nat) (w : World) (B : Nat) (hg : RdG w B A pp) (hg' : RdG w B A' pp) (hpl : pp.length ≤ 1048576) (HROW : Hid (∀ (k : Nat) (r : List Int), pp[k]? = some r → r.length ≤ 1048576)) :
    Calls Try.prog 27 #[.slice A pp.length c, .slice A' pp.length c'] w fun e w' => e = .returned (.bool true) ∧ Below w.heap.size w w' :=
  (eqH_same pp A A' c c' w B hg hg' hpl HROW).mono fun _ _ ⟨h, n, e⟩ => ⟨h, e ▸ below_drewN (Below.refl _ _) n⟩
/-- .. a heap that is turned. -/
theorem tpH_any {T : List (List Int)} (pp : List (List Int)) (hv : heapB pp = true) (hT : Hid (T = tpF pp)) (A : Option Addr) (c : Nat) (w : World) (hg : RdG w w.heap.size A pp) :
    Calls Try.prog 19 #[.slice A pp.length c] w fun e w' => ∃ A' c', e = .returned (.slice A' T.length c') ∧ RdG w' w'.heap.size A' T ∧ Below w.heap.size w w' := by
  have h := turned_any pp A c w ⟨heap_pond hv, hg⟩
  rw [← tpF_len pp, ← hT.out] at h
  exact h
theorem RdG.up {w w' : World} {A : Option Addr} {pp : List (List Int)} (h : RdG w w.heap.size A pp) (hb : Below w.heap.size w w') : RdG w' w'.heap.size A pp := (h.below hb).more hb.size
theorem RdG.takeK {w : World} {B b off : Nat} {pp : List (List Int)} (h : RdG w B (some ⟨b, off, none⟩) pp) (k : Nat) : RdG w B (some ⟨b, off, none⟩) (pp.take k) := by
  obtain ⟨xs, hl, hr, hx⟩ := h
  refine ⟨xs.take k, by rw [List.length_take, List.length_take, hl], hr.take k, fun j row hj => ?_⟩
  rw [List.getElem?_take] at hj
  split at hj
  · next hjk =>
    obtain ⟨A', c', h1, h2⟩ := hx j row hj
    exact ⟨A', c', by rw [List.getElem?_take, if_pos hjk]; exact h1, h2⟩
  · cases hj
theorem RdG.dropK {w : World} {B b off : Nat} {pp : List (List Int)} (h : RdG w B (some ⟨b, off, none⟩) pp) (k : Nat) : RdG w B (some ⟨b, off + k, none⟩) (pp.drop k) := by
  obtain ⟨xs, hl, hr, hx⟩ := h
  have hrd : Rd w B (some ⟨b, off + k, none⟩) (xs.drop k) := by have h := hr.drop k; rw [Option.map_some, Addr.add_lit] at h; exact h
  refine ⟨xs.drop k, by rw [List.length_drop, List.length_drop, hl], hrd, fun j row hj => ?_⟩
  rw [List.getElem?_drop] at hj
  obtain ⟨A', c', h1, h2⟩ := hx (k + j) row hj
  exact ⟨A', c', by rw [List.getElem?_drop]; exact h1, h2⟩
theorem heap_take {pp : List (List Int)} {k : Nat} (h : heapB pp = true) (h1 : 1 ≤ k) (h2 : k ≤ pp.length) : heapB (pp.take k) = true := by
  have hl := grid_len h
  refine grid_mk (W := wide pp) (by rw [List.length_take]; omega) ?_ fun r hr => ?_
  · unfold wide
    rw [List.getD_eq_getElem?_getD, List.getElem?_take_of_lt h1, ← List.getD_eq_getElem?_getD]
  · obtain ⟨j, hj, e⟩ := List.getElem_of_mem (List.mem_of_mem_take hr)
    exact grid_row h (k := j) (row := r) (by rw [List.getElem?_eq_getElem hj, e])
theorem heap_drop {pp : List (List Int)} {k : Nat} (h : heapB pp = true) (h2 : k < pp.length) : heapB (pp.drop k) = true := by
  have hl := grid_len h
  have hk : pp[k]? = some (pp[k]'h2) := List.getElem?_eq_getElem h2
  refine grid_mk (W := wide pp) (by rw [List.length_drop]; omega) ?_ fun r hr => ?_
  · have e : wide (pp.drop k) = (pp[k]'h2).length := by
      unfold wide
      rw [List.getD_eq_getElem?_getD, List.getElem?_drop, Nat.add_zero, hk]; rfl
    rw [e]
    exact (grid_row h hk).1
  · obtain ⟨j, hj, e⟩ := List.getElem_of_mem (List.mem_of_mem_drop hr)
    exact grid_row h (k := j) (row := r) (by rw [List.getElem?_eq_getElem hj, e])
theorem cakes_cut (pp : List (List Int)) (k : Nat) : cakesF (pp.take k) + cakesF (pp.drop k) = cakesF pp := by
  unfold cakesF
  rw [List.map_take, List.map_drop, ← List.sum_append, List.take_append_drop]
theorem setF_two {pp : List (List Int)} {k : Nat} {z y : Int} (hv : pondB pp = true) (hk : k < cnt pp) : setF (setF pp k z) k y = setF pp k y := by
  have hyk := row_y hk
  have hr : pp[k / wide pp]? = some (pp[k / wide pp]'hyk) := List.getElem?_eq_getElem hyk
  have e1 := setF_eq (z := z) hr
  have h2 : (setF pp k z)[k / wide (setF pp k z)]? = some ((pp[k / wide pp]'hyk).set (k % wide pp) z) := by
    rw [setF_wide, ← e1, List.getElem?_set_self (by omega)]
  rw [← setF_eq h2, setF_wide, ← e1, List.set_set, List.set_set]
  exact setF_eq hr
theorem addF_two {pp : List (List Int)} {k : Nat} {a b : Int} (hv : pondB pp = true) (hk : k < cnt pp) : addF (addF pp k a) k b = addF pp k (a + b) := by
  have ht : thk (addF pp k a) k = thk pp k + a := by unfold addF; rw [set_thk hv hk hk, if_pos rfl]
  unfold addF at *
  rw [ht, setF_two hv hk, Int.add_assoc]
theorem addF_back {pp : List (List Int)} {k : Nat} {a : Int} (hv : pondB pp = true) (hk : k < cnt pp) : addF (addF pp k a) k (-a) = pp := by
  rw [addF_two hv hk, Int.add_right_neg, addF_zero hv hk]
theorem less_hgt {pp : List (List Int)} (h : heapB pp = true) : ∀ n : Nat, (n : Int) ≤ cakesF pp → ∀ x y : Int, hgt (lessF pp n) x y ≤ hgt pp x y
  | 0, _, x, y => Int.le_refl _
  | n + 1, hn, x, y => by
    obtain ⟨h1, h2, h3, h4⟩ := less_ok h n (by omega)
    have ih := less_hgt h n (by omega) x y
    have hlt := hiF_lt (heap_pond h1)
    have e : hgt (lessF pp (n + 1)) x y = _ := set_hgt (heap_pond h1) hlt x y
    rw [e]
    split
    · next hh =>
      have e2 := hgt_thk (heap_pond h1) hlt
      rw [← hh.1, ← hh.2] at e2
      omega
    · exact ih
theorem melt_at2 {pp : List (List Int)} (h : heapB pp = true) {x y : Nat} (hx : x < wide pp) (hy : y < pp.length) : at2 (meltF pp) x y ≤ at2 pp x y := by
  have h1 := less_hgt h (goneF pp) (gone_le h).1 x y
  obtain ⟨_, h2, h3, _⟩ := melt_ok h
  rw [hgt_in hx hy] at h1
  have h4 : hgt (lessF pp (goneF pp)) x y = at2 (meltF pp) x y := hgt_in (pp := meltF pp) (by rw [h3]; exact hx) (by rw [h2]; exact hy)
  rw [h4] at h1
  exact h1
theorem loss_in {pp : List (List Int)} {a : Int} {x y : Nat} (hx : x < wide pp) (hy : y < pp.length) : lossF pp a x y = if a < at2 pp x y then -1 else 0 := by
  unfold lossF; rw [hgt_in hx hy]
theorem loss_out {pp : List (List Int)} {a x y : Int} (ha : 0 ≤ a) (h : ¬(0 ≤ x ∧ x < wide pp ∧ 0 ≤ y ∧ y < pp.length)) : lossF pp a x y = 0 := by
  unfold lossF; rw [hgt_out h, if_neg (by omega)]
theorem loss_bd (pp : List (List Int)) (a x y : Int) : -1 ≤ lossF pp a x y ∧ lossF pp a x y ≤ 0 := by unfold lossF; split <;> omega

end Go.Proofs.Ytbnggakfogcalaa

/- Contracts of chapter 5: houses filled layer by layer and boxes, the program. -/
import Derived.StillTailTactics
import Derived.Test.YtggdnpaiaijhgaaHMeltI
namespace Go.Proofs.Ytggdnpaiaijhgaa
open Go.RowKit
set_option linter.unusedVariables false
set_option linter.unusedSimpArgs false
def fillT (a b z : Int) : List (List Int) := if inB a 1 9 && (inB b 1 9 && inB z 0 (a * b * 12)) then layF a.toNat b.toNat z.toNat else []
theorem fillT_no {a b z : Int} (h : (inB a 1 9 && (inB b 1 9 && inB z 0 (a * b * 12))) = false) : fillT a b z = [] := by unfold fillT; rw [h]; rfl
theorem fillT_ok {W D n : Nat} (hw : 1 ≤ W ∧ W ≤ 9) (hd : 1 ≤ D ∧ D ≤ 9) (hn : n ≤ W * D * 12) : fillT (W : Int) (D : Int) (n : Int) = layF W D n := by
  unfold fillT
  rw [inB_mk (show (1 : Int) ≤ (W : Int) ∧ (W : Int) ≤ 9 by omega), inB_mk (show (1 : Int) ≤ (D : Int) ∧ (D : Int) ≤ 9 by omega), inB_mk (show (0 : Int) ≤ (n : Int) ∧ (n : Int) ≤ (W : Int) * (D : Int) * 12 by rw [← Int.natCast_mul]; omega)]
  rfl
set_option maxRecDepth 100000 in
set_option maxHeartbeats 400000 in
theorem vHouse_is {q : Bool} (a b : Int) (w : World) (h : (inB a 1 9 && inB b 1 9) = q) :
    Calls Try.prog 64 #[.int .i64 a, .int .i64 b] w fun e w' => e = .returned (.bool q) ∧ w = w' := by
  subst h
  by_cases h1 : a < 1
  · rw [inB_nk (by omega)]
    go_enter Try.func64, Try.ntmps64
    go_wp2
    go_ret
    exact ⟨by first | rfl | (exact ret_bool (by simp; omega)), rfl⟩
  by_cases h2 : 9 < a
  · rw [inB_nk (by omega)]
    go_enter Try.func64, Try.ntmps64
    go_wp2
    go_ret
    exact ⟨by first | rfl | (exact ret_bool (by simp; omega)), rfl⟩
  by_cases h3 : b < 1
  · rw [inB_nk (a := 1) (b := 9) (n := b) (by omega), Bool.and_false]
    go_enter Try.func64, Try.ntmps64
    go_wp2
    go_ret
    exact ⟨by first | rfl | (exact ret_bool (by simp; omega)), rfl⟩
  by_cases h4 : 9 < b
  · rw [inB_nk (a := 1) (b := 9) (n := b) (by omega), Bool.and_false]
    go_enter Try.func64, Try.ntmps64
    go_wp2
    go_ret
    exact ⟨by first | rfl | (exact ret_bool (by simp; omega)), rfl⟩
  rw [inB_mk (by omega), inB_mk (by omega)]
  go_enter Try.func64, Try.ntmps64
  go_wp2
  go_ret
  exact ⟨by first | rfl | (exact ret_bool (by simp; omega)), rfl⟩
def part (W D n y x : Nat) : List Int := (layRow W D n y).take x ++ List.replicate (W - x) 0
theorem part_len {W D n y x : Nat} (h : x ≤ W) : (part W D n y x).length = W := by
  unfold part
  rw [List.length_append, List.length_take, layRow_len, List.length_replicate]
  omega
theorem part_zero (W D n y : Nat) : part W D n y 0 = List.replicate W 0 := by simp [part]
theorem part_all (W D n y : Nat) : part W D n y W = layRow W D n y := by
  unfold part
  rw [List.take_of_length_le (by rw [layRow_len]; exact Nat.le_refl _), Nat.sub_self]
  simp
theorem part_set {W D n y x : Nat} (h : x < W) : (part W D n y x).set x (layC W D n x y) = part W D n y (x + 1) := by
  unfold part
  have e1 : ((layRow W D n y).take x).length = x := by rw [List.length_take, layRow_len]; omega
  obtain ⟨m, hm⟩ : ∃ m, W - x = m + 1 := ⟨W - x - 1, by omega⟩
  rw [List.set_append, e1, if_neg (by omega), Nat.sub_self, hm, List.replicate_succ, List.set_cons_zero, take_snoc (layRow_at h), List.append_assoc, show W - (x + 1) = m by omega]
  rfl
theorem part_at {W D n y x : Nat} (h : x < W) : (part W D n y x)[x]? = some 0 := by
  unfold part
  have e1 : ((layRow W D n y).take x).length = x := by rw [List.length_take, layRow_len]; omega
  obtain ⟨m, hm⟩ : ∃ m, W - x = m + 1 := ⟨W - x - 1, by omega⟩
  rw [List.getElem?_append_right (by omega), e1, Nat.sub_self, hm]
  rfl
/-- the row k is filled up to x -/
structure FRow (w wr wi : World) (D W n k x : Nat) (xs : List Value) : Prop where
  row : wi.ownsRow wr.heap.size 3 1 (.slice (some ⟨wr.heap.size, 0, none⟩) W W) W (ints (part W D n k x))
  out : wi.ownsRow w.heap.size 37 1 (.slice (some ⟨w.heap.size, 0, none⟩) D D) D (xs.set k (.slice (some ⟨wr.heap.size, 0, none⟩) W W))
  far : ∀ q, w.heap.size < q → q < wr.heap.size → wi.heap[q]? = wr.heap[q]?
  bel : Below w.heap.size w wi
  sz : wr.heap.size ≤ wi.heap.size
theorem FRow.put {w wr wi : World} {D W n k x : Nat} {xs : List Value} (h : FRow w wr wi D W n k x xs) (hsz : w.heap.size < wr.heap.size) (hx : x < W) :
    FRow w wr ((wi.drewN 1).setCell ⟨wr.heap.size, x, none⟩ (.int .i64 (layC W D n x k))) D W n k (x + 1) xs := by
  have hs : ((wi.drewN 1).setCell ⟨wr.heap.size, x, none⟩ (.int .i64 (layC W D n x k))).heap.size = wi.heap.size := by simp [World.setCell, World.drewN]
  refine ⟨?_, own_other (own_drewN h.out 1) (by simp [Value.ownBlock]; omega) _, fun q h1 h2 => ?_, (below_drewN h.bel 1).setCell (by simp; omega) _, by rw [hs]; exact h.sz⟩
  · rw [← part_set hx, ← ints_set]
    exact own_put (own_drewN h.row 1) x _
  · rw [Below.heap_setCell _ _ _ q (by show q ≠ wr.heap.size; omega)]
    exact h.far q h1 h2
theorem FRow.put2 {w wr wi : World} {D W n k x : Nat} {xs : List Value} (h : FRow w wr wi D W n k x xs) (hsz : w.heap.size < wr.heap.size) (hx : x < W) (z : Int) :
    FRow w wr (((wi.drewN 1).setCell ⟨wr.heap.size, x, none⟩ (.int .i64 z)).setCell ⟨wr.heap.size, x, none⟩ (.int .i64 (layC W D n x k))) D W n k (x + 1) xs := by
  have hs : (((wi.drewN 1).setCell ⟨wr.heap.size, x, none⟩ (.int .i64 z)).setCell ⟨wr.heap.size, x, none⟩ (.int .i64 (layC W D n x k))).heap.size = wi.heap.size := by simp [World.setCell, World.drewN]
  refine ⟨?_, own_other (own_other (own_drewN h.out 1) (by simp [Value.ownBlock]; omega) _) (by simp [Value.ownBlock]; omega) _, fun q h1 h2 => ?_, ((below_drewN h.bel 1).setCell (by simp; omega) _).setCell (by simp; omega) _, by rw [hs]; exact h.sz⟩
  · have e : (part W D n k x).set x (layC W D n x k) = ((part W D n k x).set x z).set x (layC W D n x k) := by rw [List.set_set]
    rw [← part_set hx, e, ← ints_set, ← ints_set]
    exact own_put (own_put (own_drewN h.row 1) x _) x _
  · rw [Below.heap_setCell _ _ _ q (by show q ≠ wr.heap.size; omega), Below.heap_setCell _ _ _ q (by show q ≠ wr.heap.size; omega)]
    exact h.far q h1 h2
theorem FRow.cells {w wr wi : World} {D W n k x : Nat} {xs : List Value} (h : FRow w wr wi D W n k x xs) (hk : k < D) (hx : x < W) (z : Int) :
    wi.cell? ⟨w.heap.size, k, none⟩ = some (.slice (some ⟨wr.heap.size, 0, none⟩) W W) ∧ wi.cell? ⟨wr.heap.size, x, none⟩ = some (.int .i64 0) ∧ wi.frozen? ⟨wr.heap.size, x, none⟩ = false ∧
    (w.heap.size < wr.heap.size → ((wi.drewN 1).setCell ⟨wr.heap.size, x, none⟩ (.int .i64 z)).cell? ⟨w.heap.size, k, none⟩ = some (.slice (some ⟨wr.heap.size, 0, none⟩) W W) ∧ ((wi.drewN 1).setCell ⟨wr.heap.size, x, none⟩ (.int .i64 z)).cell? ⟨wr.heap.size, x, none⟩ = some (.int .i64 z) ∧ ((wi.drewN 1).setCell ⟨wr.heap.size, x, none⟩ (.int .i64 z)).frozen? ⟨wr.heap.size, x, none⟩ = false) := by
  have hxl : xs.length = D := by have := h.out.1; rw [List.length_set] at this; omega
  have hget : (xs.set k (.slice (some ⟨wr.heap.size, 0, none⟩) W W))[k]? = some (.slice (some ⟨wr.heap.size, 0, none⟩) W W) := by rw [List.getElem?_set_self]; omega
  refine ⟨own_cell h.out hget, own_cell h.row (by rw [ints, List.getElem?_map, part_at hx]; rfl), own_frozen h.row x, fun hsz => ⟨?_, ?_, ?_⟩⟩
  · exact own_cell (own_other (own_drewN h.out 1) (by simp [Value.ownBlock]; omega) _) hget
  · have h2 := own_put (own_drewN h.row 1) x (.int .i64 z)
    refine own_cell h2 ?_
    rw [List.getElem?_set_self]
    rw [ints_length, part_len (by omega)]; exact hx
  · exact own_frozen (own_put (own_drewN h.row 1) x (.int .i64 z)) x
set_option maxRecDepth 100000 in
set_option maxHeartbeats 2000000 in
theorem iFill_any (a b z : Int) (w : World) :
    Calls Try.prog 102 #[.int .i64 a, .int .i64 b, .int .i64 z] w (OutGr (fillT a b z) w) := by
  cases hab : (inB a 1 9 && inB b 1 9)
  · rw [fillT_no (by
      cases ha : inB a 1 9
      · rfl
      · rw [ha] at hab; rw [show inB b 1 9 = false by simpa using hab]; rfl)]
    have HV := Lib.hid (vHouse_is a b w hab)
    clear hab
    go_enter Try.func102, Try.ntmps102
    go_wp2_with fail
    refine (HV.out).mono ?_
    rintro e w' ⟨rfl, rfl⟩
    go_wp2
    go_ret
    exact outGr_nil w
  have HV := Lib.hid (vHouse_is a b w hab)
  rw [Bool.and_eq_true] at hab
  have ha := inB_t hab.1
  have hb := inB_t hab.2
  clear hab
  obtain ⟨W, rfl⟩ := Int.eq_ofNat_of_zero_le (show 0 ≤ a by omega)
  obtain ⟨D, rfl⟩ := Int.eq_ofNat_of_zero_le (show 0 ≤ b by omega)
  have hW : 1 ≤ W ∧ W ≤ 9 := by omega
  have hD : 1 ≤ D ∧ D ≤ 9 := by omega
  clear ha hb
  by_cases hz0 : z < 0
  · rw [fillT_no (by rw [inB_nk (n := z) (by omega)]; simp)]
    go_enter Try.func102, Try.ntmps102
    go_wp2_with fail
    refine (HV.out).mono ?_
    rintro e w' ⟨rfl, rfl⟩
    go_wp2
    go_ret
    exact outGr_nil w
  obtain ⟨n, rfl⟩ := Int.eq_ofNat_of_zero_le (show 0 ≤ z by omega)
  have hM1 : 1 * 1 ≤ W * D := Nat.mul_le_mul hW.1 hD.1
  have hM2 : W * D ≤ 9 * 9 := Nat.mul_le_mul hW.2 hD.2
  have e1 : (W : Int) * (D : Int) = ((W * D : Nat) : Int) := (Int.natCast_mul _ _).symm
  have e2 : IntKind.i64.wrap ((W : Int) * (D : Int)) = ((W * D : Nat) : Int) := by rw [e1]; exact IntWalk.i64_in _ (by omega)
  by_cases hn : W * D * 12 < n
  · rw [fillT_no (by rw [inB_nk (n := (n : Int)) (by rw [e1]; omega)]; simp)]
    have hn2 : (((W * D : Nat) : Int)) * 12 < (n : Int) := by omega
    generalize hMM : W * D = M at *
    clear hMM e1
    go_enter Try.func102, Try.ntmps102
    go_wp2_with fail
    refine (HV.out).mono ?_
    rintro e w' ⟨rfl, rfl⟩
    go_wp2
    go_ret
    exact outGr_nil w
  have hn3 : ¬ (((W * D : Nat) : Int)) * 12 < (n : Int) := by omega
  rw [fillT_ok hW hD (by omega)]
  have HLEN : Hid ((layF W D n).length = D) := Lib.hid (layF_len W D n)
  have HAT : Hid (∀ k, k < D → (layF W D n)[k]? = some (layRow W D n k)) := Lib.hid fun k hk => layF_at hk
  have HRL : Hid (∀ k, (layRow W D n k).length = W) := Lib.hid fun k => layRow_len W D n k
  have HLC : Hid (∀ x y, layC W D n x y = ((n / (W * D) : Nat) : Int) + (if y * W + x < n % (W * D) then 1 else 0)) := Lib.hid fun x y => rfl
  have hq12 : n / (W * D) ≤ 12 := Nat.div_le_of_le_mul (by omega)
  have hR : n % (W * D) < W * D := Nat.mod_lt _ (by omega)
  have q2 : (n : Int) / ((W * D : Nat) : Int) = ((n / (W * D) : Nat) : Int) := (Int.natCast_ediv _ _).symm
  have q3 : (n : Int).tdiv ((W * D : Nat) : Int) = ((n / (W * D) : Nat) : Int) := by rw [Int.tdiv_eq_ediv_of_nonneg (by omega)]; exact q2
  have r2 : (n : Int) % ((W * D : Nat) : Int) = ((n % (W * D) : Nat) : Int) := (Int.natCast_emod _ _).symm
  have r3 : (n : Int).tmod ((W * D : Nat) : Int) = ((n % (W * D) : Nat) : Int) := by rw [Int.tmod_eq_emod_of_nonneg (by omega)]; exact r2
  have hmk := run_make_row' (P := Try.prog) 22 37 (.slice none 0 0) 24 Try.underlying22 info_ints rfl .i64 .i64 D (by omega) (by omega)
  have hmk2 := run_make_row' (P := Try.prog) 37 3 (.int .i64 0) 8 Try.underlying37 info_int rfl .i64 .i64 W (by omega) (by omega)
  generalize n / (W * D) = Q at *
  generalize n % (W * D) = R at *
  generalize hMM : W * D = M at *
  have i1 : ((M : Int) == 0) = false := beq_eq_false_iff_ne.2 (by omega)
  have i2 : ¬ M = 0 := by omega
  have i3 : ¬ (M : Int) = 0 := by omega
  clear hMM e1 hz0
  go_enter Try.func102, Try.ntmps102
  go_wp2_with fail
  refine (HV.out).mono ?_
  rintro e w' ⟨rfl, rfl⟩
  go_wp2
  go_loopw [30] (fun i wr => ∃ (k : Nat) (xs : List Value), k ≤ D ∧ i = .int .i64 k ∧ CopG w wr D k xs (layF W D n)) (fun i _ => D - (intOf i).toNat)
  case atStart =>
    exact ⟨0, _, Nat.zero_le _, rfl, own_made w (.slice none 0 0) D 37 (by unfold maxLen; omega), fun j r h => by omega, fun i j u v b h => by omega, fun i u b h => by omega, (Below.refl _ _).alloc (Nat.le_refl _) _, by simp⟩
  case round =>
    obtain ⟨k, xs, hk, rfl, hcop⟩ := hrel
    have HC := Lib.hid hcop
    have hbel := hcop.bel
    have hsz := hcop.sz
    by_cases hlt : k < D
    · obtain ⟨wo, rfl⟩ : ∃ wo, wo = wr := ⟨wr, rfl⟩
      have hoA := own_alloc hcop.out (.cells (madeCells #[.int .i64 0] W) 3)
      have hf0 := own_frozen hoA k
      obtain ⟨x0, hxs⟩ : ∃ x0, xs[k]? = some x0 := ⟨_, List.getElem?_eq_getElem (by have := hcop.out.1; omega)⟩
      have hx0 := own_cell hoA hxs
      have hoB := own_put hoA k (.slice (some ⟨wo.heap.size, 0, none⟩) W W)
      have hcB := own_cell hoB (k := k) (x := .slice (some ⟨wo.heap.size, 0, none⟩) W W) (by rw [List.getElem?_set_self]; have := hcop.out.1; omega)
      have hrowB : ((wo.alloc (.cells (madeCells #[.int .i64 0] W) 3)).setCell ⟨w.heap.size, k, none⟩ (.slice (some ⟨wo.heap.size, 0, none⟩) W W)).ownsRow wo.heap.size 3 1 (.slice (some ⟨wo.heap.size, 0, none⟩) W W) W (ints (part W D n k 0)) := by
        rw [part_zero, ints, List.map_replicate]
        exact own_other (own_made wo (.int .i64 0) W 3 (by unfold maxLen; omega)) (by simp [Value.ownBlock]; omega) _
      have hst : FRow w wo ((wo.alloc (.cells (madeCells #[.int .i64 0] W) 3)).setCell ⟨w.heap.size, k, none⟩ (.slice (some ⟨wo.heap.size, 0, none⟩) W W)) D W n k 0 xs :=
        ⟨hrowB, hoB, fun q h1 h2 => by
          rw [Below.heap_setCell _ _ _ q (by show q ≠ w.heap.size; omega)]
          exact ((Below.refl _ _).alloc (Nat.le_refl _) _ : Below wo.heap.size wo (wo.alloc _)).block q h2, (hbel.alloc (by omega) _).setCell (by simp) _, by simp [World.setCell]⟩
      have HST := Lib.hid hst
      have e5 : IntKind.i64.wrap ((k : Int) * (W : Int)) = ((k * W : Nat) : Int) := by
        rw [← Int.natCast_mul]
        have : k * W ≤ 9 * 9 := Nat.mul_le_mul (by omega) hW.2
        exact IntWalk.i64_in _ (by omega)
      have e6 : k * W ≤ 81 := by
        have : k * W ≤ 9 * 9 := Nat.mul_le_mul (by omega) hW.2
        omega
      clear hcop hoA hrowB hst hoB
      go_wp2
      go_loopw [43] (fun i wi => ∃ x : Nat, x ≤ W ∧ i = .int .i64 x ∧ FRow w wo wi D W n k x xs) (fun i _ => W - (intOf i).toNat)
      case atStart => exact ⟨0, Nat.zero_le _, rfl, HST.out⟩
      case round =>
        clear hx0 hf0 hcB
        obtain ⟨x, hx, rfl, hfr⟩ := hrel
        by_cases hxt : x < W
        · have HLX := Lib.hid (HLC.out x k)
          obtain ⟨c1, c2, c3, c4⟩ := hfr.cells hlt hxt (Q : Int)
          obtain ⟨c5, c6, c7⟩ := c4 (by omega)
          have HP1 := Lib.hid (hfr.put (by omega) hxt)
          have HP2 := Lib.hid (hfr.put2 (by omega) hxt (Q : Int))
          clear hfr c4
          generalize hkW : k * W = m at *
          clear hkW
          by_cases hmr : m + x < R
          · have HL2 : Hid (layC W D n x k = (Q : Int) + 1) := Lib.hid (by rw [HLX.out, if_pos hmr])
            have hmi : (m : Int) + (x : Int) < (R : Int) := by omega
            go_wp2
            go_still_tail 11, (by kernel_rfl)
            change wpList _ _ _ _ _ (wr.drewN 1)
            go_wp2
            go_roundw
            case rel => exact ⟨x + 1, by omega, by go_num, by have h := HP2.out; rw [HL2.out] at h; exact h⟩
            case measure => simp [intOf]; omega
          · have HL2 : Hid (layC W D n x k = (Q : Int)) := Lib.hid (by rw [HLX.out, if_neg hmr, Int.add_zero])
            have hmi : ¬ (m : Int) + (x : Int) < (R : Int) := by omega
            go_wp2
            go_still_tail 11, (by kernel_rfl)
            change wpList _ _ _ _ _ (wr.drewN 1)
            go_wp2
            go_roundw
            case rel => exact ⟨x + 1, by omega, by go_num, by have h := HP1.out; rw [HL2.out] at h; exact h⟩
            case measure => simp [intOf]; omega
        · obtain rfl : x = W := by omega
          have hstep : CopG w wr D (k + 1) (xs.set k (.slice (some ⟨wo.heap.size, 0, none⟩) (layRow x D n k).length x)) (layF x D n) := by
            refine HC.out.step2 hlt (HAT.out k hlt) ?_ ?_ hfr.far hfr.bel hfr.sz
            · have h := hfr.row
              rw [part_all] at h
              rw [HRL.out]
              exact h
            · rw [HRL.out]; exact hfr.out
          have HSt := Lib.hid hstep
          clear hstep hfr
          go_wp2
          go_roundw
          case rel => exact ⟨k + 1, _, by omega, by go_num, HSt.out⟩
          case measure => simp [intOf]; omega
    · obtain rfl : k = D := by omega
      have R2 : OutGr (layF W k n) w (.returned (.slice (some ⟨w.heap.size, 0, none⟩) k k)) wr := ⟨_, k, xs, by rw [HLEN.out], by rw [HLEN.out]; exact hcop.done HLEN.out, hbel⟩
      have HR := Lib.hid R2
      clear R2 hcop hbel
      go_wp2
      go_ret
      exact HR.out
theorem natW {a b : Nat} (h : a * b ≤ 1000000) : IntKind.i64.wrap ((a : Int) * (b : Int)) = ((a * b : Nat) : Int) := by rw [← Int.natCast_mul]; exact IntWalk.i64_in _ (by omega)
end Go.Proofs.Ytggdnpaiaijhgaa

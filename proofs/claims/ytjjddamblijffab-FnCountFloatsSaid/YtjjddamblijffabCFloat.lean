/- Contracts of chapter 3: whether cakes can float out, the words and the program. -/
import Derived.Lib.QuietBelow
import Derived.Test.YtjjddamblijffabCSaw
import Derived.Test.YtjjddamblijffabVOrd
namespace Go.Proofs.Ytjjddamblijffab
open Go.RowKit
set_option linter.unusedVariables false
set_option linter.unusedSimpArgs false
def blkB (b : Int) (c d : Int × Int) : Bool := decide (d.1 < c.1 ∧ d.2 < c.2 + b ∧ c.2 < d.2 + b)
def heldTo (b : Int) (cs : List (Int × Int)) (l : List Int) (c : Int × Int) (k : Nat) : Bool := (List.range k).any (fun i => !memB l (i : Int) && blkB b c (cAt cs i))
def stepB (b : Int) (cs : List (Int × Int)) (l : List Int) (z : Int) : Bool := (inB z 0 ((cs.length : Int) - 1) && !memB l z) && !heldTo b cs l (cAt cs z.toNat) cs.length
def vfTo (b : Int) (cs : List (Int × Int)) (order : List Int) (m : Nat) : Bool := (List.range m).all (fun i => stepB b cs (order.take i) (at_ order i))
def vfB (b : Int) (cs : List (Int × Int)) (order : List Int) : Bool := decide (order.length = cs.length) && vfTo b cs order order.length
def vfT (a b : Int) (cs : List (Int × Int)) (order : List Int) : Bool := cakesB a b cs && vfB b cs order
theorem heldTo_succ (b : Int) (cs : List (Int × Int)) (l : List Int) (c : Int × Int) (k : Nat) : heldTo b cs l c (k + 1) = (heldTo b cs l c k || (!memB l (k : Int) && blkB b c (cAt cs k))) := by
  unfold heldTo
  rw [List.range_succ, List.any_append]
  simp
theorem heldTo_hit {b : Int} {cs : List (Int × Int)} {l : List Int} {c : Int × Int} {i k : Nat} (hi : i < k) (h : (!memB l (i : Int) && blkB b c (cAt cs i)) = true) : heldTo b cs l c k = true := by
  unfold heldTo
  rw [List.any_eq_true]
  exact ⟨i, List.mem_range.2 hi, h⟩
theorem vfTo_succ (b : Int) (cs : List (Int × Int)) (order : List Int) (m : Nat) : vfTo b cs order (m + 1) = (vfTo b cs order m && stepB b cs (order.take m) (at_ order m)) := by
  unfold vfTo
  rw [List.range_succ, List.all_append]
  simp
theorem vfTo_bad {b : Int} {cs : List (Int × Int)} {order : List Int} {i m : Nat} (hi : i < m) (h : stepB b cs (order.take i) (at_ order i) = false) : vfTo b cs order m = false := by
  unfold vfTo
  rw [List.all_eq_false]
  exact ⟨i, List.mem_range.2 hi, by rw [h]; simp⟩
theorem vfTo_in {b : Int} {cs : List (Int × Int)} {order : List Int} {m : Nat} (h : vfTo b cs order m = true) {i : Nat} (hi : i < m) : 0 ≤ at_ order i ∧ at_ order i ≤ (cs.length : Int) - 1 := by
  unfold vfTo at h
  rw [List.all_eq_true] at h
  have h1 := h i (List.mem_range.2 hi)
  unfold stepB at h1
  simp only [Bool.and_eq_true] at h1
  exact inB_t h1.1.1
theorem blk_dist {b x y u v : Int} : blkB b (x, y) (u, v) = (decide (u < x) && decide ((if y < v then v - y else y - v) < b)) := by
  unfold blkB
  rw [← Bool.decide_and]
  refine decide_eq_decide.2 ?_
  show (u < x ∧ v < y + b ∧ y < v + b) ↔ _
  split <;> omega
set_option maxRecDepth 100000 in
set_option maxHeartbeats 1000000 in
theorem iHeld_any (n : Nat) (hn : n ≤ 1048576) (cs : List (Int × Int)) (hl : cs.length = n) (A Ag : Option Addr) (c cg : Nat) (w : World) (hr : Rd w w.heap.size A (cakeV cs)) (l : List Int) (hrg : Rd w w.heap.size Ag (bools (goneL n l))) (x y b : Int) (hb : 1 ≤ b ∧ b ≤ 4) (hy : 0 ≤ y ∧ y ≤ 9) (hon : ∀ j, j < n → 0 ≤ (cAt cs j).2 ∧ (cAt cs j).2 ≤ 9) :
    Calls Try.prog 79 #[.slice A n c, .slice Ag n cg, .agg #[.int .i64 x, .int .i64 y], .int .i64 b] w fun e w' => e = .returned (.bool (heldTo b cs l (x, y) n)) ∧ Below w.heap.size w w' := by
  obtain ⟨y1, y2⟩ := hy
  have HON := Lib.hid hon
  have HL := Lib.hid hl
  clear hon hl
  obtain ⟨wq, hwq⟩ : ∃ wq, wq = w.alloc (.cells #[.int .i64 x, .int .i64 y] 83) := ⟨_, rfl⟩
  have b0 : Below w.heap.size w wq := by rw [hwq]; exact (Below.refl _ _).alloc (Nat.le_refl _) _
  have d0 : wq.cell? ⟨w.heap.size, 0, none⟩ = some (.int .i64 x) := by rw [hwq]; exact two_new w (.int .i64 x) (.int .i64 y) _ _ rfl 0 _ rfl
  have d1 : wq.cell? ⟨w.heap.size, 1, none⟩ = some (.int .i64 y) := by rw [hwq]; exact two_new w (.int .i64 x) (.int .i64 y) _ _ rfl 1 _ rfl
  have hsz : wq.heap.size = w.heap.size + 1 := by rw [hwq]; simp
  go_enter Try.func79, Try.ntmps79
  go_wp2
  rw [← hwq]
  have HQ := Lib.hid hwq
  clear hwq
  go_loopw [13] (fun i wr => ∃ k : Nat, k ≤ n ∧ i = .int .i64 k ∧ heldTo b cs l (x, y) k = false ∧ Below wq.heap.size wq wr) (fun i _ => n - (intOf i).toNat)
  case atStart => exact ⟨0, Nat.zero_le _, rfl, rfl, Below.refl _ _⟩
  case round =>
    obtain ⟨k, hk, rfl, hno, hbel⟩ := hrel
    have HNO := Lib.hid hno
    have hbw := b0.trans (hbel.mono (by omega))
    have HBW := Lib.hid hbw
    have hsr := hbel.size
    by_cases hlt : k < n
    · obtain ⟨b1, off, u, v, rfl, hb1, hz, hc, hc2⟩ := (hr.below hbw).cake_ (k := k) (by rw [HL.out]; exact hlt)
      obtain ⟨b3, off3, rfl, hb3, hcg⟩ := (hrg.below hbw).bool_ (k := k) (by rw [goneL_len]; exact hlt)
      rw [goneL_at hlt] at hcg
      have f0 : ∀ o : Obj, (wr.alloc o).cell? ⟨w.heap.size, 0, none⟩ = some (.int .i64 x) := fun o => (World.cell?_alloc_lt wr o _ (by show w.heap.size < _; omega)).trans ((hbel.cell (p := ⟨w.heap.size, 0, none⟩) (by show w.heap.size < _; omega)).trans d0)
      have f1 : ∀ o : Obj, (wr.alloc o).cell? ⟨w.heap.size, 1, none⟩ = some (.int .i64 y) := fun o => (World.cell?_alloc_lt wr o _ (by show w.heap.size < _; omega)).trans ((hbel.cell (p := ⟨w.heap.size, 1, none⟩) (by show w.heap.size < _; omega)).trans d1)
      have f2 : ∀ o : Obj, (wr.alloc o).cell? ⟨b3, off3 + k, none⟩ = some (.bool (memB l (k : Int))) := fun o => (World.cell?_alloc_lt wr o _ (by show b3 < _; omega)).trans hcg
      have ho := HON.out k hlt
      rw [cAt_get hz.out] at ho
      obtain ⟨o3, o4⟩ := ho
      simp only at o3 o4
      have HB2 : Hid (∀ o : Obj, Below wq.heap.size wq (wr.alloc o)) := Lib.hid fun o => hbel.alloc (by omega) _
      have HOV : Hid (blkB b (x, y) (cAt cs k) = (decide (u < x) && decide ((if y < v then v - y else y - v) < b))) := Lib.hid (by rw [cAt_get hz.out]; exact blk_dist)
      have HNext : Hid ((!memB l (k : Int) && blkB b (x, y) (cAt cs k)) = false → heldTo b cs l (x, y) (k + 1) = false) := Lib.hid fun h => by rw [heldTo_succ, HNO.out, h]; rfl
      have HHit : Hid ((!memB l (k : Int) && blkB b (x, y) (cAt cs k)) = true → heldTo b cs l (x, y) n = true) := Lib.hid fun h => heldTo_hit hlt h
      clear hno hbel hbw d0 d1 hz hcg
      generalize hD2 : (if y < v then v - y else y - v) = D2 at HOV
      have cd2 : ∀ w, Calls Try.prog 64 #[.int .i64 y, .int .i64 v] w fun e w' => e = .returned (.int .i64 D2) ∧ w = w' := fun w => by have := iDist_any y v ⟨y1, y2⟩ ⟨o3, o4⟩ w; rwa [hD2] at this
      have CD2 := Lib.hid cd2
      clear hD2 cd2
      generalize memB l (k : Int) = mq at *
      cases mq
      · by_cases hux : u < x
        · by_cases hd2 : D2 < b
          · have HT := Lib.hid (HHit.out (by rw [HOV.out, decide_eq_true hux, decide_eq_true hd2]; rfl))
            go_wp2_with fail
            refine (CD2.out _).mono ?_
            rintro e w' ⟨rfl, rfl⟩
            go_wp2
            go_ret
            exact ⟨ret_bool HT.out.symm, b0.trans ((HB2.out _).mono (by omega))⟩
          · have HT := Lib.hid (HNext.out (by rw [HOV.out, decide_eq_false hd2, Bool.and_false, Bool.and_false]))
            have hd3 : b ≤ D2 := by omega
            go_wp2_with fail
            refine (CD2.out _).mono ?_
            rintro e w' ⟨rfl, rfl⟩
            go_wp2
            go_roundw
            case rel => exact ⟨k + 1, by omega, by go_num, HT.out, HB2.out _⟩
            case measure => simp [intOf]; omega
        · have HT := Lib.hid (HNext.out (by rw [HOV.out, decide_eq_false hux]; rfl))
          have hux2 : x ≤ u := by omega
          go_wp2
          go_roundw
          case rel => exact ⟨k + 1, by omega, by go_num, HT.out, HB2.out _⟩
          case measure => simp [intOf]; omega
      · have HT := Lib.hid (HNext.out rfl)
        go_wp2
        go_roundw
        case rel => exact ⟨k + 1, by omega, by go_num, HT.out, HB2.out _⟩
        case measure => simp [intOf]; omega
    · obtain rfl : k = n := by omega
      go_wp2
      go_ret
      exact ⟨ret_bool HNO.out.symm, HBW.out⟩
theorem step_ord (b : Int) (cs : List (Int × Int)) (l : List Int) (z : Int) : stepB b cs l z = (ordStep cs.length l z && !heldTo b cs l (cAt cs z.toNat) cs.length) := rfl
theorem vfB_ord {b : Int} {cs : List (Int × Int)} {order : List Int} (h : ordB cs.length order = false) : vfB b cs order = false := by
  cases e : vfB b cs order
  · rfl
  · unfold vfB at e
    rw [Bool.and_eq_true] at e
    obtain ⟨e1, e2⟩ := e
    unfold ordB at h
    rw [e1, Bool.true_and] at h
    unfold ordTo at h
    rw [List.all_eq_false] at h
    obtain ⟨i, hi, h⟩ := h
    unfold vfTo at e2
    rw [List.all_eq_true] at e2
    have h2 := e2 i hi
    rw [step_ord, Bool.and_eq_true] at h2
    exact absurd h2.1 h
set_option maxRecDepth 100000 in
set_option maxHeartbeats 2000000 in
theorem iFloat_any (n m : Nat) (hn : n ≤ 1048576) (hm : m ≤ 1048576) (cs : List (Int × Int)) (order : List Int) (hl : cs.length = n) (hlo : order.length = m) (A Ao : Option Addr) (c co : Nat) (hcap : n ≤ c ∧ c ≤ maxLen) (w : World) (hr : Rd w w.heap.size A (cakeV cs)) (hro : Rd w w.heap.size Ao (ints order)) (a b : Int) :
    Calls Try.prog 38 #[.slice A n c, .int .i64 a, .int .i64 b, .slice Ao m co] w fun e w' => e = .returned (.bool (vfT a b cs order)) ∧ Below w.heap.size w w' := by
  have HL := Lib.hid hl
  have HLO := Lib.hid hlo
  cases hv : cakesB a b cs
  · have HF : Hid (vfT a b cs order = false) := Lib.hid (by unfold vfT; rw [hv]; rfl)
    have HC := Lib.hid (iVC_is n hn cs hl A c hcap w hr a b hv)
    clear hv hl hlo
    go_enter Try.func38, Try.ntmps38
    go_wp2_with fail
    refine (HC.out).mono ?_
    rintro e w1 ⟨rfl, b1⟩
    go_wp2
    go_ret
    exact ⟨ret_bool HF.out.symm, b1⟩
  have HC := Lib.hid (iVC_is n hn cs hl A c hcap w hr a b hv)
  cases hov : ordB n order
  case false =>
    have HF : Hid (vfT a b cs order = false) := Lib.hid (by unfold vfT; rw [vfB_ord (by rw [hl]; exact hov)]; simp)
    have HV := Lib.hid (fun (w' : World) (hb : Below w.heap.size w w') => (iVOrd_any n m hn order hlo hm Ao co w' ((hro.below hb).more hb.size)))
    have HOV := Lib.hid hov
    clear hv hl hlo hov
    go_enter Try.func38, Try.ntmps38
    go_wp2_with fail
    refine (HC.out).mono ?_
    rintro e w1 ⟨rfl, b1⟩
    have cv := HV.out w1 b1
    rw [HOV.out] at cv
    go_wp2_with fail
    refine (cv).mono ?_
    rintro e w2 ⟨rfl, b2⟩
    have hb2 := b1.trans (b2.mono b1.size)
    have HB2 := Lib.hid hb2
    clear hb2 b1 b2
    go_wp2
    go_ret
    exact ⟨ret_bool HF.out.symm, HB2.out⟩
  case true =>
  obtain ⟨hmn, hot⟩ := ordB_t hov
  rw [hlo] at hmn
  subst hmn
  have HV := Lib.hid (fun (w' : World) (hb : Below w.heap.size w w') => (iVOrd_any m m hn order hlo hm Ao co w' ((hro.below hb).more hb.size)))
  have HOV := Lib.hid hov
  have HOT := Lib.hid hot
  clear hov hot
  obtain ⟨hs, hok⟩ := cakesB_parts hv
  obtain ⟨⟨s1, s2⟩, ⟨s3, s4⟩⟩ := sidesB_t hs
  rw [hl] at hok
  have HON : Hid (∀ j, j < m → (0 ≤ (cAt cs j).1 ∧ (cAt cs j).1 ≤ 9) ∧ 0 ≤ (cAt cs j).2 ∧ (cAt cs j).2 ≤ 9) := Lib.hid fun j hj => by have := onB_t (okTo_on hok hj); omega
  have HF : Hid (vfT a b cs order = vfTo b cs order m) := Lib.hid (by unfold vfT vfB; rw [hv, hl, hlo]; simp)
  have HStep : Hid (∀ (l : List Int) (z : Int), stepB b cs l z = (ordStep m l z && !heldTo b cs l (cAt cs z.toNat) m)) := Lib.hid fun l z => by unfold stepB ordStep; rw [hl]
  generalize vfT a b cs order = R at *
  clear hv hs hok hl hlo
  obtain ⟨i0, hi, hz0, hz1, hz2⟩ := info_parts info_bool
  have hmk := run_make_row' (P := Try.prog) 86 4 (.bool false) 1 Try.underlying86 info_bool rfl .i64 .i64 m (by omega) (by omega)
  go_enter Try.func38, Try.ntmps38
  go_wp2_with fail
  refine (HC.out).mono ?_
  rintro e w0 ⟨rfl, b0⟩
  have cv := HV.out w0 b0
  rw [HOV.out] at cv
  go_wp2_with fail
  refine (cv).mono ?_
  rintro e w1 ⟨rfl, b01⟩
  have b1 := b0.trans (b01.mono b0.size)
  have HB1 := Lib.hid b1
  have hs1 := b1.size
  clear b1 b0 b01 HV
  go_wp2
  go_loopw [29] (fun i wr => ∃ k : Nat, k ≤ m ∧ i = .int .i64 k ∧ vfTo b cs order k = true ∧ wr.ownsRow w1.heap.size 4 1 (.slice (some ⟨w1.heap.size, 0, none⟩) m m) m (bools (goneL m (order.take k))) ∧ Below w1.heap.size w1 wr) (fun i _ => m - (intOf i).toNat)
  case atStart =>
    refine ⟨0, Nat.zero_le _, rfl, rfl, ?_, (Below.refl _ _).alloc (Nat.le_refl _) _⟩
    rw [List.take_zero, goneL_nil]
    have := own_made w1 (.bool false) m 4 (by unfold maxLen; omega)
    simpa [bools] using this
  case round =>
    obtain ⟨k, hk, rfl, hvf, hown, hbel⟩ := hrel
    have HVF := Lib.hid hvf
    have HOWN := Lib.hid hown
    have HBEL := Lib.hid hbel
    have hszr := hbel.size
    have hbw := HB1.out.trans (hbel.mono hs1)
    have HBW := Lib.hid hbw
    clear hvf
    by_cases hlt : k < m
    · obtain ⟨b3, off3, z, rfl, hb3, hz, hcz⟩ := (hro.below hbw).int_ (k := k) (by rw [HLO.out]; exact hlt)
      have Hat : Hid (at_ order k = z) := Lib.hid (by unfold at_; rw [List.getD_eq_getElem?_getD, hz.out]; rfl)
      have HTS := Lib.hid (take_snoc hz.out)
      have HBad : Hid (stepB b cs (order.take k) z = false → R = false) := Lib.hid fun h => by rw [HF.out]; exact vfTo_bad hlt (by rw [Hat.out]; exact h)
      have HGood : Hid (stepB b cs (order.take k) z = true → vfTo b cs order (k + 1) = true) := Lib.hid fun h => by rw [vfTo_succ, HVF.out, Hat.out, h]; rfl
      have hrr := (hr.below hbw).more hbw.size
      have hrg := Rd.own hown
      clear hz hbel hbw
      have hos := ordTo_step HOT.out hlt
      rw [Hat.out] at hos
      have hzr : (0 : Int) ≤ z ∧ z ≤ (m : Int) - 1 := by unfold ordStep at hos; rw [Bool.and_eq_true] at hos; exact inB_t hos.1
      obtain ⟨t, rfl⟩ := Int.eq_ofNat_of_zero_le hzr.1
      have htm : t < m := by omega
      have HOS := Lib.hid hos
      clear hos hzr
      have hcg := own_cell hown (k := t) (x := .bool (memB (order.take k) (t : Int))) (by
        have := bools_at (bs := goneL m (order.take k)) (k := t) (by rw [goneL_len]; exact htm)
        rw [goneL_at htm] at this
        exact this)
      have hfz := own_frozen hown t
      obtain ⟨b1, off, x, y, rfl, hb1, hz, hc, hc2⟩ := (hr.below HBW.out).cake_ (k := t) (by rw [HL.out]; exact htm)
      have Hct : Hid (cAt cs t = (x, y)) := Lib.hid (cAt_get hz.out)
      have hon := HON.out t htm
      rw [Hct.out] at hon
      have HSt : Hid (∀ hq, heldTo b cs (order.take k) (x, y) m = hq → stepB b cs (order.take k) (t : Int) = !hq) := Lib.hid fun hq h2 => by rw [HStep.out, HOS.out, Int.toNat_natCast, Hct.out, h2]; rfl
      have hcall := iHeld_any m hm cs HL.out _ _ c m wr hrr (order.take k) hrg x y b ⟨s3, s4⟩ hon.2 (fun j hj => (HON.out j hj).2)
      have hz4 : ¬ m ≤ t := by omega
      have hz5 : 0 ≤ (t : Int) := by omega
      clear hz hon hrr hrg hown hcg
      cases hhq : heldTo b cs (order.take k) (x, y) m
      · rw [hhq] at hcall
        have HT := Lib.hid (HGood.out (by rw [HSt.out _ hhq]; rfl))
        clear hhq
        go_wp2_with fail
        refine hcall.mono ?_
        rintro e w5 ⟨rfl, b5⟩
        have o5 := own_below HOWN.out b5
        have hc5 := own_cell o5 (k := t) (x := .bool (isd (goneL m (order.take k)) t)) (bools_at (by rw [goneL_len]; exact htm))
        have hf5 := own_frozen o5 t
        have hput := own_put o5 t (.bool true)
        rw [bools_set, goneL_snoc htm, ← HTS.out] at hput
        have hb5 := (HBEL.out.trans (b5.mono hszr)).setCell (by simp) (.bool true) (p := ⟨w1.heap.size, t, none⟩)
        have HP := Lib.hid (And.intro hput hb5)
        clear hput hb5 o5 b5 hcall
        go_wp2
        go_roundw
        case rel => exact ⟨k + 1, by omega, by go_num, HT.out, HP.out.1, HP.out.2⟩
        case measure => simp [intOf]; omega
      · rw [hhq] at hcall
        have HT := Lib.hid (HBad.out (by rw [HSt.out _ hhq]; rfl))
        clear hhq
        go_wp2_with fail
        refine hcall.mono ?_
        rintro e w5 ⟨rfl, b5⟩
        have hb5 := HBW.out.trans (b5.mono (by have := HBW.out.size; exact this))
        have HB5 := Lib.hid hb5
        clear hb5 b5 hcall
        go_wp2
        go_ret
        exact ⟨ret_bool HT.out.symm, HB5.out⟩
    · obtain rfl : k = m := by omega
      clear hown
      go_wp2
      go_ret
      exact ⟨ret_bool (by rw [HF.out, HVF.out]), HBW.out⟩

end Go.Proofs.Ytjjddamblijffab

/- Contracts of chapter 3: whether cakes are valid. -/
import Derived.Lib.QuietBelow
import Derived.Test.YtjjddamblijffabCWords
import Derived.Test.YtjjddamblijffabFHold
namespace Go.Proofs.Ytjjddamblijffab
open Go.RowKit
set_option linter.unusedVariables false
set_option linter.unusedSimpArgs false
def cAt (cs : List (Int × Int)) (i : Nat) : Int × Int := cs.getD i (0, 0)
theorem cAt_get {cs : List (Int × Int)} {i : Nat} {x y : Int} (h : cs[i]? = some (x, y)) : cAt cs i = (x, y) := by unfold cAt; rw [List.getD_eq_getElem?_getD, h]; rfl
def onB (a b : Int) (c : Int × Int) : Bool := inB c.1 0 (9 - a) && inB c.2 0 (9 - b)
def overB (a b : Int) (c d : Int × Int) : Bool := decide (c.1 < d.1 + a ∧ d.1 < c.1 + a ∧ c.2 < d.2 + b ∧ d.2 < c.2 + b)
def anyOver (a b : Int) (c : Int × Int) (cs : List (Int × Int)) (k : Nat) : Bool := (List.range k).any (fun j => overB a b c (cAt cs j))
def okTo (a b : Int) (cs : List (Int × Int)) (n : Nat) : Bool := (List.range n).all (fun i => onB a b (cAt cs i) && !anyOver a b (cAt cs i) cs i)
def cakesB (a b : Int) (cs : List (Int × Int)) : Bool := sidesB a b && okTo a b cs cs.length
theorem anyOver_succ (a b : Int) (c : Int × Int) (cs : List (Int × Int)) (k : Nat) : anyOver a b c cs (k + 1) = (anyOver a b c cs k || overB a b c (cAt cs k)) := by
  unfold anyOver
  rw [List.range_succ, List.any_append]
  simp
theorem anyOver_hit {a b : Int} {c : Int × Int} {cs : List (Int × Int)} {j k : Nat} (hj : j < k) (h : overB a b c (cAt cs j) = true) : anyOver a b c cs k = true := by
  unfold anyOver
  rw [List.any_eq_true]
  exact ⟨j, List.mem_range.2 hj, h⟩
theorem okTo_succ (a b : Int) (cs : List (Int × Int)) (n : Nat) : okTo a b cs (n + 1) = (okTo a b cs n && (onB a b (cAt cs n) && !anyOver a b (cAt cs n) cs n)) := by
  unfold okTo
  rw [List.range_succ, List.all_append]
  simp
theorem okTo_bad {a b : Int} {cs : List (Int × Int)} {i n : Nat} (hi : i < n) (h : (onB a b (cAt cs i) && !anyOver a b (cAt cs i) cs i) = false) : okTo a b cs n = false := by
  unfold okTo
  rw [List.all_eq_false]
  exact ⟨i, List.mem_range.2 hi, by rw [h]; simp⟩
theorem okTo_on {a b : Int} {cs : List (Int × Int)} {i n : Nat} (h : okTo a b cs n = true) (hi : i < n) : onB a b (cAt cs i) = true := by
  unfold okTo at h
  rw [List.all_eq_true] at h
  have := h i (List.mem_range.2 hi)
  rw [Bool.and_eq_true] at this
  exact this.1
theorem okTo_clear {a b : Int} {cs : List (Int × Int)} {i n : Nat} (h : okTo a b cs n = true) (hi : i < n) : anyOver a b (cAt cs i) cs i = false := by
  unfold okTo at h
  rw [List.all_eq_true] at h
  have := h i (List.mem_range.2 hi)
  rw [Bool.and_eq_true, Bool.not_eq_true'] at this
  exact this.2
theorem okTo_mono {a b : Int} {cs : List (Int × Int)} {m n : Nat} (h : okTo a b cs n = true) (hm : m ≤ n) : okTo a b cs m = true := by
  unfold okTo at *
  rw [List.all_eq_true] at *
  exact fun i hi => h i (List.mem_range.2 (by have := List.mem_range.1 hi; omega))
theorem onB_t {a b : Int} {c : Int × Int} (h : onB a b c = true) : (0 ≤ c.1 ∧ c.1 ≤ 9 - a) ∧ 0 ≤ c.2 ∧ c.2 ≤ 9 - b := by
  unfold onB at h
  rw [Bool.and_eq_true] at h
  exact ⟨inB_t h.1, inB_t h.2⟩
theorem cakesB_no {a b : Int} {cs : List (Int × Int)} (h : sidesB a b = false) : cakesB a b cs = false := by unfold cakesB; rw [h]; rfl
theorem cakesB_ok {a b : Int} {cs : List (Int × Int)} (h : sidesB a b = true) : cakesB a b cs = okTo a b cs cs.length := by unfold cakesB; rw [h]; rfl
set_option maxRecDepth 100000 in
set_option maxHeartbeats 400000 in
theorem iDist_any (x y : Int) (hx : 0 ≤ x ∧ x ≤ 9) (hy : 0 ≤ y ∧ y ≤ 9) (w : World) :
    Calls Try.prog 64 #[.int .i64 x, .int .i64 y] w fun e w' => e = .returned (.int .i64 (if x < y then y - x else x - y)) ∧ w = w' := by
  obtain ⟨h1, h2⟩ := hx
  obtain ⟨h3, h4⟩ := hy
  by_cases h : x < y
  · rw [if_pos h]
    go_enter Try.func64, Try.ntmps64
    go_wp2
    go_ret
    exact ⟨rfl, rfl⟩
  · rw [if_neg h]
    go_enter Try.func64, Try.ntmps64
    go_wp2
    go_ret
    exact ⟨rfl, rfl⟩
set_option maxRecDepth 100000 in
set_option maxHeartbeats 400000 in
theorem iOn_any (x y a b : Int) (ha : 1 ≤ a ∧ a ≤ 4) (hb : 1 ≤ b ∧ b ≤ 4) (w : World) :
    Calls Try.prog 88 #[.agg #[.int .i64 x, .int .i64 y], .int .i64 a, .int .i64 b] w fun e w' => e = .returned (.bool (onB a b (x, y))) ∧ Below w.heap.size w w' := by
  have e1 : IntKind.i64.wrap (9 - a) = 9 - a := IntWalk.i64_in _ (by omega)
  have e2 : IntKind.i64.wrap (9 - b) = 9 - b := IntWalk.i64_in _ (by omega)
  have H : Hid (onB a b (x, y) = (inB x 0 (9 - a) && inB y 0 (9 - b))) := Lib.hid rfl
  have bel : ∀ o : Obj, Below w.heap.size w (w.alloc o) := fun o => (Below.refl _ _).alloc (Nat.le_refl _) _
  by_cases h1 : 0 ≤ x
  · by_cases h2 : x ≤ 9 - a
    · have H1 : Hid (inB x 0 (9 - a) = true) := Lib.hid (inB_mk ⟨h1, h2⟩)
      by_cases h3 : 0 ≤ y
      · by_cases h4 : y ≤ 9 - b
        · have H2 : Hid (inB y 0 (9 - b) = true) := Lib.hid (inB_mk ⟨h3, h4⟩)
          go_enter Try.func88, Try.ntmps88
          go_wp2
          go_ret
          exact ⟨ret_bool (by rw [H.out, H1.out, H2.out]; rfl), bel _⟩
        · have H2 : Hid (inB y 0 (9 - b) = false) := Lib.hid (inB_nk (by omega))
          have h5 : 9 - b < y := by omega
          go_enter Try.func88, Try.ntmps88
          go_wp2
          go_ret
          exact ⟨ret_bool (by rw [H.out, H1.out, H2.out]; rfl), bel _⟩
      · have H2 : Hid (inB y 0 (9 - b) = false) := Lib.hid (inB_nk (by omega))
        have h5 : y < 0 := by omega
        go_enter Try.func88, Try.ntmps88
        go_wp2
        go_ret
        exact ⟨ret_bool (by rw [H.out, H1.out, H2.out]; rfl), bel _⟩
    · have H1 : Hid (inB x 0 (9 - a) = false) := Lib.hid (inB_nk (by omega))
      have h5 : 9 - a < x := by omega
      go_enter Try.func88, Try.ntmps88
      go_wp2
      go_ret
      exact ⟨ret_bool (by rw [H.out, H1.out]; rfl), bel _⟩
  · have H1 : Hid (inB x 0 (9 - a) = false) := Lib.hid (inB_nk (by omega))
    have h5 : x < 0 := by omega
    go_enter Try.func88, Try.ntmps88
    go_wp2
    go_ret
    exact ⟨ret_bool (by rw [H.out, H1.out]; rfl), bel _⟩
theorem over_dist {a b x y u v : Int} : overB a b (x, y) (u, v) = (decide ((if x < u then u - x else x - u) < a) && decide ((if y < v then v - y else y - v) < b)) := by
  unfold overB
  rw [← Bool.decide_and]
  refine decide_eq_decide.2 ?_
  show (x < u + a ∧ u < x + a ∧ y < v + b ∧ v < y + b) ↔ _
  split <;> split <;> omega
set_option maxRecDepth 100000 in
set_option maxHeartbeats 1000000 in
theorem iOver_any (n : Nat) (hn : n ≤ 1048576) (cs : List (Int × Int)) (hl : n ≤ cs.length) (A : Option Addr) (c : Nat) (w : World) (hr : Rd w w.heap.size A (cakeV cs)) (x y a b : Int) (ha : 1 ≤ a ∧ a ≤ 4) (hb : 1 ≤ b ∧ b ≤ 4) (hxy : onB a b (x, y) = true) (hon : ∀ j, j < n → onB a b (cAt cs j) = true) :
    Calls Try.prog 89 #[.slice A n c, .agg #[.int .i64 x, .int .i64 y], .int .i64 a, .int .i64 b] w fun e w' => e = .returned (.bool (anyOver a b (x, y) cs n)) ∧ Below w.heap.size w w' := by
  have hp := onB_t hxy
  obtain ⟨⟨p1, p2⟩, p3, p4⟩ := hp
  simp only at p1 p2 p3 p4
  have HON := Lib.hid hon
  clear hon hxy
  obtain ⟨wq, hwq⟩ : ∃ wq, wq = w.alloc (.cells #[.int .i64 x, .int .i64 y] 83) := ⟨_, rfl⟩
  have b0 : Below w.heap.size w wq := by rw [hwq]; exact (Below.refl _ _).alloc (Nat.le_refl _) _
  have d0 : wq.cell? ⟨w.heap.size, 0, none⟩ = some (.int .i64 x) := by rw [hwq]; exact two_new w (.int .i64 x) (.int .i64 y) _ _ rfl 0 _ rfl
  have d1 : wq.cell? ⟨w.heap.size, 1, none⟩ = some (.int .i64 y) := by rw [hwq]; exact two_new w (.int .i64 x) (.int .i64 y) _ _ rfl 1 _ rfl
  have hsz : wq.heap.size = w.heap.size + 1 := by rw [hwq]; simp
  go_enter Try.func89, Try.ntmps89
  go_wp2
  rw [← hwq]
  have HQ := Lib.hid hwq
  clear hwq
  go_loopw [13] (fun i wr => ∃ k : Nat, k ≤ n ∧ i = .int .i64 k ∧ anyOver a b (x, y) cs k = false ∧ Below wq.heap.size wq wr) (fun i _ => n - (intOf i).toNat)
  case atStart => exact ⟨0, Nat.zero_le _, rfl, rfl, Below.refl _ _⟩
  case round =>
    obtain ⟨k, hk, rfl, hno, hbel⟩ := hrel
    have HNO := Lib.hid hno
    have hbw := b0.trans (hbel.mono (by omega))
    have HBW := Lib.hid hbw
    have hsr := hbel.size
    by_cases hlt : k < n
    · obtain ⟨b1, off, u, v, rfl, hb1, hz, hc, hc2⟩ := (hr.below hbw).cake_ (k := k) (by omega)
      have e0 := (hbel.cell (p := ⟨w.heap.size, 0, none⟩) (by show w.heap.size < _; omega)).trans d0
      have e1 := (hbel.cell (p := ⟨w.heap.size, 1, none⟩) (by show w.heap.size < _; omega)).trans d1
      have f0 : ∀ o : Obj, (wr.alloc o).cell? ⟨w.heap.size, 0, none⟩ = some (.int .i64 x) := fun o => (World.cell?_alloc_lt wr o _ (by show w.heap.size < _; omega)).trans e0
      have f1 : ∀ o : Obj, (wr.alloc o).cell? ⟨w.heap.size, 1, none⟩ = some (.int .i64 y) := fun o => (World.cell?_alloc_lt wr o _ (by show w.heap.size < _; omega)).trans e1
      clear e0 e1
      have ho := onB_t (HON.out k hlt)
      rw [cAt_get hz.out] at ho
      obtain ⟨⟨o1, o2⟩, o3, o4⟩ := ho
      simp only at o1 o2 o3 o4
      have HB2 : Hid (∀ o : Obj, Below wq.heap.size wq (wr.alloc o)) := Lib.hid fun o => hbel.alloc (by omega) _
      have HOV : Hid (overB a b (x, y) (cAt cs k) = (decide ((if x < u then u - x else x - u) < a) && decide ((if y < v then v - y else y - v) < b))) := Lib.hid (by rw [cAt_get hz.out]; exact over_dist)
      clear hno hbel hbw d0 d1 hz
      generalize hD1 : (if x < u then u - x else x - u) = D1 at HOV
      generalize hD2 : (if y < v then v - y else y - v) = D2 at HOV
      have cd1 : ∀ w, Calls Try.prog 64 #[.int .i64 x, .int .i64 u] w fun e w' => e = .returned (.int .i64 D1) ∧ w = w' := fun w => by have := iDist_any x u ⟨p1, by omega⟩ ⟨o1, by omega⟩ w; rwa [hD1] at this
      have cd2 : ∀ w, Calls Try.prog 64 #[.int .i64 y, .int .i64 v] w fun e w' => e = .returned (.int .i64 D2) ∧ w = w' := fun w => by have := iDist_any y v ⟨p3, by omega⟩ ⟨o3, by omega⟩ w; rwa [hD2] at this
      have CD1 := Lib.hid cd1
      have CD2 := Lib.hid cd2
      clear hD1 hD2 cd1 cd2
      by_cases hd1 : D1 < a
      · by_cases hd2 : D2 < b
        · have HT : Hid (overB a b (x, y) (cAt cs k) = true) := Lib.hid (by rw [HOV.out, decide_eq_true hd1, decide_eq_true hd2]; rfl)
          go_wp2_with fail
          refine (CD1.out _).mono ?_
          rintro e w' ⟨rfl, rfl⟩
          go_wp2_with fail
          refine (CD2.out _).mono ?_
          rintro e w' ⟨rfl, rfl⟩
          go_wp2
          go_ret
          exact ⟨ret_bool (anyOver_hit hlt HT.out).symm, b0.trans ((HB2.out _).mono (by omega))⟩
        · have HT : Hid (overB a b (x, y) (cAt cs k) = false) := Lib.hid (by rw [HOV.out, decide_eq_false hd2, Bool.and_false])
          have hd3 : b ≤ D2 := by omega
          go_wp2_with fail
          refine (CD1.out _).mono ?_
          rintro e w' ⟨rfl, rfl⟩
          go_wp2_with fail
          refine (CD2.out _).mono ?_
          rintro e w' ⟨rfl, rfl⟩
          go_wp2
          go_roundw
          case rel => exact ⟨k + 1, by omega, by go_num, by rw [anyOver_succ, HNO.out, HT.out]; rfl, HB2.out _⟩
          case measure => simp [intOf]; omega
      · have HT : Hid (overB a b (x, y) (cAt cs k) = false) := Lib.hid (by rw [HOV.out, decide_eq_false hd1]; rfl)
        have hd3 : a ≤ D1 := by omega
        go_wp2_with fail
        refine (CD1.out _).mono ?_
        rintro e w' ⟨rfl, rfl⟩
        go_wp2
        go_roundw
        case rel => exact ⟨k + 1, by omega, by go_num, by rw [anyOver_succ, HNO.out, HT.out]; rfl, HB2.out _⟩
        case measure => simp [intOf]; omega
    · obtain rfl : k = n := by omega
      go_wp2
      go_ret
      exact ⟨ret_bool HNO.out.symm, HBW.out⟩

end Go.Proofs.Ytjjddamblijffab

/- Contracts of chapter 3: the order of places, the program. -/
import Derived.Test.YtjjddamblijffabCValidI
import Derived.Test.YtjjddamblijffabFOrd
namespace Go.Proofs.Ytjjddamblijffab
open Go.RowKit
set_option linter.unusedVariables false
set_option linter.unusedSimpArgs false
def ltC (c d : Int × Int) : Bool := decide (c.1 < d.1 ∨ (c.1 = d.1 ∧ c.2 < d.2))
def plcF (cs : List (Int × Int)) (i j : Nat) : Bool := ltC (cAt cs i) (cAt cs j)
theorem okTo_apart {a b : Int} {cs : List (Int × Int)} {n i j : Nat} (h : okTo a b cs n = true) (hi : i < n) (hj : j < i) : overB a b (cAt cs i) (cAt cs j) = false := by
  unfold okTo at h
  rw [List.all_eq_true] at h
  have h1 := h i (List.mem_range.2 hi)
  simp only [Bool.and_eq_true] at h1
  have h2 := h1.2
  cases e : overB a b (cAt cs i) (cAt cs j)
  · rfl
  · rw [anyOver_hit hj e] at h2; cases h2
theorem plc_cakes {a b : Int} {cs : List (Int × Int)} (h : cakesB a b cs = true) : Plc (plcF cs) cs.length := by
  unfold cakesB at h
  rw [Bool.and_eq_true] at h
  obtain ⟨hs, ho⟩ := h
  obtain ⟨⟨s1, s2⟩, ⟨s3, s4⟩⟩ := sidesB_t hs
  have apart : ∀ i j, i < cs.length → j < i → ¬ ((cAt cs i).1 = (cAt cs j).1 ∧ (cAt cs i).2 = (cAt cs j).2) := fun i j hi hj e => by
    have := okTo_apart ho hi hj
    unfold overB at this
    rw [decide_eq_false_iff_not] at this
    omega
  refine ⟨fun i _ => ?_, fun i j k _ _ _ h1 h2 => ?_, fun i j hi hj hne => ?_⟩
  · unfold plcF ltC; rw [decide_eq_false_iff_not]; omega
  · unfold plcF ltC at *
    rw [decide_eq_true_eq] at *
    omega
  · have hq : ¬ ((cAt cs i).1 = (cAt cs j).1 ∧ (cAt cs i).2 = (cAt cs j).2) := by
      rcases Nat.lt_or_gt_of_ne hne with g | g
      · intro e; exact apart j i hj g ⟨e.1.symm, e.2.symm⟩
      · exact apart i j hi g
    unfold plcF ltC
    rw [decide_eq_true_eq, decide_eq_true_eq]
    omega
/-- the list that the order is: each cake at the number of those before it -/
def ordF (cs : List (Int × Int)) : Nat → List Nat
  | 0 => []
  | n + 1 => (ordF cs n).take (befF (plcF cs) n n) ++ n :: (ordF cs n).drop (befF (plcF cs) n n)
theorem ordF_ok {cs : List (Int × Int)} (P : Plc (plcF cs) cs.length) : ∀ n, n ≤ cs.length → Ordd (plcF cs) n (ordF cs n)
  | 0, _ => Ordd.nil _
  | n + 1, h => (ordF_ok P n (by omega)).ins P (by omega)
def floatT (a b : Int) (cs : List (Int × Int)) : List Int := if cakesB a b cs then nats (ordF cs cs.length) else []
theorem floatT_no {a b : Int} {cs : List (Int × Int)} (h : cakesB a b cs = false) : floatT a b cs = [] := by unfold floatT; rw [h]; rfl
theorem floatT_ok {a b : Int} {cs : List (Int × Int)} (h : cakesB a b cs = true) : floatT a b cs = nats (ordF cs cs.length) := by unfold floatT; rw [h]; rfl
theorem befF_get (cs : List (Int × Int)) (k j : Nat) : befF (plcF cs) (k + 1) j = befF (plcF cs) k j + (if ltC (cAt cs k) (cAt cs j) then 1 else 0) := befF_succ _ _ _
theorem befF_lt {lt : Nat → Nat → Bool} {n j : Nat} (hj : j < n) (hi : lt j j = false) : befF lt n j < n := by
  have h : ∀ m, j < m → befF lt m j < m := by
    intro m
    induction m with
    | zero => intro h; omega
    | succ m ih =>
      intro h
      rw [befF_succ]
      by_cases e : j = m
      · subst e; rw [hi]; have := befF_le lt j j; simp; omega
      · have := ih (by omega); split <;> omega
  exact h n hj
set_option maxRecDepth 100000 in
set_option maxHeartbeats 1000000 in
theorem iBefore_any (n : Nat) (hn : n ≤ 1048576) (cs : List (Int × Int)) (hl : cs.length = n) (A : Option Addr) (c : Nat) (w : World) (hr : Rd w w.heap.size A (cakeV cs)) (j : Nat) (x y : Int) (hj : cAt cs j = (x, y)) :
    Calls Try.prog 85 #[.slice A n c, .agg #[.int .i64 x, .int .i64 y]] w fun e w' => e = .returned (.int .i64 (befF (plcF cs) n j : Nat)) ∧ Below w.heap.size w w' := by
  have HL := Lib.hid hl
  have HJ := Lib.hid hj
  clear hl hj
  go_enter Try.func85, Try.ntmps85
  go_wp2
  go_loopw [5, 10] (fun q i wr => ∃ k m : Nat, k ≤ n ∧ i = .int .i64 k ∧ q = .int .i64 m ∧ m = befF (plcF cs) k j ∧ Below w.heap.size w wr ∧ wr.cell? ⟨w.heap.size, 0, none⟩ = some (.int .i64 x) ∧ wr.cell? ⟨w.heap.size, 1, none⟩ = some (.int .i64 y) ∧ w.heap.size < wr.heap.size) (fun _ i _ => n - (intOf i).toNat)
  case atStart =>
    refine ⟨0, 0, Nat.zero_le _, rfl, rfl, rfl, (Below.refl _ _).alloc (Nat.le_refl _) _, ?_, ?_, by simp⟩
    · exact two_new w (.int .i64 x) (.int .i64 y) _ _ rfl 0 _ rfl
    · exact two_new w (.int .i64 x) (.int .i64 y) _ _ rfl 1 _ rfl
  case round =>
    obtain ⟨k, m, hk, rfl, rfl, hm, hbel, hX, hY, hsz⟩ := hrel
    by_cases hlt : k < n
    · obtain ⟨b1, off, u, v, rfl, hb1, hz, hc, hc2⟩ := (hr.below hbel).cake_ (k := k) (by rw [HL.out]; exact hlt)
      have hst := befF_get cs k j
      rw [← hm, cAt_get hz.out, HJ.out] at hst
      have hml : m ≤ k := by rw [hm]; exact befF_le _ _ _
      have hBN := hbel.alloc (by omega) (.cells #[.int .i64 u, .int .i64 v] 83)
      have d0 : (wr.alloc (.cells #[.int .i64 u, .int .i64 v] 83)).cell? ⟨wr.heap.size, 0, none⟩ = some (.int .i64 u) := two_new wr (.int .i64 u) (.int .i64 v) _ _ rfl 0 _ rfl
      have d1 : (wr.alloc (.cells #[.int .i64 u, .int .i64 v] 83)).cell? ⟨wr.heap.size, 1, none⟩ = some (.int .i64 v) := two_new wr (.int .i64 u) (.int .i64 v) _ _ rfl 1 _ rfl
      have a0 := (World.cell?_alloc_lt wr (.cells #[.int .i64 u, .int .i64 v] 83) ⟨w.heap.size, 0, none⟩ hsz).trans hX
      have a1 := (World.cell?_alloc_lt wr (.cells #[.int .i64 u, .int .i64 v] 83) ⟨w.heap.size, 1, none⟩ hsz).trans hY
      have HH := Lib.hid (And.intro hBN (And.intro a0 a1))
      have hways : u < x ∨ (¬ u < x ∧ u = x ∧ v < y) ∨ (¬ u < x ∧ u = x ∧ ¬ v < y) ∨ (¬ u < x ∧ ¬ u = x) := by omega
      unfold ltC at hst
      rcases hways with g | ⟨g1, g2, g3⟩ | ⟨g1, g2, g3⟩ | ⟨g1, g2⟩
      · have hb : decide (u < x ∨ u = x ∧ v < y) = true := decide_eq_true (by omega)
        rw [hb] at hst
        have p1 : decide (u < x) = true := decide_eq_true g
        obtain ⟨m1, hm1⟩ : ∃ m1, m1 = m + 1 := ⟨_, rfl⟩
        have e1 : (m : Int) + 1 = (m1 : Int) := by omega
        have HM : Hid (m1 = befF (plcF cs) (k + 1) j) := Lib.hid (by rw [hst, hm1]; rfl)
        clear hst hb hm hbel hBN g hm1
        go_wp2
        go_roundw
        case rel => exact ⟨k + 1, m1, by omega, by go_num, by go_num, HM.out, HH.out.1, HH.out.2.1, HH.out.2.2, by simp; omega⟩
        case measure => simp [intOf]; omega
      · have hb : decide (u < x ∨ u = x ∧ v < y) = true := decide_eq_true (by omega)
        rw [hb] at hst
        have p1 : decide (u < x) = false := decide_eq_false g1
        have p2 : (u == x) = true := beq_iff_eq.2 g2
        have p3 : decide (v < y) = true := decide_eq_true g3
        obtain ⟨m1, hm1⟩ : ∃ m1, m1 = m + 1 := ⟨_, rfl⟩
        have e1 : (m : Int) + 1 = (m1 : Int) := by omega
        have HM : Hid (m1 = befF (plcF cs) (k + 1) j) := Lib.hid (by rw [hst, hm1]; rfl)
        clear hst hb hm hbel hBN g1 g2 g3 hm1
        go_wp2
        go_roundw
        case rel => exact ⟨k + 1, m1, by omega, by go_num, by go_num, HM.out, HH.out.1, HH.out.2.1, HH.out.2.2, by simp; omega⟩
        case measure => simp [intOf]; omega
      · have hb : decide (u < x ∨ u = x ∧ v < y) = false := decide_eq_false (by omega)
        rw [hb] at hst
        have p1 : decide (u < x) = false := decide_eq_false g1
        have p2 : (u == x) = true := beq_iff_eq.2 g2
        have p3 : decide (v < y) = false := decide_eq_false g3
        have HM : Hid (m = befF (plcF cs) (k + 1) j) := Lib.hid (by rw [hst]; rfl)
        clear hst hb hm hbel hBN g1 g2 g3
        go_wp2
        go_roundw
        case rel => exact ⟨k + 1, m, by omega, by go_num, rfl, HM.out, HH.out.1, HH.out.2.1, HH.out.2.2, by simp; omega⟩
        case measure => simp [intOf]; omega
      · have hb : decide (u < x ∨ u = x ∧ v < y) = false := decide_eq_false (by omega)
        rw [hb] at hst
        have p1 : decide (u < x) = false := decide_eq_false g1
        have p2 : (u == x) = false := beq_eq_false_iff_ne.2 g2
        have HM : Hid (m = befF (plcF cs) (k + 1) j) := Lib.hid (by rw [hst]; rfl)
        clear hst hb hm hbel hBN g1
        go_wp2
        go_roundw
        case rel => exact ⟨k + 1, m, by omega, by go_num, rfl, HM.out, HH.out.1, HH.out.2.1, HH.out.2.2, by simp; omega⟩
        case measure => simp [intOf]; omega
    · obtain rfl : k = n := by omega
      have R := Lib.hid (And.intro hm hbel)
      clear hm hbel
      go_wp2
      go_ret
      exact ⟨by rw [R.out.1]; rfl, R.out.2⟩

end Go.Proofs.Ytjjddamblijffab

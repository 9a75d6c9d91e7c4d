/- Contracts of chapter 3: the length of all cuts, the model. -/
import Derived.Test.YtbnggakfogcalaeCSaw
import Derived.Test.YtbnggakfogcalaeCValidT
namespace Go.Proofs.Ytbnggakfogcalae
open Go.RowKit
set_option linter.unusedVariables false
set_option linter.unusedSimpArgs false
def spTo (a b : Int) (cs : List (Int × Int)) : Nat → Int
  | 0 => 0
  | n + 1 => spTo a b cs n + 2 * (a + b) - shTo a b cs n n
theorem spTo_eq (a b : Int) (cs : List (Int × Int)) : ∀ n : Nat, spTo a b cs n = 2 * (a + b) * (n : Int) - shAll a b cs n
  | 0 => by simp [spTo, shAll]
  | n + 1 => by
    have h := spTo_eq a b cs n
    have e : 2 * (a + b) * ((n + 1 : Nat) : Int) = 2 * (a + b) * (n : Int) + 2 * (a + b) := by
      rw [show ((n + 1 : Nat) : Int) = (n : Int) + 1 by omega, Int.mul_add, Int.mul_one]
    unfold spTo shAll
    rw [h, e]
    omega
theorem sp_bd {a b : Int} (ha : 1 ≤ a ∧ a ≤ 4) (hb : 1 ≤ b ∧ b ≤ 4) (cs : List (Int × Int)) : ∀ n : Nat, n ≤ 1048576 → -4194304 * (n : Int) ≤ spTo a b cs n ∧ spTo a b cs n ≤ 16 * (n : Int)
  | 0, _ => by simp [spTo]
  | n + 1, h => by
    have h1 := sp_bd ha hb cs n (by omega)
    have h2 := shTo_bd ha hb cs n n
    unfold spTo
    omega
theorem dist_lt {x u : Int} (h : x < u) : dist x u = u - x := if_pos h
theorem dist_ge {x u : Int} (h : ¬ x < u) : dist x u = x - u := if_neg h
theorem dist_ne {x u a : Int} (h1 : x ≠ u + a) (h2 : u ≠ x + a) : dist x u ≠ a := by unfold dist; split <;> omega
theorem shD_1 {a b D1 D2 : Int} (h1 : D1 = a) (h2 : D2 < b) : shD a b D1 D2 = b - D2 := if_pos ⟨h1, h2⟩
theorem shD_2 {a b D1 D2 : Int} (h1 : D1 = a) (h2 : ¬ D2 < b) : shD a b D1 D2 = 0 := by unfold shD; rw [if_neg (fun h => h2 h.2), if_neg (by omega)]
theorem shD_3 {a b D1 D2 : Int} (h1 : D1 ≠ a) (h2 : D2 = b) (h3 : D1 < a) : shD a b D1 D2 = a - D1 := by unfold shD; rw [if_neg (fun h => h1 h.1), if_pos ⟨h2, h3⟩]
theorem shD_4 {a b D1 D2 : Int} (h1 : D1 ≠ a) (h2 : ¬ (D2 = b ∧ D1 < a)) : shD a b D1 D2 = 0 := by unfold shD; rw [if_neg (fun h => h1 h.1), if_neg h2]
set_option maxRecDepth 100000 in
set_option maxHeartbeats 8000000 in
theorem sSawN_any (n : Nat) (hn : n ≤ 1048576) (cs : List (Int × Int)) (hl : cs.length = n) (A : Option Addr) (c : Nat) (w : World) (hr : Rd w w.heap.size A (cakeV cs)) (a b : Int) (hv : cakesB a b cs = true) :
    Calls Try.prog 56 #[.slice A n c, .int .i64 a, .int .i64 b] w fun e w' => e = .returned (.int .i64 (sawF a b cs)) ∧ Below w.heap.size w w' := by
  obtain ⟨hs, hok⟩ := cakesB_parts hv
  obtain ⟨⟨s1, s2⟩, ⟨s3, s4⟩⟩ := sidesB_t hs
  rw [hl] at hok
  have HON : Hid (∀ j, j < n → onB a b (cAt cs j) = true) := Lib.hid fun j hj => okTo_on hok hj
  have HL := Lib.hid hl
  have HB : Hid (∀ k : Nat, k ≤ n → -4194304 * (k : Int) ≤ spTo a b cs k ∧ spTo a b cs k ≤ 16 * (k : Int)) := Lib.hid fun k hk => sp_bd ⟨s1, s2⟩ ⟨s3, s4⟩ cs k (by omega)
  have HBT : Hid (∀ i k : Nat, 0 ≤ shTo a b cs i k ∧ shTo a b cs i k ≤ 4 * (k : Int)) := Lib.hid fun i k => shTo_bd ⟨s1, s2⟩ ⟨s3, s4⟩ cs i k
  have HSaw : Hid (sawF a b cs = spTo a b cs n) := Lib.hid (by rw [spTo_eq]; unfold sawF; rw [hl])
  clear hv hs hok hl
  go_enter Try.func56, Try.ntmps56
  go_wp2
  go_loopw [7, 8] (fun s i wr => ∃ k : Nat, k ≤ n ∧ i = .int .i64 k ∧ s = .int .i64 (spTo a b cs k) ∧ Below w.heap.size w wr) (fun _ i _ => n - (intOf i).toNat)
  case atStart => exact ⟨0, Nat.zero_le _, rfl, rfl, Below.refl _ _⟩
  case round =>
    obtain ⟨k, hk, rfl, rfl, hbel⟩ := hrel
    have HBQ := Lib.hid hbel
    have hsa := HB.out k hk
    have hsz0 := hbel.size
    clear hbel
    by_cases hlt : k < n
    · have HSA : Hid (spTo a b cs (k + 1) = spTo a b cs k + 2 * (a + b) - shTo a b cs k k) := Lib.hid rfl
      generalize spTo a b cs k = SA at *
      go_wp2
      generalize hwq : wr = wq at *
      clear hwq
      go_loopw [7, 9] (fun s i wi => ∃ j : Nat, j ≤ k ∧ i = .int .i64 j ∧ s = .int .i64 (SA + 2 * (a + b) - shTo a b cs k j) ∧ Below wq.heap.size wq wi) (fun _ i _ => k - (intOf i).toNat)
      case atStart => exact ⟨0, Nat.zero_le _, rfl, by simp [shTo], Below.refl _ _⟩
      case round =>
        obtain ⟨j, hj, rfl, rfl, hbi⟩ := hrel
        have HBI := Lib.hid hbi
        have hsi := hbi.size
        have hst := HBT.out k j
        by_cases hjt : j < k
        · have hbw := HBQ.out.trans (hbi.mono hsz0)
          obtain ⟨b1, off, x, y, rfl, hb1, hz, hc, hc2⟩ := (hr.below hbw).cake_ (k := k) (by rw [HL.out]; exact hlt)
          obtain ⟨b2, off2, u, v, e, hb2, hz2, hc3, hc4⟩ := (hr.below hbw).cake_ (k := j) (by rw [HL.out]; omega)
          injection e with e
          injection e with e1 e4
          subst e1 e4
          have hb1r : b1 < wr.heap.size := by omega
          have g3 : ∀ o : Obj, (wr.alloc o).cell? ⟨b1, off + j * 2, none⟩ = some (.int .i64 u) := fun o => (World.cell?_alloc_lt wr o _ (by show b1 < _; omega)).trans hc3
          have g4 : ∀ o : Obj, (wr.alloc o).cell? ⟨b1, off + j * 2 + 1, none⟩ = some (.int .i64 v) := fun o => (World.cell?_alloc_lt wr o _ (by show b1 < _; omega)).trans hc4
          have hon1 := onB_t (HON.out k hlt)
          have hon2 := onB_t (HON.out j (by omega))
          rw [cAt_get hz.out] at hon1
          rw [cAt_get hz2.out] at hon2
          obtain ⟨⟨p1, p2⟩, p3, p4⟩ := hon1
          obtain ⟨⟨o1, o2⟩, o3, o4⟩ := hon2
          simp only at p1 p2 p3 p4 o1 o2 o3 o4
          have HSS : Hid (shTo a b cs k (j + 1) = shTo a b cs k j + shD a b (dist x u) (dist y v)) := Lib.hid (by
            show _ + shF a b (cAt cs k) (cAt cs j) = _
            rw [cAt_get hz.out, cAt_get hz2.out]; rfl)
          have HBA : Hid (∀ o o' : Obj, Below wq.heap.size wq ((wr.alloc o).alloc o')) := Lib.hid fun o o' => (hbi.alloc (by omega) _).alloc (by simp; omega) _
          clear hbi hbw hz hz2
          generalize hST : shTo a b cs k j = ST at *
          clear hST
          by_cases hx1 : x = u + a
          · skip
            by_cases hy1 : y = v + b
            · skip
              have hd1 : dist x u = x - u := dist_ge (by omega)
              have hd2 : dist y v = y - v := dist_ge (by omega)
              have HV : Hid (shTo a b cs k (j + 1) = ST + (0)) := Lib.hid (by rw [HSS.out, hd1, hd2, shD_2 (by omega) (by omega)])
              clear hd1 hd2 HSS
              have ex1 : (x == u + a) = true := beq_iff_eq.2 (by omega)
              have ey1 : (y == v + b) = true := beq_iff_eq.2 (by omega)
              have ox : u < x := by omega
              have sx : ¬ 0 < a - (x - u) := by omega
              have oy : v < y := by omega
              have sy : ¬ 0 < b - (y - v) := by omega
              clear hx1 hy1
              go_wp2
              go_roundw
              case rel => exact ⟨j + 1, by omega, by go_num, by rw [HV.out]; first | go_num | (congr 1; omega), HBA.out _ _⟩
              case measure => simp [intOf]; omega
            · by_cases hy2 : v = y + b
              · skip
                have hd1 : dist x u = x - u := dist_ge (by omega)
                have hd2 : dist y v = v - y := dist_lt (by omega)
                have HV : Hid (shTo a b cs k (j + 1) = ST + (0)) := Lib.hid (by rw [HSS.out, hd1, hd2, shD_2 (by omega) (by omega)])
                clear hd1 hd2 HSS
                have ex1 : (x == u + a) = true := beq_iff_eq.2 (by omega)
                have ey1 : (y == v + b) = false := beq_eq_false_iff_ne.2 (by omega)
                have ey2 : (v == y + b) = true := beq_iff_eq.2 (by omega)
                have ox : u < x := by omega
                have sx : ¬ 0 < a - (x - u) := by omega
                have oy : y < v := by omega
                have sy : ¬ 0 < b - (v - y) := by omega
                clear hx1 hy1 hy2
                go_wp2
                go_roundw
                case rel => exact ⟨j + 1, by omega, by go_num, by rw [HV.out]; first | go_num | (congr 1; omega), HBA.out _ _⟩
                case measure => simp [intOf]; omega
              · skip
                by_cases oy : y < v
                · skip
                  by_cases sy : 0 < b - (v - y)
                  · skip
                    have hd1 : dist x u = x - u := dist_ge (by omega)
                    have hd2 : dist y v = v - y := dist_lt (by omega)
                    have HV : Hid (shTo a b cs k (j + 1) = ST + (b - (v - y))) := Lib.hid (by rw [HSS.out, hd1, hd2, shD_1 (by omega) (by omega)])
                    clear hd1 hd2 HSS
                    have ex1 : (x == u + a) = true := beq_iff_eq.2 (by omega)
                    have ey1 : (y == v + b) = false := beq_eq_false_iff_ne.2 (by omega)
                    have ey2 : (v == y + b) = false := beq_eq_false_iff_ne.2 (by omega)
                    clear hx1 hy1 hy2
                    go_wp2
                    go_roundw
                    case rel => exact ⟨j + 1, by omega, by go_num, by rw [HV.out]; first | go_num | (congr 1; omega), HBA.out _ _⟩
                    case measure => simp [intOf]; omega
                  · skip
                    have hd1 : dist x u = x - u := dist_ge (by omega)
                    have hd2 : dist y v = v - y := dist_lt (by omega)
                    have HV : Hid (shTo a b cs k (j + 1) = ST + (0)) := Lib.hid (by rw [HSS.out, hd1, hd2, shD_2 (by omega) (by omega)])
                    clear hd1 hd2 HSS
                    have ex1 : (x == u + a) = true := beq_iff_eq.2 (by omega)
                    have ey1 : (y == v + b) = false := beq_eq_false_iff_ne.2 (by omega)
                    have ey2 : (v == y + b) = false := beq_eq_false_iff_ne.2 (by omega)
                    clear hx1 hy1 hy2
                    go_wp2
                    go_roundw
                    case rel => exact ⟨j + 1, by omega, by go_num, by rw [HV.out]; first | go_num | (congr 1; omega), HBA.out _ _⟩
                    case measure => simp [intOf]; omega
                · skip
                  have oy2 : v ≤ y := by omega
                  have oy3 : ¬ (y - v < v - y) := by omega
                  by_cases sy : 0 < b - (y - v)
                  · skip
                    have hd1 : dist x u = x - u := dist_ge (by omega)
                    have hd2 : dist y v = y - v := dist_ge (by omega)
                    have HV : Hid (shTo a b cs k (j + 1) = ST + (b - (y - v))) := Lib.hid (by rw [HSS.out, hd1, hd2, shD_1 (by omega) (by omega)])
                    clear hd1 hd2 HSS
                    have ex1 : (x == u + a) = true := beq_iff_eq.2 (by omega)
                    have ey1 : (y == v + b) = false := beq_eq_false_iff_ne.2 (by omega)
                    have ey2 : (v == y + b) = false := beq_eq_false_iff_ne.2 (by omega)
                    clear hx1 hy1 hy2
                    go_wp2
                    go_roundw
                    case rel => exact ⟨j + 1, by omega, by go_num, by rw [HV.out]; first | go_num | (congr 1; omega), HBA.out _ _⟩
                    case measure => simp [intOf]; omega
                  · skip
                    have hd1 : dist x u = x - u := dist_ge (by omega)
                    have hd2 : dist y v = y - v := dist_ge (by omega)
                    have HV : Hid (shTo a b cs k (j + 1) = ST + (0)) := Lib.hid (by rw [HSS.out, hd1, hd2, shD_2 (by omega) (by omega)])
                    clear hd1 hd2 HSS
                    have ex1 : (x == u + a) = true := beq_iff_eq.2 (by omega)
                    have ey1 : (y == v + b) = false := beq_eq_false_iff_ne.2 (by omega)
                    have ey2 : (v == y + b) = false := beq_eq_false_iff_ne.2 (by omega)
                    clear hx1 hy1 hy2
                    go_wp2
                    go_roundw
                    case rel => exact ⟨j + 1, by omega, by go_num, by rw [HV.out]; first | go_num | (congr 1; omega), HBA.out _ _⟩
                    case measure => simp [intOf]; omega
          · by_cases hx2 : u = x + a
            · skip
              by_cases hy1 : y = v + b
              · skip
                have hd1 : dist x u = u - x := dist_lt (by omega)
                have hd2 : dist y v = y - v := dist_ge (by omega)
                have HV : Hid (shTo a b cs k (j + 1) = ST + (0)) := Lib.hid (by rw [HSS.out, hd1, hd2, shD_2 (by omega) (by omega)])
                clear hd1 hd2 HSS
                have ex1 : (x == u + a) = false := beq_eq_false_iff_ne.2 (by omega)
                have ex2 : (u == x + a) = true := beq_iff_eq.2 (by omega)
                have ey1 : (y == v + b) = true := beq_iff_eq.2 (by omega)
                have ox : x < u := by omega
                have sx : ¬ 0 < a - (u - x) := by omega
                have oy : v < y := by omega
                have sy : ¬ 0 < b - (y - v) := by omega
                clear hx1 hx2 hy1
                go_wp2
                go_roundw
                case rel => exact ⟨j + 1, by omega, by go_num, by rw [HV.out]; first | go_num | (congr 1; omega), HBA.out _ _⟩
                case measure => simp [intOf]; omega
              · by_cases hy2 : v = y + b
                · skip
                  have hd1 : dist x u = u - x := dist_lt (by omega)
                  have hd2 : dist y v = v - y := dist_lt (by omega)
                  have HV : Hid (shTo a b cs k (j + 1) = ST + (0)) := Lib.hid (by rw [HSS.out, hd1, hd2, shD_2 (by omega) (by omega)])
                  clear hd1 hd2 HSS
                  have ex1 : (x == u + a) = false := beq_eq_false_iff_ne.2 (by omega)
                  have ex2 : (u == x + a) = true := beq_iff_eq.2 (by omega)
                  have ey1 : (y == v + b) = false := beq_eq_false_iff_ne.2 (by omega)
                  have ey2 : (v == y + b) = true := beq_iff_eq.2 (by omega)
                  have ox : x < u := by omega
                  have sx : ¬ 0 < a - (u - x) := by omega
                  have oy : y < v := by omega
                  have sy : ¬ 0 < b - (v - y) := by omega
                  clear hx1 hx2 hy1 hy2
                  go_wp2
                  go_roundw
                  case rel => exact ⟨j + 1, by omega, by go_num, by rw [HV.out]; first | go_num | (congr 1; omega), HBA.out _ _⟩
                  case measure => simp [intOf]; omega
                · skip
                  by_cases oy : y < v
                  · skip
                    by_cases sy : 0 < b - (v - y)
                    · skip
                      have hd1 : dist x u = u - x := dist_lt (by omega)
                      have hd2 : dist y v = v - y := dist_lt (by omega)
                      have HV : Hid (shTo a b cs k (j + 1) = ST + (b - (v - y))) := Lib.hid (by rw [HSS.out, hd1, hd2, shD_1 (by omega) (by omega)])
                      clear hd1 hd2 HSS
                      have ex1 : (x == u + a) = false := beq_eq_false_iff_ne.2 (by omega)
                      have ex2 : (u == x + a) = true := beq_iff_eq.2 (by omega)
                      have ey1 : (y == v + b) = false := beq_eq_false_iff_ne.2 (by omega)
                      have ey2 : (v == y + b) = false := beq_eq_false_iff_ne.2 (by omega)
                      clear hx1 hx2 hy1 hy2
                      go_wp2
                      go_roundw
                      case rel => exact ⟨j + 1, by omega, by go_num, by rw [HV.out]; first | go_num | (congr 1; omega), HBA.out _ _⟩
                      case measure => simp [intOf]; omega
                    · skip
                      have hd1 : dist x u = u - x := dist_lt (by omega)
                      have hd2 : dist y v = v - y := dist_lt (by omega)
                      have HV : Hid (shTo a b cs k (j + 1) = ST + (0)) := Lib.hid (by rw [HSS.out, hd1, hd2, shD_2 (by omega) (by omega)])
                      clear hd1 hd2 HSS
                      have ex1 : (x == u + a) = false := beq_eq_false_iff_ne.2 (by omega)
                      have ex2 : (u == x + a) = true := beq_iff_eq.2 (by omega)
                      have ey1 : (y == v + b) = false := beq_eq_false_iff_ne.2 (by omega)
                      have ey2 : (v == y + b) = false := beq_eq_false_iff_ne.2 (by omega)
                      clear hx1 hx2 hy1 hy2
                      go_wp2
                      go_roundw
                      case rel => exact ⟨j + 1, by omega, by go_num, by rw [HV.out]; first | go_num | (congr 1; omega), HBA.out _ _⟩
                      case measure => simp [intOf]; omega
                  · skip
                    have oy2 : v ≤ y := by omega
                    have oy3 : ¬ (y - v < v - y) := by omega
                    by_cases sy : 0 < b - (y - v)
                    · skip
                      have hd1 : dist x u = u - x := dist_lt (by omega)
                      have hd2 : dist y v = y - v := dist_ge (by omega)
                      have HV : Hid (shTo a b cs k (j + 1) = ST + (b - (y - v))) := Lib.hid (by rw [HSS.out, hd1, hd2, shD_1 (by omega) (by omega)])
                      clear hd1 hd2 HSS
                      have ex1 : (x == u + a) = false := beq_eq_false_iff_ne.2 (by omega)
                      have ex2 : (u == x + a) = true := beq_iff_eq.2 (by omega)
                      have ey1 : (y == v + b) = false := beq_eq_false_iff_ne.2 (by omega)
                      have ey2 : (v == y + b) = false := beq_eq_false_iff_ne.2 (by omega)
                      clear hx1 hx2 hy1 hy2
                      go_wp2
                      go_roundw
                      case rel => exact ⟨j + 1, by omega, by go_num, by rw [HV.out]; first | go_num | (congr 1; omega), HBA.out _ _⟩
                      case measure => simp [intOf]; omega
                    · skip
                      have hd1 : dist x u = u - x := dist_lt (by omega)
                      have hd2 : dist y v = y - v := dist_ge (by omega)
                      have HV : Hid (shTo a b cs k (j + 1) = ST + (0)) := Lib.hid (by rw [HSS.out, hd1, hd2, shD_2 (by omega) (by omega)])
                      clear hd1 hd2 HSS
                      have ex1 : (x == u + a) = false := beq_eq_false_iff_ne.2 (by omega)
                      have ex2 : (u == x + a) = true := beq_iff_eq.2 (by omega)
                      have ey1 : (y == v + b) = false := beq_eq_false_iff_ne.2 (by omega)
                      have ey2 : (v == y + b) = false := beq_eq_false_iff_ne.2 (by omega)
                      clear hx1 hx2 hy1 hy2
                      go_wp2
                      go_roundw
                      case rel => exact ⟨j + 1, by omega, by go_num, by rw [HV.out]; first | go_num | (congr 1; omega), HBA.out _ _⟩
                      case measure => simp [intOf]; omega
            · skip
              by_cases hy1 : y = v + b
              · skip
                by_cases ox : x < u
                · skip
                  by_cases sx : 0 < a - (u - x)
                  · skip
                    have hd1 : dist x u = u - x := dist_lt (by omega)
                    have hd2 : dist y v = y - v := dist_ge (by omega)
                    have HV : Hid (shTo a b cs k (j + 1) = ST + (a - (u - x))) := Lib.hid (by rw [HSS.out, hd1, hd2, shD_3 (by omega) (by omega) (by omega)])
                    clear hd1 hd2 HSS
                    have ex1 : (x == u + a) = false := beq_eq_false_iff_ne.2 (by omega)
                    have ex2 : (u == x + a) = false := beq_eq_false_iff_ne.2 (by omega)
                    have ey1 : (y == v + b) = true := beq_iff_eq.2 (by omega)
                    clear hx1 hx2 hy1
                    go_wp2
                    go_roundw
                    case rel => exact ⟨j + 1, by omega, by go_num, by rw [HV.out]; first | go_num | (congr 1; omega), HBA.out _ _⟩
                    case measure => simp [intOf]; omega
                  · skip
                    have hd1 : dist x u = u - x := dist_lt (by omega)
                    have hd2 : dist y v = y - v := dist_ge (by omega)
                    have HV : Hid (shTo a b cs k (j + 1) = ST + (0)) := Lib.hid (by rw [HSS.out, hd1, hd2, shD_4 (by omega) (by omega)])
                    clear hd1 hd2 HSS
                    have ex1 : (x == u + a) = false := beq_eq_false_iff_ne.2 (by omega)
                    have ex2 : (u == x + a) = false := beq_eq_false_iff_ne.2 (by omega)
                    have ey1 : (y == v + b) = true := beq_iff_eq.2 (by omega)
                    clear hx1 hx2 hy1
                    go_wp2
                    go_roundw
                    case rel => exact ⟨j + 1, by omega, by go_num, by rw [HV.out]; first | go_num | (congr 1; omega), HBA.out _ _⟩
                    case measure => simp [intOf]; omega
                · skip
                  have ox2 : u ≤ x := by omega
                  have ox3 : ¬ (x - u < u - x) := by omega
                  by_cases sx : 0 < a - (x - u)
                  · skip
                    have hd1 : dist x u = x - u := dist_ge (by omega)
                    have hd2 : dist y v = y - v := dist_ge (by omega)
                    have HV : Hid (shTo a b cs k (j + 1) = ST + (a - (x - u))) := Lib.hid (by rw [HSS.out, hd1, hd2, shD_3 (by omega) (by omega) (by omega)])
                    clear hd1 hd2 HSS
                    have ex1 : (x == u + a) = false := beq_eq_false_iff_ne.2 (by omega)
                    have ex2 : (u == x + a) = false := beq_eq_false_iff_ne.2 (by omega)
                    have ey1 : (y == v + b) = true := beq_iff_eq.2 (by omega)
                    clear hx1 hx2 hy1
                    go_wp2
                    go_roundw
                    case rel => exact ⟨j + 1, by omega, by go_num, by rw [HV.out]; first | go_num | (congr 1; omega), HBA.out _ _⟩
                    case measure => simp [intOf]; omega
                  · skip
                    have hd1 : dist x u = x - u := dist_ge (by omega)
                    have hd2 : dist y v = y - v := dist_ge (by omega)
                    have HV : Hid (shTo a b cs k (j + 1) = ST + (0)) := Lib.hid (by rw [HSS.out, hd1, hd2, shD_4 (by omega) (by omega)])
                    clear hd1 hd2 HSS
                    have ex1 : (x == u + a) = false := beq_eq_false_iff_ne.2 (by omega)
                    have ex2 : (u == x + a) = false := beq_eq_false_iff_ne.2 (by omega)
                    have ey1 : (y == v + b) = true := beq_iff_eq.2 (by omega)
                    clear hx1 hx2 hy1
                    go_wp2
                    go_roundw
                    case rel => exact ⟨j + 1, by omega, by go_num, by rw [HV.out]; first | go_num | (congr 1; omega), HBA.out _ _⟩
                    case measure => simp [intOf]; omega
              · by_cases hy2 : v = y + b
                · skip
                  by_cases ox : x < u
                  · skip
                    by_cases sx : 0 < a - (u - x)
                    · skip
                      have hd1 : dist x u = u - x := dist_lt (by omega)
                      have hd2 : dist y v = v - y := dist_lt (by omega)
                      have HV : Hid (shTo a b cs k (j + 1) = ST + (a - (u - x))) := Lib.hid (by rw [HSS.out, hd1, hd2, shD_3 (by omega) (by omega) (by omega)])
                      clear hd1 hd2 HSS
                      have ex1 : (x == u + a) = false := beq_eq_false_iff_ne.2 (by omega)
                      have ex2 : (u == x + a) = false := beq_eq_false_iff_ne.2 (by omega)
                      have ey1 : (y == v + b) = false := beq_eq_false_iff_ne.2 (by omega)
                      have ey2 : (v == y + b) = true := beq_iff_eq.2 (by omega)
                      clear hx1 hx2 hy1 hy2
                      go_wp2
                      go_roundw
                      case rel => exact ⟨j + 1, by omega, by go_num, by rw [HV.out]; first | go_num | (congr 1; omega), HBA.out _ _⟩
                      case measure => simp [intOf]; omega
                    · skip
                      have hd1 : dist x u = u - x := dist_lt (by omega)
                      have hd2 : dist y v = v - y := dist_lt (by omega)
                      have HV : Hid (shTo a b cs k (j + 1) = ST + (0)) := Lib.hid (by rw [HSS.out, hd1, hd2, shD_4 (by omega) (by omega)])
                      clear hd1 hd2 HSS
                      have ex1 : (x == u + a) = false := beq_eq_false_iff_ne.2 (by omega)
                      have ex2 : (u == x + a) = false := beq_eq_false_iff_ne.2 (by omega)
                      have ey1 : (y == v + b) = false := beq_eq_false_iff_ne.2 (by omega)
                      have ey2 : (v == y + b) = true := beq_iff_eq.2 (by omega)
                      clear hx1 hx2 hy1 hy2
                      go_wp2
                      go_roundw
                      case rel => exact ⟨j + 1, by omega, by go_num, by rw [HV.out]; first | go_num | (congr 1; omega), HBA.out _ _⟩
                      case measure => simp [intOf]; omega
                  · skip
                    have ox2 : u ≤ x := by omega
                    have ox3 : ¬ (x - u < u - x) := by omega
                    by_cases sx : 0 < a - (x - u)
                    · skip
                      have hd1 : dist x u = x - u := dist_ge (by omega)
                      have hd2 : dist y v = v - y := dist_lt (by omega)
                      have HV : Hid (shTo a b cs k (j + 1) = ST + (a - (x - u))) := Lib.hid (by rw [HSS.out, hd1, hd2, shD_3 (by omega) (by omega) (by omega)])
                      clear hd1 hd2 HSS
                      have ex1 : (x == u + a) = false := beq_eq_false_iff_ne.2 (by omega)
                      have ex2 : (u == x + a) = false := beq_eq_false_iff_ne.2 (by omega)
                      have ey1 : (y == v + b) = false := beq_eq_false_iff_ne.2 (by omega)
                      have ey2 : (v == y + b) = true := beq_iff_eq.2 (by omega)
                      clear hx1 hx2 hy1 hy2
                      go_wp2
                      go_roundw
                      case rel => exact ⟨j + 1, by omega, by go_num, by rw [HV.out]; first | go_num | (congr 1; omega), HBA.out _ _⟩
                      case measure => simp [intOf]; omega
                    · skip
                      have hd1 : dist x u = x - u := dist_ge (by omega)
                      have hd2 : dist y v = v - y := dist_lt (by omega)
                      have HV : Hid (shTo a b cs k (j + 1) = ST + (0)) := Lib.hid (by rw [HSS.out, hd1, hd2, shD_4 (by omega) (by omega)])
                      clear hd1 hd2 HSS
                      have ex1 : (x == u + a) = false := beq_eq_false_iff_ne.2 (by omega)
                      have ex2 : (u == x + a) = false := beq_eq_false_iff_ne.2 (by omega)
                      have ey1 : (y == v + b) = false := beq_eq_false_iff_ne.2 (by omega)
                      have ey2 : (v == y + b) = true := beq_iff_eq.2 (by omega)
                      clear hx1 hx2 hy1 hy2
                      go_wp2
                      go_roundw
                      case rel => exact ⟨j + 1, by omega, by go_num, by rw [HV.out]; first | go_num | (congr 1; omega), HBA.out _ _⟩
                      case measure => simp [intOf]; omega
                · skip
                  have HV : Hid (shTo a b cs k (j + 1) = ST + 0) := Lib.hid (by rw [HSS.out, shD_4 (dist_ne hx1 hx2) (fun h => dist_ne hy1 hy2 h.1)])
                  clear HSS
                  have ex1 : (x == u + a) = false := beq_eq_false_iff_ne.2 (by omega)
                  have ex2 : (u == x + a) = false := beq_eq_false_iff_ne.2 (by omega)
                  have ey1 : (y == v + b) = false := beq_eq_false_iff_ne.2 (by omega)
                  have ey2 : (v == y + b) = false := beq_eq_false_iff_ne.2 (by omega)
                  clear hx1 hx2 hy1 hy2
                  go_wp2
                  go_roundw
                  case rel => exact ⟨j + 1, by omega, by go_num, by rw [HV.out]; first | go_num | (congr 1; omega), HBA.out _ _⟩
                  case measure => simp [intOf]; omega
        · obtain rfl : j = k := by omega
          have hbw := HBQ.out.trans (hbi.mono hsz0)
          have HBW := Lib.hid hbw
          clear hbw hbi
          generalize hST : shTo a b cs j j = ST at *
          clear hST
          go_wp2
          go_roundw
          case rel => exact ⟨j + 1, by omega, by go_num, by rw [HSA.out], HBW.out⟩
          case measure => simp [intOf]; omega
    · obtain rfl : k = n := by omega
      generalize spTo a b cs k = SA at *
      go_wp2
      go_ret
      exact ⟨ret_int HSaw.out.symm, HBQ.out⟩
set_option maxHeartbeats 400000 in
theorem sSaw_any (n : Nat) (hn : n ≤ 1048576) (cs : List (Int × Int)) (hl : cs.length = n) (A : Option Addr) (c : Nat) (w : World) (hr : Rd w w.heap.size A (cakeV cs)) (a b : Int) :
    Calls Try.prog 29 #[.slice A n c, .int .i64 a, .int .i64 b] w fun e w' => e = .returned (.int .i64 (sawT a b cs)) ∧ Below w.heap.size w w' := by
  cases hv : cakesB a b cs
  · rw [sawT_no hv]
    go_enter Try.func29, Try.ntmps29
    go_wp2_with fail
    refine (sVC_is n hn cs hl A c w _ hr a b hv).mono ?_
    rintro e w' ⟨rfl, m, rfl⟩
    go_wp2
    go_ret
    exact ⟨rfl, below_drewN (Below.refl _ _) _⟩
  · rw [sawT_ok hv]
    have HV := Lib.hid hv
    have HL := Lib.hid hl
    clear hv hl
    go_enter Try.func29, Try.ntmps29
    go_wp2_with fail
    refine (sVC_is n hn cs HL.out A c w _ hr a b HV.out).mono ?_
    rintro e w' ⟨rfl, m, rfl⟩
    go_wp2_with fail
    refine (sSawN_any n hn cs HL.out A c (w.drewN m) (hr.drewN m) a b HV.out).mono ?_
    rintro e w2 ⟨rfl, b2⟩
    have hb2 : Below w.heap.size w w2 := (below_drewN (Below.refl _ _) m).trans b2
    go_wp2
    go_ret
    exact ⟨rfl, hb2⟩

end Go.Proofs.Ytbnggakfogcalae

/- Contracts of chapter 3: the length of all cuts, the program. -/
import Derived.Test.YtbnggakfogcalaeCValidI
namespace Go.Proofs.Ytbnggakfogcalae
open Go.RowKit
set_option linter.unusedVariables false
set_option linter.unusedSimpArgs false
def dist (x u : Int) : Int := if x < u then u - x else x - u
def shD (a b D1 D2 : Int) : Int := if D1 = a ∧ D2 < b then b - D2 else if D2 = b ∧ D1 < a then a - D1 else 0
def shF (a b : Int) (c d : Int × Int) : Int := shD a b (dist c.1 d.1) (dist c.2 d.2)
def shTo (a b : Int) (cs : List (Int × Int)) (i : Nat) : Nat → Int
  | 0 => 0
  | k + 1 => shTo a b cs i k + shF a b (cAt cs i) (cAt cs k)
def shAll (a b : Int) (cs : List (Int × Int)) : Nat → Int
  | 0 => 0
  | n + 1 => shAll a b cs n + shTo a b cs n n
def sawF (a b : Int) (cs : List (Int × Int)) : Int := 2 * (a + b) * (cs.length : Int) - shAll a b cs cs.length
def sawT (a b : Int) (cs : List (Int × Int)) : Int := if cakesB a b cs then sawF a b cs else -1
theorem dist_nn (x u : Int) : 0 ≤ dist x u := by unfold dist; split <;> omega
theorem shD_bd {a b D1 D2 : Int} (ha : 1 ≤ a ∧ a ≤ 4) (hb : 1 ≤ b ∧ b ≤ 4) (h1 : 0 ≤ D1) (h2 : 0 ≤ D2) : 0 ≤ shD a b D1 D2 ∧ shD a b D1 D2 ≤ 4 := by
  unfold shD
  split
  · omega
  · split <;> omega
theorem shF_bd {a b : Int} (ha : 1 ≤ a ∧ a ≤ 4) (hb : 1 ≤ b ∧ b ≤ 4) (c d : Int × Int) : 0 ≤ shF a b c d ∧ shF a b c d ≤ 4 := shD_bd ha hb (dist_nn _ _) (dist_nn _ _)
theorem shTo_bd {a b : Int} (ha : 1 ≤ a ∧ a ≤ 4) (hb : 1 ≤ b ∧ b ≤ 4) (cs : List (Int × Int)) (i : Nat) : ∀ k : Nat, 0 ≤ shTo a b cs i k ∧ shTo a b cs i k ≤ 4 * (k : Int)
  | 0 => by simp [shTo]
  | k + 1 => by
    have h1 := shTo_bd ha hb cs i k
    have h2 := shF_bd ha hb (cAt cs i) (cAt cs k)
    unfold shTo
    omega
theorem shAll_bd {a b : Int} (ha : 1 ≤ a ∧ a ≤ 4) (hb : 1 ≤ b ∧ b ≤ 4) (cs : List (Int × Int)) : ∀ n : Nat, n ≤ 1048576 → 0 ≤ shAll a b cs n ∧ shAll a b cs n ≤ 4194304 * (n : Int)
  | 0, _ => by simp [shAll]
  | n + 1, h => by
    have h1 := shAll_bd ha hb cs n (by omega)
    have h2 := shTo_bd ha hb cs n n
    unfold shAll
    omega
theorem sawT_no {a b : Int} {cs : List (Int × Int)} (h : cakesB a b cs = false) : sawT a b cs = -1 := by unfold sawT; rw [h]; rfl
theorem sawT_ok {a b : Int} {cs : List (Int × Int)} (h : cakesB a b cs = true) : sawT a b cs = sawF a b cs := by unfold sawT; rw [h]; rfl
theorem cakesB_parts {a b : Int} {cs : List (Int × Int)} (h : cakesB a b cs = true) : sidesB a b = true ∧ okTo a b cs cs.length = true := by unfold cakesB at h; rw [Bool.and_eq_true] at h; exact h
theorem iVC_is {q : Bool} (n : Nat) (hn : n ≤ 1048576) (cs : List (Int × Int)) (hl : cs.length = n) (A : Option Addr) (c : Nat) (hcap : n ≤ c ∧ c ≤ maxLen) (w : World) (hr : Rd w w.heap.size A (cakeV cs)) (a b : Int) (h : cakesB a b cs = q) :
    Calls Try.prog 15 #[.slice A n c, .int .i64 a, .int .i64 b] w fun e w' => e = .returned (.bool q) ∧ Below w.heap.size w w' := by
  have := iVC_any n hn cs hl A c hcap w hr a b
  rw [h] at this
  exact this
set_option maxHeartbeats 800000 in
theorem iShared_any (x y u v a b : Int) (ha : 1 ≤ a ∧ a ≤ 4) (hb : 1 ≤ b ∧ b ≤ 4) (h1 : onB a b (x, y) = true) (h2 : onB a b (u, v) = true) (w : World) :
    Calls Try.prog 55 #[.agg #[.int .i64 x, .int .i64 y], .agg #[.int .i64 u, .int .i64 v], .int .i64 a, .int .i64 b] w fun e w' => e = .returned (.int .i64 (shF a b (x, y) (u, v))) ∧ Below w.heap.size w w' := by
  obtain ⟨⟨p1, p2⟩, p3, p4⟩ := onB_t h1
  obtain ⟨⟨o1, o2⟩, o3, o4⟩ := onB_t h2
  simp only at p1 p2 p3 p4 o1 o2 o3 o4
  clear h1 h2
  have HD : Hid (shF a b (x, y) (u, v) = shD a b (dist x u) (dist y v)) := Lib.hid rfl
  have b1 := dist_nn x u
  have b2 := dist_nn y v
  have b3 : dist x u ≤ 9 := by unfold dist; split <;> omega
  have b4 : dist y v ≤ 9 := by unfold dist; split <;> omega
  have cd1 : ∀ w, Calls Try.prog 62 #[.int .i64 x, .int .i64 u] w fun e w' => e = .returned (.int .i64 (dist x u)) ∧ w = w' := fun w => iDist_any x u ⟨p1, by omega⟩ ⟨o1, by omega⟩ w
  have cd2 : ∀ w, Calls Try.prog 62 #[.int .i64 y, .int .i64 v] w fun e w' => e = .returned (.int .i64 (dist y v)) ∧ w = w' := fun w => iDist_any y v ⟨p3, by omega⟩ ⟨o3, by omega⟩ w
  generalize dist x u = D1 at *
  generalize dist y v = D2 at *
  generalize shF a b (x, y) (u, v) = R at *
  have CD1 := Lib.hid cd1
  have CD2 := Lib.hid cd2
  have bel : ∀ o o' : Obj, Below w.heap.size w ((w.alloc o).alloc o') := fun o o' => ((Below.refl _ _).alloc (Nat.le_refl _) _).alloc (by simp) _
  have BEL := Lib.hid bel
  clear cd1 cd2 bel
  by_cases e1 : D1 = a
  · have e1b : (D1 == a) = true := beq_iff_eq.2 e1
    by_cases e2 : D2 < b
    · have HR : Hid (R = b - D2) := Lib.hid (by rw [HD.out]; unfold shD; rw [if_pos ⟨e1, e2⟩])
      clear e1
      go_enter Try.func55, Try.ntmps55
      go_wp2_with fail
      refine (CD1.out _).mono ?_
      rintro e w' ⟨rfl, rfl⟩
      go_wp2_with fail
      refine (CD2.out _).mono ?_
      rintro e w' ⟨rfl, rfl⟩
      go_wp2
      go_ret
      exact ⟨ret_int HR.out.symm, BEL.out _ _⟩
    · have e3 : b ≤ D2 := by omega
      have HR : Hid (R = 0) := Lib.hid (by rw [HD.out]; unfold shD; rw [if_neg (by omega), if_neg (by omega)])
      have e4 : ¬ D1 < a := by omega
      clear e1
      by_cases e5 : D2 = b
      · have e5b : (D2 == b) = true := beq_iff_eq.2 e5
        clear e5
        go_enter Try.func55, Try.ntmps55
        go_wp2_with fail
        refine (CD1.out _).mono ?_
        rintro e w' ⟨rfl, rfl⟩
        go_wp2_with fail
        refine (CD2.out _).mono ?_
        rintro e w' ⟨rfl, rfl⟩
        go_wp2
        go_ret
        exact ⟨ret_int HR.out.symm, BEL.out _ _⟩
      · have e5b : (D2 == b) = false := beq_eq_false_iff_ne.2 e5
        go_enter Try.func55, Try.ntmps55
        go_wp2_with fail
        refine (CD1.out _).mono ?_
        rintro e w' ⟨rfl, rfl⟩
        go_wp2_with fail
        refine (CD2.out _).mono ?_
        rintro e w' ⟨rfl, rfl⟩
        go_wp2
        go_ret
        exact ⟨ret_int HR.out.symm, BEL.out _ _⟩
  · have e1b : (D1 == a) = false := beq_eq_false_iff_ne.2 e1
    by_cases e5 : D2 = b
    · have e5b : (D2 == b) = true := beq_iff_eq.2 e5
      by_cases e6 : D1 < a
      · have HR : Hid (R = a - D1) := Lib.hid (by rw [HD.out]; unfold shD; rw [if_neg (by omega), if_pos ⟨e5, e6⟩])
        clear e5
        go_enter Try.func55, Try.ntmps55
        go_wp2_with fail
        refine (CD1.out _).mono ?_
        rintro e w' ⟨rfl, rfl⟩
        go_wp2_with fail
        refine (CD2.out _).mono ?_
        rintro e w' ⟨rfl, rfl⟩
        go_wp2
        go_ret
        exact ⟨ret_int HR.out.symm, BEL.out _ _⟩
      · have HR : Hid (R = 0) := Lib.hid (by rw [HD.out]; unfold shD; rw [if_neg (by omega), if_neg (by omega)])
        have e7 : a ≤ D1 := by omega
        clear e5
        go_enter Try.func55, Try.ntmps55
        go_wp2_with fail
        refine (CD1.out _).mono ?_
        rintro e w' ⟨rfl, rfl⟩
        go_wp2_with fail
        refine (CD2.out _).mono ?_
        rintro e w' ⟨rfl, rfl⟩
        go_wp2
        go_ret
        exact ⟨ret_int HR.out.symm, BEL.out _ _⟩
    · have e5b : (D2 == b) = false := beq_eq_false_iff_ne.2 e5
      have HR : Hid (R = 0) := Lib.hid (by rw [HD.out]; unfold shD; rw [if_neg (by omega), if_neg (by omega)])
      go_enter Try.func55, Try.ntmps55
      go_wp2_with fail
      refine (CD1.out _).mono ?_
      rintro e w' ⟨rfl, rfl⟩
      go_wp2_with fail
      refine (CD2.out _).mono ?_
      rintro e w' ⟨rfl, rfl⟩
      go_wp2
      go_ret
      exact ⟨ret_int HR.out.symm, BEL.out _ _⟩
set_option maxHeartbeats 2000000 in
theorem iSaw_any (n : Nat) (hn : n ≤ 1048576) (cs : List (Int × Int)) (hl : cs.length = n) (A : Option Addr) (c : Nat) (hcap : n ≤ c ∧ c ≤ maxLen) (w : World) (hr : Rd w w.heap.size A (cakeV cs)) (a b : Int) :
    Calls Try.prog 28 #[.slice A n c, .int .i64 a, .int .i64 b] w fun e w' => e = .returned (.int .i64 (sawT a b cs)) ∧ Below w.heap.size w w' := by
  cases hv : cakesB a b cs
  · rw [sawT_no hv]
    go_enter Try.func28, Try.ntmps28
    go_wp2_with fail
    refine (iVC_is n hn cs hl A c hcap w hr a b hv).mono ?_
    rintro e w1 ⟨rfl, b1⟩
    go_wp2
    go_ret
    exact ⟨rfl, b1⟩
  · rw [sawT_ok hv]
    obtain ⟨hs, hok⟩ := cakesB_parts hv
    obtain ⟨⟨s1, s2⟩, ⟨s3, s4⟩⟩ := sidesB_t hs
    rw [hl] at hok
    have HON : Hid (∀ j, j < n → onB a b (cAt cs j) = true) := Lib.hid fun j hj => okTo_on hok hj
    have HL := Lib.hid hl
    have HB : Hid (∀ k : Nat, k ≤ n → 0 ≤ shAll a b cs k ∧ shAll a b cs k ≤ 4194304 * (k : Int)) := Lib.hid fun k hk => shAll_bd ⟨s1, s2⟩ ⟨s3, s4⟩ cs k (by omega)
    have HBT : Hid (∀ i k : Nat, 0 ≤ shTo a b cs i k ∧ shTo a b cs i k ≤ 4 * (k : Int)) := Lib.hid fun i k => shTo_bd ⟨s1, s2⟩ ⟨s3, s4⟩ cs i k
    have HF : Hid (∀ i k, 0 ≤ shF a b (cAt cs i) (cAt cs k) ∧ shF a b (cAt cs i) (cAt cs k) ≤ 4) := Lib.hid fun i k => shF_bd ⟨s1, s2⟩ ⟨s3, s4⟩ _ _
    have HSaw : Hid (sawF a b cs = 2 * (a + b) * (n : Int) - shAll a b cs n) := Lib.hid (by unfold sawF; rw [hl])
    obtain ⟨T, hT⟩ : ∃ T, T = 2 * (a + b) * (n : Int) := ⟨_, rfl⟩
    have hT1 : 0 ≤ T ∧ T ≤ 16 * (n : Int) := by
      have h1 : (2 * (a + b)) * (n : Int) ≤ 16 * (n : Int) := Int.mul_le_mul_of_nonneg_right (by omega) (by omega)
      have h2 : 0 ≤ (2 * (a + b)) * (n : Int) := Int.mul_nonneg (by omega) (by omega)
      rw [hT]; exact ⟨h2, h1⟩
    rw [← hT] at HSaw
    have HTT := Lib.hid hT
    have HV := Lib.hid hv
    obtain ⟨q3, q4⟩ := hcap
    have hTr1 : -9223372036854775808 ≤ 2 * (a + b) * (n : Int) ∧ 2 * (a + b) * (n : Int) ≤ 9223372036854775807 := by rw [← hT]; omega
    have wT : wrap64 (2 * (a + b) * (n : Int)) = T := by rw [IntWalk.wrap64_in _ hTr1, hT]
    have WT := Lib.hid wT
    clear hv hs hok hl hT hTr1 wT
    go_enter Try.func28, Try.ntmps28
    go_wp2_with fail
    refine (iVC_is n hn cs HL.out A c ⟨q3, q4⟩ w hr a b HV.out).mono ?_
    rintro e w1 ⟨rfl, b1⟩
    have B1 := Lib.hid b1
    clear b1
    go_wp2
    rw [WT.out]
    go_loopw [7, 26] (fun s i wr => ∃ k : Nat, k ≤ n ∧ i = .int .i64 k ∧ s = .int .i64 (T - shAll a b cs k) ∧ Below w.heap.size w wr) (fun _ i _ => n - (intOf i).toNat)
    case atStart => exact ⟨0, Nat.zero_le _, rfl, by simp [shAll], B1.out⟩
    case round =>
      obtain ⟨k, hk, rfl, rfl, hbel⟩ := hrel
      have HBEL := Lib.hid hbel
      have hsz := hbel.size
      have hsa := HB.out k hk
      by_cases hlt : k < n
      · obtain ⟨b1, off, x, y, rfl, hb1, hz, hc, hc2⟩ := (hr.below hbel).cake_ (k := k) (by rw [HL.out]; exact hlt)
        have Hcat : Hid (cAt cs k = (x, y)) := Lib.hid (cAt_get hz.out)
        have e3 : k ≤ c := by omega
        obtain ⟨wq, hwq⟩ : ∃ wq, wq = wr.alloc (.cells #[.int .i64 x, .int .i64 y] 55) := ⟨_, rfl⟩
        have b0 : Below wr.heap.size wr wq := by rw [hwq]; exact (Below.refl _ _).alloc (Nat.le_refl _) _
        have d0 : wq.cell? ⟨wr.heap.size, 0, none⟩ = some (.int .i64 x) := by rw [hwq]; exact two_new wr (.int .i64 x) (.int .i64 y) _ _ rfl 0 _ rfl
        have d1 : wq.cell? ⟨wr.heap.size, 1, none⟩ = some (.int .i64 y) := by rw [hwq]; exact two_new wr (.int .i64 x) (.int .i64 y) _ _ rfl 1 _ rfl
        have hszq : wq.heap.size = wr.heap.size + 1 := by rw [hwq]; simp
        have HQ := Lib.hid hwq
        have hbq := hbel.trans (b0.mono hsz)
        have HBQ := Lib.hid hbq
        clear hbel hbq b0 hz
        have HSA : Hid (shAll a b cs (k + 1) = shAll a b cs k + shTo a b cs k k) := Lib.hid rfl
        generalize hSA : shAll a b cs k = SA at *
        have HSAk := Lib.hid hSA
        clear hSA
        go_wp2
        rw [← HQ.out]
        clear hwq
        generalize hS0 : wr.heap.size = S0 at *
        clear hS0
        go_loopw [7, 35] (fun s i wi => ∃ j : Nat, j ≤ k ∧ i = .int .i64 j ∧ s = .int .i64 (T - SA - shTo a b cs k j) ∧ Below wq.heap.size wq wi) (fun _ i _ => k - (intOf i).toNat)
        case atStart => exact ⟨0, Nat.zero_le _, rfl, by simp [shTo], Below.refl _ _⟩
        case round =>
          obtain ⟨j, hj, rfl, rfl, hbi⟩ := hrel
          have HBI := Lib.hid hbi
          have hsi := hbi.size
          have hst := HBT.out k j
          by_cases hjt : j < k
          · have hbw := HBQ.out.trans (hbi.mono (by omega))
            obtain ⟨b2, off2, u, v, e, hb2, hz2, hc3, hc4⟩ := (hr.below hbw).cake_ (k := j) (by rw [HL.out]; omega)
            injection e with e
            injection e with e1 e4
            subst e1 e4
            have f0 := (hbi.cell (p := ⟨S0, 0, none⟩) (by show S0 < _; omega)).trans d0
            have f1 := (hbi.cell (p := ⟨S0, 1, none⟩) (by show S0 < _; omega)).trans d1
            have g0 : ∀ o : Obj, (wr.alloc o).cell? ⟨S0, 0, none⟩ = some (.int .i64 x) := fun o => (World.cell?_alloc_lt wr o _ (by show S0 < _; omega)).trans f0
            have g1 : ∀ o : Obj, (wr.alloc o).cell? ⟨S0, 1, none⟩ = some (.int .i64 y) := fun o => (World.cell?_alloc_lt wr o _ (by show S0 < _; omega)).trans f1
            have hsh := HF.out k j
            rw [Hcat.out, cAt_get hz2.out] at hsh
            have HSS : Hid (shTo a b cs k (j + 1) = shTo a b cs k j + shF a b (x, y) (u, v)) := Lib.hid (by rw [← Hcat.out, ← cAt_get hz2.out]; rfl)
            have HC : Hid (∀ w, Calls Try.prog 55 #[.agg #[.int .i64 x, .int .i64 y], .agg #[.int .i64 u, .int .i64 v], .int .i64 a, .int .i64 b] w fun e w' => e = .returned (.int .i64 (shF a b (x, y) (u, v))) ∧ Below w.heap.size w w') := Lib.hid fun w => iShared_any x y u v a b ⟨s1, s2⟩ ⟨s3, s4⟩ (by rw [← Hcat.out]; exact HON.out k hlt) (by rw [← cAt_get hz2.out]; exact HON.out j (by omega)) w
            have HBA : Hid (∀ o : Obj, Below wq.heap.size wq (wr.alloc o)) := Lib.hid fun o => hbi.alloc (by omega) _
            clear f0 f1 hbi hbw hz2
            generalize shF a b (x, y) (u, v) = SH at *
            generalize hST : shTo a b cs k j = ST at *
            clear hST
            go_wp2_with fail
            refine (HC.out _).mono ?_
            rintro e w5 ⟨rfl, b5⟩
            have hb5 := (HBA.out _).trans (b5.mono (by simp; omega))
            have HB5 := Lib.hid hb5
            clear hb5 b5 g0 g1
            go_wp2
            go_roundw
            case rel => exact ⟨j + 1, by omega, by go_num, by rw [HSS.out]; first | go_num | (congr 1; omega), HB5.out⟩
            case measure => simp [intOf]; omega
          · obtain rfl : j = k := by omega
            have hbw := HBQ.out.trans (hbi.mono (by omega))
            have HBW := Lib.hid hbw
            clear hbw hbi
            generalize hST : shTo a b cs j j = ST at *
            clear hST
            go_wp2
            go_roundw
            case rel => exact ⟨j + 1, by omega, by go_num, by rw [HSA.out]; first | go_num | (congr 1; omega), HBW.out⟩
            case measure => simp [intOf]; omega
      · obtain rfl : k = n := by omega
        generalize hSA : shAll a b cs k = SA at *
        clear hSA
        go_wp2
        go_ret
        exact ⟨ret_int HSaw.out.symm, HBEL.out⟩

end Go.Proofs.Ytbnggakfogcalae

/- Contracts of chapter 7: auctions, the program. -/
import Derived.Test.YtiihenhddleooaaTPick
import Derived.Test.YtiihenhddleooaaFValid
import Derived.Test.YtiihenhddleooaaTBal
namespace Go.Proofs.Ytiihenhddleooaa
open Go.RowKit
set_option linter.unusedVariables false
set_option linter.unusedSimpArgs false
theorem iAmt_any (x : Int) (w : World) :
    Calls Try.prog 68 #[.int .i64 x] w fun e w' => e = .returned (.bool (inB x 0 10000)) ∧ w = w' := by
  go_enter Try.func68, Try.ntmps68
  go_wp2
  all_goals go_ret
  all_goals (refine ⟨ret_bool ?_, rfl⟩; unfold inB)
  all_goals simp [*]
  all_goals omega
def amTo (bs : List Int) (k : Nat) : Bool := (bs.take k).all (fun z => inB z 0 10000)
theorem amTo_succ {bs : List Int} {k : Nat} {z : Int} (h : bs[k]? = some z) : amTo bs (k + 1) = (amTo bs k && inB z 0 10000) := by
  unfold amTo
  rw [take_snoc h, List.all_append]
  simp
theorem amTo_bad {bs : List Int} {k : Nat} {z : Int} (h : bs[k]? = some z) (hz : inB z 0 10000 = false) : bs.all (fun z => inB z 0 10000) = false := by
  rw [List.all_eq_false]
  exact ⟨z, List.mem_of_getElem? h, by rw [hz]; simp⟩
set_option maxHeartbeats 800000 in
theorem iAuc_any (m : Nat) (bs : List Int) (hl : bs.length = m) (hm : m ≤ maxLen) (A : Option Addr) (c : Nat) (n : Int) (w : World) (B : Nat) (hr : Rd w B A (ints bs)) :
    Calls Try.prog 61 #[.slice A m c, .int .i64 n] w fun e w' => e = .returned (.bool (aucB bs n)) ∧ w = w' := by
  unfold maxLen at hm
  have HL := Lib.hid hl
  have HV : Hid (aucB bs n = ((decide (m ≤ 8) && bs.all (fun z => inB z 0 10000)) && inB n 0 8)) := Lib.hid (by unfold aucB; rw [hl])
  have HE : Hid (amTo bs m = bs.all (fun z => inB z 0 10000)) := Lib.hid (by unfold amTo; rw [← hl, List.take_length])
  generalize aucB bs n = R at *
  clear hl
  by_cases h8 : m ≤ 8
  · have hways : n < 0 ∨ (0 ≤ n ∧ 8 < n) ∨ (0 ≤ n ∧ n ≤ 8) := by omega
    rcases hways with h | ⟨h1, h2⟩ | ⟨h1, h2⟩
    · have HT : Hid (R = false) := Lib.hid (by rw [HV.out, inB_nk (n := n) (by omega), Bool.and_false])
      go_enter Try.func61, Try.ntmps61
      go_wp2
      go_ret
      exact ⟨ret_bool HT.out.symm, rfl⟩
    · have HT : Hid (R = false) := Lib.hid (by rw [HV.out, inB_nk (n := n) (by omega), Bool.and_false])
      go_enter Try.func61, Try.ntmps61
      go_wp2
      go_ret
      exact ⟨ret_bool HT.out.symm, rfl⟩
    · have HT : Hid (R = amTo bs m) := Lib.hid (by rw [HV.out, inB_mk (n := n) ⟨h1, h2⟩, Bool.and_true, decide_eq_true h8, Bool.true_and, HE.out])
      go_enter Try.func61, Try.ntmps61
      go_wp2
      go_loop [20] (fun i => ∃ k : Nat, k ≤ m ∧ i = .int .i64 k ∧ amTo bs k = true) (fun i => m - (intOf i).toNat)
      case atStart => exact ⟨0, Nat.zero_le _, rfl, rfl⟩
      case round =>
        obtain ⟨k, hk, rfl, hok⟩ := hrel
        have HOK := Lib.hid hok
        by_cases hlt : k < m
        · obtain ⟨b, off, z, rfl, hb, hz, hc⟩ := hr.int_ (k := k) (by rw [HL.out]; exact hlt)
          have HN : Hid (amTo bs (k + 1) = inB z 0 10000) := Lib.hid (by rw [amTo_succ hz.out, HOK.out]; rfl)
          have HBD : Hid (inB z 0 10000 = false → R = false) := Lib.hid fun h => by rw [HT.out, HE.out]; exact amTo_bad hz.out h
          clear hok hz
          cases hq : inB z 0 10000
          · have HQ := Lib.hid (HBD.out hq)
            go_wp2_with (go_at_call 68; refine (iAmt_any _ _).mono ?_; rintro e w' ⟨rfl, rfl⟩)
            go_ret
            exact ⟨ret_bool HQ.out.symm, rfl⟩
          · rw [hq] at HN
            go_wp2_with (go_at_call 68; refine (iAmt_any _ _).mono ?_; rintro e w' ⟨rfl, rfl⟩)
            go_round
            case rel => exact ⟨k + 1, by omega, by go_num, HN.out⟩
            case measure => first | (simp [intOf]; omega) | simp [intOf]
        · obtain rfl : k = m := by omega
          have HQ := Lib.hid (HT.out.trans HOK.out)
          clear hok
          go_wp2
          go_ret
          exact ⟨ret_bool HQ.out.symm, rfl⟩
  · have HT : Hid (R = false) := Lib.hid (by rw [HV.out, decide_eq_false h8]; rfl)
    have h8i : (8 : Int) < (m : Int) := by omega
    go_enter Try.func61, Try.ntmps61
    go_wp2
    go_ret
    exact ⟨ret_bool HT.out.symm, rfl⟩
set_option maxHeartbeats 1000000 in
theorem iAhead_any (m : Nat) (hm : m ≤ 1048576) (bs : List Int) (hl : bs.length = m) (A : Option Addr) (c : Nat) (j : Nat) (hj : j < m) (w : World) (B : Nat) (hr : Rd w B A (ints bs)) :
    Calls Try.prog 62 #[.slice A m c, .int .i64 j] w fun e w' => e = .returned (.int .i64 (befF (ltW bs) m j : Nat)) ∧ w = w' := by
  have HL := Lib.hid hl
  clear hl
  go_enter Try.func62, Try.ntmps62
  go_wp2
  go_loop [5, 10] (fun q i => ∃ k p : Nat, k ≤ m ∧ i = .int .i64 k ∧ q = .int .i64 p ∧ p = befF (ltW bs) k j) (fun _ i => m - (intOf i).toNat)
  case atStart => exact ⟨0, 0, Nat.zero_le _, rfl, rfl, rfl⟩
  case round =>
    obtain ⟨k, p, hk, rfl, rfl, hp⟩ := hrel
    by_cases hlt : k < m
    · obtain ⟨b1, off, u, rfl, hb1, hz, hc⟩ := hr.int_ (k := k) (by rw [HL.out]; exact hlt)
      obtain ⟨b2, off2, x, e7, hb2, hz2, hd⟩ := hr.int_ (k := j) (by rw [HL.out]; exact hj)
      injection e7 with e7
      injection e7 with q1 q2
      subst q1 q2
      have hst := befF_succ (ltW bs) k j
      rw [← hp] at hst
      have hltv : ltW bs k j = (decide (x < u) || (u == x && decide (k < j))) := by unfold ltW; rw [at_of hz.out, at_of hz2.out]
      rw [hltv] at hst
      have hpl : p ≤ k := by rw [hp]; exact befF_le _ _ _
      clear hltv hz hz2
      have hways : x < u ∨ (¬ x < u ∧ u = x ∧ k < j) ∨ (¬ x < u ∧ u = x ∧ ¬ k < j) ∨ (¬ x < u ∧ ¬ u = x) := by omega
      rcases hways with g | ⟨g1, g2, g3⟩ | ⟨g1, g2, g3⟩ | ⟨g1, g2⟩
      · have p1 : decide (x < u) = true := decide_eq_true g
        rw [p1] at hst
        obtain ⟨m1, hm1⟩ : ∃ m1, m1 = p + 1 := ⟨_, rfl⟩
        have e1 : (p : Int) + 1 = (m1 : Int) := by omega
        have HM : Hid (m1 = befF (ltW bs) (k + 1) j) := Lib.hid (by rw [hst, hm1]; rfl)
        clear hst hp hm1
        go_wp2
        go_round
        case rel => exact ⟨k + 1, m1, by omega, by go_num, by go_num, HM.out⟩
        case measure => first | (simp [intOf]; omega) | simp [intOf]
      · subst g2
        have p1 : decide (u < u) = false := decide_eq_false g1
        have p3 : decide (k < j) = true := decide_eq_true g3
        have p4 : decide ((k : Int) < (j : Int)) = true := decide_eq_true (by omega)
        rw [p1, p3] at hst
        obtain ⟨m1, hm1⟩ : ∃ m1, m1 = p + 1 := ⟨_, rfl⟩
        have e1 : (p : Int) + 1 = (m1 : Int) := by omega
        have HM : Hid (m1 = befF (ltW bs) (k + 1) j) := Lib.hid (by rw [hst, hm1]; simp)
        clear hst hp hm1
        go_wp2
        go_round
        case rel => exact ⟨k + 1, m1, by omega, by go_num, by go_num, HM.out⟩
        case measure => first | (simp [intOf]; omega) | simp [intOf]
      · subst g2
        have p1 : decide (u < u) = false := decide_eq_false g1
        have p3 : decide (k < j) = false := decide_eq_false g3
        have p4 : decide ((k : Int) < (j : Int)) = false := decide_eq_false (by omega)
        rw [p1, p3] at hst
        have HM : Hid (p = befF (ltW bs) (k + 1) j) := Lib.hid (by rw [hst]; simp)
        clear hst hp
        go_wp2
        go_round
        case rel => exact ⟨k + 1, p, by omega, by go_num, rfl, HM.out⟩
        case measure => first | (simp [intOf]; omega) | simp [intOf]
      · have p1 : decide (x < u) = false := decide_eq_false g1
        have p2 : (u == x) = false := beq_eq_false_iff_ne.2 g2
        rw [p1, p2] at hst
        have HM : Hid (p = befF (ltW bs) (k + 1) j) := Lib.hid (by rw [hst]; simp)
        clear hst hp
        go_wp2
        go_round
        case rel => exact ⟨k + 1, p, by omega, by go_num, rfl, HM.out⟩
        case measure => first | (simp [intOf]; omega) | simp [intOf]
    · obtain rfl : k = m := by omega
      have R := Lib.hid hp
      clear hp
      go_wp2
      go_ret
      exact ⟨ret_int (by rw [R.out]), rfl⟩
set_option maxHeartbeats 1000000 in
theorem iPrice_any (m : Nat) (bs : List Int) (hl : bs.length = m) (hm : m ≤ maxLen) (A : Option Addr) (c : Nat) (n : Int) (w : World) (B : Nat) (hr : Rd w B A (ints bs)) :
    Calls Try.prog 32 #[.slice A m c, .int .i64 n] w fun e w' => e = .returned (.int .i64 (prT bs n)) ∧ w = w' := by
  have C := Lib.hid (iAuc_any m bs hl hm A c n w B hr)
  cases hv : aucB bs n
  · rw [hv] at C
    have HT : Hid (prT bs n = -1) := Lib.hid (by unfold prT; rw [hv]; rfl)
    clear hr hv
    rw [HT.out]
    go_enter Try.func32, Try.ntmps32
    go_wp2_with fail
    refine (C.out).mono ?_
    rintro e w' ⟨rfl, rfl⟩
    go_wp2
    go_ret
    exact ⟨rfl, rfl⟩
  · rw [hv] at C
    obtain ⟨h8, _, hn0, hn8⟩ := aucB_t hv
    obtain ⟨N, rfl⟩ := Int.eq_ofNat_of_zero_le hn0
    have HT : Hid (prT bs (N : Int) = prF bs N) := Lib.hid (by unfold prT; rw [hv]; rfl)
    have hm8 : m ≤ 8 := by omega
    have HL := Lib.hid hl
    have CA : Hid (∀ j, j < m → Calls Try.prog 62 #[.slice A m c, .int .i64 j] w fun e w' => e = .returned (.int .i64 (rkW bs j : Nat)) ∧ w = w') := Lib.hid fun j hj => by
      have := iAhead_any m (by omega) bs hl A c j hj w B hr
      unfold rkW
      rw [hl]
      exact this
    have HEND : Hid ((∀ j, j < m → rkW bs j ≠ N) → prF bs N = 0) := Lib.hid fun h => by
      by_cases g : N < m
      · obtain ⟨i, h1, h2, _⟩ := prF_has (bs := bs) (n := N) (by omega)
        exact absurd h2 (h i (by omega))
      · exact prF_none (by omega)
    rw [HT.out]
    clear hv hl h8 hm
    go_enter Try.func32, Try.ntmps32
    go_wp2_with fail
    refine (C.out).mono ?_
    rintro e w' ⟨rfl, rfl⟩
    go_wp2
    go_loop [13] (fun i => ∃ k : Nat, k ≤ m ∧ i = .int .i64 k ∧ ∀ j, j < k → rkW bs j ≠ N) (fun i => m - (intOf i).toNat)
    case atStart => exact ⟨0, Nat.zero_le _, rfl, fun j h => by omega⟩
    case round =>
      obtain ⟨k, hk, rfl, hno⟩ := hrel
      have HNO := Lib.hid hno
      clear hno
      by_cases hlt : k < m
      · obtain ⟨b1, off, u, rfl, hb1, hz, hc⟩ := hr.int_ (k := k) (by rw [HL.out]; exact hlt)
        have CK := Lib.hid (CA.out k hlt)
        obtain ⟨r, hrk⟩ : ∃ r, r = rkW bs k := ⟨_, rfl⟩
        rw [← hrk] at CK
        have HR := Lib.hid hrk
        clear hrk
        go_wp2_with fail
        refine (CK.out).mono ?_
        rintro e w' ⟨rfl, rfl⟩
        by_cases he : r = N
        · have hei : ((r : Int) == (N : Int)) = true := beq_iff_eq.2 (by omega)
          have HQ : Hid (prF bs N = u) := Lib.hid (by rw [prF_at (i := k) (by rw [HL.out]; exact hlt) (by rw [← HR.out]; exact he), at_of hz.out])
          go_wp2
          go_ret
          exact ⟨ret_int HQ.out.symm, rfl⟩
        · have hei : ((r : Int) == (N : Int)) = false := beq_eq_false_iff_ne.2 (by omega)
          have hen : ¬ (r : Int) = (N : Int) := by omega
          go_wp2
          go_round
          case rel => exact ⟨k + 1, by omega, by go_num, fun j hj => by by_cases e : j = k; rw [e, ← HR.out]; exact he; exact HNO.out j (by omega)⟩
          case measure => first | (simp [intOf]; omega) | simp [intOf]
      · obtain rfl : k = m := by omega
        have HQ := Lib.hid (HEND.out HNO.out)
        go_wp2
        go_ret
        exact ⟨ret_int HQ.out.symm, rfl⟩
set_option maxHeartbeats 1000000 in
theorem iGain_any (m : Nat) (bs : List Int) (hl : bs.length = m) (hm : m ≤ maxLen) (A : Option Addr) (c : Nat) (n i wo : Int) (w : World) (B : Nat) (hr : Rd w B A (ints bs)) :
    Calls Try.prog 35 #[.slice A m c, .int .i64 n, .int .i64 i, .int .i64 wo] w fun e w' => e = .returned (.int .i64 (gaT bs n i wo)) ∧ w = w' := by
  have C := Lib.hid (iAuc_any m bs hl hm A c n w B hr)
  cases hv : aucB bs n
  · rw [hv] at C
    have HT : Hid (gaT bs n i wo = 0) := Lib.hid (by unfold gaT; rw [hv]; rfl)
    clear hr hv
    rw [HT.out]
    go_enter Try.func35, Try.ntmps35
    go_wp2_with fail
    refine (C.out).mono ?_
    rintro e w' ⟨rfl, rfl⟩
    go_wp2
    go_ret
    exact ⟨rfl, rfl⟩
  · rw [hv] at C
    obtain ⟨h8, hbz, hn0, hn8⟩ := aucB_t hv
    have hm8 : m ≤ 8 := by omega
    by_cases hi0 : i < 0
    · have HT : Hid (gaT bs n i wo = 0) := Lib.hid (by unfold gaT; rw [inB_nk (n := i) (by omega)]; simp)
      clear hr hv hbz
      rw [HT.out]
      go_enter Try.func35, Try.ntmps35
      go_wp2_with fail
      refine (C.out).mono ?_
      rintro e w' ⟨rfl, rfl⟩
      go_wp2
      go_ret
      exact ⟨rfl, rfl⟩
    · obtain ⟨I, rfl⟩ := Int.eq_ofNat_of_zero_le (show 0 ≤ i by omega)
      by_cases hI : I < m
      · have hIi : decide ((I : Int) ≥ (m : Int)) = false := decide_eq_false (by omega)
        have hIi2 : decide ((m : Int) ≤ (I : Int)) = false := decide_eq_false (by omega)
        cases hw : inB wo 0 10000
        · have HT : Hid (gaT bs n (I : Int) wo = 0) := Lib.hid (by unfold gaT; rw [hw]; simp)
          have HW := Lib.hid fun w => iAmt_any wo w
          rw [hw] at HW
          clear hr hv hbz hw
          rw [HT.out]
          go_enter Try.func35, Try.ntmps35
          go_wp2_with fail
          refine (C.out).mono ?_
          rintro e w' ⟨rfl, rfl⟩
          go_wp2_with fail
          refine (HW.out _).mono ?_
          rintro e w' ⟨rfl, rfl⟩
          go_wp2
          go_ret
          exact ⟨rfl, rfl⟩
        · obtain ⟨wo1, wo2⟩ := inB_t hw
          have HW := Lib.hid fun w => iAmt_any wo w
          rw [hw] at HW
          obtain ⟨N, rfl⟩ := Int.eq_ofNat_of_zero_le hn0
          have HT : Hid (gaT bs (N : Int) (I : Int) wo = gaF bs N I wo) := Lib.hid (by
            unfold gaT
            rw [hv, hw, inB_mk (n := (I : Int)) (by omega)]
            rfl)
          have CA : Hid (Calls Try.prog 62 #[.slice A m c, .int .i64 (I : Int)] w fun e w' => e = .returned (.int .i64 (rkW bs I : Nat)) ∧ w = w') := Lib.hid (by
            have := iAhead_any m (by omega) bs hl A c I hI w B hr
            unfold rkW
            rw [hl]
            exact this)
          have CP := Lib.hid (iPrice_any m bs hl hm A c (N : Int) w B hr)
          rw [show prT bs (N : Int) = prF bs N by unfold prT; rw [hv]; rfl] at CP
          have HPB : Hid (0 ≤ prF bs N ∧ prF bs N ≤ 10000) := Lib.hid (by
            by_cases g : N < bs.length
            · obtain ⟨x, x1, x2, _⟩ := prF_has g
              rw [prF_at x1 x2]
              exact hbz _ (List.mem_of_getElem? (of_at x1))
            · rw [prF_none (by omega)]; omega)
          rw [HT.out]
          have HG : Hid (gaF bs N I wo = if rkW bs I < N then wo - prF bs N else 0) := Lib.hid rfl
          rw [HG.out]
          clear hr hv hbz hw hl h8 hm
          generalize rkW bs I = r at *
          generalize prF bs N = P at *
          obtain ⟨hp1, hp2⟩ := HPB.out
          by_cases hg : r < N
          · have hgi : decide ((r : Int) ≥ (N : Int)) = false := decide_eq_false (by omega)
            have hgi2 : decide ((N : Int) ≤ (r : Int)) = false := decide_eq_false (by omega)
            rw [if_pos hg]
            go_enter Try.func35, Try.ntmps35
            go_wp2_with fail
            refine (C.out).mono ?_
            rintro e w' ⟨rfl, rfl⟩
            go_wp2_with fail
            refine (HW.out _).mono ?_
            rintro e w' ⟨rfl, rfl⟩
            go_wp2_with fail
            refine (CA.out).mono ?_
            rintro e w' ⟨rfl, rfl⟩
            go_wp2_with fail
            refine (CP.out).mono ?_
            rintro e w' ⟨rfl, rfl⟩
            go_wp2
            go_ret
            exact ⟨rfl, rfl⟩
          · have hgi : decide ((r : Int) ≥ (N : Int)) = true := decide_eq_true (by omega)
            have hgi2 : (N : Int) ≤ (r : Int) := by omega
            rw [if_neg hg]
            go_enter Try.func35, Try.ntmps35
            go_wp2_with fail
            refine (C.out).mono ?_
            rintro e w' ⟨rfl, rfl⟩
            go_wp2_with fail
            refine (HW.out _).mono ?_
            rintro e w' ⟨rfl, rfl⟩
            go_wp2_with fail
            refine (CA.out).mono ?_
            rintro e w' ⟨rfl, rfl⟩
            go_wp2
            go_ret
            exact ⟨rfl, rfl⟩
      · have HT : Hid (gaT bs n (I : Int) wo = 0) := Lib.hid (by unfold gaT; rw [inB_nk (n := (I : Int)) (by omega)]; simp)
        have hIi : decide ((I : Int) ≥ (m : Int)) = true := decide_eq_true (by omega)
        have hIi2 : (m : Int) ≤ (I : Int) := by omega
        clear hr hv hbz
        rw [HT.out]
        go_enter Try.func35, Try.ntmps35
        go_wp2_with fail
        refine (C.out).mono ?_
        rintro e w' ⟨rfl, rfl⟩
        go_wp2
        go_ret
        exact ⟨rfl, rfl⟩
/-- the winners by their places -/
theorem win_all {bs : List Int} {L : Nat} {f : Nat → Nat} (hL : L ≤ bs.length) (hf : ∀ j, j < bs.length → rkW bs j < L → f (rkW bs j) = j) : (List.range L).map f = (wL bs).take L := by
  have O := wL_ok bs
  apply List.ext_getElem?
  intro p
  by_cases hp : p < L
  · have hx : (wL bs)[p]? = some ((wL bs)[p]'(by rw [O.len]; omega)) := List.getElem?_eq_getElem _
    obtain ⟨x1, x2⟩ := O.of p _ hx
    rw [List.getElem?_map, List.getElem?_range hp, List.getElem?_take, if_pos hp, hx]
    have := hf _ x1 (by unfold rkW; omega)
    unfold rkW at this
    rw [x2] at this
    exact congrArg some this
  · rw [List.getElem?_eq_none (by simp; omega), List.getElem?_eq_none (by rw [List.length_take]; omega)]
theorem winT_le (bs : List Int) (n : Int) : (winT bs n).length ≤ 8 := by
  unfold winT
  split
  · rename_i h
    obtain ⟨h8, _, hn0, hn8⟩ := aucB_t h
    rw [winF_len]; omega
  · simp
set_option maxHeartbeats 2000000 in
theorem iWin_any (m : Nat) (bs : List Int) (hl : bs.length = m) (hm : m ≤ maxLen) (A : Option Addr) (c : Nat) (n : Int) (w : World) (hr : Rd w w.heap.size A (ints bs)) :
    Calls Try.prog 28 #[.slice A m c, .int .i64 n] w (OutI (winT bs n) w) := by
  have C := Lib.hid (iAuc_any m bs hl hm A c n w _ hr)
  cases hv : aucB bs n
  · rw [hv] at C
    have HT : Hid (winT bs n = []) := Lib.hid (by unfold winT; rw [hv]; rfl)
    clear hr hv
    rw [HT.out]
    go_enter Try.func28, Try.ntmps28
    go_wp2_with fail
    refine (C.out).mono ?_
    rintro e w' ⟨rfl, rfl⟩
    go_wp2
    go_ret
    exact ⟨none, 0, rfl, ⟨rfl, .inl ⟨rfl, rfl⟩⟩, Below.refl _ _⟩
  · rw [hv] at C
    obtain ⟨h8, _, hn0, hn8⟩ := aucB_t hv
    obtain ⟨N, rfl⟩ := Int.eq_ofNat_of_zero_le hn0
    have hm8 : m ≤ 8 := by omega
    have hN8 : N ≤ 8 := by omega
    have HT : Hid (winT bs (N : Int) = nats ((wL bs).take N)) := Lib.hid (by unfold winT; rw [hv]; rfl)
    have HL := Lib.hid hl
    have HRL : Hid (∀ j, j < m → rkW bs j < m) := Lib.hid fun j hj => by rw [← hl] at hj ⊢; exact rkW_lt hj
    have HIN : Hid (∀ j k, j < m → k < m → rkW bs j = rkW bs k → j = k) := Lib.hid fun j k hj hk e => by
      have O := wL_ok bs
      have h1 := O.to j (by omega)
      have h2 := O.to k (by omega)
      unfold rkW at e
      rw [e, h2] at h1
      injection h1 with h1
      exact h1.symm
    have CA := Lib.hid fun (w1 : World) (b1 : Below w.heap.size w w1) (j : Nat) (hj : j < m) => iAhead_any m (by omega) bs hl A c j hj w1 w.heap.size (hr.below b1)
    have HRK : Hid (∀ j, befF (ltW bs) m j = rkW bs j) := Lib.hid fun j => by unfold rkW; rw [hl]
    simp only [HRK.out] at CA
    rw [HT.out]
    obtain ⟨L, hL⟩ : ∃ L, L = min N m := ⟨_, rfl⟩
    have CL : Hid (∀ w : World, Calls Try.prog 57 #[.int .i64 (N : Int), .int .i64 (m : Int)] w fun e w' => e = .returned (.int .i64 (L : Int)) ∧ w = w') := Lib.hid fun w => by
      by_cases g : N < m
      · have e1 : L = N := by omega
        rw [e1]
        clear hL
        have gi : (N : Int) < (m : Int) := by omega
        go_enter Try.func57, Try.ntmps57
        go_wp2
        go_ret
        exact ⟨rfl, rfl⟩
      · have e1 : L = m := by omega
        rw [e1]
        clear hL
        have gi : decide ((N : Int) < (m : Int)) = false := decide_eq_false (by omega)
        go_enter Try.func57, Try.ntmps57
        go_wp2
        go_ret
        exact ⟨rfl, rfl⟩
    have HLT : Hid ((wL bs).take N = (wL bs).take L) := Lib.hid (by
      by_cases g : N ≤ m
      · rw [show L = N by omega]
      · rw [take_all (k := N) (by omega), take_all (k := L) (by omega)])
    rw [HLT.out]
    have hLm : L ≤ m := by omega
    have hL8 : L ≤ 8 := by omega
    have hmk := run_make_row' (P := Try.prog) 27 3 (.int .i64 0) 8 Try.underlying27 info_int rfl .i64 .i64 L (by omega) (by omega)
    clear hv hl h8 hm hL
    go_enter Try.func28, Try.ntmps28
    go_wp2_with fail
    refine (C.out).mono ?_
    rintro e w' ⟨rfl, rfl⟩
    go_wp2_with fail
    refine (CL.out _).mono ?_
    rintro e w' ⟨rfl, rfl⟩
    go_wp2
    go_loopw [19] (fun i wr => ∃ (k : Nat) (f : Nat → Nat), k ≤ m ∧ i = .int .i64 k ∧ wr.rowIs w.heap.size 3 L (fun p => .int .i64 (f p : Nat)) ∧ (∀ j, j < k → rkW bs j < L → f (rkW bs j) = j) ∧ Below w.heap.size w wr ∧ w.heap.size < wr.heap.size) (fun i _ => m - (intOf i).toNat)
    case atStart => exact ⟨0, fun _ => 0, Nat.zero_le _, rfl, World.rowIs_made w (.int .i64 0) L 3, fun j hj => by omega, (Below.refl _ _).alloc (Nat.le_refl _) _, by simp⟩
    case round =>
      obtain ⟨k, f, hk, rfl, hrow, hf, hbel, hsz⟩ := hrel
      have HF := Lib.hid hf
      clear hf
      by_cases hlt : k < m
      · have CK := Lib.hid (CA.out wr hbel k hlt)
        have HINK : Hid (∀ j, j < k → rkW bs j ≠ rkW bs k) := Lib.hid fun j hj e => by have := HIN.out j k (by omega) hlt e; omega
        obtain ⟨r, hrk⟩ : ∃ r, r = rkW bs k := ⟨_, rfl⟩
        rw [← hrk] at CK HINK
        have HR := Lib.hid hrk
        clear hrk
        go_wp2_with fail
        refine (CK.out).mono ?_
        rintro e w' ⟨rfl, rfl⟩
        by_cases hg : r < L
        · have hgi : (r : Int) < (L : Int) := by omega
          have k1 := hrow.cell hg
          have f1 := hrow.frozen r
          have hst := (hrow.set r (.int .i64 (k : Int))).congr (g := fun q => .int .i64 ((if q = r then k else f q : Nat) : Int)) fun q hq => by
            by_cases e : q = r
            · subst e; simp
            · simp [e]
          have hbw := hbel.setCell (p := ⟨w.heap.size, r, none⟩) (Nat.le_refl _) (.int .i64 (k : Int))
          have HST := Lib.hid (And.intro hst hbw)
          have HFN : Hid (∀ j, j < k + 1 → rkW bs j < L → (fun q => if q = r then k else f q) (rkW bs j) = j) := Lib.hid fun j hj hjl => by
            by_cases e : j = k
            · subst e; simp [HR.out]
            · simp only [if_neg (HINK.out j (by omega))]; exact HF.out j (by omega) hjl
          clear hst hbw hrow hbel
          go_wp2
          go_roundw
          case rel => exact ⟨k + 1, _, by omega, by go_num, HST.out.1, HFN.out, HST.out.2, by simpa [World.setCell] using hsz⟩
          case measure => first | (simp [intOf]; omega) | simp [intOf]
        · have hgi : decide ((r : Int) < (L : Int)) = false := decide_eq_false (by omega)
          have HFN : Hid (∀ j, j < k + 1 → rkW bs j < L → f (rkW bs j) = j) := Lib.hid fun j hj hjl => by
            by_cases e : j = k
            · subst e; rw [← HR.out] at hjl; exact absurd hjl hg
            · exact HF.out j (by omega) hjl
          have HRB := Lib.hid (And.intro hrow hbel)
          clear hrow hbel
          go_wp2
          go_roundw
          case rel => exact ⟨k + 1, f, by omega, by go_num, HRB.out.1, HFN.out, HRB.out.2, hsz⟩
          case measure => first | (simp [intOf]; omega) | simp [intOf]
      · obtain rfl : k = m := by omega
        have hm2 := win_all (bs := bs) (L := L) (f := f) (by rw [HL.out]; exact hLm) (fun j hj => HF.out j (by rw [← HL.out]; exact hj))
        have R : OutI (nats ((wL bs).take L)) w (.returned (.slice (some ⟨w.heap.size, 0, none⟩) L L)) wr := by
          refine out_row hrow (by rw [← hm2, nats_length]; simp) (by unfold maxLen; omega) (fun i hi => ?_) (Nat.le_refl _) hbel
          rw [← hm2, nats, List.getElem?_map, List.getElem?_map, List.getElem?_range hi]; rfl
        have HR := Lib.hid R
        clear R hm2 hrow hbel
        go_wp2
        go_ret
        exact HR.out

end Go.Proofs.Ytiihenhddleooaa

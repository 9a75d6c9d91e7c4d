/- Contracts of chapter 7: the worst pay. -/
import Derived.Test.YtiihenhddleooaaTPay
namespace Go.Proofs.Ytiihenhddleooaa
open Go.RowKit
set_option linter.unusedVariables false
set_option linter.unusedSimpArgs false
theorem payN_bd {cs : List Cu} (h : okV clV cs = true) (t : Nat) : -200000 ≤ payN cs t ∧ payN cs t ≤ 200000 := payR_ok h t
def WorR (cs : List Cu) (w : World) (e : Ending) (w' : World) : Prop := e = .returned (.tuple #[.int .i64 (worP cs), .int .i64 (worT cs)]) ∧ Below w.heap.size w w'
set_option maxHeartbeats 1000000 in
theorem iWor_any (n : Nat) (cs : List Cu) (hl : cs.length = n) (A : Option Addr) (c : Nat) (hn : n ≤ maxLen) (w : World) (hr : Rd w w.heap.size A (custV cs)) :
    Calls Try.prog 44 #[.slice A n c] w (WorR cs w) := by
  have C := Lib.hid (iVCl_any n cs hl A c hn w hr)
  cases hv : okV clV cs
  · rw [hv] at C
    have HT : Hid (worP cs = 0 ∧ worT cs = -1) := Lib.hid (by unfold worP worT; rw [hv]; exact ⟨rfl, rfl⟩)
    clear hr hv
    unfold WorR
    rw [HT.out.1, HT.out.2]
    go_enter Try.func44, Try.ntmps44
    go_wp2_with fail
    refine (C.out).mono ?_
    rintro e w1 ⟨rfl, b1⟩
    go_wp2
    go_ret2
    exact ⟨rfl, b1⟩
  · rw [hv] at C
    have HT : Hid (worP cs = payN cs (worF (payN cs) 999) ∧ worT cs = (worF (payN cs) 999 : Nat)) := Lib.hid (by unfold worP worT; rw [hv]; exact ⟨rfl, rfl⟩)
    have CP := Lib.hid fun (w1 : World) (b1 : Below w.heap.size w w1) (t : Nat) (ht : t ≤ 999) => (payT_ok hv (t := (t : Int)) (by omega)) ▸ iPay_any n cs hl A c hn w1 ((hr.below b1).more b1.size) (t : Int)
    have HB := Lib.hid (payN_bd hv)
    have HW : Hid (∀ k, worF (payN cs) (k + 1) = if payN cs (k + 1) < payN cs (worF (payN cs) k) then k + 1 else worF (payN cs) k) := Lib.hid fun k => rfl
    have CP0 := Lib.hid (fun (w1 : World) (b1 : Below w.heap.size w w1) => CP.out w1 b1 0 (by omega))
    have HP : ∀ t : Nat, payR (t : Int) cs = payN cs t := fun t => rfl
    simp only [HP] at CP CP0
    unfold WorR
    rw [HT.out.1, HT.out.2]
    clear hr hv hl hn HP
    go_enter Try.func44, Try.ntmps44
    go_wp2_with fail
    refine (C.out).mono ?_
    rintro e w1 ⟨rfl, b1⟩
    have CZ := Lib.hid (CP0.out w1 b1)
    go_wp2_with fail
    refine (CZ.out).mono ?_
    rintro e w2 ⟨rfl, b2⟩
    have hb2 := b1.trans (b2.mono b1.size)
    clear CZ b2
    go_wp2
    go_loopw [4, 5, 6, 7] (fun l b t _ wr => ∃ k : Nat, 1 ≤ k ∧ k ≤ 1000 ∧ t = .int .i64 k ∧ b = .int .i64 (worF (payN cs) (k - 1) : Nat) ∧ l = .int .i64 (payN cs (worF (payN cs) (k - 1))) ∧ Below w.heap.size w wr) (fun _ _ t _ _ => 1000 - (intOf t).toNat)
    case atStart => exact ⟨1, by omega, by omega, rfl, rfl, rfl, hb2⟩
    case round =>
      obtain ⟨k, hk1, hk, rfl, rfl, rfl, hbel⟩ := hrel
      by_cases hlt : k ≤ 999
      · have CQ := Lib.hid (CP.out wr hbel k hlt)
        obtain ⟨j, rfl⟩ : ∃ j, k = j + 1 := ⟨k - 1, by omega⟩
        have hw := HW.out j
        rw [Nat.add_sub_cancel]
        obtain ⟨m, hm⟩ : ∃ m, m = worF (payN cs) j := ⟨_, rfl⟩
        rw [← hm] at hw ⊢
        have bm := HB.out m
        obtain ⟨bm1, bm2⟩ := bm
        have bk := HB.out (j + 1)
        obtain ⟨bk1, bk2⟩ := bk
        have HM := Lib.hid hm
        obtain ⟨K, hK⟩ : ∃ K : Nat, K = j + 1 := ⟨_, rfl⟩
        rw [← hK] at CQ hw bk1 bk2 hlt hk ⊢
        obtain ⟨P, hP⟩ : ∃ P, P = payN cs m := ⟨_, rfl⟩
        obtain ⟨Q, hQ⟩ : ∃ Q, Q = payN cs K := ⟨_, rfl⟩
        rw [← hP] at hw bm1 bm2 ⊢
        rw [← hQ] at hw bk1 bk2 CQ
        have HJ := Lib.hid hK
        have HP := Lib.hid hP
        have HQ := Lib.hid hQ
        clear hm hK hP hQ
        go_wp2_with fail
        refine (CQ.out).mono ?_
        rintro e w3 ⟨rfl, b3⟩
        have hb3 := Lib.hid (hbel.trans (b3.mono hbel.size))
        clear b3 hbel
        by_cases hq : Q < P
        · rw [if_pos hq] at hw
          have HR := Lib.hid hw
          clear hw
          go_wp2
          go_roundw
          case rel => exact ⟨K + 1, by omega, by omega, by go_num, by rw [Nat.add_sub_cancel, HR.out], by rw [Nat.add_sub_cancel, HR.out, ← HQ.out], hb3.out⟩
          case measure => first | (simp [intOf]; omega) | simp [intOf]
        · rw [if_neg hq] at hw
          have hq2 : P ≤ Q := by omega
          have HR := Lib.hid hw
          clear hw
          go_wp2
          go_roundw
          case rel => exact ⟨K + 1, by omega, by omega, by go_num, by rw [Nat.add_sub_cancel, HR.out], by rw [Nat.add_sub_cancel, HR.out, ← HP.out], hb3.out⟩
          case measure => first | (simp [intOf]; omega) | simp [intOf]
      · obtain rfl : k = 1000 := by omega
        have HBE := Lib.hid hbel
        clear hbel
        go_wp2
        go_ret2
        exact ⟨rfl, HBE.out⟩
set_option maxHeartbeats 1000000 in
theorem sWor_any (n : Nat) (cs : List Cu) (hl : cs.length = n) (A : Option Addr) (c : Nat) (hn : n ≤ maxLen) (w : World) (hr : Rd w w.heap.size A (custV cs)) :
    Calls Try.prog 45 #[.slice A n c] w (WorR cs w) := by
  have C := Lib.hid (sWCl_any n cs hl A c hn w hr)
  cases hv : okV clV cs
  · rw [hv] at C
    have HT : Hid (worP cs = 0 ∧ worT cs = -1) := Lib.hid (by unfold worP worT; rw [hv]; exact ⟨rfl, rfl⟩)
    clear hr hv
    unfold WorR
    rw [HT.out.1, HT.out.2]
    go_enter Try.func45, Try.ntmps45
    go_wp2_with fail
    refine (C.out).mono ?_
    rintro e w1 ⟨rfl, b1⟩
    go_wp2
    go_ret2
    exact ⟨rfl, b1⟩
  · rw [hv] at C
    have HT : Hid (worP cs = payN cs (worF (payN cs) 999) ∧ worT cs = (worF (payN cs) 999 : Nat)) := Lib.hid (by unfold worP worT; rw [hv]; exact ⟨rfl, rfl⟩)
    have CP : Hid (∀ (w1 : World) (_ : Below w.heap.size w w1) (t : Nat), Calls Try.prog 74 #[.slice A n c, .int .i64 (t : Int)] w1 fun e w' => e = .returned (.int .i64 (payN cs t)) ∧ ∃ q, w' = w1.drewN q) := Lib.hid fun w1 b1 t => sPayR_any n cs hl A c hv (t : Int) w1 _ (hr.below b1)
    have HB := Lib.hid (payN_bd hv)
    have HW : Hid (∀ k, worF (payN cs) (k + 1) = if payN cs (k + 1) < payN cs (worF (payN cs) k) then k + 1 else worF (payN cs) k) := Lib.hid fun k => rfl
    unfold WorR
    rw [HT.out.1, HT.out.2]
    clear hr hv hl hn
    go_enter Try.func45, Try.ntmps45
    go_wp2_with fail
    refine (C.out).mono ?_
    rintro e w1 ⟨rfl, b1⟩
    go_wp2
    go_loopw [4, 5] (fun b t wr => ∃ k : Nat, 1 ≤ k ∧ k ≤ 1000 ∧ t = .int .i64 k ∧ b = .int .i64 (worF (payN cs) (k - 1) : Nat) ∧ Below w.heap.size w wr) (fun _ t _ => 1000 - (intOf t).toNat)
    case atStart => exact ⟨1, by omega, by omega, rfl, rfl, b1⟩
    case round =>
      obtain ⟨k, hk1, hk, rfl, rfl, hbel⟩ := hrel
      by_cases hlt : k ≤ 999
      · obtain ⟨j, rfl⟩ : ∃ j, k = j + 1 := ⟨k - 1, by omega⟩
        have hw := HW.out j
        rw [Nat.add_sub_cancel]
        obtain ⟨m, hm⟩ : ∃ m, m = worF (payN cs) j := ⟨_, rfl⟩
        rw [← hm] at hw ⊢
        have HM := Lib.hid hm
        obtain ⟨K, hK⟩ : ∃ K : Nat, K = j + 1 := ⟨_, rfl⟩
        rw [← hK] at hw hlt hk ⊢
        have CQ := Lib.hid (CP.out wr hbel K)
        have CM := Lib.hid fun q => CP.out (wr.drewN q) (below_drewN hbel q) m
        obtain ⟨P, hP⟩ : ∃ P, P = payN cs m := ⟨_, rfl⟩
        obtain ⟨Q, hQ⟩ : ∃ Q, Q = payN cs K := ⟨_, rfl⟩
        rw [← hP] at hw CM
        rw [← hQ] at hw CQ
        have HJ := Lib.hid hK
        have HBE := Lib.hid hbel
        clear hm hK hP hQ hbel
        go_wp2_with fail
        refine (CQ.out).mono ?_
        rintro e w3 ⟨rfl, q3, rfl⟩
        have CM2 := Lib.hid (CM.out q3)
        go_wp2_with fail
        refine (CM2.out).mono ?_
        rintro e w4 ⟨rfl, q4, rfl⟩
        have hb3 := Lib.hid (below_drewN HBE.out (q3 + q4))
        by_cases hq : Q < P
        · rw [if_pos hq] at hw
          have HR := Lib.hid hw
          clear hw
          go_wp2
          go_roundw
          case rel => exact ⟨K + 1, by omega, by omega, by go_num, by rw [Nat.add_sub_cancel, HR.out], hb3.out⟩
          case measure => first | (simp [intOf]; omega) | simp [intOf]
        · rw [if_neg hq] at hw
          have hq2 : P ≤ Q := by omega
          have HR := Lib.hid hw
          clear hw
          go_wp2
          go_roundw
          case rel => exact ⟨K + 1, by omega, by omega, by go_num, by rw [Nat.add_sub_cancel, HR.out], hb3.out⟩
          case measure => first | (simp [intOf]; omega) | simp [intOf]
      · obtain rfl : k = 1000 := by omega
        have CM := Lib.hid (CP.out wr hbel (worF (payN cs) 999))
        have HBE := Lib.hid hbel
        clear hbel
        go_wp2_with fail
        refine (CM.out).mono ?_
        rintro e w3 ⟨rfl, q3, rfl⟩
        go_wp2
        go_ret2
        exact ⟨rfl, below_drewN HBE.out q3⟩

end Go.Proofs.Ytiihenhddleooaa

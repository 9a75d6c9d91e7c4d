/- The laws on simple contracts and settled debts: words in common. -/
import Derived.Test.YtiihenhddleooaaTLawE
import Derived.Test.YtiihenhddleooaaTWor
namespace Go.Proofs.Ytiihenhddleooaa
open Go.RowKit
set_option linter.unusedVariables false
set_option linter.unusedSimpArgs false
theorem rd_newT {w : World} {b : Nat} {xs : List Value} {T : TypeId} {fr : Nat × Nat} (h : w.heap[b]? = some (.cells xs.toArray T fr)) : Rd w w.heap.size (some ⟨b, 0, none⟩) xs := fun _ => by
  refine ⟨b, 0, rfl, ?_, fun k x hk => ?_⟩
  · rcases Nat.lt_or_ge b w.heap.size with hlt | hge
    · exact hlt
    · rw [Array.getElem?_eq_none hge] at h; cases h
  · rw [Nat.zero_add, cell_of_row w b k _ _ _ h]
    simpa using hk
def ringL : List Cu := [(0, 1, 7), (1, 2, 7), (2, 0, 7)]
theorem ring_set : setT ringL = [] := by decide +kernel
theorem worP_sim {cs : List Cu} (h : okV clV cs = true) (hp : payB (payN cs) 1000 = true) (hl : (simT cs).length ≤ 20) : worP (simT cs) = worP cs ∧ worT (simT cs) = worT cs := by
  have h2 := simT_ok h hp hl
  unfold worP worT
  rw [h, h2, worF_simT h hp]
  refine ⟨?_, rfl⟩
  exact simT_pay h hp _ (by have := worF_le (payN cs) 999; omega)
set_option maxRecDepth 100000 in
set_option maxHeartbeats 1000000 in
theorem payable_any (n : Nat) (cs : List Cu) (hl : cs.length = n) (A : Option Addr) (c : Nat) (hv : okV clV cs = true) (w : World) (hr : Rd w w.heap.size A (custV cs)) :
    Calls Try.prog 50 #[.slice A n c] w fun e w' => e = .returned (.bool (payB (payN cs) 1000)) ∧ Below w.heap.size w w' := by
  have hn : n ≤ maxLen := by unfold maxLen; have := (okV_t hv).1; omega
  have CP : Hid (∀ (w1 : World) (_ : Below w.heap.size w w1) (t : Nat), t ≤ 999 → Calls Try.prog 41 #[.slice A n c, .int .i64 (t : Int)] w1 fun e w' => e = .returned (.int .i64 (payN cs t)) ∧ Below w1.heap.size w1 w') := Lib.hid fun w1 b1 t ht => by
    have := iPay_any n cs hl A c hn w1 ((hr.below b1).more b1.size) (t : Int)
    rw [payT_ok hv (t := (t : Int)) (by omega)] at this
    exact this
  have HBAD : Hid (∀ t, t ≤ 999 → inB (payN cs t) (-10000) 10000 = false → payB (payN cs) 1000 = false) := Lib.hid fun t ht h => payB_bad (show t < 1000 by omega) h
  clear hr hv hl hn
  generalize payN cs = f at *
  go_enter Try.func50, Try.ntmps50
  go_wp2
  go_loopw [3, 4] (fun t _ wr => ∃ k : Nat, k ≤ 1000 ∧ t = .int .i64 k ∧ payB f k = true ∧ Below w.heap.size w wr) (fun t _ _ => 1000 - (intOf t).toNat)
  case atStart => exact ⟨0, by omega, rfl, rfl, Below.refl _ _⟩
  case round =>
    obtain ⟨k, hk, rfl, hpb, hbel⟩ := hrel
    have HPB := Lib.hid hpb
    clear hpb
    by_cases hlt : k ≤ 999
    · have CQ := Lib.hid (CP.out wr hbel k hlt)
      have HNX : Hid (payB f (k + 1) = inB (f k) (-10000) 10000) := Lib.hid (by rw [payB_succ, HPB.out]; rfl)
      have HB2 := Lib.hid (HBAD.out k hlt)
      generalize f k = p at *
      go_wp2_with fail
      refine (CQ.out).mono ?_
      rintro e w2 ⟨rfl, b2⟩
      have HBE := Lib.hid (hbel.trans (b2.mono hbel.size))
      clear hbel b2
      have hways : 10000 < p ∨ (¬ 10000 < p ∧ p < -10000) ∨ (¬ 10000 < p ∧ ¬ p < -10000) := by omega
      rcases hways with h | ⟨h1, h2⟩ | ⟨h1, h2⟩
      · have HT := Lib.hid (HB2.out (inB_nk (n := p) (by omega)))
        go_wp2
        go_ret
        exact ⟨ret_bool HT.out.symm, HBE.out⟩
      · have HT := Lib.hid (HB2.out (inB_nk (n := p) (by omega)))
        go_wp2
        go_ret
        exact ⟨ret_bool HT.out.symm, HBE.out⟩
      · have HT := Lib.hid (HNX.out.trans (inB_mk (n := p) (by omega)))
        go_wp2
        go_roundw
        case rel => exact ⟨k + 1, by omega, by go_num, HT.out, HBE.out⟩
        case measure => first | (simp [intOf]; omega) | simp [intOf]
    · obtain rfl : k = 1000 := by omega
      have HBE := Lib.hid hbel
      clear hbel
      go_wp2
      go_ret
      exact ⟨ret_bool HPB.out.symm, HBE.out⟩

end Go.Proofs.Ytiihenhddleooaa

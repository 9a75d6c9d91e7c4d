/- The laws' helpers total and greatest. -/
import Derived.Test.YtiihenhddleooacGTp
import Derived.Test.YtiihenhddleooacHelps
namespace Go.Proofs.Ytiihenhddleooac
open Go.RowKit
set_option linter.unusedVariables false
set_option linter.unusedSimpArgs false
theorem sum_nn : ∀ {l : List Int}, (∀ z ∈ l, 0 ≤ z) → 0 ≤ l.sum
  | [], _ => by simp
  | z :: l, h => by
    have := sum_nn (l := l) fun y hy => h y (List.mem_cons_of_mem _ hy)
    have := h z (List.mem_cons_self ..)
    rw [List.sum_cons]; omega
theorem sum_take {l : List Int} (h : ∀ z ∈ l, 0 ≤ z) (k : Nat) : 0 ≤ (l.take k).sum ∧ (l.take k).sum ≤ l.sum := by
  have e : l.sum = (l.take k).sum + (l.drop k).sum := by rw [← List.sum_append, List.take_append_drop]
  have h1 := sum_nn (l := l.take k) fun z hz => h z (List.mem_of_mem_take hz)
  have h2 := sum_nn (l := l.drop k) fun z hz => h z (List.mem_of_mem_drop hz)
  omega
theorem total_nn (n : Nat) (hn : n ≤ 1048576) (l : List Int) (hl : l.length = n) (h0 : ∀ z ∈ l, 0 ≤ z) (hs : l.sum ≤ 1000) (A : Option Addr) (c : Nat) (w : World) (B : Nat) (hr : Rd w B A (ints l)) :
    Calls Try.prog 17 #[.slice A n c] w fun e w' => e = .returned (.int .i64 l.sum) ∧ w = w' := by
  have HL := Lib.hid hl
  have HS := Lib.hid (fun k => sum_take h0 k)
  have H0 := Lib.hid h0
  clear hl h0
  go_enter Try.func17, Try.ntmps17
  go_wp2
  go_loop [3, 4] (fun a i => ∃ k : Nat, k ≤ n ∧ a = .int .i64 (l.take k).sum ∧ i = .int .i64 k) (fun _ i => n - (intOf i).toNat)
  case atStart => exact ⟨0, Nat.zero_le _, rfl, rfl⟩
  case round =>
    obtain ⟨k, hk, rfl, rfl⟩ := hrel
    have hb := HS.out k
    by_cases hlt : k < n
    · obtain ⟨b, off, y, rfl, _, hy, hc⟩ := hr.int_ (k := k) (by rw [HL.out]; exact hlt)
      have hb2 := HS.out (k + 1)
      have hy0 := H0.out y (List.mem_of_getElem? hy.out)
      have hnx : (l.take (k + 1)).sum = (l.take k).sum + y := by rw [take_snoc hy.out, List.sum_append]; simp
      rw [hnx] at hb2
      have HNX := Lib.hid hnx
      clear hnx hy
      generalize (l.take k).sum = s at *
      generalize l.sum = S at *
      obtain ⟨q1, q2⟩ := hb
      obtain ⟨q3, q4⟩ := hb2
      go_wp2
      go_round
      case rel => exact ⟨k + 1, by omega, by rw [HNX.out] <;> go_num, by go_num⟩
      case measure => simp [intOf]; omega
    · obtain rfl : k = n := by omega
      have HE : Hid ((l.take k).sum = l.sum) := Lib.hid (by rw [List.take_of_length_le (by rw [HL.out]; exact Nat.le_refl _)])
      generalize (l.take k).sum = s at *
      go_wp2
      go_ret
      exact ⟨by rw [HE.out]; rfl, rfl⟩
theorem max_is2 {R S : Int} : max R S = if R < S then S else R := by
  rcases Int.lt_or_le R S with h | h
  · rw [if_pos h, Int.max_eq_right (by omega)]
  · rw [if_neg (by omega), Int.max_eq_left h]
theorem greatest_any (n : Nat) (hn : n ≤ 1048576) (l : List Int) (hl : l.length = n) (A : Option Addr) (c : Nat) (w : World) (B : Nat) (hr : Rd w B A (ints l)) :
    Calls Try.prog 18 #[.slice A n c] w fun e w' => e = .returned (.int .i64 (grF l)) ∧ w = w' := by
  have HL := Lib.hid hl
  clear hl
  go_enter Try.func18, Try.ntmps18
  go_wp2
  go_loop [3, 4] (fun a i => ∃ k : Nat, k ≤ n ∧ a = .int .i64 (grF (l.take k)) ∧ i = .int .i64 k) (fun _ i => n - (intOf i).toNat)
  case atStart => exact ⟨0, Nat.zero_le _, rfl, rfl⟩
  case round =>
    obtain ⟨k, hk, rfl, rfl⟩ := hrel
    by_cases hlt : k < n
    · obtain ⟨b, off, y, rfl, _, hy, hc⟩ := hr.int_ (k := k) (by rw [HL.out]; exact hlt)
      have hnx : grF (l.take (k + 1)) = max (grF (l.take k)) y := by rw [take_snoc hy.out, grF_snoc, max_is2]
      have HNX := Lib.hid hnx
      clear hnx hy
      generalize grF (l.take k) = s at *
      go_wp2
      go_round
      case rel => exact ⟨k + 1, by omega, by rw [HNX.out]; first | rfl | go_num, by go_num⟩
      case measure => simp [intOf]; omega
    · obtain rfl : k = n := by omega
      have HE : Hid (grF (l.take k) = grF l) := Lib.hid (by rw [List.take_of_length_le (by rw [HL.out]; exact Nat.le_refl _)])
      generalize grF (l.take k) = s at *
      go_wp2
      go_ret
      exact ⟨by rw [HE.out]; rfl, rfl⟩

end Go.Proofs.Ytiihenhddleooac

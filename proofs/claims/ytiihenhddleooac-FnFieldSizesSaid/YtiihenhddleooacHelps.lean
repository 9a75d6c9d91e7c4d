/- Contracts of the laws' helpers over lists of integers: total, equalInts, steady, backwards. -/
import Derived.Test.YtiihenhddleooacReader
namespace Go.Proofs.Ytiihenhddleooac
open Go.RowKit
set_option linter.unusedVariables false
set_option linter.unusedSimpArgs false

theorem sum_snoc (l : List Int) (z : Int) : (l ++ [z]).sum = l.sum + z := by simp
theorem sum_bound (l : List Int) (h : ∀ z ∈ l, -1000 ≤ z ∧ z ≤ 1000) : -1000 * (l.length : Int) ≤ l.sum ∧ l.sum ≤ 1000 * (l.length : Int) := by
  induction l with
  | nil => simp
  | cons z l ih =>
    have h1 := h z (by simp)
    have h2 := ih (fun x hx => h x (by simp [hx]))
    simp only [List.sum_cons, List.length_cons]
    omega

set_option maxRecDepth 100000 in
set_option maxHeartbeats 400000 in
theorem total_any (n : Nat) (zs : List Int) (hl : zs.length = n) (A : Option Addr) (c : Nat) (w : World) (B : Nat) (hr : Rd w B A (ints zs)) (hz : ∀ z ∈ zs, -1000 ≤ z ∧ z ≤ 1000) (hn : n ≤ 1000) :
    Calls Try.prog 17 #[.slice A n c] w fun e w' => e = .returned (.int .i64 zs.sum) ∧ w = w' := by
  subst hl
  go_enter Try.func17, Try.ntmps17
  go_wp2
  go_loop [3, 4] (fun v i => ∃ k : Nat, k ≤ zs.length ∧ i = .int .i64 k ∧ v = .int .i64 (zs.take k).sum) (fun _ i => zs.length - (intOf i).toNat)
  case atStart => exact ⟨0, Nat.zero_le _, rfl, rfl⟩
  case round =>
    obtain ⟨k, hk, rfl, rfl⟩ := hrel
    by_cases hlt : k < zs.length
    · obtain ⟨b, off, z, rfl, hb, hx, hc⟩ := hr.int_ hlt
      have hzb := hz z (List.mem_of_getElem? hx.out)
      have hsb := sum_bound (zs.take k) (fun z hh => hz z (List.mem_of_mem_take hh))
      have hlen : ((zs.take k).length : Int) ≤ 1000 := by rw [List.length_take]; omega
      have hsb1 : -1000000 ≤ (zs.take k).sum := by omega
      have hsb2 : (zs.take k).sum ≤ 1000000 := by omega
      clear hsb hlen
      have Hs : Hid ((zs.take (k + 1)).sum = (zs.take k).sum + z) := Lib.hid (by rw [take_snoc hx.out, sum_snoc])
      go_wp2
      go_round
      case rel => exact ⟨k + 1, by omega, by go_num, by rw [Hs.out]⟩
      case measure => simp [intOf]; omega
    · have Hk : Hid (zs.take k = zs) := Lib.hid (List.take_of_length_le (by omega))
      go_wp2
      go_ret
      exact ⟨ret_int (by rw [Hk.out]), rfl⟩

set_option maxRecDepth 100000 in
set_option maxHeartbeats 400000 in
theorem equalInts_same (zs : List Int) (A A' : Option Addr) (c c' : Nat) (w : World) (B : Nat) (hr : Rd w B A (ints zs)) (hr' : Rd w B A' (ints zs)) (hn : zs.length ≤ 1048576) :
    Calls Try.prog 12 #[.slice A zs.length c, .slice A' zs.length c'] w fun e w' => e = .returned (.bool true) ∧ ∃ n, w' = w.drewN n := by
  go_enter Try.func12, Try.ntmps12
  go_wp2
  go_loopw [5] (fun i wr => ∃ k : Nat, k ≤ zs.length ∧ i = .int .i64 k ∧ ∃ n, wr = w.drewN n) (fun i _ => zs.length - (intOf i).toNat)
  case atStart => exact ⟨0, Nat.zero_le _, rfl, 0, rfl⟩
  case round =>
    obtain ⟨k, hk, rfl, n, rfl⟩ := hrel
    by_cases hlt : k < zs.length
    · obtain ⟨b, off, z, rfl, hb, hz, hc⟩ := hr.int_ hlt
      obtain ⟨b', off', z', rfl, hb', hz', hc'⟩ := hr'.int_ hlt
      obtain rfl : z = z' := by have h1 := hz.out; have h2 := hz'.out; rw [h1] at h2; injection h2
      go_wp2
      go_quiet (fail)
      go_wp2
      go_roundw
      case rel => exact ⟨k + 1, by omega, by go_num, _, rfl⟩
      case measure => simp [intOf]; omega
    · go_wp2
      go_ret
      exact ⟨rfl, _, rfl⟩

end Go.Proofs.Ytiihenhddleooac

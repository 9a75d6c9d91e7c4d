/- Chapter 8: numbers in decimal, of the program. -/
import Derived.Test.YtggdnpaiaijhgaaBEv
namespace Go.Proofs.Ytggdnpaiaijhgaa
open Go.RowKit
set_option linter.unusedVariables false
set_option linter.unusedSimpArgs false
theorem rune_at : ∀ n : Fin 10, Utf8.encode (48 + (n.1 : Int)) = ⟨[UInt8.ofNat (48 + n.1)].toArray⟩ := by decide +kernel
set_option maxRecDepth 100000 in
set_option maxHeartbeats 1000000 in
theorem digits_small {n : Nat} (h : n < 10) (w : World) : Calls Try.prog 135 #[.int .i64 (n : Nat)] w fun e w' => e = .returned (str (numL n)) ∧ w = w' := by
  rw [numL_small h]
  go_enter Try.func135, Try.ntmps135
  go_wp2
  go_ret
  refine ⟨?_, rfl⟩
  rw [show (str [UInt8.ofNat (48 + n)] : Value) = .string (Utf8.encode (48 + (n : Int))) from congrArg Value.string (rune_at ⟨n, h⟩).symm]
  rfl
set_option maxRecDepth 100000 in
set_option maxHeartbeats 1000000 in
theorem digits_any : ∀ (f n : Nat), n ≤ f → n ≤ 1000000000000 → ∀ w : World,
    Calls Try.prog 135 #[.int .i64 (n : Nat)] w fun e w' => e = .returned (str (numL n)) ∧ w = w'
  | 0, n, hf, hn, w => digits_small (by omega) w
  | f + 1, n, hf, hn, w => by
    by_cases h : n < 10
    · exact digits_small h w
    · have c1 := digits_any f (n / 10) (by omega) (by omega) w
      have c2 := digits_any f (n % 10) (by omega) (by omega) w
      have hadd := add_run (P := Try.prog) w (numL (n / 10)) (numL (n % 10)) (by have := numL_len (n / 10); have := numL_len (n % 10); omega)
      rw [← numL_big h] at hadd
      have t1 : Int.tdiv (n : Int) 10 = ((n / 10 : Nat) : Int) := (Int.ofNat_tdiv n 10).symm
      have t2 : Int.tmod (n : Int) 10 = ((n % 10 : Nat) : Int) := (Int.ofNat_tmod n 10).symm
      unfold str at c1 c2 ⊢
      generalize numL (n / 10) = x at *
      generalize numL (n % 10) = y at *
      generalize numL n = z at *
      have b1 : n / 10 < n := by omega
      have b2 : n % 10 < 10 := by omega
      generalize n / 10 = n1 at *
      generalize n % 10 = n2 at *
      go_enter Try.func135, Try.ntmps135
      go_wp2_with fail
      refine (c1).mono ?_
      rintro e w' ⟨rfl, rfl⟩
      go_wp2_with fail
      refine (c2).mono ?_
      rintro e w' ⟨rfl, rfl⟩
      go_wp2
      go_ret
      exact ⟨rfl, rfl⟩
set_option maxRecDepth 100000 in
set_option maxHeartbeats 1000000 in
theorem decimal_any (z : Int) (h1 : -1000000000000 ≤ z) (h2 : z ≤ 1000000000000) (w : World) :
    Calls Try.prog 112 #[.int .i64 z] w fun e w' => e = .returned (str (sgnL z)) ∧ w = w' := by
  by_cases h : z < 0
  · obtain ⟨n, hn⟩ := Int.eq_ofNat_of_zero_le (show 0 ≤ -z by omega)
    have c1 := digits_any n n (Nat.le_refl _) (by omega) w
    have hadd := add_run (P := Try.prog) w [45] (numL n) (by have := numL_len n; simp; omega)
    rw [← sgnL_neg h hn] at hadd
    unfold str at c1 ⊢
    generalize sgnL z = s at *
    generalize numL n = x at *
    go_enter Try.func112, Try.ntmps112
    go_wp2_with fail
    refine (c1).mono ?_
    rintro e w' ⟨rfl, rfl⟩
    go_wp2
    go_ret
    exact ⟨rfl, rfl⟩
  · obtain ⟨n, rfl⟩ := Int.eq_ofNat_of_zero_le (show 0 ≤ z by omega)
    have c1 := digits_any n n (Nat.le_refl _) (by omega) w
    rw [sgnL_pos]
    unfold str at c1 ⊢
    generalize numL n = x at *
    go_enter Try.func112, Try.ntmps112
    go_wp2_with fail
    refine (c1).mono ?_
    rintro e w' ⟨rfl, rfl⟩
    go_wp2
    go_ret
    exact ⟨rfl, rfl⟩

end Go.Proofs.Ytggdnpaiaijhgaa

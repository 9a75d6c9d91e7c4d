/- Chapter 8: numbers in decimal. -/
import Derived.Laws.Concat
import Derived.Laws.Strings2
import Derived.Test.YtggdnpaiaijhgaaWords
namespace Go.Proofs.Ytggdnpaiaijhgaa
open Go.RowKit
set_option linter.unusedVariables false
set_option linter.unusedSimpArgs false
/-- a text of bytes -/
def str (l : List UInt8) : Value := .string ⟨l.toArray⟩
def numL (n : Nat) : List UInt8 := if n < 10 then [UInt8.ofNat (48 + n)] else numL (n / 10) ++ [UInt8.ofNat (48 + n % 10)]
termination_by n
decreasing_by omega
theorem numL_small {n : Nat} (h : n < 10) : numL n = [UInt8.ofNat (48 + n)] := by rw [numL, if_pos h]
theorem numL_big {n : Nat} (h : ¬ n < 10) : numL n = numL (n / 10) ++ numL (n % 10) := by
  rw [numL, if_neg h, numL_small (n := n % 10) (by omega)]
theorem numL_len (n : Nat) : 1 ≤ (numL n).length ∧ (numL n).length ≤ n + 1 := by
  induction n using Nat.strongRecOn with
  | _ n ih =>
    by_cases h : n < 10
    · rw [numL_small h]; simp
    · rw [numL_big h, List.length_append, numL_small (n := n % 10) (by omega)]
      have := ih (n / 10) (by omega)
      simp
      omega
theorem digit_at : ∀ n : Fin 10, (ByteArray.mk #[48, 49, 50, 51, 52, 53, 54, 55, 56, 57]).extract n.1 (n.1 + 1) = ⟨[UInt8.ofNat (48 + n.1)].toArray⟩ := by decide +kernel
theorem add_run {P : Program} (w : World) (x y : List UInt8) (h : x.length + y.length ≤ 9223372036854775807) : (Op.stringOp .add ⟨x.toArray⟩ ⟨y.toArray⟩).run P w = .ok (.string ⟨(x ++ y).toArray⟩) w := by
  rw [run_string_add_sum w _ _ (by simpa [ByteArray.size] using h), ByteArray.mk_append_mk]
theorem number_small {n : Nat} (h : n < 10) (w : World) : Calls Try.prog 110 #[.int .i64 (n : Nat)] w fun e w' => e = .returned (str (numL n)) ∧ w = w' := by
  have hd := digit_at ⟨n, h⟩
  have e : (⟨n, h⟩ : Fin 10).1 = n := rfl
  rw [e, ← numL_small h] at hd
  unfold str
  generalize numL n = z at *
  have HD := Lib.hid hd
  clear hd
  go_enter Try.func110, Try.ntmps110
  go_wp2
  go_ret
  exact ⟨congrArg (fun s => Ending.returned (.string s)) HD.out, rfl⟩
set_option maxRecDepth 100000 in
set_option maxHeartbeats 1000000 in
theorem number_any : ∀ (f n : Nat), n ≤ f → n ≤ 1000000000000 → ∀ w : World,
    Calls Try.prog 110 #[.int .i64 (n : Nat)] w fun e w' => e = .returned (str (numL n)) ∧ w = w'
  | 0, n, hf, hn, w => number_small (by omega) w
  | f + 1, n, hf, hn, w => by
    by_cases h : n < 10
    · exact number_small h w
    · have c1 := number_any f (n / 10) (by omega) (by omega) w
      have c2 := number_any f (n % 10) (by omega) (by omega) w
      have hadd := add_run (P := Try.prog) w (numL (n / 10)) (numL (n % 10)) (by have := numL_len (n / 10); have := numL_len (n % 10); omega)
      rw [← numL_big h] at hadd
      have t1 : Int.tdiv (n : Int) 10 = ((n / 10 : Nat) : Int) := (Int.ofNat_tdiv n 10).symm
      have t2 : Int.tmod (n : Int) 10 = ((n % 10 : Nat) : Int) := (Int.ofNat_tmod n 10).symm
      unfold str at c1 c2 ⊢
      generalize numL (n / 10) = x at *
      generalize numL (n % 10) = y at *
      generalize numL n = z at *
      have b1 : n / 10 < n := by omega
      have b2 : n % 10 < 10 := by omega
      generalize n / 10 = n1 at *
      generalize n % 10 = n2 at *
      go_enter Try.func110, Try.ntmps110
      go_wp2_with fail
      refine (c1).mono ?_
      rintro e w' ⟨rfl, rfl⟩
      go_wp2_with fail
      refine (c2).mono ?_
      rintro e w' ⟨rfl, rfl⟩
      go_wp2
      go_ret
      exact ⟨rfl, rfl⟩
/-- a number with its sign -/
def sgnL (z : Int) : List UInt8 := if z < 0 then [45] ++ numL (-z).toNat else numL z.toNat
theorem sgnL_neg {z : Int} {n : Nat} (h : z < 0) (e : -z = n) : sgnL z = [45] ++ numL n := by
  unfold sgnL
  rw [if_pos h, e]; rfl
theorem sgnL_pos (n : Nat) : sgnL (n : Int) = numL n := by
  unfold sgnL
  rw [if_neg (by omega)]; rfl
set_option maxRecDepth 100000 in
set_option maxHeartbeats 1000000 in
theorem signed_any (z : Int) (h1 : -1000000000000 ≤ z) (h2 : z ≤ 1000000000000) (w : World) :
    Calls Try.prog 109 #[.int .i64 z] w fun e w' => e = .returned (str (sgnL z)) ∧ w = w' := by
  by_cases h : z < 0
  · obtain ⟨n, hn⟩ := Int.eq_ofNat_of_zero_le (show 0 ≤ -z by omega)
    have c1 := number_any n n (Nat.le_refl _) (by omega) w
    have hadd := add_run (P := Try.prog) w [45] (numL n) (by have := numL_len n; simp; omega)
    rw [← sgnL_neg h hn] at hadd
    unfold str at c1 ⊢
    generalize sgnL z = s at *
    generalize numL n = x at *
    go_enter Try.func109, Try.ntmps109
    go_wp2_with fail
    refine (c1).mono ?_
    rintro e w' ⟨rfl, rfl⟩
    go_wp2
    go_ret
    exact ⟨rfl, rfl⟩
  · obtain ⟨n, rfl⟩ := Int.eq_ofNat_of_zero_le (show 0 ≤ z by omega)
    have c1 := number_any n n (Nat.le_refl _) (by omega) w
    rw [sgnL_pos]
    unfold str at c1 ⊢
    generalize numL n = x at *
    go_enter Try.func109, Try.ntmps109
    go_wp2_with fail
    refine (c1).mono ?_
    rintro e w' ⟨rfl, rfl⟩
    go_wp2
    go_ret
    exact ⟨rfl, rfl⟩

end Go.Proofs.Ytggdnpaiaijhgaa

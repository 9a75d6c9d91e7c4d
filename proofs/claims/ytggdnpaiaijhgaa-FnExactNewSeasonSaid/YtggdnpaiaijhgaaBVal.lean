/- Chapter 8: what a text of digits is worth (pure). -/
import Derived.Test.YtggdnpaiaijhgaaBSpl
namespace Go.Proofs.Ytggdnpaiaijhgaa
open Go.RowKit
set_option linter.unusedVariables false
set_option linter.unusedSimpArgs false
def digB (b : UInt8) : Bool := decide (48 ≤ b.toNat ∧ b.toNat ≤ 57)
def valF (n : Nat) (l : List UInt8) : Nat := l.foldl (fun n b => 10 * n + (b.toNat - 48)) n
def valL (l : List UInt8) : Nat := valF 0 l
theorem valF_ge : ∀ (l : List UInt8) (n : Nat), n ≤ valF n l
  | [], n => Nat.le_refl _
  | b :: l, n => by
    have := valF_ge l (10 * n + (b.toNat - 48))
    have e : valF n (b :: l) = valF (10 * n + (b.toNat - 48)) l := rfl
    rw [e]; omega
theorem valF_app (n : Nat) (a b : List UInt8) : valF n (a ++ b) = valF (valF n a) b := List.foldl_append ..
theorem valL_snoc (l : List UInt8) (b : UInt8) : valL (l ++ [b]) = 10 * valL l + (b.toNat - 48) := by
  unfold valL
  rw [valF_app]; rfl
theorem valL_pre (a : List UInt8) (b : UInt8) (c : List UInt8) : 10 * valL a ≤ valL (a ++ b :: c) := by
  unfold valL
  rw [valF_app]
  have e : valF (valF 0 a) (b :: c) = valF (10 * valF 0 a + (b.toNat - 48)) c := rfl
  rw [e]
  have := valF_ge c (10 * valF 0 a + (b.toNat - 48))
  omega
theorem dig_nat {n : Nat} (h : n < 10) : (UInt8.ofNat (48 + n)).toNat = 48 + n := by
  rw [UInt8.toNat_ofNat']
  omega
theorem numL_dig (n : Nat) : ∀ b ∈ numL n, digB b = true := by
  induction n using Nat.strongRecOn with
  | _ n ih =>
    intro b hb
    by_cases h : n < 10
    · rw [numL_small h, List.mem_singleton] at hb
      rw [hb]
      unfold digB
      rw [decide_eq_true_eq, dig_nat h]
      omega
    · rw [numL_big h, List.mem_append] at hb
      rcases hb with hb | hb
      · exact ih _ (by omega) b hb
      · exact ih _ (by omega) b hb
theorem numL_val (n : Nat) : valL (numL n) = n := by
  induction n using Nat.strongRecOn with
  | _ n ih =>
    by_cases h : n < 10
    · rw [numL_small h]
      have e : valL [UInt8.ofNat (48 + n)] = 10 * 0 + ((UInt8.ofNat (48 + n)).toNat - 48) := rfl
      rw [e, dig_nat h]; omega
    · rw [numL_big h, numL_small (n := n % 10) (by omega), valL_snoc, ih _ (by omega), dig_nat (by omega)]
      omega
theorem numL_inj {m n : Nat} (h : numL m = numL n) : m = n := by rw [← numL_val m, h, numL_val]
theorem numL_ne (n : Nat) : numL n ≠ [] := fun h => by
  have := (numL_len n).1
  rw [h] at this
  simp at this
theorem numL_head (n : Nat) : (numL n).head? ≠ some 45 := fun h => by
  have := numL_dig n 45 (List.mem_of_mem_head? h)
  revert this
  decide
/-- the digits behind the sign -/
def offL (l : List UInt8) : Nat := if l.head? = some 45 then 1 else 0
def szV (l : List UInt8) (n : Nat) : Int := if l.head? = some 45 then - (n : Int) else n
theorem sgnL_off (z : Int) : offL (sgnL z) ≤ 1 ∧ (sgnL z).drop (offL (sgnL z)) = numL z.natAbs ∧ (sgnL z).head? = (if z < 0 then some 45 else (sgnL z).head?) ∧ (0 ≤ z → offL (sgnL z) = 0) := by
  by_cases h : z < 0
  · obtain ⟨n, hn⟩ := Int.eq_ofNat_of_zero_le (show 0 ≤ -z by omega)
    have e := sgnL_neg h hn
    have e2 : z.natAbs = n := by omega
    rw [e, e2]
    have eo : offL ([45] ++ numL n) = 1 := by unfold offL; exact if_pos (by rfl)
    rw [eo, if_pos h]
    exact ⟨Nat.le_refl _, rfl, rfl, fun h2 => by omega⟩
  · obtain ⟨n, rfl⟩ := Int.eq_ofNat_of_zero_le (show 0 ≤ z by omega)
    rw [sgnL_pos]
    have eo : offL (numL n) = 0 := by unfold offL; rw [if_neg (numL_head n)]
    rw [eo, if_neg h]
    exact ⟨by omega, by simp, rfl, fun _ => rfl⟩
/-- a text that is a number is worth it -/
theorem sgnL_val (z : Int) : szV (sgnL z) (valL ((sgnL z).drop (offL (sgnL z)))) = z := by
  rw [(sgnL_off z).2.1, numL_val]
  unfold szV
  by_cases h : z < 0
  · have := (sgnL_off z).2.2.1
    rw [if_pos h] at this
    rw [if_pos this]; omega
  · obtain ⟨n, rfl⟩ := Int.eq_ofNat_of_zero_le (show 0 ≤ z by omega)
    rw [sgnL_pos, if_neg (numL_head n)]; omega
theorem sgnL_len (z : Int) : 1 ≤ (sgnL z).length ∧ (sgnL z).length ≤ z.natAbs + 2 := by
  have h := numL_len z.natAbs
  by_cases hz : z < 0
  · rw [sgnL_neg (n := z.natAbs) hz (by omega), List.length_append]
    simp
    omega
  · have e : sgnL z = numL z.natAbs := by
      have := sgnL_pos z.natAbs
      rwa [show ((z.natAbs : Nat) : Int) = z by omega] at this
    rw [e]
    omega
/-- what readSigned answers -/
def RdR (l : List UInt8) (z : Int) (q : Bool) : Prop := (q = true → l = sgnL z ∧ -999999 ≤ z ∧ z ≤ 999999) ∧ (q = false → ∀ y : Int, -999999 ≤ y → y ≤ 999999 → l ≠ sgnL y)
theorem rdR_end {l : List UInt8} (h : valL (l.drop (offL l)) ≤ 999999) : RdR l (szV l (valL (l.drop (offL l)))) (decide (sgnL (szV l (valL (l.drop (offL l)))) = l)) := by
  constructor
  · intro hq
    have := of_decide_eq_true hq
    refine ⟨this.symm, ?_⟩
    unfold szV
    split <;> omega
  · intro hq y h1 h2 e
    refine of_decide_eq_false hq ?_
    rw [e, sgnL_val y]
theorem rdR_bad {l : List UInt8} {k : Nat} {b : UInt8} (hk : l[k]? = some b) (ho : offL l ≤ k) (h : digB b = false ∨ 99999 < valL ((l.drop (offL l)).take (k - offL l))) : RdR l 0 false := by
  refine ⟨fun h => Bool.noConfusion h, fun _ y h1 h2 e => ?_⟩
  have hd := drop_cut hk ho
  have hv : l.drop (offL l) = numL y.natAbs := by
    have := (sgnL_off y).2.1
    rw [← e] at this
    exact this
  rcases h with h | h
  · have hm : b ∈ numL y.natAbs := by rw [← hv, hd]; simp
    rw [numL_dig _ b hm] at h
    cases h
  · have hp := valL_pre ((l.drop (offL l)).take (k - offL l)) b (l.drop (k + 1))
    rw [hd.symm.trans hv, numL_val] at hp
    omega

end Go.Proofs.Ytggdnpaiaijhgaa

/- Honest bids (pure). -/
import Derived.Test.YtiihenhddleooaaTPick
namespace Go.Proofs.Ytiihenhddleooaa
open Go.RowKit
set_option linter.unusedVariables false
set_option linter.unusedSimpArgs false
/-- how many others are ahead of j -/
def ltO (b : List Int) (i k j : Nat) : Bool := !(k == i) && ltW b k j
theorem bef_ge (b : List Int) (i j : Nat) : ∀ n, n ≤ i → befF (ltO b i) n j = befF (ltW b) n j
  | 0, _ => by simp [befF]
  | n + 1, h => by
    rw [befF_succ, befF_succ, bef_ge b i j n (by omega)]
    have e : ltO b i n j = ltW b n j := by unfold ltO; rw [show (n == i) = false from beq_eq_false_iff_ne.2 (by omega)]; simp
    rw [e]
theorem bef_oth (b : List Int) (i j : Nat) : ∀ n, i < n → befF (ltW b) n j = befF (ltO b i) n j + (if ltW b i j then 1 else 0)
  | 0, h => by omega
  | n + 1, h => by
    rw [befF_succ, befF_succ]
    by_cases e : i = n
    · subst e
      rw [bef_ge b i j i (Nat.le_refl _)]
      have e : ltO b i i j = false := by unfold ltO; simp
      rw [e]; simp
    · rw [bef_oth b i j n (by omega)]
      have e : ltO b i n j = ltW b n j := by unfold ltO; rw [show (n == i) = false from beq_eq_false_iff_ne.2 (by omega)]; simp
      rw [e]; omega
theorem ltW_same {b1 b2 : List Int} {k j : Nat} (hk : at_ b1 k = at_ b2 k) (hj : at_ b1 j = at_ b2 j) : ltW b1 k j = ltW b2 k j := by unfold ltW; rw [hk, hj]
theorem oth_same {b1 b2 : List Int} {i j : Nat} (h : ∀ k, k ≠ i → at_ b1 k = at_ b2 k) (hj : j ≠ i) : ∀ n, befF (ltO b1 i) n j = befF (ltO b2 i) n j
  | 0 => by simp [befF]
  | n + 1 => by
    rw [befF_succ, befF_succ, oth_same h hj n]
    have e : ltO b1 i n j = ltO b2 i n j := by
      unfold ltO
      by_cases g : n = i
      · subst g; simp
      · rw [ltW_same (h n g) (h j hj)]
    rw [e]
theorem ltW_irr (b : List Int) (i : Nat) : ltW b i i = false := by
  cases h : ltW b i i
  · rfl
  · rw [ltW_iff] at h; omega
theorem ltW_tr {b : List Int} {i j k : Nat} (h1 : ltW b i j = true) (h2 : ltW b j k = true) : ltW b i k = true := by
  rw [ltW_iff] at h1 h2 ⊢; omega
theorem ltW_tot {b : List Int} {i j : Nat} (h : i ≠ j) : ltW b i j = true ∨ ltW b j i = true := by
  rw [ltW_iff, ltW_iff]; omega
/-- who is ahead of i and i of j -/
theorem oth_le {b : List Int} {i j : Nat} (h : ltW b i j = true) (n : Nat) : befF (ltO b i) n i ≤ befF (ltO b i) n j :=
  befF_mono n fun k _ hk => by
    unfold ltO at hk ⊢
    rw [Bool.and_eq_true] at hk ⊢
    exact ⟨hk.1, ltW_tr hk.2 h⟩
theorem oth_lt {b : List Int} {i j n : Nat} (h : ltW b j i = true) (hj : j < n) (hne : j ≠ i) : befF (ltO b i) n j < befF (ltO b i) n i :=
  befF_strict (j := j) n (fun k _ hk => by
    unfold ltO at hk ⊢
    rw [Bool.and_eq_true] at hk ⊢
    exact ⟨hk.1, ltW_tr hk.2 h⟩) hj (by unfold ltO; rw [ltW_irr]; simp) (by unfold ltO; rw [show (j == i) = false from beq_eq_false_iff_ne.2 hne, h]; rfl)
theorem rk_self {b : List Int} {i : Nat} (hi : i < b.length) : rkW b i = befF (ltO b i) b.length i := by
  unfold rkW
  rw [bef_oth b i i _ hi, ltW_irr]; simp
theorem rk_oth {b : List Int} {i j : Nat} (hi : i < b.length) : rkW b j = befF (ltO b i) b.length j + (if ltW b i j then 1 else 0) := bef_oth b i j _ hi
/-- the price of a right is not the winner's to move -/
theorem price_same {b1 b2 : List Int} {i n : Nat} (hl : b1.length = b2.length) (hi : i < b1.length) (h : ∀ k, k ≠ i → at_ b1 k = at_ b2 k) (w1 : rkW b1 i < n) (w2 : rkW b2 i < n) : prF b1 n = prF b2 n := by
  by_cases hn : n < b2.length
  · obtain ⟨q, hq, hrq, _⟩ := prF_has hn
    have hqi : q ≠ i := fun e => by rw [e] at hrq; omega
    rw [prF_at hq hrq]
    have a2 : ltW b2 i q = true := by
      rcases ltW_tot (b := b2) (i := i) (j := q) (fun e => hqi e.symm) with g | g
      · exact g
      · have := oth_lt (n := b2.length) g hq hqi
        have e1 := rk_self (b := b2) (i := i) (by omega)
        have e2 := rk_oth (b := b2) (i := i) (j := q) (by omega)
        have e3 : ltW b2 i q = false := by
          cases e : ltW b2 i q
          · rfl
          · have := ltW_tr g e; rw [ltW_irr] at this; cases this
        rw [e3] at e2
        simp at e2
        omega
    have e2 := rk_oth (b := b2) (i := i) (j := q) (by omega)
    rw [a2, if_pos rfl] at e2
    have e3 := oth_same h hqi b1.length
    have a1 : ltW b1 i q = true := by
      rcases ltW_tot (b := b1) (i := i) (j := q) (fun e => hqi e.symm) with g | g
      · exact g
      · have := oth_lt (n := b1.length) g (by omega) hqi
        have e4 := rk_self (b := b1) (i := i) hi
        rw [e3, hl] at this
        rw [hl] at e4
        omega
    have e5 := rk_oth (b := b1) (i := i) (j := q) hi
    rw [a1, if_pos rfl, e3, hl] at e5
    rw [prF_at (i := q) (by omega) (by omega)]
    exact h q hqi
  · rw [prF_none (by omega), prF_none (by omega)]
/-- honest bids are best -/
theorem gain_best {b1 b2 : List Int} {i n : Nat} {wo : Int} (hl : b1.length = b2.length) (hi : i < b1.length) (h : ∀ k, k ≠ i → at_ b1 k = at_ b2 k) (hw : at_ b2 i = wo) (h0 : 0 ≤ wo) : gaF b1 n i wo ≤ gaF b2 n i wo ∧ 0 ≤ gaF b2 n i wo := by
  have hpos : rkW b2 i < n → prF b2 n ≤ wo := fun w2 => by
    by_cases hn : n < b2.length
    · obtain ⟨q, hq, hrq, _⟩ := prF_has hn
      rw [prF_at hq hrq, ← hw]
      exact rkW_le (by omega) hq (by omega)
    · rw [prF_none (by omega)]; exact h0
  by_cases w2 : rkW b2 i < n
  · have := hpos w2
    unfold gaF
    rw [if_pos w2]
    by_cases w1 : rkW b1 i < n
    · rw [if_pos w1, price_same hl hi h w1 w2]; omega
    · rw [if_neg w1]; omega
  · unfold gaF
    rw [if_neg w2]
    by_cases w1 : rkW b1 i < n
    · rw [if_pos w1]
      have hr2 := rkW_lt (bs := b2) (j := i) (by omega)
      obtain ⟨q, hq, hrq, _⟩ := prF_has (bs := b1) (n := n) (by omega)
      have hqi : q ≠ i := fun e => by rw [e] at hrq; omega
      rw [prF_at hq hrq]
      refine ⟨?_, Int.le_refl _⟩
      have hle : ¬ at_ b1 q < wo := fun hlt => by
        have a2 : ltW b2 i q = true := by rw [ltW_iff]; left; rw [← h q hqi, hw]; exact hlt
        have e1 := oth_le a2 b2.length
        have e2 := rk_self (b := b2) (i := i) (by omega)
        have e3 := oth_same h hqi b1.length
        have e4 := rk_oth (b := b1) (i := i) (j := q) hi
        have e5 := rk_self (b := b1) (i := i) hi
        rcases ltW_tot (b := b1) (i := i) (j := q) (fun e => hqi e.symm) with g | g
        · rw [g, if_pos rfl, e3, hl] at e4; omega
        · have := oth_lt (n := b1.length) g hq hqi
          rw [e3, hl] at this
          rw [hl] at e5
          omega
      omega
    · rw [if_neg w1]; omega

end Go.Proofs.Ytiihenhddleooaa

/- Bids (pure): the best of those that are not taken yet is the next of the order. -/
import Derived.Test.YtiihenhddleooaaTMath
namespace Go.Proofs.Ytiihenhddleooaa
open Go.RowKit
set_option linter.unusedVariables false
set_option linter.unusedSimpArgs false
/-- the best, among the first i, of those that stand at k or behind: -1, or the first of all of them -/
def bestAt (bs : List Int) (k i : Nat) (b : Int) : Prop :=
  (b = -1 ∧ ∀ j, j < i → rkW bs j < k) ∨ (∃ m : Nat, b = m ∧ m < i ∧ k ≤ rkW bs m ∧ ∀ j, j < i → k ≤ rkW bs j → j = m ∨ ltW bs m j = true)
theorem bestAt_zero (bs : List Int) (k : Nat) : bestAt bs k 0 (-1) := .inl ⟨rfl, fun j h => by omega⟩
theorem bestAt_skip {bs : List Int} {k i : Nat} {b : Int} (h : bestAt bs k i b) (hi : rkW bs i < k) : bestAt bs k (i + 1) b := by
  rcases h with ⟨h1, h2⟩ | ⟨m, h1, h2, h3, h4⟩
  · refine .inl ⟨h1, fun j hj => ?_⟩
    by_cases e : j = i
    · rw [e]; exact hi
    · exact h2 j (by omega)
  · refine .inr ⟨m, h1, by omega, h3, fun j hj hk => ?_⟩
    by_cases e : j = i
    · rw [e] at hk; omega
    · exact h4 j (by omega) hk
theorem bestAt_first {bs : List Int} {k i : Nat} (h : bestAt bs k i (-1)) (hi : k ≤ rkW bs i) : bestAt bs k (i + 1) i := by
  rcases h with ⟨_, h2⟩ | ⟨m, h1, _⟩
  · refine .inr ⟨i, rfl, by omega, hi, fun j hj hk => ?_⟩
    by_cases e : j = i
    · exact .inl e
    · have := h2 j (by omega); omega
  · omega
theorem bestAt_new {bs : List Int} {k i m : Nat} (h : bestAt bs k i (m : Int)) (hi : k ≤ rkW bs i) (hg : at_ bs m < at_ bs i) : bestAt bs k (i + 1) i := by
  rcases h with ⟨h1, _⟩ | ⟨m', h1, h2, h3, h4⟩
  · omega
  · obtain rfl : m = m' := by omega
    refine .inr ⟨i, rfl, by omega, hi, fun j hj hk => ?_⟩
    by_cases e : j = i
    · exact .inl e
    · right
      rcases h4 j (by omega) hk with rfl | h5
      · rw [ltW_iff]; omega
      · rw [ltW_iff] at h5 ⊢; omega
theorem bestAt_keep {bs : List Int} {k i m : Nat} (h : bestAt bs k i (m : Int)) (hg : ¬ at_ bs m < at_ bs i) : bestAt bs k (i + 1) m := by
  rcases h with ⟨h1, _⟩ | ⟨m', h1, h2, h3, h4⟩
  · omega
  · obtain rfl : m = m' := by omega
    refine .inr ⟨m, rfl, by omega, h3, fun j hj hk => ?_⟩
    by_cases e : j = i
    · right; subst e; rw [ltW_iff]; omega
    · exact h4 j (by omega) hk
theorem rkW_lt {bs : List Int} {j : Nat} (h : j < bs.length) : rkW bs j < bs.length := befG_lt h ((plcW bs bs.length).irr j h)
theorem bestAt_end {bs : List Int} {k : Nat} {b : Int} (h : bestAt bs k bs.length b) (hk : k < bs.length) : ∃ m : Nat, b = m ∧ m < bs.length ∧ (wL bs)[k]? = some m := by
  have O := wL_ok bs
  have hx : (wL bs)[k]? = some ((wL bs)[k]'(by rw [O.len]; exact hk)) := List.getElem?_eq_getElem _
  obtain ⟨x1, x2⟩ := O.of k _ hx
  generalize hxe : (wL bs)[k]'(by rw [O.len]; exact hk) = x at hx x1 x2
  rcases h with ⟨h1, h2⟩ | ⟨m, h1, h2, h3, h4⟩
  · have := h2 x x1; unfold rkW at this; omega
  · refine ⟨m, h1, h2, ?_⟩
    rcases h4 x x1 (by unfold rkW; omega) with e | e
    · rw [← e]; exact hx
    · exfalso
      have hP := plcW bs bs.length
      have := (hP.cmp (n := bs.length) (m := m) (j := x) (Nat.le_refl _) h2 x1 (fun e2 => by rw [e2, hP.irr m h2] at e; cases e)).1 e
      unfold rkW at h3
      have hne : befF (ltW bs) bs.length m ≠ k := fun e3 => by
        have h5 := O.to m h2
        rw [e3, hx] at h5
        injection h5 with h5
        rw [h5, hP.irr m h2] at e; cases e
      omega
/-- who is among the first k of the order: those with less than k ahead -/
theorem mem_take {bs : List Int} {k j : Nat} (hj : j < bs.length) : (j : Int) ∈ nats ((wL bs).take k) ↔ rkW bs j < k := by
  have O := wL_ok bs
  unfold nats
  constructor
  · intro h
    obtain ⟨j', h1, h2⟩ := List.mem_map.1 h
    have h3 : (j' : Int) = (j : Int) := h2
    obtain rfl : j' = j := by omega
    obtain ⟨p, hp⟩ := List.mem_iff_getElem?.1 h1
    rw [List.getElem?_take] at hp
    split at hp
    · have := (O.of p _ hp).2
      unfold rkW; omega
    · cases hp
  · intro h
    refine List.mem_map.2 ⟨j, ?_, rfl⟩
    refine List.mem_iff_getElem?.2 ⟨rkW bs j, ?_⟩
    rw [List.getElem?_take, if_pos h]
    exact O.to j hj
theorem take_all {bs : List Int} {k : Nat} (h : bs.length ≤ k) : (wL bs).take k = wL bs := List.take_of_length_le (by rw [(wL_ok bs).len]; exact h)
theorem winF_len (bs : List Int) (k : Nat) : (nats ((wL bs).take k)).length = min k bs.length := by rw [nats_length, List.length_take, (wL_ok bs).len]
theorem prF_none {bs : List Int} {n : Nat} (h : bs.length ≤ n) : prF bs n = 0 := by
  unfold prF
  rw [List.getElem?_eq_none (by rw [(wL_ok bs).len]; exact h)]
theorem prF_at {bs : List Int} {n i : Nat} (hi : i < bs.length) (h : rkW bs i = n) : prF bs n = at_ bs i := by
  unfold prF
  rw [← h, show (wL bs)[rkW bs i]? = some i from (wL_ok bs).to i hi]
theorem prF_has {bs : List Int} {n : Nat} (h : n < bs.length) : ∃ i, i < bs.length ∧ rkW bs i = n ∧ (wL bs)[n]? = some i := by
  have O := wL_ok bs
  have hx : (wL bs)[n]? = some ((wL bs)[n]'(by rw [O.len]; exact h)) := List.getElem?_eq_getElem _
  obtain ⟨x1, x2⟩ := O.of n _ hx
  exact ⟨_, x1, x2, hx⟩
theorem rkW_le {bs : List Int} {i j : Nat} (hi : i < bs.length) (hj : j < bs.length) (h : rkW bs i < rkW bs j) : at_ bs j ≤ at_ bs i := by
  by_cases e : i = j
  · rw [e]; exact Int.le_refl _
  · have hP := plcW bs bs.length
    have := (hP.cmp (n := bs.length) (m := i) (j := j) (Nat.le_refl _) hi hj (fun e2 => e e2.symm)).2 (Nat.le_of_lt h)
    rw [ltW_iff] at this
    omega

end Go.Proofs.Ytiihenhddleooaa

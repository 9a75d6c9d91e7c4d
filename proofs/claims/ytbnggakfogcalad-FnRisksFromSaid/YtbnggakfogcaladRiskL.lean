/- What the law FnRisksFrom asks of risks. -/
import Derived.Test.YtbnggakfogcaladLawM
import Derived.Test.YtbnggakfogcaladHelps
namespace Go.Proofs.Ytbnggakfogcalad
open Go.RowKit
set_option linter.unusedVariables false
set_option linter.unusedSimpArgs false
theorem mod_next {W i : Nat} (hW : 0 < W) : 0 < (i + 1) % W ↔ i % W + 1 < W := by
  have h := Nat.div_add_mod i W
  have hm := Nat.mod_lt i hW
  by_cases h1 : i % W + 1 < W
  · have : (i + 1) % W = i % W + 1 := by
      conv => lhs; rw [← h, Nat.add_assoc, Nat.mul_add_mod]
      exact Nat.mod_eq_of_lt h1
    omega
  · have : (i + 1) % W = 0 := by
      conv => lhs; rw [← h, Nat.add_assoc, Nat.mul_add_mod, show i % W + 1 = W by omega]
      exact Nat.mod_self W
    omega
def LeastN (rs : List Int) (nb : List Nat) (k : Nat) (l : Int) : Prop :=
  (l = -1 ∧ ∀ j, j < k → j ∈ nb → at_ rs j < 0) ∨ (0 ≤ l ∧ (∃ j, j < k ∧ j ∈ nb ∧ l = at_ rs j) ∧ ∀ j, j < k → j ∈ nb → 0 ≤ at_ rs j → l ≤ at_ rs j)
theorem LeastN.zero (rs : List Int) (nb : List Nat) : LeastN rs nb 0 (-1) := .inl ⟨rfl, fun j h => by omega⟩
theorem LeastN.skip {rs : List Int} {nb : List Nat} {k : Nat} {l : Int} (h : LeastN rs nb k l) (hk : k ∈ nb → 0 ≤ at_ rs k → 0 ≤ l ∧ l ≤ at_ rs k) : LeastN rs nb (k + 1) l := by
  rcases h with ⟨h1, h2⟩ | ⟨h1, ⟨j, hj, hm, e⟩, h2⟩
  · refine .inl ⟨h1, fun j hj hm => ?_⟩
    by_cases e : j = k
    · subst e
      by_cases h0 : 0 ≤ at_ rs j
      · have := hk hm h0; omega
      · omega
    · exact h2 j (by omega) hm
  · refine .inr ⟨h1, ⟨j, by omega, hm, e⟩, fun i hi hmi h0 => ?_⟩
    by_cases e : i = k
    · subst e; exact (hk hmi h0).2
    · exact h2 i (by omega) hmi h0
theorem LeastN.take {rs : List Int} {nb : List Nat} {k : Nat} {l : Int} (h : LeastN rs nb k l) (hm : k ∈ nb) (h0 : 0 ≤ at_ rs k) (hl : l < 0 ∨ at_ rs k < l) : LeastN rs nb (k + 1) (at_ rs k) := by
  refine .inr ⟨h0, ⟨k, by omega, hm, rfl⟩, fun j hj hmj hj0 => ?_⟩
  by_cases e : j = k
  · subst e; omega
  · rcases h with ⟨h1, h2⟩ | ⟨h1, _, h2⟩
    · have := h2 j (by omega) hmj; omega
    · have := h2 j (by omega) hmj hj0; omega
theorem LeastN.bd {rs : List Int} {nb : List Nat} {k : Nat} {l : Int} (h : LeastN rs nb k l) (hb : ∀ c, at_ rs c ≤ 1000000) : -1 ≤ l ∧ l ≤ 1000000 := by
  rcases h with ⟨h1, _⟩ | ⟨h1, ⟨j, _, _, e⟩, _⟩
  · omega
  · have := hb j; omega
theorem LeastN.done {pp : List (List Int)} {load l : Int} {a i : Nat} {rs : List Int} (hv : pondB pp = true) (hr : IsRisk (cnt pp) (nbP pp) (okF pp load) (rkF pp) a rs) (h : LeastN rs (nbP pp i) (cnt pp) l) (hi : i < cnt pp) (h0 : 0 ≤ at_ rs i) (hne : i ≠ a) : at_ rs i = l + rkF pp i := by
  obtain ⟨d, d1, d2, d3⟩ := hr.pred (gr_pond hv) (fun c hc => okF_lt c hc) (rkF_ge pp) h0 hne
  have hdl := (gr_pond hv).lt i d hi d1
  have hok := ((hr.nn (rkF_ge pp)).1 h0).right
  rcases h with ⟨_, h2⟩ | ⟨h1, ⟨j, hj, hm, e⟩, h2⟩
  · have := h2 d hdl d1; omega
  · have g1 := h2 d hdl d1 d2
    have g2 := hr.tri (rkF_ge pp) (c := i) (d := j) (by omega) ((gr_pond hv).sym i j hi hm) hok
    omega
theorem risk_self {pp : List (List Int)} {load : Int} {a : Nat} {rs : List Int} (hr : IsRisk (cnt pp) (nbP pp) (okF pp load) (rkF pp) a rs) (h0 : 0 ≤ at_ rs a) : at_ rs a = rkF pp a :=
  hr.self (rkF_ge pp) ((hr.nn (rkF_ge pp)).1 h0).left
theorem risk_lab {pp : List (List Int)} {load : Int} {a i : Nat} {rs fs : List Int} (hr : IsRisk (cnt pp) (nbP pp) (okF pp load) (rkF pp) a rs) (L : Lab (cnt pp) (nbP pp) (okF pp load) fs) : 0 ≤ at_ rs i ↔ 0 ≤ at_ fs a ∧ at_ fs i = at_ fs a := by
  rw [hr.nn (rkF_ge pp)]
  constructor
  · intro h
    exact ⟨L.pos a h.left, (L.con a i h).symm⟩
  · rintro ⟨h1, h2⟩
    exact L.sep a i h1 h2.symm
theorem beside_iff {W N i k : Nat} (hW : 0 < W) (hk : k < N) : k ∈ nbs W N i ↔ (W ≤ i ∧ k = i - W) ∨ k = i + W ∨ (0 < i % W ∧ k = i - 1) ∨ (k = i + 1 ∧ 0 < k % W) := by
  rw [nbs_mem]
  have h := mod_next (i := i) hW
  constructor
  · rintro (h1 | h1 | h1 | h1)
    · exact .inl h1
    · exact .inr (.inr (.inl h1))
    · exact .inr (.inr (.inr ⟨h1.2, by rw [h1.2]; exact h.2 h1.1⟩))
    · exact .inr (.inl h1.2)
  · rintro (h1 | h1 | h1 | h1)
    · exact .inl h1
    · exact .inr (.inr (.inr ⟨by omega, h1⟩))
    · exact .inr (.inl h1)
    · exact .inr (.inr (.inl ⟨h.1 (by rw [← h1.1]; exact h1.2), h1.1⟩))
theorem risk_some {pp : List (List Int)} {load f : Int} {ts : List Int} (h : RiskR pp load f ts) (h0 : 0 < ts.length) : ∃ a : Nat, f = a ∧ a < cnt pp ∧ pondB pp = true ∧ IsRisk (cnt pp) (nbP pp) (okF pp load) (rkF pp) a ts := by
  rcases h with ⟨_, rfl⟩ | h
  · simp at h0
  · exact h

end Go.Proofs.Ytbnggakfogcalad

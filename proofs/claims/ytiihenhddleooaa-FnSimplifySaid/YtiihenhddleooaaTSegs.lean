/- Simple contracts (pure): thicknesses of an equal pay, one clause each. -/
import Derived.Test.YtiihenhddleooaaTMath
namespace Go.Proofs.Ytiihenhddleooaa
open Go.RowKit
set_option linter.unusedVariables false
set_option linter.unusedSimpArgs false
def lastC (S : List Cu) : Cu := cuA S (S.length - 1)
def grB (S : List Cu) (t p : Int) : Bool := decide (0 < S.length) && (decide ((lastC S).2.2 = p) && decide ((lastC S).2.1 = t - 1))
def extC (S : List Cu) (t p : Int) : List Cu := if grB S t p then S.set (S.length - 1) ((lastC S).1, t, (lastC S).2.2) else if p = 0 then S else S ++ [(t, t, p)]
def simF (f : Nat → Int) : Nat → List Cu
  | 0 => []
  | t + 1 => extC (simF f t) t (f t)
theorem grB_t {S : List Cu} {t p : Int} (h : grB S t p = true) : 0 < S.length ∧ (lastC S).2.2 = p ∧ (lastC S).2.1 = t - 1 := by
  unfold grB at h
  simpa [Bool.and_eq_true, decide_eq_true_eq] using h
theorem set_last {S : List Cu} (h : 0 < S.length) (x : Cu) : S.set (S.length - 1) x = S.take (S.length - 1) ++ [x] := by
  apply List.ext_getElem?
  intro i
  rw [List.getElem?_set]
  by_cases e : i = S.length - 1
  · rw [if_pos e.symm, if_pos (by omega), e, List.getElem?_append_right (by rw [List.length_take]; omega), List.length_take, Nat.min_eq_left (by omega), Nat.sub_self]; rfl
  · rw [if_neg (fun g => e g.symm)]
    by_cases g : i < S.length - 1
    · rw [List.getElem?_append_left (by rw [List.length_take]; omega), List.getElem?_take, if_pos g]
    · rw [List.getElem?_eq_none (by omega), List.getElem?_eq_none (by rw [List.length_append, List.length_take]; simp; omega)]
theorem take_last {S : List Cu} (h : 0 < S.length) : S.take (S.length - 1) ++ [lastC S] = S := by
  have := take_snoc (zs := S) (k := S.length - 1) (z := lastC S) (get_cuA (by omega))
  rw [← this, show S.length - 1 + 1 = S.length by omega, List.take_length]
/-- the clauses up to k -/
structure Seg (f : Nat → Int) (k : Nat) (S : List Cu) : Prop where
  one : ∀ i, i < S.length → ∃ lo hi : Nat, cuA S i = ((lo : Int), (hi : Int), f lo) ∧ lo ≤ hi ∧ hi < k ∧ f lo ≠ 0
  two : ∀ i, i + 1 < S.length → (cuA S i).2.1 < (cuA S (i + 1)).1 ∧ ¬ ((cuA S (i + 1)).1 = (cuA S i).2.1 + 1 ∧ (cuA S (i + 1)).2.2 = (cuA S i).2.2)
  last : 0 < S.length → ∀ j : Nat, k = j + 1 → (lastC S).2.1 = (j : Int) → (lastC S).2.2 = f j
  pay : ∀ t : Nat, payR (t : Int) S = if t < k then f t else 0
theorem cuA_app_lt {S : List Cu} {x : Cu} {i : Nat} (h : i < S.length) : cuA (S ++ [x]) i = cuA S i := by
  exact cuA_get (by rw [List.getElem?_append_left h]; exact get_cuA h)
theorem cuA_app_at {S : List Cu} {x : Cu} {n : Nat} (h : S.length = n) : cuA (S ++ [x]) n = x := by
  subst h; exact cuA_get (by simp)
theorem Seg.zero (f : Nat → Int) : Seg f 0 [] := ⟨fun i h => by simp at h, fun i h => by simp at h, fun h => by simp at h, fun t => by simp [payR]⟩
/-- a clause more -/
theorem Seg.more {f : Nat → Int} {t : Nat} {S : List Cu} (h : Seg f t S) (hp : f t ≠ 0) (hg : grB S t (f t) = false) : Seg f (t + 1) (S ++ [((t : Int), (t : Int), f t)]) := by
  refine ⟨fun i hi => ?_, fun i hi => ?_, fun _ j hj _ => ?_, fun u => ?_⟩
  · by_cases e : i < S.length
    · rw [cuA_app_lt e]
      obtain ⟨lo, hi2, h1, h2, h3, h4⟩ := h.one i e
      exact ⟨lo, hi2, h1, h2, by omega, h4⟩
    · have : i = S.length := by rw [List.length_append] at hi; simp at hi; omega
      rw [this, cuA_app_at rfl]
      exact ⟨t, t, rfl, Nat.le_refl _, by omega, hp⟩
  · rw [List.length_append] at hi
    simp at hi
    by_cases e : i + 1 < S.length
    · rw [cuA_app_lt e, cuA_app_lt (by omega)]; exact h.two i e
    · have e2 : S.length = i + 1 := by omega
      rw [cuA_app_at e2, cuA_app_lt (by omega)]
      obtain ⟨lo, hi2, h1, h2, h3, h4⟩ := h.one i (by omega)
      refine ⟨by rw [h1]; show (hi2 : Int) < (t : Int); omega, fun ⟨q1, q2⟩ => ?_⟩
      have e3 : lastC S = cuA S i := by unfold lastC; rw [e2]; rfl
      unfold grB at hg
      rw [decide_eq_true (show 0 < S.length by omega), Bool.true_and, e3] at hg
      rw [decide_eq_true (show (cuA S i).2.2 = f t from q2.symm), Bool.true_and, decide_eq_false_iff_not] at hg
      exact hg (by have : (t : Int) = (cuA S i).2.1 + 1 := q1; omega)
  · have e : lastC (S ++ [((t : Int), (t : Int), f t)]) = ((t : Int), (t : Int), f t) := by unfold lastC; exact cuA_app_at (by simp)
    rw [e]
    obtain rfl : t = j := by omega
    rfl
  · rw [payR_app, h.pay u]
    show (if u < t then f u else 0) + ((if inB (u : Int) (t : Int) (t : Int) then f t else 0) + 0) = _
    by_cases e : u = t
    · subst e; rw [if_neg (show ¬ u < u by omega), inB_mk (show (u : Int) ≤ (u : Int) ∧ (u : Int) ≤ (u : Int) by omega), if_pos (show u < u + 1 by omega)]; simp
    · rw [inB_nk (show ¬ ((t : Int) ≤ (u : Int) ∧ (u : Int) ≤ (t : Int)) by omega)]
      by_cases g : u < t
      · rw [if_pos g, if_pos (show u < t + 1 by omega)]; simp
      · rw [if_neg g, if_neg (show ¬ u < t + 1 by omega)]; simp
/-- no clause more: nothing is paid -/
theorem Seg.same {f : Nat → Int} {t : Nat} {S : List Cu} (h : Seg f t S) (hp : f t = 0) : Seg f (t + 1) S := by
  refine ⟨fun i hi => ?_, h.two, fun h0 j hj e => ?_, fun u => ?_⟩
  · obtain ⟨lo, hi2, h1, h2, h3, h4⟩ := h.one i hi
    exact ⟨lo, hi2, h1, h2, by omega, h4⟩
  · obtain ⟨lo, hi2, h1, h2, h3, h4⟩ := h.one (S.length - 1) (by omega)
    unfold lastC at e
    rw [h1] at e
    have : (hi2 : Int) = (j : Int) := e
    omega
  · rw [h.pay u]
    by_cases e : u = t
    · subst e; rw [if_neg (by omega), if_pos (by omega), hp]
    · by_cases g : u < t
      · rw [if_pos g, if_pos (by omega)]
      · rw [if_neg g, if_neg (by omega)]
/-- the last clause goes on -/
theorem Seg.grow {f : Nat → Int} {t : Nat} {S : List Cu} (h : Seg f t S) (hg : grB S t (f t) = true) : Seg f (t + 1) (S.set (S.length - 1) ((lastC S).1, (t : Int), (lastC S).2.2)) := by
  obtain ⟨h0, h1, h2⟩ := grB_t hg
  obtain ⟨lo, hi2, q1, q2, q3, q4⟩ := h.one (S.length - 1) (by omega)
  have hl : lastC S = ((lo : Int), (hi2 : Int), f lo) := q1
  rw [set_last h0, hl]
  rw [hl] at h1 h2
  have h1 : f lo = f t := h1
  have h2 : (hi2 : Int) = (t : Int) - 1 := h2
  have hlen : (S.take (S.length - 1)).length = S.length - 1 := by rw [List.length_take]; omega
  have hcu : ∀ i, i < S.length - 1 → cuA (S.take (S.length - 1) ++ [((lo : Int), (t : Int), f lo)]) i = cuA S i := fun i hi => by
    rw [cuA_app_lt (by rw [hlen]; exact hi)]
    exact cuA_get (by rw [List.getElem?_take, if_pos hi]; exact get_cuA (by omega))
  refine ⟨fun i hi => ?_, fun i hi => ?_, fun _ j hj _ => ?_, fun u => ?_⟩
  · rw [List.length_append, hlen] at hi
    simp at hi
    by_cases e : i < S.length - 1
    · rw [hcu i e]
      obtain ⟨lo', hi', a1, a2, a3, a4⟩ := h.one i (by omega)
      exact ⟨lo', hi', a1, a2, by omega, a4⟩
    · rw [cuA_app_at (by rw [hlen]; omega)]
      exact ⟨lo, t, rfl, by omega, by omega, q4⟩
  · rw [List.length_append, hlen] at hi
    simp at hi
    rw [hcu i (by omega)]
    by_cases e : i + 1 < S.length - 1
    · rw [hcu (i + 1) e]; exact h.two i (by omega)
    · have e2 : i + 1 = S.length - 1 := by omega
      rw [cuA_app_at (by rw [hlen]; omega)]
      have := h.two i (by omega)
      rw [e2, q1] at this
      exact this
  · have e : lastC (S.take (S.length - 1) ++ [((lo : Int), (t : Int), f lo)]) = ((lo : Int), (t : Int), f lo) := by unfold lastC; exact cuA_app_at (by rw [List.length_append, hlen]; simp)
    rw [e]
    obtain rfl : t = j := by omega
    exact h1
  · have hp := h.pay u
    rw [← take_last h0, payR_app, hl] at hp
    rw [payR_app]
    have hp : payR (u : Int) (S.take (S.length - 1)) + ((if inB (u : Int) (lo : Int) (hi2 : Int) then f lo else 0) + 0) = if u < t then f u else 0 := hp
    show payR (u : Int) (S.take (S.length - 1)) + ((if inB (u : Int) (lo : Int) (t : Int) then f lo else 0) + 0) = _
    by_cases e : u = t
    · subst e
      rw [inB_nk (show ¬((lo : Int) ≤ (u : Int) ∧ (u : Int) ≤ (hi2 : Int)) by omega), if_neg (show ¬ u < u by omega)] at hp
      rw [inB_mk (show (lo : Int) ≤ (u : Int) ∧ (u : Int) ≤ (u : Int) by omega), if_pos (show u < u + 1 by omega)]
      simp at hp ⊢
      rw [hp, h1]; omega
    · have hin : inB (u : Int) (lo : Int) (t : Int) = inB (u : Int) (lo : Int) (hi2 : Int) := by unfold inB; exact decide_eq_decide.2 (by omega)
      rw [hin, hp]
      by_cases g : u < t
      · rw [if_pos g, if_pos (by omega)]
      · rw [if_neg g, if_neg (by omega)]
theorem seg_sim (f : Nat → Int) : ∀ k, Seg f k (simF f k)
  | 0 => Seg.zero f
  | t + 1 => by
    have ih := seg_sim f t
    rw [simF]
    unfold extC
    split
    · rename_i g; exact ih.grow g
    · rename_i g
      split
      · rename_i hp; exact ih.same hp
      · rename_i hp; exact ih.more hp (by simpa using g)
theorem simF_congr {f g : Nat → Int} : ∀ k, (∀ t, t < k → f t = g t) → simF f k = simF g k
  | 0, _ => rfl
  | k + 1, h => by rw [simF, simF, simF_congr k (fun t ht => h t (by omega)), h k (by omega)]
/-- thicknesses of an equal pay, all of them from low on -/
theorem sim_run {f : Nat → Int} {low : Nat} (hb : low = 0 ∨ f (low - 1) ≠ f low) : ∀ m, (∀ j, j ≤ m → f (low + j) = f low) → simF f (low + m + 1) = if f low = 0 then simF f low else simF f low ++ [((low : Int), ((low + m : Nat) : Int), f low)]
  | 0, _ => by
    have S := seg_sim f low
    rw [Nat.add_zero, simF]
    unfold extC
    have hg : grB (simF f low) low (f low) = false := by
      cases e : grB (simF f low) low (f low)
      · rfl
      · obtain ⟨h0, h1, h2⟩ := grB_t e
        rcases hb with hb | hb
        · obtain ⟨lo, hi, q1, q2, q3, q4⟩ := S.one ((simF f low).length - 1) (by omega)
          omega
        · by_cases hz : low = 0
          · obtain ⟨lo, hi, q1, q2, q3, q4⟩ := S.one ((simF f low).length - 1) (by omega)
            omega
          · have := S.last h0 (low - 1) (by omega) (by rw [h2]; omega)
            exact absurd (this.symm.trans h1) hb
    rw [hg]
    simp
  | m + 1, h => by
    have ih := sim_run hb m fun j hj => h j (by omega)
    rw [show low + (m + 1) + 1 = (low + m + 1) + 1 by omega, simF, ih, show f (low + m + 1) = f low from h (m + 1) (Nat.le_refl _)]
    unfold extC
    by_cases hp : f low = 0
    · rw [if_pos hp, if_pos hp]
      have hg : grB (simF f low) ((low + m + 1 : Nat) : Int) (f low) = false := by
        cases e : grB (simF f low) ((low + m + 1 : Nat) : Int) (f low)
        · rfl
        · obtain ⟨h0, h1, _⟩ := grB_t e
          obtain ⟨lo, hi, q1, q2, q3, q4⟩ := (seg_sim f low).one ((simF f low).length - 1) (by omega)
          unfold lastC at h1
          rw [q1] at h1
          exact absurd (h1.trans hp) q4
      rw [hg, if_pos hp]
      simp
    · rw [if_neg hp, if_neg hp]
      have e : lastC (simF f low ++ [((low : Int), ((low + m : Nat) : Int), f low)]) = ((low : Int), ((low + m : Nat) : Int), f low) := by unfold lastC; exact cuA_app_at (by simp)
      have hg : grB (simF f low ++ [((low : Int), ((low + m : Nat) : Int), f low)]) ((low + m + 1 : Nat) : Int) (f low) = true := by
        unfold grB
        rw [e, decide_eq_true (show 0 < (simF f low ++ [((low : Int), ((low + m : Nat) : Int), f low)]).length by simp), decide_eq_true (show ((low : Int), ((low + m : Nat) : Int), f low).2.2 = f low from rfl), decide_eq_true (show ((low + m : Nat) : Int) = ((low + m + 1 : Nat) : Int) - 1 by omega)]
        rfl
      rw [if_pos hg, set_last (by simp), e]
      simp [hp]
      omega
def payB (f : Nat → Int) (k : Nat) : Bool := (List.range k).all (fun t => inB (f t) (-10000) 10000)
theorem payB_succ (f : Nat → Int) (k : Nat) : payB f (k + 1) = (payB f k && inB (f k) (-10000) 10000) := by
  unfold payB
  rw [List.range_succ, List.all_append]
  simp
theorem payB_at {f : Nat → Int} {k t : Nat} (h : payB f k = true) (ht : t < k) : inB (f t) (-10000) 10000 = true := by
  unfold payB at h
  rw [List.all_eq_true] at h
  exact h t (List.mem_range.2 ht)
theorem payB_bad {f : Nat → Int} {k t : Nat} (ht : t < k) (h : inB (f t) (-10000) 10000 = false) : payB f k = false := by
  unfold payB
  rw [List.all_eq_false]
  exact ⟨t, List.mem_range.2 ht, by rw [h]; simp⟩
theorem simF_len (f : Nat → Int) : ∀ k, (simF f k).length ≤ k
  | 0 => Nat.le_refl _
  | k + 1 => by
    have := simF_len f k
    rw [simF]
    unfold extC
    split
    · rw [List.length_set]; omega
    · split
      · omega
      · rw [List.length_append]; simp; omega
def simT (cs : List Cu) : List Cu := if okV clV cs && payB (payN cs) 1000 then simF (payN cs) 1000 else []
theorem simT_le (cs : List Cu) : (simT cs).length ≤ 1000 := by
  unfold simT
  split
  · exact simF_len _ _
  · simp
theorem simT_pay {cs : List Cu} (h : okV clV cs = true) (hp : payB (payN cs) 1000 = true) (t : Nat) (ht : t < 1000) : payN (simT cs) t = payN cs t := by
  have e : simT cs = simF (payN cs) 1000 := by unfold simT; rw [h, hp]; exact if_pos rfl
  rw [e]
  have := (seg_sim (payN cs) 1000).pay t
  rw [if_pos ht] at this
  exact this
theorem simT_ok {cs : List Cu} (h : okV clV cs = true) (hp : payB (payN cs) 1000 = true) (hl : (simT cs).length ≤ 20) : okV clV (simT cs) = true := by
  have e : simT cs = simF (payN cs) 1000 := by unfold simT; rw [h, hp]; exact if_pos rfl
  rw [e] at hl ⊢
  rw [okV_mem]
  refine ⟨hl, fun c hc => ?_⟩
  obtain ⟨i, hi⟩ := List.mem_iff_getElem?.1 hc
  have hil := (List.getElem?_eq_some_iff.1 hi).1
  obtain ⟨lo, hi2, q1, q2, q3, q4⟩ := (seg_sim (payN cs) 1000).one i hil
  rw [cuA_get hi] at q1
  rw [q1]
  unfold clV
  rw [inB_mk (show 0 ≤ (lo : Int) ∧ (lo : Int) ≤ 999 by omega), inB_mk (show (lo : Int) ≤ (hi2 : Int) ∧ (hi2 : Int) ≤ 999 by omega)]
  exact payB_at hp (by omega)
theorem simT_twice {cs : List Cu} (h : okV clV cs = true) (hp : payB (payN cs) 1000 = true) (hl : (simT cs).length ≤ 20) : simT (simT cs) = simT cs := by
  have h2 := simT_ok h hp hl
  have hc := simT_pay h hp
  have hp2 : payB (payN (simT cs)) 1000 = true := by
    unfold payB
    rw [List.all_eq_true]
    intro t ht
    rw [hc t (List.mem_range.1 ht)]
    exact payB_at hp (List.mem_range.1 ht)
  have e : simT cs = simF (payN cs) 1000 := by unfold simT; rw [h, hp]; exact if_pos rfl
  have e2 : simT (simT cs) = simF (payN (simT cs)) 1000 := by rw [simT, h2, hp2]; exact if_pos rfl
  rw [e2, simF_congr 1000 hc, ← e]
theorem worF_simT {cs : List Cu} (h : okV clV cs = true) (hp : payB (payN cs) 1000 = true) : worF (payN (simT cs)) 999 = worF (payN cs) 999 := worF_congr 999 fun j hj => simT_pay h hp j (by omega)

end Go.Proofs.Ytiihenhddleooaa

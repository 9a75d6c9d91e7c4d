/- Customers along a street (pure): the order with the least lateness. -/
import Derived.Test.YtjjddamblijffaaKMath
namespace Go.Proofs.Ytjjddamblijffaa
open Go.RowKit
set_option linter.unusedVariables false
set_option linter.unusedSimpArgs false
def latO (cs : List Cu) (st : Int) (os : List Int) : Int := latR st 0 (pick cs os)
def bstL (cs : List Cu) (st : Int) (rec : List Int → List Int) (b : List Int) : Nat → List Int
  | 0 => []
  | k + 1 => if memB b (k : Int) then bstL cs st rec b k else if bstL cs st rec b k = [] ∨ latO cs st (rec (b ++ [(k : Int)])) < latO cs st (bstL cs st rec b k) then rec (b ++ [(k : Int)]) else bstL cs st rec b k
def bst (cs : List Cu) (st : Int) : Nat → List Int → List Int
  | 0, b => b
  | f + 1, b => bstL cs st (bst cs st f) b cs.length
theorem good_snoc {n k : Nat} {b : List Int} (h : ordTo n b b.length = true) (hk : k < n) (hm : memB b (k : Int) = false) : ordTo n (b ++ [(k : Int)]) (b ++ [(k : Int)]).length = true := by
  have e : (b ++ [(k : Int)]).length = b.length + 1 := by simp
  rw [e, ordTo_succ, Bool.and_eq_true]
  constructor
  · unfold ordTo
    rw [List.all_eq_true]
    intro i hi
    have hi := List.mem_range.1 hi
    have h1 := ordTo_step h hi
    rw [List.take_append_of_le_length (by omega)]
    have : at_ (b ++ [(k : Int)]) i = at_ b i := by
      rw [at_of (h := show (b ++ [(k : Int)])[i]? = some (at_ b i) by rw [List.getElem?_append_left hi]; exact of_at hi)]
    rw [this]
    exact h1
  · rw [List.take_left' rfl, at_of (h := show (b ++ [(k : Int)])[b.length]? = some (k : Int) by simp)]
    unfold ordStep
    rw [hm, inB_mk (by omega)]
    rfl
theorem bst_ok {cs : List Cu} {st : Int} : ∀ {f : Nat} {b : List Int}, f + b.length = cs.length → ordTo cs.length b b.length = true →
    ordB cs.length (bst cs st f b) = true ∧ (bst cs st f b).take b.length = b ∧ ∀ os, ordB cs.length os = true → os.take b.length = b → latO cs st (bst cs st f b) ≤ latO cs st os
  | 0, b, hf, hg => by
    have hb : b.length = cs.length := by omega
    refine ⟨by show ordB cs.length b = true; unfold ordB; rw [decide_eq_true hb, hg]; rfl, by show b.take b.length = b; exact List.take_length, fun os ho ht => ?_⟩
    rw [List.take_of_length_le (by rw [(ordB_t ho).1]; omega)] at ht
    rw [ht]
    exact Int.le_refl _
  | f + 1, b, hf, hg => by
    have IH : ∀ k, k < cs.length → memB b (k : Int) = false → _ := fun k hk hm => bst_ok (cs := cs) (st := st) (f := f) (b := b ++ [(k : Int)]) (by simp; omega) (good_snoc hg hk hm)
    have hlt : b.length < cs.length := by omega
    have L : ∀ j, j ≤ cs.length → (bstL cs st (bst cs st f) b j = [] ∧ ∀ i : Nat, i < j → memB b (i : Int) = true) ∨
        (ordB cs.length (bstL cs st (bst cs st f) b j) = true ∧ (bstL cs st (bst cs st f) b j).take b.length = b ∧ ∀ os, ordB cs.length os = true → os.take b.length = b → ∀ i : Nat, i < j → at_ os b.length = (i : Int) → latO cs st (bstL cs st (bst cs st f) b j) ≤ latO cs st os) := by
      intro j
      induction j with
      | zero => intro _; exact .inl ⟨rfl, fun i hi => by omega⟩
      | succ j ih =>
        intro hj
        have ih := ih (by omega)
        -- an order that goes on with one that is there already is none
        have no : ∀ (os : List Int) (i : Nat), ordB cs.length os = true → os.take b.length = b → at_ os b.length = (i : Int) → memB b (i : Int) = true → False := fun os i ho ht ha hm => by
          have h1 := ordTo_step (ordB_t ho).2 hlt
          rw [ht, ha] at h1
          unfold ordStep at h1
          rw [hm] at h1
          simp at h1
        unfold bstL
        cases hm : memB b (j : Int)
        · simp only [Bool.false_eq_true, if_false]
          obtain ⟨i1, i2, i3⟩ := IH j (by omega) hm
          have i2' : (bst cs st f (b ++ [(j : Int)])).take b.length = b := by
            have := congrArg (List.take b.length) i2
            rw [List.take_take, List.take_left' rfl] at this
            rwa [show min b.length (b ++ [(j : Int)]).length = b.length by simp] at this
          have pre : ∀ os, ordB cs.length os = true → os.take b.length = b → at_ os b.length = (j : Int) → os.take (b ++ [(j : Int)]).length = b ++ [(j : Int)] := fun os ho ht ha => by
            have hl := (ordB_t ho).1
            rw [show (b ++ [(j : Int)]).length = b.length + 1 by simp, take_snoc (of_at (show b.length < os.length by omega)), ht, ha]
          right
          split
          · next hc =>
            refine ⟨i1, i2', fun os ho ht i hi ha => ?_⟩
            by_cases e : i = j
            · subst e; exact i3 os ho (pre os ho ht ha)
            · rcases ih with ⟨_, h2⟩ | ⟨h1, h2, h3⟩
              · exact (no os i ho ht ha (h2 i (by omega))).elim
              · have h4 := h3 os ho ht i (by omega) ha
                rcases hc with hc | hc
                · rw [hc] at h1
                  have := (ordB_t h1).1
                  simp at this
                  omega
                · omega
          · next hc =>
            rcases ih with ⟨h1, _⟩ | ⟨h1, h2, h3⟩
            · exact absurd (.inl h1) hc
            · refine ⟨h1, h2, fun os ho ht i hi ha => ?_⟩
              by_cases e : i = j
              · subst e
                have h4 := i3 os ho (pre os ho ht ha)
                have h5 : ¬ latO cs st (bst cs st f (b ++ [(i : Int)])) < latO cs st (bstL cs st (bst cs st f) b i) := fun h => hc (.inr h)
                omega
              · exact h3 os ho ht i (by omega) ha
        · simp only [if_true]
          rcases ih with ⟨h1, h2⟩ | ⟨h1, h2, h3⟩
          · refine .inl ⟨h1, fun i hi => ?_⟩
            by_cases e : i = j
            · subst e; exact hm
            · exact h2 i (by omega)
          · refine .inr ⟨h1, h2, fun os ho ht i hi ha => ?_⟩
            by_cases e : i = j
            · subst e; exact (no os i ho ht ha hm).elim
            · exact h3 os ho ht i (by omega) ha
    show ordB cs.length (bstL cs st (bst cs st f) b cs.length) = true ∧ _
    rcases L cs.length (Nat.le_refl _) with ⟨_, h2⟩ | ⟨h1, h2, h3⟩
    · obtain ⟨i, hi, hm⟩ := some_free (n := cs.length) (b := b) hlt
      rw [h2 i hi] at hm
      cases hm
    · refine ⟨h1, h2, fun os ho ht => ?_⟩
      have hr := ordTo_in (ordB_t ho).2 hlt
      exact h3 os ho ht (at_ os b.length).toNat (by omega) (by omega)
/-- what the loop has found is none, or an order -/
theorem bstL_ord {cs : List Cu} {st : Int} {f : Nat} {b : List Int} (hf : f + 1 + b.length = cs.length) (hg : ordTo cs.length b b.length = true) : ∀ j, j ≤ cs.length → bstL cs st (bst cs st f) b j = [] ∨ ordB cs.length (bstL cs st (bst cs st f) b j) = true
  | 0, _ => .inl rfl
  | j + 1, hj => by
    have ih := bstL_ord (st := st) hf hg j (by omega)
    unfold bstL
    cases hm : memB b (j : Int)
    · simp only [Bool.false_eq_true, if_false]
      split
      · exact .inr (bst_ok (f := f) (b := b ++ [(j : Int)]) (by simp; omega) (good_snoc hg (by omega) hm)).1
      · exact ih
    · simp only [if_true]; exact ih
def leastT (cs : List Cu) (st : Int) : List Int := if (vcB cs && inB st (-100) 100) && decide (cs.length ≤ 6) then bst cs st cs.length [] else []
theorem leastT_ok {cs : List Cu} {st : Int} (h : ((vcB cs && inB st (-100) 100) && decide (cs.length ≤ 6)) = true) : leastT cs st = bst cs st cs.length [] := by unfold leastT; rw [h]; rfl
theorem leastT_no {cs : List Cu} {st : Int} (h : ((vcB cs && inB st (-100) 100) && decide (cs.length ≤ 6)) = false) : leastT cs st = [] := by unfold leastT; rw [h]; rfl
theorem least_ord {cs : List Cu} {st : Int} : ordB cs.length (bst cs st cs.length []) = true := (bst_ok (cs := cs) (st := st) (f := cs.length) (b := []) (by simp) rfl).1
theorem least_le {cs : List Cu} {st : Int} {os : List Int} (h : ordB cs.length os = true) : latO cs st (bst cs st cs.length []) ≤ latO cs st os := (bst_ok (cs := cs) (st := st) (f := cs.length) (b := []) (by simp) rfl).2.2 os h rfl
theorem leastT_le (cs : List Cu) (st : Int) : (leastT cs st).length ≤ 6 := by
  cases h : ((vcB cs && inB st (-100) 100) && decide (cs.length ≤ 6))
  · rw [leastT_no h]; simp
  · rw [leastT_ok h, (ordB_t least_ord).1]
    rw [Bool.and_eq_true, decide_eq_true_eq] at h
    exact h.2

end Go.Proofs.Ytjjddamblijffaa

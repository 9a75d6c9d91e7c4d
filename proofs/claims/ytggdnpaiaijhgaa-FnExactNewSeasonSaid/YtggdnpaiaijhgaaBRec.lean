/- Chapter 8: books and what is recovered of them (pure). -/
import Derived.Test.YtggdnpaiaijhgaaBEv
namespace Go.Proofs.Ytggdnpaiaijhgaa
open Go.RowKit
set_option linter.unusedVariables false
set_option linter.unusedSimpArgs false
/-- the events of lines, at most n of them, up to the first one that is none -/
def recF : Nat → List (List UInt8) → List Ev
  | 0, _ => []
  | _ + 1, [] => []
  | n + 1, l :: ls => if parB l then parE l :: recF n ls else []
def recL (l : List UInt8) : List Ev := recF 60 (splitL 10 l).dropLast
theorem recF_nil (n : Nat) : recF n [] = [] := by cases n <;> rfl
theorem recF_no {n : Nat} {l : List UInt8} {ls : List (List UInt8)} (h : parB l = false) : recF n (l :: ls) = [] := by
  cases n with
  | zero => rfl
  | succ n => rw [recF, h]; rfl
theorem recF_yes {n : Nat} {l : List UInt8} {ls : List (List UInt8)} (h : parB l = true) : recF (n + 1) (l :: ls) = parE l :: recF n ls := by rw [recF, h]; rfl
theorem recF_len : ∀ (n : Nat) (ls : List (List UInt8)), (recF n ls).length ≤ n
  | 0, _ => Nat.le_refl _
  | n + 1, [] => Nat.zero_le _
  | n + 1, l :: ls => by
    rw [recF]
    split
    · rw [List.length_cons]; have := recF_len n ls; omega
    · simp
theorem splitL_ne (c : UInt8) (l : List UInt8) : splitL c l ≠ [] := fun e => by have := (splitL_len c l).1; rw [e] at this; simp at this
theorem drop_last {c : UInt8} {a b : List UInt8} (h : c ∉ a) : (splitL c (a ++ c :: b)).dropLast = a :: (splitL c b).dropLast := by
  rw [splitL_at h, List.dropLast_cons_of_ne_nil (splitL_ne c b)]
theorem drop_none {c : UInt8} {a : List UInt8} (h : c ∉ a) : (splitL c a).dropLast = [] := by rw [splitL_no h]; rfl
/-- the text of a book whose events all have a text -/
def bookS (es : List Ev) : List UInt8 := (es.map (fun e => showL e ++ [10])).flatten
def bookB (es : List Ev) : Bool := decide (es.length ≤ 60) && es.all (fun e => decide (showL e ≠ []))
def bookL (es : List Ev) : List UInt8 := if bookB es then bookS es else []
theorem bookS_cons (e : Ev) (es : List Ev) : bookS (e :: es) = showL e ++ 10 :: bookS es := by simp [bookS]
theorem bookS_snoc (es : List Ev) (e : Ev) : bookS (es ++ [e]) = bookS es ++ showL e ++ [10] := by simp [bookS]
theorem tail_no (zs : List Int) (b : UInt8) (h1 : b ≠ 45) (h2 : digB b = false) (h3 : b ≠ 32) : b ∉ tailL zs := by
  induction zs with
  | nil => simp [tailL]
  | cons z zs ih =>
    rw [tailL_cons, List.mem_cons, List.mem_append, not_or, not_or]
    exact ⟨h3, sgnL_no z b h1 h2, ih⟩
theorem show_line (e : Ev) : (10 : UInt8) ∉ showL e := by
  unfold showL
  split
  · unfold bodyL
    have ht : ∀ zs, (10 : UInt8) ∉ tailL zs := fun zs => tail_no zs 10 (by decide) (by decide) (by decide)
    split
    · rw [List.mem_append, not_or]; exact ⟨by decide, ht _⟩
    · split
      · rw [List.mem_append, not_or]; exact ⟨by decide, ht _⟩
      · split
        · rw [List.mem_append, not_or]; exact ⟨by decide, ht _⟩
        · split
          · decide
          · simp
  · simp
theorem bookB_def {es : List Ev} (h : bookB es = true) : es.length ≤ 60 ∧ ∀ e ∈ es, showL e ≠ [] := by
  unfold bookB at h
  rw [Bool.and_eq_true] at h
  exact ⟨of_decide_eq_true h.1, fun e he => of_decide_eq_true (List.all_eq_true.1 h.2 e he)⟩
theorem bookB_mk {es : List Ev} (h1 : es.length ≤ 60) (h2 : ∀ e ∈ es, showL e ≠ []) : bookB es = true := by
  unfold bookB
  rw [Bool.and_eq_true]
  exact ⟨decide_eq_true h1, List.all_eq_true.2 fun e he => decide_eq_true (h2 e he)⟩
/-- a book and the beginning of a line: all whole lines are read back -/
theorem rec_book : ∀ (es : List Ev) (n : Nat) (t : List UInt8), es.length ≤ n → (∀ e ∈ es, showL e ≠ []) → (10 : UInt8) ∉ t → recF n (splitL 10 (bookS es ++ t)).dropLast = es.map normE
  | [], n, t, _, _, ht => by
    have e : bookS [] ++ t = t := rfl
    rw [e, drop_none ht, recF_nil]; rfl
  | e :: es, n, t, hn, he, ht => by
    have hp := par_show (he e (List.mem_cons_self ..))
    obtain ⟨m, rfl⟩ : ∃ m, n = m + 1 := ⟨n - 1, by simp at hn; omega⟩
    rw [bookS_cons, List.append_assoc, List.cons_append, drop_last (show_line e), recF_yes hp.1, hp.2, rec_book es m t (by simp at hn; omega) (fun x hx => he x (List.mem_cons_of_mem _ hx)) ht]
    rfl
theorem recL_book {es : List Ev} (h : bookB es = true) : recL (bookL es) = es.map normE := by
  have hd := bookB_def h
  unfold recL bookL
  rw [if_pos h]
  have := rec_book es 60 [] hd.1 hd.2 (by simp)
  rwa [List.append_nil] at this
/-- a beginning of a text has a beginning of its lines -/
theorem split_take (c : UInt8) : ∀ (l t : List UInt8), ∃ r, (splitL c (l ++ t)).dropLast = (splitL c l).dropLast ++ r
  | [], t => ⟨_, rfl⟩
  | b :: l, t => by
    obtain ⟨r, hr⟩ := split_take c l t
    rw [List.cons_append, splitL, splitL]
    by_cases hb : b = c
    · rw [if_pos hb, if_pos hb, List.dropLast_cons_of_ne_nil (splitL_ne _ _), List.dropLast_cons_of_ne_nil (splitL_ne _ _), hr]
      exact ⟨r, rfl⟩
    · rw [if_neg hb, if_neg hb]
      cases h1 : splitL c (l ++ t) with
      | nil => exact absurd h1 (splitL_ne _ _)
      | cons p ps =>
        cases h2 : splitL c l with
        | nil => exact absurd h2 (splitL_ne _ _)
        | cons q qs =>
          rw [h1, h2] at hr
          simp only
          cases qs with
          | nil => exact ⟨((b :: p) :: ps).dropLast, rfl⟩
          | cons q2 qs =>
            cases ps with
            | nil => simp at hr
            | cons p2 ps =>
              have e1 : (p :: p2 :: ps).dropLast = p :: (p2 :: ps).dropLast := rfl
              have e2 : (q :: q2 :: qs).dropLast = q :: (q2 :: qs).dropLast := rfl
              have e3 : ((b :: p) :: p2 :: ps).dropLast = (b :: p) :: (p2 :: ps).dropLast := rfl
              have e4 : ((b :: q) :: q2 :: qs).dropLast = (b :: q) :: (q2 :: qs).dropLast := rfl
              rw [e1, e2, List.cons_append] at hr
              injection hr with g1 g2
              exact ⟨r, by rw [e3, e4, g1, g2]; rfl⟩
theorem recF_take : ∀ (n : Nat) (a r : List (List UInt8)), ∃ s, recF n (a ++ r) = recF n a ++ s
  | 0, a, r => ⟨[], rfl⟩
  | n + 1, [], r => ⟨_, rfl⟩
  | n + 1, l :: a, r => by
    obtain ⟨s, hs⟩ := recF_take n a r
    rw [List.cons_append]
    by_cases h : parB l = true
    · rw [recF_yes h, recF_yes h, hs]; exact ⟨s, rfl⟩
    · have h := Bool.eq_false_iff.2 h
      rw [recF_no h, recF_no h]; exact ⟨[], rfl⟩
theorem recL_take (l t : List UInt8) : ∃ s, recL (l ++ t) = recL l ++ s := by
  obtain ⟨r, hr⟩ := split_take 10 l t
  unfold recL
  rw [hr]
  exact recF_take _ _ _
/-- what is recovered was written -/
theorem recF_shows : ∀ (n : Nat) (ls : List (List UInt8)), ∀ e ∈ recF n ls, showL e ≠ []
  | 0, _, e, h => by simp [recF] at h
  | n + 1, [], e, h => by simp [recF] at h
  | n + 1, l :: ls, e, h => by
    rw [recF] at h
    split at h
    · next hp =>
      rcases List.mem_cons.1 h with rfl | h
      · rw [show_par hp]; exact par_ne hp
      · exact recF_shows n ls e h
    · simp at h
theorem join_split (c : UInt8) : ∀ l : List UInt8, ∃ t, l = ((splitL c l).dropLast.map (fun x => x ++ [c])).flatten ++ t
  | [] => ⟨[], rfl⟩
  | b :: l => by
    obtain ⟨t, ht⟩ := join_split c l
    rw [splitL]
    by_cases hb : b = c
    · rw [if_pos hb, List.dropLast_cons_of_ne_nil (splitL_ne _ _)]
      exact ⟨t, by rw [hb, List.map_cons, List.flatten_cons, List.append_assoc, ← ht]; rfl⟩
    · rw [if_neg hb]
      cases h2 : splitL c l with
      | nil => exact absurd h2 (splitL_ne _ _)
      | cons q qs =>
        rw [h2] at ht
        cases qs with
        | nil => exact ⟨b :: l, rfl⟩
        | cons q2 qs =>
          simp only
          rw [List.dropLast_cons_of_ne_nil (by simp)] at ht ⊢
          refine ⟨t, ?_⟩
          rw [List.map_cons, List.flatten_cons, List.append_assoc] at ht ⊢
          rw [List.cons_append, List.cons_append, ← ht]
theorem recF_pre : ∀ (n : Nat) (ls : List (List UInt8)), ∃ t, (ls.map (fun x => x ++ [10])).flatten = bookS (recF n ls) ++ t
  | 0, ls => ⟨_, rfl⟩
  | n + 1, [] => ⟨[], rfl⟩
  | n + 1, l :: ls => by
    by_cases h : parB l = true
    · obtain ⟨t, ht⟩ := recF_pre n ls
      rw [recF_yes h, bookS_cons, show_par h, List.map_cons, List.flatten_cons, ht]
      exact ⟨t, by simp⟩
    · have h := Bool.eq_false_iff.2 h
      rw [recF_no h]
      exact ⟨_, rfl⟩
theorem bookB_rec (l : List UInt8) : bookB (recL l) = true := bookB_mk (recF_len _ _) (recF_shows _ _)
theorem book_rec (l : List UInt8) : ∃ t, l = bookL (recL l) ++ t := by
  obtain ⟨t, ht⟩ := join_split 10 l
  obtain ⟨r, hr⟩ := recF_pre 60 (splitL 10 l).dropLast
  unfold bookL
  rw [if_pos (bookB_rec l)]
  unfold recL
  rw [hr, List.append_assoc] at ht
  exact ⟨r ++ t, ht⟩

end Go.Proofs.Ytggdnpaiaijhgaa

/- Plain mathematics of chapter 2: counting without repetition, steps in a grid, what can be reached, numbered fields, ways of least risk. Nothing of the program. -/
import Derived.WalkKit
set_option linter.unusedVariables false
set_option linter.unusedSimpArgs false
namespace Go.Proofs.Ytggdnpaiaijhgaa

/-! ### Counting -/

theorem inj_len {α β : Type} [DecidableEq β] : ∀ (xs : List α) (ys : List β) (f : α → β), xs.Nodup → (∀ x ∈ xs, f x ∈ ys) → (∀ x ∈ xs, ∀ y ∈ xs, f x = f y → x = y) → xs.length ≤ ys.length
  | [], _, _, _, _, _ => Nat.zero_le _
  | x :: xs, ys, f, nd, hm, hi => by
    have nd' := List.nodup_cons.1 nd
    have h1 : f x ∈ ys := hm x (by simp)
    have := inj_len xs (ys.erase (f x)) f nd'.2 (fun y hy => (List.mem_erase_of_ne (fun e => nd'.1 (by rw [hi x (by simp) y (by simp [hy]) e.symm]; exact hy))).2 (hm y (by simp [hy]))) (fun a ha b hb => hi a (by simp [ha]) b (by simp [hb]))
    rw [List.length_erase_of_mem h1] at this
    have := List.length_pos_of_mem h1
    simp only [List.length_cons]
    omega

theorem nodup_lt_len {n : Nat} {l : List Nat} (h : l.Nodup) (hl : ∀ x ∈ l, x < n) : l.length ≤ n := by
  have := inj_len l (List.range n) id h (fun x hx => List.mem_range.2 (hl x hx)) (fun _ _ _ _ e => e)
  simpa using this

/-- Two ascending lists with the same members are one. -/
theorem sorted_ext : ∀ {a b : List Nat}, a.Pairwise (· < ·) → b.Pairwise (· < ·) → (∀ x, x ∈ a ↔ x ∈ b) → a = b
  | [], [], _, _, _ => rfl
  | [], y :: b, _, _, h => absurd ((h y).2 (by simp)) (by simp)
  | x :: a, [], _, _, h => absurd ((h x).1 (by simp)) (by simp)
  | x :: a, y :: b, ha, hb, h => by
    have ha' := List.pairwise_cons.1 ha
    have hb' := List.pairwise_cons.1 hb
    have e : x = y := by
      have h1 := (h x).1 (by simp)
      have h2 := (h y).2 (by simp)
      rw [List.mem_cons] at h1 h2
      rcases h1 with h1 | h1
      · exact h1
      · rcases h2 with h2 | h2
        · exact h2.symm
        · have := hb'.1 x h1; have := ha'.1 y h2; omega
    subst e
    rw [sorted_ext ha'.2 hb'.2 fun z => ?_]
    have hz := h z
    rw [List.mem_cons, List.mem_cons] at hz
    constructor
    · intro hh
      rcases hz.1 (Or.inr hh) with e | e
      · subst e; have := ha'.1 z hh; omega
      · exact e
    · intro hh
      rcases hz.2 (Or.inr hh) with e | e
      · subst e; have := hb'.1 z hh; omega
      · exact e

theorem nodup_of_sorted {a : List Nat} (h : a.Pairwise (· < ·)) : a.Nodup := h.imp fun h => by omega

def nats (l : List Nat) : List Int := l.map (fun n : Nat => (n : Int))
theorem nats_length (l : List Nat) : (nats l).length = l.length := List.length_map ..
theorem nats_inj {a b : List Nat} (h : nats a = nats b) : a = b := by
  induction a generalizing b with
  | nil => cases b <;> simp [nats] at h ⊢
  | cons x a ih =>
    cases b with
    | nil => simp [nats] at h
    | cons y b =>
      simp only [nats, List.map_cons, List.cons.injEq] at h
      rw [ih h.2, show x = y by omega]
theorem nats_at {l : List Nat} {k : Nat} {z : Int} (h : (nats l)[k]? = some z) : ∃ c : Nat, z = c ∧ l[k]? = some c := by
  rw [nats, List.getElem?_map] at h
  cases hl : l[k]? with
  | none => rw [hl] at h; cases h
  | some c => rw [hl] at h; exact ⟨c, by simpa using h.symm, rfl⟩

/-! ### Steps in a grid of n cells, W in a row -/

def nbs (W n c : Nat) : List Nat :=
  (if W ≤ c then [c - W] else []) ++ (if 0 < c % W then [c - 1] else []) ++ (if c % W + 1 < W then [c + 1] else []) ++ (if c + W < n then [c + W] else [])

theorem nbs_mem {W n c k : Nat} : k ∈ nbs W n c ↔ (W ≤ c ∧ k = c - W) ∨ (0 < c % W ∧ k = c - 1) ∨ (c % W + 1 < W ∧ k = c + 1) ∨ (c + W < n ∧ k = c + W) := by
  unfold nbs
  simp only [List.mem_append]
  by_cases h1 : W ≤ c <;> by_cases h2 : 0 < c % W <;> by_cases h3 : c % W + 1 < W <;> by_cases h4 : c + W < n <;> simp [h1, h2, h3, h4] <;> omega

theorem mod_pred {W c : Nat} (h : 0 < c % W) : (c - 1) % W = c % W - 1 := by
  rcases Nat.eq_zero_or_pos W with h0 | hW
  · subst h0; simp
  · have e := Nat.div_add_mod c W
    have hlt := Nat.mod_lt c hW
    have : c - 1 = W * (c / W) + (c % W - 1) := by omega
    rw [this, Nat.mul_add_mod, Nat.mod_eq_of_lt (by omega)]
theorem mod_succ {W c : Nat} (h : c % W + 1 < W) : (c + 1) % W = c % W + 1 := by
  have e := Nat.div_add_mod c W
  have : c + 1 = W * (c / W) + (c % W + 1) := by omega
  rw [this, Nat.mul_add_mod, Nat.mod_eq_of_lt h]
theorem div_lt {W H c : Nat} (h : c < H * W) : c / W < H := Nat.div_lt_of_lt_mul (by rw [Nat.mul_comm]; exact h)
theorem row_end {W H c : Nat} (h : c < H * W) : W * (c / W) + W ≤ H * W := by
  have h1 := div_lt h
  have h2 : W * (c / W + 1) ≤ W * H := Nat.mul_le_mul_left W h1
  rw [Nat.mul_add, Nat.mul_comm W H] at h2
  omega

/-- A graph of n cells: no step leads out, each leads back. -/
structure Gr (n : Nat) (nb : Nat → List Nat) : Prop where
  lt : ∀ c k, c < n → k ∈ nb c → k < n
  sym : ∀ c k, c < n → k ∈ nb c → c ∈ nb k
  ne : ∀ c k, k ∈ nb c → k ≠ c

theorem gr_nbs {W H : Nat} (hW : 0 < W) : Gr (H * W) (nbs W (H * W)) where
  lt c k hc hk := by
    have e := Nat.div_add_mod c W
    have r := row_end hc
    rcases nbs_mem.1 hk with h | h | h | h <;> omega
  sym c k hc hk := by
    have hm := Nat.mod_lt c hW
    rcases nbs_mem.1 hk with ⟨h, rfl⟩ | ⟨h, rfl⟩ | ⟨h, rfl⟩ | ⟨h, rfl⟩
    · exact nbs_mem.2 (.inr (.inr (.inr ⟨by omega, by omega⟩)))
    · refine nbs_mem.2 (.inr (.inr (.inl ⟨by rw [mod_pred h]; omega, ?_⟩)))
      have : c ≠ 0 := by rintro rfl; simp at h
      omega
    · exact nbs_mem.2 (.inr (.inl ⟨by rw [mod_succ h]; omega, by omega⟩))
    · exact nbs_mem.2 (.inl ⟨by omega, by omega⟩)
  ne c k hk := by
    rcases nbs_mem.1 hk with h | h | h | h
    · omega
    · have : c ≠ 0 := by rintro rfl; simp at h
      omega
    · omega
    · omega

/-! ### What can be reached -/

inductive Rch (nb : Nat → List Nat) (ok : Nat → Bool) : Nat → Nat → Prop
  | refl {i : Nat} : ok i = true → Rch nb ok i i
  | step {i j k : Nat} : Rch nb ok i j → k ∈ nb j → ok k = true → Rch nb ok i k

section
variable {n : Nat} {nb : Nat → List Nat} {ok ok' : Nat → Bool} {i j k : Nat}
theorem Rch.left (h : Rch nb ok i j) : ok i = true := by
  induction h with
  | refl h => exact h
  | step _ _ _ ih => exact ih
theorem Rch.right (h : Rch nb ok i j) : ok j = true := by
  cases h with
  | refl h => exact h
  | step _ _ h => exact h
theorem Rch.trans (h : Rch nb ok i j) (g : Rch nb ok j k) : Rch nb ok i k := by
  induction g with
  | refl _ => exact h
  | step _ h1 h2 ih => exact ih.step h1 h2
theorem Rch.mono (hm : ∀ i, ok i = true → ok' i = true) (h : Rch nb ok i j) : Rch nb ok' i j := by
  induction h with
  | refl h => exact .refl (hm _ h)
  | step _ h1 h2 ih => exact ih.step h1 (hm _ h2)
theorem Rch.symm (G : Gr n nb) (hk : ∀ i, ok i = true → i < n) (h : Rch nb ok i j) : Rch nb ok j i := by
  induction h with
  | refl h => exact .refl h
  | step h0 h1 h2 ih => exact ((Rch.refl h2).step (G.sym _ _ (hk _ h0.right) h1) h0.right).trans ih
/-- without one cell -/
def okW (ok : Nat → Bool) (v : Nat) (i : Nat) : Bool := ok i && decide (i ≠ v)
theorem okW_iff {v : Nat} : okW ok v i = true ↔ ok i = true ∧ i ≠ v := by simp [okW]
theorem Rch.avoid {v : Nat} (h : Rch nb ok i j) (hv : ¬ Rch nb ok i v) : Rch nb (okW ok v) i j := by
  induction h with
  | refl h => exact .refl (okW_iff.2 ⟨h, fun e => hv (by subst e; exact .refl h)⟩)
  | step h0 h1 h2 ih => exact ih.step h1 (okW_iff.2 ⟨h2, fun e => hv (by subst e; exact h0.step h1 h2)⟩)
end

/-! ### Numbered fields -/

def at_ (fs : List Int) (i : Nat) : Int := fs.getD i (-1)
theorem at_of {fs : List Int} {i : Nat} {z : Int} (h : fs[i]? = some z) : at_ fs i = z := by simp [at_, List.getD_eq_getElem?_getD, h]
theorem of_at {fs : List Int} {i : Nat} (h : i < fs.length) : fs[i]? = some (at_ fs i) := by simp [at_, List.getD_eq_getElem?_getD, h]
theorem at_out {fs : List Int} {i : Nat} (h : fs.length ≤ i) : at_ fs i = -1 := by simp [at_, List.getD_eq_getElem?_getD, h]
theorem at_lt {fs : List Int} {i : Nat} (h : 0 ≤ at_ fs i) : i < fs.length := by
  rcases Nat.lt_or_ge i fs.length with h1 | h1
  · exact h1
  · rw [at_out h1] at h; omega
theorem at_set (fs : List Int) (i j : Nat) (z : Int) (h : i < fs.length) : at_ (fs.set i z) j = if j = i then z else at_ fs j := by
  unfold at_
  rw [List.getD_eq_getElem?_getD, List.getElem?_set]
  by_cases e : i = j
  · subst e; simp [h]
  · rw [if_neg e, if_neg (fun x => e x.symm), List.getD_eq_getElem?_getD]
theorem at_rep (n j : Nat) : at_ (List.replicate n (-1)) j = -1 := by
  unfold at_
  rw [List.getD_eq_getElem?_getD, List.getElem?_replicate]
  split <;> rfl
theorem ext_at {a b : List Int} (hl : a.length = b.length) (h : ∀ i, at_ a i = at_ b i) : a = b := by
  apply List.ext_getElem?
  intro i
  rcases Nat.lt_or_ge i a.length with h1 | h1
  · rw [of_at h1, of_at (by omega), h i]
  · rw [List.getElem?_eq_none h1, List.getElem?_eq_none (by omega)]

/-- Each cell has the number of its field; fields are numbered by their first cells. -/
structure Lab (n : Nat) (nb : Nat → List Nat) (ok : Nat → Bool) (fs : List Int) : Prop where
  len : fs.length = n
  neg : ∀ i, ok i = false → at_ fs i = -1
  pos : ∀ i, ok i = true → 0 ≤ at_ fs i
  con : ∀ i j, Rch nb ok i j → at_ fs i = at_ fs j
  sep : ∀ i j, 0 ≤ at_ fs i → at_ fs i = at_ fs j → Rch nb ok i j
  fst : ∀ i c, 0 ≤ c → c < at_ fs i → ∃ j, j < i ∧ at_ fs j = c

section
variable {n : Nat} {nb : Nat → List Nat} {ok : Nat → Bool}
theorem Lab.uniq {fs gs : List Int} (a : Lab n nb ok fs) (b : Lab n nb ok gs) : fs = gs := by
  refine ext_at (by rw [a.len, b.len]) fun i => ?_
  induction i using Nat.strongRecOn with
  | _ i ih =>
    cases h : ok i with
    | false => rw [a.neg i h, b.neg i h]
    | true =>
      have ha := a.pos i h
      have hb := b.pos i h
      rcases Int.lt_trichotomy (at_ fs i) (at_ gs i) with g | g | g
      · obtain ⟨j, hj, e⟩ := b.fst i _ ha g
        have e2 := ih j hj
        have := b.con i j (a.sep i j ha (by omega))
        omega
      · exact g
      · obtain ⟨j, hj, e⟩ := a.fst i _ hb g
        have e2 := ih j hj
        have := a.con i j (b.sep i j hb (by omega))
        omega

/-- The fields of the cells reached from those below k have numbers less than N. -/
structure PLab (n : Nat) (nb : Nat → List Nat) (ok : Nat → Bool) (k : Nat) (N : Int) (fs : List Int) : Prop where
  len : fs.length = n
  neg : ∀ i, 0 ≤ at_ fs i ∨ at_ fs i = -1
  some_ : ∀ i, 0 ≤ at_ fs i → ∃ j, j < k ∧ Rch nb ok j i
  all : ∀ i j, j < k → Rch nb ok j i → 0 ≤ at_ fs i
  lt : ∀ i, at_ fs i < N
  con : ∀ i j, Rch nb ok i j → at_ fs i = at_ fs j
  sep : ∀ i j, 0 ≤ at_ fs i → at_ fs i = at_ fs j → Rch nb ok i j
  fst : ∀ i c, 0 ≤ c → c < at_ fs i → ∃ j, j < i ∧ at_ fs j = c
  occ : ∀ c, 0 ≤ c → c < N → ∃ j, j < k ∧ at_ fs j = c
  nn : 0 ≤ N

theorem PLab.start : PLab n nb ok 0 0 (List.replicate n (-1)) where
  len := by simp
  neg i := .inr (at_rep n i)
  some_ i h := by rw [at_rep] at h; omega
  all i j h := by omega
  lt i := by rw [at_rep]; omega
  con i j _ := by rw [at_rep, at_rep]
  sep i j h := by rw [at_rep] at h; omega
  fst i c h h' := by rw [at_rep] at h'; omega
  occ c h h' := by omega
  nn := by omega
theorem PLab.skip {k : Nat} {N : Int} {fs : List Int} (p : PLab n nb ok k N fs) (h : ok k = false ∨ 0 ≤ at_ fs k) : PLab n nb ok (k + 1) N fs where
  len := p.len
  neg := p.neg
  some_ i hi := by obtain ⟨j, hj, hr⟩ := p.some_ i hi; exact ⟨j, by omega, hr⟩
  all i j hj hr := by
    rcases Nat.lt_or_ge j k with h1 | h1
    · exact p.all i j h1 hr
    · obtain rfl : j = k := by omega
      rcases h with h | h
      · rw [hr.left] at h; cases h
      · rw [← p.con j i hr]; exact h
  lt := p.lt
  con := p.con
  sep := p.sep
  fst := p.fst
  occ c h0 h1 := by obtain ⟨j, hj, e⟩ := p.occ c h0 h1; exact ⟨j, by omega, e⟩
  nn := p.nn
/-- the cells of an unnumbered cell's field have no numbers yet -/
theorem PLab.free (G : Gr n nb) (hk : ∀ i, ok i = true → i < n) {k : Nat} {N : Int} {fs : List Int} (p : PLab n nb ok k N fs) (hn : at_ fs k < 0) {i : Nat} (h : Rch nb ok k i) : at_ fs i < 0 := by
  have := p.con k i h
  omega
theorem PLab.fill (G : Gr n nb) (hk : ∀ i, ok i = true → i < n) {k : Nat} {N : Int} {fs gs : List Int} (p : PLab n nb ok k N fs) (hok : ok k = true) (hn : at_ fs k < 0)
    (hl : gs.length = n) (h1 : ∀ i, Rch nb ok k i → at_ gs i = N) (h2 : ∀ i, ¬ Rch nb ok k i → at_ gs i = at_ fs i) : PLab n nb ok (k + 1) (N + 1) gs := by
  have hN := p.nn
  have ge : ∀ i, Rch nb ok k i → k ≤ i := fun i hr => by
    rcases Nat.lt_or_ge i k with h | h
    · have := p.all i i h (.refl hr.right)
      have := p.con k i hr
      omega
    · exact h
  have old : ∀ i, i < k → at_ gs i = at_ fs i := fun i hi => h2 i fun hr => by have := ge i hr; omega
  refine ⟨hl, ?_, ?_, ?_, ?_, ?_, ?_, ?_, ?_, by omega⟩
  · intro i
    by_cases h : Rch nb ok k i
    · exact .inl (by rw [h1 i h]; exact hN)
    · rw [h2 i h]; exact p.neg i
  · intro i hi
    by_cases h : Rch nb ok k i
    · exact ⟨k, by omega, h⟩
    · rw [h2 i h] at hi
      obtain ⟨j, hj, hr⟩ := p.some_ i hi
      exact ⟨j, by omega, hr⟩
  · intro i j hj hr
    by_cases h : Rch nb ok k i
    · rw [h1 i h]; exact hN
    · rw [h2 i h]
      rcases Nat.lt_or_ge j k with h3 | h3
      · exact p.all i j h3 hr
      · obtain rfl : j = k := by omega
        exact absurd hr h
  · intro i
    by_cases h : Rch nb ok k i
    · rw [h1 i h]; omega
    · rw [h2 i h]; have := p.lt i; omega
  · intro i j hr
    by_cases h : Rch nb ok k i
    · rw [h1 i h, h1 j (h.trans hr)]
    · rw [h2 i h, h2 j (fun g => h (g.trans (hr.symm G hk)))]
      exact p.con i j hr
  · intro i j hi e
    by_cases h : Rch nb ok k i
    · by_cases h' : Rch nb ok k j
      · exact (h.symm G hk).trans h'
      · rw [h1 i h, h2 j h'] at e
        have := p.lt j
        omega
    · by_cases h' : Rch nb ok k j
      · rw [h2 i h, h1 j h'] at e
        have := p.lt i
        omega
      · rw [h2 i h] at hi
        rw [h2 i h, h2 j h'] at e
        exact p.sep i j hi e
  · intro i c h0 hc
    by_cases h : Rch nb ok k i
    · rw [h1 i h] at hc
      obtain ⟨j, hj, e⟩ := p.occ c h0 hc
      have := ge i h
      exact ⟨j, by omega, by rw [old j hj]; exact e⟩
    · rw [h2 i h] at hc
      obtain ⟨j, hj, e⟩ := p.fst i c h0 hc
      refine ⟨j, hj, ?_⟩
      rw [h2 j fun hr => ?_]
      · exact e
      · have := p.con k j hr
        omega
  · intro c h0 hc
    rcases Int.lt_or_eq_of_le (show c ≤ N by omega) with h | h
    · obtain ⟨j, hj, e⟩ := p.occ c h0 h
      exact ⟨j, by omega, by rw [old j hj]; exact e⟩
    · exact ⟨k, by omega, by rw [h1 k (.refl hok)]; exact h.symm⟩

/-- the greatest number of a list, -1 if it is empty -/
def hi (l : List Int) : Int := l.foldl (fun m z => if m < z then z else m) (-1)
theorem hi_snoc (l : List Int) (z : Int) : hi (l ++ [z]) = if hi l < z then z else hi l := by
  unfold hi
  rw [List.foldl_append]
  rfl
theorem hiG : ∀ (l : List Int) (m : Int), m ≤ l.foldl (fun m z => if m < z then z else m) m ∧ (∀ z ∈ l, z ≤ l.foldl (fun m z => if m < z then z else m) m) ∧ (l.foldl (fun m z => if m < z then z else m) m = m ∨ l.foldl (fun m z => if m < z then z else m) m ∈ l)
  | [], m => ⟨Int.le_refl _, by simp, .inl rfl⟩
  | z :: l, m => by
    have h := hiG l (if m < z then z else m)
    simp only [List.foldl_cons]
    have hm : m ≤ (if m < z then z else m) ∧ z ≤ (if m < z then z else m) := by split <;> omega
    refine ⟨Int.le_trans hm.1 h.1, ?_, ?_⟩
    · intro y hy
      rw [List.mem_cons] at hy
      rcases hy with rfl | hy
      · exact Int.le_trans hm.2 h.1
      · exact h.2.1 y hy
    · rcases h.2.2 with e | e
      · rw [e]
        by_cases hh : m < z
        · rw [if_pos hh]; exact .inr (by simp)
        · rw [if_neg hh]; exact .inl rfl
      · exact .inr (by simp [e])
theorem hi_ge (l : List Int) : -1 ≤ hi l := (hiG l (-1)).1
theorem hi_le {l : List Int} {z : Int} (h : z ∈ l) : z ≤ hi l := (hiG l (-1)).2.1 z h
theorem hi_mem (l : List Int) : hi l = -1 ∨ hi l ∈ l := (hiG l (-1)).2.2
theorem at_mem {l : List Int} {i : Nat} (h : i < l.length) : at_ l i ∈ l := List.mem_of_getElem? (of_at h)
theorem at_hi (l : List Int) (i : Nat) : at_ l i ≤ hi l := by
  rcases Nat.lt_or_ge i l.length with h | h
  · exact hi_le (at_mem h)
  · rw [at_out h]; exact hi_ge l
theorem hi_at {l : List Int} (h : 0 ≤ hi l) : ∃ i, i < l.length ∧ at_ l i = hi l := by
  rcases hi_mem l with e | e
  · omega
  · obtain ⟨i, hi'⟩ := List.mem_iff_getElem?.1 e
    exact ⟨i, (List.getElem?_eq_some_iff.1 hi').1, at_of hi'⟩
theorem PLab.done (hk : ∀ i, ok i = true → i < n) {N : Int} {fs : List Int} (p : PLab n nb ok n N fs) : Lab n nb ok fs where
  len := p.len
  neg i h := by
    rcases p.neg i with h1 | h1
    · obtain ⟨j, _, hr⟩ := p.some_ i h1
      rw [hr.right] at h; cases h
    · exact h1
  pos i h := p.all i i (hk i h) (.refl h)
  con := p.con
  sep := p.sep
  fst := p.fst
end

end Go.Proofs.Ytggdnpaiaijhgaa

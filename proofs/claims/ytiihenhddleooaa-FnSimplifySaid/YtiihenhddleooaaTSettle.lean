/- Settled debts (pure): what is left after each debt, and the list of the debts. -/
import Derived.Test.YtiihenhddleooaaTMath
namespace Go.Proofs.Ytiihenhddleooaa
open Go.RowKit
set_option linter.unusedVariables false
set_option linter.unusedSimpArgs false
/-- the first number of a sign -/
def negB (z : Int) : Bool := decide (z < 0)
def posB (z : Int) : Bool := decide (0 < z)
def fstF (p : Int → Bool) (l : List Int) : Nat := l.findIdx p
theorem fstF_le (p : Int → Bool) (l : List Int) : fstF p l ≤ l.length := List.findIdx_le_length
theorem fstF_lt {p : Int → Bool} {l : List Int} (h : fstF p l < l.length) : p (at_ l (fstF p l)) = true := by
  have := List.findIdx_getElem (xs := l) (p := p) (w := h)
  unfold fstF at *
  rwa [at_of (List.getElem?_eq_getElem h)]
theorem fstF_before {p : Int → Bool} {l : List Int} {i : Nat} (h : i < fstF p l) : p (at_ l i) = false := by
  have hl : i < l.length := Nat.lt_of_lt_of_le h (fstF_le p l)
  have := List.not_of_lt_findIdx (xs := l) (p := p) (i := i) h
  rw [at_of (List.getElem?_eq_getElem hl)]
  simpa using this
theorem fstF_hit {p : Int → Bool} {l : List Int} {i : Nat} (hi : i < l.length) (h : p (at_ l i) = true) (hb : ∀ j, j < i → p (at_ l j) = false) : fstF p l = i := by
  have h1 : ¬ i < fstF p l := fun g => by rw [fstF_before g] at h; cases h
  have h2 : ¬ fstF p l < i := fun g => by
    have := fstF_lt (p := p) (l := l) (by omega)
    rw [hb _ g] at this; cases this
  omega
theorem fstF_none {p : Int → Bool} {l : List Int} (hb : ∀ j, j < l.length → p (at_ l j) = false) : fstF p l = l.length := by
  have h1 := fstF_le p l
  have h2 : ¬ fstF p l < l.length := fun g => by
    have := fstF_lt g
    rw [hb _ g] at this; cases this
  omega
/-- one debt is settled: what is left -/
def amtF (l : List Int) : Int := if - at_ l (fstF negB l) < at_ l (fstF posB l) then - at_ l (fstF negB l) else at_ l (fstF posB l)
def stepS (l : List Int) : List Int := (l.set (fstF negB l) (at_ l (fstF negB l) + amtF l)).set (fstF posB l) (at_ l (fstF posB l) - amtF l)
theorem stepS_len (l : List Int) : (stepS l).length = l.length := by simp [stepS]
def goS (l : List Int) : Bool := decide (fstF negB l < l.length) && decide (fstF posB l < l.length)
theorem goS_t {l : List Int} (h : goS l = true) : fstF negB l < l.length ∧ fstF posB l < l.length := by
  unfold goS at h
  rw [Bool.and_eq_true, decide_eq_true_eq, decide_eq_true_eq] at h
  exact h
theorem goS_vals {l : List Int} (h : goS l = true) : at_ l (fstF negB l) < 0 ∧ 0 < at_ l (fstF posB l) ∧ fstF negB l ≠ fstF posB l := by
  obtain ⟨h1, h2⟩ := goS_t h
  have e1 := of_decide_eq_true (fstF_lt h1)
  have e2 := of_decide_eq_true (fstF_lt h2)
  exact ⟨e1, e2, fun e => by rw [e] at e1; omega⟩
theorem amtF_bd {l : List Int} (h : goS l = true) : 1 ≤ amtF l ∧ amtF l ≤ - at_ l (fstF negB l) ∧ amtF l ≤ at_ l (fstF posB l) ∧ (amtF l = - at_ l (fstF negB l) ∨ amtF l = at_ l (fstF posB l)) := by
  obtain ⟨h1, h2, _⟩ := goS_vals h
  unfold amtF
  split <;> omega
theorem stepS_at {l : List Int} (h : goS l = true) (p : Nat) : at_ (stepS l) p = at_ l p + ((if p = fstF negB l then amtF l else 0) - (if p = fstF posB l then amtF l else 0)) := by
  obtain ⟨h1, h2⟩ := goS_t h
  obtain ⟨_, _, hne⟩ := goS_vals h
  unfold stepS
  rw [at_set _ _ _ _ (by rw [List.length_set]; exact h2), at_set _ _ _ _ h1]
  by_cases e1 : p = fstF posB l
  · rw [if_pos e1, if_pos e1, if_neg (fun e => hne (e.symm.trans e1))]; rw [e1]; omega
  · rw [if_neg e1, if_neg e1]
    by_cases e2 : p = fstF negB l
    · rw [if_pos e2, if_pos e2, e2]; omega
    · rw [if_neg e2, if_neg e2]; omega
def owe (l : List Int) : Cu := ((fstF negB l : Nat), (fstF posB l : Nat), amtF l)
/-- how many numbers are not 0 -/
def nzF (l : List Int) : Nat := l.countP (fun z => !(z == 0))
theorem nzF_le (l : List Int) : nzF l ≤ l.length := List.countP_le_length
theorem nzF_set {l : List Int} {i : Nat} {z : Int} (h : i < l.length) : nzF (l.set i z) + (if at_ l i = 0 then 0 else 1) = nzF l + (if z = 0 then 0 else 1) := by
  induction l generalizing i with
  | nil => simp at h
  | cons a l ih =>
    cases i with
    | zero =>
      unfold nzF
      rw [List.set_cons_zero, List.countP_cons, List.countP_cons, show at_ (a :: l) 0 = a from rfl]
      by_cases e1 : a = 0 <;> by_cases e2 : z = 0 <;> simp [e1, e2]
    | succ i =>
      simp only [List.length_cons] at h
      have := ih (i := i) (by omega)
      unfold nzF at this ⊢
      rw [List.set_cons_succ, List.countP_cons, List.countP_cons, show at_ (a :: l) (i + 1) = at_ l i from rfl]
      omega
theorem nzF_zero {l : List Int} (h : nzF l = 0) : ∀ i, i < l.length → at_ l i = 0 := fun i hi => by
  unfold nzF at h
  rw [List.countP_eq_zero] at h
  have := h _ (List.mem_of_getElem? (of_at hi))
  simpa using this
/-- each debt leaves nothing of one more; if of both, two fewer -/
theorem nzF_step {l : List Int} (h : goS l = true) : nzF (stepS l) < nzF l := by
  obtain ⟨h1, h2⟩ := goS_t h
  obtain ⟨g1, g2, hne⟩ := goS_vals h
  obtain ⟨a1, a2, a3, a4⟩ := amtF_bd h
  have e1 := nzF_set (l := l) (i := fstF negB l) (z := at_ l (fstF negB l) + amtF l) h1
  have e2 := nzF_set (l := l.set (fstF negB l) (at_ l (fstF negB l) + amtF l)) (i := fstF posB l) (z := at_ l (fstF posB l) - amtF l) (by rw [List.length_set]; exact h2)
  have hne2 : ¬ fstF posB l = fstF negB l := fun e => hne e.symm
  rw [at_set _ _ _ _ h1, if_neg hne2] at e2
  unfold stepS
  generalize at_ l (fstF negB l) = x at *
  generalize at_ l (fstF posB l) = y at *
  generalize amtF l = a at *
  rw [if_neg (show ¬ x = 0 by omega)] at e1
  rw [if_neg (show ¬ y = 0 by omega)] at e2
  rcases a4 with a4 | a4
  · rw [if_pos (show x + a = 0 by omega)] at e1
    have : (if y - a = 0 then 0 else 1) ≤ 1 := by split <;> omega
    omega
  · rw [if_pos (show y - a = 0 by omega)] at e2
    have : (if x + a = 0 then 0 else 1) ≤ 1 := by split <;> omega
    omega
theorem sum_set (l : List Int) (i : Nat) (z : Int) (h : i < l.length) : (l.set i z).sum = l.sum + (z - at_ l i) := by
  induction l generalizing i with
  | nil => simp at h
  | cons a l ih =>
    cases i with
    | zero => rw [List.set_cons_zero, List.sum_cons, List.sum_cons, show at_ (a :: l) 0 = a from rfl]; omega
    | succ i =>
      simp only [List.length_cons] at h
      rw [List.set_cons_succ, List.sum_cons, List.sum_cons, show at_ (a :: l) (i + 1) = at_ l i from rfl, ih i (by omega)]; omega
theorem stepS_sum {l : List Int} (h : goS l = true) : (stepS l).sum = l.sum := by
  obtain ⟨h1, h2⟩ := goS_t h
  obtain ⟨_, _, hne⟩ := goS_vals h
  unfold stepS
  rw [sum_set _ _ _ (by rw [List.length_set]; exact h2), sum_set _ _ _ h1, at_set _ _ _ _ h1, if_neg (fun e => hne e.symm)]
  omega
/-- numbers that are 0 together: one owes where another one gets -/
theorem sum_neg : ∀ {l : List Int}, (∀ i, i < l.length → at_ l i ≤ 0) → l.sum ≤ 0 ∧ (∀ i, i < l.length → l.sum ≤ at_ l i)
  | [], _ => ⟨by simp, fun i h => by simp at h⟩
  | a :: l, h => by
    have h0 : a ≤ 0 := h 0 (by simp)
    have ih := sum_neg (l := l) fun i hi => h (i + 1) (by simp; omega)
    rw [List.sum_cons]
    refine ⟨by omega, fun i hi => ?_⟩
    cases i with
    | zero => show a + l.sum ≤ a; omega
    | succ i => have := ih.2 i (by simpa using hi); show a + l.sum ≤ at_ l i; omega
theorem sum_pos : ∀ {l : List Int}, (∀ i, i < l.length → 0 ≤ at_ l i) → 0 ≤ l.sum ∧ (∀ i, i < l.length → at_ l i ≤ l.sum)
  | [], _ => ⟨by simp, fun i h => by simp at h⟩
  | a :: l, h => by
    have h0 : 0 ≤ a := h 0 (by simp)
    have ih := sum_pos (l := l) fun i hi => h (i + 1) (by simp; omega)
    rw [List.sum_cons]
    refine ⟨by omega, fun i hi => ?_⟩
    cases i with
    | zero => show a ≤ a + l.sum; omega
    | succ i => have := ih.2 i (by simpa using hi); show at_ l i ≤ a + l.sum; omega
theorem neg_pos {l : List Int} (hs : l.sum = 0) (h : fstF negB l < l.length) : fstF posB l < l.length := by
  have h1 := of_decide_eq_true (fstF_lt h)
  by_cases g : fstF posB l < l.length
  · exact g
  · exfalso
    have hp : ∀ i, i < l.length → at_ l i ≤ 0 := fun i hi => by
      have := fstF_before (p := posB) (l := l) (i := i) (by omega)
      unfold posB at this
      rw [decide_eq_false_iff_not] at this; omega
    have := (sum_neg hp).2 _ h
    omega
theorem pos_neg {l : List Int} (hs : l.sum = 0) (h : fstF posB l < l.length) : fstF negB l < l.length := by
  have h1 := of_decide_eq_true (fstF_lt h)
  by_cases g : fstF negB l < l.length
  · exact g
  · exfalso
    have hp : ∀ i, i < l.length → 0 ≤ at_ l i := fun i hi => by
      have := fstF_before (p := negB) (l := l) (i := i) (by omega)
      unfold negB at this
      rw [decide_eq_false_iff_not] at this; omega
    have := (sum_pos hp).2 _ h
    omega
/-- nothing is left where nobody owes -/
theorem done_zero {l : List Int} (hs : l.sum = 0) (h : goS l = false) : ∀ i, i < l.length → at_ l i = 0 := by
  have h1 : ¬ fstF negB l < l.length := fun g => by
    have := neg_pos hs g
    unfold goS at h
    rw [decide_eq_true g, decide_eq_true this] at h; cases h
  have h2 : ¬ fstF posB l < l.length := fun g => h1 (pos_neg hs g)
  intro i hi
  have e1 := fstF_before (p := negB) (l := l) (i := i) (by omega)
  have e2 := fstF_before (p := posB) (l := l) (i := i) (by omega)
  unfold negB at e1
  unfold posB at e2
  rw [decide_eq_false_iff_not] at e1 e2
  omega
def stF : Nat → List Int → List Cu
  | 0, _ => []
  | n + 1, l => if goS l then owe l :: stF n (stepS l) else []
theorem stF_len : ∀ n l, (stF n l).length ≤ n
  | 0, _ => Nat.le_refl _
  | n + 1, l => by
    unfold stF
    split
    · have := stF_len n (stepS l); simp; omega
    · simp
theorem stF_no {n : Nat} {l : List Int} (h : goS l = false) : stF n l = [] := by
  cases n with
  | zero => rfl
  | succ n => unfold stF; rw [h]; rfl
theorem stF_go {n : Nat} {l : List Int} (h : goS l = true) : stF (n + 1) l = owe l :: stF n (stepS l) := by
  rw [stF, if_pos h]
/-- each balance is 0 behind all of them -/
theorem stF_bal : ∀ {n : Nat} {l : List Int}, nzF l ≤ n → l.sum = 0 → ∀ p : Nat, p < l.length → balR p (stF n l) = at_ l p
  | 0, l, hn, hs, p, hp => by
    have := nzF_zero (l := l) (by omega) p hp
    rw [this]; rfl
  | n + 1, l, hn, hs, p, hp => by
    cases h : goS l
    · rw [stF_no h, done_zero hs h p hp]; rfl
    · rw [stF_go h]
      have ih := stF_bal (n := n) (l := stepS l) (by have := nzF_step h; omega) (by rw [stepS_sum h]; exact hs) p (by rw [stepS_len]; exact hp)
      show (if (owe l).2.1 = (p : Int) then (owe l).2.2 else 0) - (if (owe l).1 = (p : Int) then (owe l).2.2 else 0) + balR p (stF n (stepS l)) = _
      rw [ih, stepS_at h p]
      show (if ((fstF posB l : Nat) : Int) = (p : Int) then amtF l else 0) - (if ((fstF negB l : Nat) : Int) = (p : Int) then amtF l else 0) + _ = _
      by_cases e1 : p = fstF posB l <;> by_cases e2 : p = fstF negB l
      · rw [if_pos (by omega), if_pos (by omega), if_pos e1, if_pos e2]; omega
      · rw [if_pos (by omega), if_neg (by omega), if_pos e1, if_neg e2]; omega
      · rw [if_neg (by omega), if_pos (by omega), if_neg e1, if_pos e2]; omega
      · rw [if_neg (by omega), if_neg (by omega), if_neg e1, if_neg e2]; omega
/-- who is left to owe owed before, and as much at most -/
theorem step_sign {l : List Int} (h : goS l = true) (p : Nat) : (at_ (stepS l) p < 0 → at_ l p < 0) ∧ (0 < at_ (stepS l) p → 0 < at_ l p) := by
  obtain ⟨g1, g2, hne⟩ := goS_vals h
  obtain ⟨a1, a2, a3, _⟩ := amtF_bd h
  rw [stepS_at h]
  by_cases e1 : p = fstF negB l
  · rw [if_pos e1, if_neg (fun e => hne (e1.symm.trans e)), e1]; omega
  · rw [if_neg e1]
    by_cases e2 : p = fstF posB l
    · rw [if_pos e2, e2]; omega
    · rw [if_neg e2]; omega
theorem stF_mem : ∀ {n : Nat} {l : List Int} {c : Cu}, c ∈ stF n l → ∃ f t : Nat, c.1 = f ∧ c.2.1 = t ∧ f < l.length ∧ t < l.length ∧ at_ l f < 0 ∧ 0 < at_ l t ∧ 1 ≤ c.2.2
  | 0, _, _, h => by simp [stF] at h
  | n + 1, l, c, h => by
    cases hg : goS l
    · rw [stF_no hg] at h; simp at h
    · rw [stF_go hg] at h
      obtain ⟨h1, h2⟩ := goS_t hg
      obtain ⟨g1, g2, _⟩ := goS_vals hg
      obtain ⟨a1, _⟩ := amtF_bd hg
      rcases List.mem_cons.1 h with rfl | h
      · exact ⟨_, _, rfl, rfl, h1, h2, g1, g2, a1⟩
      · obtain ⟨f, t, e1, e2, e3, e4, e5, e6, e7⟩ := stF_mem h
        rw [stepS_len] at e3 e4
        exact ⟨f, t, e1, e2, e3, e4, (step_sign hg f).1 e5, (step_sign hg t).2 e6, e7⟩
/-- fewer than those who owe or get something -/
theorem stF_few : ∀ {n : Nat} {l : List Int}, l.sum = 0 → goS l = true → nzF l ≤ n → (stF n l).length < nzF l
  | 0, l, _, hg, hn => by
    have := nzF_step hg; omega
  | n + 1, l, hs, hg, hn => by
    rw [stF_go hg, List.length_cons]
    have h1 := nzF_step hg
    have hs2 : (stepS l).sum = 0 := by rw [stepS_sum hg]; exact hs
    cases hg2 : goS (stepS l)
    · rw [stF_no hg2]
      simp
      -- both were left with nothing
      have hz := done_zero hs2 hg2
      have hc : nzF l ≠ 1 := fun e => by
        obtain ⟨g1, g2⟩ := goS_t hg
        obtain ⟨v1, v2, hne⟩ := goS_vals hg
        have e1 := nzF_set (l := l) (i := fstF negB l) (z := 0) g1
        have e2 := nzF_set (l := l.set (fstF negB l) 0) (i := fstF posB l) (z := 0) (by rw [List.length_set]; exact g2)
        have hne2 : ¬ fstF posB l = fstF negB l := fun e => hne e.symm
        rw [at_set _ _ _ _ g1, if_neg hne2] at e2
        rw [if_neg (show ¬ at_ l (fstF negB l) = 0 by omega)] at e1
        rw [if_neg (show ¬ at_ l (fstF posB l) = 0 by omega)] at e2
        simp at e1 e2
        omega
      omega
    · have := stF_few (n := n) hs2 hg2 (by omega)
      omega
theorem balL_sum : ∀ (cs : List Cu), (∀ c ∈ cs, 0 ≤ c.1 ∧ c.1 ≤ 7 ∧ 0 ≤ c.2.1 ∧ c.2.1 ≤ 7) → (balL cs).sum = 0
  | [], _ => by decide
  | c :: l, h => by
    have ih := balL_sum l fun d hd => h d (List.mem_cons_of_mem _ hd)
    obtain ⟨h1, h2, h3, h4⟩ := h c (List.mem_cons_self ..)
    have e : ∀ cs, (balL cs).sum = balR 0 cs + (balR 1 cs + (balR 2 cs + (balR 3 cs + (balR 4 cs + (balR 5 cs + (balR 6 cs + (balR 7 cs + 0))))))) := fun cs => rfl
    have hs : ∀ p, balR p (c :: l) = (if c.2.1 = p then c.2.2 else 0) - (if c.1 = p then c.2.2 else 0) + balR p l := fun p => rfl
    rw [e] at ih ⊢
    simp only [hs]
    have q1 : c.1 = 0 ∨ c.1 = 1 ∨ c.1 = 2 ∨ c.1 = 3 ∨ c.1 = 4 ∨ c.1 = 5 ∨ c.1 = 6 ∨ c.1 = 7 := by omega
    have q2 : c.2.1 = 0 ∨ c.2.1 = 1 ∨ c.2.1 = 2 ∨ c.2.1 = 3 ∨ c.2.1 = 4 ∨ c.2.1 = 5 ∨ c.2.1 = 6 ∨ c.2.1 = 7 := by omega
    have r1 : ∀ (a : Int) (P : Int → Int), True := fun _ _ => trivial
    rcases q1 with q | q | q | q | q | q | q | q <;> rcases q2 with r | r | r | r | r | r | r | r <;> rw [q, r] <;> simp <;> omega
theorem balL_at_ {cs : List Cu} {p : Nat} (h : p < 8) : at_ (balL cs) p = balR p cs := at_of (balL_at h)
def setT (cs : List Cu) : List Cu := if okV dbV cs then stF 8 (balL cs) else []
theorem setT_ok {cs : List Cu} (h : okV dbV cs = true) : setT cs = stF 8 (balL cs) := by unfold setT; rw [h]; rfl
theorem setT_no {cs : List Cu} (h : okV dbV cs = false) : setT cs = [] := by unfold setT; rw [h]; rfl
theorem setT_le (cs : List Cu) : (setT cs).length ≤ 8 := by
  unfold setT
  split
  · exact stF_len _ _
  · simp
theorem dbs_in {cs : List Cu} (h : okV dbV cs = true) : ∀ c ∈ cs, 0 ≤ c.1 ∧ c.1 ≤ 7 ∧ 0 ≤ c.2.1 ∧ c.2.1 ≤ 7 := fun c hc => by
  have := dbV_t ((okV_mem.1 h).2 c hc)
  omega
theorem balL_sum0 {cs : List Cu} (h : okV dbV cs = true) : (balL cs).sum = 0 := balL_sum cs (dbs_in h)
/-- settled debts have the same balances -/
theorem setT_bal {cs : List Cu} (h : okV dbV cs = true) : balL (setT cs) = balL cs := by
  rw [setT_ok h]
  refine ext_at (by rw [balL_len, balL_len]) fun i => ?_
  by_cases hi : i < 8
  · rw [balL_at_ hi, stF_bal (by have := nzF_le (balL cs); rw [balL_len] at this; exact this) (balL_sum0 h) i (by rw [balL_len]; exact hi)]
  · rw [at_out (by rw [balL_len]; omega), at_out (by rw [balL_len]; omega)]
theorem setT_twice {cs : List Cu} (h : okV dbV cs = true) (h2 : okV dbV (setT cs) = true) : setT (setT cs) = setT cs := by
  conv => lhs; rw [setT_ok h2, setT_bal h]
  rw [setT_ok h]

end Go.Proofs.Ytiihenhddleooaa

/- Debts, bids and contracts (pure): what is valid, balances, pays, the worst pay, who is ahead. -/
import Derived.Test.YtiihenhddleooaaTWords
import Derived.Test.YtiihenhddleooaaFOrd
import Derived.Test.YtiihenhddleooaaPure
import Derived.Test.YtiihenhddleooaaGraph
namespace Go.Proofs.Ytiihenhddleooaa
open Go.RowKit
set_option linter.unusedVariables false
set_option linter.unusedSimpArgs false
def allV (p : Cu → Bool) (cs : List Cu) (n : Nat) : Bool := (List.range n).all (fun i => p (cuA cs i))
theorem allV_succ (p : Cu → Bool) (cs : List Cu) (n : Nat) : allV p cs (n + 1) = (allV p cs n && p (cuA cs n)) := by
  unfold allV
  rw [List.range_succ, List.all_append]
  simp
theorem allV_bad {p : Cu → Bool} {cs : List Cu} {i n : Nat} (hi : i < n) (h : p (cuA cs i) = false) : allV p cs n = false := by
  unfold allV
  rw [List.all_eq_false]
  exact ⟨i, List.mem_range.2 hi, by rw [h]; simp⟩
theorem allV_at {p : Cu → Bool} {cs : List Cu} {n i : Nat} (h : allV p cs n = true) (hi : i < n) : p (cuA cs i) = true := by
  unfold allV at h
  rw [List.all_eq_true] at h
  exact h i (List.mem_range.2 hi)
def okV (p : Cu → Bool) (cs : List Cu) : Bool := allV p cs cs.length && decide (cs.length ≤ 20)
theorem okV_t {p : Cu → Bool} {cs : List Cu} (h : okV p cs = true) : cs.length ≤ 20 ∧ allV p cs cs.length = true := by
  unfold okV at h
  rw [Bool.and_eq_true, decide_eq_true_eq] at h
  exact ⟨h.2, h.1⟩
theorem okV_mem {p : Cu → Bool} {cs : List Cu} : okV p cs = true ↔ cs.length ≤ 20 ∧ ∀ c ∈ cs, p c = true := by
  constructor
  · intro h
    obtain ⟨h1, h2⟩ := okV_t h
    refine ⟨h1, fun c hc => ?_⟩
    obtain ⟨i, hi⟩ := List.mem_iff_getElem?.1 hc
    have hl := (List.getElem?_eq_some_iff.1 hi).1
    have := allV_at h2 hl
    rwa [cuA_get hi] at this
  · rintro ⟨h1, h2⟩
    unfold okV
    rw [decide_eq_true h1, Bool.and_true]
    unfold allV
    rw [List.all_eq_true]
    intro i hi
    exact h2 _ (List.mem_of_getElem? (get_cuA (List.mem_range.1 hi)))
def dbV (c : Cu) : Bool := ((inB c.1 0 7 && inB c.2.1 0 7) && !(c.1 == c.2.1)) && inB c.2.2 1 10000
theorem dbV_t {c : Cu} (h : dbV c = true) : (0 ≤ c.1 ∧ c.1 ≤ 7) ∧ (0 ≤ c.2.1 ∧ c.2.1 ≤ 7) ∧ c.1 ≠ c.2.1 ∧ 1 ≤ c.2.2 ∧ c.2.2 ≤ 10000 := by
  unfold dbV at h
  simp only [Bool.and_eq_true, Bool.not_eq_true', beq_eq_false_iff_ne] at h
  exact ⟨inB_t h.1.1.1, inB_t h.1.1.2, h.1.2, inB_t h.2⟩
def clV (c : Cu) : Bool := (inB c.1 0 999 && inB c.2.1 c.1 999) && inB c.2.2 (-10000) 10000
theorem clV_t {c : Cu} (h : clV c = true) : (0 ≤ c.1 ∧ c.1 ≤ 999) ∧ (c.1 ≤ c.2.1 ∧ c.2.1 ≤ 999) ∧ -10000 ≤ c.2.2 ∧ c.2.2 ≤ 10000 := by
  unfold clV at h
  simp only [Bool.and_eq_true] at h
  exact ⟨inB_t h.1.1, inB_t h.1.2, inB_t h.2⟩
-- pays
def payR (t : Int) : List Cu → Int
  | [] => 0
  | c :: l => (if inB t c.1 c.2.1 then c.2.2 else 0) + payR t l
theorem payR_app (t : Int) : ∀ l m : List Cu, payR t (l ++ m) = payR t l + payR t m
  | [], m => by simp [payR]
  | c :: l, m => by
    show _ + payR t (l ++ m) = _ + payR t l + payR t m
    rw [payR_app t l m]; omega
theorem payR_bd {t : Int} : ∀ {l : List Cu}, (∀ c ∈ l, clV c = true) → -10000 * (l.length : Int) ≤ payR t l ∧ payR t l ≤ 10000 * (l.length : Int)
  | [], _ => by simp [payR]
  | c :: l, h => by
    have h1 := clV_t (h c (List.mem_cons_self ..))
    have h2 := payR_bd (t := t) (l := l) fun d hd => h d (List.mem_cons_of_mem _ hd)
    show -10000 * ((l.length + 1 : Nat) : Int) ≤ (if inB t c.1 c.2.1 then c.2.2 else 0) + payR t l ∧ (if inB t c.1 c.2.1 then c.2.2 else 0) + payR t l ≤ 10000 * ((l.length + 1 : Nat) : Int)
    split <;> omega
def payT (cs : List Cu) (t : Int) : Int := if okV clV cs && inB t 0 999 then payR t cs else 0
theorem payT_ok {cs : List Cu} {t : Int} (h : okV clV cs = true) (ht : 0 ≤ t ∧ t ≤ 999) : payT cs t = payR t cs := by unfold payT; rw [h, inB_mk ht]; rfl
theorem payR_ok {cs : List Cu} (h : okV clV cs = true) (t : Int) : -200000 ≤ payR t cs ∧ payR t cs ≤ 200000 := by
  obtain ⟨h1, h2⟩ := okV_mem.1 h
  have := payR_bd (t := t) h2
  omega
theorem payR_to {cs : List Cu} (h : okV clV cs = true) (t : Int) (k : Nat) : -200000 ≤ payR t (cs.take k) ∧ payR t (cs.take k) ≤ 200000 := by
  obtain ⟨h1, h2⟩ := okV_mem.1 h
  have h3 : ∀ c ∈ cs.take k, clV c = true := fun c hc => h2 c (List.mem_of_mem_take hc)
  have := payR_bd (t := t) h3
  have : (cs.take k).length ≤ 20 := by rw [List.length_take]; omega
  omega
theorem payR_step {cs : List Cu} {k : Nat} (t : Int) (h : k < cs.length) : payR t (cs.take (k + 1)) = payR t (cs.take k) + (if inB t (cuA cs k).1 (cuA cs k).2.1 then (cuA cs k).2.2 else 0) := by
  rw [take_snoc (get_cuA h), payR_app]
  simp [payR]
-- the worst pay: the first of the least
def worF (f : Nat → Int) : Nat → Nat
  | 0 => 0
  | k + 1 => if f (k + 1) < f (worF f k) then k + 1 else worF f k
theorem worF_le (f : Nat → Int) : ∀ k, worF f k ≤ k
  | 0 => Nat.le_refl _
  | k + 1 => by have := worF_le f k; simp only [worF]; split <;> omega
theorem worF_min (f : Nat → Int) : ∀ k j, j ≤ k → f (worF f k) ≤ f j
  | 0, j, h => by rw [show j = 0 by omega]; exact Int.le_refl _
  | k + 1, j, h => by
    simp only [worF]
    split
    · rename_i g
      by_cases e : j = k + 1
      · rw [e]; exact Int.le_refl _
      · have := worF_min f k j (by omega); omega
    · rename_i g
      by_cases e : j = k + 1
      · rw [e]; omega
      · exact worF_min f k j (by omega)
theorem worF_congr {f g : Nat → Int} : ∀ k, (∀ j, j ≤ k → f j = g j) → worF f k = worF g k
  | 0, _ => rfl
  | k + 1, h => by
    have ih := worF_congr k fun j hj => h j (by omega)
    simp only [worF]
    rw [ih, h (k + 1) (Nat.le_refl _), h (worF g k) (by have := worF_le g k; omega)]
def payN (cs : List Cu) (t : Nat) : Int := payR t cs
def worT (cs : List Cu) : Int := if okV clV cs then (worF (payN cs) 999 : Nat) else -1
def worP (cs : List Cu) : Int := if okV clV cs then payN cs (worF (payN cs) 999) else 0
-- balances
def balR (p : Int) : List Cu → Int
  | [] => 0
  | c :: l => (if c.2.1 = p then c.2.2 else 0) - (if c.1 = p then c.2.2 else 0) + balR p l
theorem balR_app (p : Int) : ∀ l m : List Cu, balR p (l ++ m) = balR p l + balR p m
  | [], m => by simp [balR]
  | c :: l, m => by
    show _ + balR p (l ++ m) = _ + balR p l + balR p m
    rw [balR_app p l m]; omega
theorem balR_bd {p : Int} : ∀ {l : List Cu}, (∀ c ∈ l, dbV c = true) → -10000 * (l.length : Int) ≤ balR p l ∧ balR p l ≤ 10000 * (l.length : Int)
  | [], _ => by simp [balR]
  | c :: l, h => by
    have h1 := dbV_t (h c (List.mem_cons_self ..))
    have h2 := balR_bd (p := p) (l := l) fun d hd => h d (List.mem_cons_of_mem _ hd)
    show -10000 * ((l.length + 1 : Nat) : Int) ≤ (if c.2.1 = p then c.2.2 else 0) - (if c.1 = p then c.2.2 else 0) + balR p l ∧ (if c.2.1 = p then c.2.2 else 0) - (if c.1 = p then c.2.2 else 0) + balR p l ≤ 10000 * ((l.length + 1 : Nat) : Int)
    split <;> split <;> omega
theorem balR_to {cs : List Cu} (h : okV dbV cs = true) (p : Int) (k : Nat) : -200000 ≤ balR p (cs.take k) ∧ balR p (cs.take k) ≤ 200000 := by
  obtain ⟨h1, h2⟩ := okV_mem.1 h
  have h3 : ∀ c ∈ cs.take k, dbV c = true := fun c hc => h2 c (List.mem_of_mem_take hc)
  have := balR_bd (p := p) h3
  have : (cs.take k).length ≤ 20 := by rw [List.length_take]; omega
  omega
theorem balR_step {cs : List Cu} {k : Nat} (p : Int) (h : k < cs.length) : balR p (cs.take (k + 1)) = balR p (cs.take k) + ((if (cuA cs k).2.1 = p then (cuA cs k).2.2 else 0) - (if (cuA cs k).1 = p then (cuA cs k).2.2 else 0)) := by
  rw [take_snoc (get_cuA h), balR_app]
  simp [balR]
def balL (cs : List Cu) : List Int := (List.range 8).map (fun p : Nat => balR p cs)
theorem balL_len (cs : List Cu) : (balL cs).length = 8 := by simp [balL]
theorem balL_at {cs : List Cu} {p : Nat} (h : p < 8) : (balL cs)[p]? = some (balR p cs) := by unfold balL; rw [List.getElem?_map, List.getElem?_range h]; rfl
def balT (cs : List Cu) : List Int := if okV dbV cs then balL cs else []
theorem balT_ok {cs : List Cu} (h : okV dbV cs = true) : balT cs = balL cs := by unfold balT; rw [h]; rfl
theorem balT_no {cs : List Cu} (h : okV dbV cs = false) : balT cs = [] := by unfold balT; rw [h]; rfl
theorem balT_le (cs : List Cu) : (balT cs).length ≤ 8 := by
  unfold balT; split
  · rw [balL_len]; exact Nat.le_refl _
  · simp
-- who is ahead
def ltW (bs : List Int) (i j : Nat) : Bool := decide (at_ bs j < at_ bs i) || (at_ bs i == at_ bs j && decide (i < j))
theorem ltW_iff {bs : List Int} {i j : Nat} : ltW bs i j = true ↔ at_ bs j < at_ bs i ∨ (at_ bs i = at_ bs j ∧ i < j) := by
  unfold ltW
  simp only [Bool.or_eq_true, Bool.and_eq_true, decide_eq_true_eq, beq_iff_eq]
theorem plcW (bs : List Int) (N : Nat) : Plc (ltW bs) N := by
  refine ⟨fun i _ => ?_, fun i j k _ _ _ h1 h2 => ?_, fun i j _ _ hne => ?_⟩
  · cases h : ltW bs i i
    · rfl
    · rw [ltW_iff] at h; omega
  · rw [ltW_iff] at h1 h2 ⊢; omega
  · rw [ltW_iff, ltW_iff]; omega
def ordG (lt : Nat → Nat → Bool) : Nat → List Nat
  | 0 => []
  | n + 1 => (ordG lt n).take (befF lt n n) ++ n :: (ordG lt n).drop (befF lt n n)
theorem ordG_ok {lt : Nat → Nat → Bool} {N : Nat} (P : Plc lt N) : ∀ n, n ≤ N → Ordd lt n (ordG lt n)
  | 0, _ => Ordd.nil _
  | n + 1, h => (ordG_ok P n (by omega)).ins P (by omega)
theorem befG_lt {lt : Nat → Nat → Bool} {n j : Nat} (hj : j < n) (hi : lt j j = false) : befF lt n j < n := by
  have h : ∀ m, j < m → befF lt m j < m := by
    intro m
    induction m with
    | zero => intro h; omega
    | succ m ih =>
      intro h
      rw [befF_succ]
      by_cases e : j = m
      · subst e; rw [hi]; have := befF_le lt j j; simp; omega
      · have := ih (by omega); split <;> omega
  exact h n hj
def wL (bs : List Int) : List Nat := ordG (ltW bs) bs.length
theorem wL_ok (bs : List Int) : Ordd (ltW bs) bs.length (wL bs) := ordG_ok (plcW bs bs.length) _ (Nat.le_refl _)
def aucB (bs : List Int) (n : Int) : Bool := (decide (bs.length ≤ 8) && bs.all (fun z => inB z 0 10000)) && inB n 0 8
theorem aucB_t {bs : List Int} {n : Int} (h : aucB bs n = true) : bs.length ≤ 8 ∧ (∀ z ∈ bs, 0 ≤ z ∧ z ≤ 10000) ∧ 0 ≤ n ∧ n ≤ 8 := by
  unfold aucB at h
  rw [Bool.and_eq_true, Bool.and_eq_true, decide_eq_true_eq, List.all_eq_true] at h
  exact ⟨h.1.1, fun z hz => inB_t (h.1.2 z hz), inB_t h.2⟩
def winT (bs : List Int) (n : Int) : List Int := if aucB bs n then nats ((wL bs).take n.toNat) else []
def prF (bs : List Int) (n : Nat) : Int := match (wL bs)[n]? with | some i => at_ bs i | none => 0
def prT (bs : List Int) (n : Int) : Int := if aucB bs n then prF bs n.toNat else -1
def rkW (bs : List Int) (i : Nat) : Nat := befF (ltW bs) bs.length i
def gaF (bs : List Int) (n i : Nat) (worth : Int) : Int := if rkW bs i < n then worth - prF bs n else 0
def gaT (bs : List Int) (n i worth : Int) : Int := if aucB bs n && (inB i 0 ((bs.length : Int) - 1) && inB worth 0 10000) then gaF bs n.toNat i.toNat worth else 0

end Go.Proofs.Ytiihenhddleooaa

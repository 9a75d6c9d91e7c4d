/- The order of places: the list made by insertion is the list in which each stands at the number of those before it (pure). -/
import Derived.Test.YtiihenhddleooacMath
namespace Go.Proofs.Ytiihenhddleooac
open Go.RowKit
set_option linter.unusedVariables false
set_option linter.unusedSimpArgs false
/-- how many of the first n stand before j -/
def befF (lt : Nat → Nat → Bool) (n j : Nat) : Nat := (List.range n).countP (fun k => lt k j)
structure Plc (lt : Nat → Nat → Bool) (N : Nat) : Prop where
  irr : ∀ i, i < N → lt i i = false
  tr : ∀ i j k, i < N → j < N → k < N → lt i j = true → lt j k = true → lt i k = true
  tot : ∀ i j, i < N → j < N → i ≠ j → lt i j = true ∨ lt j i = true
theorem befF_succ (lt : Nat → Nat → Bool) (n j : Nat) : befF lt (n + 1) j = befF lt n j + (if lt n j then 1 else 0) := by
  unfold befF
  rw [List.range_succ, List.countP_append]
  congr 1
  cases h : lt n j <;> simp [h]
theorem befF_le (lt : Nat → Nat → Bool) (n j : Nat) : befF lt n j ≤ n := by
  unfold befF
  have := List.countP_le_length (p := fun k => lt k j) (l := List.range n)
  simpa using this
theorem befF_mono {lt : Nat → Nat → Bool} {a b : Nat} : ∀ n, (∀ k, k < n → lt k a = true → lt k b = true) → befF lt n a ≤ befF lt n b
  | 0, _ => by simp [befF]
  | n + 1, h => by
    have ih := befF_mono (lt := lt) (a := a) (b := b) n fun k hk => h k (by omega)
    rw [befF_succ, befF_succ]
    cases e : lt n a
    · simp; omega
    · rw [h n (by omega) e]; simp; omega
theorem befF_strict {lt : Nat → Nat → Bool} {a b j : Nat} : ∀ n, (∀ k, k < n → lt k a = true → lt k b = true) → j < n → lt j a = false → lt j b = true → befF lt n a < befF lt n b
  | 0, _, hj, _, _ => by omega
  | n + 1, h, hj, h1, h2 => by
    rw [befF_succ, befF_succ]
    by_cases e : j = n
    · subst e
      have := befF_mono (lt := lt) (a := a) (b := b) j fun k hk => h k (by omega)
      rw [h1, h2]; simp; omega
    · have ih := befF_strict (lt := lt) (a := a) (b := b) (j := j) n (fun k hk => h k (by omega)) (by omega) h1 h2
      cases e2 : lt n a
      · simp; omega
      · rw [h n (by omega) e2]; simp; omega
/-- among the first n: j stands behind m exactly where as many as stand before m stand before it -/
theorem Plc.cmp {lt : Nat → Nat → Bool} {N n m j : Nat} (P : Plc lt N) (hn : n ≤ N) (hm : m < N) (hj : j < n) (hne : j ≠ m) : lt m j = true ↔ befF lt n m ≤ befF lt n j := by
  constructor
  · intro h
    exact befF_mono n fun k hk hkm => P.tr k m j (by omega) hm (by omega) hkm h
  · intro h
    rcases P.tot j m (by omega) hm hne with h1 | h1
    · have := befF_strict (lt := lt) (a := j) (b := m) (j := j) n (fun k hk hkj => P.tr k j m (by omega) (by omega) hm hkj h1) hj (P.irr j (by omega)) h1
      omega
    · exact h1
/-- a list of the first n, each at its place -/
structure Ordd (lt : Nat → Nat → Bool) (n : Nat) (l : List Nat) : Prop where
  len : l.length = n
  to : ∀ j, j < n → l[befF lt n j]? = some j
  of : ∀ p j, l[p]? = some j → j < n ∧ befF lt n j = p
theorem Ordd.nil (lt : Nat → Nat → Bool) : Ordd lt 0 [] := ⟨rfl, fun j h => by omega, fun p j h => by simp at h⟩
theorem insAt_lo {l : List Nat} {a n p : Nat} (ha : a ≤ l.length) (hp : p < a) : (l.take a ++ n :: l.drop a)[p]? = l[p]? := by
  rw [List.getElem?_append_left (by rw [List.length_take]; omega), List.getElem?_take, if_pos hp]
theorem insAt_at {l : List Nat} {a n : Nat} (ha : a ≤ l.length) : (l.take a ++ n :: l.drop a)[a]? = some n := by
  rw [List.getElem?_append_right (by rw [List.length_take]; omega), List.length_take, Nat.min_eq_left ha, Nat.sub_self]; rfl
theorem insAt_hi {l : List Nat} {a n p : Nat} (ha : a ≤ l.length) (hp : a ≤ p) : (l.take a ++ n :: l.drop a)[p + 1]? = l[p]? := by
  rw [List.getElem?_append_right (by rw [List.length_take]; omega), List.length_take, Nat.min_eq_left ha, show p + 1 - a = (p - a) + 1 by omega, List.getElem?_cons_succ, List.getElem?_drop, show a + (p - a) = p by omega]
theorem Ordd.ins {lt : Nat → Nat → Bool} {N n : Nat} {l : List Nat} (P : Plc lt N) (h : Ordd lt n l) (hn : n < N) : Ordd lt (n + 1) (l.take (befF lt n n) ++ n :: l.drop (befF lt n n)) := by
  have ha : befF lt n n ≤ l.length := by rw [h.len]; exact befF_le lt n n
  have hbn : befF lt (n + 1) n = befF lt n n := by rw [befF_succ, P.irr n hn]; simp
  have hb : ∀ j, j < n → befF lt (n + 1) j = if befF lt n n ≤ befF lt n j then befF lt n j + 1 else befF lt n j := fun j hj => by
    have hc := P.cmp (n := n) (m := n) (j := j) (by omega) hn hj (by omega)
    rw [befF_succ]
    by_cases e : lt n j = true
    · rw [if_pos e, if_pos (hc.1 e)]
    · rw [if_neg e, if_neg (fun g => e (hc.2 g))]; rfl
  refine ⟨by simp; have := h.len; omega, fun j hj => ?_, fun p j hp => ?_⟩
  · by_cases e : j = n
    · subst e; rw [hbn]; exact insAt_at ha
    · rw [hb j (by omega)]
      by_cases g : befF lt n n ≤ befF lt n j
      · rw [if_pos g, insAt_hi ha g]; exact h.to j (by omega)
      · rw [if_neg g, insAt_lo ha (by omega)]; exact h.to j (by omega)
  · rcases Nat.lt_trichotomy p (befF lt n n) with g | g | g
    · rw [insAt_lo ha g] at hp
      obtain ⟨h1, h2⟩ := h.of p j hp
      exact ⟨by omega, by rw [hb j h1, if_neg (by omega)]; exact h2⟩
    · subst g
      rw [insAt_at ha] at hp
      injection hp with hp
      subst hp
      exact ⟨by omega, hbn⟩
    · obtain ⟨q, rfl⟩ : ∃ q, p = q + 1 := ⟨p - 1, by omega⟩
      rw [insAt_hi ha (by omega)] at hp
      obtain ⟨h1, h2⟩ := h.of q j hp
      exact ⟨by omega, by rw [hb j h1, if_pos (by omega)]; omega⟩
/-- where the place for n is sought from the right: all at or behind p stand behind n, and those before don't -/
theorem Ordd.stop {lt : Nat → Nat → Bool} {N n p j : Nat} {l : List Nat} (P : Plc lt N) (h : Ordd lt n l) (hn : n < N) (hp : l[p]? = some j) : lt n j = true ↔ befF lt n n ≤ p := by
  obtain ⟨h1, h2⟩ := h.of p j hp
  rw [P.cmp (n := n) (m := n) (j := j) (by omega) hn h1 (by omega), h2]
/-- a list that has each at its place is that list -/
theorem Ordd.uniq {lt : Nat → Nat → Bool} {n : Nat} {l m : List Nat} (h : Ordd lt n l) (hm : m.length = n) (g : ∀ j, j < n → m[befF lt n j]? = some j) : m = l := by
  apply List.ext_getElem?
  intro p
  by_cases hp : p < n
  · have hl : l[p]? = some (l[p]'(by rw [h.len]; exact hp)) := List.getElem?_eq_getElem _
    obtain ⟨h1, h2⟩ := h.of p _ hl
    rw [hl, ← g _ h1, h2]
  · rw [List.getElem?_eq_none (by omega), List.getElem?_eq_none (by rw [h.len]; omega)]
theorem Ordd.perm {lt : Nat → Nat → Bool} {n p q j k : Nat} {l : List Nat} (h : Ordd lt n l) (hp : l[p]? = some j) (hq : l[q]? = some k) : j = k ↔ p = q := by
  obtain ⟨h1, h2⟩ := h.of p j hp
  obtain ⟨g1, g2⟩ := h.of q k hq
  constructor
  · rintro rfl; omega
  · rintro rfl; rw [hp] at hq; injection hq

end Go.Proofs.Ytiihenhddleooac

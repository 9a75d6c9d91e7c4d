/- Mathematics of chapter 4, second part: merged lists, turns, idle lifts. Nothing of the program. -/
import Derived.Test.YtcjcdlhmhhbkgaaLMath
namespace Go.Proofs.Ytcjcdlhmhhbkgaa
open Go.RowKit
set_option linter.unusedVariables false
set_option linter.unusedSimpArgs false
/-- the merged list -/
def mg : List Int → List Int → List Int
  | [], b => b
  | x :: a, [] => x :: a
  | x :: a, y :: b => if x ≤ y then x :: mg a (y :: b) else y :: mg (x :: a) b
termination_by a b => a.length + b.length
theorem mg_nil (b : List Int) : mg [] b = b := by rw [mg]
theorem mg_nil_r (a : List Int) : mg a [] = a := by cases a <;> rw [mg]
theorem mg_cons (x y : Int) (a b : List Int) : mg (x :: a) (y :: b) = if x ≤ y then x :: mg a (y :: b) else y :: mg (x :: a) b := by rw [mg]
theorem mg_len : ∀ (n : Nat) (a b : List Int), a.length + b.length = n → (mg a b).length = n
  | n, [], b, h => by rw [mg_nil]; simpa using h
  | n, x :: a, [], h => by rw [mg_nil_r]; simpa using h
  | 0, x :: a, y :: b, h => by simp at h
  | n + 1, x :: a, y :: b, h => by
    simp only [List.length_cons] at h
    rw [mg_cons]
    split
    · rw [List.length_cons, mg_len n a (y :: b) (by simp only [List.length_cons]; omega)]
    · rw [List.length_cons, mg_len n (x :: a) b (by simp only [List.length_cons]; omega)]
theorem mg_length (a b : List Int) : (mg a b).length = a.length + b.length := mg_len _ a b rfl
theorem mg_sum_n : ∀ (n : Nat) (a b : List Int), a.length + b.length = n → (mg a b).sum = a.sum + b.sum
  | n, [], b, h => by rw [mg_nil]; simp
  | n, x :: a, [], h => by rw [mg_nil_r]; simp
  | 0, x :: a, y :: b, h => by simp at h
  | n + 1, x :: a, y :: b, h => by
    simp only [List.length_cons] at h
    rw [mg_cons]
    split
    · rw [List.sum_cons, mg_sum_n n a (y :: b) (by simp only [List.length_cons]; omega)]; simp only [List.sum_cons]; omega
    · rw [List.sum_cons, mg_sum_n n (x :: a) b (by simp only [List.length_cons]; omega)]; simp only [List.sum_cons]; omega
theorem mg_sum (a b : List Int) : (mg a b).sum = a.sum + b.sum := mg_sum_n _ a b rfl
theorem mg_sub_n : ∀ (n : Nat) (a b : List Int), a.length + b.length = n → a.Sublist (mg a b) ∧ b.Sublist (mg a b)
  | n, [], b, h => by rw [mg_nil]; exact ⟨List.nil_sublist _, List.Sublist.refl _⟩
  | n, x :: a, [], h => by rw [mg_nil_r]; exact ⟨List.Sublist.refl _, List.nil_sublist _⟩
  | 0, x :: a, y :: b, h => by simp at h
  | n + 1, x :: a, y :: b, h => by
    simp only [List.length_cons] at h
    rw [mg_cons]
    split
    · have := mg_sub_n n a (y :: b) (by simp only [List.length_cons]; omega)
      exact ⟨this.1.cons_cons x, this.2.cons x⟩
    · have := mg_sub_n n (x :: a) b (by simp only [List.length_cons]; omega)
      exact ⟨this.1.cons y, this.2.cons_cons y⟩
/-- a list that does not fall, from a number on and up to 2000 -/
def Up : Int → List Int → Prop
  | _, [] => True
  | t, z :: zs => t ≤ z ∧ z ≤ 2000 ∧ Up z zs
theorem Up.less {t t' : Int} : ∀ {l : List Int}, Up t l → t' ≤ t → Up t' l
  | [], _, _ => trivial
  | z :: zs, h, g => ⟨by have := h.1; omega, h.2⟩
theorem mg_up_n : ∀ (n : Nat) (a b : List Int) (t : Int), a.length + b.length = n → Up t a → Up t b → Up t (mg a b)
  | n, [], b, t, h, _, hb => by rw [mg_nil]; exact hb
  | n, x :: a, [], t, h, ha, _ => by rw [mg_nil_r]; exact ha
  | 0, x :: a, y :: b, t, h, _, _ => by simp at h
  | n + 1, x :: a, y :: b, t, h, ha, hb => by
    simp only [List.length_cons] at h
    rw [mg_cons]
    split
    · next q => exact ⟨ha.1, ha.2.1, mg_up_n n a (y :: b) x (by simp only [List.length_cons]; omega) ha.2.2 ⟨q, hb.2⟩⟩
    · next q => exact ⟨hb.1, hb.2.1, mg_up_n n (x :: a) b y (by simp only [List.length_cons]; omega) ⟨by omega, ha.2⟩ hb.2.2⟩
theorem el_cons_succ (z : Int) (zs : List Int) (k : Nat) : el (z :: zs) (k + 1) = el zs k := by simp [el, List.getD_eq_getElem?_getD]
theorem el_cons_zero (z : Int) (zs : List Int) : el (z :: zs) 0 = z := by simp [el]
theorem Up_of {t : Int} : ∀ {l : List Int}, (∀ k, k < l.length → t ≤ el l k ∧ el l k ≤ 2000) → (∀ k, k + 1 < l.length → el l k ≤ el l (k + 1)) → Up t l
  | [], _, _ => trivial
  | z :: zs, h, m => by
    have h0 := h 0 (by simp)
    rw [el_cons_zero] at h0
    have up : ∀ k, k < zs.length → z ≤ el zs k := by
      intro k
      induction k with
      | zero => intro hk; have := m 0 (by simp; omega); rw [el_cons_zero, el_cons_succ] at this; exact this
      | succ k ih =>
        intro hk
        have h1 := ih (by omega)
        have := m (k + 1) (by simp; omega)
        rw [el_cons_succ, el_cons_succ] at this
        omega
    refine ⟨h0.1, h0.2, Up_of (fun k hk => ⟨up k hk, ?_⟩) (fun k hk => ?_)⟩
    · have := h (k + 1) (by simp; omega)
      rw [el_cons_succ] at this
      exact this.2
    · have := m (k + 1) (by simp; omega)
      rw [el_cons_succ, el_cons_succ] at this
      exact this
theorem Up.bd {t : Int} : ∀ {l : List Int}, Up t l → ∀ k, k < l.length → t ≤ el l k ∧ el l k ≤ 2000
  | [], _, k, h => by simp at h
  | z :: zs, h, 0, _ => by rw [el_cons_zero]; exact ⟨h.1, h.2.1⟩
  | z :: zs, h, k + 1, hk => by
    have := Up.bd h.2.2 k (by simpa using hk)
    have := h.1
    rw [el_cons_succ]
    omega
theorem Up.mono {t : Int} : ∀ {l : List Int}, Up t l → ∀ k, k + 1 < l.length → el l k ≤ el l (k + 1)
  | [], _, k, h => by simp at h
  | z :: zs, h, 0, hk => by rw [el_cons_zero, el_cons_succ]; exact (Up.bd h.2.2 0 (by simpa using hk)).1
  | z :: zs, h, k + 1, hk => by rw [el_cons_succ, el_cons_succ]; exact Up.mono h.2.2 k (by simpa using hk)
theorem TimesP.Up {zs : List Int} (h : TimesP zs) : Up 0 zs := Up_of h.bd h.mono
theorem mg_times {a b : List Int} (ha : TimesP a) (hb : TimesP b) (hl : a.length + b.length ≤ 40) : TimesP (mg a b) := by
  have h := mg_up_n _ a b 0 rfl ha.Up hb.Up
  exact ⟨by rw [mg_length]; exact hl, h.bd, h.mono⟩
theorem mg_mid {x : Int} : ∀ {a b : List Int}, Up x a → Up x b → mg a (x :: b) = x :: mg a b
  | [], b, _, _ => by rw [mg_nil, mg_nil]
  | z :: a, b, h, hb => by
    rw [mg_cons]
    by_cases q : z ≤ x
    · have e : z = x := by have := h.1; omega
      subst e
      rw [if_pos q, mg_mid h.2.2 hb]
      cases b with
      | nil => rw [mg_nil_r, mg_nil_r]
      | cons y b => rw [mg_cons, if_pos hb.1]
    · rw [if_neg q]
theorem mg_comm_n : ∀ (n : Nat) (a b : List Int) (t : Int), a.length + b.length = n → Up t a → Up t b → mg a b = mg b a
  | n, [], b, t, _, _, _ => by rw [mg_nil, mg_nil_r]
  | n, x :: a, [], t, _, _, _ => by rw [mg_nil, mg_nil_r]
  | 0, x :: a, y :: b, t, h, _, _ => by simp at h
  | n + 1, x :: a, y :: b, t, h, ha, hb => by
    simp only [List.length_cons] at h
    rcases Int.lt_trichotomy x y with q | q | q
    · rw [mg_cons, if_pos (by omega), mg_cons, if_neg (by omega)]
      rw [mg_comm_n n a (y :: b) x (by simp only [List.length_cons]; omega) ha.2.2 ⟨by omega, hb.2⟩]
    · subst q
      rw [mg_cons, if_pos (by omega), mg_cons, if_pos (by omega), mg_mid ha.2.2 hb.2.2, mg_mid hb.2.2 ha.2.2]
      cases n with
      | zero => omega
      | succ n => rw [mg_comm_n n a b x (by omega) ha.2.2 hb.2.2]
    · rw [mg_cons, if_neg (by omega), mg_cons, if_pos (by omega)]
      rw [mg_comm_n n (x :: a) b y (by simp only [List.length_cons]; omega) ⟨by omega, ha.2⟩ hb.2.2]
theorem mg_comm {a b : List Int} (ha : TimesP a) (hb : TimesP b) : mg a b = mg b a := mg_comm_n _ a b 0 rfl ha.Up hb.Up
theorem mg_a {a b : List Int} {i k : Nat} (hi : i < a.length) (h : b.length ≤ k ∨ (k < b.length ∧ el a i ≤ el b k)) : mg (a.drop i) (b.drop k) = el a i :: mg (a.drop (i + 1)) (b.drop k) := by
  rw [drop_el hi]
  rcases h with h | ⟨h, h2⟩
  · rw [List.drop_eq_nil_of_le h, mg_nil_r, mg_nil_r]
  · rw [drop_el h, mg_cons, if_pos h2]
theorem mg_b {a b : List Int} {i k : Nat} (hk : k < b.length) (h : a.length ≤ i ∨ (i < a.length ∧ el b k < el a i)) : mg (a.drop i) (b.drop k) = el b k :: mg (a.drop i) (b.drop (k + 1)) := by
  rw [drop_el hk]
  rcases h with h | ⟨h, h2⟩
  · rw [List.drop_eq_nil_of_le h, mg_nil, mg_nil]
  · rw [drop_el h, mg_cons, if_neg (by omega)]
theorem mg_end (a b : List Int) {i k : Nat} (hi : a.length ≤ i) : mg (a.drop i) (b.drop k) = b.drop k := by rw [List.drop_eq_nil_of_le hi, mg_nil]
/-- every nth one of a list -/
def evN (L n f : Nat) : Nat := (L + n - 1 - f) / n
def evF (zs : List Int) (n f : Nat) : List Int := (List.range (evN zs.length n f)).map (fun j => el zs (f + j * n))
theorem evF_len (zs : List Int) (n f : Nat) : (evF zs n f).length = evN zs.length n f := by simp [evF]
theorem evF_at {zs : List Int} {n f j : Nat} (h : j < evN zs.length n f) : el (evF zs n f) j = el zs (f + j * n) := el_map h
theorem evN_lt {L n f j : Nat} (hf : f < n) : j < evN L n f ↔ f + j * n < L := by
  have h : j + 1 ≤ (L + n - 1 - f) / n ↔ (j + 1) * n ≤ L + n - 1 - f := Nat.le_div_iff_mul_le (by omega)
  rw [Nat.add_mul, Nat.one_mul] at h
  unfold evN
  generalize j * n = m at *
  omega
theorem evN_le {L n f : Nat} (hf : f < n) : evN L n f ≤ L := by
  rcases Nat.eq_zero_or_pos (evN L n f) with h | h
  · omega
  · have h1 := (evN_lt (L := L) (j := evN L n f - 1) hf).1 (by omega)
    have h2 : evN L n f - 1 ≤ (evN L n f - 1) * n := Nat.le_mul_of_pos_right _ (by omega)
    omega
theorem ev_times {zs : List Int} {n f : Nat} (h : TimesP zs) (hf : f < n) : TimesP (evF zs n f) := by
  refine ⟨?_, fun k hk => ?_, fun k hk => ?_⟩
  · rw [evF_len]; exact Nat.le_trans (evN_le hf) h.len
  · rw [evF_len] at hk
    rw [evF_at hk]
    exact h.bd _ ((evN_lt hf).1 hk)
  · rw [evF_len] at hk
    rw [evF_at hk, evF_at (by omega)]
    exact h.up (by rw [Nat.add_mul]; omega) ((evN_lt hf).1 hk)
theorem la_every {zs : List Int} {g : Int} {n f : Nat} (hf : f < n) : ∀ {j : Nat}, j < evN zs.length n f → la (evF zs n f) g 1 j = la zs g n (f + j * n)
  | 0, h => by rw [la_lo (by omega), evF_at h, la_lo (by omega)]
  | j + 1, h => by
    have ih := la_every (zs := zs) (g := g) hf (j := j) (by omega)
    have e : f + (j + 1) * n - n = f + j * n := by rw [Nat.add_mul]; omega
    rw [la_hi (by omega) (by omega), la_hi (n := n) (by omega) (by rw [Nat.add_mul]; omega), e, show j + 1 - 1 = j by omega, ih, evF_at h]
theorem sum_sm : ∀ zs : List Int, zs.sum = sm (el zs) zs.length := by
  intro zs
  have : ∀ k, k ≤ zs.length → (zs.take k).sum = sm (el zs) k := by
    intro k
    induction k with
    | zero => intro _; simp [sm]
    | succ k ih => intro hk; rw [take_el (by omega), List.sum_append, ih (by omega)]; simp [sm]
  have h := this zs.length (Nat.le_refl _)
  rwa [List.take_length] at h
/-- what one of the turns gets is what has its rest -/
theorem ev_sm {n f : Nat} (hf : f < n) (x : Nat → Int) : ∀ L : Nat, sm (fun j => x (f + j * n)) (evN L n f) = sm (fun i => if i % n = f then x i else 0) L
  | 0 => by
    have : evN 0 n f = 0 := by have := evN_le (L := 0) hf; omega
    rw [this]; rfl
  | L + 1 => by
    have ih := ev_sm hf x L
    simp only [sm]
    by_cases h : L % n = f
    · have hL : L = f + L / n * n := by have := Nat.div_add_mod L n; rw [Nat.mul_comm] at this; omega
      have e1 : evN L n f = L / n := by
        apply Nat.le_antisymm
        · false_or_by_contra
          next q =>
          have := (evN_lt (L := L) (j := L / n) hf).1 (by omega)
          omega
        · false_or_by_contra
          next q =>
          have h1 : ¬ (evN L n f < evN L n f) := by omega
          rw [evN_lt hf] at h1
          have h2 : evN L n f + 1 ≤ L / n := by omega
          have h3 := Nat.mul_le_mul_right n h2
          rw [Nat.add_mul, Nat.one_mul] at h3
          omega
      have e2 : evN (L + 1) n f = L / n + 1 := by
        apply Nat.le_antisymm
        · false_or_by_contra
          next q =>
          have h1 := (evN_lt (L := L + 1) (j := L / n + 1) hf).1 (by omega)
          rw [Nat.add_mul, Nat.one_mul] at h1
          omega
        · exact (evN_lt hf).2 (by omega)
      rw [e2, if_pos h]
      simp only [sm]
      rw [← hL, ← ih, e1]
    · have e : evN (L + 1) n f = evN L n f := by
        apply Nat.le_antisymm
        · false_or_by_contra
          next q =>
          have h1 := (evN_lt (L := L + 1) (j := evN L n f) hf).1 (by omega)
          have h2 : ¬ (evN L n f < evN L n f) := by omega
          rw [evN_lt hf] at h2
          have h3 : L = f + evN L n f * n := by omega
          apply h
          rw [h3, Nat.add_mul_mod_self_right, Nat.mod_eq_of_lt hf]
        · false_or_by_contra
          next q =>
          have h1 := (evN_lt (L := L) (j := evN (L + 1) n f) hf).1 (by omega)
          have h2 := (evN_lt (L := L + 1) (j := evN (L + 1) n f) hf).2 (by omega)
          omega
      rw [e, if_neg h, ih]; omega
theorem ev_all {n : Nat} (hn : 0 < n) (x : Nat → Int) (L : Nat) : sm (fun f => sm (fun j => x (f + j * n)) (evN L n f)) n = sm x L := by
  rw [sm_congr (h := fun f => sm (fun i => if i % n = f then x i else 0) L) (fun f hf => ev_sm hf x L), sm_swap]
  exact sm_congr fun i _ => sm_pick (x i) (Nat.mod_lt i hn)
theorem ev_total {zs : List Int} {n : Nat} (hn : 0 < n) : sm (fun f => (evF zs n f).sum) n = zs.sum := by
  rw [sum_sm zs, ← ev_all hn (el zs)]
  refine sm_congr fun f hf => ?_
  rw [sum_sm, evF_len]
  exact sm_congr fun j hj => evF_at hj
theorem ev_many {zs : List Int} {n : Nat} (hn : 0 < n) : sm (fun f => ((evF zs n f).length : Int)) n = (zs.length : Int) := by
  have h := ev_all hn (fun _ => 1) zs.length
  have one : ∀ k : Nat, sm (fun _ => (1 : Int)) k = (k : Int) := by
    intro k
    induction k with
    | zero => rfl
    | succ k ih => simp only [sm]; omega
  rw [one] at h
  rw [← h]
  refine sm_congr fun f _ => ?_
  rw [evF_len, one]
/-- how long a lift is idle -/
def idleF (zs : List Int) (g : Int) : Int := if zs.length = 0 then 0 else la zs g 1 (zs.length - 1) - g * ((zs.length - 1 : Nat) : Int)
theorem idle_bd {zs : List Int} {g : Int} (hv : TimesP zs) (hg : 0 ≤ g) : ∀ {i : Nat}, i < zs.length → el zs 0 ≤ la zs g 1 i - g * (i : Int) ∧ la zs g 1 i - g * (i : Int) ≤ el zs i
  | 0, h => by rw [la_lo (by omega)]; simp
  | i + 1, h => by
    have ih := idle_bd hv hg (i := i) (by omega)
    have h1 := hv.mono i h
    have h2 : g * ((i + 1 : Nat) : Int) = g * (i : Int) + g := by rw [show ((i + 1 : Nat) : Int) = (i : Int) + 1 from rfl, Int.mul_add, Int.mul_one]
    have h3 : 0 ≤ g * (i : Int) := Int.mul_nonneg hg (by omega)
    have h4 := la_ge (zs := zs) (g := g) (n := 1) (i := i + 1) (by omega)
    have h5 := la_gap (zs := zs) (g := g) (n := 1) (i := i + 1) (by omega) (by omega)
    have h6 := hv.up (i := 0) (j := i + 1) (by omega) h
    rw [show i + 1 - 1 = i by omega] at h5
    rw [h2]
    refine ⟨by omega, ?_⟩
    rw [la_hi (by omega) (by omega), show i + 1 - 1 = i by omega]
    split <;> omega
theorem la_steady {t g : Int} {m : Nat} (hg : 0 ≤ g) : ∀ {i : Nat}, i < m → la (List.replicate m t) g 1 i = t + g * (i : Int)
  | 0, h => by rw [la_lo (by omega), el_of (z := t) (by simp [h])]; simp
  | i + 1, h => by
    have ih := la_steady (t := t) hg (i := i) (m := m) (by omega)
    have h2 : g * ((i + 1 : Nat) : Int) = g * (i : Int) + g := by rw [show ((i + 1 : Nat) : Int) = (i : Int) + 1 from rfl, Int.mul_add, Int.mul_one]
    have h3 : 0 ≤ g * (i : Int) := Int.mul_nonneg hg (by omega)
    rw [la_hi (by omega) (by omega), show i + 1 - 1 = i by omega, ih, el_of (z := t) (by simp [h]), h2]
    split <;> omega
theorem steady_times {t : Int} {m : Nat} (h0 : 0 ≤ t) (h1 : t ≤ 2000) (hm : m ≤ 40) : TimesP (List.replicate m t) := by
  have e : ∀ k, k < m → el (List.replicate m t) k = t := fun k hk => el_of (by simp [hk])
  refine ⟨by simpa using hm, fun k hk => ?_, fun k hk => ?_⟩
  · rw [List.length_replicate] at hk; rw [e k hk]; exact ⟨h0, h1⟩
  · rw [List.length_replicate] at hk; rw [e k (by omega), e _ hk]; exact Int.le_refl _
/-- the last cake of one list -/
theorem gr_last {zs : List Int} {g : Int} (hv : TimesP zs) (hg : 0 ≤ g) {m : Nat} (hm : zs.length = m + 1) : grF (la zs g 1) zs.length = bz g (-g) zs := by
  have h1 : la zs g 1 m = bz g (-g) zs := by
    rw [la_bz (fun k hk => (hv.bd k hk).1) (by omega), ← hm, List.take_length]
  rw [← h1]
  apply Int.le_antisymm
  · refine grF_bd ?_ fun i hi => la_up hv (by omega) hg (by omega) (by omega)
    have h2 := la_ge (zs := zs) (g := g) (n := 1) (i := m) (by omega)
    have h3 := hv.bd m (by omega)
    omega
  · exact grF_le (by omega)
theorem gr_sub {a b : List Int} {g : Int} (ha : TimesP a) (hb : TimesP b) (hg : 0 ≤ g) (h : a.Sublist b) : grF (la a g 1) a.length ≤ grF (la b g 1) b.length := by
  cases hm : a.length with
  | zero => exact grF_ge _ _
  | succ m =>
    have hl := h.length_le
    rw [← hm, gr_last ha hg hm, gr_last hb hg (m := b.length - 1) (by omega)]
    exact bz_mono hg h (Int.le_refl _)
theorem mg_sub (a b : List Int) : a.Sublist (mg a b) ∧ b.Sublist (mg a b) := mg_sub_n _ a b rfl

end Go.Proofs.Ytcjcdlhmhhbkgaa

/- Mathematics of chapter 4: times, lifts, counts, merged lists, turns. Nothing of the program. -/
import Derived.WalkKit
namespace Go.Proofs.Ytcjcdlhmhhbkgaa
open Go.RowKit
set_option linter.unusedVariables false
set_option linter.unusedSimpArgs false
def el (zs : List Int) (k : Nat) : Int := zs.getD k 0
theorem el_of {zs : List Int} {k : Nat} {z : Int} (h : zs[k]? = some z) : el zs k = z := by simp [el, List.getD_eq_getElem?_getD, h]
theorem of_el {zs : List Int} {k : Nat} (h : k < zs.length) : zs[k]? = some (el zs k) := by simp [el, List.getD_eq_getElem?_getD, h]
theorem el_map {f : Nat → Int} {n k : Nat} (h : k < n) : el ((List.range n).map f) k = f k := el_of (by simp [h])
theorem el_take {zs : List Int} {n k : Nat} (h : k < n) : el (zs.take n) k = el zs k := by
  simp only [el, List.getD_eq_getElem?_getD, List.getElem?_take, if_pos h]
theorem el_mem {zs : List Int} {k : Nat} (h : k < zs.length) : el zs k ∈ zs := List.mem_of_getElem? (of_el h)
theorem mem_el {zs : List Int} {z : Int} (h : z ∈ zs) : ∃ k, k < zs.length ∧ el zs k = z := by
  obtain ⟨k, hk⟩ := List.mem_iff_getElem?.1 h
  refine ⟨k, ?_, el_of hk⟩
  rcases Nat.lt_or_ge k zs.length with g | g
  · exact g
  · rw [List.getElem?_eq_none g] at hk; cases hk
theorem ext_el {a b : List Int} (hl : a.length = b.length) (h : ∀ k, k < a.length → el a k = el b k) : a = b := by
  apply List.ext_getElem?
  intro k
  rcases Nat.lt_or_ge k a.length with g | g
  · rw [of_el g, of_el (by omega), h k g]
  · rw [List.getElem?_eq_none g, List.getElem?_eq_none (by omega)]
theorem take_el {zs : List Int} {k : Nat} (h : k < zs.length) : zs.take (k + 1) = zs.take k ++ [el zs k] := by rw [List.take_add_one, of_el h]; rfl
theorem drop_el {zs : List Int} {k : Nat} (h : k < zs.length) : zs.drop k = el zs k :: zs.drop (k + 1) := by
  obtain ⟨h1, h2⟩ := List.getElem?_eq_some_iff.1 (of_el h)
  rw [List.drop_eq_getElem_cons h1, h2]

structure TimesP (zs : List Int) : Prop where
  len : zs.length ≤ 40
  bd : ∀ k, k < zs.length → 0 ≤ el zs k ∧ el zs k ≤ 2000
  mono : ∀ k, k + 1 < zs.length → el zs k ≤ el zs (k + 1)
instance (zs : List Int) : Decidable (TimesP zs) :=
  decidable_of_iff (zs.length ≤ 40 ∧ (∀ k, k < zs.length → 0 ≤ el zs k ∧ el zs k ≤ 2000) ∧ (∀ k, k < zs.length → (k + 1 < zs.length → el zs k ≤ el zs (k + 1))))
    ⟨fun h => ⟨h.1, h.2.1, fun k hk => h.2.2 k (by omega) hk⟩, fun h => ⟨h.len, h.bd, fun k _ hk => h.mono k hk⟩⟩
/-- times are valid -/
def timesB (zs : List Int) : Bool := decide (TimesP zs)
theorem timesB_t {zs : List Int} (h : timesB zs = true) : TimesP zs := of_decide_eq_true h
theorem timesB_mk {zs : List Int} (h : TimesP zs) : timesB zs = true := decide_eq_true h
theorem timesB_nk {zs : List Int} (h : ¬ TimesP zs) : timesB zs = false := decide_eq_false h
section
variable {zs : List Int}
theorem TimesP.up (h : TimesP zs) {i : Nat} : ∀ {j : Nat}, i ≤ j → j < zs.length → el zs i ≤ el zs j
  | 0, hij, hj => by rw [show i = 0 by omega]; exact Int.le_refl _
  | j + 1, hij, hj => by
    by_cases e : i = j + 1
    · subst e; exact Int.le_refl _
    · have h1 := TimesP.up h (i := i) (j := j) (by omega) (by omega)
      have h2 := h.mono j hj
      omega
end
def mx (a b : Int) : Int := if a < b then b else a
theorem mx_lt {a b : Int} (h : a < b) : mx a b = b := if_pos h
theorem mx_ge {a b : Int} (h : ¬ a < b) : mx a b = a := if_neg h
theorem mx_bd (a b : Int) : a ≤ mx a b ∧ b ≤ mx a b ∧ (mx a b = a ∨ mx a b = b) := by unfold mx; split <;> omega
/-- when a cake is lifted -/
def la (zs : List Int) (g : Int) (n : Nat) (i : Nat) : Int :=
  if _h : 0 < n ∧ n ≤ i then (if el zs i < la zs g n (i - n) + g then la zs g n (i - n) + g else el zs i) else el zs i
termination_by i
decreasing_by all_goals omega
section
variable {zs : List Int} {g : Int} {n i : Nat}
theorem la_lo (h : i < n) : la zs g n i = el zs i := by rw [la, dif_neg (by omega)]
theorem la_hi (h0 : 0 < n) (h : n ≤ i) : la zs g n i = if el zs i < la zs g n (i - n) + g then la zs g n (i - n) + g else el zs i := by rw [la, dif_pos ⟨h0, h⟩]
theorem la_ge (h0 : 0 < n) : el zs i ≤ la zs g n i := by
  rcases Nat.lt_or_ge i n with h | h
  · rw [la_lo h]; exact Int.le_refl _
  · rw [la_hi h0 h]; split <;> omega
theorem la_gap (h0 : 0 < n) (h : n ≤ i) : la zs g n (i - n) + g ≤ la zs g n i := by rw [la_hi h0 h]; split <;> omega
theorem la_why (h0 : 0 < n) (h : el zs i < la zs g n i) : n ≤ i ∧ la zs g n i = la zs g n (i - n) + g := by
  rcases Nat.lt_or_ge i n with k | k
  · rw [la_lo k] at h; omega
  · refine ⟨k, ?_⟩
    rw [la_hi h0 k] at h ⊢
    split
    · rfl
    · next q => rw [if_neg q] at h; omega
theorem la_bd (hv : TimesP zs) (h0 : 0 < n) (hg : 0 ≤ g ∧ g ≤ 61) : i < zs.length → 0 ≤ la zs g n i ∧ la zs g n i ≤ 2000 + 61 * (i : Int) := by
  induction i using Nat.strongRecOn with
  | _ i ih =>
    intro hi
    have hb := hv.bd i hi
    rcases Nat.lt_or_ge i n with h | h
    · rw [la_lo h]; omega
    · have := ih (i - n) (by omega) (by omega)
      rw [la_hi h0 h]
      split <;> omega
theorem la_bd' (hv : TimesP zs) (h0 : 0 < n) (hg : 0 ≤ g ∧ g ≤ 61) (hi : i < zs.length) : 0 ≤ la zs g n i ∧ la zs g n i ≤ 4440 := by
  have h := la_bd (n := n) (i := i) hv h0 hg hi
  have := hv.len
  omega
theorem la_mono (hv : TimesP zs) (h0 : 0 < n) (hg : 0 ≤ g) : i + 1 < zs.length → la zs g n i ≤ la zs g n (i + 1) := by
  induction i using Nat.strongRecOn with
  | _ i ih =>
    intro hi
    have hm := hv.mono i hi
    have h2 := la_ge (zs := zs) (g := g) (n := n) (i := i + 1) h0
    rcases Nat.lt_or_ge i n with h | h
    · rw [la_lo h]; omega
    · have h3 := la_gap (zs := zs) (g := g) (n := n) (i := i + 1) h0 (by omega)
      have h4 := ih (i - n) (by omega) (by omega)
      rw [show i - n + 1 = i + 1 - n by omega] at h4
      rw [la_hi h0 h]
      split <;> omega
theorem la_up (hv : TimesP zs) (h0 : 0 < n) (hg : 0 ≤ g) : ∀ {j : Nat}, i ≤ j → j < zs.length → la zs g n i ≤ la zs g n j
  | 0, hij, hj => by rw [show i = 0 by omega]; exact Int.le_refl _
  | j + 1, hij, hj => by
    by_cases e : i = j + 1
    · subst e; exact Int.le_refl _
    · have h1 := la_up hv h0 hg (j := j) (by omega) (by omega)
      have h2 := la_mono hv h0 hg hj
      omega
theorem la_lifts (hv : TimesP zs) (h0 : 0 < n) (hg : 0 ≤ g) : i < zs.length → la zs g (n + 1) i ≤ la zs g n i := by
  induction i using Nat.strongRecOn with
  | _ i ih =>
    intro hi
    have h2 := la_ge (zs := zs) (g := g) (n := n) (i := i) h0
    rcases Nat.lt_or_ge i (n + 1) with h | h
    · rw [la_lo h]; omega
    · have h3 := ih (i - (n + 1)) (by omega) (by omega)
      have h4 := la_up hv h0 hg (i := i - (n + 1)) (j := i - n) (by omega) (by omega)
      have h5 := la_gap (zs := zs) (g := g) (n := n) (i := i) h0 (by omega)
      rw [la_hi (by omega) h]
      split <;> omega
theorem la_gaps (h0 : 0 < n) : la zs g n i ≤ la zs (g + 1) n i := by
  induction i using Nat.strongRecOn with
  | _ i ih =>
    rcases Nat.lt_or_ge i n with h | h
    · rw [la_lo h, la_lo h]; exact Int.le_refl _
    · have h3 := ih (i - n) (by omega)
      have h5 := la_gap (zs := zs) (g := g + 1) (n := n) (i := i) h0 h
      have h6 := la_ge (zs := zs) (g := g + 1) (n := n) (i := i) h0
      rw [la_hi (g := g) h0 h]
      split <;> omega
end
/-- the times at which cakes are lifted, and how long they wait -/
def liftF (zs : List Int) (g : Int) (n : Nat) : List Int := (List.range zs.length).map (la zs g n)
def waitsF (zs : List Int) (g : Int) (n : Nat) : List Int := (List.range zs.length).map (fun i => la zs g n i - el zs i)
theorem liftF_len (zs : List Int) (g : Int) (n : Nat) : (liftF zs g n).length = zs.length := by simp [liftF]
theorem waitsF_len (zs : List Int) (g : Int) (n : Nat) : (waitsF zs g n).length = zs.length := by simp [waitsF]
theorem liftF_at {zs : List Int} {g : Int} {n i : Nat} (h : i < zs.length) : el (liftF zs g n) i = la zs g n i := el_map h
theorem waitsF_at {zs : List Int} {g : Int} {n i : Nat} (h : i < zs.length) : el (waitsF zs g n) i = la zs g n i - el zs i := el_map h
/-- sums -/
def sm (f : Nat → Int) : Nat → Int
  | 0 => 0
  | k + 1 => sm f k + f k
theorem sm_congr {f h : Nat → Int} : ∀ {n : Nat}, (∀ i, i < n → f i = h i) → sm f n = sm h n
  | 0, _ => rfl
  | n + 1, e => by simp only [sm]; rw [sm_congr (fun i hi => e i (by omega)), e n (by omega)]
theorem sm_add (f h : Nat → Int) : ∀ n, sm (fun i => f i + h i) n = sm f n + sm h n
  | 0 => rfl
  | n + 1 => by simp only [sm]; rw [sm_add f h n]; omega
theorem sm_swap (f : Nat → Nat → Int) (m : Nat) : ∀ n, sm (fun i => sm (f i) m) n = sm (fun j => sm (fun i => f i j) n) m
  | 0 => by
    have : ∀ m, sm (fun j => sm (fun i => f i j) 0) m = 0 := by
      intro m
      induction m with
      | zero => rfl
      | succ m ih => simp only [sm] at *; omega
    simp only [sm]
    exact (this m).symm
  | n + 1 => by
    simp only [sm]
    rw [sm_swap f m n, ← sm_add]
theorem sm_bd {f : Nat → Int} {a b : Int} : ∀ {n : Nat}, (∀ i, i < n → a ≤ f i ∧ f i ≤ b) → a * (n : Int) ≤ sm f n ∧ sm f n ≤ b * (n : Int)
  | 0, _ => by simp [sm]
  | n + 1, h => by
    have h1 := sm_bd (n := n) (fun i hi => h i (by omega))
    have h2 := h n (by omega)
    simp only [sm]
    rw [show ((n + 1 : Nat) : Int) = (n : Int) + 1 from rfl, Int.mul_add, Int.mul_add, Int.mul_one, Int.mul_one]
    omega
theorem sm_le {f h : Nat → Int} : ∀ {n : Nat}, (∀ i, i < n → f i ≤ h i) → sm f n ≤ sm h n
  | 0, _ => Int.le_refl _
  | n + 1, e => by
    have h1 := sm_le (n := n) (fun i hi => e i (by omega))
    have h2 := e n (by omega)
    simp only [sm]; omega
theorem sm_zero : ∀ n, sm (fun _ => 0) n = 0
  | 0 => rfl
  | n + 1 => by simp only [sm]; rw [sm_zero n]; rfl
theorem sm_pick {n r : Nat} (z : Int) : r < n → sm (fun k => if r = k then z else 0) n = z := by
  induction n with
  | zero => intro h; omega
  | succ n ih =>
    intro h
    simp only [sm]
    by_cases e : r = n
    · subst e
      rw [if_pos rfl, sm_congr (h := fun _ => 0) (fun i hi => if_neg (by omega)), sm_zero]; omega
    · rw [if_neg e, ih (by omega)]; omega
/-- how many cakes wait at a time: counted over the first k cakes -/
def wc (f h : Nat → Int) (t : Int) (k : Nat) : Int := sm (fun i => if f i ≤ t ∧ t < h i then 1 else 0) k
theorem wc_succ (f h : Nat → Int) (t : Int) (k : Nat) : wc f h t (k + 1) = wc f h t k + if f k ≤ t ∧ t < h k then 1 else 0 := rfl
theorem wc_bd (f h : Nat → Int) (t : Int) (k : Nat) : 0 ≤ wc f h t k ∧ wc f h t k ≤ k := by
  have := sm_bd (f := fun i => if f i ≤ t ∧ t < h i then (1 : Int) else 0) (a := 0) (b := 1) (n := k) (fun i _ => by split <;> omega)
  unfold wc
  omega
theorem wc_congr {f h f' h' : Nat → Int} {t : Int} {n : Nat} (e1 : ∀ i, i < n → f i = f' i) (e2 : ∀ i, i < n → h i = h' i) : wc f h t n = wc f' h' t n :=
  sm_congr fun i hi => by rw [e1 i hi, e2 i hi]
theorem wc_le {f h : Nat → Int} {t s : Int} {n : Nat} (e : ∀ i, i < n → f i ≤ t → t < h i → f i ≤ s ∧ s < h i) : wc f h t n ≤ wc f h s n :=
  sm_le fun i hi => by
    by_cases c : f i ≤ t ∧ t < h i
    · rw [if_pos c, if_pos (e i hi c.1 c.2)]; exact Int.le_refl _
    · rw [if_neg c]; split <;> omega
/-- the greatest one of numbers, at least 0 -/
def grF (f : Nat → Int) : Nat → Int
  | 0 => 0
  | k + 1 => mx (grF f k) (f k)
theorem grF_succ (f : Nat → Int) (k : Nat) : grF f (k + 1) = mx (grF f k) (f k) := rfl
theorem grF_ge (f : Nat → Int) : ∀ k, 0 ≤ grF f k
  | 0 => Int.le_refl _
  | k + 1 => by have := grF_ge f k; have := mx_bd (grF f k) (f k); rw [grF_succ]; omega
theorem grF_le {f : Nat → Int} {i : Nat} : ∀ {k : Nat}, i < k → f i ≤ grF f k
  | 0, h => by omega
  | k + 1, h => by
    have hm := mx_bd (grF f k) (f k)
    rw [grF_succ]
    by_cases e : i = k
    · subst e; omega
    · have := grF_le (f := f) (i := i) (k := k) (by omega); omega
theorem grF_is (f : Nat → Int) : ∀ k, grF f k = 0 ∨ ∃ i, i < k ∧ grF f k = f i
  | 0 => .inl rfl
  | k + 1 => by
    have hm := mx_bd (grF f k) (f k)
    rw [grF_succ]
    rcases hm.2.2 with e | e
    · rcases grF_is f k with h | ⟨i, hi, h⟩
      · exact .inl (e.trans h)
      · exact .inr ⟨i, by omega, e.trans h⟩
    · exact .inr ⟨k, by omega, e⟩
theorem grF_congr {f h : Nat → Int} : ∀ {n : Nat}, (∀ i, i < n → f i = h i) → grF f n = grF h n
  | 0, _ => rfl
  | n + 1, e => by simp only [grF]; rw [grF_congr (fun i hi => e i (by omega)), e n (by omega)]
theorem grF_bd {f : Nat → Int} {b : Int} (hb : 0 ≤ b) : ∀ {n : Nat}, (∀ i, i < n → f i ≤ b) → grF f n ≤ b := fun {n} h => by
  rcases grF_is f n with e | ⟨i, hi, e⟩
  · omega
  · rw [e]; exact h i hi
/-- the most cakes that wait together -/
def mostF (zs : List Int) (g : Int) (n : Nat) (k : Nat) : Int := grF (fun i => wc (el zs) (la zs g n) (el zs i) zs.length) k
theorem mostF_succ (zs : List Int) (g : Int) (n : Nat) (k : Nat) : mostF zs g n (k + 1) = if mostF zs g n k < wc (el zs) (la zs g n) (el zs k) zs.length then wc (el zs) (la zs g n) (el zs k) zs.length else mostF zs g n k := rfl
theorem mostF_bd (zs : List Int) (g : Int) (n : Nat) (k : Nat) : 0 ≤ mostF zs g n k ∧ mostF zs g n k ≤ zs.length := by
  refine ⟨grF_ge _ _, grF_bd (by omega) fun i _ => (wc_bd _ _ _ _).2⟩
theorem last_le (f : Nat → Int) (t : Int) : ∀ n : Nat, (∀ i, i < n → t < f i) ∨ ∃ j, j < n ∧ f j ≤ t ∧ ∀ i, i < n → f i ≤ t → i ≤ j
  | 0 => .inl fun i h => by omega
  | n + 1 => by
    by_cases h : f n ≤ t
    · exact .inr ⟨n, by omega, h, fun i hi _ => by omega⟩
    · rcases last_le f t n with g | ⟨j, hj, h1, h2⟩
      · refine .inl fun i hi => ?_
        by_cases e : i = n
        · subst e; omega
        · exact g i (by omega)
      · refine .inr ⟨j, by omega, h1, fun i hi hi2 => ?_⟩
        by_cases e : i = n
        · subst e; omega
        · exact h2 i (by omega) hi2
theorem most_all {zs : List Int} {g : Int} {n : Nat} (hv : TimesP zs) (t : Int) : wc (el zs) (la zs g n) t zs.length ≤ mostF zs g n zs.length := by
  rcases last_le (el zs) t zs.length with h | ⟨j, hj, h1, h2⟩
  · have e : wc (el zs) (la zs g n) t zs.length = 0 := by
      unfold wc
      rw [sm_congr (h := fun _ => 0) (fun i hi => if_neg (by have := h i hi; omega)), sm_zero]
    have := (mostF_bd zs g n zs.length).1
    omega
  · have h3 : wc (el zs) (la zs g n) t zs.length ≤ wc (el zs) (la zs g n) (el zs j) zs.length :=
      wc_le fun i hi a b => ⟨hv.up (h2 i hi a) hj, by omega⟩
    have h4 : wc (el zs) (la zs g n) (el zs j) zs.length ≤ mostF zs g n zs.length := grF_le (f := fun i => wc (el zs) (la zs g n) (el zs i) zs.length) hj
    omega
theorem most_met {zs : List Int} {g : Int} {n : Nat} (h0 : 0 < zs.length) : ∃ i, i < zs.length ∧ wc (el zs) (la zs g n) (el zs i) zs.length = mostF zs g n zs.length := by
  rcases grF_is (fun i => wc (el zs) (la zs g n) (el zs i) zs.length) zs.length with h | ⟨i, hi, h⟩
  · refine ⟨0, h0, ?_⟩
    have h1 : wc (el zs) (la zs g n) (el zs 0) zs.length ≤ mostF zs g n zs.length := grF_le (f := fun i => wc (el zs) (la zs g n) (el zs i) zs.length) h0
    have h2 := (wc_bd (el zs) (la zs g n) (el zs 0) zs.length).1
    have h3 : mostF zs g n zs.length = 0 := h
    omega
  · exact ⟨i, hi, h.symm⟩
/-- waiting adds up -/
def cut (t z : Int) : Int := if z ≤ t then z else t
theorem wc_cut {f h : Nat → Int} (T : Int) : ∀ {k : Nat}, (∀ i, i < k → f i ≤ h i) → wc f h T k + sm (fun i => cut T (h i) - cut T (f i)) k = sm (fun i => cut (T + 1) (h i) - cut (T + 1) (f i)) k
  | 0, _ => rfl
  | k + 1, e => by
    have ih := wc_cut (f := f) (h := h) T (k := k) (fun i hi => e i (by omega))
    have h1 := e k (by omega)
    rw [wc_succ]
    simp only [sm]
    have h2 : (if f k ≤ T ∧ T < h k then (1 : Int) else 0) + (cut T (h k) - cut T (f k)) = cut (T + 1) (h k) - cut (T + 1) (f k) := by
      unfold cut
      repeat' split
      all_goals omega
    omega
theorem wc_sum {f h : Nat → Int} {k : Nat} (e : ∀ i, i < k → f i ≤ h i) (e0 : ∀ i, i < k → 0 ≤ f i) : ∀ T : Nat, sm (fun t => wc f h (t : Int) k) T = sm (fun i => cut (T : Int) (h i) - cut (T : Int) (f i)) k
  | 0 => by
    rw [sm_congr (h := fun _ => 0) (n := k) (fun i hi => by have h1 := e i hi; have h2 := e0 i hi; unfold cut; repeat' split
                                                            all_goals omega), sm_zero]
    rfl
  | T + 1 => by
    have h1 := wc_sum e e0 T
    have h2 := wc_cut (f := f) (h := h) (T : Int) e
    simp only [sm]
    rw [h1, show ((T + 1 : Nat) : Int) = (T : Int) + 1 from rfl, ← h2]
    omega
theorem wc_total {f h : Nat → Int} {k T : Nat} (e : ∀ i, i < k → f i ≤ h i) (e0 : ∀ i, i < k → 0 ≤ f i) (e1 : ∀ i, i < k → h i ≤ (T : Int)) : sm (fun t => wc f h (t : Int) k) T = sm (fun i => h i - f i) k := by
  rw [wc_sum e e0]
  refine sm_congr fun i hi => ?_
  have h1 := e i hi
  have h2 := e0 i hi
  have h3 := e1 i hi
  unfold cut
  rw [if_pos h3, if_pos (by omega)]
/-- the first number from one on that is good, and the last one up to another -/
def firstUp (p : Nat → Bool) : Nat → Nat → Int
  | _, 0 => -1
  | m, r + 1 => if p m then (m : Int) else firstUp p (m + 1) r
def lastDn (p : Nat → Bool) : Nat → Int
  | 0 => -1
  | r + 1 => if p (r + 1) then ((r + 1 : Nat) : Int) else lastDn p r
theorem firstUp_bd (p : Nat → Bool) : ∀ (r m : Nat), (firstUp p m r = -1 ∧ ∀ i, m ≤ i → i < m + r → p i = false) ∨ ∃ x : Nat, firstUp p m r = x ∧ m ≤ x ∧ x < m + r ∧ p x = true ∧ ∀ i, m ≤ i → i < x → p i = false
  | 0, m => .inl ⟨rfl, fun i h1 h2 => by omega⟩
  | r + 1, m => by
    unfold firstUp
    cases h : p m
    · rcases firstUp_bd p r (m + 1) with ⟨e, g⟩ | ⟨x, e, h1, h2, h3, h4⟩
      · exact .inl ⟨by simpa using e, fun i h1 h2 => by by_cases e : i = m; (rw [e]; exact h); exact g i (by omega) (by omega)⟩
      · exact .inr ⟨x, by simpa using e, by omega, by omega, h3, fun i h5 h6 => by by_cases e : i = m; (rw [e]; exact h); exact h4 i (by omega) h6⟩
    · exact .inr ⟨m, by simp, by omega, by omega, h, fun i h1 h2 => by omega⟩
theorem lastDn_bd (p : Nat → Bool) : ∀ r : Nat, (lastDn p r = -1 ∧ ∀ i, 1 ≤ i → i ≤ r → p i = false) ∨ ∃ x : Nat, lastDn p r = x ∧ 1 ≤ x ∧ x ≤ r ∧ p x = true ∧ ∀ i, x < i → i ≤ r → p i = false
  | 0 => .inl ⟨rfl, fun i h1 h2 => by omega⟩
  | r + 1 => by
    unfold lastDn
    cases h : p (r + 1)
    · rcases lastDn_bd p r with ⟨e, g⟩ | ⟨x, e, h1, h2, h3, h4⟩
      · exact .inl ⟨by simpa using e, fun i h1 h2 => by by_cases e : i = r + 1; (rw [e]; exact h); exact g i (by omega) (by omega)⟩
      · exact .inr ⟨x, by simpa using e, by omega, by omega, h3, fun i h5 h6 => by by_cases e : i = r + 1; (rw [e]; exact h); exact h4 i (by omega) (by omega)⟩
    · exact .inr ⟨r + 1, by simp, by omega, by omega, h, fun i h1 h2 => by omega⟩
theorem firstUp_range (p : Nat → Bool) (r m : Nat) : -1 ≤ firstUp p m r ∧ firstUp p m r ≤ ((m + r : Nat) : Int) := by
  rcases firstUp_bd p r m with ⟨e, _⟩ | ⟨x, e, h1, h2, _⟩ <;> omega
theorem lastDn_range (p : Nat → Bool) (r : Nat) : -1 ≤ lastDn p r ∧ lastDn p r ≤ (r : Int) := by
  rcases lastDn_bd p r with ⟨e, _⟩ | ⟨x, e, h1, h2, _⟩ <;> omega
/-- no number is over a limit -/
def underB (zs : List Int) (l : Int) : Bool := decide (∀ i, i < zs.length → el zs i ≤ l)
theorem underB_t {zs : List Int} {l : Int} (h : underB zs l = true) : ∀ i, i < zs.length → el zs i ≤ l := of_decide_eq_true h
theorem underB_mk {zs : List Int} {l : Int} (h : ∀ i, i < zs.length → el zs i ≤ l) : underB zs l = true := decide_eq_true h
theorem underB_nk {zs : List Int} {l : Int} {i : Nat} (hi : i < zs.length) (h : l < el zs i) : underB zs l = false := decide_eq_false fun g => by have := g i hi; omega
theorem underB_f {zs : List Int} {l : Int} (h : underB zs l = false) : ∃ i, i < zs.length ∧ l < el zs i := by
  have h1 := of_decide_eq_false h
  false_or_by_contra
  next h2 =>
  refine h1 fun i hi => ?_
  false_or_by_contra
  next h3 => exact h2 ⟨i, hi, by omega⟩
theorem underB_gr {zs : List Int} {l : Int} (h0 : 0 ≤ l) : underB zs l = decide (grF (el zs) zs.length ≤ l) := by
  cases h : underB zs l
  · obtain ⟨i, hi, hl⟩ := underB_f h
    have := grF_le (f := el zs) hi
    exact (decide_eq_false (by omega)).symm
  · exact (decide_eq_true (grF_bd h0 fun i hi => underB_t h i hi)).symm
theorem underB_last {zs : List Int} {l : Int} {m : Nat} (hm : zs.length = m + 1) (up : ∀ i, i < zs.length → el zs i ≤ el zs m) : underB zs l = decide (el zs m ≤ l) := by
  by_cases h : el zs m ≤ l
  · rw [decide_eq_true h]; exact underB_mk fun i hi => by have := up i hi; omega
  · rw [decide_eq_false h]; exact underB_nk (i := m) (by omega) (by omega)
/-- one lift alone -/
def lateF (zs : List Int) (g : Int) (i : Nat) : Nat → Int := grF (fun k => el zs k + g * ((i : Int) - (k : Int)))
theorem lateF_succ (zs : List Int) (g : Int) (i k : Nat) : lateF zs g i (k + 1) = mx (lateF zs g i k) (el zs k + g * ((i : Int) - (k : Int))) := rfl
theorem late_mul (g : Int) (i k : Nat) : g * (((i + 1 : Nat) : Int) - (k : Int)) = g * ((i : Int) - (k : Int)) + g := by
  rw [show ((i + 1 : Nat) : Int) - (k : Int) = ((i : Int) - (k : Int)) + 1 by omega, Int.mul_add, Int.mul_one]
theorem lateF_shift {zs : List Int} {g : Int} (hv : ∀ k, k < zs.length → 0 ≤ el zs k) (hg : 0 ≤ g) {i : Nat} (hi : i < zs.length) : ∀ {k : Nat}, k ≤ i → lateF zs g (i + 1) (k + 1) = lateF zs g i (k + 1) + g
  | 0, _ => by
    have h0 := hv 0 (by omega)
    have h2 : 0 ≤ g * ((i : Int) - ((0 : Nat) : Int)) := Int.mul_nonneg hg (by omega)
    rw [lateF_succ, lateF_succ, late_mul]
    have e1 : lateF zs g i 0 = 0 := rfl
    have e2 : lateF zs g (i + 1) 0 = 0 := rfl
    rw [e1, e2]
    generalize g * ((i : Int) - ((0 : Nat) : Int)) = q at *
    unfold mx
    split <;> split <;> omega
  | k + 1, hk => by
    have ih := lateF_shift hv hg hi (k := k) (by omega)
    rw [lateF_succ, lateF_succ zs g i (k + 1), late_mul, ih]
    generalize g * ((i : Int) - ((k + 1 : Nat) : Int)) = q at *
    unfold mx
    split <;> split <;> omega
theorem late_la {zs : List Int} {g : Int} (hv : ∀ k, k < zs.length → 0 ≤ el zs k) (hg : 0 ≤ g) : ∀ {i : Nat}, i < zs.length → lateF zs g i (i + 1) = la zs g 1 i
  | 0, h => by
    have h0 := hv 0 h
    have e1 : lateF zs g 0 0 = 0 := rfl
    rw [la_lo (by omega), lateF_succ, e1, show (((0 : Nat) : Int) - ((0 : Nat) : Int)) = 0 by omega, Int.mul_zero]
    unfold mx
    split <;> omega
  | i + 1, h => by
    have ih := late_la hv hg (i := i) (by omega)
    have h1 := lateF_shift hv hg (i := i) (by omega) (Nat.le_refl i)
    rw [la_hi (by omega) (by omega), show i + 1 - 1 = i by omega, ← ih, ← h1, lateF_succ zs g (i + 1) (i + 1), show (((i + 1 : Nat) : Int) - ((i + 1 : Nat) : Int)) = 0 by omega, Int.mul_zero, Int.add_zero]
    unfold mx
    split <;> split <;> omega
/-- a lift busy with cakes one after another -/
def bz (g : Int) (t : Int) (l : List Int) : Int := l.foldl (fun t z => mx z (t + g)) t
theorem bz_mono {g : Int} (hg : 0 ≤ g) : ∀ {l l' : List Int}, l.Sublist l' → ∀ {t t' : Int}, t ≤ t' → bz g t l ≤ bz g t' l' := by
  intro l l' h
  induction h with
  | slnil => intro t t' h; exact h
  | cons z _ ih =>
    intro t t' h
    refine ih (t' := mx z (t' + g)) ?_
    have := mx_bd z (t' + g)
    omega
  | cons_cons z _ ih =>
    intro t t' h
    refine ih (t := mx z (t + g)) (t' := mx z (t' + g)) ?_
    unfold mx
    split <;> split <;> omega
theorem bz_snoc (g t : Int) (l : List Int) (z : Int) : bz g t (l ++ [z]) = mx z (bz g t l + g) := by unfold bz; rw [List.foldl_append]; rfl
theorem la_bz {zs : List Int} {g : Int} (hv : ∀ k, k < zs.length → 0 ≤ el zs k) : ∀ {i : Nat}, i < zs.length → la zs g 1 i = bz g (-g) (zs.take (i + 1))
  | 0, h => by
    have h0 := hv 0 h
    have e : bz g (-g) (zs.take 0) = -g := by rw [List.take_zero]; rfl
    rw [la_lo (by omega), take_el h, bz_snoc, e]
    unfold mx
    split <;> omega
  | i + 1, h => by
    rw [la_hi (by omega) (by omega), show i + 1 - 1 = i by omega, take_el h, bz_snoc, la_bz hv (i := i) (by omega)]
    rfl

end Go.Proofs.Ytcjcdlhmhhbkgaa

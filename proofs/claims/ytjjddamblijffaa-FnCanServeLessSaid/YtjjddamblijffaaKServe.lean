/- Customers along a street (pure): sweeps, and two ways to tell whether all can be served in time. -/
import Derived.Test.YtjjddamblijffaaKMath
namespace Go.Proofs.Ytjjddamblijffaa
open Go.RowKit
set_option linter.unusedVariables false
set_option linter.unusedSimpArgs false
def ltS (cs : List Cu) (i j : Nat) : Bool := decide ((cuA cs i).1 < (cuA cs j).1 ∨ ((cuA cs i).1 = (cuA cs j).1 ∧ i < j))
theorem plc_s (cs : List Cu) (N : Nat) : Plc (ltS cs) N := by
  refine ⟨fun i _ => ?_, fun i j k _ _ _ h1 h2 => ?_, fun i j _ _ hne => ?_⟩
  · unfold ltS; rw [decide_eq_false_iff_not]; omega
  · unfold ltS at *; rw [decide_eq_true_eq] at *; omega
  · unfold ltS; rw [decide_eq_true_eq, decide_eq_true_eq]; omega
def ordS (cs : List Cu) : Nat → List Nat
  | 0 => []
  | n + 1 => (ordS cs n).take (befF (ltS cs) n n) ++ n :: (ordS cs n).drop (befF (ltS cs) n n)
theorem ordS_ok (cs : List Cu) : ∀ n, Ordd (ltS cs) n (ordS cs n)
  | 0 => Ordd.nil _
  | n + 1 => (ordS_ok cs n).ins (plc_s cs (n + 1)) (by omega)
def swT (cs : List Cu) : List Int := if vcB cs then nats (ordS cs cs.length) else []
theorem swT_ok {cs : List Cu} (h : vcB cs = true) : swT cs = nats (ordS cs cs.length) := by unfold swT; rw [h]; rfl
theorem swT_no {cs : List Cu} (h : vcB cs = false) : swT cs = [] := by unfold swT; rw [h]; rfl
theorem ordS_len (cs : List Cu) (n : Nat) : (nats (ordS cs n)).length = n := by rw [nats_length, (ordS_ok cs n).len]
theorem swT_le (cs : List Cu) : (swT cs).length ≤ 8 := by
  cases h : vcB cs
  · rw [swT_no h]; simp
  · rw [swT_ok h, ordS_len]; exact (vcB_t h).1
theorem ordS_ord (cs : List Cu) (n : Nat) : ordB n (nats (ordS cs n)) = true := by
  refine ordB_all (ordS_len cs n) fun i hi => ?_
  unfold nats
  rw [List.mem_map]
  exact ⟨i, List.mem_of_getElem? ((ordS_ok cs n).to i hi), rfl⟩
def swS (cs : List Cu) : List Cu := pick cs (nats (ordS cs cs.length))
theorem swS_len (cs : List Cu) : (swS cs).length = cs.length := by unfold swS; rw [pick_len, ordS_len]
theorem swS_perm (cs : List Cu) : (swS cs).Perm cs := pick_perm (ordS_ord cs cs.length)
theorem swS_at {cs : List Cu} {p i : Nat} (h : (ordS cs cs.length)[p]? = some i) : cuA (swS cs) p = cuA cs i := by
  refine cuA_get ?_
  unfold swS pick nats
  rw [List.getElem?_map, List.getElem?_map, h]
  rfl
theorem ordS_up {cs : List Cu} {n p q i j : Nat} (hp : (ordS cs n)[p]? = some i) (hq : (ordS cs n)[q]? = some j) (hpq : p ≤ q) : (cuA cs i).1 ≤ (cuA cs j).1 := by
  obtain ⟨h1, h2⟩ := (ordS_ok cs n).of p i hp
  obtain ⟨h3, h4⟩ := (ordS_ok cs n).of q j hq
  apply Classical.byContradiction
  intro hc
  have P := plc_s cs n
  have hl : ltS cs j i = true := by unfold ltS; rw [decide_eq_true_eq]; omega
  have := befF_strict (lt := ltS cs) (a := j) (b := i) (j := j) n (fun k hk hkj => P.tr k j i hk h3 h1 hkj hl) h3 (P.irr j h3) hl
  omega
structure Srt (S : List Cu) : Prop where
  up : ∀ i j, i ≤ j → j < S.length → (cuA S i).1 ≤ (cuA S j).1
theorem swS_srt (cs : List Cu) : Srt (swS cs) := by
  refine ⟨fun i j h hj => ?_⟩
  rw [swS_len] at hj
  have hl := (ordS_ok cs cs.length).len
  have h1 : (ordS cs cs.length)[i]? = some ((ordS cs cs.length)[i]'(by omega)) := List.getElem?_eq_getElem _
  have h2 : (ordS cs cs.length)[j]? = some ((ordS cs cs.length)[j]'(by omega)) := List.getElem?_eq_getElem _
  rw [swS_at h1, swS_at h2]
  exact ordS_up h1 h2 h
/-- how many of the first k lie before a place -/
def lftN (S : List Cu) (a : Int) : Nat → Nat
  | 0 => 0
  | k + 1 => lftN S a k + (if (cuA S k).1 < a then 1 else 0)
theorem lftN_le (S : List Cu) (a : Int) : ∀ k, lftN S a k ≤ k
  | 0 => Nat.le_refl _
  | k + 1 => by have := lftN_le S a k; unfold lftN; split <;> omega
theorem lftN_ok {S : List Cu} (h : Srt S) (a : Int) : ∀ k, k ≤ S.length → (∀ i, i < lftN S a k → (cuA S i).1 < a) ∧ (∀ i, lftN S a k ≤ i → i < k → a ≤ (cuA S i).1)
  | 0, _ => ⟨fun i hi => by simp [lftN] at hi, fun i _ hi => by omega⟩
  | k + 1, hk => by
    obtain ⟨h1, h2⟩ := lftN_ok h a k (by omega)
    have hle := lftN_le S a k
    unfold lftN
    by_cases hc : (cuA S k).1 < a
    · rw [if_pos hc]
      have e : lftN S a k = k := by
        apply Classical.byContradiction
        intro hne
        have h3 := h2 (lftN S a k) (Nat.le_refl _) (by omega)
        have h4 := h.up (lftN S a k) k hle (by omega)
        omega
      refine ⟨fun i hi => ?_, fun i h3 h4 => by omega⟩
      rcases Nat.lt_or_ge i k with g | g
      · exact h1 i (by omega)
      · have : i = k := by omega
        subst this; exact hc
    · rw [if_neg hc]
      refine ⟨fun i hi => h1 i (by omega), fun i h3 h4 => ?_⟩
      rcases Nat.lt_or_ge i k with g | g
      · exact h2 i (by omega) g
      · have : i = k := by omega
        subst this; omega
/-- visits to both sides, the program's way -/
def goR (S : List Cu) (rec : Nat → Nat → Int → Int → Bool) (lo hi i : Nat) (a t : Int) : Bool := decide (t + dst a (cuA S i).1 ≤ (cuA S i).2.1) && rec lo hi (cuA S i).1 (t + dst a (cuA S i).1)
def canR (S : List Cu) : Nat → Nat → Nat → Int → Int → Bool
  | 0, _, _, _, _ => true
  | f + 1, lo, hi, a, t => (decide (0 < lo) && goR S (canR S f) (lo - 1) hi (lo - 1) a t) || (decide (hi < S.length) && goR S (canR S f) lo (hi + 1) hi a t)
theorem take_pred {S : List Cu} {lo : Nat} (h0 : 0 < lo) (h : lo ≤ S.length) : S.take lo = S.take (lo - 1) ++ [cuA S (lo - 1)] := by
  obtain ⟨l, rfl⟩ : ∃ l, lo = l + 1 := ⟨lo - 1, by omega⟩
  rw [take_snoc (get_cuA (show l < S.length by omega))]
  rfl
theorem drop_succ' {S : List Cu} {hi : Nat} (h : hi < S.length) : S.drop hi = cuA S hi :: S.drop (hi + 1) := by
  rw [List.drop_eq_getElem_cons h]
  congr 1
  exact (cuA_get (List.getElem?_eq_getElem h)).symm
theorem side_left {S : List Cu} {lo hi : Nat} (h0 : 0 < lo) (h : lo ≤ S.length) : (cuA S (lo - 1) :: (S.take (lo - 1) ++ S.drop hi)).Perm (S.take lo ++ S.drop hi) := by
  rw [take_pred h0 h, List.append_assoc]
  exact List.perm_middle.symm
theorem side_right {S : List Cu} {lo hi : Nat} (h : hi < S.length) : (cuA S hi :: (S.take lo ++ S.drop (hi + 1))).Perm (S.take lo ++ S.drop hi) := by
  rw [drop_succ' h]
  exact List.perm_middle.symm
theorem mem_take_at {S : List Cu} {lo : Nat} {x : Cu} (h : x ∈ S.take lo) : ∃ i, i < lo ∧ i < S.length ∧ cuA S i = x := by
  obtain ⟨i, hi⟩ := List.mem_iff_getElem?.1 h
  rw [List.getElem?_take] at hi
  split at hi
  · next g => exact ⟨i, g, (List.getElem?_eq_some_iff.1 hi).1, cuA_get hi⟩
  · cases hi
theorem mem_drop_at {S : List Cu} {k : Nat} {x : Cu} (h : x ∈ S.drop k) : ∃ i, k ≤ i ∧ i < S.length ∧ cuA S i = x := by
  obtain ⟨i, hi⟩ := List.mem_iff_getElem?.1 h
  rw [List.getElem?_drop] at hi
  exact ⟨k + i, by omega, (List.getElem?_eq_some_iff.1 hi).1, cuA_get hi⟩
theorem canR_can {S : List Cu} (hS : Srt S) : ∀ {f lo hi : Nat} {a t : Int}, f + hi = lo + S.length → lo ≤ hi → hi ≤ S.length → (∀ i, i < lo → (cuA S i).1 ≤ a) → (∀ i, hi ≤ i → i < S.length → a ≤ (cuA S i).1) → (canR S f lo hi a t = true ↔ can a t (S.take lo ++ S.drop hi))
  | 0, lo, hi, a, t, hf, hlo, hhi, _, _ => by
    have h1 : lo = 0 := by omega
    have h2 : hi = S.length := by omega
    subst h1 h2
    simp [canR, can_nil]
  | f + 1, lo, hi, a, t, hf, hlo, hhi, hl, hr => by
    have IL : 0 < lo → (canR S f (lo - 1) hi (cuA S (lo - 1)).1 (t + dst a (cuA S (lo - 1)).1) = true ↔ can (cuA S (lo - 1)).1 (t + dst a (cuA S (lo - 1)).1) (S.take (lo - 1) ++ S.drop hi)) := fun h0 =>
      canR_can hS (by omega) (by omega) hhi (fun i hi' => hS.up i (lo - 1) (by omega) (by omega)) (fun i h1 h2 => hS.up (lo - 1) i (by omega) h2)
    have IR : hi < S.length → (canR S f lo (hi + 1) (cuA S hi).1 (t + dst a (cuA S hi).1) = true ↔ can (cuA S hi).1 (t + dst a (cuA S hi).1) (S.take lo ++ S.drop (hi + 1))) := fun h0 =>
      canR_can hS (by omega) (by omega) (by omega) (fun i hi' => hS.up i hi (by omega) h0) (fun i h1 h2 => hS.up hi i (by omega) h2)
    unfold canR goR
    rw [Bool.or_eq_true, Bool.and_eq_true, Bool.and_eq_true, Bool.and_eq_true, Bool.and_eq_true, decide_eq_true_eq, decide_eq_true_eq, decide_eq_true_eq, decide_eq_true_eq]
    constructor
    · rintro (⟨h0, h1, h2⟩ | ⟨h0, h1, h2⟩)
      · exact can_same (can_first h1 ((IL h0).1 h2)) (side_left h0 (by omega))
      · exact can_same (can_first h1 ((IR h0).1 h2)) (side_right h0)
    · rintro ⟨m, h1, h2⟩
      match m, h1, h2 with
      | [], h1, _ =>
        have := h1.length_eq
        rw [List.length_append, List.length_take, List.length_drop] at this
        simp at this
        omega
      | x :: m, h1, h2 =>
        have hx : x ∈ S.take lo ++ S.drop hi := h1.mem_iff.1 (List.mem_cons_self ..)
        rcases List.mem_append.1 hx with hx | hx
        · left
          obtain ⟨i, hi1, hi2, rfl⟩ := mem_take_at hx
          have h0 : 0 < lo := by omega
          have hw := can_way (c := cuA S (lo - 1)) (h1.trans (side_left h0 (by omega)).symm) h2 (fun y hy => by
            simp at hy
            subst hy
            exact dst_on (.inr ⟨hS.up i (lo - 1) (by omega) (by omega), hl (lo - 1) (by omega)⟩))
          exact ⟨h0, hw.1, (IL h0).2 hw.2⟩
        · right
          obtain ⟨i, hi1, hi2, rfl⟩ := mem_drop_at hx
          have h0 : hi < S.length := by omega
          have hw := can_way (c := cuA S hi) (h1.trans (side_right h0).symm) h2 (fun y hy => by
            simp at hy
            subst hy
            exact dst_on (.inl ⟨hr hi (Nat.le_refl _) h0, hS.up hi i hi1 hi2⟩))
          exact ⟨h0, hw.1, (IR h0).2 hw.2⟩
def csvB (cs : List Cu) (st : Int) : Bool := canR (swS cs) cs.length (lftN (swS cs) st cs.length) (lftN (swS cs) st cs.length) st 0
def csvT (cs : List Cu) (st : Int) : Bool := (vcB cs && inB st (-100) 100) && csvB cs st
theorem csvB_can {cs : List Cu} {st : Int} : csvB cs st = true ↔ can st 0 cs := by
  have hl := swS_len cs
  have hle := lftN_le (swS cs) st cs.length
  obtain ⟨h1, h2⟩ := lftN_ok (swS_srt cs) st cs.length (by omega)
  unfold csvB
  rw [canR_can (swS_srt cs) (by omega) (Nat.le_refl _) (by omega) (fun i hi => by have := h1 i hi; omega) (fun i h3 h4 => h2 i h3 (by omega)), List.take_append_drop]
  exact ⟨fun h => can_same h (swS_perm cs), fun h => can_same h (swS_perm cs).symm⟩
theorem csvT_can {cs : List Cu} {st : Int} : csvT cs st = true ↔ vcB cs = true ∧ inB st (-100) 100 = true ∧ can st 0 cs := by
  unfold csvT
  rw [Bool.and_eq_true, Bool.and_eq_true, csvB_can, and_assoc]
/-! the model's way: the soonest time at an end of an interval -/
def sooC (u : Int) (o c : Cu) : Int := u + dst o.1 c.1
def soo1 (t0 : Int) (o0 c : Cu) : Int := if 0 ≤ t0 ∧ sooC t0 o0 c ≤ c.2.1 then sooC t0 o0 c else -1
def soo2 (b t1 : Int) (o1 c : Cu) : Int := if 0 ≤ t1 ∧ sooC t1 o1 c ≤ c.2.1 ∧ (b < 0 ∨ sooC t1 o1 c < b) then sooC t1 o1 c else b
def endC (S : List Cu) (from_ d : Nat) (high : Bool) : Cu := if high then cuA S (from_ + d) else cuA S from_
def inner (from_ : Nat) (high : Bool) : Nat := if high then from_ else from_ + 1
def sooF (S : List Cu) (st : Int) : Nat → Nat → Bool → Int
  | 0, f, _ => if (cuA S f).2.1 < dst st (cuA S f).1 then -1 else dst st (cuA S f).1
  | d + 1, f, high => soo2 (soo1 (sooF S st d (inner f high) false) (endC S (inner f high) d false) (endC S f (d + 1) high)) (sooF S st d (inner f high) true) (endC S (inner f high) d true) (endC S f (d + 1) high)
theorem soo_either {t0 t1 : Int} {o0 o1 c : Cu} (h : 0 ≤ soo2 (soo1 t0 o0 c) t1 o1 c) : (0 ≤ t0 ∧ sooC t0 o0 c ≤ c.2.1 ∧ soo2 (soo1 t0 o0 c) t1 o1 c = sooC t0 o0 c) ∨ (0 ≤ t1 ∧ sooC t1 o1 c ≤ c.2.1 ∧ soo2 (soo1 t0 o0 c) t1 o1 c = sooC t1 o1 c) := by
  unfold soo2 at *
  split at h
  · next g => right; rw [if_pos g]; exact ⟨g.1, g.2.1, rfl⟩
  · next g =>
    left
    rw [if_neg g]
    unfold soo1 at *
    split at h
    · next q => rw [if_pos q]; exact ⟨q.1, q.2, rfl⟩
    · omega
theorem soo_least0 {t0 t1 : Int} {o0 o1 c : Cu} (h0 : 0 ≤ t0) (h1 : sooC t0 o0 c ≤ c.2.1) : 0 ≤ soo2 (soo1 t0 o0 c) t1 o1 c ∧ soo2 (soo1 t0 o0 c) t1 o1 c ≤ sooC t0 o0 c := by
  have e : soo1 t0 o0 c = sooC t0 o0 c := by unfold soo1; rw [if_pos ⟨h0, h1⟩]
  have hg : 0 ≤ sooC t0 o0 c := by unfold sooC; have := dst_ge o0.1 c.1; omega
  have hg1 : 0 ≤ t1 → 0 ≤ sooC t1 o1 c := fun h => by unfold sooC; have := dst_ge o1.1 c.1; omega
  rw [e]
  unfold soo2
  split
  · next g => have := hg1 g.1; omega
  · omega
theorem soo_least1 {t0 t1 : Int} {o0 o1 c : Cu} (h0 : 0 ≤ t1) (h1 : sooC t1 o1 c ≤ c.2.1) : 0 ≤ soo2 (soo1 t0 o0 c) t1 o1 c ∧ soo2 (soo1 t0 o0 c) t1 o1 c ≤ sooC t1 o1 c := by
  have hg1 : 0 ≤ sooC t1 o1 c := by unfold sooC; have := dst_ge o1.1 c.1; omega
  unfold soo2
  split
  · omega
  · next g =>
    have : ¬ (soo1 t0 o0 c < 0 ∨ sooC t1 o1 c < soo1 t0 o0 c) := fun h => g ⟨h0, h1, h⟩
    omega
def seg (S : List Cu) (f d : Nat) : List Cu := (S.drop f).take (d + 1)
theorem seg_zero {S : List Cu} {f : Nat} (h : f < S.length) : seg S f 0 = [cuA S f] := by unfold seg; rw [drop_succ' h]; rfl
theorem seg_low {S : List Cu} {f d : Nat} (h : f < S.length) : seg S f (d + 1) = cuA S f :: seg S (f + 1) d := by unfold seg; rw [drop_succ' h]; rfl
theorem seg_high {S : List Cu} {f d : Nat} (h : f + (d + 1) < S.length) : seg S f (d + 1) = seg S f d ++ [cuA S (f + (d + 1))] := by
  unfold seg
  rw [take_snoc (z := (cuA S (f + (d + 1)))) (by rw [List.getElem?_drop]; exact get_cuA h)]
theorem seg_all (S : List Cu) {n : Nat} (h : S.length = n + 1) : seg S 0 n = S := by unfold seg; rw [List.drop_zero, ← h, List.take_length]
theorem seg_end {S : List Cu} {f d : Nat} (high : Bool) (h : f + (d + 1) < S.length) : (seg S (inner f high) d ++ [endC S f (d + 1) high]).Perm (seg S f (d + 1)) := by
  cases high
  · show (seg S (f + 1) d ++ [cuA S f]).Perm (seg S f (d + 1))
    rw [seg_low (by omega)]
    exact List.perm_append_singleton _ _
  · show (seg S f d ++ [cuA S (f + (d + 1))]).Perm (seg S f (d + 1))
    rw [seg_high h]
theorem soo_sound {S : List Cu} {st : Int} : ∀ {d f : Nat} {high : Bool}, f + d < S.length → 0 ≤ sooF S st d f high → ∃ m : List Cu, m.Perm (seg S f d) ∧ feas st 0 m ∧ endP st m = (endC S f d high).1 ∧ endT st m = sooF S st d f high
  | 0, f, high, hf, h => by
    unfold sooF at *
    split at h
    · omega
    · next g =>
      rw [if_neg g]
      refine ⟨[cuA S f], by rw [seg_zero (by omega)], ⟨by omega, trivial⟩, ?_, by simp [endT]⟩
      cases high <;> rfl
  | d + 1, f, high, hf, h => by
    have hin : inner f high + d < S.length := by unfold inner; split <;> omega
    unfold sooF at h ⊢
    rcases soo_either h with ⟨h0, h1, h2⟩ | ⟨h0, h1, h2⟩
    all_goals
      obtain ⟨m, p, q, r, s⟩ := soo_sound hin h0
      refine ⟨m ++ [endC S f (d + 1) high], (p.append_right _).trans (seg_end high hf), ?_, endP_snoc _ _ _, ?_⟩
      · rw [feas_snoc, endT_snoc, r, s]
        exact ⟨q, by unfold sooC at h1; omega⟩
      · rw [h2, endT_snoc, r, s]; rfl
theorem soo_full {S : List Cu} {st : Int} {n : Nat} (hn : S.length = n + 1) (high : Bool) (h : 0 ≤ sooF S st n 0 high) : can st 0 S := by
  obtain ⟨m, p, q, _, _⟩ := soo_sound (S := S) (st := st) (d := n) (f := 0) (high := high) (by omega) h
  rw [seg_all S hn] at p
  exact ⟨m, p, q⟩
theorem soo_from {S : List Cu} {st : Int} : ∀ {f lo hi : Nat} {a t : Int}, f + hi = lo + S.length → lo ≤ hi → hi ≤ S.length → 0 < S.length → canR S f lo hi a t = true →
    ((lo = hi ∧ a = st ∧ t = 0) ∨ ∃ d side, hi = lo + d + 1 ∧ a = (endC S lo d side).1 ∧ 0 ≤ sooF S st d lo side ∧ sooF S st d lo side ≤ t) → ∃ side, 0 ≤ sooF S st (S.length - 1) 0 side
  | 0, lo, hi, a, t, hf, hlo, hhi, hp, _, hst => by
    rcases hst with ⟨h1, _⟩ | ⟨d, side, h1, _, h3, _⟩
    · omega
    · have e1 : lo = 0 := by omega
      have e2 : d = S.length - 1 := by omega
      subst e1 e2
      exact ⟨side, h3⟩
  | f + 1, lo, hi, a, t, hf, hlo, hhi, hp, hc, hst => by
    unfold canR goR at hc
    rw [Bool.or_eq_true, Bool.and_eq_true, Bool.and_eq_true, Bool.and_eq_true, Bool.and_eq_true, decide_eq_true_eq, decide_eq_true_eq, decide_eq_true_eq, decide_eq_true_eq] at hc
    rcases hc with ⟨h0, h1, h2⟩ | ⟨h0, h1, h2⟩
    · refine soo_from (f := f) (lo := lo - 1) (hi := hi) (by omega) (by omega) hhi hp h2 (.inr ?_)
      rcases hst with ⟨e1, e2, e3⟩ | ⟨d, side, e1, e2, e3, e4⟩
      · subst e1 e2 e3
        rw [Int.zero_add] at h1 ⊢
        refine ⟨0, false, by omega, rfl, ?_, ?_⟩
        all_goals
          unfold sooF
          rw [if_neg (by omega)]
        · exact dst_ge _ _
        · exact Int.le_refl _
      · have el : lo - 1 + 1 = lo := by omega
        refine ⟨d + 1, false, by omega, rfl, ?_⟩
        unfold sooF
        have ei : inner (lo - 1) false = lo := el
        rw [ei]
        show 0 ≤ soo2 (soo1 _ _ (cuA S (lo - 1))) _ _ (cuA S (lo - 1)) ∧ soo2 (soo1 _ _ (cuA S (lo - 1))) _ _ (cuA S (lo - 1)) ≤ _
        rw [e2] at h1 ⊢
        cases side
        · have hs : sooC (sooF S st d lo false) (endC S lo d false) (cuA S (lo - 1)) ≤ (cuA S (lo - 1)).2.1 := by unfold sooC; omega
          have := soo_least0 (t1 := sooF S st d lo true) (o1 := endC S lo d true) e3 hs
          refine ⟨this.1, Int.le_trans this.2 ?_⟩
          unfold sooC; omega
        · have hs : sooC (sooF S st d lo true) (endC S lo d true) (cuA S (lo - 1)) ≤ (cuA S (lo - 1)).2.1 := by unfold sooC; omega
          have := soo_least1 (t0 := sooF S st d lo false) (o0 := endC S lo d false) e3 hs
          refine ⟨this.1, Int.le_trans this.2 ?_⟩
          unfold sooC; omega
    · refine soo_from (f := f) (lo := lo) (hi := hi + 1) (by omega) (by omega) (by omega) hp h2 (.inr ?_)
      rcases hst with ⟨e1, e2, e3⟩ | ⟨d, side, e1, e2, e3, e4⟩
      · subst e1 e2 e3
        rw [Int.zero_add] at h1 ⊢
        refine ⟨0, false, by omega, rfl, ?_, ?_⟩
        all_goals
          unfold sooF
          rw [if_neg (by omega)]
        · exact dst_ge _ _
        · exact Int.le_refl _
      · refine ⟨d + 1, true, by omega, ?_, ?_⟩
        · show (cuA S hi).1 = (cuA S (lo + (d + 1))).1
          rw [e1]; rfl
        unfold sooF
        show 0 ≤ soo2 (soo1 (sooF S st d lo false) (endC S lo d false) (cuA S (lo + (d + 1)))) (sooF S st d lo true) (endC S lo d true) (cuA S (lo + (d + 1))) ∧ soo2 (soo1 (sooF S st d lo false) (endC S lo d false) (cuA S (lo + (d + 1)))) (sooF S st d lo true) (endC S lo d true) (cuA S (lo + (d + 1))) ≤ _
        have ee : lo + (d + 1) = hi := by omega
        rw [ee]
        rw [e2] at h1 ⊢
        cases side
        · have hs : sooC (sooF S st d lo false) (endC S lo d false) (cuA S hi) ≤ (cuA S hi).2.1 := by unfold sooC; omega
          have := soo_least0 (t1 := sooF S st d lo true) (o1 := endC S lo d true) e3 hs
          refine ⟨this.1, Int.le_trans this.2 ?_⟩
          unfold sooC; omega
        · have hs : sooC (sooF S st d lo true) (endC S lo d true) (cuA S hi) ≤ (cuA S hi).2.1 := by unfold sooC; omega
          have := soo_least1 (t0 := sooF S st d lo false) (o0 := endC S lo d false) e3 hs
          refine ⟨this.1, Int.le_trans this.2 ?_⟩
          unfold sooC; omega
theorem soo_serve {cs : List Cu} {st : Int} {n : Nat} (hn : cs.length = n + 1) : csvB cs st = (decide (0 ≤ sooF (swS cs) st n 0 false) || decide (0 ≤ sooF (swS cs) st n 0 true)) := by
  have hl := swS_len cs
  have hle := lftN_le (swS cs) st cs.length
  rw [Bool.eq_iff_iff, Bool.or_eq_true, decide_eq_true_eq, decide_eq_true_eq]
  constructor
  · intro h
    unfold csvB at h
    obtain ⟨side, hs⟩ := soo_from (S := swS cs) (st := st) (by omega) (Nat.le_refl _) (by omega) (by omega) h (.inl ⟨rfl, rfl, rfl⟩)
    rw [show (swS cs).length - 1 = n by omega] at hs
    cases side
    · exact .inl hs
    · exact .inr hs
  · intro h
    refine csvB_can.2 (can_same ?_ (swS_perm cs))
    rcases h with h | h
    · exact soo_full (by omega) false h
    · exact soo_full (by omega) true h

end Go.Proofs.Ytjjddamblijffaa

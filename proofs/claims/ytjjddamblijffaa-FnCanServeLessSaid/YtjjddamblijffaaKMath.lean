/- Customers along a street (pure): times, lateness, loads, orders that are in time. -/
import Derived.Test.YtjjddamblijffaaVOrd
import Derived.Test.YtjjddamblijffaaFOrd
namespace Go.Proofs.Ytjjddamblijffaa
open Go.RowKit
set_option linter.unusedVariables false
set_option linter.unusedSimpArgs false
abbrev Cu := Int × Int × Int
def dst (a b : Int) : Int := if a < b then b - a else a - b
theorem dst_ge (a b : Int) : 0 ≤ dst a b := by unfold dst; split <;> omega
theorem dst_bd {a b : Int} (ha : -100 ≤ a ∧ a ≤ 100) (hb : -100 ≤ b ∧ b ≤ 100) : 0 ≤ dst a b ∧ dst a b ≤ 200 := by unfold dst; split <;> omega
theorem dst_tri (a b c : Int) : dst a c ≤ dst a b + dst b c := by unfold dst; split <;> split <;> split <;> omega
theorem dst_on {a b c : Int} (h : (a ≤ b ∧ b ≤ c) ∨ (c ≤ b ∧ b ≤ a)) : dst a b + dst b c = dst a c := by unfold dst; split <;> split <;> split <;> omega
theorem dst_self (a : Int) : dst a a = 0 := by unfold dst; split <;> omega
theorem dst_comm (a b : Int) : dst a b = dst b a := by unfold dst; split <;> split <;> omega
theorem dst_neg (a b : Int) : dst (-a) (-b) = dst a b := by unfold dst; split <;> split <;> omega
def pos0 (x : Int) : Int := if 0 < x then x else 0
theorem pos0_ge (x : Int) : 0 ≤ pos0 x := by unfold pos0; split <;> omega
theorem pos0_le {x : Int} {b : Int} (h : x ≤ b) (hb : 0 ≤ b) : pos0 x ≤ b := by unfold pos0; split <;> omega
theorem pos0_zero {x : Int} : pos0 x = 0 ↔ x ≤ 0 := by unfold pos0; split <;> omega
def cuA (cs : List Cu) (i : Nat) : Cu := cs.getD i (0, 0, 0)
theorem cuA_get {cs : List Cu} {i : Nat} {c : Cu} (h : cs[i]? = some c) : cuA cs i = c := by simp [cuA, List.getD_eq_getElem?_getD, h]
theorem get_cuA {cs : List Cu} {i : Nat} (h : i < cs.length) : cs[i]? = some (cuA cs i) := by simp [cuA, List.getD_eq_getElem?_getD, h]
def cuV (c : Cu) : Bool := (inB c.1 (-100) 100 && inB c.2.1 0 2000) && inB c.2.2 1 50
theorem cuV_t {c : Cu} (h : cuV c = true) : (-100 ≤ c.1 ∧ c.1 ≤ 100) ∧ (0 ≤ c.2.1 ∧ c.2.1 ≤ 2000) ∧ (1 ≤ c.2.2 ∧ c.2.2 ≤ 50) := by
  unfold cuV at h
  simp only [Bool.and_eq_true] at h
  exact ⟨inB_t h.1.1, inB_t h.1.2, inB_t h.2⟩
def cuTo (cs : List Cu) (n : Nat) : Bool := (List.range n).all (fun i => cuV (cuA cs i))
theorem cuTo_succ (cs : List Cu) (n : Nat) : cuTo cs (n + 1) = (cuTo cs n && cuV (cuA cs n)) := by
  unfold cuTo
  rw [List.range_succ, List.all_append]
  simp
theorem cuTo_bad {cs : List Cu} {i n : Nat} (hi : i < n) (h : cuV (cuA cs i) = false) : cuTo cs n = false := by
  unfold cuTo
  rw [List.all_eq_false]
  exact ⟨i, List.mem_range.2 hi, by rw [h]; simp⟩
theorem cuTo_at {cs : List Cu} {n i : Nat} (h : cuTo cs n = true) (hi : i < n) : cuV (cuA cs i) = true := by
  unfold cuTo at h
  rw [List.all_eq_true] at h
  exact h i (List.mem_range.2 hi)
def vcB (cs : List Cu) : Bool := cuTo cs cs.length && decide (cs.length ≤ 8)
theorem vcB_t {cs : List Cu} (h : vcB cs = true) : cs.length ≤ 8 ∧ cuTo cs cs.length = true := by
  unfold vcB at h
  rw [Bool.and_eq_true, decide_eq_true_eq] at h
  exact ⟨h.2, h.1⟩
theorem vcB_mem {cs : List Cu} : vcB cs = true ↔ cs.length ≤ 8 ∧ ∀ c ∈ cs, cuV c = true := by
  constructor
  · intro h
    obtain ⟨h1, h2⟩ := vcB_t h
    refine ⟨h1, fun c hc => ?_⟩
    obtain ⟨i, hi⟩ := List.mem_iff_getElem?.1 hc
    have hl := (List.getElem?_eq_some_iff.1 hi).1
    have := cuTo_at h2 hl
    rwa [cuA_get hi] at this
  · rintro ⟨h1, h2⟩
    unfold vcB
    rw [decide_eq_true h1, Bool.and_true]
    unfold cuTo
    rw [List.all_eq_true]
    intro i hi
    exact h2 _ (List.mem_of_getElem? (get_cuA (List.mem_range.1 hi)))
def endP (a : Int) : List Cu → Int
  | [] => a
  | c :: l => endP c.1 l
def endT (a : Int) : List Cu → Int
  | [] => 0
  | c :: l => dst a c.1 + endT c.1 l
def tmL (a t : Int) : List Cu → List Int
  | [] => []
  | c :: l => (t + dst a c.1) :: tmL c.1 (t + dst a c.1) l
def latR (a t : Int) : List Cu → Int
  | [] => 0
  | c :: l => pos0 (t + dst a c.1 - c.2.1) + latR c.1 (t + dst a c.1) l
def wanS : List Cu → Int
  | [] => 0
  | c :: l => c.2.2 + wanS l
def feas (a t : Int) : List Cu → Prop
  | [] => True
  | c :: l => t + dst a c.1 ≤ c.2.1 ∧ feas c.1 (t + dst a c.1) l
theorem endP_snoc : ∀ (a : Int) (l : List Cu) (c : Cu), endP a (l ++ [c]) = c.1
  | _, [], _ => rfl
  | _, d :: l, c => endP_snoc d.1 l c
theorem endT_snoc : ∀ (a : Int) (l : List Cu) (c : Cu), endT a (l ++ [c]) = endT a l + dst (endP a l) c.1
  | _, [], _ => by simp [endT, endP]
  | a, d :: l, c => by
    show dst a d.1 + endT d.1 (l ++ [c]) = dst a d.1 + endT d.1 l + dst (endP d.1 l) c.1
    rw [endT_snoc d.1 l c]; omega
theorem tmL_len : ∀ (a t : Int) (l : List Cu), (tmL a t l).length = l.length
  | _, _, [] => rfl
  | a, t, c :: l => by simp [tmL, tmL_len _ _ l]
theorem tmL_snoc : ∀ (a t : Int) (l : List Cu) (c : Cu), tmL a t (l ++ [c]) = tmL a t l ++ [t + endT a (l ++ [c])]
  | a, t, [], c => by simp [tmL, endT]
  | a, t, d :: l, c => by
    show (t + dst a d.1) :: tmL d.1 (t + dst a d.1) (l ++ [c]) = (t + dst a d.1) :: tmL d.1 (t + dst a d.1) l ++ [t + (dst a d.1 + endT d.1 (l ++ [c]))]
    rw [tmL_snoc d.1 _ l c, List.cons_append]
    congr 3
    omega
theorem latR_snoc : ∀ (a t : Int) (l : List Cu) (c : Cu), latR a t (l ++ [c]) = latR a t l + pos0 (t + endT a (l ++ [c]) - c.2.1)
  | a, t, [], c => by simp [latR, endT]
  | a, t, d :: l, c => by
    show pos0 (t + dst a d.1 - d.2.1) + latR d.1 (t + dst a d.1) (l ++ [c]) = pos0 (t + dst a d.1 - d.2.1) + latR d.1 (t + dst a d.1) l + pos0 (t + (dst a d.1 + endT d.1 (l ++ [c])) - c.2.1)
    rw [latR_snoc d.1 _ l c, show t + dst a d.1 + endT d.1 (l ++ [c]) = t + (dst a d.1 + endT d.1 (l ++ [c])) by omega]
    omega
theorem wanS_snoc : ∀ (l : List Cu) (c : Cu), wanS (l ++ [c]) = wanS l + c.2.2
  | [], c => by simp [wanS]
  | d :: l, c => by
    show d.2.2 + wanS (l ++ [c]) = d.2.2 + wanS l + c.2.2
    rw [wanS_snoc l c]; omega
theorem latR_ge : ∀ (a t : Int) (l : List Cu), 0 ≤ latR a t l
  | _, _, [] => Int.le_refl _
  | a, t, c :: l => by
    show 0 ≤ pos0 (t + dst a c.1 - c.2.1) + latR c.1 (t + dst a c.1) l
    have := pos0_ge (t + dst a c.1 - c.2.1)
    have := latR_ge c.1 (t + dst a c.1) l
    omega
theorem latR_feas : ∀ {l : List Cu} {a t : Int}, latR a t l = 0 ↔ feas a t l
  | [], a, t => by simp [latR, feas]
  | c :: l, a, t => by
    show pos0 (t + dst a c.1 - c.2.1) + latR c.1 (t + dst a c.1) l = 0 ↔ t + dst a c.1 ≤ c.2.1 ∧ feas c.1 (t + dst a c.1) l
    have h1 := pos0_ge (t + dst a c.1 - c.2.1)
    have h2 := latR_ge c.1 (t + dst a c.1) l
    rw [← latR_feas (l := l)]
    have h3 := pos0_zero (x := t + dst a c.1 - c.2.1)
    omega
theorem endP_bd : ∀ {l : List Cu} {a : Int}, (-100 ≤ a ∧ a ≤ 100) → (∀ c ∈ l, cuV c = true) → -100 ≤ endP a l ∧ endP a l ≤ 100
  | [], _, h, _ => h
  | c :: l, _, _, hl => endP_bd (l := l) (cuV_t (hl c (List.mem_cons_self ..))).1 (fun d hd => hl d (List.mem_cons_of_mem _ hd))
theorem endT_bd : ∀ {l : List Cu} {a : Int}, (-100 ≤ a ∧ a ≤ 100) → (∀ c ∈ l, cuV c = true) → 0 ≤ endT a l ∧ endT a l ≤ 200 * (l.length : Int)
  | [], _, _, _ => by simp [endT]
  | c :: l, a, h, hl => by
    have hc := (cuV_t (hl c (List.mem_cons_self ..))).1
    have := endT_bd (l := l) hc (fun d hd => hl d (List.mem_cons_of_mem _ hd))
    have := dst_bd h hc
    show 0 ≤ dst a c.1 + endT c.1 l ∧ dst a c.1 + endT c.1 l ≤ 200 * ((l.length + 1 : Nat) : Int)
    omega
theorem latR_bd : ∀ {l : List Cu} {a t : Int}, (-100 ≤ a ∧ a ≤ 100) → (∀ c ∈ l, cuV c = true) → 0 ≤ t → latR a t l ≤ (t + 200 * (l.length : Int)) * (l.length : Int)
  | [], _, _, _, _, _ => by simp [latR]
  | c :: l, a, t, h, hl, ht => by
    have hv := cuV_t (hl c (List.mem_cons_self ..))
    have hd := dst_bd h hv.1
    have ih := latR_bd (l := l) (a := c.1) (t := t + dst a c.1) hv.1 (fun d hd => hl d (List.mem_cons_of_mem _ hd)) (by omega)
    have h0 : pos0 (t + dst a c.1 - c.2.1) ≤ t + 200 := pos0_le (by omega) (by omega)
    show pos0 (t + dst a c.1 - c.2.1) + latR c.1 (t + dst a c.1) l ≤ (t + 200 * ((l.length + 1 : Nat) : Int)) * ((l.length + 1 : Nat) : Int)
    generalize hL : (l.length : Int) = L at *
    have hL0 : 0 ≤ L := by omega
    have e1 : ((l.length + 1 : Nat) : Int) = L + 1 := by omega
    rw [e1]
    have h1 : (t + dst a c.1 + 200 * L) * L ≤ (t + 200 + 200 * L) * L := Int.mul_le_mul_of_nonneg_right (by omega) hL0
    have e2 : (t + 200 * (L + 1)) * (L + 1) = (t + 200 + 200 * L) * L + (t + 200 + 200 * L) := by
      rw [show t + 200 * (L + 1) = t + 200 + 200 * L by omega, Int.mul_add, Int.mul_one]
    rw [e2]
    omega
theorem wanS_bd : ∀ {l : List Cu}, (∀ c ∈ l, cuV c = true) → (l.length : Int) ≤ wanS l ∧ wanS l ≤ 50 * (l.length : Int)
  | [], _ => by simp [wanS]
  | c :: l, hl => by
    have hv := cuV_t (hl c (List.mem_cons_self ..))
    have := wanS_bd (l := l) (fun d hd => hl d (List.mem_cons_of_mem _ hd))
    show ((l.length + 1 : Nat) : Int) ≤ c.2.2 + wanS l ∧ c.2.2 + wanS l ≤ 50 * ((l.length + 1 : Nat) : Int)
    omega
def pick (cs : List Cu) (os : List Int) : List Cu := os.map (fun o => cuA cs o.toNat)
theorem pick_len (cs : List Cu) (os : List Int) : (pick cs os).length = os.length := by simp [pick]
theorem pick_snoc {cs : List Cu} {os : List Int} {k : Nat} {t : Nat} (h : os[k]? = some (t : Int)) : pick cs (os.take (k + 1)) = pick cs (os.take k) ++ [cuA cs t] := by
  rw [take_snoc h]
  simp [pick]
theorem pick_v {cs : List Cu} {os : List Int} (hv : vcB cs = true) (ho : ordTo cs.length os os.length = true) : ∀ c ∈ pick cs os, cuV c = true := fun c hc => by
  unfold pick at hc
  rw [List.mem_map] at hc
  obtain ⟨o, hm, rfl⟩ := hc
  obtain ⟨i, hi⟩ := List.mem_iff_getElem?.1 hm
  have hl := (List.getElem?_eq_some_iff.1 hi).1
  have h1 := ordTo_in ho hl
  rw [at_of hi] at h1
  exact cuTo_at (vcB_t hv).2 (by omega)
theorem pick_vk {cs : List Cu} {os : List Int} {n : Nat} (hv : vcB cs = true) (hn : cs.length = n) (ho : ordB n os = true) (k : Nat) : ∀ c ∈ pick cs (os.take k), cuV c = true := fun c hc => by
  subst hn
  obtain ⟨h1, h2⟩ := ordB_t ho
  rw [← h1] at h2
  refine pick_v hv (h1 ▸ h2 : ordTo cs.length os os.length = true) c ?_
  unfold pick at hc ⊢
  rw [List.map_take] at hc
  exact List.mem_of_mem_take hc
def lodR (a e : Int) (l : List Cu) : Int := if l = [] then 0 else wanS l + endT a l / e
theorem lodR_snoc {a e : Int} {l : List Cu} {c : Cu} : lodR a e (l ++ [c]) = wanS (l ++ [c]) + endT a (l ++ [c]) / e := by
  unfold lodR
  rw [if_neg (by simp)]
theorem lodR_up {a e : Int} {l : List Cu} {c : Cu} (he : 1 ≤ e) (hc : 1 ≤ c.2.2) : lodR a e l ≤ lodR a e (l ++ [c]) ∨ (l = [] ∧ lodR a e l = 0) := by
  by_cases h : l = []
  · exact .inr ⟨h, by unfold lodR; rw [if_pos h]⟩
  · left
    rw [lodR_snoc, wanS_snoc]
    unfold lodR
    rw [if_neg h]
    have h1 : endT a l ≤ endT a (l ++ [c]) := by rw [endT_snoc]; have := dst_ge (endP a l) c.1; omega
    have := Int.ediv_le_ediv (c := e) (by omega) h1
    omega
def rndB (cs : List Cu) (st : Int) (os : List Int) : Bool := (vcB cs && inB st (-100) 100) && ordB cs.length os
def visT (cs : List Cu) (st : Int) (os : List Int) : List Int := if rndB cs st os then tmL st 0 (pick cs os) else []
def lateT (cs : List Cu) (st : Int) (os : List Int) : Int := if rndB cs st os then latR st 0 (pick cs os) else -1
def loadT (cs : List Cu) (st : Int) (os : List Int) (e : Int) : Int := if rndB cs st os && inB e 1 2000 then lodR st e (pick cs os) else -1
theorem rndB_t {cs : List Cu} {st : Int} {os : List Int} (h : rndB cs st os = true) : vcB cs = true ∧ (-100 ≤ st ∧ st ≤ 100) ∧ ordB cs.length os = true := by
  unfold rndB at h
  simp only [Bool.and_eq_true] at h
  exact ⟨h.1.1, inB_t h.1.2, h.2⟩
theorem visT_ok {cs : List Cu} {st : Int} {os : List Int} (h : rndB cs st os = true) : visT cs st os = tmL st 0 (pick cs os) := by unfold visT; rw [h]; rfl
theorem visT_no {cs : List Cu} {st : Int} {os : List Int} (h : rndB cs st os = false) : visT cs st os = [] := by unfold visT; rw [h]; rfl
theorem lateT_ok {cs : List Cu} {st : Int} {os : List Int} (h : rndB cs st os = true) : lateT cs st os = latR st 0 (pick cs os) := by unfold lateT; rw [h]; rfl
theorem lateT_no {cs : List Cu} {st : Int} {os : List Int} (h : rndB cs st os = false) : lateT cs st os = -1 := by unfold lateT; rw [h]; rfl
theorem visT_le (cs : List Cu) (st : Int) (os : List Int) : (visT cs st os).length ≤ 8 := by
  cases h : rndB cs st os
  · rw [visT_no h]; simp
  · rw [visT_ok h, tmL_len, pick_len]
    obtain ⟨h1, _, h3⟩ := rndB_t h
    have := (ordB_t h3).1
    have := (vcB_t h1).1
    omega
/-! orders and permutations -/
theorem perm_of : ∀ {l m : List Int}, l.Nodup → (∀ x ∈ l, x ∈ m) → l.length = m.length → l.Perm m
  | [], m, _, _, h => by
    have : m = [] := List.length_eq_zero_iff.1 (by simpa using h.symm)
    rw [this]
  | x :: l, m, hd, hs, h => by
    have hx : x ∈ m := hs x (List.mem_cons_self ..)
    rw [List.nodup_cons] at hd
    have h1 : m.Perm (x :: m.erase x) := List.perm_cons_erase hx
    have h2 : (m.erase x).length = m.length - 1 := List.length_erase_of_mem hx
    have h3 : l.Perm (m.erase x) := perm_of hd.2 (fun y hy => (List.mem_erase_of_ne (fun e : y = x => hd.1 (by rw [← e]; exact hy))).2 (hs y (List.mem_cons_of_mem _ hy))) (by simp at h; omega)
    exact (h3.cons x).trans h1.symm
theorem nats_mem {n : Nat} {z : Int} : z ∈ nats (List.range n) ↔ 0 ≤ z ∧ z < n := by
  unfold nats
  rw [List.mem_map]
  constructor
  · rintro ⟨a, ha, rfl⟩
    have := List.mem_range.1 ha
    omega
  · rintro ⟨h1, h2⟩
    exact ⟨z.toNat, List.mem_range.2 (by omega), by simp; omega⟩
theorem nats_nodup (n : Nat) : (nats (List.range n)).Nodup := by
  induction n with
  | zero => simp [nats]
  | succ n ih =>
    rw [show nats (List.range (n + 1)) = nats (List.range n) ++ [(n : Int)] by simp [nats, List.range_succ]]
    rw [List.nodup_append]
    refine ⟨ih, by simp, fun a ha b hb => ?_⟩
    have := nats_mem.1 ha
    simp at hb
    omega
theorem ordTo_nodup {n : Nat} {os : List Int} {m : Nat} (h : ordTo n os m = true) (hm : m ≤ os.length) : (os.take m).Nodup := by
  induction m with
  | zero => simp
  | succ m ih =>
    rw [ordTo_succ, Bool.and_eq_true] at h
    rw [take_snoc (of_at (show m < os.length by omega)), List.nodup_append]
    refine ⟨ih h.1 (by omega), by simp, fun a ha b hb => ?_⟩
    simp at hb
    subst hb
    have h2 := h.2
    unfold ordStep memB at h2
    simp only [Bool.and_eq_true, Bool.not_eq_true', decide_eq_false_iff_not] at h2
    exact fun e => h2.2 (e ▸ ha)
theorem ordB_perm {n : Nat} {os : List Int} : ordB n os = true ↔ os.Perm (nats (List.range n)) := by
  constructor
  · intro h
    obtain ⟨h1, h2⟩ := ordB_t h
    have hd := ordTo_nodup h2 (by omega)
    rw [List.take_of_length_le (by omega)] at hd
    refine perm_of hd (fun x hx => ?_) (by rw [nats_length]; simpa using h1)
    obtain ⟨i, hi⟩ := List.mem_iff_getElem?.1 hx
    have hl := (List.getElem?_eq_some_iff.1 hi).1
    have := ordTo_in h2 (show i < n by omega)
    rw [at_of hi] at this
    exact nats_mem.2 (by omega)
  · intro h
    have hl : os.length = n := by have := h.length_eq; rw [nats_length] at this; simpa using this
    have hd : os.Nodup := h.nodup_iff.2 (nats_nodup n)
    unfold ordB
    rw [decide_eq_true hl, Bool.true_and]
    unfold ordTo
    rw [List.all_eq_true]
    intro i hi
    have hi := List.mem_range.1 hi
    have hg := of_at hi
    have hm := nats_mem.1 (h.mem_iff.1 (List.mem_of_getElem? hg))
    unfold ordStep memB
    rw [inB_mk (by omega), Bool.true_and, Bool.not_eq_true', decide_eq_false_iff_not]
    intro hin
    have h3 : (os.take (i + 1)).Nodup := hd.sublist (List.take_sublist _ _)
    rw [take_snoc hg, List.nodup_append] at h3
    exact h3.2.2 _ hin _ (List.mem_singleton.2 rfl) rfl
theorem ordB_all {n : Nat} {os : List Int} (hl : os.length = n) (h : ∀ i : Nat, i < n → (i : Int) ∈ os) : ordB n os = true := by
  refine ordB_perm.2 (perm_of (nats_nodup n) (fun x hx => ?_) (by rw [nats_length, hl]; simp)).symm
  have := nats_mem.1 hx
  have e := h x.toNat (by omega)
  rwa [Int.toNat_of_nonneg this.1] at e
theorem ordB_has {n : Nat} {os : List Int} (h : ordB n os = true) {i : Nat} (hi : i < n) : (i : Int) ∈ os := (ordB_perm.1 h).mem_iff.2 (nats_mem.2 (by omega))
theorem ordB_same {n : Nat} {os ps : List Int} (h : ordB n os = true) (hp : ps.Perm os) : ordB n ps = true := ordB_perm.2 (hp.trans (ordB_perm.1 h))
theorem card_le : ∀ {n : Nat} {b : List Int}, (∀ i : Nat, i < n → (i : Int) ∈ b) → n ≤ b.length
  | 0, _, _ => Nat.zero_le _
  | n + 1, b, h => by
    have hx := h n (by omega)
    have h2 : (b.erase (n : Int)).length = b.length - 1 := List.length_erase_of_mem hx
    have h3 := card_le (n := n) (b := b.erase (n : Int)) fun i hi => (List.mem_erase_of_ne (by omega)).2 (h i (by omega))
    have : 0 < b.length := List.length_pos_of_mem hx
    omega
theorem some_free {n : Nat} {b : List Int} (hb : b.length < n) : ∃ i, i < n ∧ memB b (i : Int) = false := by
  apply Classical.byContradiction
  intro hc
  have := card_le (n := n) (b := b) fun i hi => by
    cases e : memB b (i : Int)
    · exact absurd ⟨i, hi, e⟩ hc
    · exact of_decide_eq_true e
  omega
theorem pick_all (cs : List Cu) : pick cs (nats (List.range cs.length)) = cs := by
  apply List.ext_getElem?
  intro i
  unfold pick nats
  rw [List.getElem?_map, List.getElem?_map]
  by_cases h : i < cs.length
  · rw [List.getElem?_range h, get_cuA h]; rfl
  · rw [List.getElem?_eq_none (by simpa using h), List.getElem?_eq_none (by omega)]; rfl
theorem pick_perm {cs : List Cu} {os : List Int} (h : ordB cs.length os = true) : (pick cs os).Perm cs := by
  have := (ordB_perm.1 h).map (fun o => cuA cs o.toNat)
  have e := pick_all cs
  unfold pick at e ⊢
  rw [e] at this
  exact this
theorem perm_lift {α β : Type} (f : α → β) {l m : List β} (h : l.Perm m) : ∀ r : List α, m = r.map f → ∃ r' : List α, r'.Perm r ∧ l = r'.map f := by
  induction h with
  | nil => intro r hr; exact ⟨[], by have := List.map_eq_nil_iff.1 hr.symm; rw [this], rfl⟩
  | cons x _ ih =>
    intro r hr
    match r, hr with
    | y :: r, hr =>
      simp only [List.map_cons, List.cons.injEq] at hr
      obtain ⟨r', h1, h2⟩ := ih r hr.2
      exact ⟨y :: r', h1.cons y, by rw [List.map_cons, hr.1, h2]⟩
  | swap x y l =>
    intro r hr
    match r, hr with
    | a :: b :: r, hr =>
      simp only [List.map_cons, List.cons.injEq] at hr
      exact ⟨b :: a :: r, List.Perm.swap a b r, by simp [hr.1, hr.2.1, hr.2.2]⟩
  | trans _ _ ih1 ih2 =>
    intro r hr
    obtain ⟨r1, h1, h2⟩ := ih2 r hr
    obtain ⟨r2, h3, h4⟩ := ih1 r1 h2
    exact ⟨r2, h3.trans h1, h4⟩
/-! in time -/
theorem feas_mono : ∀ {l : List Cu} {a a' t t' : Int}, t' + dst a' a ≤ t → feas a t l → feas a' t' l
  | [], _, _, _, _, _, _ => trivial
  | c :: l, a, a', t, t', h, hf => by
    have h1 := dst_tri a' a c.1
    refine ⟨by have := hf.1; omega, feas_mono (a := c.1) (t := t + dst a c.1) (by rw [dst_self]; omega) hf.2⟩
theorem feas_rem : ∀ {l1 l2 : List Cu} {c : Cu} {a t : Int}, feas a t (l1 ++ c :: l2) → feas a t (l1 ++ l2)
  | [], l2, c, a, t, h => feas_mono (a := c.1) (t := t + dst a c.1) (Int.le_refl _) h.2
  | x :: l1, l2, c, a, t, h => ⟨h.1, feas_rem (l1 := l1) h.2⟩
theorem feas_due : ∀ {l1 l2 : List Cu} {c : Cu} {a t : Int}, feas a t (l1 ++ c :: l2) → t + dst a c.1 ≤ c.2.1
  | [], _, _, _, _, h => h.1
  | x :: l1, l2, c, a, t, h => by
    have h1 := feas_due (l1 := l1) h.2
    have := dst_tri a x.1 c.1
    omega
theorem feas_front {l1 l2 : List Cu} {x c : Cu} {a t : Int} (hb : dst a c.1 + dst c.1 x.1 = dst a x.1) (h : feas a t (x :: (l1 ++ c :: l2))) : feas a t (c :: x :: (l1 ++ l2)) := by
  refine ⟨feas_due (l1 := x :: l1) h, ?_, ?_⟩
  · have := h.1; omega
  · rw [show t + dst a c.1 + dst c.1 x.1 = t + dst a x.1 by omega]
    exact feas_rem h.2
theorem feas_snoc : ∀ {l : List Cu} {c : Cu} {a t : Int}, feas a t (l ++ [c]) ↔ feas a t l ∧ t + endT a (l ++ [c]) ≤ c.2.1
  | [], c, a, t => by simp [feas, endT]
  | x :: l, c, a, t => by
    show (t + dst a x.1 ≤ x.2.1 ∧ feas x.1 (t + dst a x.1) (l ++ [c])) ↔ (t + dst a x.1 ≤ x.2.1 ∧ feas x.1 (t + dst a x.1) l) ∧ t + (dst a x.1 + endT x.1 (l ++ [c])) ≤ c.2.1
    rw [feas_snoc (l := l), show t + dst a x.1 + endT x.1 (l ++ [c]) = t + (dst a x.1 + endT x.1 (l ++ [c])) by omega, and_assoc]
def can (a t : Int) (l : List Cu) : Prop := ∃ m : List Cu, m.Perm l ∧ feas a t m
theorem can_same {a t : Int} {l m : List Cu} (h : can a t l) (hp : l.Perm m) : can a t m := by
  obtain ⟨q, h1, h2⟩ := h
  exact ⟨q, h1.trans hp, h2⟩
theorem can_nil (a t : Int) : can a t [] := ⟨[], List.Perm.refl _, trivial⟩
theorem can_first {a t : Int} {c : Cu} {l : List Cu} (h : t + dst a c.1 ≤ c.2.1) (hc : can c.1 (t + dst a c.1) l) : can a t (c :: l) := by
  obtain ⟨m, h1, h2⟩ := hc
  exact ⟨c :: m, h1.cons c, h, h2⟩
/-- the first of an order can be any one on the way to it -/
theorem can_way {a t : Int} {c : Cu} {m l : List Cu} (hp : m.Perm (c :: l)) (hf : feas a t m) (hw : ∀ x, m.head? = some x → dst a c.1 + dst c.1 x.1 = dst a x.1) : t + dst a c.1 ≤ c.2.1 ∧ can c.1 (t + dst a c.1) l := by
  have hc : c ∈ m := hp.mem_iff.2 (List.mem_cons_self ..)
  obtain ⟨l1, l2, rfl⟩ := List.append_of_mem hc
  match l1, hp, hf, hw with
  | [], hp, hf, _ => exact ⟨hf.1, l2, (List.perm_cons c).1 hp, hf.2⟩
  | x :: l1, hp, hf, hw =>
    have h1 := feas_front (hw x rfl) hf
    refine ⟨h1.1, x :: (l1 ++ l2), ?_, h1.2⟩
    have h2 : (c :: x :: (l1 ++ l2)).Perm (x :: l1 ++ c :: l2) := (List.perm_middle (l₁ := x :: l1) (l₂ := l2) (a := c)).symm
    exact (List.perm_cons c).1 (h2.trans hp)
theorem can_less {a t : Int} {A B : List Cu} {c : Cu} (h : can a t (A ++ c :: B)) : can a t (A ++ B) := by
  obtain ⟨m, h1, h2⟩ := h
  have hc : c ∈ m := h1.mem_iff.2 (by simp)
  obtain ⟨l1, l2, rfl⟩ := List.append_of_mem hc
  refine ⟨l1 ++ l2, ?_, feas_rem h2⟩
  have e1 : (c :: (l1 ++ l2)).Perm (l1 ++ c :: l2) := List.perm_middle.symm
  have e2 : (A ++ c :: B).Perm (c :: (A ++ B)) := List.perm_middle
  exact (List.perm_cons c).1 ((e1.trans h1).trans e2)
def negC (c : Cu) : Cu := (-c.1, c.2)
theorem feas_neg : ∀ {l : List Cu} {a t : Int}, feas a t l → feas (-a) t (l.map negC)
  | [], _, _, _ => trivial
  | c :: l, a, t, h => by
    show t + dst (-a) (-c.1) ≤ c.2.1 ∧ feas (-c.1) (t + dst (-a) (-c.1)) (l.map negC)
    rw [dst_neg]
    exact ⟨h.1, feas_neg h.2⟩
theorem can_neg {l : List Cu} {a t : Int} (h : can a t l) : can (-a) t (l.map negC) := by
  obtain ⟨m, h1, h2⟩ := h
  exact ⟨m.map negC, h1.map _, feas_neg h2⟩
theorem can_orders {cs : List Cu} {st : Int} : can st 0 cs ↔ ∃ os, ordB cs.length os = true ∧ latR st 0 (pick cs os) = 0 := by
  constructor
  · rintro ⟨m, h1, h2⟩
    obtain ⟨r, h3, h4⟩ := perm_lift (fun o : Int => cuA cs o.toNat) h1 (nats (List.range cs.length)) (pick_all cs).symm
    refine ⟨r, ordB_perm.2 h3, latR_feas.2 ?_⟩
    unfold pick
    rw [← h4]
    exact h2
  · rintro ⟨os, h1, h2⟩
    exact ⟨pick cs os, pick_perm h1, latR_feas.1 h2⟩

end Go.Proofs.Ytjjddamblijffaa

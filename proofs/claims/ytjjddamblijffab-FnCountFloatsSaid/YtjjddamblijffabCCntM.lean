/- The law FnCountFloats (pure): orders of cakes without one, and how many there are. -/
import Derived.Test.YtjjddamblijffabVFLaw
import Derived.Test.YtjjddamblijffabCCount
import Derived.Test.YtjjddamblijffabCCountS
namespace Go.Proofs.Ytjjddamblijffab
open Go.RowKit
set_option linter.unusedVariables false
set_option linter.unusedSimpArgs false
def upZ (k z : Int) : Int := if k ≤ z then z + 1 else z
def upN (k j : Nat) : Nat := if k ≤ j then j + 1 else j
theorem upZ_nat (k j : Nat) : upZ (k : Int) (j : Int) = ((upN k j : Nat) : Int) := by unfold upZ upN; split <;> split <;> omega
theorem upN_ne (k j : Nat) : upN k j ≠ k := by unfold upN; split <;> omega
theorem upN_inj {k i j : Nat} (h : upN k i = upN k j) : i = j := by unfold upN at h; split at h <;> split at h <;> omega
theorem upZ_inj {k i j : Int} (h : upZ k i = upZ k j) : i = j := by unfold upZ at h; split at h <;> split at h <;> omega
theorem outC_up {cs : List (Int × Int)} {k : Nat} (h : k < cs.length) (i : Nat) : cAt (outC cs k) i = cAt cs (upN k i) := by
  rw [outC_at h]
  congr 1
  unfold upN
  split <;> split <;> omega
theorem mem_up {k : Nat} {l : List Int} {j : Nat} : memB ((k : Int) :: l.map (upZ k)) ((upN k j : Nat) : Int) = memB l (j : Int) := by
  unfold memB
  refine decide_eq_decide.2 ⟨fun h => ?_, fun h => ?_⟩
  · rcases List.mem_cons.1 h with h | h
    · exact absurd (Int.ofNat.inj h) (upN_ne k j)
    · obtain ⟨z, hz, e⟩ := List.mem_map.1 h
      rw [← upZ_nat] at e
      exact upZ_inj e ▸ hz
  · exact List.mem_cons_of_mem _ (List.mem_map.2 ⟨_, h, upZ_nat k j⟩)
theorem held_up {b : Int} {cs : List (Int × Int)} {k : Nat} (hk : k < cs.length) (l : List Int) (j : Nat) : heldTo b (outC cs k) l (cAt (outC cs k) j) (outC cs k).length = heldTo b cs ((k : Int) :: l.map (upZ k)) (cAt cs (upN k j)) cs.length := by
  have hl := outC_len hk
  rw [outC_up hk, Bool.eq_iff_iff]
  unfold heldTo
  rw [List.any_eq_true, List.any_eq_true]
  constructor
  · rintro ⟨i, hi, h⟩
    rw [List.mem_range] at hi
    refine ⟨upN k i, List.mem_range.2 (by unfold upN; split <;> omega), ?_⟩
    rw [mem_up, ← outC_up hk i]
    exact h
  · rintro ⟨i, hi, h⟩
    rw [List.mem_range] at hi
    have hik : i ≠ k := fun e => by
      subst e
      rw [show memB ((i : Int) :: l.map (upZ i)) (i : Int) = true from decide_eq_true (List.mem_cons_self ..)] at h
      simp at h
    obtain ⟨q, hq⟩ : ∃ q, upN k q = i := ⟨if i < k then i else i - 1, by unfold upN; split <;> split <;> omega⟩
    subst hq
    refine ⟨q, List.mem_range.2 (by unfold upN at hi; split at hi <;> omega), ?_⟩
    rw [mem_up, ← outC_up hk q] at h
    exact h
theorem free_up {b : Int} {cs : List (Int × Int)} {k : Nat} (hk : k < cs.length) (l : List Int) (j : Nat) : freeB b (outC cs k) l j = freeB b cs ((k : Int) :: l.map (upZ k)) (upN k j) := by
  unfold freeB
  rw [held_up hk, mem_up]
def smN (g : Nat → Int) (n : Nat) : Int := ((List.range n).map g).sum
theorem smN_succ (g : Nat → Int) (n : Nat) : smN g (n + 1) = smN g n + g n := by unfold smN; rw [List.range_succ, List.map_append]; simp
theorem smN_up (g : Nat → Int) {k : Nat} : ∀ {n : Nat}, k < n → smN g n = smN (fun j => g (upN k j)) (n - 1) + g k
  | n + 1, h => by
    rw [smN_succ, Nat.add_sub_cancel]
    by_cases e : k = n
    · subst e
      have : ∀ m, m ≤ k → smN (fun j => g (upN k j)) m = smN g m := by
        intro m
        induction m with
        | zero => intro _; rfl
        | succ m ih =>
          intro hm
          rw [smN_succ, smN_succ, ih (by omega)]
          show _ + g (upN k m) = _
          unfold upN
          rw [if_neg (by omega)]
      rw [this k (Nat.le_refl _)]
    · have ih := smN_up g (k := k) (n := n) (by omega)
      obtain ⟨m, rfl⟩ : ∃ m, n = m + 1 := ⟨n - 1, by omega⟩
      rw [ih, Nat.add_sub_cancel, smN_succ]
      show _ = _ + g (upN k m) + g k
      rw [show upN k m = m + 1 by unfold upN; rw [if_pos (by omega)]]
      omega
theorem cntO_succ (b : Int) (cs : List (Int × Int)) (f : Nat) (l : List Int) : cntO b cs (f + 1) l = smN (fun i => if freeB b cs l i = true then cntO b cs f (l ++ [(i : Int)]) else 0) cs.length := rfl
theorem cnt_up {b : Int} {cs : List (Int × Int)} {k : Nat} (hk : k < cs.length) : ∀ (f : Nat) (l : List Int), cntO b (outC cs k) f l = cntO b cs f ((k : Int) :: l.map (upZ k))
  | 0, _ => rfl
  | f + 1, l => by
    have hl := outC_len hk
    rw [cntO_succ, cntO_succ, smN_up _ hk]
    have hz : freeB b cs ((k : Int) :: l.map (upZ k)) k = false := by
      unfold freeB
      rw [show memB ((k : Int) :: l.map (upZ k)) (k : Int) = true from decide_eq_true (List.mem_cons_self ..)]
      rfl
    rw [hz]
    simp only [Bool.false_eq_true, if_false, Int.add_zero]
    rw [show cs.length - 1 = (outC cs k).length by omega]
    congr 1
    funext j
    rw [← free_up hk, cnt_up hk f, ← upZ_nat]
    simp
/-- the first cake, and then the others as they float out -/
def firstF (a b : Int) (cs : List (Int × Int)) (k : Nat) : List Int := (k : Int) :: (floatT a b (outC cs k)).map (upZ k)
theorem first_valid {a b : Int} {cs : List (Int × Int)} (h : cakesB a b cs = true) {k : Nat} (hk : k < cs.length) : vfT a b cs (firstF a b cs k) = freeB b cs [] k := by
  have hr := cakesB_out h hk
  obtain ⟨_, r2, r3⟩ := vfT_parts (vfT_float hr)
  have hl := outC_len hk
  have hfl : (firstF a b cs k).length = cs.length := by unfold firstF; rw [List.length_cons, List.length_map, r2]; omega
  have st : ∀ i, i < (floatT a b (outC cs k)).length → stepB b cs ((firstF a b cs k).take (i + 1)) (at_ (firstF a b cs k) (i + 1)) = true := fun i hi => by
    have h1 := stepB_parts.1 (r3 i hi)
    have ha : at_ (firstF a b cs k) (i + 1) = upZ k (at_ (floatT a b (outC cs k)) i) := at_get (by unfold firstF; rw [List.getElem?_cons_succ, List.getElem?_map, of_at hi]; rfl)
    have ht : (firstF a b cs k).take (i + 1) = (k : Int) :: ((floatT a b (outC cs k)).take i).map (upZ k) := by unfold firstF; rw [List.take_succ_cons, List.map_take]
    obtain ⟨j, hj⟩ := Int.eq_ofNat_of_zero_le h1.1.1
    rw [ha, ht, hj, upZ_nat]
    rw [hj] at h1
    refine stepB_parts.2 ⟨?_, ?_, ?_⟩
    · have := h1.1.2; unfold upN; split <;> omega
    · rw [← memB_not, mem_up, memB_not]; exact h1.2.1
    · rw [Int.toNat_natCast, ← held_up hk]
      have := h1.2.2
      rwa [Int.toNat_natCast] at this
  have s0 : stepB b cs ((firstF a b cs k).take 0) (at_ (firstF a b cs k) 0) = freeB b cs [] k := by
    have : at_ (firstF a b cs k) 0 = (k : Int) := at_get rfl
    rw [this, List.take_zero]
    unfold stepB freeB
    rw [inB_mk (by omega), Bool.true_and, Int.toNat_natCast]
  unfold vfT vfB
  rw [h, hfl, decide_eq_true rfl, Bool.true_and, Bool.true_and]
  cases e : freeB b cs [] k
  · exact vfTo_bad (i := 0) (by omega) (by rw [s0, e])
  · unfold vfTo
    rw [List.all_eq_true]
    intro i hi
    have hi := List.mem_range.1 hi
    cases i with
    | zero => rw [s0, e]
    | succ i => exact st i (by omega)
theorem cnt_sum {a b : Int} {cs : List (Int × Int)} (h : cakesB a b cs = true) (hn : cs.length ≤ 6) {n : Nat} (hl : cs.length = n + 1) : countT a b cs = smN (fun k => if vfT a b cs (firstF a b cs k) = true then countT a b (outC cs k) else 0) cs.length := by
  have : countT a b cs = cntO b cs cs.length [] := by unfold countT; rw [h, decide_eq_true hn]; rfl
  rw [this, hl, cntO_succ, hl]
  unfold smN
  congr 1
  apply List.map_congr_left
  intro k hk
  have hk : k < cs.length := by have := List.mem_range.1 hk; omega
  rw [first_valid h hk]
  have hol := outC_len hk
  have hc : countT a b (outC cs k) = cntO b (outC cs k) n [] := by
    unfold countT
    rw [cakesB_out h hk, decide_eq_true (by omega), show (outC cs k).length = n by omega]
    rfl
  rw [hc, cnt_up hk]
  rfl
theorem smN_nonneg {g : Nat → Int} : ∀ {n}, (∀ i, i < n → 0 ≤ g i) → 0 ≤ smN g n
  | 0, _ => by simp [smN]
  | n + 1, h => by rw [smN_succ]; have := smN_nonneg (g := g) (n := n) (fun i hi => h i (by omega)); have := h n (by omega); omega
theorem smN_one {g : Nat → Int} {k : Nat} : ∀ {n}, (∀ i, i < n → 0 ≤ g i) → k < n → g k ≤ smN g n
  | n + 1, h, hk => by
    rw [smN_succ]
    by_cases e : k = n
    · subst e; have := smN_nonneg (g := g) (n := k) (fun i hi => h i (by omega)); omega
    · have := smN_one (g := g) (k := k) (n := n) (fun i hi => h i (by omega)) (by omega); have := h n (by omega); omega
theorem smN_le {g h : Nat → Int} : ∀ {n}, (∀ i, i < n → g i ≤ h i) → smN g n ≤ smN h n
  | 0, _ => Int.le_refl _
  | n + 1, hh => by rw [smN_succ, smN_succ]; have := smN_le (g := g) (h := h) (n := n) (fun i hi => hh i (by omega)); have := hh n (by omega); omega
theorem cnt_one {b : Int} {cs : List (Int × Int)} {os : List Int} (hn : cs.length ≤ 6) (hs : ∀ i, i < cs.length → stepB b cs (os.take i) (at_ os i) = true) (hl : os.length = cs.length) : ∀ (f m : Nat), f + m = cs.length → 1 ≤ cntO b cs f (os.take m)
  | 0, _, _ => by simp [cntO]
  | f + 1, m, h => by
    have h1 := stepB_parts.1 (hs m (by omega))
    obtain ⟨j, hj⟩ := Int.eq_ofNat_of_zero_le h1.1.1
    have ih := cnt_one hn hs hl f (m + 1) (by omega)
    rw [take_snoc (of_at (show m < os.length by omega)), hj] at ih
    rw [hj] at h1
    rw [cntO_succ]
    have hf : freeB b cs (os.take m) j = true := by
      unfold freeB
      rw [Bool.and_eq_true, Bool.not_eq_true', Bool.not_eq_true', memB_not]
      have := h1.2.2
      rw [Int.toNat_natCast] at this
      exact ⟨h1.2.1, this⟩
    have := smN_one (g := fun i => if freeB b cs (os.take m) i = true then cntO b cs f (os.take m ++ [(i : Int)]) else 0) (k := j) (n := cs.length) (fun i _ => by split; exact (cntO_bd b cs hn f _).1; exact Int.le_refl _) (by have := h1.1.2; omega)
    simp only [hf, if_true] at this
    omega
def facN : Nat → Int
  | 0 => 1
  | n + 1 => facN n * ((n : Int) + 1)
theorem facN_pos : ∀ n, 1 ≤ facN n
  | 0 => Int.le_refl _
  | n + 1 => by
    have := facN_pos n
    have h := Int.mul_le_mul this (show (1 : Int) ≤ (n : Int) + 1 by omega) (by omega) (by omega)
    show 1 ≤ facN n * ((n : Int) + 1)
    omega
/-- how many of the first n are not in a list -/
def outN (l : List Int) (n : Nat) : Int := smN (fun i => if memB l (i : Int) = true then 0 else 1) n
theorem outN_snoc {l : List Int} {z : Nat} (hz : memB l (z : Int) = false) : ∀ n, outN (l ++ [(z : Int)]) n = outN l n - (if z < n then 1 else 0)
  | 0 => by simp [outN, smN]
  | n + 1 => by
    have ih := outN_snoc hz n
    unfold outN at *
    rw [smN_succ, smN_succ, ih]
    have hm : memB (l ++ [(z : Int)]) (n : Int) = (memB l (n : Int) || decide (n = z)) := by
      unfold memB
      rw [← Bool.decide_or]
      refine decide_eq_decide.2 ?_
      rw [List.mem_append, List.mem_singleton]
      constructor
      · rintro (h | h)
        · exact .inl h
        · exact .inr (Int.ofNat.inj h)
      · rintro (h | h)
        · exact .inl h
        · exact .inr (by rw [h])
    rw [hm]
    by_cases e : n = z
    · subst e; rw [hz]; simp
    · rw [decide_eq_false e, Bool.or_false]
      generalize (if memB l (n : Int) = true then (0 : Int) else 1) = q
      by_cases g : z < n
      · rw [if_pos g, if_pos (by omega)]; omega
      · rw [if_neg g, if_neg (by omega)]; omega
theorem smN_mul {g : Nat → Int} {c : Int} : ∀ {n}, smN (fun i => g i * c) n = smN g n * c
  | 0 => by simp [smN]
  | n + 1 => by rw [smN_succ, smN_succ, smN_mul, Int.add_mul]
theorem cnt_fac {b : Int} {cs : List (Int × Int)} : ∀ (f : Nat) (l : List Int), outN l cs.length = (f : Int) → cntO b cs f l ≤ facN f
  | 0, _, _ => Int.le_refl _
  | f + 1, l, h => by
    rw [cntO_succ]
    have h1 : smN (fun i => if freeB b cs l i = true then cntO b cs f (l ++ [(i : Int)]) else 0) cs.length ≤ smN (fun i => (if memB l (i : Int) = true then 0 else 1) * facN f) cs.length := smN_le fun i hi => by
      have hp := facN_pos f
      cases hm : memB l (i : Int)
      · simp only [Bool.false_eq_true, if_false, Int.one_mul]
        split
        · refine cnt_fac f _ ?_
          rw [outN_snoc hm, h, if_pos hi]
          omega
        · omega
      · have : freeB b cs l i = false := by unfold freeB; rw [hm]; rfl
        rw [this]; simp
    rw [smN_mul] at h1
    show _ ≤ facN f * ((f : Int) + 1)
    have h2 : smN (fun i => if memB l (i : Int) = true then (0 : Int) else 1) cs.length = ((f + 1 : Nat) : Int) := h
    rw [h2] at h1
    rw [Int.mul_comm]
    have e : (((f + 1 : Nat) : Int)) = (f : Int) + 1 := by omega
    rw [e] at h1
    exact h1
theorem outN_nil : ∀ n, outN [] n = (n : Int)
  | 0 => rfl
  | n + 1 => by
    have := outN_nil n
    unfold outN at *
    rw [smN_succ, this]
    simp [memB]
theorem count_bd {a b : Int} {cs : List (Int × Int)} (h : cakesB a b cs = true) (hn : cs.length ≤ 6) : 1 ≤ countT a b cs ∧ countT a b cs ≤ facN cs.length := by
  have e : countT a b cs = cntO b cs cs.length [] := by unfold countT; rw [h, decide_eq_true hn]; rfl
  obtain ⟨_, r2, r3⟩ := vfT_parts (vfT_float h)
  rw [e]
  exact ⟨cnt_one hn (fun i hi => r3 i (by omega)) r2 cs.length 0 (by omega), cnt_fac _ _ (outN_nil _)⟩

end Go.Proofs.Ytjjddamblijffab

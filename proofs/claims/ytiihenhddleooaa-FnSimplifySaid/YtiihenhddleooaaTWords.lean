/- Lists of three numbers in memory, three cells each. -/
import Derived.Test.YtiihenhddleooaaCWords
import Derived.Test.YtiihenhddleooaaLaw
import Derived.Test.YtiihenhddleooaaInts
namespace Go.Proofs.Ytiihenhddleooaa
open Go.RowKit
set_option linter.unusedVariables false
set_option linter.unusedSimpArgs false
abbrev Cu := Int × Int × Int
def cuA (cs : List Cu) (i : Nat) : Cu := cs.getD i (0, 0, 0)
theorem cuA_get {cs : List Cu} {i : Nat} {c : Cu} (h : cs[i]? = some c) : cuA cs i = c := by simp [cuA, List.getD_eq_getElem?_getD, h]
theorem get_cuA {cs : List Cu} {i : Nat} (h : i < cs.length) : cs[i]? = some (cuA cs i) := by simp [cuA, List.getD_eq_getElem?_getD, h]
def custV (cs : List Cu) : List Value := cs.flatMap fun c => [.int .i64 c.1, .int .i64 c.2.1, .int .i64 c.2.2]
theorem custV_nil : custV [] = [] := rfl
theorem custV_cons (c : Cu) (cs : List Cu) : custV (c :: cs) = .int .i64 c.1 :: .int .i64 c.2.1 :: .int .i64 c.2.2 :: custV cs := rfl
theorem custV_len (cs : List Cu) : (custV cs).length = cs.length * 3 := by
  induction cs with
  | nil => rfl
  | cons c cs ih => rw [custV_cons]; simp only [List.length_cons]; omega
theorem custV_app (a b : List Cu) : custV (a ++ b) = custV a ++ custV b := by unfold custV; rw [List.flatMap_append]
theorem custV_snoc (a : List Cu) (x d v : Int) : custV (a ++ [(x, d, v)]) = custV a ++ [.int .i64 x, .int .i64 d, .int .i64 v] := custV_app a [(x, d, v)]
theorem custV_at {cs : List Cu} : ∀ {k : Nat} {x d v : Int}, cs[k]? = some (x, d, v) → (custV cs)[k * 3]? = some (.int .i64 x) ∧ (custV cs)[k * 3 + 1]? = some (.int .i64 d) ∧ (custV cs)[k * 3 + 2]? = some (.int .i64 v) := by
  induction cs with
  | nil => intro k x d v h; simp at h
  | cons c cs ih =>
    intro k x d v h
    cases k with
    | zero => simp at h; subst h; exact ⟨rfl, rfl, rfl⟩
    | succ k =>
      simp only [List.getElem?_cons_succ] at h
      have := ih h
      rw [custV_cons, show (k + 1) * 3 = k * 3 + 1 + 1 + 1 by omega, show k * 3 + 1 + 1 + 1 + 1 = (k * 3 + 1) + 1 + 1 + 1 by omega, show k * 3 + 1 + 1 + 1 + 2 = (k * 3 + 2) + 1 + 1 + 1 by omega]
      simpa [List.getElem?_cons_succ] using this
theorem custV_take (cs : List Cu) : ∀ n : Nat, (custV cs).take (n * 3) = custV (cs.take n) := by
  induction cs with
  | nil => intro n; simp [custV]
  | cons c cs ih =>
    intro n
    cases n with
    | zero => simp [custV]
    | succ n => rw [custV_cons, show (n + 1) * 3 = n * 3 + 1 + 1 + 1 by omega, List.take_succ_cons, List.take_succ_cons, List.take_succ_cons, ih n]; rfl
theorem custV_drop (cs : List Cu) : ∀ n : Nat, (custV cs).drop (n * 3) = custV (cs.drop n) := by
  induction cs with
  | nil => intro n; simp [custV]
  | cons c cs ih =>
    intro n
    cases n with
    | zero => simp
    | succ n => rw [custV_cons, show (n + 1) * 3 = n * 3 + 1 + 1 + 1 by omega, List.drop_succ_cons, List.drop_succ_cons, List.drop_succ_cons, ih n]; rfl
theorem oneCell_cust {cs : List Cu} : ∀ u ∈ custV cs, u.oneCell' = true := fun u hu => by
  unfold custV at hu
  rw [List.mem_flatMap] at hu
  obtain ⟨c, _, hu⟩ := hu
  simp at hu
  rcases hu with rfl | rfl | rfl <;> rfl
section
variable {w w' : World} {B B' : Nat} {A : Option Addr} {cs : List Cu}
theorem Rd.cust_ {k : Nat} (h : Rd w B A (custV cs)) (hk : k < cs.length) : ∃ b off x d v, A = some ⟨b, off, none⟩ ∧ b < B ∧ Hid (cuA cs k = (x, d, v)) ∧ w.cell? ⟨b, off + k * 3, none⟩ = some (.int .i64 x) ∧ w.cell? ⟨b, off + k * 3 + 1, none⟩ = some (.int .i64 d) ∧ w.cell? ⟨b, off + k * 3 + 2, none⟩ = some (.int .i64 v) := by
  have e : cs[k]? = some ((cuA cs k).1, (cuA cs k).2.1, (cuA cs k).2.2) := get_cuA hk
  obtain ⟨h1, h2, h3⟩ := custV_at e
  obtain ⟨b, off, hA, hb, hc⟩ := h.at_ h1
  obtain ⟨b', off', hA', _, hc'⟩ := h.at_ h2
  obtain ⟨b2, off2, hA2, _, hc2⟩ := h.at_ h3
  subst hA
  injection hA' with hA'
  injection hA' with e1 e2
  subst e1 e2
  injection hA2 with hA2
  injection hA2 with e1 e2
  subst e1 e2
  exact ⟨b, off, _, _, _, rfl, hb, Lib.hid rfl, hc, by rw [Nat.add_assoc]; exact hc', by rw [Nat.add_assoc]; exact hc2⟩
theorem Rd.cust_take (h : Rd w B A (custV cs)) (n : Nat) : Rd w B A (custV (cs.take n)) := by
  have := h.take (n * 3)
  rw [custV_take] at this
  exact this
end
theorem three_new (w : World) (x y z : Value) (T : TypeId) (b : Nat) (hb : b = w.heap.size) : ∀ (j : Nat) (u : Value), [x, y, z][j]? = some u → (w.alloc (.cells #[x, y, z] T)).cell? ((⟨b, 0, none⟩ : Addr).add j) = some u := by
  intro j u hj
  subst hb
  match j, hj with
  | 0, hj => simp at hj; subst hj; simp [Addr.add]
  | 1, hj => simp at hj; subst hj; simp [Addr.add]
  | 2, hj => simp at hj; subst hj; simp [Addr.add]
theorem custV_rep (n : Nat) : custV (List.replicate n (0, 0, 0)) = List.replicate (n * 3) (.int .i64 0) := by
  induction n with
  | zero => rfl
  | succ n ih => rw [List.replicate_succ, custV_cons, ih, show (n + 1) * 3 = n * 3 + 1 + 1 + 1 by omega, List.replicate_succ, List.replicate_succ, List.replicate_succ]
theorem custV_set {cs : List Cu} : ∀ {k : Nat} {x d v : Int}, k < cs.length → (((custV cs).set (k * 3) (.int .i64 x)).set (k * 3 + 1) (.int .i64 d)).set (k * 3 + 2) (.int .i64 v) = custV (cs.set k (x, d, v)) := by
  induction cs with
  | nil => intro k x d v h; simp at h
  | cons c cs ih =>
    intro k x d v h
    cases k with
    | zero => rfl
    | succ k =>
      simp only [List.length_cons] at h
      rw [custV_cons, List.set_cons_succ, custV_cons, show (k + 1) * 3 = k * 3 + 1 + 1 + 1 by omega, show k * 3 + 1 + 1 + 1 + 1 = (k * 3 + 1) + 1 + 1 + 1 by omega, show k * 3 + 1 + 1 + 1 + 2 = (k * 3 + 2) + 1 + 1 + 1 by omega]
      simp only [List.set_cons_succ]
      rw [ih (by omega)]
theorem custV_set1 {cs : List Cu} : ∀ {k : Nat} {x d v e : Int}, cs[k]? = some (x, d, v) → (custV cs).set (k * 3 + 1) (.int .i64 e) = custV (cs.set k (x, e, v)) := by
  intro k x d v e h
  have hk := (List.getElem?_eq_some_iff.1 h).1
  obtain ⟨h1, h2, h3⟩ := custV_at h
  rw [← custV_set hk]
  have e1 : (custV cs).set (k * 3) (.int .i64 x) = custV cs := by
    have := (List.getElem?_eq_some_iff.1 h1)
    obtain ⟨q1, q2⟩ := this
    rw [← q2, List.set_getElem_self]
  have e3 : ((custV cs).set (k * 3 + 1) (.int .i64 e)).set (k * 3 + 2) (.int .i64 v) = (custV cs).set (k * 3 + 1) (.int .i64 e) := by
    apply List.ext_getElem?
    intro j
    rw [List.getElem?_set]
    split
    · next g => subst g; rw [List.length_set]; split; rw [List.getElem?_set_ne (by omega), h3]; next g2 => exact absurd (List.getElem?_eq_some_iff.1 h3).1 g2
    · rfl
  rw [e1, e3]
theorem custV_set0 {cs : List Cu} : ∀ {k : Nat} {x d v e : Int}, cs[k]? = some (x, d, v) → (custV cs).set (k * 3) (.int .i64 e) = custV (cs.set k (e, d, v)) := by
  intro k x d v e h
  have hk := (List.getElem?_eq_some_iff.1 h).1
  obtain ⟨h1, h2, h3⟩ := custV_at h
  rw [← custV_set hk]
  have e2 : ((custV cs).set (k * 3) (.int .i64 e)).set (k * 3 + 1) (.int .i64 d) = (custV cs).set (k * 3) (.int .i64 e) := by
    apply List.ext_getElem?
    intro j
    rw [List.getElem?_set]
    split
    · next g => subst g; rw [List.length_set]; split; rw [List.getElem?_set_ne (by omega), h2]; next g2 => exact absurd (List.getElem?_eq_some_iff.1 h2).1 g2
    · rfl
  have e3 : ((custV cs).set (k * 3) (.int .i64 e)).set (k * 3 + 2) (.int .i64 v) = (custV cs).set (k * 3) (.int .i64 e) := by
    apply List.ext_getElem?
    intro j
    rw [List.getElem?_set]
    split
    · next g => subst g; rw [List.length_set]; split; rw [List.getElem?_set_ne (by omega), h3]; next g2 => exact absurd (List.getElem?_eq_some_iff.1 h3).1 g2
    · rfl
  rw [e2, e3]
def halfK (cs : List Cu) (k : Nat) : List Cu := cs.take k ++ List.replicate (cs.length - k) (0, 0, 0)
theorem halfK_len (cs : List Cu) {k : Nat} (h : k ≤ cs.length) : (halfK cs k).length = cs.length := by
  unfold halfK
  rw [List.length_append, List.length_take, List.length_replicate]
  omega
theorem halfK_set {cs : List Cu} {k : Nat} {c : Cu} (hk : k < cs.length) (h : cuA cs k = c) : (halfK cs k).set k c = halfK cs (k + 1) := by
  have h : cs[k]? = some c := by rw [get_cuA hk, h]
  unfold halfK
  have e1 : (cs.take k).length = k := by rw [List.length_take]; omega
  rw [List.set_append, e1, if_neg (by omega), Nat.sub_self, take_snoc h, show cs.length - k = (cs.length - (k + 1)) + 1 by omega, List.replicate_succ, List.set_cons_zero, List.append_assoc]
  rfl
theorem halfK_all (cs : List Cu) : halfK cs cs.length = cs := by unfold halfK; simp
theorem halfK_zero (cs : List Cu) : halfK cs 0 = List.replicate cs.length (0, 0, 0) := by unfold halfK; simp
theorem owz_custs_made (w : World) (n : Nat) (T : TypeId) (hn : n ≤ maxLen) : (w.alloc (.cells (madeCells #[.int .i64 0, .int .i64 0, .int .i64 0] (n * 3)) T)).ownsRow w.heap.size T 3 (.slice (some ⟨w.heap.size, 0, none⟩) n n) n (custV (List.replicate n (0, 0, 0))) := by
  refine ⟨by rw [custV_len, List.length_replicate], .inr ⟨_, n, _, rfl, Nat.le_refl _, heap_alloc_new w _, Nat.le_refl _, hn, size_madeCells _ _, ?_⟩⟩
  rw [custV_rep]
  apply List.ext_getElem
  · simp [madeCells]
  · intro i h1 h2
    have h3 : i < n * 3 := by simpa using h2
    have h4 : i % 3 = 0 ∨ i % 3 = 1 ∨ i % 3 = 2 := by omega
    rw [List.getElem_take, List.getElem_replicate]
    rcases h4 with h4 | h4 | h4 <;> simp [madeCells, h4]
def kmarks (k : Int) (n : Nat) : List Cu := (List.range n).map (fun i : Nat => (k + 3 * (i : Int), k + 3 * (i : Int) + 1, k + 3 * (i : Int) + 2))
theorem kmarks_len (k : Int) (n : Nat) : (kmarks k n).length = n := by simp [kmarks]
theorem kmarks_at {k : Int} {n i : Nat} (h : i < n) : (kmarks k n)[i]? = some (k + 3 * (i : Int), k + 3 * (i : Int) + 1, k + 3 * (i : Int) + 2) := by
  unfold kmarks
  rw [List.getElem?_map, List.getElem?_range h]
  rfl
def kmarked (k : Int) (cs : List Cu) (j : Nat) : List Cu := (kmarks k cs.length).take j ++ cs.drop j
theorem kmarked_len (k : Int) (cs : List Cu) {j : Nat} (h : j ≤ cs.length) : (kmarked k cs j).length = cs.length := by
  unfold kmarked
  rw [List.length_append, List.length_take, List.length_drop, kmarks_len]
  omega
theorem kmarked_set {k : Int} {cs : List Cu} {j : Nat} (h : j < cs.length) : (kmarked k cs j).set j (k + 3 * (j : Int), k + 3 * (j : Int) + 1, k + 3 * (j : Int) + 2) = kmarked k cs (j + 1) := by
  unfold kmarked
  have e1 : ((kmarks k cs.length).take j).length = j := by rw [List.length_take, kmarks_len]; omega
  rw [List.set_append, e1, if_neg (by omega), Nat.sub_self, List.drop_eq_getElem_cons h, take_snoc (kmarks_at h), List.append_assoc]
  rfl
theorem only_cellsK {a w : World} {g : Nat} (h : a.grownBy w (some g)) (j : Nat) (u : Value) : a.grownBy (w.setCell ⟨g, j, none⟩ u) (some g) :=
  ⟨h.os, h.tape, h.output, by simpa using h.size, fun i hi hne => (Below.heap_setCell w ⟨g, j, none⟩ u i (fun e => hne (by rw [e]))).trans (h.block i hi hne)⟩
theorem cellsIntK : Try.prog.cellsOf 3 = 1 := by kernel_rfl
theorem only_belowK {B : Nat} {a w w' : World} {r : Option Nat} (h : Below B a w) (hg : w.grownBy w' r) (hB : B ≤ a.heap.size) (hr : ∀ k, r = some k → B ≤ k) : Below B a w' :=
  ⟨hg.os.trans h.os, hg.tape.trans h.tape, hg.output.trans h.output, Nat.le_trans h.size hg.size, fun k hk => (hg.block k (by have := h.size; omega) (fun e => by have := hr k e.symm; omega)).trans (h.block k hk)⟩
theorem owz_capX {w : World} {base n : Nat} {T : TypeId} {z : Nat} {A : Option Addr} {c : Nat} {xs : List Value} (o : w.ownsRow base T z (.slice A n c) n xs) : n ≤ c ∧ c ≤ maxLen := by
  rcases o.2 with ⟨h0, hz⟩ | ⟨g, cap, cur, hv, _, _, hnc, hcm, _⟩
  · injection h0 with _ q1 q2; rw [q1, q2]; exact ⟨Nat.le_refl _, Nat.zero_le _⟩
  · injection hv with _ _ q2; subst q2; exact ⟨hnc, hcm⟩
/-- where a list that a call made lies -/
theorem owz_in {w : World} {base n : Nat} {T : TypeId} {z : Nat} {v : Value} {xs : List Value} (o : w.ownsRow base T z v n xs) : ∀ k, v.ownBlock = some k → base ≤ k ∧ k < w.heap.size := fun k hk => ⟨owz_block o k hk, owz_lt o k hk⟩

end Go.Proofs.Ytiihenhddleooaa

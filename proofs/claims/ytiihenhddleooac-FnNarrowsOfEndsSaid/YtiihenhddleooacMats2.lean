/- The exact laws' helpers on lists of lists and lists of bools: comparison, marks. -/
import Derived.Deep.Matrix
import Derived.Test.YtiihenhddleooacMats
import Derived.Test.YtiihenhddleooacLaw
namespace Go.Proofs.Ytiihenhddleooac
open Go.RowKit
set_option linter.unusedVariables false
set_option linter.unusedSimpArgs false
def bmarks (k : Int) (n : Nat) : List Bool := (List.range n).map (fun i : Nat => decide ((k + (i : Int)) % 3 = 0))
theorem bmarks_len (k : Int) (n : Nat) : (bmarks k n).length = n := rg_len _ n
theorem bmarks_at {k : Int} {n i : Nat} (h : i < n) : isd (bmarks k n) i = decide ((k + (i : Int)) % 3 = 0) := by
  refine isd_of ?_
  unfold bmarks
  rw [List.getElem?_map, List.getElem?_range h]
  rfl
def bmarked (k : Int) (bs : List Bool) (j : Nat) : List Bool := (bmarks k bs.length).take j ++ bs.drop j
theorem bmarked_len (k : Int) (bs : List Bool) {j : Nat} (h : j ≤ bs.length) : (bmarked k bs j).length = bs.length := by
  unfold bmarked
  rw [List.length_append, List.length_take, List.length_drop, bmarks_len]
  omega
theorem bmarked_step {k : Int} {bs : List Bool} {j : Nat} (h : j < bs.length) : (bmarked k bs j).set j (decide ((k + (j : Int)) % 3 = 0)) = bmarked k bs (j + 1) := by
  unfold bmarked
  have e1 : ((bmarks k bs.length).take j).length = j := by rw [List.length_take, bmarks_len]; omega
  rw [List.set_append, e1, if_neg (by omega), Nat.sub_self, List.drop_eq_getElem_cons h]
  have h2 : (bmarks k bs.length)[j]? = some (decide ((k + (j : Int)) % 3 = 0)) := by
    unfold bmarks
    rw [List.getElem?_map, List.getElem?_range h]
    rfl
  rw [take_snoc h2, List.append_assoc]
  rfl
/-- rows of marks, one after the other -/
def mkG (k : Int) : List (List Int) → List (List Int)
  | [] => []
  | r :: rs => marks k r.length :: mkG (k + r.length) rs
def tot (pp : List (List Int)) : Nat := (pp.map List.length).sum
theorem mkG_len (k : Int) (pp : List (List Int)) : (mkG k pp).length = pp.length := by
  induction pp generalizing k with
  | nil => rfl
  | cons r rs ih => simp [mkG, ih]
theorem mkG_at {pp : List (List Int)} : ∀ {k : Int} {j : Nat} {r : List Int}, pp[j]? = some r → (mkG k pp)[j]? = some (marks (k + (tot (pp.take j) : Nat)) r.length) := by
  induction pp with
  | nil => intro k j r h; simp at h
  | cons x xs ih =>
    intro k j r h
    cases j with
    | zero => simp at h; subst h; simp [mkG, tot]
    | succ j =>
      simp only [List.getElem?_cons_succ] at h
      simp only [mkG, List.getElem?_cons_succ, List.take_succ_cons]
      rw [ih h]
      simp only [tot, List.map_cons, List.sum_cons]
      congr 2
      omega
/-- the first j rows are marked -/
def mkJ (k : Int) (pp : List (List Int)) (j : Nat) : List (List Int) := (mkG k pp).take j ++ pp.drop j
theorem mkJ_zero (k : Int) (pp : List (List Int)) : mkJ k pp 0 = pp := rfl
theorem mkJ_all (k : Int) (pp : List (List Int)) : mkJ k pp pp.length = mkG k pp := by
  unfold mkJ
  rw [List.take_of_length_le (by rw [mkG_len]; exact Nat.le_refl _), List.drop_length, List.append_nil]
theorem mkJ_at {k : Int} {pp : List (List Int)} {j i : Nat} {r : List Int} (hr : pp[i]? = some r) : (mkJ k pp j)[i]? = if i < j then some (marks (k + (tot (pp.take i) : Nat)) r.length) else some r := by
  have hi : i < pp.length := (List.getElem?_eq_some_iff.1 hr).1
  unfold mkJ
  by_cases h : i < j
  · rw [if_pos h, List.getElem?_append_left (by rw [List.length_take, mkG_len]; omega), List.getElem?_take_of_lt h, mkG_at hr]
  · rw [if_neg h]
    have hl : ((mkG k pp).take j).length = j := by rw [List.length_take, mkG_len]; omega
    rw [List.getElem?_append_right (by omega), hl, List.getElem?_drop, show j + (i - j) = i by omega, hr]
theorem mkJ_len (k : Int) (pp : List (List Int)) (j : Nat) (h : j ≤ pp.length) : (mkJ k pp j).length = pp.length := by
  unfold mkJ
  rw [List.length_append, List.length_take, List.length_drop, mkG_len]
  omega
theorem OwnG.mark {w w' : World} {base hi : Nat} {A A' : Option Addr} {n c c' : Nat} {xs : List Value} {pp : List (List Int)} {k : Int} {j : Nat} {r : List Int} (h : OwnG w base hi A n c xs (mkJ k pp j)) (hj : j < n) (hl : pp.length = n) (hr : pp[j]? = some r)
    (hx : xs[j]? = some (.slice A' r.length c')) (ho : w'.ownsRow base 3 1 (.slice A' r.length c') r.length (ints (marks (k + (tot (pp.take j) : Nat)) r.length))) (hg : w.grownBy w' (Value.slice A' r.length c').ownBlock) : OwnG w' base hi A n c xs (mkJ k pp (j + 1)) := by
  refine ⟨own_grown h.out hg (fun q hq e => h.top j _ q hx hq e), by rw [mkJ_len _ _ _ (by omega)]; exact hl, ?_, h.sep, h.top, h.hi_, h.hio⟩
  intro i r' hr'
  have hil : i < pp.length := by
    have := (List.getElem?_eq_some_iff.1 hr').1
    rw [mkJ_len _ _ _ (by omega)] at this
    exact this
  obtain ⟨r0, hr0⟩ : ∃ r0, pp[i]? = some r0 := ⟨_, List.getElem?_eq_getElem hil⟩
  rw [mkJ_at hr0] at hr'
  by_cases e : i = j
  · subst e
    rw [if_pos (by omega)] at hr'
    rw [hr] at hr0
    injection hr0 with hr0
    subst hr0
    injection hr' with hr'
    subst hr'
    rw [marks_length]
    exact ⟨A', c', hx, ho⟩
  · have hold : (mkJ k pp j)[i]? = some r' := by
      rw [mkJ_at hr0]
      by_cases g : i < j
      · rw [if_pos g]; rw [if_pos (by omega)] at hr'; exact hr'
      · rw [if_neg g]; rw [if_neg (by omega)] at hr'; exact hr'
    obtain ⟨A2, c2, h1, h2⟩ := h.row i r' hold
    exact ⟨A2, c2, h1, own_grown h2 hg (fun q hq e2 => e (h.sep i j _ _ q h1 hx e2 hq))⟩
def MarkPost (pp : List (List Int)) (k : Int) (w : World) (base hi : Nat) (A : Option Addr) (n c : Nat) (xs : List Value) (e : Ending) (w' : World) : Prop :=
  e = .returned (.int .i64 (k + (tot pp : Nat))) ∧ OwnG w' base hi A n c xs (mkG k pp) ∧ w.heap.size ≤ w'.heap.size ∧ w'.os = w.os ∧ w'.tape = w.tape ∧ w'.output = w.output ∧ ∀ q, q < w.heap.size → (q < base ∨ hi ≤ q) → w'.heap[q]? = w.heap[q]?
end Go.Proofs.Ytiihenhddleooac

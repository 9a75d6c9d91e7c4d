/- The exact laws' helpers on lists of lists of bools: comparison, marks. -/
import Derived.Deep.Matrix
import Derived.Test.YtiihenhddleooacFMats
import Derived.Test.YtiihenhddleooacLaw
namespace Go.Proofs.Ytiihenhddleooac
open Go.RowKit
set_option linter.unusedVariables false
set_option linter.unusedSimpArgs false
/-- rows of marks, one after the other -/
def mkF (k : Int) : List (List Bool) → List (List Bool)
  | [] => []
  | r :: rs => bmarks k r.length :: mkF (k + r.length) rs
def totF (pp : List (List Bool)) : Nat := (pp.map List.length).sum
theorem mkF_len (k : Int) (pp : List (List Bool)) : (mkF k pp).length = pp.length := by
  induction pp generalizing k with
  | nil => rfl
  | cons r rs ih => simp [mkF, ih]
theorem mkF_at {pp : List (List Bool)} : ∀ {k : Int} {j : Nat} {r : List Bool}, pp[j]? = some r → (mkF k pp)[j]? = some (bmarks (k + (totF (pp.take j) : Nat)) r.length) := by
  induction pp with
  | nil => intro k j r h; simp at h
  | cons x xs ih =>
    intro k j r h
    cases j with
    | zero => simp at h; subst h; simp [mkF, totF]
    | succ j =>
      simp only [List.getElem?_cons_succ] at h
      simp only [mkF, List.getElem?_cons_succ, List.take_succ_cons]
      rw [ih h]
      simp only [totF, List.map_cons, List.sum_cons]
      congr 2
      omega
/-- the first j rows are marked -/
def mkJF (k : Int) (pp : List (List Bool)) (j : Nat) : List (List Bool) := (mkF k pp).take j ++ pp.drop j
theorem mkJF_zero (k : Int) (pp : List (List Bool)) : mkJF k pp 0 = pp := rfl
theorem mkJF_all (k : Int) (pp : List (List Bool)) : mkJF k pp pp.length = mkF k pp := by
  unfold mkJF
  rw [List.take_of_length_le (by rw [mkF_len]; exact Nat.le_refl _), List.drop_length, List.append_nil]
theorem mkJF_at {k : Int} {pp : List (List Bool)} {j i : Nat} {r : List Bool} (hr : pp[i]? = some r) : (mkJF k pp j)[i]? = if i < j then some (bmarks (k + (totF (pp.take i) : Nat)) r.length) else some r := by
  have hi : i < pp.length := (List.getElem?_eq_some_iff.1 hr).1
  unfold mkJF
  by_cases h : i < j
  · rw [if_pos h, List.getElem?_append_left (by rw [List.length_take, mkF_len]; omega), List.getElem?_take_of_lt h, mkF_at hr]
  · rw [if_neg h]
    have hl : ((mkF k pp).take j).length = j := by rw [List.length_take, mkF_len]; omega
    rw [List.getElem?_append_right (by omega), hl, List.getElem?_drop, show j + (i - j) = i by omega, hr]
theorem mkJF_len (k : Int) (pp : List (List Bool)) (j : Nat) (h : j ≤ pp.length) : (mkJF k pp j).length = pp.length := by
  unfold mkJF
  rw [List.length_append, List.length_take, List.length_drop, mkF_len]
  omega
theorem OwnF.mark {w w' : World} {base hi : Nat} {A A' : Option Addr} {n c c' : Nat} {xs : List Value} {pp : List (List Bool)} {k : Int} {j : Nat} {r : List Bool} (h : OwnF w base hi A n c xs (mkJF k pp j)) (hj : j < n) (hl : pp.length = n) (hr : pp[j]? = some r)
    (hx : xs[j]? = some (.slice A' r.length c')) (ho : w'.ownsRow base 4 1 (.slice A' r.length c') r.length (bools (bmarks (k + (totF (pp.take j) : Nat)) r.length))) (hg : w.grownBy w' (Value.slice A' r.length c').ownBlock) : OwnF w' base hi A n c xs (mkJF k pp (j + 1)) := by
  refine ⟨own_grown h.out hg (fun q hq e => h.top j _ q hx hq e), by rw [mkJF_len _ _ _ (by omega)]; exact hl, ?_, h.sep, h.top, h.hi_, h.hio⟩
  intro i r' hr'
  have hil : i < pp.length := by
    have := (List.getElem?_eq_some_iff.1 hr').1
    rw [mkJF_len _ _ _ (by omega)] at this
    exact this
  obtain ⟨r0, hr0⟩ : ∃ r0, pp[i]? = some r0 := ⟨_, List.getElem?_eq_getElem hil⟩
  rw [mkJF_at hr0] at hr'
  by_cases e : i = j
  · subst e
    rw [if_pos (by omega)] at hr'
    rw [hr] at hr0
    injection hr0 with hr0
    subst hr0
    injection hr' with hr'
    subst hr'
    rw [bmarks_len]
    exact ⟨A', c', hx, ho⟩
  · have hold : (mkJF k pp j)[i]? = some r' := by
      rw [mkJF_at hr0]
      by_cases g : i < j
      · rw [if_pos g]; rw [if_pos (by omega)] at hr'; exact hr'
      · rw [if_neg g]; rw [if_neg (by omega)] at hr'; exact hr'
    obtain ⟨A2, c2, h1, h2⟩ := h.row i r' hold
    exact ⟨A2, c2, h1, own_grown h2 hg (fun q hq e2 => e (h.sep i j _ _ q h1 hx e2 hq))⟩
def MarkFPost (pp : List (List Bool)) (k : Int) (w : World) (base hi : Nat) (A : Option Addr) (n c : Nat) (xs : List Value) (e : Ending) (w' : World) : Prop :=
  e = .returned (.int .i64 (k + (totF pp : Nat))) ∧ OwnF w' base hi A n c xs (mkF k pp) ∧ w.heap.size ≤ w'.heap.size ∧ w'.os = w.os ∧ w'.tape = w.tape ∧ w'.output = w.output ∧ ∀ q, q < w.heap.size → (q < base ∨ hi ≤ q) → w'.heap[q]? = w.heap[q]?
theorem mark_below {pp : List (List Bool)} {k : Int} {a w w' : World} {base hi n c B : Nat} {A : Option Addr} {xs : List Value} {e : Ending} (h : MarkFPost pp k w base hi A n c xs e w') (hb : Below B a w) (hB : B ≤ base) (hs : B ≤ w.heap.size) : Below B a w' := by
  obtain ⟨_, _, h3, h4, h5, h6, h7⟩ := h
  exact ⟨h4.trans hb.os, h5.trans hb.tape, h6.trans hb.output, Nat.le_trans hb.size h3, fun q hq => (h7 q (by omega) (.inl (by omega))).trans (hb.block q hq)⟩

end Go.Proofs.Ytiihenhddleooac

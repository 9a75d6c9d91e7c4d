/- Lists of bools that a call made: copies, comparison, marks. -/
import Derived.Test.YtiihenhddleooacFGrid
import Derived.Test.YtiihenhddleooacInts
namespace Go.Proofs.Ytiihenhddleooac
open Go.RowKit
set_option linter.unusedVariables false
set_option linter.unusedSimpArgs false
theorem info_boolss : (Try.prog.info? 27).map (fun i => (i.zero, i.size, i.bytes)) = some (some (.slice none 0 0), 1, 24) := by kernel_rfl
theorem rg_len {α : Type} (f : Nat → α) (n : Nat) : ((List.range n).map f).length = n := by simp
theorem isd_of' {bs : List Bool} {k : Nat} {q : Bool} (h : bs[k]? = some q) : isd bs k = q := by simp [isd, List.getD_eq_getElem?_getD, h]
/-- a list of integers that a call made -/
def OutI (l : List Int) (w : World) (e : Ending) (w' : World) : Prop :=
  ∃ A' c', e = .returned (.slice A' l.length c') ∧ w'.ownsRow w.heap.size 3 1 (.slice A' l.length c') l.length (ints l) ∧ Below w.heap.size w w'
theorem out_mk {w w' : World} {n : Nat} {v : Value} {l : List Int} (hl : l.length = n) (h : w'.ownsRow w.heap.size 3 1 v n (ints l)) (hb : Below w.heap.size w w') : OutI l w (.returned v) w' := by
  subst hl
  obtain ⟨A', c', rfl⟩ := own_form h
  exact ⟨A', c', rfl, h, hb⟩
theorem out_nil (w : World) : OutI [] w (.returned (.slice none 0 0)) w := ⟨_, _, rfl, ⟨rfl, .inl ⟨rfl, rfl⟩⟩, Below.refl _ _⟩
def bcop (bs : List Bool) (k j : Nat) : Value := .bool (if j < k then isd bs j else false)
theorem bcop_step {w : World} {g : Nat} {bs : List Bool} {k : Nat} {T : TypeId} (h : w.rowIs g T bs.length (bcop bs k)) :
    (w.setCell ⟨g, k, none⟩ (.bool (isd bs k))).rowIs g T bs.length (bcop bs (k + 1)) := by
  refine (h.set k (.bool (isd bs k))).congr fun j hj => ?_
  unfold bcop
  by_cases e : j = k
  · subst e
    simp
  · rw [if_neg e]
    by_cases hlt : j < k
    · rw [if_pos hlt, if_pos (by omega)]
    · rw [if_neg hlt, if_neg (by omega)]
theorem bcop_all {w : World} {base g : Nat} {bs : List Bool} {T : TypeId} (h : w.rowIs g T bs.length (bcop bs bs.length)) (hb : base ≤ g) (hn : bs.length ≤ maxLen) :
    w.ownsRow base T 1 (.slice (some ⟨g, 0, none⟩) bs.length bs.length) bs.length (bools bs) :=
  own_of_row h (bools_length bs) (fun i hi => by rw [bools_at hi]; unfold bcop; rw [if_pos hi]) hb hn
def bmarks (k : Int) (n : Nat) : List Bool := (List.range n).map (fun i : Nat => decide ((k + (i : Int)) % 3 = 0))
theorem bmarks_len (k : Int) (n : Nat) : (bmarks k n).length = n := rg_len _ n
theorem bmarks_get {k : Int} {n i : Nat} (h : i < n) : (bmarks k n)[i]? = some (decide ((k + (i : Int)) % 3 = 0)) := by
  unfold bmarks
  rw [List.getElem?_map, List.getElem?_range h]
  rfl
theorem bmarks_at {k : Int} {n i : Nat} (h : i < n) : isd (bmarks k n) i = decide ((k + (i : Int)) % 3 = 0) := isd_of' (bmarks_get h)
def bmarked (k : Int) (bs : List Bool) (j : Nat) : List Bool := (bmarks k bs.length).take j ++ bs.drop j
theorem bmarked_len (k : Int) (bs : List Bool) {j : Nat} (h : j ≤ bs.length) : (bmarked k bs j).length = bs.length := by
  unfold bmarked
  rw [List.length_append, List.length_take, List.length_drop, bmarks_len]
  omega
theorem bmarked_step {k : Int} {bs : List Bool} {j : Nat} (h : j < bs.length) : (bmarked k bs j).set j (decide ((k + (j : Int)) % 3 = 0)) = bmarked k bs (j + 1) := by
  unfold bmarked
  have e1 : ((bmarks k bs.length).take j).length = j := by rw [List.length_take, bmarks_len]; omega
  rw [List.set_append, e1, if_neg (by omega), Nat.sub_self, List.drop_eq_getElem_cons h]
  rw [take_snoc (bmarks_get h), List.append_assoc]
  rfl
end Go.Proofs.Ytiihenhddleooac

/- Orders of indices, each once: the words and the program. -/
import Derived.Test.YtiihenhddleooaaFWords
namespace Go.Proofs.Ytiihenhddleooaa
open Go.RowKit
set_option linter.unusedVariables false
set_option linter.unusedSimpArgs false
def memB (l : List Int) (z : Int) : Bool := decide (z ∈ l)
def goneL (n : Nat) (l : List Int) : List Bool := (List.range n).map (fun i : Nat => memB l (i : Int))
theorem goneL_len (n : Nat) (l : List Int) : (goneL n l).length = n := by simp [goneL]
theorem goneL_at {n : Nat} {l : List Int} {i : Nat} (h : i < n) : isd (goneL n l) i = memB l (i : Int) := by
  have e : (goneL n l)[i]? = some (memB l (i : Int)) := by unfold goneL; rw [List.getElem?_map, List.getElem?_range h]; rfl
  simp [isd, List.getD_eq_getElem?_getD, e]
theorem goneL_nil (n : Nat) : goneL n [] = List.replicate n false := by
  apply List.ext_getElem
  · simp [goneL]
  · intro i h1 h2; simp [goneL, memB]
theorem goneL_snoc {n : Nat} {l : List Int} {i : Nat} (h : i < n) : (goneL n l).set i true = goneL n (l ++ [(i : Int)]) := by
  apply List.ext_getElem
  · simp [goneL]
  · intro j h1 h2
    have hj : j < n := by simpa [goneL] using h2
    rw [List.getElem_set]
    simp only [goneL, List.getElem_map, List.getElem_range, memB, List.mem_append, List.mem_singleton]
    by_cases e : i = j
    · subst e; simp
    · rw [if_neg e]
      refine decide_eq_decide.2 ⟨fun h => .inl h, fun h => ?_⟩
      rcases h with h | h
      · exact h
      · exact absurd (Int.ofNat.inj h).symm e
def ordStep (n : Nat) (l : List Int) (z : Int) : Bool := inB z 0 ((n : Int) - 1) && !memB l z
def ordTo (n : Nat) (os : List Int) (m : Nat) : Bool := (List.range m).all (fun i => ordStep n (os.take i) (at_ os i))
def ordB (n : Nat) (os : List Int) : Bool := decide (os.length = n) && ordTo n os os.length
theorem ordTo_succ (n : Nat) (os : List Int) (m : Nat) : ordTo n os (m + 1) = (ordTo n os m && ordStep n (os.take m) (at_ os m)) := by
  unfold ordTo
  rw [List.range_succ, List.all_append]
  simp
theorem ordTo_bad {n : Nat} {os : List Int} {i m : Nat} (hi : i < m) (h : ordStep n (os.take i) (at_ os i) = false) : ordTo n os m = false := by
  unfold ordTo
  rw [List.all_eq_false]
  exact ⟨i, List.mem_range.2 hi, by rw [h]; simp⟩
theorem ordTo_step {n : Nat} {os : List Int} {m : Nat} (h : ordTo n os m = true) {i : Nat} (hi : i < m) : ordStep n (os.take i) (at_ os i) = true := by
  unfold ordTo at h
  rw [List.all_eq_true] at h
  exact h i (List.mem_range.2 hi)
theorem ordTo_in {n : Nat} {os : List Int} {m : Nat} (h : ordTo n os m = true) {i : Nat} (hi : i < m) : 0 ≤ at_ os i ∧ at_ os i ≤ (n : Int) - 1 := by
  have h1 := ordTo_step h hi
  unfold ordStep at h1
  simp only [Bool.and_eq_true] at h1
  exact inB_t h1.1
theorem ordB_t {n : Nat} {os : List Int} (h : ordB n os = true) : os.length = n ∧ ordTo n os n = true := by
  unfold ordB at h
  rw [Bool.and_eq_true, decide_eq_true_eq] at h
  obtain ⟨h1, h2⟩ := h
  rw [h1] at h2
  exact ⟨h1, h2⟩
end Go.Proofs.Ytiihenhddleooaa

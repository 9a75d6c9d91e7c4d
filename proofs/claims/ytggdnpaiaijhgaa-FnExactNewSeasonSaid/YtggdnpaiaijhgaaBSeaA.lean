/- Chapter 8: seasons (pure). -/
import Derived.Test.YtggdnpaiaijhgaaBEv
import Derived.Test.YtggdnpaiaijhgaaGrid
namespace Go.Proofs.Ytggdnpaiaijhgaa
open Go.RowKit
set_option linter.unusedVariables false
set_option linter.unusedSimpArgs false
/-- a season -/
structure Sea where
  pp : List (List Int)
  W : Int
  D : Int
  st : Int
  so : Int
  lo : Int
  cu : Int
  mo : Int
def seaZ : Sea := ⟨[], 0, 0, 0, 0, 0, 0, 0⟩
def seaB (s : Sea) : Bool := pondB s.pp && (inB s.W 1 9 && (inB s.D 1 9 && (inB s.st 0 (s.W * s.D * 12) && (inB s.so 0 100000 && (inB s.lo 0 100000 && (inB s.cu 0 100000 && (inB s.mo 0 9000000 && decide (s.st + s.so + s.lo = s.cu))))))))
theorem seaB_def {s : Sea} (h : seaB s = true) : pondB s.pp = true ∧ (1 ≤ s.W ∧ s.W ≤ 9) ∧ (1 ≤ s.D ∧ s.D ≤ 9) ∧ (0 ≤ s.st ∧ s.st ≤ s.W * s.D * 12) ∧ (0 ≤ s.so ∧ s.so ≤ 100000) ∧ (0 ≤ s.lo ∧ s.lo ≤ 100000) ∧ (0 ≤ s.cu ∧ s.cu ≤ 100000) ∧ (0 ≤ s.mo ∧ s.mo ≤ 9000000) ∧ s.st + s.so + s.lo = s.cu := by
  unfold seaB at h
  simp only [Bool.and_eq_true] at h
  obtain ⟨h1, h2, h3, h4, h5, h6, h7, h8, h9⟩ := h
  exact ⟨h1, inB_t h2, inB_t h3, inB_t h4, inB_t h5, inB_t h6, inB_t h7, inB_t h8, of_decide_eq_true h9⟩
theorem seaB_mk {s : Sea} (h1 : pondB s.pp = true) (h2 : 1 ≤ s.W ∧ s.W ≤ 9) (h3 : 1 ≤ s.D ∧ s.D ≤ 9) (h4 : 0 ≤ s.st ∧ s.st ≤ s.W * s.D * 12) (h5 : 0 ≤ s.so ∧ s.so ≤ 100000) (h6 : 0 ≤ s.lo ∧ s.lo ≤ 100000) (h7 : 0 ≤ s.cu ∧ s.cu ≤ 100000) (h8 : 0 ≤ s.mo ∧ s.mo ≤ 9000000) (h9 : s.st + s.so + s.lo = s.cu) : seaB s = true := by
  unfold seaB
  rw [h1, inB_mk h2, inB_mk h3, inB_mk h4, inB_mk h5, inB_mk h6, inB_mk h7, inB_mk h8, decide_eq_true h9]; rfl
theorem house_bd {s : Sea} (h : seaB s = true) : s.W * s.D ≤ 81 ∧ 1 ≤ s.W * s.D ∧ s.st ≤ 972 := by
  obtain ⟨_, ⟨h1, h2⟩, ⟨h3, h4⟩, ⟨h5, h6⟩, _⟩ := seaB_def h
  have a1 : s.W * s.D ≤ 9 * 9 := Int.mul_le_mul h2 h4 (by omega) (by omega)
  have a2 : 1 * 1 ≤ s.W * s.D := Int.mul_le_mul h1 h3 (by omega) (by omega)
  omega

end Go.Proofs.Ytggdnpaiaijhgaa

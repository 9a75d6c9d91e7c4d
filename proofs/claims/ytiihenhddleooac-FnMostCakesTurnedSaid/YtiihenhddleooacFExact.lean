/- Words of the exact laws of chapter 3: arguments that are lists of lists of bools. -/
import Derived.Deep.Grids
import Derived.Test.YtiihenhddleooacFMats2
namespace Go.Proofs.Ytiihenhddleooac
open Go.RowKit
set_option linter.unusedVariables false
set_option linter.unusedSimpArgs false
namespace Opn
open Go.ChangeShapes Go.WideShapes Go.ChangeAt Go.RowKit
section
variable {H : Type} {enc : TypeId × Value → H} {P : Program}
/-- An argument that is a list of lists of bools. -/
theorem open_rdF {W : World} {base : Nat} {t e q : TypeId} {v : Value} {d : DataW H} {p : List MemPlace} (ht : P.underlying t = some (.slice e)) (he : P.underlying e = some (.slice q)) (hq : P.underlying q = some .bool) (hce : P.cellsOf e = 1) (hcq : P.cellsOf q = 1)
    (hval : Value.okWide P W .any base t v) (h : DataW.Trod enc P W 0 (fun _ => true) true t v d p) :
    ∃ (A : Option Addr) (c : Nat) (ff : List (List Bool)), v = .slice A ff.length c ∧ RdF W W.heap.size A ff ∧ (ff.length ≤ c ∧ c ≤ maxLen) := by
  obtain ⟨a1, len, cap, rfl⟩ := okWide_slice ht hval
  obtain ⟨fuel, hf⟩ := h
  rcases Go.Deep.open_bool_rows ht he hq hce hcq hf with ⟨hcs, _⟩ | ⟨a, len', cap', A, L, C, Z, hcs, _, hl, hm, _, hrow⟩
  · simp [Value.cells] at hcs
    obtain ⟨rfl, rfl, rfl⟩ := hcs
    exact ⟨none, 0, [], rfl, RdF.nil_, ⟨Nat.zero_le _, Nat.zero_le _⟩⟩
  · simp [Value.cells] at hcs
    obtain ⟨rfl, rfl, rfl⟩ := hcs
    refine ⟨some a, cap, (List.range len).map (fun r => (List.range (L r)).map (Z r)), by simp, ?_, ⟨by simpa using hl, hm⟩⟩
    refine ⟨(List.range len).map (fun r => Value.slice (A r) (L r) (C r)), by simp, ?_, ?_⟩
    · intro hne
      have hpos : 0 < len := by
        rcases Nat.eq_zero_or_pos len with h0 | h0
        · subst h0; simp at hne
        · exact h0
      obtain ⟨ab, ao, spot⟩ := a
      have hc0 := (hrow 0 (by omega)).1
      have hspot : spot = none := by simpa [Addr.add] using World.cell?_spot hc0
      subst hspot
      refine ⟨ab, ao, rfl, cell_block (a := ⟨ab, ao, none⟩) (by simpa [Addr.add] using hc0), fun k x hx => ?_⟩
      have hk : k < len := by
        rcases Nat.lt_or_ge k len with h0 | h0
        · exact h0
        · rw [List.getElem?_eq_none (by simp; omega)] at hx; cases hx
      rw [List.getElem?_map, List.getElem?_range hk] at hx
      injection hx with hx
      subst hx
      have := (hrow k (by omega)).1
      rwa [Addr.add_lit] at this
    · intro k row hk
      have hkl : k < len := by
        rcases Nat.lt_or_ge k len with h0 | h0
        · exact h0
        · rw [List.getElem?_eq_none (by simp; omega)] at hk; cases hk
      rw [List.getElem?_map, List.getElem?_range hkl] at hk
      injection hk with hk
      have hk : (List.range (L k)).map (Z k) = row := hk
      subst hk
      obtain ⟨_, h2, h3, h6, h7⟩ := hrow k (by omega)
      have hlen : ((List.range (L k)).map (Z k)).length = L k := by simp
      refine ⟨A k, C k, ?_, by omega, h3, ?_⟩
      · rw [List.getElem?_map, List.getElem?_range hkl, hlen]; rfl
      · intro hne
        have hpos : 0 < L k := by
          rcases Nat.eq_zero_or_pos (L k) with h0 | h0
          · rw [h0] at hne; simp [bools] at hne
          · exact h0
        cases hA : A k with
        | none => have := h6 hA; omega
        | some a' =>
          have h8 := (h7 a' hA).2
          obtain ⟨ab, ao, spot⟩ := a'
          have hspot : spot = none := by simpa [Addr.add] using World.cell?_spot (h8 0 (by omega))
          subst hspot
          refine ⟨ab, ao, rfl, cell_block (a := ⟨ab, ao, none⟩) (by simpa [Addr.add] using h8 0 (by omega)), fun j x hx => ?_⟩
          have hj : j < L k := by
            rcases Nat.lt_or_ge j (L k) with h0 | h0
            · exact h0
            · rw [List.getElem?_eq_none (by rw [bools_length, hlen]; omega)] at hx; cases hx
          have hcj := h8 j (by omega)
          rw [Addr.add_lit] at hcj
          rw [hcj]
          rw [bools, List.getElem?_map, List.getElem?_map, List.getElem?_range hj] at hx
          simpa using hx
end
end Opn
theorem cellsBools : Try.prog.cellsOf 27 = 1 := by kernel_rfl
theorem cellsBool : Try.prog.cellsOf 4 = 1 := by kernel_rfl

end Go.Proofs.Ytiihenhddleooac

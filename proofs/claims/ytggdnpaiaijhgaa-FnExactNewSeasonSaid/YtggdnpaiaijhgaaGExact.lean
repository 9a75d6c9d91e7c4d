/- Words of the exact laws whose answers are lists of lists of integers. -/
import Derived.Deep.Matrix
import Derived.Test.YtggdnpaiaijhgaaMats2
import Derived.Test.YtggdnpaiaijhgaaCutS
namespace Go.Proofs.Ytggdnpaiaijhgaa
open Go.RowKit
set_option linter.unusedVariables false
set_option linter.unusedSimpArgs false
namespace Opn
open Go.ChangeShapes Go.WideShapes Go.ChangeAt Go.RowKit
section
variable {H : Type} {enc : TypeId × Value → H} {P : Program}
/-- An argument that is a list of lists of integers. -/
theorem open_rdG {W : World} {base : Nat} {t e q : TypeId} {v : Value} {d : DataW H} {p : List MemPlace} (ht : P.underlying t = some (.slice e)) (he : P.underlying e = some (.slice q)) (hq : P.underlying q = some (.int .i64)) (hce : P.cellsOf e = 1) (hcq : P.cellsOf q = 1)
    (hval : Value.okWide P W .any base t v) (h : DataW.Trod enc P W 0 (fun _ => true) true t v d p) :
    ∃ (A : Option Addr) (c : Nat) (pp : List (List Int)), v = .slice A pp.length c ∧ RdG W W.heap.size A pp ∧ (pp.length ≤ c ∧ c ≤ maxLen) := by
  obtain ⟨a1, len, cap, rfl⟩ := okWide_slice ht hval
  obtain ⟨fuel, hf⟩ := h
  rcases Go.Deep.open_int_rows ht he hq hce hcq hf with ⟨hcs, _⟩ | ⟨a, len', cap', A, L, C, Z, hcs, _, hl, hm, _, hrow⟩
  · simp [Value.cells] at hcs
    obtain ⟨rfl, rfl, rfl⟩ := hcs
    exact ⟨none, 0, [], rfl, RdG.nil_, ⟨Nat.zero_le _, Nat.zero_le _⟩⟩
  · simp [Value.cells] at hcs
    obtain ⟨rfl, rfl, rfl⟩ := hcs
    have addr : ∀ {x : Addr} {k : Nat} {y : Value}, W.cell? (x.add k) = some y → W.cell? x ≠ none ∨ True := fun _ => .inr trivial
    refine ⟨some a, cap, (List.range len).map (fun r => (Z r).take (L r)), by simp, ?_, ⟨by simpa using hl, hm⟩⟩
    refine ⟨(List.range len).map (fun r => Value.slice (A r) (L r) (C r)), by simp, ?_, ?_⟩
    · intro hne
      have hpos : 0 < len := by
        rcases Nat.eq_zero_or_pos len with h0 | h0
        · subst h0; simp at hne
        · exact h0
      obtain ⟨ab, ao, spot⟩ := a
      have hc0 := (hrow 0 (by omega)).1
      have hspot : spot = none := by simpa [Addr.add] using World.cell?_spot hc0
      subst hspot
      refine ⟨ab, ao, rfl, cell_block (a := ⟨ab, ao, none⟩) (by simpa [Addr.add] using hc0), fun k x hx => ?_⟩
      have hk : k < len := by
        rcases Nat.lt_or_ge k len with h0 | h0
        · exact h0
        · rw [List.getElem?_eq_none (by simp; omega)] at hx; cases hx
      rw [List.getElem?_map, List.getElem?_range hk] at hx
      injection hx with hx
      subst hx
      have := (hrow k (by omega)).1
      rwa [Addr.add_lit] at this
    · intro k row hk
      have hkl : k < len := by
        rcases Nat.lt_or_ge k len with h0 | h0
        · exact h0
        · rw [List.getElem?_eq_none (by simp; omega)] at hk; cases hk
      rw [List.getElem?_map, List.getElem?_range hkl] at hk
      injection hk with hk
      have hk : (Z k).take (L k) = row := hk
      subst hk
      obtain ⟨_, h2, h3, h4, _, h6, h7⟩ := hrow k (by omega)
      have hlen : ((Z k).take (L k)).length = L k := by rw [List.length_take]; omega
      refine ⟨A k, C k, ?_, by omega, h3, ?_⟩
      · rw [List.getElem?_map, List.getElem?_range hkl, hlen]; rfl
      · intro hne
        have hpos : 0 < L k := by
          rcases Nat.eq_zero_or_pos (L k) with h0 | h0
          · rw [h0] at hne; simp [ints] at hne
          · exact h0
        cases hA : A k with
        | none => have := h6 hA; omega
        | some a' =>
          have h8 := (h7 a' hA).2
          obtain ⟨ab, ao, spot⟩ := a'
          have hspot : spot = none := by simpa [Addr.add] using World.cell?_spot (h8 0 (by omega))
          subst hspot
          refine ⟨ab, ao, rfl, cell_block (a := ⟨ab, ao, none⟩) (by simpa [Addr.add] using h8 0 (by omega)), fun j x hx => ?_⟩
          have hj : j < L k := by
            rcases Nat.lt_or_ge j (L k) with h0 | h0
            · exact h0
            · rw [List.getElem?_eq_none (by rw [ints_length, hlen]; omega)] at hx; cases hx
          have hcj := h8 j (by omega)
          rw [Addr.add_lit] at hcj
          rw [hcj]
          rw [ints, List.getElem?_map, List.getElem?_take_of_lt hj, List.getElem?_eq_getElem (by omega)] at hx
          simpa [List.getD_eq_getElem?_getD, show j < (Z k).length by omega] using hx
end
end Opn
theorem cellsInts : Try.prog.cellsOf 37 = 1 := by kernel_rfl
theorem mark_below {pp : List (List Int)} {k : Int} {a w w' : World} {base hi n c B : Nat} {A : Option Addr} {xs : List Value} {e : Ending} (h : MarkPost pp k w base hi A n c xs e w') (hb : Below B a w) (hB : B ≤ base) (hs : B ≤ w.heap.size) : Below B a w' := by
  obtain ⟨_, _, h3, h4, h5, h6, h7⟩ := h
  exact ⟨h4.trans hb.os, h5.trans hb.tape, h6.trans hb.output, Nat.le_trans hb.size h3, fun q hq => (h7 q (by omega) (.inl (by omega))).trans (hb.block q hq)⟩
theorem sizes_cut {pp : List (List Int)} {z : Int} (h : sizes pp ≤ 1048576) : sizes (cutT pp z) ≤ 1048576 := by
  unfold cutT
  split
  · next hq =>
    have : sizes (cutF pp z.toNat) = sizes pp := by
      unfold sizes cutF
      rw [List.length_set]
      congr 1
      rw [List.map_set]
      by_cases hy : z.toNat / wide pp < pp.length
      · have e : (pp.map List.length).set (z.toNat / wide pp) ((pp.getD (z.toNat / wide pp) []).set (z.toNat % wide pp) 0).length = pp.map List.length := by
          apply List.ext_getElem
          · simp
          · intro i h1 h2
            rw [List.getElem_set]
            split
            · next he =>
              subst he
              rw [List.length_set, List.getD_eq_getElem?_getD, List.getElem?_eq_getElem hy]
              simp
            · rfl
        rw [e]
      · rw [List.set_eq_of_length_le (by simp; omega)]
    rw [this]; exact h
  · simp [sizes]
theorem OwnG.rd_at {w w' : World} {base hi n c : Nat} {A : Option Addr} {xs : List Value} {pp : List (List Int)} (h : OwnG w base hi A n c xs pp) (hk : ∀ k, base ≤ k → k < hi → w'.heap[k]? = w.heap[k]?) : RdG w' w'.heap.size A pp := (h.far hk).rd
theorem iCut_b {ts : List (List Int)} (pp : List (List Int)) (A : Option Addr) (c : Nat) (w : World) (hg : RdG w w.heap.size A pp) (z : Int) (hts : Hid (ts = cutT pp z)) :
    Calls Try.prog 99 #[.slice A pp.length c, .int .i64 z] w (OutGr ts w) := by
  rw [hts.out]; exact iCut_any pp A c w hg z
end Go.Proofs.Ytggdnpaiaijhgaa

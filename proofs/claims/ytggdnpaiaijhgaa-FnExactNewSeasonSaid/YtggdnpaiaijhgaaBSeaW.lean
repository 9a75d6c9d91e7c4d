/- Chapter 8: seasons in memory, and as arguments of laws. -/
import Derived.Deep.Slices
import Derived.Deep.Strs
import Derived.Deep.Matrix
import Derived.Test.YtggdnpaiaijhgaaBSeaA
import Derived.Test.YtggdnpaiaijhgaaBOwn
import Derived.Test.YtggdnpaiaijhgaaMats2
namespace Go.Proofs.Ytggdnpaiaijhgaa
open Go.RowKit
set_option linter.unusedVariables false
set_option linter.unusedSimpArgs false
def seaV (s : Sea) (A : Option Addr) (c : Nat) : Value := .agg #[.slice A s.pp.length c, .int .i64 s.W, .int .i64 s.D, .int .i64 s.st, .int .i64 s.so, .int .i64 s.lo, .int .i64 s.cu, .int .i64 s.mo]
/-- eight cells of a box -/
structure Box8 (w : World) (g : Nat) (v0 v1 v2 v3 v4 v5 v6 v7 : Value) : Prop where
  c0 : w.cell? ⟨g, 0, none⟩ = some v0
  c1 : w.cell? ⟨g, 1, none⟩ = some v1
  c2 : w.cell? ⟨g, 2, none⟩ = some v2
  c3 : w.cell? ⟨g, 3, none⟩ = some v3
  c4 : w.cell? ⟨g, 4, none⟩ = some v4
  c5 : w.cell? ⟨g, 5, none⟩ = some v5
  c6 : w.cell? ⟨g, 6, none⟩ = some v6
  c7 : w.cell? ⟨g, 7, none⟩ = some v7
  fr : ∀ j, w.frozen? ⟨g, j, none⟩ = false
  lt : g < w.heap.size
def eight (w : World) (g : Nat) (v0 v1 v2 v3 v4 v5 v6 v7 : Value) : World := (((((((w.setCell ⟨g, 0, none⟩ v0).setCell ⟨g, 1, none⟩ v1).setCell ⟨g, 2, none⟩ v2).setCell ⟨g, 3, none⟩ v3).setCell ⟨g, 4, none⟩ v4).setCell ⟨g, 5, none⟩ v5).setCell ⟨g, 6, none⟩ v6).setCell ⟨g, 7, none⟩ v7
section
variable {w w' : World} {g B : Nat} {v0 v1 v2 v3 v4 v5 v6 v7 u0 u1 u2 u3 u4 u5 u6 u7 : Value}
theorem Box8.alloc_ (w : World) (T : TypeId) : Box8 (w.alloc (.cells #[v0, v1, v2, v3, v4, v5, v6, v7] T)) w.heap.size v0 v1 v2 v3 v4 v5 v6 v7 :=
  ⟨by simp, by simp, by simp, by simp, by simp, by simp, by simp, by simp, fun j => World.frozen?_alloc_new w _ _ _, by simp⟩
theorem Box8.far (h : Box8 w g v0 v1 v2 v3 v4 v5 v6 v7) (hk : w'.heap[g]? = w.heap[g]?) (hs : w.heap.size ≤ w'.heap.size) : Box8 w' g v0 v1 v2 v3 v4 v5 v6 v7 :=
  have hc : ∀ j, w'.cell? ⟨g, j, none⟩ = w.cell? ⟨g, j, none⟩ := fun j => World.cell?_of_block (a := ⟨g, j, none⟩) hk
  ⟨(hc 0).trans h.c0, (hc 1).trans h.c1, (hc 2).trans h.c2, (hc 3).trans h.c3, (hc 4).trans h.c4, (hc 5).trans h.c5, (hc 6).trans h.c6, (hc 7).trans h.c7, fun j => (World.frozen?_of_block (a := ⟨g, j, none⟩) hk).trans (h.fr j), by have := h.lt; omega⟩
theorem Box8.below (h : Box8 w g v0 v1 v2 v3 v4 v5 v6 v7) (hb : Below B w w') (hg : g < B) : Box8 w' g v0 v1 v2 v3 v4 v5 v6 v7 := h.far (hb.block g hg) hb.size
theorem eight_below (w : World) {g B : Nat} (hg : B ≤ g) (v0 v1 v2 v3 v4 v5 v6 v7 : Value) : Below B w (eight w g v0 v1 v2 v3 v4 v5 v6 v7) :=
  ((((((((Below.refl _ _).setCell (p := ⟨g, 0, none⟩) hg _).setCell (p := ⟨g, 1, none⟩) hg _).setCell (p := ⟨g, 2, none⟩) hg _).setCell (p := ⟨g, 3, none⟩) hg _).setCell (p := ⟨g, 4, none⟩) hg _).setCell (p := ⟨g, 5, none⟩) hg _).setCell (p := ⟨g, 6, none⟩) hg _).setCell (p := ⟨g, 7, none⟩) hg _
theorem Box8.set (h : Box8 w g v0 v1 v2 v3 v4 v5 v6 v7) : Box8 (eight w g u0 u1 u2 u3 u4 u5 u6 u7) g u0 u1 u2 u3 u4 u5 u6 u7 := by
  have h0 := h.c0
  have h1 := h.c1
  have h2 := h.c2
  have h3 := h.c3
  have h4 := h.c4
  have h5 := h.c5
  have h6 := h.c6
  have h7 := h.c7
  refine ⟨?_, ?_, ?_, ?_, ?_, ?_, ?_, ?_, fun j => ?_, by have := h.lt; have := (eight_below w (Nat.zero_le g) u0 u1 u2 u3 u4 u5 u6 u7).size; omega⟩
  · unfold eight; simp [go_sem, h0]
  · unfold eight; simp [go_sem, h1]
  · unfold eight; simp [go_sem, h2]
  · unfold eight; simp [go_sem, h3]
  · unfold eight; simp [go_sem, h4]
  · unfold eight; simp [go_sem, h5]
  · unfold eight; simp [go_sem, h6]
  · unfold eight; simp [go_sem, h7]
  · unfold eight; rw [World.frozen?_setCell, World.frozen?_setCell, World.frozen?_setCell, World.frozen?_setCell, World.frozen?_setCell, World.frozen?_setCell, World.frozen?_setCell, World.frozen?_setCell]; exact h.fr j
theorem own_eight {base n : Nat} {T : TypeId} {v : Value} {xs : List Value} (h : w.ownsRow base T 1 v n xs) (hb : v.ownBlock ≠ some g) : (eight w g v0 v1 v2 v3 v4 v5 v6 v7).ownsRow base T 1 v n xs :=
  own_other (own_other (own_other (own_other (own_other (own_other (own_other (own_other h hb _) hb _) hb _) hb _) hb _) hb _) hb _) hb _
theorem eight_block {k : Nat} (hk : k ≠ g) : (eight w g v0 v1 v2 v3 v4 v5 v6 v7).heap[k]? = w.heap[k]? := by
  unfold eight
  rw [Below.heap_setCell _ _ _ _ hk, Below.heap_setCell _ _ _ _ hk, Below.heap_setCell _ _ _ _ hk, Below.heap_setCell _ _ _ _ hk, Below.heap_setCell _ _ _ _ hk, Below.heap_setCell _ _ _ _ hk, Below.heap_setCell _ _ _ _ hk, Below.heap_setCell _ _ _ _ hk]
end
theorem OwnG.eight {w : World} {base hi g n c : Nat} {A : Option Addr} {xs : List Value} {pp : List (List Int)} {v0 v1 v2 v3 v4 v5 v6 v7 : Value} (h : OwnG w base hi A n c xs pp) (hg : g < base ∨ hi ≤ g) : OwnG (eight w g v0 v1 v2 v3 v4 v5 v6 v7) base hi A n c xs pp :=
  h.far fun k h1 h2 => eight_block (by omega)
theorem cellsIntW : Try.prog.cellsOf 3 = 1 := by kernel_rfl
theorem cellsIntsW : Try.prog.cellsOf 37 = 1 := by kernel_rfl
theorem cellsIntssW : Try.prog.cellsOf 22 = 1 := by kernel_rfl
theorem cellsSeaW : Try.prog.cellsOf 24 = 8 := by kernel_rfl
namespace Opn
open Go.ChangeShapes Go.WideShapes Go.ChangeAt Go.RowKit
section
variable {H : Type} {enc : TypeId × Value → H} {P : Program}
theorem trod_struct8 {w : World} {base : Nat} {spare : Nat → Bool} {held : Bool} {t : TypeId} {f0 f1 f2 f3 f4 f5 f6 f7 : Field} {fuel : Nat} {cs : List Value} {x : DataW H × List MemPlace} (ht : P.underlying t = some (.struct #[f0, f1, f2, f3, f4, f5, f6, f7])) (h : DataW.trod enc P w base spare held fuel t cs = some x) :
    ∃ y0 y1 y2 y3 y4 y5 y6 y7 n, cs.length = P.cellsOf t ∧ DataW.trod enc P w base spare held n f0.type ((cs.drop f0.offset).take (P.cellsOf f0.type)) = some y0 ∧ DataW.trod enc P w base spare held n f1.type ((cs.drop f1.offset).take (P.cellsOf f1.type)) = some y1 ∧ DataW.trod enc P w base spare held n f2.type ((cs.drop f2.offset).take (P.cellsOf f2.type)) = some y2 ∧ DataW.trod enc P w base spare held n f3.type ((cs.drop f3.offset).take (P.cellsOf f3.type)) = some y3 ∧ DataW.trod enc P w base spare held n f4.type ((cs.drop f4.offset).take (P.cellsOf f4.type)) = some y4 ∧ DataW.trod enc P w base spare held n f5.type ((cs.drop f5.offset).take (P.cellsOf f5.type)) = some y5 ∧ DataW.trod enc P w base spare held n f6.type ((cs.drop f6.offset).take (P.cellsOf f6.type)) = some y6 ∧ DataW.trod enc P w base spare held n f7.type ((cs.drop f7.offset).take (P.cellsOf f7.type)) = some y7 := by
  obtain ⟨xs, n, _, rfl, hl, hlen, hf⟩ := DataW.trod_struct ht h
  match xs, hlen with
  | [y0, y1, y2, y3, y4, y5, y6, y7], _ => exact ⟨y0, y1, y2, y3, y4, y5, y6, y7, n, hl, by simpa using hf 0 f0 rfl, by simpa using hf 1 f1 rfl, by simpa using hf 2 f2 rfl, by simpa using hf 3 f3 rfl, by simpa using hf 4 f4 rfl, by simpa using hf 5 f5 rfl, by simpa using hf 6 f6 rfl, by simpa using hf 7 f7 rfl⟩
/-- a list of lists of numbers, read in its one cell -/
theorem trod_rows_ {W : World} {t e q : TypeId} {fuel base : Nat} {cs : List Value} {x : DataW H × List MemPlace} (ht : P.underlying t = some (.slice e)) (he : P.underlying e = some (.slice q)) (hq : P.underlying q = some (.int .i64)) (hce : P.cellsOf e = 1) (hcq : P.cellsOf q = 1) (h : DataW.trod enc P W base (fun _ => true) true fuel t cs = some x) :
    ∃ (A : Option Addr) (c : Nat) (pp : List (List Int)), cs = [.slice A pp.length c] ∧ RdG W W.heap.size A pp ∧ (pp.length ≤ c ∧ c ≤ maxLen) := by
  rcases Go.Deep.open_int_rows ht he hq hce hcq h with ⟨hcs, _⟩ | ⟨a, len, cap, A, L, C, Z, hcs, _, hl, hm, _, hrow⟩
  · exact ⟨none, 0, [], by rw [hcs]; rfl, RdG.nil_, ⟨Nat.zero_le _, Nat.zero_le _⟩⟩
  · refine ⟨some a, cap, (List.range len).map (fun r => (Z r).take (L r)), by rw [hcs]; simp, ?_, ⟨by simpa using hl, hm⟩⟩
    refine ⟨(List.range len).map (fun r => Value.slice (A r) (L r) (C r)), by simp, ?_, ?_⟩
    · intro hne
      have hpos : 0 < len := by
        rcases Nat.eq_zero_or_pos len with h0 | h0
        · subst h0; simp at hne
        · exact h0
      obtain ⟨ab, ao, spot⟩ := a
      have hc0 := (hrow 0 (by omega)).1
      have hspot : spot = none := by simpa [Addr.add] using World.cell?_spot hc0
      subst hspot
      refine ⟨ab, ao, rfl, cell_block (a := ⟨ab, ao, none⟩) (by simpa [Addr.add] using hc0), fun k x hx => ?_⟩
      have hk : k < len := by
        rcases Nat.lt_or_ge k len with h0 | h0
        · exact h0
        · rw [List.getElem?_eq_none (by simp; omega)] at hx; cases hx
      rw [List.getElem?_map, List.getElem?_range hk] at hx
      injection hx with hx
      subst hx
      have := (hrow k (by omega)).1
      rwa [Addr.add_lit] at this
    · intro k row hk
      have hkl : k < len := by
        rcases Nat.lt_or_ge k len with h0 | h0
        · exact h0
        · rw [List.getElem?_eq_none (by simp; omega)] at hk; cases hk
      rw [List.getElem?_map, List.getElem?_range hkl] at hk
      injection hk with hk
      have hk : (Z k).take (L k) = row := hk
      subst hk
      obtain ⟨_, h2, h3, h4, _, h6, h7⟩ := hrow k (by omega)
      have hlen : ((Z k).take (L k)).length = L k := by rw [List.length_take]; omega
      refine ⟨A k, C k, ?_, by omega, h3, ?_⟩
      · rw [List.getElem?_map, List.getElem?_range hkl, hlen]; rfl
      · intro hne
        have hpos : 0 < L k := by
          rcases Nat.eq_zero_or_pos (L k) with h0 | h0
          · rw [h0] at hne; simp [ints] at hne
          · exact h0
        cases hA : A k with
        | none => have := h6 hA; omega
        | some a' =>
          have h8 := (h7 a' hA).2
          obtain ⟨ab, ao, spot⟩ := a'
          have hspot : spot = none := by simpa [Addr.add] using World.cell?_spot (h8 0 (by omega))
          subst hspot
          refine ⟨ab, ao, rfl, cell_block (a := ⟨ab, ao, none⟩) (by simpa [Addr.add] using h8 0 (by omega)), fun j x hx => ?_⟩
          have hj : j < L k := by
            rcases Nat.lt_or_ge j (L k) with h0 | h0
            · exact h0
            · rw [List.getElem?_eq_none (by rw [ints_length, hlen]; omega)] at hx; cases hx
          have hcj := h8 j (by omega)
          rw [Addr.add_lit] at hcj
          rw [hcj]
          rw [ints, List.getElem?_map, List.getElem?_take_of_lt hj, List.getElem?_eq_getElem (by omega)] at hx
          simpa [List.getD_eq_getElem?_getD, show j < (Z k).length by omega] using hx
end
set_option maxRecDepth 100000 in
set_option maxHeartbeats 800000 in
/-- one season, read at its eight cells -/
theorem sea_cells {H : Type} {enc : TypeId × Value → H} {W : World} {base n : Nat} {vs : List Value} {x : DataW H × List MemPlace} (h : DataW.trod enc Try.prog W base (fun _ => true) true n 24 vs = some x) :
    ∃ (s : Sea) (A : Option Addr) (c : Nat), vs = [.slice A s.pp.length c, .int .i64 s.W, .int .i64 s.D, .int .i64 s.st, .int .i64 s.so, .int .i64 s.lo, .int .i64 s.cu, .int .i64 s.mo] ∧ RdG W W.heap.size A s.pp ∧ (s.pp.length ≤ c ∧ c ≤ maxLen) := by
  obtain ⟨y0, y1, y2, y3, y4, y5, y6, y7, m, hlen, g0, g1, g2, g3, g4, g5, g6, g7⟩ := trod_struct8 Try.underlying24 h
  rw [cellsSeaW] at hlen
  match vs, hlen with
  | [a0, a1, a2, a3, a4, a5, a6, a7], _ =>
    simp [cellsIntW, cellsIntssW] at g0 g1 g2 g3 g4 g5 g6 g7
    obtain ⟨A, c, pp, hp0, hr, hc⟩ := trod_rows_ Try.underlying22 Try.underlying37 Try.underlying3 cellsIntsW cellsIntW g0
    obtain ⟨p1, hp1, _, _⟩ := DataW.trod_int Try.underlying3 g1
    obtain ⟨p2, hp2, _, _⟩ := DataW.trod_int Try.underlying3 g2
    obtain ⟨p3, hp3, _, _⟩ := DataW.trod_int Try.underlying3 g3
    obtain ⟨p4, hp4, _, _⟩ := DataW.trod_int Try.underlying3 g4
    obtain ⟨p5, hp5, _, _⟩ := DataW.trod_int Try.underlying3 g5
    obtain ⟨p6, hp6, _, _⟩ := DataW.trod_int Try.underlying3 g6
    obtain ⟨p7, hp7, _, _⟩ := DataW.trod_int Try.underlying3 g7
    simp only [List.cons.injEq, and_true] at hp0 hp1 hp2 hp3 hp4 hp5 hp6 hp7
    subst hp0 hp1 hp2 hp3 hp4 hp5 hp6 hp7
    exact ⟨⟨pp, p1, p2, p3, p4, p5, p6, p7⟩, A, c, rfl, hr, hc⟩
set_option maxRecDepth 100000 in
set_option maxHeartbeats 800000 in
/-- An argument that is a season. -/
theorem open_sea {H : Type} {enc : TypeId × Value → H} {W : World} {base : Nat} {v : Value} {d : DataW H} {p : List MemPlace}
    (hval : Value.okWide Try.prog W .any base 24 v) (h : DataW.Trod enc Try.prog W 0 (fun _ => true) true 24 v d p) :
    ∃ (s : Sea) (A : Option Addr) (c : Nat), v = seaV s A c ∧ RdG W W.heap.size A s.pp ∧ (s.pp.length ≤ c ∧ c ≤ maxLen) := by
  obtain ⟨cs, rfl, hsz⟩ := okWide_struct Try.underlying24 hval
  obtain ⟨fuel, hf⟩ := h
  obtain ⟨s, A, c, h1, h2, h3⟩ := sea_cells hf
  refine ⟨s, A, c, ?_, h2, h3⟩
  have h4 : cs.toList = [.slice A s.pp.length c, .int .i64 s.W, .int .i64 s.D, .int .i64 s.st, .int .i64 s.so, .int .i64 s.lo, .int .i64 s.cu, .int .i64 s.mo] := by simpa [Value.cells] using h1
  rw [show cs = cs.toList.toArray by simp, h4]
  rfl
end Opn

end Go.Proofs.Ytggdnpaiaijhgaa

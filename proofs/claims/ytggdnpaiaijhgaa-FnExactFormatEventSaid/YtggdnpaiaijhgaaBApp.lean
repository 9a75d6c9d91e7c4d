/- Chapter 8: rows of bytes that grow by bytes and by texts. -/
import Derived.Deep.Upon
import Derived.Deep.MidRow
import Derived.Laws.IdiomStrings
import Derived.Lib.AppendStr
import Derived.Test.YtggdnpaiaijhgaaBNum
namespace Go.Proofs.Ytggdnpaiaijhgaa
open Go.RowKit
set_option linter.unusedVariables false
set_option linter.unusedSimpArgs false
def byV (b : UInt8) : Value := .int .u8 (b.toNat : Int)
/-- a row of bytes of the call's own, told by its cells -/
def OwnB (w : World) (lo : Nat) (v : Value) (l : List UInt8) : Prop :=
  ∃ g cap, v = .slice (some ⟨g, 0, none⟩) l.length cap ∧ lo ≤ g ∧ g < w.heap.size ∧ l.length ≤ cap ∧ cap ≤ maxLen ∧ (∀ j x, (l.map byV)[j]? = some x → w.cell? ⟨g, j, none⟩ = some x) ∧ (∀ j, j < cap → (w.cell? ⟨g, j, none⟩).isSome = true ∧ w.frozen? ⟨g, j, none⟩ = false)
theorem OwnB.below {w w' : World} {lo : Nat} {v : Value} {l : List UInt8} (h : OwnB w lo v l) (hb : Below w.heap.size w w') : OwnB w' lo v l := by
  obtain ⟨g, cap, h1, h2, h3, h4, h5, h6, h7⟩ := h
  exact ⟨g, cap, h1, h2, by have := hb.size; omega, h4, h5, fun j x hj => by rw [hb.cell (p := ⟨g, j, none⟩) h3]; exact h6 j x hj, fun j hj => by rw [hb.cell (p := ⟨g, j, none⟩) h3, hb.frozen (p := ⟨g, j, none⟩) h3]; exact h7 j hj⟩
theorem below_setCells {B g : Nat} (hB : B ≤ g) : ∀ (vs : List Value) (o : Nat) (w : World), Below B w (w.setCells g o vs)
  | [], _, w => Below.refl _ _
  | v :: vs, o, w => by
    rw [World.setCells]
    exact ((Below.refl _ _).setCell (p := ⟨g, o, none⟩) hB v).trans (below_setCells hB vs (o + 1) _)
theorem app_at {l l2 : List UInt8} {j : Nat} {x : Value} (h : ((l ++ l2).map byV)[j]? = some x) : (j < l.length ∧ (l.map byV)[j]? = some x) ∨ (∃ i, j = l.length + i ∧ i < l2.length ∧ (l2.map byV)[i]? = some x) := by
  rw [List.map_append] at h
  rcases Nat.lt_or_ge j l.length with hj | hj
  · rw [List.getElem?_append_left (by simpa using hj)] at h
    exact .inl ⟨hj, h⟩
  · rw [List.getElem?_append_right (by simpa using hj), List.length_map] at h
    have := (List.getElem?_eq_some_iff.1 h).1
    rw [List.length_map] at this
    exact .inr ⟨j - l.length, by omega, this, h⟩
section
variable {P : Program}
theorem own_appB (w : World) {lo : Nat} {v : Value} {l : List UInt8} (h : OwnB w lo v l) (hlo : lo ≤ w.heap.size) (t tx ty e : TypeId) (i : TypeInfo) (ht : P.underlying t = some (.slice e)) (hi : P.info? e = some i) (hz : i.zero = some (.int .u8 0)) (hs1 : i.size = 1) (hb1 : i.bytes = 1)
    (x : Value) (l2 : List UInt8) (hs : Src P 1 tx x l2.length (l2.map byV) w) (hn : l.length + l2.length ≤ 140737488355328) :
    ∃ v' w', (Builtin.append_ #[t, tx] ty #[v, x]).run P w = .ok v' w' ∧ OwnB w' lo v' (l ++ l2) ∧ Below lo w w' := by
  obtain ⟨g, cap, rfl, h2, h3, h4, h5, h6, h7⟩ := h
  have hs' : Src P i.size tx x l2.length (l2.map byV) w := by rw [hs1]; exact hs
  by_cases hroom : l.length + l2.length ≤ cap
  · have hthere : ∀ j, j < (l2.map byV).length → (w.cell? ⟨g, 0 + l.length * i.size + j, none⟩).isSome = true ∧ w.frozen? ⟨g, 0 + l.length * i.size + j, none⟩ = false := fun j hj => h7 _ (by rw [List.length_map] at hj; rw [hs1]; omega)
    have hrun := run_append_room_src (P := P) w t tx ty e i ht hi g 0 l.length cap x l2.length (l2.map byV) hs' hroom (fun j hj => (hthere j hj).1) (fun j hj => (hthere j hj).2)
    have eo : 0 + l.length * i.size = l.length := by rw [hs1]; omega
    rw [eo] at hrun hthere
    have hb := below_setCells h2 (l2.map byV) l.length w
    refine ⟨_, _, hrun, ⟨g, cap, by rw [List.length_append], h2, by have := hb.size; omega, by rw [List.length_append]; exact hroom, h5, fun j y hj => ?_, fun j hj => ⟨World.isSome_setCells _ _ _ _ _ (h7 j hj).1, by rw [World.frozen?_setCells]; exact (h7 j hj).2⟩⟩, hb⟩
    rcases app_at hj with ⟨k1, k2⟩ | ⟨k, rfl, k1, k2⟩
    · rw [World.cell?_setCells_out _ _ _ _ _ (fun _ _ => .inl k1)]
      exact h6 j y k2
    · rw [World.cell?_setCells_in g (l2.map byV) l.length w (fun q hq => (hthere q hq).1) k (by simpa using k1), ← k2, List.getElem?_eq_getElem (by simpa using k1)]
  · have hold : (Builtin.firstCells i.size l.length (.slice (some ⟨g, 0, none⟩) l.length cap)).run P w.drew = .ok (l.map byV).toArray w.drew :=
      run_firstCells_some (P := P) w.drew i.size l.length ⟨g, 0, none⟩ l.length cap (l.map byV) (by simp [hs1]) (fun j u hu => by rw [Addr.add_lit, Nat.zero_add]; exact h6 j u hu)
    have hrun := run_append_grow_src (P := P) w t tx ty e i (.int .u8 0) ht hi hz (some ⟨g, 0, none⟩) l.length cap (l.map byV) hold x l2.length (l2.map byV) hs' (by omega) (by omega) (by rw [hb1]; exact growslice_fits (by omega) (by omega))
    have hge := grownCap_ge w (l.length + l2.length) cap e
    have hcm := grownCap_le_maxLen w (l.length + l2.length) cap e (by unfold maxLen; omega)
    rw [← List.map_append] at hrun
    generalize grownCap w (l.length + l2.length) cap e = G at *
    refine ⟨_, _, hrun, ⟨w.heap.size, G, by rw [List.length_append], hlo, by simp, by rw [List.length_append]; exact hge, hcm, fun j y hj => ?_, fun j hj => ⟨?_, World.frozen?_alloc_new w.drew _ _ j⟩⟩, (Below.refl _ _).drew.alloc hlo _⟩
    · have e1 : (w.drew.alloc (.cells (((l ++ l2).map byV).toArray ++ Builtin.zeroCells (Value.int .u8 0).cells (G - (l.length + l2.length))) e)).cell? ⟨w.heap.size, j, none⟩ = _ := World.cell?_alloc_new w.drew _ _ j
      have hjl := (List.getElem?_eq_some_iff.1 hj).1
      rw [e1, Array.getElem?_append_left (by simpa using hjl), List.getElem?_toArray]
      exact hj
    · have e1 : (w.drew.alloc (.cells (((l ++ l2).map byV).toArray ++ Builtin.zeroCells (Value.int .u8 0).cells (G - (l.length + l2.length))) e)).cell? ⟨w.heap.size, j, none⟩ = _ := World.cell?_alloc_new w.drew _ _ j
      rw [e1]
      have hsz : (((l ++ l2).map byV).toArray ++ Builtin.zeroCells (Value.int .u8 0).cells (G - (l.length + l2.length))).size = G := by
        rw [Array.size_append, List.size_toArray, size_zeroCells, List.length_map, List.length_append]
        simp [Value.cells]
        omega
      rw [Array.getElem?_eq_getElem (by rw [hsz]; exact hj)]
      rfl
/-- the step of a walk -/
theorem wpList_appB (w : World) {ops : Array Oper} {rest : List Oper} {o : Oper} {a : Act} {Q : Exit → Act → World → Prop} (hgd : o.guard = none) (s x : Operand) (t tx : TypeId)
    (ho : o.op = .call { callee := .builtin .append, args := #[s, x], argTypes := #[t, tx] }) (e : TypeId) (i : TypeInfo) (ht : P.underlying t = some (.slice e)) (hi : P.info? e = some i) (hz : i.zero = some (.int .u8 0)) (hs1 : i.size = 1) (hb1 : i.bytes = 1)
    {lo : Nat} {v : Value} {l : List UInt8} (hv : a.eval s = v) (h : OwnB w lo v l) (hlo : lo ≤ w.heap.size) (xv : Value) (l2 : List UInt8) (hx : a.eval x = xv) (hs : Src P 1 tx xv l2.length (l2.map byV) w) (hn : l.length + l2.length ≤ 140737488355328)
    (hK : ∀ v' w', OwnB w' lo v' (l ++ l2) → Below lo w w' → wpList P ops Q rest (a.put o.dst v') w') : wpList P ops Q (o :: rest) a w := by
  obtain ⟨v', w', hrun, h1, h2⟩ := own_appB (P := P) w h hlo t tx o.type e i ht hi hz hs1 hb1 xv l2 hs hn
  refine wpList_plain hgd fun K hK' => ?_
  unfold Oper.wp
  simp [execOp, ho, resolve, invoke, builtin, hv, hx, hrun, Result.andThen]
  exact hK' _ _ (hK v' w' h1 h2)
/-- a text's bytes as a row -/
theorem own_conv (w : World) (l : List UInt8) (s : ByteArray) (hs : s = ⟨l.toArray⟩) (e : TypeId) (hl : l.length ≤ maxLen) (z : Nat × Nat) (hz : z.1 = (bytesRow s (grownCap w s.size 0 e)).size) :
    OwnB (w.drew.alloc (.cells (bytesRow s (grownCap w s.size 0 e)) e z)) w.heap.size (.slice (some ⟨w.heap.size, 0, none⟩) s.size (grownCap w s.size 0 e)) l ∧ Below w.heap.size w (w.drew.alloc (.cells (bytesRow s (grownCap w s.size 0 e)) e z)) := by
  have hsz : s.size = l.length := by rw [hs]; simp [ByteArray.size]
  have hge := grownCap_ge w s.size 0 e
  have hcm := grownCap_le_maxLen w s.size 0 e (by omega)
  generalize grownCap w s.size 0 e = G at *
  have hrs : (bytesRow s G).size = G := by
    unfold bytesRow
    rw [Array.size_append, Array.size_map, Array.size_replicate]
    have : s.data.size = s.size := rfl
    omega
  have e1 : ∀ j, (w.drew.alloc (.cells (bytesRow s G) e z)).cell? ⟨w.heap.size, j, none⟩ = (bytesRow s G)[j]? := fun j => World.cell?_alloc_mark w.drew _ _ _ j
  refine ⟨⟨w.heap.size, G, by rw [hsz], Nat.le_refl _, by simp, by omega, hcm, fun j x hj => ?_, fun j hj => ⟨by rw [e1, Array.getElem?_eq_getElem (by omega)]; rfl, ?_⟩⟩, (Below.refl _ _).drew.alloc (Nat.le_refl _) _⟩
  · rw [e1]
    unfold bytesRow
    have hjl := (List.getElem?_eq_some_iff.1 hj).1
    rw [List.length_map] at hjl
    rw [Array.getElem?_append_left (by rw [Array.size_map]; have : s.data.size = s.size := rfl; omega), Array.getElem?_map]
    rw [List.getElem?_map] at hj
    rw [hs]
    simpa [byV] using hj
  · have hf : (w.drew.alloc (.cells (bytesRow s G) e z)).frozen? ⟨w.heap.size, j, none⟩ = (decide (z.1 ≤ j) && decide (j < z.2)) := World.frozen?_alloc_mark w.drew _ _ _ _ j
    rw [hf, decide_eq_false (by omega)]; rfl
end

end Go.Proofs.Ytggdnpaiaijhgaa

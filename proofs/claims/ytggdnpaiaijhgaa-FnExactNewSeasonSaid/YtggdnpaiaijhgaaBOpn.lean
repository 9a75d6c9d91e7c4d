/- Chapter 8: events and lists of texts as arguments of laws. -/
import Derived.Deep.Slices
import Derived.Deep.Strs
import Derived.Test.YtggdnpaiaijhgaaBRec
import Derived.Test.YtggdnpaiaijhgaaLaw
namespace Go.Proofs.Ytggdnpaiaijhgaa
open Go.RowKit
set_option linter.unusedVariables false
set_option linter.unusedSimpArgs false
/-- an event's five cells, its temperatures behind the second one -/
def evC (e : Ev) (x : Value) : List Value := [.int .i64 e.k, x, .int .i64 e.c, .int .i64 e.n, .int .i64 e.p]
def evV (e : Ev) (A : Option Addr) (c : Nat) : Value := .agg #[.int .i64 e.k, .slice A e.ts.length c, .int .i64 e.c, .int .i64 e.n, .int .i64 e.p]
def evsV : List Ev → List Value → List Value
  | e :: es, x :: xs => evC e x ++ evsV es xs
  | _, _ => []
theorem evsV_cons (e : Ev) (es : List Ev) (x : Value) (xs : List Value) : evsV (e :: es) (x :: xs) = .int .i64 e.k :: x :: .int .i64 e.c :: .int .i64 e.n :: .int .i64 e.p :: evsV es xs := rfl
theorem evsV_len : ∀ {es : List Ev} {xs : List Value}, xs.length = es.length → (evsV es xs).length = es.length * 5
  | [], [], _ => rfl
  | [], _ :: _, h => by simp at h
  | _ :: _, [], h => by simp at h
  | e :: es, x :: xs, h => by
    rw [evsV_cons]
    have := evsV_len (es := es) (xs := xs) (by simpa using h)
    simp only [List.length_cons, this]
    omega
theorem evsV_at : ∀ {es : List Ev} {xs : List Value} {k : Nat} {e : Ev} {x : Value}, es[k]? = some e → xs[k]? = some x →
    (evsV es xs)[k * 5]? = some (.int .i64 e.k) ∧ (evsV es xs)[k * 5 + 1]? = some x ∧ (evsV es xs)[k * 5 + 2]? = some (.int .i64 e.c) ∧ (evsV es xs)[k * 5 + 3]? = some (.int .i64 e.n) ∧ (evsV es xs)[k * 5 + 4]? = some (.int .i64 e.p)
  | [], _, k, _, _, h, _ => by simp at h
  | _ :: _, [], k, _, _, _, h => by simp at h
  | e :: es, x :: xs, 0, e', x', h, g => by simp at h g; subst h g; exact ⟨rfl, rfl, rfl, rfl, rfl⟩
  | e :: es, x :: xs, k + 1, e', x', h, g => by
    have := evsV_at (es := es) (xs := xs) (k := k) (by simpa using h) (by simpa using g)
    rw [evsV_cons, show (k + 1) * 5 = k * 5 + 1 + 1 + 1 + 1 + 1 by omega, show k * 5 + 1 + 1 + 1 + 1 + 1 + 1 = (k * 5 + 1) + 1 + 1 + 1 + 1 + 1 by omega, show k * 5 + 1 + 1 + 1 + 1 + 1 + 2 = (k * 5 + 2) + 1 + 1 + 1 + 1 + 1 by omega, show k * 5 + 1 + 1 + 1 + 1 + 1 + 3 = (k * 5 + 3) + 1 + 1 + 1 + 1 + 1 by omega, show k * 5 + 1 + 1 + 1 + 1 + 1 + 4 = (k * 5 + 4) + 1 + 1 + 1 + 1 + 1 by omega]
    simpa only [List.getElem?_cons_succ] using this
theorem evsV_snoc : ∀ {es : List Ev} {xs : List Value} (e : Ev) (x : Value), xs.length = es.length → evsV (es ++ [e]) (xs ++ [x]) = evsV es xs ++ evC e x
  | [], [], _, _, _ => rfl
  | [], _ :: _, _, _, h => by simp at h
  | _ :: _, [], _, _, h => by simp at h
  | e :: es, x :: xs, e', x', h => by
    have := evsV_snoc (es := es) (xs := xs) e' x' (by simpa using h)
    rw [List.cons_append, List.cons_append, evsV_cons, evsV_cons, this]
    rfl
/-- events in a list -/
def RdE (w : World) (B : Nat) (A : Option Addr) (es : List Ev) : Prop :=
  ∃ xs : List Value, xs.length = es.length ∧ Rd w B A (evsV es xs) ∧ ∀ (k : Nat) (e : Ev), es[k]? = some e → ∃ (A' : Option Addr) (c' : Nat), xs[k]? = some (Value.slice A' e.ts.length c') ∧ e.ts.length ≤ c' ∧ c' ≤ maxLen ∧ Rd w B A' (ints e.ts)
section
variable {w w' : World} {B B' : Nat} {A : Option Addr} {es : List Ev}
theorem RdE.nil_ : RdE w B A [] := ⟨[], rfl, Rd.nil_, fun k e h => by simp at h⟩
theorem RdE.below (h : RdE w B A es) (hb : Below B w w') : RdE w' B A es := by
  obtain ⟨xs, h1, h2, h3⟩ := h
  exact ⟨xs, h1, h2.below hb, fun k e he => by obtain ⟨A', c', g1, g2, g3, g4⟩ := h3 k e he; exact ⟨A', c', g1, g2, g3, g4.below hb⟩⟩
theorem RdE.more (h : RdE w B A es) (hB : B ≤ B') : RdE w B' A es := by
  obtain ⟨xs, h1, h2, h3⟩ := h
  exact ⟨xs, h1, h2.more hB, fun k e he => by obtain ⟨A', c', g1, g2, g3, g4⟩ := h3 k e he; exact ⟨A', c', g1, g2, g3, g4.more hB⟩⟩
theorem RdE.ev_ {k : Nat} (h : RdE w B A es) (hk : k < es.length) : ∃ (b off : Nat) (e : Ev) (A' : Option Addr) (c' : Nat), A = some ⟨b, off, none⟩ ∧ b < B ∧ Hid (es[k]? = some e) ∧
    w.cell? ⟨b, off + k * 5, none⟩ = some (.int .i64 e.k) ∧ w.cell? ⟨b, off + (k * 5 + 1), none⟩ = some (.slice A' e.ts.length c') ∧ w.cell? ⟨b, off + (k * 5 + 2), none⟩ = some (.int .i64 e.c) ∧ w.cell? ⟨b, off + (k * 5 + 3), none⟩ = some (.int .i64 e.n) ∧ w.cell? ⟨b, off + (k * 5 + 4), none⟩ = some (.int .i64 e.p) ∧
    e.ts.length ≤ c' ∧ c' ≤ maxLen ∧ Rd w B A' (ints e.ts) := by
  obtain ⟨xs, h1, h2, h3⟩ := h
  have he := List.getElem?_eq_getElem hk
  obtain ⟨A', c', g1, g2, g3, g4⟩ := h3 k _ he
  have hat := evsV_at he g1
  obtain ⟨b, off, hA, hb, q0⟩ := h2.at_ hat.1
  obtain ⟨b1, off1, hA1, _, q1⟩ := h2.at_ hat.2.1
  obtain ⟨b2, off2, hA2, _, q2⟩ := h2.at_ hat.2.2.1
  obtain ⟨b3, off3, hA3, _, q3⟩ := h2.at_ hat.2.2.2.1
  obtain ⟨b4, off4, hA4, _, q4⟩ := h2.at_ hat.2.2.2.2
  subst hA
  simp at hA1 hA2 hA3 hA4
  obtain ⟨rfl, rfl⟩ := hA1
  obtain ⟨rfl, rfl⟩ := hA2
  obtain ⟨rfl, rfl⟩ := hA3
  obtain ⟨rfl, rfl⟩ := hA4
  exact ⟨b, off, _, A', c', rfl, hb, Lib.hid he, q0, q1, q2, q3, q4, g2, g3, g4⟩
end
theorem cellsIntE : Try.prog.cellsOf 3 = 1 := by kernel_rfl
theorem cellsIntsE : Try.prog.cellsOf 37 = 1 := by kernel_rfl
theorem cellsEvE : Try.prog.cellsOf 39 = 5 := by kernel_rfl
namespace Opn
open Go.ChangeShapes Go.WideShapes Go.ChangeAt Go.RowKit
section
variable {H : Type} {enc : TypeId × Value → H} {P : Program}
theorem trod_struct5 {w : World} {base : Nat} {spare : Nat → Bool} {held : Bool} {t : TypeId} {f0 f1 f2 f3 f4 : Field} {fuel : Nat} {cs : List Value} {x : DataW H × List MemPlace} (ht : P.underlying t = some (.struct #[f0, f1, f2, f3, f4])) (h : DataW.trod enc P w base spare held fuel t cs = some x) :
    ∃ y0 y1 y2 y3 y4 n, cs.length = P.cellsOf t ∧ DataW.trod enc P w base spare held n f0.type ((cs.drop f0.offset).take (P.cellsOf f0.type)) = some y0 ∧
      DataW.trod enc P w base spare held n f1.type ((cs.drop f1.offset).take (P.cellsOf f1.type)) = some y1 ∧ DataW.trod enc P w base spare held n f2.type ((cs.drop f2.offset).take (P.cellsOf f2.type)) = some y2 ∧
      DataW.trod enc P w base spare held n f3.type ((cs.drop f3.offset).take (P.cellsOf f3.type)) = some y3 ∧ DataW.trod enc P w base spare held n f4.type ((cs.drop f4.offset).take (P.cellsOf f4.type)) = some y4 := by
  obtain ⟨xs, n, _, rfl, hl, hlen, hf⟩ := DataW.trod_struct ht h
  match xs, hlen with
  | [y0, y1, y2, y3, y4], _ => exact ⟨y0, y1, y2, y3, y4, n, hl, by simpa using hf 0 f0 rfl, by simpa using hf 1 f1 rfl, by simpa using hf 2 f2 rfl, by simpa using hf 3 f3 rfl, by simpa using hf 4 f4 rfl⟩
/-- a list of numbers, read in its one cell -/
theorem trod_ints_ {W : World} {t e : TypeId} {k : IntKind} {fuel base : Nat} {cs : List Value} {x : DataW H × List MemPlace} (ht : P.underlying t = some (.slice e)) (he : P.underlying e = some (.int k)) (hc : P.cellsOf e = 1) (h : DataW.trod enc P W base (fun _ => true) true fuel t cs = some x) :
    ∃ (A : Option Addr) (c : Nat) (zs : List Int), cs = [.slice A zs.length c] ∧ Rd W W.heap.size A (zs.map (Value.int k)) ∧ (zs.length ≤ c ∧ c ≤ maxLen) := by
  rcases open_ints ht he hc h with ⟨hcs, _⟩ | ⟨a, len, cap, zs, hcs, _, hl, hm, hz, _, hcell, hwz⟩
  · exact ⟨none, 0, [], by rw [hcs]; rfl, Rd.nil_, ⟨Nat.zero_le _, Nat.zero_le _⟩⟩
  · simp only [if_true] at hz
    have hlen : (zs.take len).length = len := by rw [List.length_take]; omega
    refine ⟨some a, cap, zs.take len, by rw [hlen, hcs], fun hn => ?_, ⟨by omega, by omega⟩⟩
    have hpos : 0 < len := by
      rcases Nat.eq_zero_or_pos len with h0 | h0
      · subst h0; simp at hn
      · exact h0
    obtain ⟨ab, ao, spot⟩ := a
    have hspot : spot = none := by simpa [Addr.add] using World.cell?_spot (hcell 0 (by omega))
    subst hspot
    refine ⟨ab, ao, rfl, cell_block (a := ⟨ab, ao, none⟩) (by simpa [Addr.add] using hcell 0 (by omega)), fun j x hx => ?_⟩
    have hj : j < len := by
      rcases Nat.lt_or_ge j len with h0 | h0
      · exact h0
      · rw [List.getElem?_eq_none (by simp; omega)] at hx; cases hx
    have hcj := hcell j (by omega)
    rw [Addr.add_lit] at hcj
    rw [hcj]
    rw [List.getElem?_map, List.getElem?_take_of_lt hj, List.getElem?_eq_getElem (by omega)] at hx
    simpa [List.getD_eq_getElem?_getD, show j < zs.length by omega] using hx
end
set_option maxRecDepth 100000 in
set_option maxHeartbeats 400000 in
/-- one event, read at its five cells -/
theorem ev_cells {H : Type} {enc : TypeId × Value → H} {W : World} {base n : Nat} {vs : List Value} {x : DataW H × List MemPlace} (h : DataW.trod enc Try.prog W base (fun _ => true) true n 39 vs = some x) :
    ∃ (e : Ev) (A : Option Addr) (c : Nat), vs = evC e (.slice A e.ts.length c) ∧ Rd W W.heap.size A (ints e.ts) ∧ (e.ts.length ≤ c ∧ c ≤ maxLen) := by
  obtain ⟨y0, y1, y2, y3, y4, m, hlen, g0, g1, g2, g3, g4⟩ := trod_struct5 Try.underlying39 h
  rw [cellsEvE] at hlen
  match vs, hlen with
  | [v0, v1, v2, v3, v4], _ =>
    simp [cellsIntE, cellsIntsE] at g0 g1 g2 g3 g4
    obtain ⟨p0, hp0, _, _⟩ := DataW.trod_int Try.underlying3 g0
    obtain ⟨A, c, zs, hp1, hr, hc⟩ := trod_ints_ Try.underlying37 Try.underlying3 cellsIntE g1
    obtain ⟨p2, hp2, _, _⟩ := DataW.trod_int Try.underlying3 g2
    obtain ⟨p3, hp3, _, _⟩ := DataW.trod_int Try.underlying3 g3
    obtain ⟨p4, hp4, _, _⟩ := DataW.trod_int Try.underlying3 g4
    simp only [List.cons.injEq, and_true] at hp0 hp1 hp2 hp3 hp4
    subst hp0 hp1 hp2 hp3 hp4
    exact ⟨⟨p0, zs, p2, p3, p4⟩, A, c, rfl, hr, hc⟩
set_option maxRecDepth 100000 in
set_option maxHeartbeats 400000 in
/-- An argument that is an event. -/
theorem open_ev {H : Type} {enc : TypeId × Value → H} {W : World} {base : Nat} {v : Value} {d : DataW H} {p : List MemPlace}
    (hval : Value.okWide Try.prog W .any base 39 v) (h : DataW.Trod enc Try.prog W 0 (fun _ => true) true 39 v d p) :
    ∃ (e : Ev) (A : Option Addr) (c : Nat), v = evV e A c ∧ Rd W W.heap.size A (ints e.ts) ∧ (e.ts.length ≤ c ∧ c ≤ maxLen) := by
  obtain ⟨cs, rfl, hsz⟩ := okWide_struct Try.underlying39 hval
  obtain ⟨fuel, hf⟩ := h
  obtain ⟨e, A, c, h1, h2, h3⟩ := ev_cells hf
  refine ⟨e, A, c, ?_, h2, h3⟩
  have h4 : cs.toList = evC e (.slice A e.ts.length c) := by simpa [Value.cells] using h1
  rw [show cs = cs.toList.toArray by simp, h4]
  rfl
set_option maxRecDepth 100000 in
set_option maxHeartbeats 400000 in
/-- An argument that is a text. -/
theorem open_str {H : Type} {enc : TypeId × Value → H} {W : World} {base : Nat} {v : Value} {d : DataW H} {p : List MemPlace}
    (hval : Value.okWide Try.prog W .any base 9 v) (h : DataW.Trod enc Try.prog W 0 (fun _ => true) true 9 v d p) : ∃ l : List UInt8, v = str l ∧ l.length ≤ maxLen := by
  obtain ⟨s, rfl⟩ := okWide_string Try.underlying9 hval
  obtain ⟨fuel, hf⟩ := h
  obtain ⟨s', hs, _, hle⟩ := DataW.trod_string Try.underlying9 hf
  simp [Value.cells] at hs
  subst hs
  exact ⟨s.data.toList, rfl, by rw [Array.length_toList]; exact hle⟩
end Opn

end Go.Proofs.Ytggdnpaiaijhgaa

/- The generators of chapter 2 by contracts: what is drawn is a list of lists of integers in memory of its own; what was there stays, but for the reader. -/
import Derived.Deep.RegionWith
import Derived.Test.YtggdnpaiaijhgaaReader
import Derived.Test.YtggdnpaiaijhgaaSafe
import Derived.Test.YtggdnpaiaijhgaaLists
namespace Go.Proofs.Ytggdnpaiaijhgaa
open Go.RowKit
set_option linter.unusedVariables false
set_option linter.unusedSimpArgs false
/-- lists in a list, each in a block of its own -/
structure PG (w : World) (base : Nat) (v : Value) (m : Nat) (xs : List Value) (pp : List (List Int)) : Prop where
  out : w.ownsRow base 37 1 v m xs
  len : pp.length = m
  row : ∀ (k : Nat) (r : List Int), pp[k]? = some r → ∃ (A' : Option Addr) (c' : Nat), xs[k]? = some (Value.slice A' r.length c') ∧ w.ownsRow base 3 1 (.slice A' r.length c') r.length (ints r)
  sep : ∀ (i j : Nat) (u v : Value) (b : Nat), xs[i]? = some u → xs[j]? = some v → u.ownBlock = some b → v.ownBlock = some b → i = j
  hi_ : ∀ (i : Nat) (u : Value) (b : Nat), xs[i]? = some u → u.ownBlock = some b → b < w.heap.size
theorem types_ne : (3 : Nat) ≠ 37 := by decide
section
variable {w w' : World} {base : Nat} {v : Value} {m : Nat} {xs : List Value} {pp : List (List Int)}
/-- blocks of two types are two blocks -/
theorem own_types {b b' : Nat} {T U : TypeId} {u u' : Value} {n n' : Nat} {ys zs : List Value} (h : w.ownsRow b T 1 u n ys) (h' : w.ownsRow b' U 1 u' n' zs) (hT : T ≠ U) : ∀ q, u.ownBlock = some q → u'.ownBlock ≠ some q := by
  intro q e e'
  rcases h.2 with ⟨rfl, _⟩ | ⟨g1, _, cur, rfl, _, h3, _⟩
  · cases e
  · rcases h'.2 with ⟨rfl, _⟩ | ⟨g2, _, cur', rfl, _, h3', _⟩
    · cases e'
    · simp [Value.ownBlock] at e e'
      subst e e'
      rw [h3] at h3'
      simp at h3'
      exact hT h3'.2
theorem PG.only {g : Nat} (h : PG w base v m xs pp) (hg : w.grownBy w' (some g)) (hlt : g < base) : PG w' base v m xs pp :=
  ⟨own_only h.out hg hlt, h.len, fun k r hr => by obtain ⟨A', c', h1, h2⟩ := h.row k r hr; exact ⟨A', c', h1, own_only h2 hg hlt⟩, h.sep, fun i u b hu hb => by have := h.hi_ i u b hu hb; have := hg.size; omega⟩
theorem PG.below (h : PG w base v m xs pp) (hb : Below w.heap.size w w') : PG w' base v m xs pp :=
  ⟨own_below h.out hb, h.len, fun k r hr => by obtain ⟨A', c', h1, h2⟩ := h.row k r hr; exact ⟨A', c', h1, own_below h2 hb⟩, h.sep, fun i u b hu hb2 => by have := h.hi_ i u b hu hb2; have := hb.size; omega⟩
theorem PG.rd {A : Option Addr} {c : Nat} (h : PG w base (.slice A m c) m xs pp) : RdG w w.heap.size A pp :=
  ⟨xs, by have := h.out.1; have := h.len; omega, Rd.own h.out, fun k r hr => by
    obtain ⟨A', c', h1, h2⟩ := h.row k r hr
    have hcap : r.length ≤ c' ∧ c' ≤ maxLen := by
      rcases h2.2 with ⟨h0, hz⟩ | ⟨g, cap, cur, hv, _, _, hnc, hcm, _⟩
      · injection h0 with _ q1 q2; omega
      · injection hv with _ _ q2; subst q2; exact ⟨hnc, hcm⟩
    exact ⟨A', c', h1, hcap.1, hcap.2, Rd.own h2⟩⟩
/-- another block changes or the list of another type grows -/
theorem PG.grow {U : TypeId} {u : Value} {n : Nat} {ys : List Value} {b : Nat} (h : PG w base v m xs pp) (hr : w.grownBy w' u.ownBlock) (ho : w.ownsRow b U 1 u n ys) (hv : ∀ q, u.ownBlock = some q → v.ownBlock ≠ some q) (hx : ∀ (i : Nat) (x : Value) (q : Nat), xs[i]? = some x → u.ownBlock = some q → x.ownBlock ≠ some q) : PG w' base v m xs pp :=
  ⟨own_grown h.out hr hv, h.len, fun k r hr' => by obtain ⟨A', c', h1, h2⟩ := h.row k r hr'; exact ⟨A', c', h1, own_grown h2 hr (fun q hq => hx k _ q h1 hq)⟩, h.sep, fun i x q hx' hb => by have := h.hi_ i x q hx' hb; have := hr.size; omega⟩
/-- a row more: v' is v with the row behind it -/
theorem PG.push {v' : Value} {A' : Option Addr} {c' : Nat} {r : List Int} {lo : Nat} (h : PG w base v m xs pp) (hrow : w.ownsRow lo 3 1 (.slice A' r.length c') r.length (ints r)) (hlo : base ≤ lo) (hnew : ∀ (i : Nat) (u : Value) (b : Nat), xs[i]? = some u → u.ownBlock = some b → b < lo)
    (hw : w.grownBy w' v.ownBlock) (ho : w'.ownsRow base 37 1 v' (m + 1) (xs ++ [.slice A' r.length c'])) : PG w' base v' (m + 1) (xs ++ [.slice A' r.length c']) (pp ++ [r]) := by
  have hxl : xs.length = m := by have := h.out.1; omega
  have hbl := own_block hrow
  have hlt := own_lt hrow
  refine ⟨ho, by rw [List.length_append, h.len]; rfl, ?_, ?_, ?_⟩
  · intro k r' hr'
    rcases Nat.lt_or_ge k m with hk | hk
    · rw [List.getElem?_append_left (by rw [h.len]; exact hk)] at hr'
      obtain ⟨A2, c2, h1, h2⟩ := h.row k r' hr'
      exact ⟨A2, c2, by rw [List.getElem?_append_left (by omega)]; exact h1, own_grown h2 hw (fun q hq => own_types h.out h2 types_ne.symm q hq)⟩
    · have hk2 : k < m + 1 := by have := (List.getElem?_eq_some_iff.1 hr').1; rw [List.length_append, h.len] at this; exact this
      obtain rfl : k = m := by omega
      rw [List.getElem?_append_right (by rw [h.len]; exact Nat.le_refl _), h.len] at hr'
      simp at hr'
      subst hr'
      refine ⟨A', c', by rw [List.getElem?_append_right (by omega), hxl]; simp, own_base (own_grown hrow hw (fun q hq => own_types h.out hrow types_ne.symm q hq)) hlo⟩
  · intro i j u y b hu hy hbu hby
    have gi : (i < m ∧ xs[i]? = some u) ∨ (i = m ∧ u = .slice A' r.length c') := by
      rcases Nat.lt_or_ge i m with hk | hk
      · rw [List.getElem?_append_left (by omega)] at hu; exact .inl ⟨hk, hu⟩
      · have := (List.getElem?_eq_some_iff.1 hu).1
        rw [List.length_append, hxl] at this
        obtain rfl : i = m := by simp at this; omega
        rw [List.getElem?_append_right (by omega), hxl] at hu
        simp at hu
        exact .inr ⟨rfl, hu.symm⟩
    have gj : (j < m ∧ xs[j]? = some y) ∨ (j = m ∧ y = .slice A' r.length c') := by
      rcases Nat.lt_or_ge j m with hk | hk
      · rw [List.getElem?_append_left (by omega)] at hy; exact .inl ⟨hk, hy⟩
      · have := (List.getElem?_eq_some_iff.1 hy).1
        rw [List.length_append, hxl] at this
        obtain rfl : j = m := by simp at this; omega
        rw [List.getElem?_append_right (by omega), hxl] at hy
        simp at hy
        exact .inr ⟨rfl, hy.symm⟩
    rcases gi with ⟨g1, g2⟩ | ⟨g1, g2⟩ <;> rcases gj with ⟨k1, k2⟩ | ⟨k1, k2⟩
    · exact h.sep i j u y b g2 k2 hbu hby
    · subst k2
      have := hnew i u b g2 hbu
      have := hbl b hby
      omega
    · subst g2
      have := hnew j y b k2 hby
      have := hbl b hbu
      omega
    · omega
  · intro i u b hu hbu
    rcases Nat.lt_or_ge i m with hk | hk
    · rw [List.getElem?_append_left (by omega)] at hu
      have := h.hi_ i u b hu hbu
      have := hw.size
      omega
    · have hh := (List.getElem?_eq_some_iff.1 hu).1
      rw [List.length_append, hxl] at hh
      obtain rfl : i = m := by simp at hh; omega
      rw [List.getElem?_append_right (by omega), hxl] at hu
      simp at hu
      subst hu
      have := hlt b hbu
      have := hw.size
      omega
/-- the first number of the first row is changed -/
theorem PG.put {c' b : Nat} {r : List Int} {rs : List (List Int)} (h : PG w base v m xs (r :: rs)) (hx : xs[0]? = some (.slice (some ⟨b, 0, none⟩) r.length c')) (y : Int) :
    PG (w.setCell ⟨b, 0, none⟩ (.int .i64 y)) base v m xs (r.set 0 y :: rs) := by
  obtain ⟨A2, c2, h1, h2⟩ := h.row 0 r rfl
  rw [hx] at h1
  injection h1 with h1
  injection h1 with e1 e2 e3
  subst e1 e3
  have hs : (w.setCell ⟨b, 0, none⟩ (.int .i64 y)).heap.size = w.heap.size := by simp [World.setCell]
  refine ⟨own_other h.out (fun e => own_types h2 h.out types_ne b rfl e) _, by simpa using h.len, ?_, h.sep, fun i u q hu hq => by rw [hs]; exact h.hi_ i u q hu hq⟩
  intro k r' hr'
  cases k with
  | zero =>
    simp at hr'
    subst hr'
    refine ⟨_, c', by rw [List.length_set]; exact hx, ?_⟩
    rw [List.length_set, ← ints_set]
    exact own_put h2 0 _
  | succ k =>
    obtain ⟨A3, c3, h3, h4⟩ := h.row (k + 1) r' (by simpa using hr')
    refine ⟨A3, c3, h3, own_other h4 (fun e => ?_) _⟩
    have := h.sep 0 (k + 1) _ _ b hx h3 rfl e
    omega
end
end Go.Proofs.Ytggdnpaiaijhgaa

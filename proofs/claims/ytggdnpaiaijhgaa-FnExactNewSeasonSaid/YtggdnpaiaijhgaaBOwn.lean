/- Chapter 8: lists that a call made, between two block numbers; what a marking of one of them leaves alone. -/
import Derived.Test.YtggdnpaiaijhgaaInts
import Derived.Test.YtggdnpaiaijhgaaCWords
import Derived.Test.YtggdnpaiaijhgaaBOpn
namespace Go.Proofs.Ytggdnpaiaijhgaa
open Go.RowKit
set_option linter.unusedVariables false
set_option linter.unusedSimpArgs false
/-- only blocks from lo up to hi, and new ones, differ -/
structure Upd (lo hi : Nat) (w w' : World) : Prop where
  size : w.heap.size ≤ w'.heap.size
  os : w'.os = w.os
  tape : w'.tape = w.tape
  out : w'.output = w.output
  block : ∀ q, q < w.heap.size → (q < lo ∨ hi ≤ q) → w'.heap[q]? = w.heap[q]?
section
variable {w w' a b : World} {lo hi B : Nat}
theorem Upd.refl (lo hi : Nat) (w : World) : Upd lo hi w w := ⟨Nat.le_refl _, rfl, rfl, rfl, fun _ _ _ => rfl⟩
theorem Upd.trans (h : Upd lo hi a b) (g : Upd lo hi b w) : Upd lo hi a w :=
  ⟨Nat.le_trans h.size g.size, g.os.trans h.os, g.tape.trans h.tape, g.out.trans h.out, fun q hq hl => (g.block q (by have := h.size; omega) hl).trans (h.block q hq hl)⟩
theorem Upd.below (u : Upd lo hi w w') (h : Below B a w) (hB : B ≤ lo) (hs : B ≤ a.heap.size) : Below B a w' :=
  ⟨u.os.trans h.os, u.tape.trans h.tape, u.out.trans h.output, Nat.le_trans h.size u.size, fun q hq => (u.block q (by have := h.size; omega) (.inl (by omega))).trans (h.block q hq)⟩
theorem Upd.grown {r : Option Nat} (h : w.grownBy w' r) (hr : ∀ k, r = some k → lo ≤ k ∧ k < hi) : Upd lo hi w w' :=
  ⟨h.size, h.os, h.tape, h.output, fun q hq hl => h.block q hq (fun e => by have := hr q e.symm; omega)⟩
theorem Upd.cell {g j : Nat} (u : Value) (h1 : lo ≤ g) (h2 : g < hi) : Upd lo hi w (w.setCell ⟨g, j, none⟩ u) :=
  ⟨by simp [World.setCell], rfl, rfl, rfl, fun q hq hl => Below.heap_setCell _ _ _ _ (show q ≠ g by omega)⟩
end
theorem below3 {w : World} (o1 o2 o3 : Obj) : Below w.heap.size w (((w.alloc o1).alloc o2).alloc o3) :=
  (((Below.refl _ _).alloc (Nat.le_refl _) o1).alloc (by simp) o2).alloc (by simp; omega) o3
theorem below2 {w : World} (o1 o2 : Obj) : Below w.heap.size w ((w.alloc o1).alloc o2) :=
  ((Below.refl _ _).alloc (Nat.le_refl _) o1).alloc (by simp) o2
theorem below1 {w : World} (o1 : Obj) : Below w.heap.size w (w.alloc o1) := (Below.refl _ _).alloc (Nat.le_refl _) o1
/-- a list of numbers that a call made -/
structure OwnI (w : World) (lo hi : Nat) (A : Option Addr) (n c : Nat) (zs : List Int) : Prop where
  row : w.ownsRow lo 3 1 (.slice A n c) n (ints zs)
  hi_ : ∀ b, (Value.slice A n c).ownBlock = some b → b < hi
section
variable {w w' : World} {lo hi n c : Nat} {A : Option Addr} {zs : List Int}
theorem row_far {T : TypeId} {z : Nat} {v : Value} {m : Nat} {ys : List Value} (ho : w.ownsRow lo T z v m ys) (hb : ∀ b, v.ownBlock = some b → b < hi) (hk : ∀ k, lo ≤ k → k < hi → w'.heap[k]? = w.heap[k]?) : w'.ownsRow lo T z v m ys := by
  refine ⟨ho.1, ?_⟩
  rcases ho.2 with h0 | ⟨g', cap, cur, h1, h2, h3, h4⟩
  · exact .inl h0
  · exact .inr ⟨g', cap, cur, h1, h2, by rw [hk g' h2 (hb g' (by rw [h1]; rfl))]; exact h3, h4⟩
theorem OwnI.far (h : OwnI w lo hi A n c zs) (hk : ∀ k, lo ≤ k → k < hi → w'.heap[k]? = w.heap[k]?) : OwnI w' lo hi A n c zs := ⟨row_far h.row h.hi_ hk, h.hi_⟩
theorem OwnI.mk_ (h : w.ownsRow lo 3 1 (.slice A n c) n (ints zs)) : OwnI w lo w.heap.size A n c zs := ⟨h, own_lt h⟩
theorem OwnI.rd (h : OwnI w lo hi A n c zs) : Rd w w.heap.size A (ints zs) := Rd.own h.row
end
set_option maxRecDepth 100000 in
set_option maxHeartbeats 400000 in
theorem markI_any (n : Nat) (zs : List Int) (A : Option Addr) (c : Nat) (w : World) (lo hi : Nat) (h : OwnI w lo hi A n c zs) (k : Int) (h0 : 0 ≤ k) (h1 : k ≤ 100000000) (hn : n ≤ 1048576) :
    Calls Try.prog 43 #[.slice A n c, .int .i64 k] w fun e w' => e = .returned (.int .i64 (k + n)) ∧ OwnI w' lo hi A n c (marks k n) ∧ Upd lo hi w w' :=
  (markIntS_any n _ A c w lo h.row k h0 h1 hn).mono fun e w' ⟨he, ho, hg⟩ => ⟨he, ⟨ho, h.hi_⟩, Upd.grown hg (fun q hq => ⟨own_block h.row q hq, h.hi_ q hq⟩)⟩
/-- a list of events that a call made, each with a list of numbers of its own -/
structure OwnE (w : World) (lo hi : Nat) (A : Option Addr) (n c : Nat) (xs : List Value) (es : List Ev) : Prop where
  out : w.ownsRow lo 43 5 (.slice A n c) n (evsV es xs)
  len : es.length = n
  xl : xs.length = n
  row : ∀ (k : Nat) (e : Ev), es[k]? = some e → ∃ (A' : Option Addr) (c' : Nat), xs[k]? = some (Value.slice A' e.ts.length c') ∧ w.ownsRow lo 3 1 (.slice A' e.ts.length c') e.ts.length (ints e.ts)
  sep : ∀ (i j : Nat) (u v : Value) (b : Nat), xs[i]? = some u → xs[j]? = some v → u.ownBlock = some b → v.ownBlock = some b → i = j
  top : ∀ (i : Nat) (u : Value) (b : Nat), xs[i]? = some u → u.ownBlock = some b → (Value.slice A n c).ownBlock ≠ some b
  hi_ : ∀ (i : Nat) (u : Value) (b : Nat), xs[i]? = some u → u.ownBlock = some b → b < hi
  hio : ∀ b : Nat, (Value.slice A n c).ownBlock = some b → b < hi
section
variable {w w' : World} {lo hi n c : Nat} {A : Option Addr} {xs : List Value} {es : List Ev}
theorem OwnE.far (h : OwnE w lo hi A n c xs es) (hk : ∀ k, lo ≤ k → k < hi → w'.heap[k]? = w.heap[k]?) : OwnE w' lo hi A n c xs es :=
  ⟨row_far h.out h.hio hk, h.len, h.xl, fun k r hr => by obtain ⟨A', c', h1, h2⟩ := h.row k r hr; exact ⟨A', c', h1, row_far h2 (fun b hb => h.hi_ k _ b h1 hb) hk⟩, h.sep, h.top, h.hi_, h.hio⟩
theorem OwnE.rd (h : OwnE w lo hi A n c xs es) : RdE w w.heap.size A es :=
  ⟨xs, by have := h.len; have := h.xl; omega, Rd.ownz h.out, fun k e he => by
    obtain ⟨A', c', h1, h2⟩ := h.row k e he
    have hcap : e.ts.length ≤ c' ∧ c' ≤ maxLen := by
      rcases h2.2 with ⟨h0, hz⟩ | ⟨g, cap, cur, hv, _, _, hnc, hcm, _⟩
      · injection h0 with _ q1 q2; omega
      · injection hv with _ _ q2; subst q2; exact ⟨hnc, hcm⟩
    exact ⟨A', c', h1, hcap.1, hcap.2, Rd.own h2⟩⟩
end

end Go.Proofs.Ytggdnpaiaijhgaa

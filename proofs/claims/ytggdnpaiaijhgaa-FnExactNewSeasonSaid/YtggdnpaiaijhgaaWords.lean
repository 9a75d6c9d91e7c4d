/- Words for memory: a slice value whose cells are a list of values, below a block; what keeps it; the lists that a call made itself. -/
import Derived.Test.YtggdnpaiaijhgaaPure
import Derived.Laws.OwnMore
import Derived.Deep.Draws
import Derived.ChangeSlices
import Derived.Deep.OwnRows
namespace Go.Proofs.Ytggdnpaiaijhgaa
open Go.RowKit
set_option linter.unusedVariables false
set_option linter.unusedSimpArgs false

theorem info_int : (Try.prog.info? 3).map (fun i => (i.zero, i.size, i.bytes)) = some (some (.int .i64 0), 1, 8) := by kernel_rfl

/-- Behind the address A (none for a nil slice) lie the values, in a block below B. -/
def Rd (w : World) (B : Nat) (A : Option Addr) (xs : List Value) : Prop :=
  xs ≠ [] → ∃ b off, A = some ⟨b, off, none⟩ ∧ b < B ∧ ∀ (k : Nat) (x : Value), xs[k]? = some x → w.cell? ⟨b, off + k, none⟩ = some x

def ints (zs : List Int) : List Value := zs.map (Value.int .i64)
theorem ints_length (zs : List Int) : (ints zs).length = zs.length := List.length_map ..
theorem ints_at {zs : List Int} {k : Nat} (h : k < zs.length) : (ints zs)[k]? = some (.int .i64 (zs.getD k 0)) := by
  simp [ints, h, List.getD_eq_getElem?_getD]

theorem take_snoc {α : Type} {zs : List α} {k : Nat} {z : α} (h : zs[k]? = some z) : zs.take (k + 1) = zs.take k ++ [z] := by
  rw [List.take_add_one, h]; rfl

section
variable {w w' : World} {B B' : Nat} {A : Option Addr} {xs : List Value}
theorem Rd.nil_ : Rd w B A [] := fun h => absurd rfl h
theorem Rd.at_ {k : Nat} {x : Value} (h : Rd w B A xs) (hx : xs[k]? = some x) : ∃ b off, A = some ⟨b, off, none⟩ ∧ b < B ∧ w.cell? ⟨b, off + k, none⟩ = some x := by
  obtain ⟨b, off, e, hb, hc⟩ := h (by rintro rfl; simp at hx)
  exact ⟨b, off, e, hb, hc k x hx⟩
theorem Rd.int_ {zs : List Int} {k : Nat} (h : Rd w B A (ints zs)) (hk : k < zs.length) : ∃ b off z, A = some ⟨b, off, none⟩ ∧ b < B ∧ Hid (zs[k]? = some z) ∧ w.cell? ⟨b, off + k, none⟩ = some (.int .i64 z) := by
  obtain ⟨b, off, e, hb, hc⟩ := h.at_ (ints_at hk)
  exact ⟨b, off, _, e, hb, Lib.hid (by simp [hk, List.getD_eq_getElem?_getD]), hc⟩
theorem Rd.keep (h : Rd w B A xs) (hk : ∀ p : Addr, p.block < B → w'.cell? p = w.cell? p) : Rd w' B A xs := fun hn => by
  obtain ⟨b, off, e, hb, hc⟩ := h hn
  exact ⟨b, off, e, hb, fun k x hx => (hk _ hb).trans (hc k x hx)⟩
theorem Rd.more (h : Rd w B A xs) (hB : B ≤ B') : Rd w B' A xs := fun hn => by
  obtain ⟨b, off, e, hb, hc⟩ := h hn
  exact ⟨b, off, e, by omega, hc⟩
theorem Rd.below (h : Rd w B A xs) (hb : Below B w w') : Rd w' B A xs := h.keep fun _ hp => hb.cell hp
theorem Rd.drewN (h : Rd w B A xs) (k : Nat) : Rd (w.drewN k) B A xs := h
theorem Rd.alloc (h : Rd w B A xs) (hB : B ≤ w.heap.size) (o : Obj) : Rd (w.alloc o) B A xs := h.keep fun p hp => World.cell?_alloc_lt w o p (by omega)
theorem Rd.take (h : Rd w B A xs) (n : Nat) : Rd w B A (xs.take n) := fun hn => by
  obtain ⟨b, off, e, hb, hc⟩ := h (by rintro rfl; simp at hn)
  refine ⟨b, off, e, hb, fun k x hx => hc k x ?_⟩
  rw [List.getElem?_take] at hx
  split at hx
  · exact hx
  · cases hx
/-- What a call made itself can be read. -/
theorem Rd.own {base : Nat} {e : TypeId} {n c : Nat} (h : w.ownsRow base e 1 (.slice A n c) n xs) : Rd w w.heap.size A xs := fun hn => by
  rcases h.2 with ⟨_, h0⟩ | ⟨g, cap, cur, hv, _, hh, _, _, hs, ht⟩
  · have := h.1
    simp [h0] at this
    exact absurd this hn
  · have hA : A = some ⟨g, 0, none⟩ := by injection hv
    refine ⟨g, 0, hA, ?_, fun k x hx => ?_⟩
    · rcases Nat.lt_or_ge g w.heap.size with hlt | hge
      · exact hlt
      · rw [Array.getElem?_eq_none hge] at hh; cases hh
    · rw [← ht, List.getElem?_take] at hx
      split at hx
      · simp only [World.cell?, hh, Nat.zero_add]
        simpa using hx
      · cases hx
theorem own_of_row {base g n : Nat} {T : TypeId} {f : Nat → Value} (h : w.rowIs g T n f) (hl : xs.length = n) (hx : ∀ i, i < n → xs[i]? = some (f i)) (hb : base ≤ g) (hn : n ≤ maxLen) :
    w.ownsRow base T 1 (.slice (some ⟨g, 0, none⟩) n n) n xs := by
  obtain ⟨c, hh, hs, hc⟩ := h
  refine ⟨by omega, Or.inr ⟨g, n, c, rfl, hb, hh, Nat.le_refl _, hn, by omega, ?_⟩⟩
  apply List.ext_getElem?
  intro i
  rw [List.getElem?_take]
  split
  · next hi =>
    rw [Array.getElem?_toList, hc i (by omega), hx i (by omega)]
  · next hi => rw [List.getElem?_eq_none (by omega)]
theorem below_drewN {B : Nat} {a w : World} (h : Below B a w) (n : Nat) : Below B a (w.drewN n) := ⟨h.os, h.tape, h.output, h.size, h.block⟩
theorem own_form {base n : Nat} {T : TypeId} {v : Value} (h : w.ownsRow base T 1 v n xs) : ∃ A c, v = .slice A n c := by
  rcases h.2 with ⟨rfl, rfl⟩ | ⟨g, cap, cur, rfl, _⟩
  · exact ⟨_, _, rfl⟩
  · exact ⟨_, _, rfl⟩
theorem own_block {base n : Nat} {T : TypeId} {v : Value} (h : w.ownsRow base T 1 v n xs) : ∀ k, v.ownBlock = some k → base ≤ k := by
  intro k hk
  rcases h.2 with ⟨rfl, rfl⟩ | ⟨g, cap, cur, rfl, hg, _⟩
  · cases hk
  · simp [Value.ownBlock] at hk; omega
/-- A list that a call made, cell by cell. -/
theorem own_row {base n c : Nat} {T : TypeId} (h : w.ownsRow base T 1 (.slice A n c) n xs) (hn : 0 < n) :
    ∃ g f, A = some ⟨g, 0, none⟩ ∧ base ≤ g ∧ g < w.heap.size ∧ w.rowIs g T c f ∧ n ≤ c ∧ c ≤ maxLen := by
  rcases h.2 with ⟨_, h0⟩ | ⟨g, cap, cur, hv, hg, hh, hnc, hcm, hs, ht⟩
  · omega
  · have hA : A = some ⟨g, 0, none⟩ := by injection hv
    have hc : c = cap := by injection hv
    subst hc
    have hrow : w.rowIs g T c (fun i => cur.getD i undef) := ⟨cur, hh, by omega, fun i hi => by simp [Array.getD, show i < cur.size by omega]⟩
    exact ⟨g, _, hA, hg, hrow.lt, hrow, hnc, hcm⟩
theorem own_of_row' {base g n c : Nat} {T : TypeId} {f : Nat → Value} (h : w.rowIs g T c f) (hl : xs.length = n) (hx : ∀ i, i < n → xs[i]? = some (f i)) (hb : base ≤ g) (hnc : n ≤ c) (hn : c ≤ maxLen) :
    w.ownsRow base T 1 (.slice (some ⟨g, 0, none⟩) n c) n xs := by
  obtain ⟨cc, hh, hs, hc⟩ := h
  refine ⟨by omega, Or.inr ⟨g, c, cc, rfl, hb, hh, hnc, hn, by omega, ?_⟩⟩
  apply List.ext_getElem?
  intro i
  rw [List.getElem?_take]
  split
  · next hi =>
    rw [Array.getElem?_toList, hc i (by omega), hx i (by omega)]
  · next hi => rw [List.getElem?_eq_none (by omega)]
/-- A list that a call made stands where only a lower block has changed. -/
theorem own_far {base g n : Nat} {T : TypeId} {v : Value} (h : w.ownsRow base T 1 v n xs) (hg : ∀ k, base ≤ k → k < w.heap.size → w'.heap[k]? = w.heap[k]?) : w'.ownsRow base T 1 v n xs := by
  refine ⟨h.1, ?_⟩
  rcases h.2 with h0 | ⟨g', cap, cur, h1, h2, h3, h4⟩
  · exact .inl h0
  · refine .inr ⟨g', cap, cur, h1, h2, ?_, h4⟩
    rw [hg g' h2 ?_]
    · exact h3
    · rcases Nat.lt_or_ge g' w.heap.size with hlt | hge
      · exact hlt
      · rw [Array.getElem?_eq_none hge] at h3; cases h3
theorem own_below {base n : Nat} {T : TypeId} {v : Value} (h : w.ownsRow base T 1 v n xs) (hb : Below w.heap.size w w') : w'.ownsRow base T 1 v n xs :=
  own_far (g := 0) h fun k _ hk => hb.block k hk
theorem own_drewN {base n : Nat} {T : TypeId} {v : Value} (h : w.ownsRow base T 1 v n xs) (k : Nat) : (w.drewN k).ownsRow base T 1 v n xs := h
theorem own_lt {base n : Nat} {T : TypeId} {v : Value} (h : w.ownsRow base T 1 v n xs) : ∀ k, v.ownBlock = some k → k < w.heap.size := by
  intro k hk
  rcases h.2 with ⟨rfl, rfl⟩ | ⟨g, cap, cur, rfl, hg, hh, _⟩
  · cases hk
  · simp [Value.ownBlock] at hk
    subst hk
    rcases Nat.lt_or_ge g w.heap.size with hlt | hge
    · exact hlt
    · rw [Array.getElem?_eq_none hge] at hh; cases hh
/-- An empty list that a call made. -/
theorem own_empty (w : World) (T : TypeId) : (w.alloc (.cells #[] T)).ownsRow w.heap.size T 1 (.slice (some ⟨w.heap.size, 0, none⟩) 0 0) 0 [] :=
  ⟨rfl, .inr ⟨w.heap.size, 0, #[], rfl, Nat.le_refl _, heap_alloc_new w _, Nat.le_refl _, Nat.zero_le _, rfl, rfl⟩⟩
theorem own_base {base base' n : Nat} {T : TypeId} {v : Value} (h : w.ownsRow base T 1 v n xs) (hb : base' ≤ base) : w.ownsRow base' T 1 v n xs := by
  refine ⟨h.1, ?_⟩
  rcases h.2 with h0 | ⟨g, cap, cur, h1, h2, h3⟩
  · exact .inl h0
  · exact .inr ⟨g, cap, cur, h1, by omega, h3⟩
end
end Go.Proofs.Ytggdnpaiaijhgaa

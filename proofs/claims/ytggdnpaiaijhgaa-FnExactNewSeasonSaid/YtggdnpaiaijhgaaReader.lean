/- The reader of the generators: a struct behind a pointer, its bytes and its position; newReader, pick and one by contracts: what is drawn is in its range, and nothing but the reader's own block and new blocks change. -/
import Derived.Test.YtggdnpaiaijhgaaWords
import Derived.Laws.BitsAllLaws
import Derived.Laws.BitsLemmas
namespace Go.Proofs.Ytggdnpaiaijhgaa
open Go.RowKit
set_option linter.unusedVariables false
set_option linter.unusedSimpArgs false

def bytes (zs : List Int) : List Value := zs.map (Value.int .u8)
theorem bytes_length (zs : List Int) : (bytes zs).length = zs.length := List.length_map ..
theorem bytes_at {zs : List Int} {k : Nat} (h : k < zs.length) : (bytes zs)[k]? = some (.int .u8 (zs.getD k 0)) := by
  simp [bytes, h, List.getD_eq_getElem?_getD]
theorem Rd.byte_ {w : World} {B : Nat} {A : Option Addr} {zs : List Int} {k : Nat} (h : Rd w B A (bytes zs)) (hb : ∀ z ∈ zs, 0 ≤ z ∧ z ≤ 255) (hk : k < zs.length) :
    ∃ b off z, A = some ⟨b, off, none⟩ ∧ b < B ∧ 0 ≤ z ∧ z ≤ 255 ∧ w.cell? ⟨b, off + k, none⟩ = some (.int .u8 z) := by
  obtain ⟨b, off, e, hlt, hc⟩ := h.at_ (bytes_at hk)
  have hz : zs.getD k 0 ∈ zs := by simp [List.getD_eq_getElem?_getD, hk]
  exact ⟨b, off, _, e, hlt, (hb _ hz).1, (hb _ hz).2, hc⟩

theorem only_refl (w : World) (g : Nat) : w.grownBy w (some g) := World.grownBy.refl w _
theorem only_trans {a b c : World} {g : Nat} (h : a.grownBy b (some g)) (k : b.grownBy c (some g)) : a.grownBy c (some g) :=
  ⟨k.os.trans h.os, k.tape.trans h.tape, k.output.trans h.output, Nat.le_trans h.size k.size, fun i hi hne => (k.block i (Nat.lt_of_lt_of_le hi h.size) hne).trans (h.block i hi hne)⟩
theorem only_alloc {a w : World} {g : Nat} (h : a.grownBy w (some g)) (o : Obj) : a.grownBy (w.alloc o) (some g) :=
  ⟨h.os, h.tape, h.output, Nat.le_trans h.size (by simp), fun i hi hne => (Below.heap_alloc w o i (Nat.lt_of_lt_of_le hi h.size)).trans (h.block i hi hne)⟩
theorem only_drewN {a w : World} {g : Nat} (h : a.grownBy w (some g)) (n : Nat) : a.grownBy (w.drewN n) (some g) := ⟨h.os, h.tape, h.output, h.size, h.block⟩
theorem only_set {a w : World} {g : Nat} (h : a.grownBy w (some g)) {p : Addr} (hp : p.block = g ∨ a.heap.size ≤ p.block) (u : Value) : a.grownBy (w.setCell p u) (some g) :=
  ⟨h.os, h.tape, h.output, by simpa [World.setCell] using h.size, fun i hi hne => (Below.heap_setCell w p u i (by
    rintro rfl
    rcases hp with hp | hp
    · exact hne (by rw [hp])
    · omega)).trans (h.block i hi hne)⟩
theorem below_of_only {a w : World} {g B : Nat} (h : a.grownBy w (some g)) (hg : B ≤ g) (hB : B ≤ a.heap.size) : Below B a w :=
  ⟨h.os, h.tape, h.output, h.size, fun i hi => h.block i (by omega) (fun e => by injection e with e; omega)⟩

theorem xor_range (x : Int) (h0 : 0 ≤ x) (h1 : x ≤ 1000000000) : 0 ≤ bits .xor .i64 x (x / 64) ∧ bits .xor .i64 x (x / 64) ≤ 1073741823 := by
  obtain ⟨a, rfl⟩ := Int.eq_ofNat_of_zero_le h0
  have e : ((a : Nat) : Int) / 64 = ((a / 64 : Nat) : Int) := rfl
  rw [e]
  have ha : a < 2 ^ 30 := by omega
  have hb : a / 64 < 2 ^ 30 := by omega
  have hx : a ^^^ (a / 64) < 2 ^ 30 := Nat.xor_lt_two_pow ha hb
  have h : bits .xor .i64 (a : Int) ((a / 64 : Nat) : Int) = ((a ^^^ (a / 64) : Nat) : Int) := by
    have ofI : ∀ n : Nat, n < 2 ^ 30 → (BitVec.ofInt 64 (n : Int)).toNat = n := fun n hn => by
      rw [BitVec.ofInt_natCast, BitVec.toNat_ofNat]; exact Nat.mod_eq_of_lt (by omega)
    show IntKind.i64.wrap ((BitVec.ofInt 64 (a : Int) ^^^ BitVec.ofInt 64 ((a / 64 : Nat) : Int)).toNat : Int) = _
    rw [BitVec.toNat_xor, ofI a ha, ofI (a / 64) hb, IntKind.wrap_i64]
    omega
  rw [h]
  omega

theorem wrap64_byte {z : Int} (h0 : 0 ≤ z) (h1 : z ≤ 255) : wrap64 z = z := w64 (by omega) (by omega)

theorem alloc_at {w : World} {o : Obj} {b : Nat} (hb : b = w.heap.size) : (w.alloc o).heap[b]? = some o := by subst hb; exact heap_alloc_new w o

theorem own_only {w w' : World} {base n g : Nat} {T : TypeId} {v : Value} {xs : List Value} (h : w.ownsRow base T 1 v n xs) (hg : w.grownBy w' (some g)) (hlt : g < base) : w'.ownsRow base T 1 v n xs :=
  own_far (g := 0) h fun k hk hk2 => hg.block k hk2 (fun e => by injection e with e; omega)
theorem only_own {a w w' : World} {g : Nat} {row : Option Nat} (h : a.grownBy w (some g)) (hg : w.grownBy w' row) (hr : ∀ k, row = some k → a.heap.size ≤ k) : a.grownBy w' (some g) :=
  ⟨hg.os.trans h.os, hg.tape.trans h.tape, hg.output.trans h.output, Nat.le_trans h.size hg.size, fun i hi hne => (hg.block i (Nat.lt_of_lt_of_le hi h.size) (fun e => by have := hr i e.symm; omega)).trans (h.block i hi hne)⟩
theorem own_set0 {w : World} {base n c g : Nat} {T : TypeId} {x : Value} {xs : List Value} (h : w.ownsRow base T 1 (.slice (some ⟨g, 0, none⟩) n c) n (x :: xs)) (y : Value) :
    (w.setCell ⟨g, 0, none⟩ y).ownsRow base T 1 (.slice (some ⟨g, 0, none⟩) n c) n (y :: xs) := by
  refine ⟨by simpa using h.1, ?_⟩
  have hn : n = xs.length + 1 := by have := h.1; simp at this; omega
  rcases h.2 with ⟨h0, _⟩ | ⟨g', cap, cur, hv, hg, hh, hnc, hcm, hs, ht⟩
  · cases h0
  · obtain ⟨rfl, rfl⟩ : g = g' ∧ c = cap := by injection hv with h1 _ h3; injection h1 with h1; injection h1 with h1; exact ⟨h1, h3⟩
    refine .inr ⟨g, c, cur.setIfInBounds 0 y, rfl, hg, ?_, hnc, hcm, by simpa using hs, ?_⟩
    · simp [World.setCell, Array.getElem?_modify, hh]
    · rw [Array.toList_setIfInBounds, List.take_set, ht]; rfl
theorem mem_bounds {l : List Int} {a b : Int} (h : ∀ z ∈ l, a ≤ z ∧ z ≤ b) {z : Int} (hz : z ∈ l) : a ≤ z ∧ z ≤ b := h z hz

end Go.Proofs.Ytggdnpaiaijhgaa

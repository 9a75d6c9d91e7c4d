/- The reader of the generators: a struct behind a pointer, its bytes and its position; newReader, pick and one by contracts: what is drawn is in its range, and nothing but the reader's own block and new blocks change. -/
import Derived.Test.YtiihenhddleooacWords
import Derived.Laws.BitsAllLaws
import Derived.Laws.BitsLemmas
namespace Go.Proofs.Ytiihenhddleooac
open Go.RowKit
set_option linter.unusedVariables false
set_option linter.unusedSimpArgs false

def bytes (zs : List Int) : List Value := zs.map (Value.int .u8)
theorem bytes_length (zs : List Int) : (bytes zs).length = zs.length := List.length_map ..
theorem bytes_at {zs : List Int} {k : Nat} (h : k < zs.length) : (bytes zs)[k]? = some (.int .u8 (zs.getD k 0)) := by
  simp [bytes, h, List.getD_eq_getElem?_getD]
theorem Rd.byte_ {w : World} {B : Nat} {A : Option Addr} {zs : List Int} {k : Nat} (h : Rd w B A (bytes zs)) (hb : ∀ z ∈ zs, 0 ≤ z ∧ z ≤ 255) (hk : k < zs.length) :
    ∃ b off z, A = some ⟨b, off, none⟩ ∧ b < B ∧ 0 ≤ z ∧ z ≤ 255 ∧ w.cell? ⟨b, off + k, none⟩ = some (.int .u8 z) := by
  obtain ⟨b, off, e, hlt, hc⟩ := h.at_ (bytes_at hk)
  have hz : zs.getD k 0 ∈ zs := by simp [List.getD_eq_getElem?_getD, hk]
  exact ⟨b, off, _, e, hlt, (hb _ hz).1, (hb _ hz).2, hc⟩

/-- Block g is a reader at the position p; its bytes lie below block B, which is not above g. -/
def Rdr (w : World) (B g : Nat) (p : Nat) : Prop :=
  B ≤ g ∧ p ≤ 1000000 ∧ ∃ (A : Option Addr) (c : Nat) (cs : List Int), w.heap[g]? = some (.cells #[.slice A cs.length c, .int .i64 p] 59 (0, 0)) ∧ Rd w B A (bytes cs) ∧ (∀ z ∈ cs, 0 ≤ z ∧ z ≤ 255) ∧ cs.length ≤ 2000

theorem only_refl (w : World) (g : Nat) : w.grownBy w (some g) := World.grownBy.refl w _
theorem only_trans {a b c : World} {g : Nat} (h : a.grownBy b (some g)) (k : b.grownBy c (some g)) : a.grownBy c (some g) :=
  ⟨k.os.trans h.os, k.tape.trans h.tape, k.output.trans h.output, Nat.le_trans h.size k.size, fun i hi hne => (k.block i (Nat.lt_of_lt_of_le hi h.size) hne).trans (h.block i hi hne)⟩
theorem only_alloc {a w : World} {g : Nat} (h : a.grownBy w (some g)) (o : Obj) : a.grownBy (w.alloc o) (some g) :=
  ⟨h.os, h.tape, h.output, Nat.le_trans h.size (by simp), fun i hi hne => (Below.heap_alloc w o i (Nat.lt_of_lt_of_le hi h.size)).trans (h.block i hi hne)⟩
theorem only_drewN {a w : World} {g : Nat} (h : a.grownBy w (some g)) (n : Nat) : a.grownBy (w.drewN n) (some g) := ⟨h.os, h.tape, h.output, h.size, h.block⟩
theorem only_set {a w : World} {g : Nat} (h : a.grownBy w (some g)) {p : Addr} (hp : p.block = g ∨ a.heap.size ≤ p.block) (u : Value) : a.grownBy (w.setCell p u) (some g) :=
  ⟨h.os, h.tape, h.output, by simpa [World.setCell] using h.size, fun i hi hne => (Below.heap_setCell w p u i (by
    rintro rfl
    rcases hp with hp | hp
    · exact hne (by rw [hp])
    · omega)).trans (h.block i hi hne)⟩
theorem below_of_only {a w : World} {g B : Nat} (h : a.grownBy w (some g)) (hg : B ≤ g) (hB : B ≤ a.heap.size) : Below B a w :=
  ⟨h.os, h.tape, h.output, h.size, fun i hi => h.block i (by omega) (fun e => by injection e with e; omega)⟩

theorem Rdr.lt {w : World} {B g p : Nat} (h : Rdr w B g p) : g < w.heap.size := by
  obtain ⟨_, _, A, c, cs, hh, _⟩ := h
  rcases Nat.lt_or_ge g w.heap.size with hlt | hge
  · exact hlt
  · rw [Array.getElem?_eq_none hge] at hh; cases hh
theorem Rdr.below {w w' : World} {B g p : Nat} (h : Rdr w B g p) (hb : Below w.heap.size w w') : Rdr w' B g p := by
  have hlt := h.lt
  obtain ⟨hB, hp, A, c, cs, hh, hr, hbs, hl⟩ := h
  exact ⟨hB, hp, A, c, cs, (hb.block g hlt).trans hh, hr.below (hb.mono (by omega)), hbs, hl⟩
theorem Rdr.alloc {w : World} {B g p : Nat} (h : Rdr w B g p) (o : Obj) : Rdr (w.alloc o) B g p := h.below ((Below.refl _ _).alloc (Nat.le_refl _) o)
theorem Rdr.drewN {w : World} {B g p : Nat} (h : Rdr w B g p) (n : Nat) : Rdr (w.drewN n) B g p := h

theorem xor_range (x : Int) (h0 : 0 ≤ x) (h1 : x ≤ 1000000000) : 0 ≤ bits .xor .i64 x (x / 64) ∧ bits .xor .i64 x (x / 64) ≤ 1073741823 := by
  obtain ⟨a, rfl⟩ := Int.eq_ofNat_of_zero_le h0
  have e : ((a : Nat) : Int) / 64 = ((a / 64 : Nat) : Int) := rfl
  rw [e]
  have ha : a < 2 ^ 30 := by omega
  have hb : a / 64 < 2 ^ 30 := by omega
  have hx : a ^^^ (a / 64) < 2 ^ 30 := Nat.xor_lt_two_pow ha hb
  have h : bits .xor .i64 (a : Int) ((a / 64 : Nat) : Int) = ((a ^^^ (a / 64) : Nat) : Int) := by
    have ofI : ∀ n : Nat, n < 2 ^ 30 → (BitVec.ofInt 64 (n : Int)).toNat = n := fun n hn => by
      rw [BitVec.ofInt_natCast, BitVec.toNat_ofNat]; exact Nat.mod_eq_of_lt (by omega)
    show IntKind.i64.wrap ((BitVec.ofInt 64 (a : Int) ^^^ BitVec.ofInt 64 ((a / 64 : Nat) : Int)).toNat : Int) = _
    rw [BitVec.toNat_xor, ofI a ha, ofI (a / 64) hb, IntKind.wrap_i64]
    omega
  rw [h]
  omega

set_option maxRecDepth 100000 in
set_option maxHeartbeats 400000 in
theorem newReader_any (cs : List Int) (A : Option Addr) (c : Nat) (w : World) (hr : Rd w w.heap.size A (bytes cs)) (hbs : ∀ z ∈ cs, 0 ≤ z ∧ z ≤ 255) (hn : cs.length ≤ c) (hm : c ≤ maxLen) :
    Calls Try.prog 26 #[.slice A cs.length c] w fun e w' => ∃ g, e = .returned (.pointer (some ⟨g, 0, none⟩)) ∧ Rdr w' w.heap.size g 0 ∧ Below w.heap.size w w' := by
  unfold maxLen at hm
  by_cases hl : cs.length ≤ 2000
  · go_enter Try.func26, Try.ntmps26
    go_wp2
    go_ret
    exact ⟨_, rfl, ⟨Nat.le_refl _, by omega, A, c, cs, heap_alloc_new w _, hr.alloc (Nat.le_refl _) _, hbs, hl⟩, (Below.refl _ _).alloc (Nat.le_refl _) _⟩
  · go_enter Try.func26, Try.ntmps26
    have hl' : 2000 < cs.length := by omega
    go_wp2
    go_ret
    have hz : (cs.take 2000).length = 2000 := by rw [List.length_take]; omega
    refine ⟨_, rfl, ⟨Nat.le_refl _, by omega, A, c, cs.take 2000, ?_, ?_, fun z hz => hbs z (List.mem_of_mem_take hz), by omega⟩, (Below.refl _ _).alloc (Nat.le_refl _) _⟩
    · rw [hz]; exact heap_alloc_new w _
    · have := (hr.take 2000).alloc (Nat.le_refl _) (Obj.cells #[Value.slice A 2000 c, Value.int IntKind.i64 0] 59)
      rw [bytes, List.map_take]
      exact this

theorem rdr_step {w : World} {B g p : Nat} {A : Option Addr} {c : Nat} {cs : List Int} (hB : B ≤ g) (hp : p < 1000000)
    (hh : w.heap[g]? = some (.cells #[.slice A cs.length c, .int .i64 p] 59 (0, 0))) (hr : Rd w B A (bytes cs)) (hbs : ∀ z ∈ cs, 0 ≤ z ∧ z ≤ 255) (hl : cs.length ≤ 2000) :
    Rdr (w.setCell ⟨g, 1, none⟩ (.int .i64 ((p : Int) + 1))) B g (p + 1) := by
  refine ⟨hB, by omega, A, c, cs, ?_, hr.keep fun a ha => World.cell?_setCell_other _ _ _ _ (fun e => by subst e; simp at ha; omega), hbs, hl⟩
  simp [World.setCell, Array.getElem?_modify, hh]

def PickPost (n : Int) (w : World) (B g p : Nat) (e : Ending) (w' : World) : Prop :=
  ∃ z, e = .returned (.int .i64 z) ∧ 0 ≤ z ∧ z < n ∧ Rdr w' B g (p + 1) ∧ w.grownBy w' (some g)

theorem wrap64_byte {z : Int} (h0 : 0 ≤ z) (h1 : z ≤ 255) : wrap64 z = z := w64 (by omega) (by omega)

set_option maxRecDepth 100000 in
set_option maxHeartbeats 1000000 in
theorem pick_none (n : Int) (w : World) (B g p : Nat) (A : Option Addr) (c : Nat) (hB : B ≤ g) (hp : p < 1000000) (h0 : 1 ≤ n)
    (hh : w.heap[g]? = some (.cells #[.slice A 0 c, .int .i64 p] 59 (0, 0))) (hr : Rd w B A (bytes [])) :
    Calls Try.prog 52 #[.pointer (some ⟨g, 0, none⟩), .int .i64 n] w (PickPost n w B g p) := by
  have hcell0 : w.cell? ⟨g, 0, none⟩ = some (.slice A 0 c) := by simp [World.cell?, hh]
  have hcell1 : w.cell? ⟨g, 1, none⟩ = some (.int .i64 p) := by simp [World.cell?, hh]
  have hfz1 : w.frozen? ⟨g, 1, none⟩ = false := by simp [World.frozen?, hh]
  have H := rdr_step (cs := []) hB hp hh hr (fun z hz => by cases hz) (by simp)
  clear hh hr
  go_enter Try.func52, Try.ntmps52
  go_wp2
  go_ret
  exact ⟨0, rfl, by omega, by omega, H, only_set (only_refl _ _) (.inl rfl) _⟩

set_option maxRecDepth 100000 in
set_option maxHeartbeats 1000000 in
theorem pick_near (n : Int) (w : World) (B g p : Nat) (A : Option Addr) (c : Nat) (cs : List Int) (hB : B ≤ g) (hp : p < 1000000) (h0 : 1 ≤ n) (hlt : p < cs.length)
    (hh : w.heap[g]? = some (.cells #[.slice A cs.length c, .int .i64 p] 59 (0, 0))) (hr : Rd w B A (bytes cs)) (hbs : ∀ z ∈ cs, 0 ≤ z ∧ z ≤ 255) (hl : cs.length ≤ 2000) :
    Calls Try.prog 52 #[.pointer (some ⟨g, 0, none⟩), .int .i64 n] w (PickPost n w B g p) := by
  have hcell0 : w.cell? ⟨g, 0, none⟩ = some (.slice A cs.length c) := by simp [World.cell?, hh]
  have hcell1 : w.cell? ⟨g, 1, none⟩ = some (.int .i64 p) := by simp [World.cell?, hh]
  have hfz1 : w.frozen? ⟨g, 1, none⟩ = false := by simp [World.frozen?, hh]
  have H := rdr_step hB hp hh hr hbs hl
  obtain ⟨b, off, z, rfl, hb, hz0, hz1, hc⟩ := hr.byte_ hbs hlt
  have hc2 : (w.setCell ⟨g, 1, none⟩ (.int .i64 ((p : Int) + 1))).cell? ⟨b, off + p, none⟩ = some (.int .u8 z) := by
    rw [World.cell?_setCell_other _ _ _ _ (fun e => by injection e with e1; omega)]; exact hc
  clear hh hr hc hbs
  have hk0 : ((cs.length : Int) == 0) = false := beq_eq_false_iff_ne.2 (by omega)
  have hk1 : ¬ n < 1 := by omega
  go_enter Try.func52, Try.ntmps52
  go_wp2
  go_ret
  exact ⟨z % n, rfl, Int.emod_nonneg _ (by omega), Int.emod_lt_of_pos _ (by omega), H, only_set (only_refl _ _) (.inl rfl) _⟩

set_option maxRecDepth 100000 in
set_option maxHeartbeats 1000000 in
theorem pick_far (n : Int) (w : World) (B g p : Nat) (A : Option Addr) (c : Nat) (cs : List Int) (hB : B ≤ g) (hp : p < 1000000) (h0 : 1 ≤ n) (hlt : ¬ p < cs.length) (hpos : 0 < cs.length)
    (hh : w.heap[g]? = some (.cells #[.slice A cs.length c, .int .i64 p] 59 (0, 0))) (hr : Rd w B A (bytes cs)) (hbs : ∀ z ∈ cs, 0 ≤ z ∧ z ≤ 255) (hl : cs.length ≤ 2000) :
    Calls Try.prog 52 #[.pointer (some ⟨g, 0, none⟩), .int .i64 n] w (PickPost n w B g p) := by
  have hcell0 : w.cell? ⟨g, 0, none⟩ = some (.slice A cs.length c) := by simp [World.cell?, hh]
  have hcell1 : w.cell? ⟨g, 1, none⟩ = some (.int .i64 p) := by simp [World.cell?, hh]
  have hfz1 : w.frozen? ⟨g, 1, none⟩ = false := by simp [World.frozen?, hh]
  have H := rdr_step hB hp hh hr hbs hl
  have m1 : p % cs.length < cs.length := Nat.mod_lt _ hpos
  have m2 : (p * 7 + 3) % cs.length < cs.length := Nat.mod_lt _ hpos
  obtain ⟨b, off, z, rfl, hb, hz0, hz1, hc⟩ := hr.byte_ hbs m1
  obtain ⟨b', off', y, hA, hb', hy0, hy1, hd⟩ := hr.byte_ hbs m2
  obtain ⟨rfl, rfl⟩ : b = b' ∧ off = off' := by simpa using hA
  clear hA
  have hc2 : (w.setCell ⟨g, 1, none⟩ (.int .i64 ((p : Int) + 1))).cell? ⟨b, off + p % cs.length, none⟩ = some (.int .u8 z) := by
    rw [World.cell?_setCell_other _ _ _ _ (fun e => by injection e with e1; omega)]; exact hc
  have hd2 : (w.setCell ⟨g, 1, none⟩ (.int .i64 ((p : Int) + 1))).cell? ⟨b, off + (p * 7 + 3) % cs.length, none⟩ = some (.int .u8 y) := by
    rw [World.cell?_setCell_other _ _ _ _ (fun e => by injection e with e1; omega)]; exact hd
  clear hh hr hc hd hbs
  have i1 : 0 ≤ (p : Int) % (cs.length : Int) := Int.emod_nonneg _ (by omega)
  have i2 : (p : Int) % (cs.length : Int) < (cs.length : Int) := Int.emod_lt_of_pos _ (by omega)
  have i3 : 0 ≤ ((p : Int) * 7 + 3) % (cs.length : Int) := Int.emod_nonneg _ (by omega)
  have i4 : ((p : Int) * 7 + 3) % (cs.length : Int) < (cs.length : Int) := Int.emod_lt_of_pos _ (by omega)
  have q1 : 0 ≤ (p : Int) / (cs.length : Int) := Int.ediv_nonneg (by omega) (by omega)
  have q2 : (p : Int) / (cs.length : Int) ≤ (p : Int) := Int.ediv_le_self _ (by omega)
  have hk0 : ((cs.length : Int) == 0) = false := beq_eq_false_iff_ne.2 (by omega)
  have hk1 : ¬ n < 1 := by omega
  go_enter Try.func52, Try.ntmps52
  go_wp2
  go_quiet (fail)
  go_wp2
  go_ret
  have hx := xor_range (z * 131 + y * 1117 + (p : Int) * 29 + (p : Int) / (cs.length : Int) * 53) (by omega) (by omega)
  refine ⟨_, rfl, ?_, ?_, H.drewN _, only_drewN (only_set (only_refl _ _) (.inl rfl) _) _⟩
  · rw [Int.tmod_eq_emod_of_nonneg hx.1]; exact Int.emod_nonneg _ (by omega)
  · rw [Int.tmod_eq_emod_of_nonneg hx.1]; exact Int.emod_lt_of_pos _ (by omega)

/-- pick: a number in 0..n-1. -/
theorem pick_any (n : Int) (w : World) (B g p : Nat) (h : Rdr w B g p) (hp : p < 1000000) (h0 : 1 ≤ n) :
    Calls Try.prog 52 #[.pointer (some ⟨g, 0, none⟩), .int .i64 n] w (PickPost n w B g p) := by
  obtain ⟨hB, _, A, c, cs, hh, hr, hbs, hl⟩ := h
  by_cases hz : cs = []
  · subst hz
    exact pick_none n w B g p A c hB hp h0 hh hr
  · by_cases hlt : p < cs.length
    · exact pick_near n w B g p A c cs hB hp h0 hlt hh hr hbs hl
    · exact pick_far n w B g p A c cs hB hp h0 hlt (List.length_pos_iff.2 hz) hh hr hbs hl

theorem alloc_at {w : World} {o : Obj} {b : Nat} (hb : b = w.heap.size) : (w.alloc o).heap[b]? = some o := by subst hb; exact heap_alloc_new w o

def OnePost (xs : List Int) (w : World) (B g p : Nat) (e : Ending) (w' : World) : Prop :=
  ∃ z, e = .returned (.int .i64 z) ∧ z ∈ xs ∧ Rdr w' B g (p + 1) ∧ w.grownBy w' (some g)

set_option maxRecDepth 100000 in
set_option maxHeartbeats 400000 in
theorem one_any (xs : List Int) (n : Nat) (hn : xs.length = n) (w : World) (B g p b : Nat) (h : Rdr w B g p) (hp : p < 1000000) (h0 : 1 ≤ n) (h1 : n ≤ 1000)
    (hx : w.heap[b]? = some (.cells (ints xs).toArray 3 (0, 0))) (hne : b ≠ g) :
    Calls Try.prog 28 #[.pointer (some ⟨g, 0, none⟩), .slice (some ⟨b, 0, none⟩) n n] w (OnePost xs w B g p) := by
  have hb : b < w.heap.size := by
    rcases Nat.lt_or_ge b w.heap.size with hlt | hge
    · exact hlt
    · rw [Array.getElem?_eq_none hge] at hx; cases hx
  have Hn := Lib.hid hn
  clear hn
  go_enter Try.func28, Try.ntmps28
  go_wp2_with fail
  refine (pick_any _ _ _ _ _ h hp (by omega)).mono ?_
  rintro e w1 ⟨z, rfl, z0, z1, hr, hg⟩
  obtain ⟨k, rfl⟩ := Int.eq_ofNat_of_zero_le z0
  have hk : k < n := by omega
  have hk' : k < xs.length := by have := Hn.out; omega
  have hb1 : w1.heap[b]? = some (.cells (ints xs).toArray 3 (0, 0)) := (hg.block b hb (fun e => by injection e with e; exact hne e)).trans hx
  have hc : w1.cell? ⟨b, k, none⟩ = some (.int .i64 xs[k]) := by simp [World.cell?, hb1, ints, hk']
  have Hm : Hid (xs[k] ∈ xs) := Lib.hid (List.getElem_mem hk')
  generalize xs[k] = y at *
  clear hk'
  go_wp2
  go_ret
  exact ⟨y, rfl, Hm.out, hr, hg⟩

theorem own_only {w w' : World} {base n g : Nat} {T : TypeId} {v : Value} {xs : List Value} (h : w.ownsRow base T 1 v n xs) (hg : w.grownBy w' (some g)) (hlt : g < base) : w'.ownsRow base T 1 v n xs :=
  own_far (g := 0) h fun k hk hk2 => hg.block k hk2 (fun e => by injection e with e; omega)
theorem Rdr.own {w w' : World} {B g p : Nat} {row : Option Nat} (h : Rdr w B g p) (hg : w.grownBy w' row) (hr : ∀ k, row = some k → g < k) : Rdr w' B g p := by
  have hlt := h.lt
  obtain ⟨hB, hp, A, c, cs, hh, hrd, hbs, hl⟩ := h
  exact ⟨hB, hp, A, c, cs, (hg.block g hlt (fun e => by have := hr g e.symm; omega)).trans hh, hrd.keep fun a ha => World.cell?_of_block (hg.block a.block (by omega) (fun e => by have := hr _ e.symm; omega)), hbs, hl⟩
theorem only_own {a w w' : World} {g : Nat} {row : Option Nat} (h : a.grownBy w (some g)) (hg : w.grownBy w' row) (hr : ∀ k, row = some k → a.heap.size ≤ k) : a.grownBy w' (some g) :=
  ⟨hg.os.trans h.os, hg.tape.trans h.tape, hg.output.trans h.output, Nat.le_trans h.size hg.size, fun i hi hne => (hg.block i (Nat.lt_of_lt_of_le hi h.size) (fun e => by have := hr i e.symm; omega)).trans (h.block i hi hne)⟩
theorem own_set0 {w : World} {base n c g : Nat} {T : TypeId} {x : Value} {xs : List Value} (h : w.ownsRow base T 1 (.slice (some ⟨g, 0, none⟩) n c) n (x :: xs)) (y : Value) :
    (w.setCell ⟨g, 0, none⟩ y).ownsRow base T 1 (.slice (some ⟨g, 0, none⟩) n c) n (y :: xs) := by
  refine ⟨by simpa using h.1, ?_⟩
  have hn : n = xs.length + 1 := by have := h.1; simp at this; omega
  rcases h.2 with ⟨h0, _⟩ | ⟨g', cap, cur, hv, hg, hh, hnc, hcm, hs, ht⟩
  · cases h0
  · obtain ⟨rfl, rfl⟩ : g = g' ∧ c = cap := by injection hv with h1 _ h3; injection h1 with h1; injection h1 with h1; exact ⟨h1, h3⟩
    refine .inr ⟨g, c, cur.setIfInBounds 0 y, rfl, hg, ?_, hnc, hcm, by simpa using hs, ?_⟩
    · simp [World.setCell, Array.getElem?_modify, hh]
    · rw [Array.toList_setIfInBounds, List.take_set, ht]; rfl
theorem mem_bounds {l : List Int} {a b : Int} (h : ∀ z ∈ l, a ≤ z ∧ z ≤ b) {z : Int} (hz : z ∈ l) : a ≤ z ∧ z ≤ b := h z hz

end Go.Proofs.Ytiihenhddleooac

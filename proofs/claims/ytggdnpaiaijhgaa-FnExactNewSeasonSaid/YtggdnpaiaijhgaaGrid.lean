/- Words for chapter 2: lists of bools, lists of lists of integers in memory; ponds that are valid, their cells. -/
import Derived.Test.YtggdnpaiaijhgaaRuns
import Derived.Test.YtggdnpaiaijhgaaGraphB
namespace Go.Proofs.Ytggdnpaiaijhgaa
open Go.RowKit
set_option linter.unusedVariables false
set_option linter.unusedSimpArgs false

theorem info_bool : (Try.prog.info? 4).map (fun i => (i.zero, i.size, i.bytes)) = some (some (.bool false), 1, 1) := by kernel_rfl
theorem info_ints : (Try.prog.info? 37).map (fun i => (i.zero, i.size, i.bytes)) = some (some (.slice none 0 0), 1, 24) := by kernel_rfl

def bools (bs : List Bool) : List Value := bs.map Value.bool
theorem bools_length (bs : List Bool) : (bools bs).length = bs.length := List.length_map ..
theorem bools_at {bs : List Bool} {k : Nat} (h : k < bs.length) : (bools bs)[k]? = some (.bool (isd bs k)) := by
  simp [bools, h, isd, List.getD_eq_getElem?_getD]
theorem isd_get {bs : List Bool} {k : Nat} (h : k < bs.length) : bs[k]? = some (isd bs k) := by simp [isd, List.getD_eq_getElem?_getD, h]
theorem ints_set (zs : List Int) (i : Nat) (z : Int) : (ints zs).set i (.int .i64 z) = ints (zs.set i z) := by rw [ints, ints, List.map_set]
theorem bools_set (bs : List Bool) (i : Nat) (b : Bool) : (bools bs).set i (.bool b) = bools (bs.set i b) := by rw [bools, bools, List.map_set]
theorem ints_at' {zs : List Int} {k : Nat} (h : k < zs.length) : (ints zs)[k]? = some (.int .i64 (at_ zs k)) := by
  rw [ints, List.getElem?_map, of_at h]; rfl

section
variable {w w' : World} {B B' : Nat} {A : Option Addr} {xs : List Value}
theorem Rd.bool_ {bs : List Bool} {k : Nat} (h : Rd w B A (bools bs)) (hk : k < bs.length) : ∃ b off, A = some ⟨b, off, none⟩ ∧ b < B ∧ w.cell? ⟨b, off + k, none⟩ = some (.bool (isd bs k)) :=
  h.at_ (bools_at hk)
theorem rd_num {zs : List Int} {k : Nat} (h : Rd w B A (ints zs)) (hk : k < zs.length) : ∃ b off, A = some ⟨b, off, none⟩ ∧ b < B ∧ w.cell? ⟨b, off + k, none⟩ = some (.int .i64 (at_ zs k)) :=
  h.at_ (ints_at' hk)
/-- A list that a call made and that is not empty: its block. -/
theorem own_some {base n c : Nat} {T : TypeId} (h : w.ownsRow base T 1 (.slice A n c) n xs) (hn : 0 < n) : ∃ g, A = some ⟨g, 0, none⟩ ∧ base ≤ g ∧ g < w.heap.size ∧ n ≤ c ∧ c ≤ maxLen := by
  obtain ⟨g, f, h1, h2, h3, _, h4, h5⟩ := own_row h hn
  exact ⟨g, h1, h2, h3, h4, h5⟩
theorem own_cell {base n c g : Nat} {T : TypeId} (h : w.ownsRow base T 1 (.slice (some ⟨g, 0, none⟩) n c) n xs) {k : Nat} {x : Value} (hx : xs[k]? = some x) : w.cell? ⟨g, k, none⟩ = some x := by
  obtain ⟨b, off, e, _, hc⟩ := (Rd.own h).at_ hx
  injection e with e
  injection e with e1 e2
  subst e1 e2
  simpa using hc
theorem own_frozen {base n c g : Nat} {T : TypeId} (h : w.ownsRow base T 1 (.slice (some ⟨g, 0, none⟩) n c) n xs) (k : Nat) : w.frozen? ⟨g, k, none⟩ = false := by
  rcases h.2 with ⟨h0, _⟩ | ⟨g', cap, cur, hv, _, hh, _⟩
  · cases h0
  · obtain rfl : g = g' := by injection hv with h1; injection h1 with h1; injection h1
    simp [World.frozen?, hh]
theorem own_put {base n c g : Nat} {T : TypeId} (h : w.ownsRow base T 1 (.slice (some ⟨g, 0, none⟩) n c) n xs) (k : Nat) (y : Value) :
    (w.setCell ⟨g, k, none⟩ y).ownsRow base T 1 (.slice (some ⟨g, 0, none⟩) n c) n (xs.set k y) := by
  refine ⟨by simpa using h.1, ?_⟩
  rcases h.2 with ⟨h0, _⟩ | ⟨g', cap, cur, hv, hg, hh, hnc, hcm, hs, ht⟩
  · cases h0
  · obtain ⟨rfl, rfl⟩ : g = g' ∧ c = cap := by injection hv with h1 _ h3; injection h1 with h1; injection h1 with h1; exact ⟨h1, h3⟩
    refine .inr ⟨g, c, cur.setIfInBounds k y, rfl, hg, ?_, hnc, hcm, by simpa using hs, ?_⟩
    · simp [World.setCell, Array.getElem?_modify, hh]
    · rw [Array.toList_setIfInBounds, List.take_set, ht]
/-- .. stands where another block is written. -/
theorem own_other {base n b k : Nat} {T : TypeId} {v : Value} (h : w.ownsRow base T 1 v n xs) (hb : v.ownBlock ≠ some b) (y : Value) : (w.setCell ⟨b, k, none⟩ y).ownsRow base T 1 v n xs := by
  refine ⟨h.1, ?_⟩
  rcases h.2 with h0 | ⟨g', cap, cur, h1, h2, h3, h4⟩
  · exact .inl h0
  · refine .inr ⟨g', cap, cur, h1, h2, ?_, h4⟩
    rw [← h3]
    refine Below.heap_setCell w ⟨b, k, none⟩ y g' fun e => hb ?_
    subst h1
    simp [Value.ownBlock, e]
theorem own_apart {base n b : Nat} {T : TypeId} {v : Value} (h : w.ownsRow base T 1 v n xs) (hb : b < base) : v.ownBlock ≠ some b := fun e => by
  have := own_block h b e
  omega
/-- .. stands where another list that a call made has grown. -/
theorem own_grown {base n : Nat} {T : TypeId} {v : Value} {r : Option Nat} (h : w.ownsRow base T 1 v n xs) (hg : w.grownBy w' r) (hb : ∀ k, r = some k → v.ownBlock ≠ some k) : w'.ownsRow base T 1 v n xs := by
  have hl := own_lt h
  refine ⟨h.1, ?_⟩
  rcases h.2 with h0 | ⟨g', cap, cur, h1, h2, h3, h4⟩
  · exact .inl h0
  · refine .inr ⟨g', cap, cur, h1, h2, ?_, h4⟩
    rw [← h3]
    refine hg.block g' (hl g' (by subst h1; rfl)) fun e => ?_
    exact hb g' e.symm (by subst h1; rfl)
theorem own_one (w : World) (T : TypeId) (x : Value) : (w.alloc (.cells #[x] T)).ownsRow w.heap.size T 1 (.slice (some ⟨w.heap.size, 0, none⟩) 1 1) 1 [x] :=
  ⟨rfl, .inr ⟨w.heap.size, 1, #[x], rfl, Nat.le_refl _, heap_alloc_new w _, Nat.le_refl _, by unfold maxLen; omega, rfl, rfl⟩⟩
theorem own_alloc {base n : Nat} {T : TypeId} {v : Value} (h : w.ownsRow base T 1 v n xs) (o : Obj) : (w.alloc o).ownsRow base T 1 v n xs := own_below h ((Below.refl _ _).alloc (Nat.le_refl _) o)
theorem own_made (w : World) (z : Value) (n : Nat) (T : TypeId) (hn : n ≤ maxLen) : (w.alloc (.cells (madeCells #[z] n) T)).ownsRow w.heap.size T 1 (.slice (some ⟨w.heap.size, 0, none⟩) n n) n (List.replicate n z) :=
  own_of_row (World.rowIs_made w z n T) (by simp) (fun i hi => by simp [hi]) (Nat.le_refl _) hn

theorem drewN_add (w : World) (a : Nat) : ∀ b : Nat, (w.drewN a).drewN b = w.drewN (a + b) := fun b => by
  simp [World.drewN, Nat.add_assoc]
theorem quiet_draw {P : Program} {f : FuncId} {args : Array Value} {n : Nat} {v : Value}
    (h : Calls P f args (w.drewN n) fun e w' => e = .returned v ∧ ∃ m, w' = (w.drewN n).drewN m) : Calls P f args (w.drewN n) fun e w'' => e = .returned v ∧ ∃ m, w'' = w.drewN m :=
  h.mono fun _ _ ⟨he, m, hm⟩ => ⟨he, n + m, by rw [hm, drewN_add]⟩

theorem one_new (w : World) (x : Value) (T : TypeId) (b : Nat) (hb : b = w.heap.size) : ∀ (j : Nat) (u : Value), [x][j]? = some u → (w.alloc (.cells #[x] T)).cell? ((⟨b, 0, none⟩ : Addr).add j) = some u := by
  intro j u hj
  subst hb
  match j, hj with
  | 0, hj => simp at hj; subst hj; simp [Addr.add]
/-! ### lists of lists -/

def RdG (w : World) (B : Nat) (A : Option Addr) (pp : List (List Int)) : Prop :=
  ∃ xs : List Value, xs.length = pp.length ∧ Rd w B A xs ∧ ∀ (k : Nat) (row : List Int), pp[k]? = some row → ∃ (A' : Option Addr) (c' : Nat), xs[k]? = some (Value.slice A' row.length c') ∧ row.length ≤ c' ∧ c' ≤ maxLen ∧ Rd w B A' (ints row)
variable {pp : List (List Int)}
theorem RdG.keep (h : RdG w B A pp) (hk : ∀ p : Addr, p.block < B → w'.cell? p = w.cell? p) : RdG w' B A pp := by
  obtain ⟨xs, hl, hr, hx⟩ := h
  exact ⟨xs, hl, hr.keep hk, fun k row h => by obtain ⟨A', c', h1, h2, h3, h4⟩ := hx k row h; exact ⟨A', c', h1, h2, h3, h4.keep hk⟩⟩
theorem RdG.more (h : RdG w B A pp) (hB : B ≤ B') : RdG w B' A pp := by
  obtain ⟨xs, hl, hr, hx⟩ := h
  exact ⟨xs, hl, hr.more hB, fun k row h => by obtain ⟨A', c', h1, h2, h3, h4⟩ := hx k row h; exact ⟨A', c', h1, h2, h3, h4.more hB⟩⟩
theorem RdG.below (h : RdG w B A pp) (hb : Below B w w') : RdG w' B A pp := h.keep fun _ hp => hb.cell hp
theorem RdG.drewN (h : RdG w B A pp) (k : Nat) : RdG (w.drewN k) B A pp := h
theorem RdG.nil_ : RdG w B A [] := ⟨[], rfl, Rd.nil_, fun k row h => by simp at h⟩
theorem RdG.row_ {k : Nat} (h : RdG w B A pp) (hk : k < pp.length) : ∃ b off row A' c', A = some ⟨b, off, none⟩ ∧ b < B ∧ Hid (pp[k]? = some row) ∧ w.cell? ⟨b, off + k, none⟩ = some (.slice A' row.length c') ∧ row.length ≤ c' ∧ c' ≤ maxLen ∧ Rd w B A' (ints row) := by
  obtain ⟨xs, hl, hr, hx⟩ := h
  obtain ⟨A', c', h1, h2, h3, h4⟩ := hx k (pp[k]'hk) (List.getElem?_eq_getElem hk)
  obtain ⟨b, off, e, hb, hc⟩ := hr.at_ h1
  exact ⟨b, off, _, A', c', e, hb, Lib.hid (List.getElem?_eq_getElem hk), hc, h2, h3, h4⟩
end

/-! ### ponds -/

def wide (pp : List (List Int)) : Nat := (pp.getD 0 []).length
def cnt (pp : List (List Int)) : Nat := pp.length * wide pp
def thk (pp : List (List Int)) (c : Nat) : Int := (pp.getD (c / wide pp) []).getD (c % wide pp) 0
def rowB (r : List Int) : Bool := decide (1 ≤ r.length ∧ r.length ≤ 9) && r.all (fun z => inB z 0 999)
def rowsB (W : Nat) (pp : List (List Int)) : Bool := pp.all (fun r => decide (r.length = W) && rowB r)
def pondB (pp : List (List Int)) : Bool := decide (1 ≤ pp.length ∧ pp.length ≤ 9) && rowsB (wide pp) pp

/-- a valid pond behind A -/
def Pnd (w : World) (B : Nat) (A : Option Addr) (pp : List (List Int)) : Prop := pondB pp = true ∧ RdG w B A pp
section
variable {w w' : World} {B B' : Nat} {A : Option Addr} {pp : List (List Int)}
theorem Pnd.below (h : Pnd w B A pp) (hb : Below B w w') : Pnd w' B A pp := ⟨h.1, h.2.below hb⟩
theorem Pnd.keep (h : Pnd w B A pp) (hk : ∀ p : Addr, p.block < B → w'.cell? p = w.cell? p) : Pnd w' B A pp := ⟨h.1, h.2.keep hk⟩
theorem Pnd.more (h : Pnd w B A pp) (hB : B ≤ B') : Pnd w B' A pp := ⟨h.1, h.2.more hB⟩
theorem Pnd.drewN (h : Pnd w B A pp) (k : Nat) : Pnd (w.drewN k) B A pp := h
theorem Pnd.up (h : Pnd w w.heap.size A pp) (hb : Below w.heap.size w w') : Pnd w' w'.heap.size A pp := (h.below hb).more hb.size

theorem pond_len (h : pondB pp = true) : 1 ≤ pp.length ∧ pp.length ≤ 9 := by
  unfold pondB at h
  simp only [Bool.and_eq_true, decide_eq_true_eq] at h
  exact h.1
theorem pond_row (h : pondB pp = true) {k : Nat} {row : List Int} (hk : pp[k]? = some row) : row.length = wide pp ∧ 1 ≤ row.length ∧ row.length ≤ 9 ∧ ∀ z ∈ row, 0 ≤ z ∧ z ≤ 999 := by
  unfold pondB rowsB at h
  simp only [Bool.and_eq_true, decide_eq_true_eq, List.all_eq_true] at h
  have h1 := h.2 row (List.mem_of_getElem? hk)
  unfold rowB at h1
  simp only [Bool.and_eq_true, decide_eq_true_eq, List.all_eq_true] at h1
  exact ⟨h1.1, h1.2.1.1, h1.2.1.2, fun z hz => inB_t (h1.2.2 z hz)⟩
theorem pond_wide (h : pondB pp = true) : 1 ≤ wide pp ∧ wide pp ≤ 9 := by
  have hl := pond_len h
  have h1 : pp[0]? = some (pp[0]'(by omega)) := List.getElem?_eq_getElem (by omega)
  have := pond_row h h1
  omega
theorem pond_cnt (h : pondB pp = true) : 1 ≤ cnt pp ∧ cnt pp ≤ 81 := by
  have h1 := pond_len h
  have h2 := pond_wide h
  unfold cnt
  have : 1 * 1 ≤ pp.length * wide pp := Nat.mul_le_mul h1.1 h2.1
  have : pp.length * wide pp ≤ 9 * 9 := Nat.mul_le_mul h1.2 h2.2
  omega
theorem row_y {c : Nat} (hc : c < cnt pp) : c / wide pp < pp.length := div_lt hc
theorem thk_row (h : pondB pp = true) {c : Nat} (hc : c < cnt pp) {row : List Int} (hr : pp[c / wide pp]? = some row) : row[c % wide pp]? = some (thk pp c) := by
  have hw := pond_wide h
  have h1 := pond_row h hr
  have hlt : c % wide pp < row.length := by rw [h1.1]; exact Nat.mod_lt _ (by omega)
  have e : pp.getD (c / wide pp) [] = row := by rw [List.getD_eq_getElem?_getD, hr]; rfl
  unfold thk
  rw [e, List.getD_eq_getElem?_getD, List.getElem?_eq_getElem hlt]
  rfl
theorem thk_bd (h : pondB pp = true) {c : Nat} (hc : c < cnt pp) : 0 ≤ thk pp c ∧ thk pp c ≤ 999 := by
  have hr : pp[c / wide pp]? = some (pp[c / wide pp]'(row_y hc)) := List.getElem?_eq_getElem (row_y hc)
  exact (pond_row h hr).2.2.2 _ (List.mem_of_getElem? (thk_row h hc hr))
/-- the first row of a valid pond -/
theorem Pnd.row0 (h : Pnd w B A pp) : ∃ b off A0 c0, A = some ⟨b, off, none⟩ ∧ b < B ∧ w.cell? ⟨b, off, none⟩ = some (.slice A0 (wide pp) c0) := by
  have hl := pond_len h.1
  obtain ⟨b, off, row, A', c', e, hb, hrow, hc, _, _, _⟩ := h.2.row_ (k := 0) (by omega)
  have := (pond_row h.1 hrow.out).1
  rw [this] at hc
  exact ⟨b, off, A', c', e, hb, hc⟩
theorem Pnd.rowk {k : Nat} (h : Pnd w B A pp) (hk : k < pp.length) : ∃ b off A' c', A = some ⟨b, off, none⟩ ∧ b < B ∧ w.cell? ⟨b, off + k, none⟩ = some (.slice A' (wide pp) c') ∧ Rd w B A' (ints (pp.getD k [])) ∧ Hid ((pp.getD k []).length = wide pp) := by
  obtain ⟨b, off, row, A', c', e, hb, hrow, hc, _, _, hr⟩ := h.2.row_ hk
  have h1 := (pond_row h.1 hrow.out).1
  have h2 : pp.getD k [] = row := by rw [List.getD_eq_getElem?_getD, hrow.out]; rfl
  rw [h1] at hc
  rw [h2]
  exact ⟨b, off, A', c', e, hb, hc, hr, Lib.hid h1⟩
/-- a cell of a valid pond -/
theorem Pnd.cell_ {c : Nat} (h : Pnd w B A pp) (hc : c < cnt pp) : ∃ b off A0 c0 b1 o1 c1, A = some ⟨b, off, none⟩ ∧ w.cell? ⟨b, off, none⟩ = some (.slice A0 (wide pp) c0) ∧
    w.cell? ⟨b, off + c / wide pp, none⟩ = some (.slice (some ⟨b1, o1, none⟩) (wide pp) c1) ∧ w.cell? ⟨b1, o1 + c % wide pp, none⟩ = some (.int .i64 (thk pp c)) := by
  obtain ⟨b, off, A0, c0, rfl, hb, h0⟩ := h.row0
  obtain ⟨b', off', row, A', c', e, _, hrow, hc', _, _, hr⟩ := h.2.row_ (row_y hc)
  injection e with e
  injection e with e1 e2
  subst e1 e2
  have h1 := (pond_row h.1 hrow.out).1
  rw [h1] at hc'
  have h2 := thk_row h.1 hc hrow.out
  obtain ⟨b1, o1, rfl, _, h3⟩ := hr.at_ (x := .int .i64 (thk pp c)) (k := c % wide pp) (by rw [ints, List.getElem?_map, h2]; rfl)
  exact ⟨b, off, A0, c0, b1, o1, c', rfl, h0, hc', h3⟩

/-- the steps between the cells of a pond -/
def nbP (pp : List (List Int)) : Nat → List Nat := nbs (wide pp) (cnt pp)
theorem gr_pond (h : pondB pp = true) : Gr (cnt pp) (nbP pp) := gr_nbs (pond_wide h).1
/-- the cells that bear a load, without one -/
def okB (pp : List (List Int)) (load but : Int) (i : Nat) : Bool := decide (i < cnt pp) && (decide (load ≤ thk pp i * thk pp i) && decide ((i : Int) ≠ but))
def okF (pp : List (List Int)) (load : Int) (i : Nat) : Bool := decide (i < cnt pp) && decide (load ≤ thk pp i * thk pp i)
theorem okB_none (pp : List (List Int)) (load : Int) : okB pp load (-1) = okF pp load := by
  funext i
  unfold okB okF
  have : decide ((i : Int) ≠ -1) = true := decide_eq_true (by omega)
  rw [this, Bool.and_true]
theorem okB_W (pp : List (List Int)) (load : Int) (v : Nat) : okB pp load (v : Int) = okW (okF pp load) v := by
  funext i
  unfold okB okW okF
  have : decide ((i : Int) ≠ (v : Int)) = decide (i ≠ v) := decide_eq_decide.2 (by omega)
  rw [this, Bool.and_assoc]
theorem okF_lt {load : Int} : ∀ i, okF pp load i = true → i < cnt pp := fun i h => by
  unfold okF at h
  simp only [Bool.and_eq_true, decide_eq_true_eq] at h
  exact h.1
theorem okB_lt {load but : Int} : ∀ i, okB pp load but i = true → i < cnt pp := fun i h => by
  unfold okB at h
  simp only [Bool.and_eq_true, decide_eq_true_eq] at h
  exact h.1
def rkF (pp : List (List Int)) (c : Nat) : Int := if inB (thk pp c) 0 999 then 1 + 200 / (thk pp c + 1) else 1
theorem rkF_ge (pp : List (List Int)) (c : Nat) : 1 ≤ rkF pp c := by
  unfold rkF
  split
  · next h =>
    have := inB_t h
    have := Int.ediv_nonneg (show (0 : Int) ≤ 200 by omega) (show 0 ≤ thk pp c + 1 by omega)
    omega
  · omega
theorem rkF_le (pp : List (List Int)) (c : Nat) : rkF pp c ≤ 201 := by
  unfold rkF
  split
  · next h =>
    have := inB_t h
    have := Int.ediv_le_self (a := 200) (thk pp c + 1) (by omega)
    omega
  · omega
theorem rkF_eq (h : pondB pp = true) {c : Nat} (hc : c < cnt pp) : rkF pp c = 1 + 200 / (thk pp c + 1) := by
  unfold rkF
  rw [inB_mk (thk_bd h hc)]; rfl
def safeF (pp : List (List Int)) (load : Int) : List Bool := (List.range (cnt pp)).map (okF pp load)
theorem safeF_len (pp : List (List Int)) (load : Int) : (safeF pp load).length = cnt pp := by simp [safeF]
theorem safeF_at (pp : List (List Int)) (load : Int) : isd (safeF pp load) = okF pp load := by
  funext i
  unfold isd safeF
  rw [List.getD_eq_getElem?_getD, List.getElem?_map]
  rcases Nat.lt_or_ge i (cnt pp) with h | h
  · rw [List.getElem?_range h]; rfl
  · rw [List.getElem?_eq_none (by simpa using h)]
    unfold okF
    rw [decide_eq_false (by omega)]; rfl
end

end Go.Proofs.Ytggdnpaiaijhgaa

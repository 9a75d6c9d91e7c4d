/- Words of chapter 4: lists of integers in memory, read and made; answers that are lists. -/
import Derived.Test.YtcjcdlhmhhbkgaaRuns
import Derived.Test.YtcjcdlhmhhbkgaaLMathB
namespace Go.Proofs.Ytcjcdlhmhhbkgaa
open Go.RowKit
set_option linter.unusedVariables false
set_option linter.unusedSimpArgs false
theorem ints_set (zs : List Int) (i : Nat) (z : Int) : (ints zs).set i (.int .i64 z) = ints (zs.set i z) := by rw [ints, ints, List.map_set]
theorem ints_el {zs : List Int} {k : Nat} (h : k < zs.length) : (ints zs)[k]? = some (.int .i64 (el zs k)) := by
  rw [ints, List.getElem?_map, of_el h]; rfl
theorem rg_len {α : Type} (f : Nat → α) (n : Nat) : ((List.range n).map f).length = n := by simp
section
variable {w w' : World} {B B' : Nat} {A : Option Addr} {xs : List Value}
theorem Rd.el_ {zs : List Int} {k : Nat} (h : Rd w B A (ints zs)) (hk : k < zs.length) : ∃ b off, A = some ⟨b, off, none⟩ ∧ b < B ∧ w.cell? ⟨b, off + k, none⟩ = some (.int .i64 (el zs k)) :=
  h.at_ (ints_el hk)
theorem Rd.els {b off : Nat} {zs : List Int} {k : Nat} (h : Rd w B (some ⟨b, off, none⟩) (ints zs)) (hk : k < zs.length) : w.cell? ⟨b, off + k, none⟩ = some (.int .i64 (el zs k)) := by
  obtain ⟨b', off', e, _, hc⟩ := h.el_ hk
  injection e with e
  injection e with e1 e2
  subst e1 e2
  exact hc
theorem Rd.up (h : Rd w w.heap.size A xs) (hb : Below w.heap.size w w') : Rd w' w'.heap.size A xs := (h.below hb).more hb.size
/-- A list that a call made and that is not empty: its block. -/
theorem own_some {base n c : Nat} {T : TypeId} (h : w.ownsRow base T 1 (.slice A n c) n xs) (hn : 0 < n) : ∃ g, A = some ⟨g, 0, none⟩ ∧ base ≤ g ∧ g < w.heap.size ∧ n ≤ c ∧ c ≤ maxLen := by
  obtain ⟨g, f, h1, h2, h3, _, h4, h5⟩ := own_row h hn
  exact ⟨g, h1, h2, h3, h4, h5⟩
theorem own_cell {base n c g : Nat} {T : TypeId} (h : w.ownsRow base T 1 (.slice (some ⟨g, 0, none⟩) n c) n xs) {k : Nat} {x : Value} (hx : xs[k]? = some x) : w.cell? ⟨g, k, none⟩ = some x := by
  obtain ⟨b, off, e, _, hc⟩ := (Rd.own h).at_ hx
  injection e with e
  injection e with e1 e2
  subst e1 e2
  simpa using hc
theorem own_frozen {base n c g : Nat} {T : TypeId} (h : w.ownsRow base T 1 (.slice (some ⟨g, 0, none⟩) n c) n xs) (k : Nat) : w.frozen? ⟨g, k, none⟩ = false := by
  rcases h.2 with ⟨h0, _⟩ | ⟨g', cap, cur, hv, _, hh, _⟩
  · cases h0
  · obtain rfl : g = g' := by injection hv with h1; injection h1 with h1; injection h1
    simp [World.frozen?, hh]
theorem own_put {base n c g : Nat} {T : TypeId} (h : w.ownsRow base T 1 (.slice (some ⟨g, 0, none⟩) n c) n xs) (k : Nat) (y : Value) :
    (w.setCell ⟨g, k, none⟩ y).ownsRow base T 1 (.slice (some ⟨g, 0, none⟩) n c) n (xs.set k y) := by
  refine ⟨by simpa using h.1, ?_⟩
  rcases h.2 with ⟨h0, _⟩ | ⟨g', cap, cur, hv, hg, hh, hnc, hcm, hs, ht⟩
  · cases h0
  · obtain ⟨rfl, rfl⟩ : g = g' ∧ c = cap := by injection hv with h1 _ h3; injection h1 with h1; injection h1 with h1; exact ⟨h1, h3⟩
    refine .inr ⟨g, c, cur.setIfInBounds k y, rfl, hg, ?_, hnc, hcm, by simpa using hs, ?_⟩
    · simp [World.setCell, Array.getElem?_modify, hh]
    · rw [Array.toList_setIfInBounds, List.take_set, ht]
/-- .. stands where another block is written. -/
theorem own_other {base n b k : Nat} {T : TypeId} {v : Value} (h : w.ownsRow base T 1 v n xs) (hb : v.ownBlock ≠ some b) (y : Value) : (w.setCell ⟨b, k, none⟩ y).ownsRow base T 1 v n xs := by
  refine ⟨h.1, ?_⟩
  rcases h.2 with h0 | ⟨g', cap, cur, h1, h2, h3, h4⟩
  · exact .inl h0
  · refine .inr ⟨g', cap, cur, h1, h2, ?_, h4⟩
    rw [← h3]
    refine Below.heap_setCell w ⟨b, k, none⟩ y g' fun e => hb ?_
    subst h1
    simp [Value.ownBlock, e]
theorem own_apart {base n b : Nat} {T : TypeId} {v : Value} (h : w.ownsRow base T 1 v n xs) (hb : b < base) : v.ownBlock ≠ some b := fun e => by
  have := own_block h b e
  omega
/-- .. stands where another list that a call made has grown. -/
theorem own_grown {base n : Nat} {T : TypeId} {v : Value} {r : Option Nat} (h : w.ownsRow base T 1 v n xs) (hg : w.grownBy w' r) (hb : ∀ k, r = some k → v.ownBlock ≠ some k) : w'.ownsRow base T 1 v n xs := by
  have hl := own_lt h
  refine ⟨h.1, ?_⟩
  rcases h.2 with h0 | ⟨g', cap, cur, h1, h2, h3, h4⟩
  · exact .inl h0
  · refine .inr ⟨g', cap, cur, h1, h2, ?_, h4⟩
    rw [← h3]
    refine hg.block g' (hl g' (by subst h1; rfl)) fun e => ?_
    exact hb g' e.symm (by subst h1; rfl)
theorem own_one (w : World) (T : TypeId) (x : Value) : (w.alloc (.cells #[x] T)).ownsRow w.heap.size T 1 (.slice (some ⟨w.heap.size, 0, none⟩) 1 1) 1 [x] :=
  ⟨rfl, .inr ⟨w.heap.size, 1, #[x], rfl, Nat.le_refl _, heap_alloc_new w _, Nat.le_refl _, by unfold maxLen; omega, rfl, rfl⟩⟩
theorem own_alloc {base n : Nat} {T : TypeId} {v : Value} (h : w.ownsRow base T 1 v n xs) (o : Obj) : (w.alloc o).ownsRow base T 1 v n xs := own_below h ((Below.refl _ _).alloc (Nat.le_refl _) o)
theorem own_made (w : World) (z : Value) (n : Nat) (T : TypeId) (hn : n ≤ maxLen) : (w.alloc (.cells (madeCells #[z] n) T)).ownsRow w.heap.size T 1 (.slice (some ⟨w.heap.size, 0, none⟩) n n) n (List.replicate n z) :=
  own_of_row (World.rowIs_made w z n T) (by simp) (fun i hi => by simp [hi]) (Nat.le_refl _) hn

theorem drewN_add (w : World) (a : Nat) : ∀ b : Nat, (w.drewN a).drewN b = w.drewN (a + b) := fun b => by
  simp [World.drewN, Nat.add_assoc]
theorem quiet_draw {P : Program} {f : FuncId} {args : Array Value} {n : Nat} {v : Value}
    (h : Calls P f args (w.drewN n) fun e w' => e = .returned v ∧ ∃ m, w' = (w.drewN n).drewN m) : Calls P f args (w.drewN n) fun e w'' => e = .returned v ∧ ∃ m, w'' = w.drewN m :=
  h.mono fun _ _ ⟨he, m, hm⟩ => ⟨he, n + m, by rw [hm, drewN_add]⟩

theorem one_new (w : World) (x : Value) (T : TypeId) (b : Nat) (hb : b = w.heap.size) : ∀ (j : Nat) (u : Value), [x][j]? = some u → (w.alloc (.cells #[x] T)).cell? ((⟨b, 0, none⟩ : Addr).add j) = some u := by
  intro j u hj
  subst hb
  match j, hj with
  | 0, hj => simp at hj; subst hj; simp [Addr.add]
end
/-- a list of integers that a call made -/
def OutI (l : List Int) (w : World) (e : Ending) (w' : World) : Prop :=
  ∃ A' c', e = .returned (.slice A' l.length c') ∧ w'.ownsRow w.heap.size 3 1 (.slice A' l.length c') l.length (ints l) ∧ Below w.heap.size w w'
theorem out_mk {w w' : World} {n : Nat} {v : Value} {l : List Int} (hl : l.length = n) (h : w'.ownsRow w.heap.size 3 1 v n (ints l)) (hb : Below w.heap.size w w') : OutI l w (.returned v) w' := by
  subst hl
  obtain ⟨A', c', rfl⟩ := own_form h
  exact ⟨A', c', rfl, h, hb⟩
theorem out_nil (w : World) : OutI [] w (.returned (.slice none 0 0)) w := ⟨_, _, rfl, ⟨rfl, .inl ⟨rfl, rfl⟩⟩, Below.refl _ _⟩

/-- a list of which the first k numbers are new -/
def mixL (f h : Nat → Int) (n k : Nat) : List Int := (List.range n).map (fun i => if i < k then f i else h i)
theorem mixL_len (f h : Nat → Int) (n k : Nat) : (mixL f h n k).length = n := rg_len _ n
theorem mixL_zero (f h : Nat → Int) (n : Nat) : mixL f h n 0 = (List.range n).map h := by simp [mixL]
theorem mixL_all (f h : Nat → Int) (n : Nat) : mixL f h n n = (List.range n).map f := by
  apply List.ext_getElem
  · simp [mixL]
  · intro i h1 h2
    have : i < n := by simpa [mixL] using h1
    simp [mixL, this]
theorem mixL_set {f h : Nat → Int} {n k : Nat} (hk : k < n) : (mixL f h n k).set k (f k) = mixL f h n (k + 1) := by
  apply List.ext_getElem
  · simp [mixL]
  · intro i h1 h2
    rw [List.getElem_set]
    simp only [mixL, List.getElem_map, List.getElem_range]
    by_cases e : k = i
    · subst e; simp
    · rw [if_neg e]
      by_cases g : i < k
      · rw [if_pos g, if_pos (by omega)]
      · rw [if_neg g, if_neg (by omega)]
theorem mixL_lt {f h : Nat → Int} {n k j : Nat} (hj : j < k) (hn : j < n) : el (mixL f h n k) j = f j := by
  unfold mixL
  rw [el_map hn, if_pos hj]
theorem mixL_ge {f h : Nat → Int} {n k j : Nat} (hj : k ≤ j) (hn : j < n) : el (mixL f h n k) j = h j := by
  unfold mixL
  rw [el_map hn, if_neg (by omega)]
theorem zeros_eq (n : Nat) : (List.range n).map (fun _ => (0 : Int)) = List.replicate n 0 := by
  apply List.ext_getElem <;> simp

end Go.Proofs.Ytcjcdlhmhhbkgaa

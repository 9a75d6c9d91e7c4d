/- Lists of lists that a call made: copies, comparison, marks; lists of bools. -/
import Derived.Test.YtiihenhddleooacInts
import Derived.Test.YtiihenhddleooacSafe
import Derived.Test.YtiihenhddleooacLists
namespace Go.Proofs.Ytiihenhddleooac
open Go.RowKit
set_option linter.unusedVariables false
set_option linter.unusedSimpArgs false
theorem info_slices : True := trivial
/-- A list of lists that a call made, in blocks from base up to hi, no two in one block. -/
structure OwnG (w : World) (base hi : Nat) (A : Option Addr) (n c : Nat) (xs : List Value) (pp : List (List Int)) : Prop where
  out : w.ownsRow base 32 1 (.slice A n c) n xs
  len : pp.length = n
  row : ∀ (k : Nat) (r : List Int), pp[k]? = some r → ∃ (A' : Option Addr) (c' : Nat), xs[k]? = some (Value.slice A' r.length c') ∧ w.ownsRow base 3 1 (.slice A' r.length c') r.length (ints r)
  sep : ∀ (i j : Nat) (u v : Value) (b : Nat), xs[i]? = some u → xs[j]? = some v → u.ownBlock = some b → v.ownBlock = some b → i = j
  top : ∀ (i : Nat) (u : Value) (b : Nat), xs[i]? = some u → u.ownBlock = some b → (Value.slice A n c).ownBlock ≠ some b
  hi_ : ∀ (i : Nat) (u : Value) (b : Nat), xs[i]? = some u → u.ownBlock = some b → b < hi
  hio : ∀ b : Nat, (Value.slice A n c).ownBlock = some b → b < hi
section
variable {w w' : World} {base hi : Nat} {A : Option Addr} {n c : Nat} {xs : List Value} {pp : List (List Int)}
theorem OwnG.far (h : OwnG w base hi A n c xs pp) (hk : ∀ k, base ≤ k → k < hi → w'.heap[k]? = w.heap[k]?) : OwnG w' base hi A n c xs pp := by
  have one : ∀ {T : TypeId} {v : Value} {m : Nat} {ys : List Value}, w.ownsRow base T 1 v m ys → (∀ b, v.ownBlock = some b → b < hi) → w'.ownsRow base T 1 v m ys := by
    intro T v m ys ho hb
    refine ⟨ho.1, ?_⟩
    rcases ho.2 with h0 | ⟨g', cap, cur, h1, h2, h3, h4⟩
    · exact .inl h0
    · exact .inr ⟨g', cap, cur, h1, h2, by rw [hk g' h2 (hb g' (by rw [h1]; rfl))]; exact h3, h4⟩
  exact ⟨one h.out h.hio, h.len, fun k r hr => by obtain ⟨A', c', h1, h2⟩ := h.row k r hr; exact ⟨A', c', h1, one h2 (fun b hb => h.hi_ k _ b h1 hb)⟩, h.sep, h.top, h.hi_, h.hio⟩
theorem OwnG.below (h : OwnG w base hi A n c xs pp) (hh : hi ≤ w.heap.size) (hb : Below w.heap.size w w') : OwnG w' base hi A n c xs pp := h.far fun k _ hk => hb.block k (by omega)
theorem OwnG.rd (h : OwnG w base hi A n c xs pp) : RdG w w.heap.size A pp :=
  ⟨xs, by have := h.out.1; have := h.len; omega, Rd.own h.out, fun k r hr => by
    obtain ⟨A', c', h1, h2⟩ := h.row k r hr
    have hcap : r.length ≤ c' ∧ c' ≤ maxLen := by
      rcases h2.2 with ⟨h0, hz⟩ | ⟨g, cap, cur, hv, _, _, hnc, hcm, _⟩
      · injection h0 with _ q1 q2; omega
      · injection hv with _ _ q2; subst q2; exact ⟨hnc, hcm⟩
    exact ⟨A', c', h1, hcap.1, hcap.2, Rd.own h2⟩⟩
end
/-- how large: the rows and all that is in them. -/
def sizes (pp : List (List Int)) : Nat := pp.length + (pp.map List.length).sum
theorem sum_take_le (pp : List (List Int)) (k : Nat) : ((pp.take k).map List.length).sum ≤ (pp.map List.length).sum := by
  have h : (pp.map List.length).sum = ((pp.take k).map List.length).sum + ((pp.drop k).map List.length).sum := by
    rw [← List.sum_append, ← List.map_append, List.take_append_drop]
  omega
theorem sum_take_succ {pp : List (List Int)} {k : Nat} {r : List Int} (h : pp[k]? = some r) : ((pp.take (k + 1)).map List.length).sum = ((pp.take k).map List.length).sum + r.length := by
  rw [take_snoc h]; simp
theorem sizes_row {pp : List (List Int)} {k : Nat} {r : List Int} (h : pp[k]? = some r) : pp.length + ((pp.take k).map List.length).sum + r.length ≤ sizes pp := by
  have := sum_take_le pp (k + 1)
  rw [sum_take_succ h] at this
  unfold sizes
  omega
def SzPost (pp : List (List Int)) (w : World) (e : Ending) (w' : World) : Prop := (∃ z : Int, e = .returned (.int .i64 z) ∧ ((z = -1) ∨ (0 ≤ z ∧ sizes pp ≤ 1048576))) ∧ w = w'
/-- the copy, half done: the first k rows are there -/
structure CopG (w w' : World) (n k : Nat) (xs : List Value) (pp : List (List Int)) : Prop where
  out : w'.ownsRow w.heap.size 32 1 (.slice (some ⟨w.heap.size, 0, none⟩) n n) n xs
  row : ∀ (j : Nat) (r : List Int), j < k → pp[j]? = some r → ∃ (A' : Option Addr) (c' : Nat), xs[j]? = some (Value.slice A' r.length c') ∧ w'.ownsRow (w.heap.size + 1) 3 1 (.slice A' r.length c') r.length (ints r)
  sep : ∀ (i j : Nat) (u v : Value) (b : Nat), i < k → j < k → xs[i]? = some u → xs[j]? = some v → u.ownBlock = some b → v.ownBlock = some b → i = j
  low : ∀ (i : Nat) (u : Value) (b : Nat), i < k → xs[i]? = some u → u.ownBlock = some b → w.heap.size < b ∧ b < w'.heap.size
  bel : Below w.heap.size w w'
  sz : w.heap.size + 1 ≤ w'.heap.size
theorem CopG.step {w w1 w2 : World} {n k : Nat} {xs : List Value} {pp : List (List Int)} {r : List Int} {A' : Option Addr} {c' : Nat} (h : CopG w w1 n k xs pp) (hk : k < n) (hr : pp[k]? = some r)
    (ho : w2.ownsRow w1.heap.size 3 1 (.slice A' r.length c') r.length (ints r)) (hb : Below w1.heap.size w1 w2) :
    CopG w (w2.setCell ⟨w.heap.size, k, none⟩ (.slice A' r.length c')) n (k + 1) (xs.set k (.slice A' r.length c')) pp := by
  have hsz := h.sz
  have hb2 := hb.size
  have hxl := h.out.1
  have get : ∀ j, j ≠ k → (xs.set k (.slice A' r.length c'))[j]? = xs[j]? := fun j hj => List.getElem?_set_ne (fun e => hj e.symm)
  have self : (xs.set k (.slice A' r.length c'))[k]? = some (.slice A' r.length c') := by rw [List.getElem?_set_self]; omega
  have hs2 : (w2.setCell ⟨w.heap.size, k, none⟩ (.slice A' r.length c')).heap.size = w2.heap.size := by simp [World.setCell]
  refine ⟨own_put (own_below h.out hb) k _, ?_, ?_, ?_, (h.bel.trans (hb.mono h.bel.size)).setCell (by simp) _, by rw [hs2]; omega⟩
  · intro j r' hj hr'
    by_cases e : j = k
    · subst e
      rw [hr] at hr'
      injection hr' with hr'
      subst hr'
      exact ⟨A', c', self, own_other (own_base ho (by omega)) (own_apart ho (by omega)) _⟩
    · obtain ⟨A2, c2, h1, h2⟩ := h.row j r' (by omega) hr'
      exact ⟨A2, c2, by rw [get j e]; exact h1, own_other (own_below h2 hb) (own_apart h2 (by omega)) _⟩
  · intro i j u v b hi hj hu hv hbu hbv
    by_cases ei : i = k <;> by_cases ej : j = k
    · omega
    · subst ei
      rw [self] at hu; injection hu with hu; subst hu
      rw [get j ej] at hv
      have := own_block ho b hbu
      have := h.low j v b (by omega) hv hbv
      omega
    · subst ej
      rw [self] at hv; injection hv with hv; subst hv
      rw [get i ei] at hu
      have := own_block ho b hbv
      have := h.low i u b (by omega) hu hbu
      omega
    · rw [get i ei] at hu; rw [get j ej] at hv
      exact h.sep i j u v b (by omega) (by omega) hu hv hbu hbv
  · intro i u b hi hu hbu
    rw [hs2]
    by_cases ei : i = k
    · subst ei
      rw [self] at hu; injection hu with hu; subst hu
      have := own_block ho b hbu
      have := own_lt ho b hbu
      omega
    · rw [get i ei] at hu
      have := h.low i u b (by omega) hu hbu
      omega
theorem CopG.done {w w1 : World} {n : Nat} {xs : List Value} {pp : List (List Int)} (h : CopG w w1 n n xs pp) (hn : pp.length = n) : OwnG w1 w.heap.size w1.heap.size (some ⟨w.heap.size, 0, none⟩) n n xs pp := by
  have hx := h.out.1
  have lt : ∀ (i : Nat) (u : Value), xs[i]? = some u → i < n := fun i u hu => by have := (List.getElem?_eq_some_iff.1 hu).1; omega
  exact ⟨h.out, hn, fun k r hr => by
      obtain ⟨A', c', h1, h2⟩ := h.row k r (by have := (List.getElem?_eq_some_iff.1 hr).1; omega) hr
      exact ⟨A', c', h1, own_base h2 (by omega)⟩,
    fun i j u v b hu hv => h.sep i j u v b (lt i u hu) (lt j v hv) hu hv,
    fun i u b hu hb e => by have := h.low i u b (lt i u hu) hu hb; simp [Value.ownBlock] at e; omega,
    fun i u b hu hb => (h.low i u b (lt i u hu) hu hb).2,
    fun b hb => own_lt h.out b hb⟩
def OutG (pp : List (List Int)) (w : World) (e : Ending) (w' : World) : Prop := ∃ A c xs, e = .returned (.slice A pp.length c) ∧ OwnG w' w.heap.size w'.heap.size A pp.length c xs pp ∧ Below w.heap.size w w'
end Go.Proofs.Ytiihenhddleooac

/- Lists of lists that a call made: copies, comparison, marks; lists of bools. -/
import Derived.Test.YtggdnpaiaijhgaaInts
import Derived.Test.YtggdnpaiaijhgaaSafe
import Derived.Test.YtggdnpaiaijhgaaLists
namespace Go.Proofs.Ytggdnpaiaijhgaa
open Go.RowKit
set_option linter.unusedVariables false
set_option linter.unusedSimpArgs false
theorem info_slices : True := trivial
/-- A list of lists that a call made, in blocks from base up to hi, no two in one block. -/
structure OwnG (w : World) (base hi : Nat) (A : Option Addr) (n c : Nat) (xs : List Value) (pp : List (List Int)) : Prop where
  out : w.ownsRow base 37 1 (.slice A n c) n xs
  len : pp.length = n
  row : ∀ (k : Nat) (r : List Int), pp[k]? = some r → ∃ (A' : Option Addr) (c' : Nat), xs[k]? = some (Value.slice A' r.length c') ∧ w.ownsRow base 3 1 (.slice A' r.length c') r.length (ints r)
  sep : ∀ (i j : Nat) (u v : Value) (b : Nat), xs[i]? = some u → xs[j]? = some v → u.ownBlock = some b → v.ownBlock = some b → i = j
  top : ∀ (i : Nat) (u : Value) (b : Nat), xs[i]? = some u → u.ownBlock = some b → (Value.slice A n c).ownBlock ≠ some b
  hi_ : ∀ (i : Nat) (u : Value) (b : Nat), xs[i]? = some u → u.ownBlock = some b → b < hi
  hio : ∀ b : Nat, (Value.slice A n c).ownBlock = some b → b < hi
section
variable {w w' : World} {base hi : Nat} {A : Option Addr} {n c : Nat} {xs : List Value} {pp : List (List Int)}
theorem OwnG.far (h : OwnG w base hi A n c xs pp) (hk : ∀ k, base ≤ k → k < hi → w'.heap[k]? = w.heap[k]?) : OwnG w' base hi A n c xs pp := by
  have one : ∀ {T : TypeId} {v : Value} {m : Nat} {ys : List Value}, w.ownsRow base T 1 v m ys → (∀ b, v.ownBlock = some b → b < hi) → w'.ownsRow base T 1 v m ys := by
    intro T v m ys ho hb
    refine ⟨ho.1, ?_⟩
    rcases ho.2 with h0 | ⟨g', cap, cur, h1, h2, h3, h4⟩
    · exact .inl h0
    · exact .inr ⟨g', cap, cur, h1, h2, by rw [hk g' h2 (hb g' (by rw [h1]; rfl))]; exact h3, h4⟩
  exact ⟨one h.out h.hio, h.len, fun k r hr => by obtain ⟨A', c', h1, h2⟩ := h.row k r hr; exact ⟨A', c', h1, one h2 (fun b hb => h.hi_ k _ b h1 hb)⟩, h.sep, h.top, h.hi_, h.hio⟩
theorem OwnG.below (h : OwnG w base hi A n c xs pp) (hh : hi ≤ w.heap.size) (hb : Below w.heap.size w w') : OwnG w' base hi A n c xs pp := h.far fun k _ hk => hb.block k (by omega)
theorem OwnG.rd (h : OwnG w base hi A n c xs pp) : RdG w w.heap.size A pp :=
  ⟨xs, by have := h.out.1; have := h.len; omega, Rd.own h.out, fun k r hr => by
    obtain ⟨A', c', h1, h2⟩ := h.row k r hr
    have hcap : r.length ≤ c' ∧ c' ≤ maxLen := by
      rcases h2.2 with ⟨h0, hz⟩ | ⟨g, cap, cur, hv, _, _, hnc, hcm, _⟩
      · injection h0 with _ q1 q2; omega
      · injection hv with _ _ q2; subst q2; exact ⟨hnc, hcm⟩
    exact ⟨A', c', h1, hcap.1, hcap.2, Rd.own h2⟩⟩
end
/-- how large: the rows and all that is in them. -/
def sizes (pp : List (List Int)) : Nat := pp.length + (pp.map List.length).sum
theorem sum_take_le (pp : List (List Int)) (k : Nat) : ((pp.take k).map List.length).sum ≤ (pp.map List.length).sum := by
  have h : (pp.map List.length).sum = ((pp.take k).map List.length).sum + ((pp.drop k).map List.length).sum := by
    rw [← List.sum_append, ← List.map_append, List.take_append_drop]
  omega
theorem sum_take_succ {pp : List (List Int)} {k : Nat} {r : List Int} (h : pp[k]? = some r) : ((pp.take (k + 1)).map List.length).sum = ((pp.take k).map List.length).sum + r.length := by
  rw [take_snoc h]; simp
theorem sizes_row {pp : List (List Int)} {k : Nat} {r : List Int} (h : pp[k]? = some r) : pp.length + ((pp.take k).map List.length).sum + r.length ≤ sizes pp := by
  have := sum_take_le pp (k + 1)
  rw [sum_take_succ h] at this
  unfold sizes
  omega
set_option maxRecDepth 100000 in
set_option maxHeartbeats 400000 in
theorem szIntS_any (n : Nat) (A : Option Addr) (c : Nat) (l : Int) (h0 : -1 ≤ l) (h1 : l ≤ 1048576) (hn : n ≤ maxLen) (w : World) :
    Calls Try.prog 59 #[.slice A n c, .int .i64 l] w fun e w' => e = .returned (.int .i64 (if l < n then -1 else l - n)) ∧ w = w' := by
  unfold maxLen at hn
  by_cases h : l < n
  · rw [if_pos h]
    have h2 : l - (n : Int) < 0 := by omega
    go_enter Try.func59, Try.ntmps59
    go_wp2
    go_ret
    exact ⟨rfl, rfl⟩
  · rw [if_neg h]
    have h2 : 0 ≤ l - (n : Int) := by omega
    go_enter Try.func59, Try.ntmps59
    go_wp2
    go_ret
    exact ⟨rfl, rfl⟩
def SzPost (pp : List (List Int)) (w : World) (e : Ending) (w' : World) : Prop := (∃ z : Int, e = .returned (.int .i64 z) ∧ ((z = -1) ∨ (0 ≤ z ∧ sizes pp ≤ 1048576))) ∧ w = w'
set_option maxRecDepth 100000 in
set_option maxHeartbeats 800000 in
theorem szIntSS_any (pp : List (List Int)) (A : Option Addr) (c : Nat) (w : World) (B : Nat) (hg : RdG w B A pp) (hn : pp.length ≤ maxLen) :
    Calls Try.prog 18 #[.slice A pp.length c, .int .i64 1048576] w (SzPost pp w) := by
  unfold maxLen at hn
  by_cases h : (1048576 : Int) < pp.length
  · have h2 : (1048576 : Int) - (pp.length : Int) < 0 := by omega
    go_enter Try.func18, Try.ntmps18
    go_wp2
    go_ret
    exact ⟨⟨_, rfl, .inl rfl⟩, rfl⟩
  · have h2 : 0 ≤ (1048576 : Int) - (pp.length : Int) := by omega
    go_enter Try.func18, Try.ntmps18
    go_wp2
    go_loop [1, 5] (fun v i => ∃ (k : Nat) (z : Int), k ≤ pp.length ∧ i = .int .i64 k ∧ v = .int .i64 z ∧ 0 ≤ z ∧ z + pp.length + ((pp.take k).map List.length).sum = 1048576) (fun _ i => pp.length - (intOf i).toNat)
    case atStart => exact ⟨0, _, Nat.zero_le _, rfl, rfl, h2, by simp⟩
    case round =>
      obtain ⟨k, z, hk, rfl, rfl, hz, hs⟩ := hrel
      have HS := Lib.hid hs
      have hz1 : z ≤ 1048576 := by omega
      clear hs
      by_cases hlt : k < pp.length
      · obtain ⟨b, off, row, A', c', rfl, hb, hrow, hc, hrc, hcm, hr⟩ := hg.row_ hlt
        have hrl : row.length ≤ maxLen := Nat.le_trans hrc hcm
        have HSR := Lib.hid (sum_take_succ hrow.out)
        generalize hL : row.length = L at *
        clear hL
        have hL2 := hrl
        unfold maxLen at hL2
        go_wp2_with fail
        refine (szIntS_any L _ _ z (by omega) hz1 hrl _).mono ?_
        rintro e w' ⟨rfl, rfl⟩
        by_cases hzl : z < L
        · rw [if_pos hzl]
          go_wp2
          go_ret
          exact ⟨⟨_, rfl, .inl rfl⟩, rfl⟩
        · rw [if_neg hzl]
          have hzz : 0 ≤ z - (L : Int) := by omega
          go_wp2
          go_round
          case rel => exact ⟨k + 1, z - L, by omega, by go_num, rfl, by omega, by have h1 := HSR.out; have h2 := HS.out; rw [h1]; omega⟩
          case measure => simp [intOf]; omega
      · have HK : Hid (pp.take k = pp) := Lib.hid (List.take_of_length_le (by omega))
        go_wp2
        go_ret
        exact ⟨⟨z, rfl, .inr ⟨hz, by have h1 := HS.out; rw [HK.out] at h1; unfold sizes; omega⟩⟩, rfl⟩
/-- the copy, half done: the first k rows are there -/
structure CopG (w w' : World) (n k : Nat) (xs : List Value) (pp : List (List Int)) : Prop where
  out : w'.ownsRow w.heap.size 37 1 (.slice (some ⟨w.heap.size, 0, none⟩) n n) n xs
  row : ∀ (j : Nat) (r : List Int), j < k → pp[j]? = some r → ∃ (A' : Option Addr) (c' : Nat), xs[j]? = some (Value.slice A' r.length c') ∧ w'.ownsRow (w.heap.size + 1) 3 1 (.slice A' r.length c') r.length (ints r)
  sep : ∀ (i j : Nat) (u v : Value) (b : Nat), i < k → j < k → xs[i]? = some u → xs[j]? = some v → u.ownBlock = some b → v.ownBlock = some b → i = j
  low : ∀ (i : Nat) (u : Value) (b : Nat), i < k → xs[i]? = some u → u.ownBlock = some b → w.heap.size < b ∧ b < w'.heap.size
  bel : Below w.heap.size w w'
  sz : w.heap.size + 1 ≤ w'.heap.size
theorem CopG.step {w w1 w2 : World} {n k : Nat} {xs : List Value} {pp : List (List Int)} {r : List Int} {A' : Option Addr} {c' : Nat} (h : CopG w w1 n k xs pp) (hk : k < n) (hr : pp[k]? = some r)
    (ho : w2.ownsRow w1.heap.size 3 1 (.slice A' r.length c') r.length (ints r)) (hb : Below w1.heap.size w1 w2) :
    CopG w (w2.setCell ⟨w.heap.size, k, none⟩ (.slice A' r.length c')) n (k + 1) (xs.set k (.slice A' r.length c')) pp := by
  have hsz := h.sz
  have hb2 := hb.size
  have hxl := h.out.1
  have get : ∀ j, j ≠ k → (xs.set k (.slice A' r.length c'))[j]? = xs[j]? := fun j hj => List.getElem?_set_ne (fun e => hj e.symm)
  have self : (xs.set k (.slice A' r.length c'))[k]? = some (.slice A' r.length c') := by rw [List.getElem?_set_self]; omega
  have hs2 : (w2.setCell ⟨w.heap.size, k, none⟩ (.slice A' r.length c')).heap.size = w2.heap.size := by simp [World.setCell]
  refine ⟨own_put (own_below h.out hb) k _, ?_, ?_, ?_, (h.bel.trans (hb.mono h.bel.size)).setCell (by simp) _, by rw [hs2]; omega⟩
  · intro j r' hj hr'
    by_cases e : j = k
    · subst e
      rw [hr] at hr'
      injection hr' with hr'
      subst hr'
      exact ⟨A', c', self, own_other (own_base ho (by omega)) (own_apart ho (by omega)) _⟩
    · obtain ⟨A2, c2, h1, h2⟩ := h.row j r' (by omega) hr'
      exact ⟨A2, c2, by rw [get j e]; exact h1, own_other (own_below h2 hb) (own_apart h2 (by omega)) _⟩
  · intro i j u v b hi hj hu hv hbu hbv
    by_cases ei : i = k <;> by_cases ej : j = k
    · omega
    · subst ei
      rw [self] at hu; injection hu with hu; subst hu
      rw [get j ej] at hv
      have := own_block ho b hbu
      have := h.low j v b (by omega) hv hbv
      omega
    · subst ej
      rw [self] at hv; injection hv with hv; subst hv
      rw [get i ei] at hu
      have := own_block ho b hbv
      have := h.low i u b (by omega) hu hbu
      omega
    · rw [get i ei] at hu; rw [get j ej] at hv
      exact h.sep i j u v b (by omega) (by omega) hu hv hbu hbv
  · intro i u b hi hu hbu
    rw [hs2]
    by_cases ei : i = k
    · subst ei
      rw [self] at hu; injection hu with hu; subst hu
      have := own_block ho b hbu
      have := own_lt ho b hbu
      omega
    · rw [get i ei] at hu
      have := h.low i u b (by omega) hu hbu
      omega
theorem CopG.done {w w1 : World} {n : Nat} {xs : List Value} {pp : List (List Int)} (h : CopG w w1 n n xs pp) (hn : pp.length = n) : OwnG w1 w.heap.size w1.heap.size (some ⟨w.heap.size, 0, none⟩) n n xs pp := by
  have hx := h.out.1
  have lt : ∀ (i : Nat) (u : Value), xs[i]? = some u → i < n := fun i u hu => by have := (List.getElem?_eq_some_iff.1 hu).1; omega
  exact ⟨h.out, hn, fun k r hr => by
      obtain ⟨A', c', h1, h2⟩ := h.row k r (by have := (List.getElem?_eq_some_iff.1 hr).1; omega) hr
      exact ⟨A', c', h1, own_base h2 (by omega)⟩,
    fun i j u v b hu hv => h.sep i j u v b (lt i u hu) (lt j v hv) hu hv,
    fun i u b hu hb e => by have := h.low i u b (lt i u hu) hu hb; simp [Value.ownBlock] at e; omega,
    fun i u b hu hb => (h.low i u b (lt i u hu) hu hb).2,
    fun b hb => own_lt h.out b hb⟩
def OutG (pp : List (List Int)) (w : World) (e : Ending) (w' : World) : Prop := ∃ A c xs, e = .returned (.slice A pp.length c) ∧ OwnG w' w.heap.size w'.heap.size A pp.length c xs pp ∧ Below w.heap.size w w'
set_option maxRecDepth 100000 in
set_option maxHeartbeats 800000 in
theorem toIntSS_any (pp : List (List Int)) (A : Option Addr) (c : Nat) (w : World) (hg : RdG w w.heap.size A pp) (hn : sizes pp ≤ 1048576) :
    Calls Try.prog 20 #[.slice A pp.length c] w (OutG pp w) := by
  have hpl : pp.length ≤ 1048576 := by unfold sizes at hn; omega
  have HROW : Hid (∀ (k : Nat) (r : List Int), pp[k]? = some r → r.length ≤ 1048576) := Lib.hid fun k r h => by have := sizes_row h; omega
  have hmk := run_make_row' (P := Try.prog) 22 37 (.slice none 0 0) 24 Try.underlying22 info_ints rfl .i64 .i64 pp.length (by omega) (by omega)
  go_enter Try.func20, Try.ntmps20
  go_wp2
  go_loopw [4] (fun i wr => ∃ (k : Nat) (xs : List Value), k ≤ pp.length ∧ i = .int .i64 k ∧ CopG w wr pp.length k xs pp) (fun i _ => pp.length - (intOf i).toNat)
  case atStart =>
    exact ⟨0, _, Nat.zero_le _, rfl, own_made w (.slice none 0 0) pp.length 37 (by unfold maxLen; omega), fun j r h => by omega, fun i j u v b h => by omega, fun i u b h => by omega, (Below.refl _ _).alloc (Nat.le_refl _) _, by simp⟩
  case round =>
    obtain ⟨k, xs, hk, rfl, hcop⟩ := hrel
    have HC := Lib.hid hcop
    have hbel := hcop.bel
    by_cases hlt : k < pp.length
    · obtain ⟨b, off, row, A', c', rfl, hb, hrow, hc, hrc, hcm, hr⟩ := (hg.below hbel).row_ hlt
      have hrr := hr.more hbel.size
      have hrl := HROW.out k row hrow.out
      clear hcop hr
      go_wp2_with fail
      refine (toIntS_any row _ _ _ hrr hrl).mono ?_
      rintro e w2 ⟨A2, c2, rfl, o2, b2⟩
      have hstep := HC.out.step hlt hrow.out o2 b2
      have HSt := Lib.hid hstep
      have hfz : w2.frozen? ⟨w.heap.size, k, none⟩ = false := own_frozen (own_below HC.out.out b2) k
      have hcl2 := own_cell (own_below HC.out.out b2) (k := k) (x := xs[k]'(by have := HC.out.out.1; omega)) (List.getElem?_eq_getElem _)
      clear hstep o2 b2 hrr
      go_wp2
      go_roundw
      case rel => exact ⟨k + 1, _, by omega, by go_num, HSt.out⟩
      case measure => simp [intOf]; omega
    · obtain rfl : k = pp.length := by omega
      have R : OutG pp w (.returned (.slice (some ⟨w.heap.size, 0, none⟩) pp.length pp.length)) wr := ⟨_, _, xs, rfl, hcop.done rfl, hbel⟩
      have HR := Lib.hid R
      clear R hcop hbel
      go_wp2
      go_ret
      exact HR.out

end Go.Proofs.Ytggdnpaiaijhgaa

/- Contracts of chapter 2: a cell of a pond is cut, the program. -/
import Derived.StillTailTactics
import Derived.Test.YtggdnpaiaijhgaaGrow
namespace Go.Proofs.Ytggdnpaiaijhgaa
open Go.RowKit
set_option linter.unusedVariables false
set_option linter.unusedSimpArgs false
theorem CopG.step2 {w w1 w3 : World} {n k : Nat} {xs : List Value} {pp : List (List Int)} {r : List Int} {A' : Option Addr} {c' : Nat} (h : CopG w w1 n k xs pp) (hk : k < n) (hr : pp[k]? = some r)
    (ho : w3.ownsRow w1.heap.size 3 1 (.slice A' r.length c') r.length (ints r)) (hout : w3.ownsRow w.heap.size 37 1 (.slice (some ⟨w.heap.size, 0, none⟩) n n) n (xs.set k (.slice A' r.length c')))
    (hf : ∀ q, w.heap.size < q → q < w1.heap.size → w3.heap[q]? = w1.heap[q]?) (hb : Below w.heap.size w w3) (hs : w1.heap.size ≤ w3.heap.size) : CopG w w3 n (k + 1) (xs.set k (.slice A' r.length c')) pp := by
  have hsz := h.sz
  have hxl := h.out.1
  have get : ∀ j, j ≠ k → (xs.set k (.slice A' r.length c'))[j]? = xs[j]? := fun j hj => List.getElem?_set_ne (fun e => hj e.symm)
  have self : (xs.set k (.slice A' r.length c'))[k]? = some (.slice A' r.length c') := by rw [List.getElem?_set_self]; omega
  refine ⟨hout, ?_, ?_, ?_, hb, by omega⟩
  · intro j r' hj hr'
    by_cases e : j = k
    · subst e
      rw [hr] at hr'
      injection hr' with hr'
      subst hr'
      exact ⟨A', c', self, own_base ho (by omega)⟩
    · obtain ⟨A2, c2, h1, h2⟩ := h.row j r' (by omega) hr'
      exact ⟨A2, c2, by rw [get j e]; exact h1, own_far (g := 0) h2 (fun q hq hq2 => hf q (by omega) hq2)⟩
  · intro i j u v b hi hj hu hv hbu hbv
    by_cases ei : i = k <;> by_cases ej : j = k
    · omega
    · subst ei
      rw [self] at hu; injection hu with hu; subst hu
      rw [get j ej] at hv
      have := own_block ho b hbu
      have := h.low j v b (by omega) hv hbv
      omega
    · subst ej
      rw [self] at hv; injection hv with hv; subst hv
      rw [get i ei] at hu
      have := own_block ho b hbv
      have := h.low i u b (by omega) hu hbu
      omega
    · rw [get i ei] at hu; rw [get j ej] at hv
      exact h.sep i j u v b (by omega) (by omega) hu hv hbu hbv
  · intro i u b hi hu hbu
    by_cases ei : i = k
    · subst ei
      rw [self] at hu; injection hu with hu; subst hu
      have := own_block ho b hbu
      have := own_lt ho b hbu
      omega
    · rw [get i ei] at hu
      have := h.low i u b (by omega) hu hbu
      omega
def cutF (pp : List (List Int)) (k : Nat) : List (List Int) := pp.set (k / wide pp) ((pp.getD (k / wide pp) []).set (k % wide pp) 0)
def cutT (pp : List (List Int)) (z : Int) : List (List Int) := if pondB pp && inB z 0 ((cnt pp : Nat) - 1) then cutF pp z.toNat else []
theorem cutF_len (pp : List (List Int)) (k : Nat) : (cutF pp k).length = pp.length := by simp [cutF]
theorem cutT_no {pp : List (List Int)} {z : Int} (h : (pondB pp && inB z 0 ((cnt pp : Nat) - 1)) = false) : cutT pp z = [] := by unfold cutT; rw [h]; rfl
theorem cutT_ok {pp : List (List Int)} {k : Nat} (hv : pondB pp = true) (hk : k < cnt pp) : cutT pp (k : Int) = cutF pp k := by unfold cutT; rw [hv, inB_mk (show (0 : Int) ≤ (k : Int) ∧ (k : Int) ≤ ((cnt pp : Nat) : Int) - 1 by omega)]; rfl
/-- one number of one row is changed -/
theorem OwnG.put {w : World} {base hi : Nat} {A : Option Addr} {n c y b c' : Nat} {xs : List Value} {pp : List (List Int)} {r : List Int} (h : OwnG w base hi A n c xs pp) (hr : pp[y]? = some r) (hx : xs[y]? = some (.slice (some ⟨b, 0, none⟩) r.length c')) (x : Nat) (z : Int) :
    OwnG (w.setCell ⟨b, x, none⟩ (.int .i64 z)) base hi A n c xs (pp.set y (r.set x z)) := by
  obtain ⟨A2, c2, h1, h2⟩ := h.row y r hr
  rw [hx] at h1
  injection h1 with h1
  injection h1 with e1 e2 e3
  subst e1 e3
  refine ⟨own_other h.out (fun e => h.top y _ b hx rfl e) _, by rw [List.length_set]; exact h.len, ?_, h.sep, h.top, h.hi_, h.hio⟩
  intro k r' hr'
  by_cases e : k = y
  · subst e
    rw [List.getElem?_set_self (List.getElem?_eq_some_iff.1 hr).1] at hr'
    injection hr' with hr'
    subst hr'
    refine ⟨_, c', by rw [List.length_set]; exact hx, ?_⟩
    rw [List.length_set, ← ints_set]
    exact own_put h2 x _
  · rw [List.getElem?_set_ne (fun q => e q.symm)] at hr'
    obtain ⟨A3, c3, h3, h4⟩ := h.row k r' hr'
    refine ⟨A3, c3, h3, own_other h4 (fun q => e (h.sep k y _ _ b h3 hx q rfl)) _⟩
set_option maxRecDepth 100000 in
set_option maxHeartbeats 2000000 in
theorem iCopy_any (pp : List (List Int)) (A : Option Addr) (c : Nat) (w : World) (hg : RdG w w.heap.size A pp) (hv : pondB pp = true) :
    Calls Try.prog 65 #[.slice A pp.length c] w (OutGr pp w) := by
  have hl := pond_len hv
  have HROW : Hid (∀ (k : Nat) (r : List Int), pp[k]? = some r → 1 ≤ r.length ∧ r.length ≤ 9) := Lib.hid fun k r h => ⟨(pond_row hv h).2.1, (pond_row hv h).2.2.1⟩
  clear hv
  have hmk := run_make_row' (P := Try.prog) 22 37 (.slice none 0 0) 24 Try.underlying22 info_ints rfl .i64 .i64 pp.length (by omega) (by omega)
  go_enter Try.func65, Try.ntmps65
  go_wp2
  go_loopw [11] (fun i wr => ∃ (k : Nat) (xs : List Value), k ≤ pp.length ∧ i = .int .i64 k ∧ CopG w wr pp.length k xs pp) (fun i _ => pp.length - (intOf i).toNat)
  case atStart =>
    exact ⟨0, _, Nat.zero_le _, rfl, own_made w (.slice none 0 0) pp.length 37 (by unfold maxLen; omega), fun j r h => by omega, fun i j u v b h => by omega, fun i u b h => by omega, (Below.refl _ _).alloc (Nat.le_refl _) _, by simp⟩
  case round =>
    obtain ⟨k, xs, hk, rfl, hcop⟩ := hrel
    have HC := Lib.hid hcop
    have hbel := hcop.bel
    have hsz := hcop.sz
    by_cases hlt : k < pp.length
    · obtain ⟨b, off, row, A', c', rfl, hb, hrow, hc, hrc, hcm, hr⟩ := (hg.below hbel).row_ hlt
      have hrl := HROW.out k row hrow.out
      generalize hL : row.length = L at *
      have HL := Lib.hid hL
      clear hL
      have hmk2 := run_make_row' (P := Try.prog) 37 3 (.int .i64 0) 8 Try.underlying37 info_int rfl .i64 .i64 L (by omega) (by omega)
      have hoA := own_alloc hcop.out (.cells (madeCells #[.int .i64 0] L) 3)
      have hf0 := own_frozen hoA k
      obtain ⟨x0, hxs⟩ : ∃ x0, xs[k]? = some x0 := ⟨_, List.getElem?_eq_getElem (by have := hcop.out.1; omega)⟩
      have hx0 := own_cell hoA hxs
      have hoB := own_put hoA k (.slice (some ⟨wr.heap.size, 0, none⟩) L L)
      have hcB := own_cell hoB (k := k) (x := .slice (some ⟨wr.heap.size, 0, none⟩) L L) (by rw [List.getElem?_set_self]; have := hcop.out.1; omega)
      have hownA : ((wr.alloc (.cells (madeCells #[.int .i64 0] L) 3)).setCell ⟨w.heap.size, k, none⟩ (.slice (some ⟨wr.heap.size, 0, none⟩) L L)).ownsRow wr.heap.size 3 1 (.slice (some ⟨wr.heap.size, 0, none⟩) L L) L (List.replicate L (.int .i64 0)) :=
        own_other (own_made wr (.int .i64 0) L 3 (by unfold maxLen; omega)) (by simp [Value.ownBlock]; omega) _
      have hbA : Below w.heap.size w ((wr.alloc (.cells (madeCells #[.int .i64 0] L) 3)).setCell ⟨w.heap.size, k, none⟩ (.slice (some ⟨wr.heap.size, 0, none⟩) L L)) := (hbel.alloc (by omega) _).setCell (by simp) _
      have hrA : Rd ((wr.alloc (.cells (madeCells #[.int .i64 0] L) 3)).setCell ⟨w.heap.size, k, none⟩ (.slice (some ⟨wr.heap.size, 0, none⟩) L L)) w.heap.size A' (ints row) := by
        obtain ⟨b5, off5, row5, A5, c5, e5, _, hrow5, hc5, _, _, hr5⟩ := (hg.below hbA).row_ hlt
        injection e5 with e5
        injection e5 with q1 q2
        subst q1 q2
        obtain rfl : row5 = row := by have h1 := hrow5.out; rw [hrow.out] at h1; injection h1 with h1; exact h1.symm
        have h6 := (hbA.cell (p := ⟨b, off + k, none⟩) hb)
        have h7 := (hbel.cell (p := ⟨b, off + k, none⟩) hb)
        rw [h6, ← h7, hc] at hc5
        injection hc5 with hc5
        injection hc5 with q3 _ q4
        subst q3
        exact hr5
      have HOB := Lib.hid hoB
      have HBA := Lib.hid hbA
      clear hcop hr hoA hoB hbA hxs
      go_wp2_with (with_reducible refine copy_full rfl _ _ _ _ rfl 3 Try.underlying37 (by kernel_rfl) wr.heap.size wr.heap.size L L _ rfl hownA _ _ rfl _ _ hrA (by rw [ints_length]; exact HL.out) (by omega) oneCell_ints ?_)
      intro w3 hown3 hg3
      have hs3 := hg3.size
      have hstep : CopG w w3 pp.length (k + 1) (xs.set k (.slice (some ⟨wr.heap.size, 0, none⟩) row.length L)) pp := by
        refine HC.out.step2 hlt hrow.out (by rw [HL.out]; exact hown3) (by rw [HL.out]; exact own_grown HOB.out hg3 (fun q hq e => by injection hq with hq; simp [Value.ownBlock] at e; omega)) (fun q h1 h2 => ?_) (HBA.out.grown hg3 (by simp [World.setCell]; omega) (fun q hq => by injection hq with hq; omega)) (by simp [World.setCell] at hs3; omega)
        have h5 := hg3.block q (by simp [World.setCell]; omega) (fun e => by injection e with e; omega)
        rw [h5, Below.heap_setCell _ _ _ q (by show q ≠ w.heap.size; omega)]
        exact ((Below.refl _ _).alloc (Nat.le_refl _) _ : Below wr.heap.size wr (wr.alloc _)).block q h2
      have HSt := Lib.hid hstep
      clear hstep hown3 hg3 hownA hrA
      go_wp2
      go_roundw
      case rel => exact ⟨k + 1, _, by omega, by go_num, HSt.out⟩
      case measure => simp [intOf]; omega
    · obtain rfl : k = pp.length := by omega
      have R : OutGr pp w (.returned (.slice (some ⟨w.heap.size, 0, none⟩) pp.length pp.length)) wr := ⟨_, _, xs, rfl, hcop.done rfl, hbel⟩
      have HR := Lib.hid R
      clear R hcop hbel
      go_wp2
      go_ret
      exact HR.out

end Go.Proofs.Ytggdnpaiaijhgaa

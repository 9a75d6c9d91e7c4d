/- Contracts of the exact laws' helpers over lists of integers: copies, comparison, marks. -/
import Derived.Test.YtggdnpaiaijhgaaWords
namespace Go.Proofs.Ytggdnpaiaijhgaa
open Go.RowKit
set_option linter.unusedVariables false
set_option linter.unusedSimpArgs false

def copied (zs : List Int) (k j : Nat) : Value := .int .i64 (if j < k then zs.getD j 0 else 0)
theorem copied_step {w : World} {g : Nat} {zs : List Int} {k : Nat} {z : Int} {T : TypeId} (h : w.rowIs g T zs.length (copied zs k)) (hz : zs[k]? = some z) :
    (w.setCell ⟨g, k, none⟩ (.int .i64 z)).rowIs g T zs.length (copied zs (k + 1)) := by
  refine (h.set k (.int .i64 z)).congr fun j hj => ?_
  unfold copied
  by_cases e : j = k
  · subst e
    simp [List.getD_eq_getElem?_getD, hz]
  · rw [if_neg e]
    by_cases hlt : j < k
    · rw [if_pos hlt, if_pos (by omega)]
    · rw [if_neg hlt, if_neg (by omega)]
theorem copied_all {w : World} {base g : Nat} {zs : List Int} {T : TypeId} (h : w.rowIs g T zs.length (copied zs zs.length)) (hb : base ≤ g) (hn : zs.length ≤ maxLen) :
    w.ownsRow base T 1 (.slice (some ⟨g, 0, none⟩) zs.length zs.length) zs.length (ints zs) :=
  own_of_row h (ints_length zs) (fun i hi => by rw [ints_at hi]; unfold copied; rw [if_pos hi]) hb hn

set_option maxRecDepth 100000 in
set_option maxHeartbeats 400000 in
theorem toIntS_any (zs : List Int) (A : Option Addr) (c : Nat) (w : World) (hr : Rd w w.heap.size A (ints zs)) (hn : zs.length ≤ 1048576) :
    Calls Try.prog 63 #[.slice A zs.length c] w fun e w' => ∃ A' c', e = .returned (.slice A' zs.length c') ∧ w'.ownsRow w.heap.size 3 1 (.slice A' zs.length c') zs.length (ints zs) ∧ Below w.heap.size w w' := by
  have hmk := run_make_row' (P := Try.prog) 37 3 (.int .i64 0) 8 Try.underlying37 info_int rfl .i64 .i64 zs.length (by omega) (by omega)
  go_enter Try.func63, Try.ntmps63
  go_wp2
  go_loopw [4] (fun i wr => ∃ k : Nat, k ≤ zs.length ∧ i = .int .i64 k ∧ wr.rowIs w.heap.size 3 zs.length (copied zs k) ∧ Below w.heap.size w wr) (fun i _ => zs.length - (intOf i).toNat)
  case atStart =>
    refine ⟨0, Nat.zero_le _, rfl, (World.rowIs_made w (.int .i64 0) zs.length 3).congr fun j hj => ?_, (Below.refl _ _).alloc (Nat.le_refl _) _⟩
    unfold copied
    rw [if_neg (by omega)]
  case round =>
    obtain ⟨k, hk, rfl, hrow, hbel⟩ := hrel
    by_cases hlt : k < zs.length
    · obtain ⟨b, off, z, rfl, hb, hz, hc⟩ := (hr.below hbel).int_ hlt
      have hc2 := hrow.cell hlt
      have hf2 := hrow.frozen k
      go_wp2
      go_roundw
      case rel => exact ⟨k + 1, by omega, by go_num, copied_step hrow hz.out, hbel.setCell (by simp) _⟩
      case measure => simp [intOf]; omega
    · obtain rfl : k = zs.length := by omega
      go_wp2
      go_ret
      exact ⟨_, _, rfl, copied_all hrow (Nat.le_refl _) (by unfold maxLen; omega), hbel⟩

set_option maxRecDepth 100000 in
set_option maxHeartbeats 400000 in
theorem eqIntS_same (zs : List Int) (A A' : Option Addr) (c c' : Nat) (w : World) (B : Nat) (hr : Rd w B A (ints zs)) (hr' : Rd w B A' (ints zs)) (hn : zs.length ≤ 1048576) :
    Calls Try.prog 42 #[.slice A zs.length c, .slice A' zs.length c'] w fun e w' => e = .returned (.bool true) ∧ ∃ n, w' = w.drewN n := by
  go_enter Try.func42, Try.ntmps42
  go_wp2
  go_loopw [5] (fun i wr => ∃ k : Nat, k ≤ zs.length ∧ i = .int .i64 k ∧ ∃ n, wr = w.drewN n) (fun i _ => zs.length - (intOf i).toNat)
  case atStart => exact ⟨0, Nat.zero_le _, rfl, 0, rfl⟩
  case round =>
    obtain ⟨k, hk, rfl, n, rfl⟩ := hrel
    by_cases hlt : k < zs.length
    · obtain ⟨b, off, z, rfl, hb, hz, hc⟩ := hr.int_ hlt
      obtain ⟨b', off', z', rfl, hb', hz', hc'⟩ := hr'.int_ hlt
      obtain rfl : z = z' := by have h1 := hz.out; have h2 := hz'.out; rw [h1] at h2; injection h2
      go_wp2
      go_quiet (fail)
      go_wp2
      go_roundw
      case rel => exact ⟨k + 1, by omega, by go_num, _, rfl⟩
      case measure => simp [intOf]; omega
    · go_wp2
      go_ret
      exact ⟨rfl, _, rfl⟩

def marks (k : Int) (n : Nat) : List Int := (List.range n).map (fun i : Nat => k + (i : Int))
theorem marks_length (k : Int) (n : Nat) : (marks k n).length = n := by simp [marks]
theorem marks_at {k : Int} {n i : Nat} (h : i < n) : (marks k n)[i]? = some (k + i) := by simp [marks, h]
def marked (k : Int) (f : Nat → Value) (j i : Nat) : Value := if i < j then .int .i64 (k + i) else f i
theorem marked_step {w : World} {g n : Nat} {k : Int} {f : Nat → Value} {j : Nat} {T : TypeId} (h : w.rowIs g T n (marked k f j)) :
    (w.setCell ⟨g, j, none⟩ (.int .i64 (k + j))).rowIs g T n (marked k f (j + 1)) := by
  refine (h.set j _).congr fun i hi => ?_
  unfold marked
  by_cases e : i = j
  · subst e; simp
  · rw [if_neg e]
    by_cases hlt : i < j
    · rw [if_pos hlt, if_pos (by omega)]
    · rw [if_neg hlt, if_neg (by omega)]
theorem marked_all {w : World} {base g n c : Nat} {k : Int} {f : Nat → Value} {T : TypeId} (h : w.rowIs g T c (marked k f n)) (hb : base ≤ g) (hnc : n ≤ c) (hn : c ≤ maxLen) :
    w.ownsRow base T 1 (.slice (some ⟨g, 0, none⟩) n c) n (ints (marks k n)) :=
  own_of_row' h (by rw [ints_length, marks_length]) (fun i hi => by
    rw [ints_at (by rw [marks_length]; exact hi)]
    unfold marked
    rw [if_pos hi, List.getD_eq_getElem?_getD, marks_at hi]; rfl) hb hnc hn
theorem only_cell {a w : World} {g : Nat} (h : a.grownBy w (some g)) (j : Nat) (u : Value) : a.grownBy (w.setCell ⟨g, j, none⟩ u) (some g) :=
  ⟨h.os, h.tape, h.output, by simpa [World.setCell] using h.size, fun i hi hne => (Below.heap_setCell w ⟨g, j, none⟩ u i (fun e => hne (by rw [e]))).trans (h.block i hi hne)⟩

set_option maxRecDepth 100000 in
set_option maxHeartbeats 400000 in
theorem markIntS_any (n : Nat) (xs : List Value) (A : Option Addr) (c : Nat) (w : World) (base : Nat) (h : w.ownsRow base 3 1 (.slice A n c) n xs) (k : Int) (h0 : 0 ≤ k) (h1 : k ≤ 100000000) (hn : n ≤ 1048576) :
    Calls Try.prog 43 #[.slice A n c, .int .i64 k] w fun e w' => e = .returned (.int .i64 (k + n)) ∧ w'.ownsRow base 3 1 (.slice A n c) n (ints (marks k n)) ∧ w.grownBy w' (Value.slice A n c).ownBlock := by
  by_cases hz : n = 0
  · subst hz
    have ho : w.ownsRow base 3 1 (.slice A 0 c) 0 (ints (marks k 0)) := by
      have hx : xs = [] := by have := h.1; simpa using this
      subst hx
      exact h
    clear h
    go_enter Try.func43, Try.ntmps43
    go_wp2
    refine wp_loop_rounds 1 ?_
    rw [rounds_succ]
    go_wp2
    go_ret
    exact ⟨ret_int (by simp), ho, World.grownBy.refl _ _⟩
  · obtain ⟨g, f, rfl, hg, hgl, hrow, hnc, hcm⟩ := own_row h (by omega)
    clear h
    unfold maxLen at hcm
    go_enter Try.func43, Try.ntmps43
    go_wp2
    go_loopw [1, 5] (fun q i wr => ∃ j : Nat, j ≤ n ∧ i = .int .i64 j ∧ q = .int .i64 (k + j) ∧ wr.rowIs g 3 c (marked k f j) ∧ w.grownBy wr (some g)) (fun _ i _ => n - (intOf i).toNat)
    case atStart => exact ⟨0, Nat.zero_le _, rfl, by simp, hrow.congr fun i hi => by simp [marked], World.grownBy.refl _ _⟩
    case round =>
      obtain ⟨j, hj, rfl, rfl, hr, hgr⟩ := hrel
      by_cases hlt : j < n
      · have hc2 := hr.cell (i := j) (by omega)
        have hf2 := hr.frozen j
        go_wp2
        go_roundw
        case rel => exact ⟨j + 1, by omega, by go_num, by go_num, marked_step hr, only_cell hgr _ _⟩
        case measure => simp [intOf]; omega
      · obtain rfl : j = n := by omega
        go_wp2
        go_ret
        exact ⟨rfl, marked_all hr hg hnc (by unfold maxLen; omega), hgr⟩

set_option maxRecDepth 100000 in
set_option maxHeartbeats 400000 in
theorem heldIntS_any (n : Nat) (A : Option Addr) (c : Nat) (w : World) (B : Nat) (k : Int) (hr : Rd w B A (ints (marks k n))) (h0 : 0 ≤ k) (h1 : k ≤ 100000000) (hn : n ≤ 1048576) :
    Calls Try.prog 44 #[.slice A n c, .int .i64 k] w fun e w' => e = .returned (.int .i64 (k + n)) ∧ w = w' := by
  go_enter Try.func44, Try.ntmps44
  go_wp2
  go_loop [1, 5] (fun q i => ∃ j : Nat, j ≤ n ∧ i = .int .i64 j ∧ q = .int .i64 (k + j)) (fun _ i => n - (intOf i).toNat)
  case atStart => exact ⟨0, Nat.zero_le _, rfl, by simp⟩
  case round =>
    obtain ⟨j, hj, rfl, rfl⟩ := hrel
    by_cases hlt : j < n
    · obtain ⟨b, off, z, rfl, hb, hz, hc⟩ := hr.int_ (k := j) (by rw [marks_length]; exact hlt)
      obtain rfl : k + (j : Int) = z := by
        have := hz.out
        rw [marks_at hlt] at this
        injection this
      go_wp2
      go_round
      case rel => exact ⟨j + 1, by omega, by go_num, by go_num⟩
      case measure => simp [intOf]; omega
    · obtain rfl : j = n := by omega
      go_wp2
      go_ret
      exact ⟨rfl, rfl⟩

end Go.Proofs.Ytggdnpaiaijhgaa

/- Words of the exact law of a pond that grows: an argument that is a list of lists, one that is a list; an answer that is a list of lists. -/
import Derived.Deep.Matrix
import Derived.Test.YtbnggakfogcalabGExact
import Derived.Test.YtbnggakfogcalabGrowS
import Derived.Test.YtbnggakfogcalabInts
namespace Go.Proofs.Ytbnggakfogcalab
open Go.RowKit
set_option linter.unusedVariables false
set_option linter.unusedSimpArgs false
theorem eqG_b (pp : List (List Int)) (A A' : Option Addr) (c c' : Nat) (w : World) (B : Nat) (hg : RdG w B A pp) (hg' : RdG w B A' pp) (hn : sizes pp ≤ 1048576) :
    Calls Try.prog 19 #[.slice A pp.length c, .slice A' pp.length c'] w fun e w' => e = .returned (.bool true) ∧ Below w.heap.size w w' :=
  (eqIntSS_same pp A A' c c' w B hg hg' hn).mono fun _ _ ⟨h, n, e⟩ => ⟨h, e ▸ below_drewN (Below.refl _ _) n⟩
theorem eqZ_b (zs : List Int) (A A' : Option Addr) (c c' : Nat) (w : World) (B : Nat) (hr : Rd w B A (ints zs)) (hr' : Rd w B A' (ints zs)) (hn : zs.length ≤ 1048576) :
    Calls Try.prog 43 #[.slice A zs.length c, .slice A' zs.length c'] w fun e w' => e = .returned (.bool true) ∧ Below w.heap.size w w' :=
  (eqIntS_same zs A A' c c' w B hr hr' hn).mono fun _ _ ⟨h, n, e⟩ => ⟨h, e ▸ below_drewN (Below.refl _ _) n⟩
theorem fr_row {w w' : World} {lo hi : Nat} {T : TypeId} {n c : Nat} {A : Option Addr} {xs : List Value} (h : w.ownsRow lo T 1 (.slice A n c) n xs) (hh : ∀ k, (Value.slice A n c).ownBlock = some k → k < hi) (hg : w.grownBy w' (Value.slice A n c).ownBlock) :
    ∀ q, q < w.heap.size → (q < lo ∨ hi ≤ q) → w'.heap[q]? = w.heap[q]? := fun q hq hq2 => hg.block q hq (fun e => by
  have h1 := own_block h q e.symm
  have h2 := hh q e.symm
  omega)
theorem below_row {B : Nat} {a w w' : World} {r : Option Nat} (h : Below B a w) (hg : w.grownBy w' r) (hB : B ≤ a.heap.size) (hr : ∀ k, r = some k → B ≤ k) : Below B a w' :=
  ⟨hg.os.trans h.os, hg.tape.trans h.tape, hg.output.trans h.output, Nat.le_trans h.size hg.size, fun k hk => (hg.block k (by have := h.size; omega) (fun e => by have := hr k e.symm; omega)).trans (h.block k hk)⟩
theorem sizes_grow {pp : List (List Int)} {zs : List Int} (h : sizes pp ≤ 1048576) : sizes (growT pp zs) ≤ 1048576 := by
  have e : sizes (growF pp zs) = sizes pp := by
    unfold sizes growF
    rw [List.length_map, List.map_map]
    congr 2
    refine List.map_congr_left fun r _ => ?_
    simp [growRow]
  unfold growT
  split
  · rw [e]; exact h
  · simp [sizes]
theorem iGrow_b {ts : List (List Int)} (pp : List (List Int)) (zs : List Int) (A Az : Option Addr) (c cz : Nat) (w : World) (hg : RdG w w.heap.size A pp) (hrz : Rd w w.heap.size Az (ints zs)) (hts : Hid (ts = growT pp zs)) :
    Calls Try.prog 42 #[.slice A pp.length c, .slice Az zs.length cz] w (OutGr ts w) := by
  rw [hts.out]; exact iGrow_any pp zs A Az c cz w hg hrz
theorem sGrow_b {ts : List (List Int)} (pp : List (List Int)) (zs : List Int) (A Az : Option Addr) (c cz : Nat) (w : World) (hg : RdG w w.heap.size A pp) (hn : pp.length ≤ 1048576) (hrz : Rd w w.heap.size Az (ints zs)) (hts : Hid (ts = growT pp zs)) :
    Calls Try.prog 40 #[.slice A pp.length c, .slice Az zs.length cz] w (OutGr ts w) := by
  rw [hts.out]; exact sGrow_any pp zs A Az c cz w hg hn hrz

end Go.Proofs.Ytbnggakfogcalab

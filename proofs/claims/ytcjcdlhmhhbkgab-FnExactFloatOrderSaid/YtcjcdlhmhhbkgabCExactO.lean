/- Words of the exact law of the order in which cakes float out. -/
import Derived.Test.YtcjcdlhmhhbkgabCExact
import Derived.Test.YtcjcdlhmhhbkgabCOrdS
namespace Go.Proofs.Ytcjcdlhmhhbkgab
open Go.RowKit
set_option linter.unusedVariables false
set_option linter.unusedSimpArgs false
theorem eqI_b (zs : List Int) (A A' : Option Addr) (c c' : Nat) (w : World) (B : Nat) (hr : Rd w B A (ints zs)) (hr' : Rd w B A' (ints zs)) (hn : zs.length ≤ 1048576) :
    Calls Try.prog 22 #[.slice A zs.length c, .slice A' zs.length c'] w fun e w' => e = .returned (.bool true) ∧ Below w.heap.size w w' :=
  (eqIntS_same zs A A' c c' w B hr hr' hn).mono fun _ _ ⟨h, n, e⟩ => ⟨h, e ▸ below_drewN (Below.refl _ _) n⟩
theorem fr_of_grown {w w' : World} {lo hi : Nat} {T : TypeId} {z n c : Nat} {A : Option Addr} {xs : List Value} (h : w.ownsRow lo T z (.slice A n c) n xs) (hh : ∀ k, (Value.slice A n c).ownBlock = some k → k < hi) (hg : w.grownBy w' (Value.slice A n c).ownBlock) :
    ∀ q, q < w.heap.size → (q < lo ∨ hi ≤ q) → w'.heap[q]? = w.heap[q]? := fun q hq hq2 => hg.block q hq (fun e => by
  have h1 := owz_block h q e.symm
  have h2 := hh q e.symm
  omega)
theorem only_below {B : Nat} {a w w' : World} {r : Option Nat} (h : Below B a w) (hg : w.grownBy w' r) (hB : B ≤ a.heap.size) (hr : ∀ k, r = some k → B ≤ k) : Below B a w' :=
  ⟨hg.os.trans h.os, hg.tape.trans h.tape, hg.output.trans h.output, Nat.le_trans h.size hg.size, fun k hk => (hg.block k (by have := h.size; omega) (fun e => by have := hr k e.symm; omega)).trans (h.block k hk)⟩
theorem floatT_len {a b : Int} {cs : List (Int × Int)} (h : cs.length ≤ 1048576) : (floatT a b cs).length ≤ 1048576 := by
  cases hv : cakesB a b cs
  · rw [floatT_no hv]; simp
  · rw [floatT_ok hv, nats_length, (ordF_ok (plc_cakes hv) cs.length (Nat.le_refl _)).len]; exact h
theorem iOrder_b {ts : List Int} (cs : List (Int × Int)) (hn : cs.length ≤ 1048576) (A : Option Addr) (c : Nat) (hcap : cs.length ≤ c ∧ c ≤ maxLen) (w : World) (hr : Rd w w.heap.size A (cakeV cs)) (a b : Int) (hts : Hid (ts = floatT a b cs)) :
    Calls Try.prog 44 #[.slice A cs.length c, .int .i64 a, .int .i64 b] w (OutI ts w) := by
  rw [hts.out]; exact iOrder_any cs.length hn cs rfl A c hcap w hr a b
theorem sOrder_b {ts : List Int} (cs : List (Int × Int)) (hn : cs.length ≤ 1048576) (A : Option Addr) (c : Nat) (w : World) (hr : Rd w w.heap.size A (cakeV cs)) (a b : Int) (hts : Hid (ts = floatT a b cs)) :
    Calls Try.prog 42 #[.slice A cs.length c, .int .i64 a, .int .i64 b] w (OutI ts w) := by
  rw [hts.out]; exact sOrder_any cs.length hn cs rfl A c w hr a b
theorem owz_capz {w : World} {base n c z : Nat} {T : TypeId} {A : Option Addr} {xs : List Value} (h : w.ownsRow base T z (.slice A n c) n xs) : n ≤ c ∧ c ≤ maxLen := by
  rcases h.2 with ⟨h0, rfl⟩ | ⟨g, cap, cur, hv, _, _, hnc, hcm, _⟩
  · injection h0 with _ _ h2; subst h2; exact ⟨Nat.le_refl _, Nat.zero_le _⟩
  · injection hv with _ _ h2; subst h2; exact ⟨hnc, hcm⟩

end Go.Proofs.Ytcjcdlhmhhbkgab

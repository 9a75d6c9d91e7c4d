/- The exact laws' helpers over lists of integers in one form: what was there stays. -/
import Derived.Test.YtcjcdlhmhhbkgabLLift
import Derived.Test.YtcjcdlhmhhbkgabInts
namespace Go.Proofs.Ytcjcdlhmhhbkgab
open Go.RowKit
set_option linter.unusedVariables false
set_option linter.unusedSimpArgs false
theorem Rd.ownz {w : World} {base n c : Nat} {T : TypeId} {A : Option Addr} {xs : List Value} (h : w.ownsRow base T 1 (.slice A n c) n xs) : Rd w w.heap.size A xs := Rd.own h
theorem owz_below {w w' : World} {base n : Nat} {T : TypeId} {v : Value} {xs : List Value} (h : w.ownsRow base T 1 v n xs) (hb : Below w.heap.size w w') : w'.ownsRow base T 1 v n xs := own_below h hb
theorem owz_far {w w' : World} {base n : Nat} {T : TypeId} {v : Value} {xs : List Value} (h : w.ownsRow base T 1 v n xs) (hg : ∀ k, base ≤ k → k < w.heap.size → w'.heap[k]? = w.heap[k]?) : w'.ownsRow base T 1 v n xs := own_far (g := 0) h hg
theorem owz_lt {w : World} {base n : Nat} {T : TypeId} {v : Value} {xs : List Value} (h : w.ownsRow base T 1 v n xs) : ∀ k, v.ownBlock = some k → k < w.heap.size := own_lt h
theorem owz_block {w : World} {base n : Nat} {T : TypeId} {v : Value} {xs : List Value} (h : w.ownsRow base T 1 v n xs) : ∀ k, v.ownBlock = some k → base ≤ k := own_block h
theorem owz_cap {w : World} {base n c : Nat} {T : TypeId} {A : Option Addr} {xs : List Value} (h : w.ownsRow base T 1 (.slice A n c) n xs) : n ≤ c ∧ c ≤ maxLen := by
  rcases h.2 with ⟨h0, rfl⟩ | ⟨g, cap, cur, hv, _, _, hnc, hcm, _⟩
  · injection h0 with _ _ h2; subst h2; exact ⟨Nat.le_refl _, Nat.zero_le _⟩
  · injection hv with _ _ h2; subst h2; exact ⟨hnc, hcm⟩
theorem eqI_b (zs : List Int) (A A' : Option Addr) (c c' : Nat) (w : World) (B : Nat) (hr : Rd w B A (ints zs)) (hr' : Rd w B A' (ints zs)) (hn : zs.length ≤ 1048576) :
    Calls Try.prog 22 #[.slice A zs.length c, .slice A' zs.length c'] w fun e w' => e = .returned (.bool true) ∧ Below w.heap.size w w' :=
  (eqIntS_same zs A A' c c' w B hr hr' hn).mono fun _ _ ⟨h, n, e⟩ => ⟨h, e ▸ below_drewN (Below.refl _ _) n⟩
theorem fr_of_grown {w w' : World} {lo hi : Nat} {T : TypeId} {n c : Nat} {A : Option Addr} {xs : List Value} (h : w.ownsRow lo T 1 (.slice A n c) n xs) (hh : ∀ k, (Value.slice A n c).ownBlock = some k → k < hi) (hg : w.grownBy w' (Value.slice A n c).ownBlock) :
    ∀ q, q < w.heap.size → (q < lo ∨ hi ≤ q) → w'.heap[q]? = w.heap[q]? := fun q hq hq2 => hg.block q hq (fun e => by
  have h1 := own_block h q e.symm
  have h2 := hh q e.symm
  omega)
theorem only_below {B : Nat} {a w w' : World} {r : Option Nat} (h : Below B a w) (hg : w.grownBy w' r) (hB : B ≤ a.heap.size) (hr : ∀ k, r = some k → B ≤ k) : Below B a w' :=
  ⟨hg.os.trans h.os, hg.tape.trans h.tape, hg.output.trans h.output, Nat.le_trans h.size hg.size, fun k hk => (hg.block k (by have := h.size; omega) (fun e => by have := hr k e.symm; omega)).trans (h.block k hk)⟩
theorem iVT_b (zs : List Int) (A : Option Addr) (c : Nat) (w : World) (B : Nat) (hr : Rd w B A (ints zs)) :
    Calls Try.prog 21 #[.slice A zs.length c] w fun e w' => e = .returned (.bool (timesB zs)) ∧ Below w.heap.size w w' :=
  (iVT_any zs A c w B hr).mono fun _ _ ⟨h, e⟩ => ⟨h, e ▸ Below.refl _ _⟩
theorem sVT_b (zs : List Int) (A : Option Addr) (c : Nat) (w : World) (B : Nat) (hr : Rd w B A (ints zs)) (hn : zs.length ≤ 1048576) :
    Calls Try.prog 19 #[.slice A zs.length c] w fun e w' => e = .returned (.bool (timesB zs)) ∧ Below w.heap.size w w' :=
  (sVTT_any zs A c w B hr hn).mono fun _ _ ⟨h, n, e⟩ => ⟨h, e ▸ below_drewN (Below.refl _ _) n⟩

end Go.Proofs.Ytcjcdlhmhhbkgab

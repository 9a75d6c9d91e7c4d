/- The exact laws of chapter 6: words in common. -/
import Derived.Test.YtjjddamblijffaaKExact
import Derived.Test.YtjjddamblijffaaInts
namespace Go.Proofs.Ytjjddamblijffaa
open Go.RowKit
set_option linter.unusedVariables false
set_option linter.unusedSimpArgs false
theorem eqI_k (zs : List Int) (A A' : Option Addr) (c c' : Nat) (w : World) (B : Nat) (hr : Rd w B A (ints zs)) (hr' : Rd w B A' (ints zs)) (hn : zs.length ≤ 1048576) :
    Calls Try.prog 46 #[.slice A zs.length c, .slice A' zs.length c'] w fun e w' => e = .returned (.bool true) ∧ Below w.heap.size w w' :=
  (eqIntS_same zs A A' c c' w B hr hr' hn).mono fun _ _ ⟨h, n, e⟩ => ⟨h, e ▸ below_drewN (Below.refl _ _) n⟩
theorem only_belowK {B : Nat} {a w w' : World} {r : Option Nat} (h : Below B a w) (hg : w.grownBy w' r) (hB : B ≤ a.heap.size) (hr : ∀ k, r = some k → B ≤ k) : Below B a w' :=
  ⟨hg.os.trans h.os, hg.tape.trans h.tape, hg.output.trans h.output, Nat.le_trans h.size hg.size, fun k hk => (hg.block k (by have := h.size; omega) (fun e => by have := hr k e.symm; omega)).trans (h.block k hk)⟩
theorem owz_capX {w : World} {base n : Nat} {T : TypeId} {z : Nat} {A : Option Addr} {c : Nat} {xs : List Value} (o : w.ownsRow base T z (.slice A n c) n xs) : n ≤ c ∧ c ≤ maxLen := by
  rcases o.2 with ⟨h0, hz⟩ | ⟨g, cap, cur, hv, _, _, hnc, hcm, _⟩
  · injection h0 with _ q1 q2; rw [q1, q2]; exact ⟨Nat.le_refl _, Nat.zero_le _⟩
  · injection hv with _ _ q2; subst q2; exact ⟨hnc, hcm⟩
/-- where a list that a call made lies -/
theorem owz_in {w : World} {base n : Nat} {T : TypeId} {z : Nat} {v : Value} {xs : List Value} (o : w.ownsRow base T z v n xs) : ∀ k, v.ownBlock = some k → base ≤ k ∧ k < w.heap.size := fun k hk => ⟨owz_block o k hk, owz_lt o k hk⟩

end Go.Proofs.Ytjjddamblijffaa

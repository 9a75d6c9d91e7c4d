/- Contracts on cakes in the form of the exact laws. -/
import Derived.Test.YtboaikabbfipgacCBel
import Derived.Test.YtboaikabbfipgacCValidI
import Derived.Test.YtboaikabbfipgacCValidT
namespace Go.Proofs.Ytboaikabbfipgac
open Go.RowKit
set_option linter.unusedVariables false
set_option linter.unusedSimpArgs false
theorem owz_cap {w : World} {base : Nat} {T : TypeId} {z n c : Nat} {A : Option Addr} {xs : List Value} (h : w.ownsRow base T z (.slice A n c) n xs) : n ≤ c ∧ c ≤ maxLen := by
  rcases h.2 with ⟨h0, hz⟩ | ⟨g, cap, cur, hv, _, _, hnc, hcm, _⟩
  · injection h0 with _ q1 q2; subst q1 q2; exact ⟨Nat.le_refl _, Nat.zero_le _⟩
  · injection hv with _ _ q2; subst q2; exact ⟨hnc, hcm⟩
theorem sVC_b (n : Nat) (hn : n ≤ 1048576) (cs : List (Int × Int)) (hl : cs.length = n) (A : Option Addr) (c : Nat) (w : World) (B : Nat) (hr : Rd w B A (cakeV cs)) (a b : Int) :
    Calls Try.prog 34 #[.slice A n c, .int .i64 a, .int .i64 b] w fun e w' => e = .returned (.bool (cakesB a b cs)) ∧ Below w.heap.size w w' :=
  (sVC_any n hn cs hl A c w B hr a b).mono fun _ _ ⟨h, m, e⟩ => ⟨h, e ▸ below_drewN (Below.refl _ _) m⟩

end Go.Proofs.Ytboaikabbfipgac

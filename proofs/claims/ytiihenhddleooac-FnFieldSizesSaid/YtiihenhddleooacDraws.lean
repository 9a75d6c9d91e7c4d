/- The generators of chapter 1 by contracts: what is drawn is an integer in a range, or a list of some integers in memory of its own; what was there stays, but for the reader. -/
import Derived.Test.YtiihenhddleooacReader
namespace Go.Proofs.Ytiihenhddleooac
open Go.RowKit
set_option linter.unusedVariables false
set_option linter.unusedSimpArgs false

def MassPost (w : World) (B g : Nat) (p : Nat) (e : Ending) (w' : World) : Prop :=
  ∃ z, e = .returned (.int .i64 z) ∧ -1 ≤ z ∧ z ≤ 998002 ∧ Rdr w' B g (p + 3) ∧ w.grownBy w' (some g)

/-- A list of few integers in memory of the call's own. -/
def HoursPost (w : World) (B g : Nat) (p : Nat) (e : Ending) (w' : World) : Prop :=
  ∃ (zs : List Int) (A : Option Addr) (c q : Nat), e = .returned (.slice A zs.length c) ∧ zs.length ≤ 12 ∧ (∀ z ∈ zs, -1000 ≤ z ∧ z ≤ 1000) ∧ w'.ownsRow w.heap.size 3 1 (.slice A zs.length c) zs.length (ints zs) ∧
    q ≤ p + 100 ∧ Rdr w' B g q ∧ w.grownBy w' (some g)
def someRel (w : World) (B g p : Nat) (v n : Value) (wr : World) : Prop :=
  ∃ (j : Nat) (zs : List Int) (q : Nat), n = .int .i64 j ∧ j + zs.length ≤ 12 ∧ (∀ z ∈ zs, -1000 ≤ z ∧ z ≤ 1000) ∧ wr.ownsRow w.heap.size 3 1 v zs.length (ints zs) ∧
    q + 3 * j ≤ p + 50 ∧ Rdr wr B g q ∧ w.grownBy wr (some g)

theorem fin_below {w w1 w2 : World} {g p : Nat} (b : Below w.heap.size w w1) (r : Rdr w1 w.heap.size g p) (G : w1.grownBy w2 (some g)) : Below w.heap.size w w2 :=
  b.trans (below_of_only G r.1 b.size)
theorem own_cap {w : World} {base n c : Nat} {T : TypeId} {A : Option Addr} {xs : List Value} (h : w.ownsRow base T 1 (.slice A n c) n xs) : n ≤ c ∧ c ≤ maxLen := by
  rcases h.2 with ⟨h0, rfl⟩ | ⟨g, cap, cur, hv, _, _, hnc, hcm, _⟩
  · injection h0 with _ _ h2; subst h2; exact ⟨Nat.le_refl _, Nat.zero_le _⟩
  · injection hv with _ _ h2; subst h2; exact ⟨hnc, hcm⟩
/-- A list that was drawn. -/
def Drawn (w w' : World) (zs : List Int) (A : Option Addr) (c : Nat) : Prop :=
  zs.length ≤ 12 ∧ (∀ z ∈ zs, -1000 ≤ z ∧ z ≤ 1000) ∧ Rd w' w'.heap.size A (ints zs) ∧ zs.length ≤ c ∧ c ≤ maxLen
theorem drawn_mk {w w1 w2 : World} {base c : Nat} {zs : List Int} {A : Option Addr} {T : TypeId} (hl : zs.length ≤ 12) (hz : ∀ z ∈ zs, -1000 ≤ z ∧ z ≤ 1000) (h : w1.ownsRow base T 1 (.slice A zs.length c) zs.length (ints zs)) : Drawn w w1 zs A c :=
  ⟨hl, hz, Rd.own h, (own_cap h).1, (own_cap h).2⟩
theorem drawn_only {w w1 w2 : World} {base c g : Nat} {zs : List Int} {A : Option Addr} {T : TypeId} (hl : zs.length ≤ 12) (hz : ∀ z ∈ zs, -1000 ≤ z ∧ z ≤ 1000) (h : w1.ownsRow base T 1 (.slice A zs.length c) zs.length (ints zs))
    (G : w1.grownBy w2 (some g)) (hg : g < base) : Drawn w w2 zs A c :=
  drawn_mk (w2 := w2) hl hz (own_only h G hg)

end Go.Proofs.Ytiihenhddleooac

/- Contracts of WayTo, of the program and of the model. -/
import Derived.Test.YtiihenhddleooacWays
namespace Go.Proofs.Ytiihenhddleooac
open Go.RowKit
set_option linter.unusedVariables false
set_option linter.unusedSimpArgs false
def OutWay (n : Nat) (nb : Nat → List Nat) (ok : Nat → Bool) (rk : Nat → Int) (a b : Nat) (w : World) (e : Ending) (w' : World) : Prop :=
  ∃ rs, IsRisk n nb ok rk a rs ∧ ((at_ rs b < 0 ∧ OutL 0 [] w e w') ∨ (0 ≤ at_ rs b ∧ ∃ l, Back rk rs nb a b l ∧ OutI (nats l) w e w'))
section
variable {n : Nat} {nb : Nat → List Nat} {ok : Nat → Bool} {rk : Nat → Int} {a : Nat} {rs : List Int}
theorem Back.first {l : List Nat} (h : Back rk rs nb a a l) : l = [a] := Back.uniq h .base
theorem Back.split {c k : Nat} {l : List Nat} (h : Back rk rs nb a c l) (hc : c ≠ a) (hk : prevF rk rs nb c = some k) : ∃ l', l = l' ++ [c] ∧ Back rk rs nb a k l' := by
  cases h with
  | base => exact absurd rfl hc
  | step h1 h2 h3 =>
    rw [hk] at h2
    injection h2 with e
    subst e
    exact ⟨_, rfl, h3⟩
theorem IsRisk.bnds (hp : ∀ i, 1 ≤ rk i) (x : IsRisk n nb ok rk a rs) : ∀ i, -1 ≤ at_ rs i ∧ at_ rs i ≤ 1000000 := fun i => by
  refine ⟨?_, x.bnd i⟩
  rcases x.val i with ⟨h, _⟩ | ⟨h, _⟩
  · omega
  · have := h.ge hp; have := hp i; omega
theorem IsRisk.okp (hp : ∀ i, 1 ≤ rk i) (x : IsRisk n nb ok rk a rs) {c : Nat} (h : 0 ≤ at_ rs c) : ok a = true := ((x.nn hp).1 h).left
end
def WayR (w wr : World) (n g c lo : Nat) (nb : Nat → List Nat) (rk : Nat → Int) (rs : List Int) (a : Nat) (full : List Nat) (v s : Value) : Prop :=
  ∃ (m : Nat) (bs : List Nat) (z : Int), s = .int .i64 z ∧ m = bs.length ∧ wr.ownsRow lo 3 1 v m (ints (nats bs)) ∧ wr.ownsRow w.heap.size 3 1 (.slice (some ⟨g, 0, none⟩) n c) n (ints rs) ∧ Below w.heap.size w wr ∧ g < lo ∧ lo ≤ wr.heap.size ∧ m ≤ 1000001 ∧
    ((z = -1 ∧ bs.reverse = full) ∨ ∃ (ci : Nat) (l : List Nat), z = ci ∧ ci < n ∧ Back rk rs nb a ci l ∧ l ++ bs.reverse = full ∧ 0 ≤ at_ rs ci ∧ (m : Int) + at_ rs ci ≤ 1000000)
def wayM (rs : List Int) (v : Value) : Nat := if intOf v < 0 then 0 else (at_ rs (intOf v).toNat).toNat + 1
theorem wayM_nat (rs : List Int) (k : Nat) : wayM rs (.int .i64 (k : Int)) = (at_ rs k).toNat + 1 := by
  have : ¬ intOf (Value.int .i64 (k : Int)) < 0 := by simp [intOf]
  unfold wayM
  rw [if_neg this]
  simp [intOf]
theorem wayM_neg (rs : List Int) : wayM rs (.int .i64 (-1)) = 0 := by
  have : intOf (Value.int .i64 (-1)) < 0 := by simp [intOf]
  unfold wayM
  rw [if_pos this]
end Go.Proofs.Ytiihenhddleooac

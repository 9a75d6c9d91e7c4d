/- Contracts of GreatestLoad, of the program and of the model. -/
import Derived.Test.YtiihenhddleooacWayToS
namespace Go.Proofs.Ytiihenhddleooac
open Go.RowKit
set_option linter.unusedVariables false
set_option linter.unusedSimpArgs false
section
variable {pp : List (List Int)} {a b : Nat}
theorem okF_mono {l l' : Int} (h : l' ≤ l) : ∀ i, okF pp l i = true → okF pp l' i = true := fun i hi => by
  unfold okF at *
  simp only [Bool.and_eq_true, decide_eq_true_eq] at *
  exact ⟨hi.1, by omega⟩
theorem okF_le {l : Int} {i : Nat} (h : okF pp l i = true) : l ≤ thk pp i * thk pp i := by
  unfold okF at h
  simp only [Bool.and_eq_true, decide_eq_true_eq] at h
  exact h.2
def RchL (pp : List (List Int)) (a b : Nat) (l : Int) : Prop := Rch (nbP pp) (okF pp l) a b
theorem RchL.down {l l' : Int} (h : RchL pp a b l) (hl : l' ≤ l) : RchL pp a b l' := h.mono (okF_mono hl)
def ldF (t : Int) : Int := if t < 900000 then t else 900000
theorem ldF_le (t : Int) : ldF t ≤ t ∧ ldF t ≤ 900000 := by unfold ldF; split <;> omega
theorem ldF_ge {t l : Int} (h : l ≤ t) (h2 : l ≤ 900000) : l ≤ ldF t := by unfold ldF; split <;> omega
theorem RchL.cell {l : Int} (hl : l ≤ 900000) (h : RchL pp a b l) : ∃ i, i < cnt pp ∧ l ≤ ldF (thk pp i * thk pp i) ∧ RchL pp a b (ldF (thk pp i * thk pp i)) := by
  unfold RchL at h
  induction h with
  | refl h =>
    refine ⟨a, okF_lt a h, ldF_ge (okF_le h) hl, .refl ?_⟩
    unfold okF
    simp only [Bool.and_eq_true, decide_eq_true_eq]
    exact ⟨okF_lt a h, (ldF_le _).1⟩
  | @step j k _ h1 h2 ih =>
    obtain ⟨q, hq, hl2, hr⟩ := ih
    have hk := okF_lt k h2
    by_cases hc : ldF (thk pp k * thk pp k) ≤ ldF (thk pp q * thk pp q)
    · refine ⟨k, hk, ldF_ge (okF_le h2) hl, (hr.down hc).step h1 ?_⟩
      unfold okF
      simp only [Bool.and_eq_true, decide_eq_true_eq]
      exact ⟨hk, (ldF_le _).1⟩
    · refine ⟨q, hq, hl2, Rch.step hr h1 ?_⟩
      unfold okF
      simp only [Bool.and_eq_true, decide_eq_true_eq]
      have := (ldF_le (thk pp k * thk pp k)).1
      exact ⟨hk, by omega⟩
structure IsGL (pp : List (List Int)) (a b : Nat) (z : Int) : Prop where
  lo : 0 ≤ z
  up : z ≤ 900000
  thru : z = 0 ∨ RchL pp a b z
  top : ∀ l, z < l → l ≤ 900000 → ¬ RchL pp a b l
theorem IsGL.uniq {y z : Int} (h : IsGL pp a b y) (g : IsGL pp a b z) : y = z := by
  rcases Int.lt_trichotomy y z with e | e | e
  · rcases g.thru with h0 | h0
    · have := h.lo; omega
    · exact absurd h0 (h.top z e g.up)
  · exact e
  · rcases h.thru with h0 | h0
    · have := g.lo; omega
    · exact absurd h0 (g.top y e h.up)
theorem Lab.rch {n : Nat} {nb : Nat → List Nat} {ok : Nat → Bool} {fs : List Int} (h : Lab n nb ok fs) : Rch nb ok a b ↔ 0 ≤ at_ fs a ∧ at_ fs a = at_ fs b :=
  ⟨fun hr => ⟨h.pos a hr.left, h.con a b hr⟩, fun ⟨h1, h2⟩ => h.sep a b h1 h2⟩
end
def OutQ (P : Prop) (w : World) (e : Ending) (w' : World) : Prop := ∃ q : Bool, e = .returned (.bool q) ∧ (q = true ↔ P) ∧ Below w.heap.size w w'
def OutGL (pp : List (List Int)) (a b : Nat) (w : World) (e : Ending) (w' : World) : Prop := ∃ z, e = .returned (.int .i64 z) ∧ IsGL pp a b z ∧ Below w.heap.size w w'
def GlRel (pp : List (List Int)) (w wr : World) (a b : Nat) (v i : Value) : Prop :=
  ∃ (k : Nat) (z : Int), k ≤ cnt pp ∧ i = .int .i64 k ∧ v = .int .i64 z ∧ 0 ≤ z ∧ z ≤ 900000 ∧ (z = 0 ∨ RchL pp a b z) ∧ (∀ q, q < k → RchL pp a b (ldF (thk pp q * thk pp q)) → ldF (thk pp q * thk pp q) ≤ z) ∧ Below w.heap.size w wr
theorem gl_step {pp : List (List Int)} {a b k : Nat} {z z' : Int} (h : ∀ q, q < k → RchL pp a b (ldF (thk pp q * thk pp q)) → ldF (thk pp q * thk pp q) ≤ z) (hz : z ≤ z') (hk : RchL pp a b (ldF (thk pp k * thk pp k)) → ldF (thk pp k * thk pp k) ≤ z') :
    ∀ q, q < k + 1 → RchL pp a b (ldF (thk pp q * thk pp q)) → ldF (thk pp q * thk pp q) ≤ z' := fun q hq hr => by
  rcases Nat.lt_or_ge q k with g | g
  · have := h q g hr; omega
  · obtain rfl : q = k := by omega
    exact hk hr
def OutNo (w : World) (e : Ending) (w' : World) : Prop := e = .returned (.int .i64 (-1)) ∧ Below w.heap.size w w'
end Go.Proofs.Ytiihenhddleooac

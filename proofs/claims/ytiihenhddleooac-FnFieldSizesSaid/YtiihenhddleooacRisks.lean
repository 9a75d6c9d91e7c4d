/- Contracts of risksOver and RisksFrom: the least risks of ways to all cells. -/
import Derived.Deep.LoopGhost
import Derived.Test.YtiihenhddleooacLeast
namespace Go.Proofs.Ytiihenhddleooac
open Go.RowKit
set_option linter.unusedVariables false
set_option linter.unusedSimpArgs false
def OutRisk (n : Nat) (nb : Nat → List Nat) (ok : Nat → Bool) (rk : Nat → Int) (a : Nat) (w : World) (e : Ending) (w' : World) : Prop :=
  ∃ rs, IsRisk n nb ok rk a rs ∧ OutL n rs w e w'
theorem outRisk_after {n : Nat} {nb : Nat → List Nat} {ok : Nat → Bool} {rk : Nat → Int} {a : Nat} {w w1 w' : World} {e : Ending} (hb : Below w.heap.size w w1) (h : OutRisk n nb ok rk a w1 e w') : OutRisk n nb ok rk a w e w' := by
  obtain ⟨fs, hl, A', c', h1, h2, h3, h4⟩ := h
  exact ⟨fs, hl, A', c', h1, h2, own_base h3 hb.size, hb.trans (h4.mono hb.size)⟩
/-- the two lists of the search -/
def Two (w wr : World) (n g1 c1 g2 c2 : Nat) (rs : List Int) (dn : List Bool) : Prop :=
  wr.ownsRow w.heap.size 3 1 (.slice (some ⟨g1, 0, none⟩) n c1) n (ints rs) ∧ wr.ownsRow w.heap.size 4 1 (.slice (some ⟨g2, 0, none⟩) n c2) n (bools dn) ∧ g1 ≠ g2 ∧ Below w.heap.size w wr
theorem two_below {w wr w2 : World} {n g1 c1 g2 c2 : Nat} {rs : List Int} {dn : List Bool} (h : Two w wr n g1 c1 g2 c2 rs dn) (hb : Below wr.heap.size wr w2) : Two w w2 n g1 c1 g2 c2 rs dn := by
  obtain ⟨h1, h2, h3, h4⟩ := h
  exact ⟨own_below h1 hb, own_below h2 hb, h3, h4.trans (hb.mono h4.size)⟩
theorem two_drewN {w wr : World} {n g1 c1 g2 c2 : Nat} {rs : List Int} {dn : List Bool} (h : Two w wr n g1 c1 g2 c2 rs dn) (q : Nat) : Two w (wr.drewN q) n g1 c1 g2 c2 rs dn := by
  obtain ⟨h1, h2, h3, h4⟩ := h
  exact ⟨h1, h2, h3, below_drewN h4 q⟩
theorem two_rs {w wr : World} {n g1 c1 g2 c2 : Nat} {rs : List Int} {dn : List Bool} (h : Two w wr n g1 c1 g2 c2 rs dn) (k : Nat) (z : Int) : Two w (wr.setCell ⟨g1, k, none⟩ (.int .i64 z)) n g1 c1 g2 c2 (rs.set k z) dn := by
  obtain ⟨h1, h2, h3, h4⟩ := h
  have := own_block h1 g1 rfl
  exact ⟨by rw [← ints_set]; exact own_put h1 k _, own_other h2 (fun e => by simp [Value.ownBlock] at e; omega) _, h3, h4.setCell (by simpa using this) _⟩
theorem two_dn {w wr : World} {n g1 c1 g2 c2 : Nat} {rs : List Int} {dn : List Bool} (h : Two w wr n g1 c1 g2 c2 rs dn) (k : Nat) (b : Bool) : Two w (wr.setCell ⟨g2, k, none⟩ (.bool b)) n g1 c1 g2 c2 rs (dn.set k b) := by
  obtain ⟨h1, h2, h3, h4⟩ := h
  have := own_block h2 g2 rfl
  exact ⟨own_other h1 (fun e => by simp [Value.ownBlock] at e; omega) _, by rw [← bools_set]; exact own_put h2 k _, h3, h4.setCell (by simpa using this) _⟩
def RkRel (w : World) (n g1 c1 g2 c2 : Nat) (nb : Nat → List Nat) (ok : Nat → Bool) (rk : Nat → Int) (a : Nat) (m : Nat) (s : Value) (wr : World) : Prop :=
  ∃ (rs : List Int) (dn : List Bool) (l : Int), s = .int .i64 l ∧ Least rs dn n l ∧ opens dn = m ∧ Dij n nb ok rk a ((n : Int) - m) rs dn ∧ Two w wr n g1 c1 g2 c2 rs dn
def RkIn (w wr : World) (n g1 c1 g2 c2 : Nat) (nb : Nat → List Nat) (ok : Nat → Bool) (rk : Nat → Int) (a : Nat) (q : Int) (dn : List Bool) (c lo : Nat) (A2 : Option Addr) (cA L : Nat) (s : Value) : Prop :=
  ∃ (t : Nat) (rs : List Int), t ≤ L ∧ s = .int .i64 t ∧ DijI n nb ok rk a q rs dn c t ∧ Two w wr n g1 c1 g2 c2 rs dn ∧ wr.ownsRow lo 3 1 (.slice A2 L cA) L (ints (nats (nb c))) ∧ g1 < lo ∧ lo ≤ wr.heap.size
theorem Least.start {n a : Nat} (h : a < n) {r : Int} (h0 : 0 ≤ r) : Least ((List.replicate n (-1)).set a r) (List.replicate n false) n a := by
  refine .inr ⟨a, rfl, h, ?_, isd_rep n a, fun i _ hi _ => ?_⟩
  · rw [at_set _ _ _ _ (by simpa using h), if_pos rfl]; exact h0
  · have ea : at_ ((List.replicate n (-1)).set a r) a = r := by rw [at_set _ _ _ _ (by simpa using h), if_pos rfl]
    rw [ea]
    rw [at_set _ _ _ _ (by simpa using h)] at hi ⊢
    by_cases e : i = a
    · rw [if_pos e]; exact Int.le_refl _
    · rw [if_neg e, at_rep] at hi; omega
theorem opens_rep (n : Nat) : opens (List.replicate n false) = n := by simp [opens]
theorem nb_some {nb : Nat → List Nat} (h : ∀ k, (nb k).length ≤ 4) (k : Nat) : (nats (nb k)).length ≤ 4 := by rw [nats_length]; exact h k
end Go.Proofs.Ytiihenhddleooac

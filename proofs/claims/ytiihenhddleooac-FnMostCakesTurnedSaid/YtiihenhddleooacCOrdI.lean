/- Contracts of chapter 3: the order in which cakes float out, the program. -/
import Derived.Test.YtiihenhddleooacCOrd
import Derived.Test.YtiihenhddleooacFWords
namespace Go.Proofs.Ytiihenhddleooac
open Go.RowKit
set_option linter.unusedVariables false
set_option linter.unusedSimpArgs false
theorem rowIs_below {w w' : World} {g n : Nat} {T : TypeId} {f : Nat → Value} {B : Nat} (h : w.rowIs g T n f) (hb : Below B w w') (hg : g < B) : w'.rowIs g T n f := by
  obtain ⟨c, h1, h2, h3⟩ := h
  exact ⟨c, by rw [hb.block g hg]; exact h1, h2, h3⟩
theorem ord_all {cs : List (Int × Int)} {n : Nat} (hl : cs.length = n) (P : Plc (plcF cs) cs.length) {f : Nat → Nat} (hf : ∀ j, j < n → f (befF (plcF cs) n j) = j) : (List.range n).map f = ordF cs cs.length := by
  subst hl
  refine (ordF_ok P cs.length (Nat.le_refl _)).uniq (by simp) fun j hj => ?_
  have h1 : befF (plcF cs) cs.length j < cs.length := befF_lt hj (P.irr j hj)
  rw [List.getElem?_map, List.getElem?_range h1, Option.map_some, hf j hj]
end Go.Proofs.Ytiihenhddleooac

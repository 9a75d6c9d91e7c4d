/- Contracts of chapter 2's model: a cell of a pond is cut. -/
import Derived.StillTailTactics
import Derived.Deep.RegionWith
import Derived.Test.YtiihenhddleooacCutI
namespace Go.Proofs.Ytiihenhddleooac
open Go.RowKit
set_option linter.unusedVariables false
set_option linter.unusedSimpArgs false
theorem PG.own {w : World} {base : Nat} {A : Option Addr} {n c : Nat} {xs : List Value} {pp : List (List Int)} (h : PG w base (.slice A n c) n xs pp) : OwnG w base w.heap.size A n c xs pp :=
  ⟨h.out, h.len, h.row, h.sep, fun i u b hu hb e => by
      have hi : i < n := by have := (List.getElem?_eq_some_iff.1 hu).1; have := h.out.1; omega
      obtain ⟨A', c', h1, h2⟩ := h.row i (pp[i]'(by rw [h.len]; exact hi)) (List.getElem?_eq_getElem _)
      rw [h1] at hu
      injection hu with hu
      subst hu
      exact own_types h2 h.out types_ne b hb e,
    h.hi_, fun b hb => own_lt h.out b hb⟩
end Go.Proofs.Ytiihenhddleooac

/- Turned grids. Plain mathematics. -/
import Derived.Test.YtggdnpaiaijhgaaGrid
namespace Go.Proofs.Ytggdnpaiaijhgaa
open Go.RowKit
set_option linter.unusedVariables false
set_option linter.unusedSimpArgs false
def colF (pp : List (List Int)) (x : Nat) : List Int := pp.map (fun r => r.getD x 0)
def tpF (pp : List (List Int)) : List (List Int) := (List.range (wide pp)).map (colF pp)
theorem colF_len (pp : List (List Int)) (x : Nat) : (colF pp x).length = pp.length := List.length_map ..
theorem tpF_len (pp : List (List Int)) : (tpF pp).length = wide pp := by simp [tpF]
theorem colF_at {pp : List (List Int)} {x k : Nat} {z : Int} (hk : k < pp.length) (h : (pp.getD k [])[x]? = some z) : (colF pp x)[k]? = some z := by
  unfold colF
  rw [List.getElem?_map]
  rw [List.getD_eq_getElem?_getD, List.getElem?_eq_getElem hk] at h
  rw [List.getElem?_eq_getElem hk]
  simp only [Option.getD_some] at h
  simp only [Option.map_some, List.getD_eq_getElem?_getD, h, Option.getD_some]
theorem tpF_at {pp : List (List Int)} {m : Nat} (hm : m < wide pp) : (tpF pp)[m]? = some (colF pp m) := by
  unfold tpF
  rw [List.getElem?_map, List.getElem?_range hm]
  rfl

end Go.Proofs.Ytggdnpaiaijhgaa

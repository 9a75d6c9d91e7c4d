/- FrostSum of parts of a list. -/
import Derived.Test.YthccmpbklhlohaaRuns
import Derived.Test.YthccmpbklhlohaaHelps
namespace Go.Proofs.Ythccmpbklhlohaa
open Go.RowKit
set_option linter.unusedVariables false
set_option linter.unusedSimpArgs false

theorem iFrost_n (n : Nat) (ys : List Int) (hy : ys.length = n) (A : Option Addr) (c : Nat) (w : World) (B : Nat) (hr : Rd w B A (ints ys)) :
    Calls Try.prog 24 #[.slice A n c] w fun e w' => e = .returned (.int .i64 (frostT ys)) ∧ w = w' := by
  subst hy
  exact iFrost_any ys A c w B hr
theorem frostT_neg {zs : List Int} (h : ¬ tempsB zs = true) : frostT zs = -1 := by unfold frostT; rw [if_neg h]
theorem frostF_append (a b : List Int) : frostF (a ++ b) = frostF a + frostF b := by simp [frostF]
theorem frostF_warm (zs : List Int) : frostF (zs.map (fun z => -z)) - frostF zs = zs.sum := by
  induction zs with
  | nil => rfl
  | cons z zs ih =>
    have h : coldF (-z) - coldF z = z := by unfold coldF; split <;> split <;> omega
    simp only [frostF, List.map_cons, List.sum_cons] at *
    omega
theorem tempsB_warm {zs : List Int} (h : tempsB zs = true) : tempsB (zs.map (fun z => -z)) = true := by
  unfold tempsB at *
  simp only [Bool.and_eq_true, decide_eq_true_eq, List.all_eq_true, List.length_map, List.mem_map] at *
  refine ⟨h.1, ?_⟩
  rintro _ ⟨z, hz, rfl⟩
  have := inB_t (h.2 z hz)
  exact inB_mk ⟨by omega, by omega⟩
theorem frostT_range {zs : List Int} (h : tempsB zs = true) : 0 ≤ frostT zs ∧ frostT zs ≤ 80000 := by
  rw [frostT_ok h]
  have := frostF_take h zs.length
  rwa [List.take_length] at this
theorem map_snoc {zs : List Int} {k : Nat} {z : Int} (f : Int → Int) (hz : zs[k]? = some z) : (zs.take (k + 1)).map f = (zs.take k).map f ++ [f z] := by rw [take_snoc hz]; simp

end Go.Proofs.Ythccmpbklhlohaa

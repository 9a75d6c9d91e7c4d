/- What the law FnValidCakes asks: cakes without one of them are valid; the generator of its arguments. -/
import Derived.Lib.QuietBelow
import Derived.Deep.RegionHeld3
import Derived.Test.YtjjddamblijffabCDraws
import Derived.Test.YtjjddamblijffabSawM
import Derived.Test.YtjjddamblijffabHelps
namespace Go.Proofs.Ytjjddamblijffab
open Go.RowKit
set_option linter.unusedVariables false
set_option linter.unusedSimpArgs false
theorem add_off (b off j : Nat) : (⟨b, off, none⟩ : Addr).add j = ⟨b, off + j, none⟩ := by
  by_cases hj : j = 0 <;> simp [Addr.add, hj]
/-- the cakes without that at place k -/
def outC (cs : List (Int × Int)) (k : Nat) : List (Int × Int) := cs.take k ++ cs.drop (k + 1)
theorem outC_len {cs : List (Int × Int)} {k : Nat} (h : k < cs.length) : (outC cs k).length + 1 = cs.length := by
  unfold outC
  rw [List.length_append, List.length_take, List.length_drop]
  omega
theorem outC_at {cs : List (Int × Int)} {k : Nat} (h : k < cs.length) (i : Nat) : cAt (outC cs k) i = cAt cs (if i < k then i else i + 1) := by
  unfold cAt outC
  rw [List.getD_eq_getElem?_getD, List.getD_eq_getElem?_getD]
  congr 1
  have hl : (cs.take k).length = k := by rw [List.length_take]; omega
  split
  · rename_i hi
    rw [List.getElem?_append_left (by omega), List.getElem?_take_of_lt hi]
  · rename_i hi
    rw [List.getElem?_append_right (by omega), hl, List.getElem?_drop]
    congr 1
    omega
theorem cakesB_out {a b : Int} {cs : List (Int × Int)} (h : cakesB a b cs = true) {k : Nat} (hk : k < cs.length) : cakesB a b (outC cs k) = true := by
  have hl := outC_len hk
  have hp := cakesB_parts h
  rw [cakesB_ok hp.1]
  unfold okTo
  rw [List.all_eq_true]
  intro i hi
  rw [List.mem_range] at hi
  rw [outC_at hk]
  have hf : (if i < k then i else i + 1) < cs.length := by split <;> omega
  rw [okTo_on hp.2 hf, Bool.true_and]
  cases e : anyOver a b (cAt cs (if i < k then i else i + 1)) (outC cs k) i
  · rfl
  · unfold anyOver at e
    rw [List.any_eq_true] at e
    obtain ⟨j, hj, hjo⟩ := e
    rw [List.mem_range] at hj
    rw [outC_at hk] at hjo
    have hg : (if j < k then j else j + 1) < cs.length := by split <;> omega
    rw [cakes_apart h hf hg (by split <;> split <;> omega)] at hjo
    cases hjo
theorem cakeV_out (cs : List (Int × Int)) (k : Nat) : (cakeV cs).take (k * 2) ++ (cakeV cs).drop ((k + 1) * 2) = cakeV (outC cs k) := by
  rw [cakeV_take, cakeV_drop]
  unfold outC
  rw [cakeV_app]
theorem cakeV_one (cs : List (Int × Int)) : ∀ u ∈ cakeV cs, u.oneCell' = true := fun u hu => by
  unfold cakeV at hu
  rw [List.mem_flatMap] at hu
  obtain ⟨cc, _, hu⟩ := hu
  simp at hu
  rcases hu with rfl | rfl <;> rfl
def dValidCakesPost (w : World) (e : Ending) (w' : World) : Prop := ∃ (ks : List (Int × Int)) (Ak : Option Addr) (ck : Nat) (a h : Int), e = .returned (.tuple #[.slice Ak ks.length ck, .int .i64 a, .int .i64 h]) ∧ CDraw w' ks Ak ck ∧ (0 ≤ a ∧ a ≤ 5) ∧ (1 ≤ h ∧ h ≤ 3) ∧ Below w.heap.size w w'
end Go.Proofs.Ytjjddamblijffab

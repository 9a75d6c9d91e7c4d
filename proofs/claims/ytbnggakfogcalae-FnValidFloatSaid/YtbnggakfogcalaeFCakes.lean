/- Contracts of chapter 3: the cakes of a grid. -/
import Derived.Deep.RegionWith
import Derived.Test.YtbnggakfogcalaeCGrid
import Derived.Test.YtbnggakfogcalaeCWords
namespace Go.Proofs.Ytbnggakfogcalae
open Go.RowKit
set_option linter.unusedVariables false
set_option linter.unusedSimpArgs false
theorem vSize_any (a b : Int) (w : World) :
    Calls Try.prog 32 #[.int .i64 a, .int .i64 b] w fun e w' => e = .returned (.bool (sidesB a b)) ∧ w = w' := by
  have H : Hid (sidesB a b = (inB a 1 4 && inB b 1 4)) := Lib.hid rfl
  have cI := fun n w => inRange_any n 1 4 w
  cases h1 : inB a 1 4
  · have H1 := Lib.hid h1
    go_enter Try.func32, Try.ntmps32
    go_wp2_with fail
    refine (inR_is H1.out _).mono ?_
    rintro e w' ⟨rfl, rfl⟩
    go_wp2
    go_ret
    exact ⟨ret_bool (by rw [H.out, H1.out]; rfl), rfl⟩
  · have H1 := Lib.hid h1
    go_enter Try.func32, Try.ntmps32
    go_wp2_with fail
    refine (inR_is H1.out _).mono ?_
    rintro e w' ⟨rfl, rfl⟩
    go_wp2_with fail
    refine (inRange_any _ _ _ _).mono ?_
    rintro e w' ⟨rfl, rfl⟩
    go_wp2
    go_ret
    exact ⟨ret_bool (by rw [H.out, H1.out]; rfl), rfl⟩
theorem vSize_is {q : Bool} {a b : Int} (h : sidesB a b = q) (w : World) :
    Calls Try.prog 32 #[.int .i64 a, .int .i64 b] w fun e w' => e = .returned (.bool q) ∧ w = w' := by
  have := vSize_any a b w
  rw [h] at this
  exact this
def GS (w wr : World) (v : Value) (l : List (Int × Int)) : Prop := ∃ n, n = l.length ∧ wr.ownsRow w.heap.size 55 2 v n (cakeV l) ∧ Below w.heap.size w wr
theorem GS.up {w wr w' : World} {v : Value} {l : List (Int × Int)} (h : GS w wr v l) (hb : Below wr.heap.size wr w') : GS w w' v l := by
  obtain ⟨n, h1, h2, h3⟩ := h
  exact ⟨n, h1, owz_below h2 hb, h3.trans (hb.mono h3.size)⟩
theorem GS.out {w wr : World} {v : Value} {l : List (Int × Int)} (h : GS w wr v l) : OutC l w (.returned v) wr := by
  obtain ⟨n, h1, h2, h3⟩ := h
  exact outC_mk h1.symm h2 h3
end Go.Proofs.Ytbnggakfogcalae

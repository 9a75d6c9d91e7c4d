/- ThicksOf, told with the length of its answer. -/
import Derived.Test.YthccmpbklhlohaaThicks
import Derived.Test.YthccmpbklhlohaaHelps
import Derived.Test.YthccmpbklhlohaaRuns
namespace Go.Proofs.Ythccmpbklhlohaa
open Go.RowKit
set_option linter.unusedVariables false
set_option linter.unusedSimpArgs false

theorem thicksT_nil {m : Int} {zs : List Int} (h : ¬(inB m 0 998001 = true ∧ tempsB zs = true)) : thicksT m zs = [] := by
  unfold thicksT
  rw [if_neg]
  simpa using h

theorem iThicks_n (ts : List Int) (zs : List Int) (m : Int) (ht : thicksT m zs = ts) (n : Nat) (hn : ts.length = n) (A : Option Addr) (c : Nat) (w : World) (hr : Rd w w.heap.size A (ints zs)) :
    Calls Try.prog 27 #[.int .i64 m, .slice A zs.length c] w fun e w' => ∃ A' c', e = .returned (.slice A' n c') ∧ w'.ownsRow w.heap.size 3 1 (.slice A' n c') n (ints ts) ∧ Below w.heap.size w w' := by
  subst ht hn
  exact iThicks_any zs A c w hr m

theorem sThicks_n (ts : List Int) (zs : List Int) (m : Int) (ht : thicksT m zs = ts) (n : Nat) (hn : ts.length = n) (A : Option Addr) (c : Nat) (w : World) (hr : Rd w w.heap.size A (ints zs)) :
    Calls Try.prog 29 #[.int .i64 m, .slice A zs.length c] w fun e w' => ∃ A' c', e = .returned (.slice A' n c') ∧ w'.ownsRow w.heap.size 3 1 (.slice A' n c') n (ints ts) ∧ Below w.heap.size w w' := by
  subst ht hn
  exact sThicks_any zs A c w hr m

theorem equalInts_n (n : Nat) (zs : List Int) (hl : zs.length = n) (A A' : Option Addr) (c c' : Nat) (w : World) (B : Nat) (hr : Rd w B A (ints zs)) (hr' : Rd w B A' (ints zs)) (hn : n ≤ 1048576) :
    Calls Try.prog 28 #[.slice A n c, .slice A' n c'] w fun e w' => e = .returned (.bool true) ∧ ∃ n, w' = w.drewN n := by
  subst hl
  exact equalInts_same zs A A' c c' w B hr hr' hn

end Go.Proofs.Ythccmpbklhlohaa

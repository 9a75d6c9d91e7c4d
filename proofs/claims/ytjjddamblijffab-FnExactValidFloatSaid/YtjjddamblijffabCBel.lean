/- The exact laws' helpers in one form: what was there stays. -/
import Derived.Test.YtjjddamblijffabFBel
import Derived.Test.YtjjddamblijffabCExact
import Derived.Test.YtjjddamblijffabFBest
namespace Go.Proofs.Ytjjddamblijffab
open Go.RowKit
set_option linter.unusedVariables false
set_option linter.unusedSimpArgs false
theorem eqF_b (ff : List (List Bool)) (A A' : Option Addr) (c c' : Nat) (w : World) (B : Nat) (hg : RdF w B A ff) (hg' : RdF w B A' ff) (hn : sizesF ff ≤ 1048576) :
    Calls Try.prog 53 #[.slice A ff.length c, .slice A' ff.length c'] w fun e w' => e = .returned (.bool true) ∧ Below w.heap.size w w' :=
  (eqBoolSS_same ff A A' c c' w B hg hg' hn).mono fun _ _ ⟨h, n, e⟩ => ⟨h, e ▸ below_drewN (Below.refl _ _) n⟩
theorem eqI_b (zs : List Int) (A A' : Option Addr) (c c' : Nat) (w : World) (B : Nat) (hr : Rd w B A (ints zs)) (hr' : Rd w B A' (ints zs)) (hn : zs.length ≤ 1048576) :
    Calls Try.prog 20 #[.slice A zs.length c, .slice A' zs.length c'] w fun e w' => e = .returned (.bool true) ∧ Below w.heap.size w w' :=
  (eqIntS_same zs A A' c c' w B hr hr' hn).mono fun _ _ ⟨h, n, e⟩ => ⟨h, e ▸ below_drewN (Below.refl _ _) n⟩
theorem cakesT_len {ff : List (List Bool)} {w h dx dy : Int} : (cakesT ff w h dx dy).length ≤ 1048576 := by
  unfold cakesT
  split
  · next hq =>
    rw [Bool.and_eq_true] at hq
    exact Nat.le_trans (gridF_len hq.1) (by omega)
  · simp
/-- after a mark the blocks that are not the marked list's are as they were -/
theorem fr_of_grown {w w' : World} {lo hi : Nat} {T : TypeId} {z n c : Nat} {A : Option Addr} {xs : List Value} (h : w.ownsRow lo T z (.slice A n c) n xs) (hh : ∀ k, (Value.slice A n c).ownBlock = some k → k < hi) (hg : w.grownBy w' (Value.slice A n c).ownBlock) :
    ∀ q, q < w.heap.size → (q < lo ∨ hi ≤ q) → w'.heap[q]? = w.heap[q]? := fun q hq hq2 => hg.block q hq (fun e => by
  have h1 := owz_block h q e.symm
  have h2 := hh q e.symm
  omega)
theorem only_below {B : Nat} {a w w' : World} {r : Option Nat} (h : Below B a w) (hg : w.grownBy w' r) (hB : B ≤ a.heap.size) (hr : ∀ k, r = some k → B ≤ k) : Below B a w' :=
  ⟨hg.os.trans h.os, hg.tape.trans h.tape, hg.output.trans h.output, Nat.le_trans h.size hg.size, fun k hk => (hg.block k (by have := h.size; omega) (fun e => by have := hr k e.symm; omega)).trans (h.block k hk)⟩
theorem iCakes_b {ts : List (Int × Int)} (ff : List (List Bool)) (A : Option Addr) (c : Nat) (hcap : ff.length ≤ c ∧ c ≤ maxLen) (w : World) (hg : RdF w w.heap.size A ff) (a h dx dy : Int) (hts : Hid (ts = cakesT ff a h dx dy)) :
    Calls Try.prog 56 #[.slice A ff.length c, .int .i64 a, .int .i64 h, .int .i64 dx, .int .i64 dy] w (OutC ts w) := by
  rw [hts.out]; exact iCakes_any ff A c hcap w hg a h dx dy

end Go.Proofs.Ytjjddamblijffab

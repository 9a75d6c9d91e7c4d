/- The arguments of the laws of chapter 4, by contracts. -/
import Derived.Test.YtcjcdlhmhhbkgabLDraws
namespace Go.Proofs.Ytcjcdlhmhhbkgab
open Go.RowKit
set_option linter.unusedVariables false
set_option linter.unusedSimpArgs false

def dValidTimesPost (w : World) (e : Ending) (w' : World) : Prop := ∃ (zs : List Int) (Azs : Option Addr) (czs : Nat), e = .returned (.slice Azs zs.length czs) ∧ DrawnT w' zs Azs czs ∧ Below w.heap.size w w'
def dLiftTimesPost (w : World) (e : Ending) (w' : World) : Prop := ∃ (zs : List Int) (Azs : Option Addr) (czs : Nat) (a : Int) (b : Int), e = .returned (.tuple #[.slice Azs zs.length czs, .int .i64 a, .int .i64 b]) ∧ DrawnT w' zs Azs czs ∧ (0 ≤ a ∧ a ≤ 61) ∧ (0 ≤ b ∧ b ≤ 9) ∧ Below w.heap.size w w'
def dWaitingAtPost (w : World) (e : Ending) (w' : World) : Prop := ∃ (zs : List Int) (Azs : Option Addr) (czs : Nat) (a : Int) (b : Int) (t : Int), e = .returned (.tuple #[.slice Azs zs.length czs, .int .i64 a, .int .i64 b, .int .i64 t]) ∧ DrawnT w' zs Azs czs ∧ (0 ≤ a ∧ a ≤ 61) ∧ (0 ≤ b ∧ b ≤ 9) ∧ (-1 ≤ t ∧ t ≤ 5000) ∧ Below w.heap.size w w'
def dLeastLiftsPost (w : World) (e : Ending) (w' : World) : Prop := ∃ (zs : List Int) (Azs : Option Addr) (czs : Nat) (a : Int) (t : Int), e = .returned (.tuple #[.slice Azs zs.length czs, .int .i64 a, .int .i64 t]) ∧ DrawnT w' zs Azs czs ∧ (0 ≤ a ∧ a ≤ 61) ∧ (-1 ≤ t ∧ t ≤ 40) ∧ Below w.heap.size w w'
def dGreatestGapPost (w : World) (e : Ending) (w' : World) : Prop := ∃ (zs : List Int) (Azs : Option Addr) (czs : Nat) (b : Int) (t : Int), e = .returned (.tuple #[.slice Azs zs.length czs, .int .i64 b, .int .i64 t]) ∧ DrawnT w' zs Azs czs ∧ (0 ≤ b ∧ b ≤ 9) ∧ (-1 ≤ t ∧ t ≤ 100) ∧ Below w.heap.size w w'
def dMergeTimesPost (w : World) (e : Ending) (w' : World) : Prop := ∃ (zs : List Int) (Azs : Option Addr) (czs : Nat) (ys : List Int) (Ays : Option Addr) (cys : Nat), e = .returned (.tuple #[.slice Azs zs.length czs, .slice Ays ys.length cys]) ∧ DrawnT w' zs Azs czs ∧ DrawnT w' ys Ays cys ∧ Below w.heap.size w w'
def dEveryOfPost (w : World) (e : Ending) (w' : World) : Prop := ∃ (zs : List Int) (Azs : Option Addr) (czs : Nat) (b : Int) (t : Int), e = .returned (.tuple #[.slice Azs zs.length czs, .int .i64 b, .int .i64 t]) ∧ DrawnT w' zs Azs czs ∧ (0 ≤ b ∧ b ≤ 9) ∧ (-1 ≤ t ∧ t ≤ 2) ∧ Below w.heap.size w w'
def dIdleOfPost (w : World) (e : Ending) (w' : World) : Prop := ∃ (zs : List Int) (Azs : Option Addr) (czs : Nat) (a : Int), e = .returned (.tuple #[.slice Azs zs.length czs, .int .i64 a]) ∧ DrawnT w' zs Azs czs ∧ (0 ≤ a ∧ a ≤ 61) ∧ Below w.heap.size w w'
set_option maxHeartbeats 1000000 in
theorem dIdleOf (cs : List Int) (A : Option Addr) (c : Nat) (w : World) (hr : Rd w w.heap.size A (bytes cs)) (hb : ∀ z ∈ cs, 0 ≤ z ∧ z ≤ 255) (hn : cs.length ≤ c) (hm : c ≤ maxLen) :
    Calls Try.prog 15 #[.slice A cs.length c] w (dIdleOfPost w) := by
  go_enter Try.func15, Try.ntmps15
  go_wp2_with fail
  refine (newReader_any _ _ _ _ hr hb hn hm).mono ?_
  rintro e w1 ⟨g, rfl, r1, b1⟩
  have hB := r1.1
  have hsz := b1.size
  have hltw2 := r1.lt
  go_wp2_with fail
  refine (someTimes_any _ _ _ _ r1 (by omega)).mono ?_
  rintro e w2 ⟨zs, Azs, czs, qw2, rfl, hlw2, ownw2, hqw2, rw2, gw2⟩
  go_wp2_with fail
  refine (one_any [3, 5, 1, 10, 60, 0, 61] 7 rfl _ _ _ _ _ (rw2.alloc _) (by omega) (by omega) (by omega) (alloc_at (by simp)) (by have := rw2.lt; omega)).mono ?_
  rintro e w3 ⟨a, rfl, hma, rw3, gw3⟩
  have hba : 0 ≤ a ∧ a ≤ 61 := by simp only [List.mem_cons, List.not_mem_nil, or_false] at hma; omega
  clear hma
  have HDzs : Hid (DrawnT w3 zs Azs czs) := Lib.hid (drawnT_only hlw2 ownw2 (only_trans (only_alloc (only_refl _ _) _) gw3) hltw2)
  have HBL := Lib.hid (fin_below b1 r1 (only_trans (only_alloc (only_trans (only_refl _ _) gw2) _) gw3))
  clear ownw2
  go_wp2
  go_ret2
  exact ⟨zs, Azs, czs, a, rfl, HDzs.out, (by omega), HBL.out⟩

end Go.Proofs.Ytcjcdlhmhhbkgab

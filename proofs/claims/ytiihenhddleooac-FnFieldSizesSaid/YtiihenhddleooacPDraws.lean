/- The generators of the arguments of chapter 2, by contracts. -/
import Derived.Test.YtiihenhddleooacAnyPond
import Derived.Test.YtiihenhddleooacDraws
namespace Go.Proofs.Ytiihenhddleooac
open Go.RowKit
set_option linter.unusedVariables false
set_option linter.unusedSimpArgs false

def DP (w : World) (pp : List (List Int)) (A : Option Addr) (c : Nat) : Prop := pp.length ≤ 6 ∧ pp.length ≤ c ∧ c ≤ maxLen ∧ RdG w w.heap.size A pp

def dValidPondPost (w : World) (e : Ending) (w' : World) : Prop := ∃ (pp : List (List Int)) (Ap : Option Addr) (cp : Nat), e = .returned (.slice Ap pp.length cp) ∧ DP w' pp Ap cp ∧ Below w.heap.size w w'
def dSafeCellsPost (w : World) (e : Ending) (w' : World) : Prop := ∃ (pp : List (List Int)) (Ap : Option Addr) (cp : Nat) (load : Int), e = .returned (.tuple #[.slice Ap pp.length cp, .int .i64 load]) ∧ DP w' pp Ap cp ∧ (-1000000 ≤ load ∧ load ≤ 1000000) ∧ Below w.heap.size w w'
set_option maxRecDepth 100000 in
set_option maxHeartbeats 1000000 in
theorem dSafeCells (cs : List Int) (A : Option Addr) (c : Nat) (w : World) (hr : Rd w w.heap.size A (bytes cs)) (hb : ∀ z ∈ cs, 0 ≤ z ∧ z ≤ 255) (hn : cs.length ≤ c) (hm : c ≤ maxLen) :
    Calls Try.prog 36 #[.slice A cs.length c] w (dSafeCellsPost w) := by
  go_enter Try.func36, Try.ntmps36
  go_wp2_with fail
  refine (newReader_any _ _ _ _ hr hb hn hm).mono ?_
  rintro e w1 ⟨g, rfl, r1, b1⟩
  have hB := r1.1
  have hsz := b1.size
  have hltg := r1.lt
  go_wp2_with fail
  refine (anyPond_any _ _ _ _ r1 (by omega)).mono ?_
  rintro e w2 ⟨pp, Ap, cp, q, rfl, hpl, hpc, hq, rw2, gw2, HCL⟩
  go_wp2_with fail
  refine (someLoad_any _ _ _ _ rw2 (by omega)).mono ?_
  rintro e w3 ⟨load, rfl, loload, hiload, rw3, gw3⟩
  have hdp : DP w3 pp Ap cp := ⟨hpl, hpc.1, hpc.2, HCL.out _ (only_trans (only_refl _ _) gw3)⟩
  have hbl := fin_below b1 r1 (only_trans (only_trans (only_refl _ _) gw2) gw3)
  have HDP := Lib.hid hdp
  have HBL := Lib.hid hbl
  clear hdp hbl
  go_wp2
  go_ret2
  exact ⟨pp, Ap, cp, load, rfl, HDP.out, (by omega), HBL.out⟩

set_option maxRecDepth 100000 in
set_option maxHeartbeats 1000000 in
theorem dFieldSizes (cs : List Int) (A : Option Addr) (c : Nat) (w : World) (hr : Rd w w.heap.size A (bytes cs)) (hb : ∀ z ∈ cs, 0 ≤ z ∧ z ≤ 255) (hn : cs.length ≤ c) (hm : c ≤ maxLen) :
    Calls Try.prog 10 #[.slice A cs.length c] w (dSafeCellsPost w) := by
  go_enter Try.func10, Try.ntmps10
  go_wp2_with fail
  refine (dSafeCells _ _ _ _ hr hb hn hm).mono ?_
  rintro e w1 ⟨pp, Ap, cp, load, rfl, h1, h2, h3⟩
  have H1 := Lib.hid h1
  have H3 := Lib.hid h3
  clear h1 h3
  go_wp2
  go_ret2
  exact ⟨pp, Ap, cp, load, rfl, H1.out, h2, H3.out⟩

set_option maxRecDepth 100000 in
set_option maxHeartbeats 1000000 in
theorem dNarrowsOf (cs : List Int) (A : Option Addr) (c : Nat) (w : World) (hr : Rd w w.heap.size A (bytes cs)) (hb : ∀ z ∈ cs, 0 ≤ z ∧ z ≤ 255) (hn : cs.length ≤ c) (hm : c ≤ maxLen) :
    Calls Try.prog 19 #[.slice A cs.length c] w (dSafeCellsPost w) := by
  go_enter Try.func19, Try.ntmps19
  go_wp2_with fail
  refine (dSafeCells _ _ _ _ hr hb hn hm).mono ?_
  rintro e w1 ⟨pp, Ap, cp, load, rfl, h1, h2, h3⟩
  have H1 := Lib.hid h1
  have H3 := Lib.hid h3
  clear h1 h3
  go_wp2
  go_ret2
  exact ⟨pp, Ap, cp, load, rfl, H1.out, h2, H3.out⟩

def dRisksFromPost (w : World) (e : Ending) (w' : World) : Prop := ∃ (pp : List (List Int)) (Ap : Option Addr) (cp : Nat) (load : Int) (f : Int), e = .returned (.tuple #[.slice Ap pp.length cp, .int .i64 load, .int .i64 f]) ∧ DP w' pp Ap cp ∧ (-1000000 ≤ load ∧ load ≤ 1000000) ∧ (-1000000 ≤ f ∧ f ≤ 1000000) ∧ Below w.heap.size w w'
def dWayToPost (w : World) (e : Ending) (w' : World) : Prop := ∃ (pp : List (List Int)) (Ap : Option Addr) (cp : Nat) (load : Int) (f : Int) (t : Int), e = .returned (.tuple #[.slice Ap pp.length cp, .int .i64 load, .int .i64 f, .int .i64 t]) ∧ DP w' pp Ap cp ∧ (-1000000 ≤ load ∧ load ≤ 1000000) ∧ (-1000000 ≤ f ∧ f ≤ 1000000) ∧ (-1000000 ≤ t ∧ t ≤ 1000000) ∧ Below w.heap.size w w'
def dGreatestLoadPost (w : World) (e : Ending) (w' : World) : Prop := ∃ (pp : List (List Int)) (Ap : Option Addr) (cp : Nat) (f : Int) (t : Int), e = .returned (.tuple #[.slice Ap pp.length cp, .int .i64 f, .int .i64 t]) ∧ DP w' pp Ap cp ∧ (-1000000 ≤ f ∧ f ≤ 1000000) ∧ (-1000000 ≤ t ∧ t ≤ 1000000) ∧ Below w.heap.size w w'
def dGrowPondPost (w : World) (e : Ending) (w' : World) : Prop := ∃ (pp : List (List Int)) (Ap : Option Addr) (cp : Nat) (zs : List Int) (Az : Option Addr) (cz : Nat), e = .returned (.tuple #[.slice Ap pp.length cp, .slice Az zs.length cz]) ∧ DP w' pp Ap cp ∧ Drawn w w' zs Az cz ∧ Below w.heap.size w w'
def dCutCellPost (w : World) (e : Ending) (w' : World) : Prop := ∃ (pp : List (List Int)) (Ap : Option Addr) (cp : Nat) (t : Int), e = .returned (.tuple #[.slice Ap pp.length cp, .int .i64 t]) ∧ DP w' pp Ap cp ∧ (-1000000 ≤ t ∧ t ≤ 1000000) ∧ Below w.heap.size w w'
end Go.Proofs.Ytiihenhddleooac

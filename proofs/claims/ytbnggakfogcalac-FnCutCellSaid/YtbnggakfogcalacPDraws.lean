/- The generators of the arguments of chapter 2, by contracts. -/
import Derived.Test.YtbnggakfogcalacAnyPond
import Derived.Test.YtbnggakfogcalacDraws
namespace Go.Proofs.Ytbnggakfogcalac
open Go.RowKit
set_option linter.unusedVariables false
set_option linter.unusedSimpArgs false

def DP (w : World) (pp : List (List Int)) (A : Option Addr) (c : Nat) : Prop := pp.length ≤ 6 ∧ pp.length ≤ c ∧ c ≤ maxLen ∧ RdG w w.heap.size A pp

def dValidPondPost (w : World) (e : Ending) (w' : World) : Prop := ∃ (pp : List (List Int)) (Ap : Option Addr) (cp : Nat), e = .returned (.slice Ap pp.length cp) ∧ DP w' pp Ap cp ∧ Below w.heap.size w w'
set_option maxHeartbeats 1000000 in
theorem dValidPond (cs : List Int) (A : Option Addr) (c : Nat) (w : World) (hr : Rd w w.heap.size A (bytes cs)) (hb : ∀ z ∈ cs, 0 ≤ z ∧ z ≤ 255) (hn : cs.length ≤ c) (hm : c ≤ maxLen) :
    Calls Try.prog 39 #[.slice A cs.length c] w (dValidPondPost w) := by
  go_enter Try.func39, Try.ntmps39
  go_wp2_with fail
  refine (newReader_any _ _ _ _ hr hb hn hm).mono ?_
  rintro e w1 ⟨g, rfl, r1, b1⟩
  have hB := r1.1
  have hsz := b1.size
  have hltg := r1.lt
  go_wp2_with fail
  refine (anyPond_any _ _ _ _ r1 (by omega)).mono ?_
  rintro e w2 ⟨pp, Ap, cp, q, rfl, hpl, hpc, hq, rw2, gw2, HCL⟩
  have hdp : DP w2 pp Ap cp := ⟨hpl, hpc.1, hpc.2, HCL.out _ (only_refl _ _)⟩
  have hbl := fin_below b1 r1 (only_trans (only_refl _ _) gw2)
  have HDP := Lib.hid hdp
  have HBL := Lib.hid hbl
  clear hdp hbl
  go_wp2
  go_ret
  exact ⟨pp, Ap, cp, rfl, HDP.out, HBL.out⟩

def dSafeCellsPost (w : World) (e : Ending) (w' : World) : Prop := ∃ (pp : List (List Int)) (Ap : Option Addr) (cp : Nat) (load : Int), e = .returned (.tuple #[.slice Ap pp.length cp, .int .i64 load]) ∧ DP w' pp Ap cp ∧ (-1000000 ≤ load ∧ load ≤ 1000000) ∧ Below w.heap.size w w'
set_option maxHeartbeats 1000000 in
theorem dSafeCells (cs : List Int) (A : Option Addr) (c : Nat) (w : World) (hr : Rd w w.heap.size A (bytes cs)) (hb : ∀ z ∈ cs, 0 ≤ z ∧ z ≤ 255) (hn : cs.length ≤ c) (hm : c ≤ maxLen) :
    Calls Try.prog 43 #[.slice A cs.length c] w (dSafeCellsPost w) := by
  go_enter Try.func43, Try.ntmps43
  go_wp2_with fail
  refine (newReader_any _ _ _ _ hr hb hn hm).mono ?_
  rintro e w1 ⟨g, rfl, r1, b1⟩
  have hB := r1.1
  have hsz := b1.size
  have hltg := r1.lt
  go_wp2_with fail
  refine (anyPond_any _ _ _ _ r1 (by omega)).mono ?_
  rintro e w2 ⟨pp, Ap, cp, q, rfl, hpl, hpc, hq, rw2, gw2, HCL⟩
  go_wp2_with fail
  refine (someLoad_any _ _ _ _ rw2 (by omega)).mono ?_
  rintro e w3 ⟨load, rfl, loload, hiload, rw3, gw3⟩
  have hdp : DP w3 pp Ap cp := ⟨hpl, hpc.1, hpc.2, HCL.out _ (only_trans (only_refl _ _) gw3)⟩
  have hbl := fin_below b1 r1 (only_trans (only_trans (only_refl _ _) gw2) gw3)
  have HDP := Lib.hid hdp
  have HBL := Lib.hid hbl
  clear hdp hbl
  go_wp2
  go_ret2
  exact ⟨pp, Ap, cp, load, rfl, HDP.out, (by omega), HBL.out⟩

def dRisksFromPost (w : World) (e : Ending) (w' : World) : Prop := ∃ (pp : List (List Int)) (Ap : Option Addr) (cp : Nat) (load : Int) (f : Int), e = .returned (.tuple #[.slice Ap pp.length cp, .int .i64 load, .int .i64 f]) ∧ DP w' pp Ap cp ∧ (-1000000 ≤ load ∧ load ≤ 1000000) ∧ (-1000000 ≤ f ∧ f ≤ 1000000) ∧ Below w.heap.size w w'
def dWayToPost (w : World) (e : Ending) (w' : World) : Prop := ∃ (pp : List (List Int)) (Ap : Option Addr) (cp : Nat) (load : Int) (f : Int) (t : Int), e = .returned (.tuple #[.slice Ap pp.length cp, .int .i64 load, .int .i64 f, .int .i64 t]) ∧ DP w' pp Ap cp ∧ (-1000000 ≤ load ∧ load ≤ 1000000) ∧ (-1000000 ≤ f ∧ f ≤ 1000000) ∧ (-1000000 ≤ t ∧ t ≤ 1000000) ∧ Below w.heap.size w w'
def dGreatestLoadPost (w : World) (e : Ending) (w' : World) : Prop := ∃ (pp : List (List Int)) (Ap : Option Addr) (cp : Nat) (f : Int) (t : Int), e = .returned (.tuple #[.slice Ap pp.length cp, .int .i64 f, .int .i64 t]) ∧ DP w' pp Ap cp ∧ (-1000000 ≤ f ∧ f ≤ 1000000) ∧ (-1000000 ≤ t ∧ t ≤ 1000000) ∧ Below w.heap.size w w'
set_option maxHeartbeats 1000000 in
theorem dGreatestLoad (cs : List Int) (A : Option Addr) (c : Nat) (w : World) (hr : Rd w w.heap.size A (bytes cs)) (hb : ∀ z ∈ cs, 0 ≤ z ∧ z ≤ 255) (hn : cs.length ≤ c) (hm : c ≤ maxLen) :
    Calls Try.prog 46 #[.slice A cs.length c] w (dGreatestLoadPost w) := by
  go_enter Try.func46, Try.ntmps46
  go_wp2_with fail
  refine (newReader_any _ _ _ _ hr hb hn hm).mono ?_
  rintro e w1 ⟨g, rfl, r1, b1⟩
  have hB := r1.1
  have hsz := b1.size
  have hltg := r1.lt
  go_wp2_with fail
  refine (anyPond_any _ _ _ _ r1 (by omega)).mono ?_
  rintro e w2 ⟨pp, Ap, cp, q, rfl, hpl, hpc, hq, rw2, gw2, HCL⟩
  have HCw3 := Lib.hid (fun (wx : World) (hx : w2.grownBy wx (some g)) => HCL.out wx (only_trans (only_refl _ _) hx))
  go_wp2_with fail
  refine (pondCell_any pp Ap cp _ _ _ _ rw2 (by omega) HCw3.out (by omega)).mono ?_
  rintro e w3 ⟨f, qw3, rfl, lof, hif, hqw3, rw3, gw3⟩
  have HCw4 := Lib.hid (fun (wx : World) (hx : w3.grownBy wx (some g)) => HCL.out wx (only_trans (only_trans (only_refl _ _) gw3) hx))
  go_wp2_with fail
  refine (pondCell_any pp Ap cp _ _ _ _ rw3 (by omega) HCw4.out (by omega)).mono ?_
  rintro e w4 ⟨t, qw4, rfl, lot, hit, hqw4, rw4, gw4⟩
  have hdp : DP w4 pp Ap cp := ⟨hpl, hpc.1, hpc.2, HCL.out _ (only_trans (only_trans (only_refl _ _) gw3) gw4)⟩
  have hbl := fin_below b1 r1 (only_trans (only_trans (only_trans (only_refl _ _) gw2) gw3) gw4)
  have HDP := Lib.hid hdp
  have HBL := Lib.hid hbl
  clear hdp hbl
  go_wp2
  go_ret3
  exact ⟨pp, Ap, cp, f, t, rfl, HDP.out, (by omega), (by omega), HBL.out⟩

def dGrowPondPost (w : World) (e : Ending) (w' : World) : Prop := ∃ (pp : List (List Int)) (Ap : Option Addr) (cp : Nat) (zs : List Int) (Az : Option Addr) (cz : Nat), e = .returned (.tuple #[.slice Ap pp.length cp, .slice Az zs.length cz]) ∧ DP w' pp Ap cp ∧ Drawn w w' zs Az cz ∧ Below w.heap.size w w'
def dCutCellPost (w : World) (e : Ending) (w' : World) : Prop := ∃ (pp : List (List Int)) (Ap : Option Addr) (cp : Nat) (t : Int), e = .returned (.tuple #[.slice Ap pp.length cp, .int .i64 t]) ∧ DP w' pp Ap cp ∧ (-1000000 ≤ t ∧ t ≤ 1000000) ∧ Below w.heap.size w w'
set_option maxHeartbeats 1000000 in
theorem dCutCell (cs : List Int) (A : Option Addr) (c : Nat) (w : World) (hr : Rd w w.heap.size A (bytes cs)) (hb : ∀ z ∈ cs, 0 ≤ z ∧ z ≤ 255) (hn : cs.length ≤ c) (hm : c ≤ maxLen) :
    Calls Try.prog 47 #[.slice A cs.length c] w (dCutCellPost w) := by
  go_enter Try.func47, Try.ntmps47
  go_wp2_with fail
  refine (newReader_any _ _ _ _ hr hb hn hm).mono ?_
  rintro e w1 ⟨g, rfl, r1, b1⟩
  have hB := r1.1
  have hsz := b1.size
  have hltg := r1.lt
  go_wp2_with fail
  refine (anyPond_any _ _ _ _ r1 (by omega)).mono ?_
  rintro e w2 ⟨pp, Ap, cp, q, rfl, hpl, hpc, hq, rw2, gw2, HCL⟩
  have HCw3 := Lib.hid (fun (wx : World) (hx : w2.grownBy wx (some g)) => HCL.out wx (only_trans (only_refl _ _) hx))
  go_wp2_with fail
  refine (pondCell_any pp Ap cp _ _ _ _ rw2 (by omega) HCw3.out (by omega)).mono ?_
  rintro e w3 ⟨t, qw3, rfl, lot, hit, hqw3, rw3, gw3⟩
  have hdp : DP w3 pp Ap cp := ⟨hpl, hpc.1, hpc.2, HCL.out _ (only_trans (only_refl _ _) gw3)⟩
  have hbl := fin_below b1 r1 (only_trans (only_trans (only_refl _ _) gw2) gw3)
  have HDP := Lib.hid hdp
  have HBL := Lib.hid hbl
  clear hdp hbl
  go_wp2
  go_ret2
  exact ⟨pp, Ap, cp, t, rfl, HDP.out, (by omega), HBL.out⟩

end Go.Proofs.Ytbnggakfogcalac

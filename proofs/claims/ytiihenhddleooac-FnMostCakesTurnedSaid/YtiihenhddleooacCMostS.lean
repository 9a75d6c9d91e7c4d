/- Contracts of chapter 3's model: the most cakes of a small field, the model (base and a cell that holds no cake). -/
import Derived.Deep.AppendSrc
import Derived.Deep.Upon
import Derived.Test.YtiihenhddleooacCFld
import Derived.Test.YtiihenhddleooacPFSet
import Derived.Test.YtiihenhddleooacFHold
import Derived.Test.YtiihenhddleooacCOrdS
namespace Go.Proofs.Ytiihenhddleooac
open Go.RowKit
set_option linter.unusedVariables false
set_option linter.unusedSimpArgs false
set_option maxRecDepth 100000 in
set_option maxHeartbeats 2000000 in
theorem sMost_zero (cw ch : Nat) (ff : List (List Bool)) (n W M : Nat) (hn : ff.length = n) (hW : wideB ff = W) (hM : n * W = M) (hv : fieldB ff = true) (h5 : n ≤ 5) (w5 : W ≤ 5) (A : Option Addr) (c : Nat) (w : World) (q3 : n ≤ c) (q4 : c ≤ maxLen) (hg : RdF w w.heap.size A ff) :
    Calls Try.prog 35 #[.slice A n c, .int .i64 (cw : Nat), .int .i64 (ch : Nat), .int .i64 (M : Nat)] w fun e w' => e = .returned (.int .i64 0) ∧ Below w.heap.size w w' := by
  have hf : Fld w w.heap.size A ff := ⟨hv, hg⟩
  obtain ⟨b, off, A0, c0, rfl, hb, h0⟩ := hf.row0
  have hl := field_len hv
  have hwd := field_wide hv
  have em : IntKind.i64.wrap ((n : Int) * (W : Int)) = (M : Int) := by
    have h1 : n * W ≤ 5 * 5 := Nat.mul_le_mul h5 w5
    rw [← Int.natCast_mul, hM]
    exact IntWalk.i64_in _ (by omega)
  rw [hn] at hl
  rw [hW] at hwd h0
  have HF := Lib.hid hf
  clear hM hn hW hv hf hg
  go_enter Try.func35, Try.ntmps35
  go_wp2
  go_ret
  exact ⟨rfl, Below.refl _ _⟩
set_option maxRecDepth 100000 in
set_option maxHeartbeats 2000000 in
theorem sMost_no (cw ch : Nat) (hw : 1 ≤ cw ∧ cw ≤ 4) (hh : 1 ≤ ch ∧ ch ≤ 4) (ff : List (List Bool)) (n W M a X Y : Nat) (R : Int) (hn : ff.length = n) (hW : wideB ff = W) (hM : n * W = M) (hv : fieldB ff = true) (h5 : n ≤ 5) (w5 : W ≤ 5) (ha : a < M) (hX : a % W = X) (hY : a / W = Y)
    (A : Option Addr) (c : Nat) (w : World) (q3 : n ≤ c) (q4 : c ≤ maxLen) (hg : RdF w w.heap.size A ff) (hno : wholeB ff cw ch X Y = false)
    (hi : Calls Try.prog 35 #[.slice A n c, .int .i64 (cw : Nat), .int .i64 (ch : Nat), .int .i64 ((a : Int) + 1)] w fun e w' => e = .returned (.int .i64 R) ∧ Below w.heap.size w w') :
    Calls Try.prog 35 #[.slice A n c, .int .i64 (cw : Nat), .int .i64 (ch : Nat), .int .i64 (a : Nat)] w fun e w' => e = .returned (.int .i64 R) ∧ Below w.heap.size w w' := by
  have hf : Fld w w.heap.size A ff := ⟨hv, hg⟩
  obtain ⟨b, off, A0, c0, rfl, hb, h0⟩ := hf.row0
  have hl := field_len hv
  have hwd := field_wide hv
  have hM5 : n * W ≤ 5 * 5 := Nat.mul_le_mul h5 w5
  have em : IntKind.i64.wrap ((n : Int) * (W : Int)) = (M : Int) := by
    rw [← Int.natCast_mul, hM]
    exact IntWalk.i64_in _ (by omega)
  rw [hn] at hl
  rw [hW] at hwd h0
  have t1 : Int.tdiv (a : Int) (W : Int) = (Y : Int) := by rw [← hY]; exact (Int.ofNat_tdiv a W).symm
  have t2 : Int.tmod (a : Int) (W : Int) = (X : Int) := by rw [← hX]; exact (Int.ofNat_tmod a W).symm
  have hXl : X < W := by rw [← hX]; exact Nat.mod_lt _ (by omega)
  have hYl : Y < n := by rw [← hY]; exact Nat.div_lt_of_lt_mul (by rw [Nat.mul_comm, hM]; exact ha)
  have HI := Lib.hid hi
  clear hi
  have hne : ((a : Int) == (M : Int)) = false := beq_eq_false_iff_ne.2 (by omega)
  have ea : IntKind.i64.wrap ((a : Int) + 1) = (a : Int) + 1 := IntWalk.i64_in _ (by omega)
  have HH : Hid (∀ w', Below w.heap.size w w' → Calls Try.prog 56 #[.slice (some ⟨b, off, none⟩) n c, .int .i64 (X : Nat), .int .i64 (Y : Nat), .int .i64 (cw : Nat), .int .i64 (ch : Nat)] w' fun e w'' => e = .returned (.bool false) ∧ w' = w'') := Lib.hid fun w' hb' => by
    have := sHolds_any ff (some ⟨b, off, none⟩) c w' w'.heap.size (hf.up hb') cw ch X Y hw hh (by omega) (by omega)
    rw [hno, hn] at this
    exact this
  clear hM hn hW hv hf hg hX hY hno
  go_enter Try.func35, Try.ntmps35
  go_wp2_with fail
  refine (HI.out).mono ?_
  rintro e w2 ⟨rfl, b2⟩
  have h0' := (b2.cell (p := ⟨b, off, none⟩) hb).trans h0
  have hc := HH.out w2 b2
  go_wp2_with fail
  refine (hc).mono ?_
  rintro e w3 ⟨rfl, rfl⟩
  go_wp2
  go_ret
  exact ⟨rfl, b2⟩

end Go.Proofs.Ytiihenhddleooac

/- The generators of the arguments of chapter 3 over fields, by contracts. -/
import Derived.Test.YtiihenhddleooacFAny
import Derived.Test.YtiihenhddleooacDraws
namespace Go.Proofs.Ytiihenhddleooac
open Go.RowKit
set_option linter.unusedVariables false
set_option linter.unusedSimpArgs false

def DF (w : World) (ff : List (List Bool)) (A : Option Addr) (c : Nat) : Prop := ff.length ≤ 10 ∧ ff.length ≤ c ∧ c ≤ maxLen ∧ RdF w w.heap.size A ff

def dValidFieldPost (w : World) (e : Ending) (w' : World) : Prop := ∃ (ff : List (List Bool)) (Af : Option Addr) (cf : Nat), e = .returned (.slice Af ff.length cf) ∧ DF w' ff Af cf ∧ Below w.heap.size w w'
def dAreaOfPost (w : World) (e : Ending) (w' : World) : Prop := ∃ (ff : List (List Bool)) (Af : Option Addr) (cf : Nat), e = .returned (.slice Af ff.length cf) ∧ DF w' ff Af cf ∧ Below w.heap.size w w'
def dBestGridPost (w : World) (e : Ending) (w' : World) : Prop := ∃ (ff : List (List Bool)) (Af : Option Addr) (cf : Nat) (a : Int) (h : Int), e = .returned (.tuple #[.slice Af ff.length cf, .int .i64 a, .int .i64 h]) ∧ DF w' ff Af cf ∧ (-10 ≤ a ∧ a ≤ 20) ∧ (-10 ≤ h ∧ h ≤ 20) ∧ Below w.heap.size w w'
def dMostCakesPost (w : World) (e : Ending) (w' : World) : Prop := ∃ (ff : List (List Bool)) (Af : Option Addr) (cf : Nat) (a : Int) (h : Int), e = .returned (.tuple #[.slice Af ff.length cf, .int .i64 a, .int .i64 h]) ∧ DF w' ff Af cf ∧ (-10 ≤ a ∧ a ≤ 20) ∧ (-10 ≤ h ∧ h ≤ 20) ∧ Below w.heap.size w w'
set_option maxRecDepth 100000 in
set_option maxHeartbeats 1000000 in
theorem dMostCakes (cs : List Int) (A : Option Addr) (c : Nat) (w : World) (hr : Rd w w.heap.size A (bytes cs)) (hb : ∀ z ∈ cs, 0 ≤ z ∧ z ≤ 255) (hn : cs.length ≤ c) (hm : c ≤ maxLen) :
    Calls Try.prog 7 #[.slice A cs.length c] w (dMostCakesPost w) := by
  go_enter Try.func7, Try.ntmps7
  go_wp2_with fail
  refine (newReader_any _ _ _ _ hr hb hn hm).mono ?_
  rintro e w1 ⟨g, rfl, r1, b1⟩
  have hB := r1.1
  have hsz := b1.size
  go_wp2_with fail
  refine (one_any [4, 5, 3, 6] 4 rfl _ _ _ _ _ (r1.alloc _) (by omega) (by omega) (by omega) (alloc_at (by simp)) (by have := r1.lt; omega)).mono ?_
  rintro e w2 ⟨k, rfl, hmk, rw2, gw2⟩
  have hbk : 3 ≤ k ∧ k ≤ 6 := by simp only [List.mem_cons, List.not_mem_nil, or_false] at hmk; omega
  clear hmk
  have hltg := rw2.lt
  go_wp2_with fail
  refine (anyField_any _ _ _ _ rw2 (by omega) k (by omega) (by omega)).mono ?_
  rintro e w3 ⟨ff, Af, cf, q, rfl, hpl, hpc, hq, rw3, gw3, HCL⟩
  go_wp2_with fail
  refine (one_any [2, 1, 3, 2, 0, 5] 6 rfl _ _ _ _ _ (rw3.alloc _) (by omega) (by omega) (by omega) (alloc_at (by simp)) (by have := rw3.lt; omega)).mono ?_
  rintro e w4 ⟨a, rfl, hma, rw4, gw4⟩
  have hba : -10 ≤ a ∧ a ≤ 20 := by simp only [List.mem_cons, List.not_mem_nil, or_false] at hma; omega
  clear hma
  go_wp2_with fail
  refine (one_any [2, 3, 2, 1, 4] 5 rfl _ _ _ _ _ (rw4.alloc _) (by omega) (by omega) (by omega) (alloc_at (by simp)) (by have := rw4.lt; omega)).mono ?_
  rintro e w5 ⟨h, rfl, hmh, rw5, gw5⟩
  have hbh : -10 ≤ h ∧ h ≤ 20 := by simp only [List.mem_cons, List.not_mem_nil, or_false] at hmh; omega
  clear hmh
  have hdp : DF w5 ff Af cf := ⟨hpl, hpc.1, hpc.2, HCL.out _ (only_trans (only_alloc (only_trans (only_alloc (only_refl _ _) _) gw4) _) gw5)⟩
  have hbl := fin_below b1 r1 (only_trans (only_alloc (only_trans (only_alloc (only_trans (only_trans (only_alloc (only_refl _ _) _) gw2) gw3) _) gw4) _) gw5)
  have HDP := Lib.hid hdp
  have HBL := Lib.hid hbl
  clear hdp hbl
  go_wp2
  go_ret3
  exact ⟨ff, Af, cf, a, h, rfl, HDP.out, (by omega), (by omega), HBL.out⟩

end Go.Proofs.Ytiihenhddleooac

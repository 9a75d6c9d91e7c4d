/- The generators of the arguments of chapter 5, by contracts. -/
import Derived.Test.YtbnggakfogcalaaHAny
import Derived.Test.YtbnggakfogcalaaDraws
namespace Go.Proofs.Ytbnggakfogcalaa
open Go.RowKit
set_option linter.unusedVariables false
set_option linter.unusedSimpArgs false

def DP (w : World) (pp : List (List Int)) (A : Option Addr) (c : Nat) : Prop := pp.length ≤ 6 ∧ pp.length ≤ c ∧ c ≤ maxLen ∧ RdG w w.heap.size A pp

def dValidHeapPost (w : World) (e : Ending) (w' : World) : Prop := ∃ (pp : List (List Int)) (Ap : Option Addr) (cp : Nat), e = .returned (.slice Ap pp.length cp) ∧ DP w' pp Ap cp ∧ Below w.heap.size w w'
set_option maxHeartbeats 1000000 in
theorem dValidHeap (cs : List Int) (A : Option Addr) (c : Nat) (w : World) (hr : Rd w w.heap.size A (bytes cs)) (hb : ∀ z ∈ cs, 0 ≤ z ∧ z ≤ 255) (hn : cs.length ≤ c) (hm : c ≤ maxLen) :
    Calls Try.prog 15 #[.slice A cs.length c] w (dValidHeapPost w) := by
  go_enter Try.func15, Try.ntmps15
  go_wp2_with fail
  refine (newReader_any _ _ _ _ hr hb hn hm).mono ?_
  rintro e w1 ⟨g, rfl, r1, b1⟩
  have hB := r1.1
  have hsz := b1.size
  have hltg := r1.lt
  go_wp2_with fail
  refine (anyHeap_any _ _ _ _ r1 (by omega)).mono ?_
  rintro e w2 ⟨pp, Ap, cp, q, rfl, hpl, hpc, hq, rw2, gw2, HCL⟩
  have hdp : DP w2 pp Ap cp := ⟨hpl, hpc.1, hpc.2, HCL.out _ (only_refl _ _)⟩
  have hbl := fin_below b1 r1 (only_trans (only_refl _ _) gw2)
  have HDP := Lib.hid hdp
  have HBL := Lib.hid hbl
  clear hdp hbl
  go_wp2
  go_ret
  exact ⟨pp, Ap, cp, rfl, HDP.out, HBL.out⟩

def dCakesInPost (w : World) (e : Ending) (w' : World) : Prop := ∃ (pp : List (List Int)) (Ap : Option Addr) (cp : Nat), e = .returned (.slice Ap pp.length cp) ∧ DP w' pp Ap cp ∧ Below w.heap.size w w'
set_option maxHeartbeats 1000000 in
theorem dCakesIn (cs : List Int) (A : Option Addr) (c : Nat) (w : World) (hr : Rd w w.heap.size A (bytes cs)) (hb : ∀ z ∈ cs, 0 ≤ z ∧ z ≤ 255) (hn : cs.length ≤ c) (hm : c ≤ maxLen) :
    Calls Try.prog 20 #[.slice A cs.length c] w (dCakesInPost w) := by
  go_enter Try.func20, Try.ntmps20
  go_wp2_with fail
  refine (newReader_any _ _ _ _ hr hb hn hm).mono ?_
  rintro e w1 ⟨g, rfl, r1, b1⟩
  have hB := r1.1
  have hsz := b1.size
  have hltg := r1.lt
  go_wp2_with fail
  refine (anyHeap_any _ _ _ _ r1 (by omega)).mono ?_
  rintro e w2 ⟨pp, Ap, cp, q, rfl, hpl, hpc, hq, rw2, gw2, HCL⟩
  have hdp : DP w2 pp Ap cp := ⟨hpl, hpc.1, hpc.2, HCL.out _ (only_refl _ _)⟩
  have hbl := fin_below b1 r1 (only_trans (only_refl _ _) gw2)
  have HDP := Lib.hid hdp
  have HBL := Lib.hid hbl
  clear hdp hbl
  go_wp2
  go_ret
  exact ⟨pp, Ap, cp, rfl, HDP.out, HBL.out⟩

def dFacesOfPost (w : World) (e : Ending) (w' : World) : Prop := ∃ (pp : List (List Int)) (Ap : Option Addr) (cp : Nat), e = .returned (.slice Ap pp.length cp) ∧ DP w' pp Ap cp ∧ Below w.heap.size w w'
set_option maxHeartbeats 1000000 in
theorem dFacesOf (cs : List Int) (A : Option Addr) (c : Nat) (w : World) (hr : Rd w w.heap.size A (bytes cs)) (hb : ∀ z ∈ cs, 0 ≤ z ∧ z ≤ 255) (hn : cs.length ≤ c) (hm : c ≤ maxLen) :
    Calls Try.prog 23 #[.slice A cs.length c] w (dFacesOfPost w) := by
  go_enter Try.func23, Try.ntmps23
  go_wp2_with fail
  refine (newReader_any _ _ _ _ hr hb hn hm).mono ?_
  rintro e w1 ⟨g, rfl, r1, b1⟩
  have hB := r1.1
  have hsz := b1.size
  have hltg := r1.lt
  go_wp2_with fail
  refine (anyHeap_any _ _ _ _ r1 (by omega)).mono ?_
  rintro e w2 ⟨pp, Ap, cp, q, rfl, hpl, hpc, hq, rw2, gw2, HCL⟩
  have hdp : DP w2 pp Ap cp := ⟨hpl, hpc.1, hpc.2, HCL.out _ (only_refl _ _)⟩
  have hbl := fin_below b1 r1 (only_trans (only_refl _ _) gw2)
  have HDP := Lib.hid hdp
  have HBL := Lib.hid hbl
  clear hdp hbl
  go_wp2
  go_ret
  exact ⟨pp, Ap, cp, rfl, HDP.out, HBL.out⟩

def dMeltDayPost (w : World) (e : Ending) (w' : World) : Prop := ∃ (pp : List (List Int)) (Ap : Option Addr) (cp : Nat), e = .returned (.slice Ap pp.length cp) ∧ DP w' pp Ap cp ∧ Below w.heap.size w w'
set_option maxHeartbeats 1000000 in
theorem dMeltDay (cs : List Int) (A : Option Addr) (c : Nat) (w : World) (hr : Rd w w.heap.size A (bytes cs)) (hb : ∀ z ∈ cs, 0 ≤ z ∧ z ≤ 255) (hn : cs.length ≤ c) (hm : c ≤ maxLen) :
    Calls Try.prog 38 #[.slice A cs.length c] w (dMeltDayPost w) := by
  go_enter Try.func38, Try.ntmps38
  go_wp2_with fail
  refine (newReader_any _ _ _ _ hr hb hn hm).mono ?_
  rintro e w1 ⟨g, rfl, r1, b1⟩
  have hB := r1.1
  have hsz := b1.size
  have hltg := r1.lt
  go_wp2_with fail
  refine (anyHeap_any _ _ _ _ r1 (by omega)).mono ?_
  rintro e w2 ⟨pp, Ap, cp, q, rfl, hpl, hpc, hq, rw2, gw2, HCL⟩
  have hdp : DP w2 pp Ap cp := ⟨hpl, hpc.1, hpc.2, HCL.out _ (only_refl _ _)⟩
  have hbl := fin_below b1 r1 (only_trans (only_refl _ _) gw2)
  have HDP := Lib.hid hdp
  have HBL := Lib.hid hbl
  clear hdp hbl
  go_wp2
  go_ret
  exact ⟨pp, Ap, cp, rfl, HDP.out, HBL.out⟩

def dAddCakePost (w : World) (e : Ending) (w' : World) : Prop := ∃ (pp : List (List Int)) (Ap : Option Addr) (cp : Nat) (t : Int), e = .returned (.tuple #[.slice Ap pp.length cp, .int .i64 t]) ∧ DP w' pp Ap cp ∧ (-1000000 ≤ t ∧ t ≤ 1000000) ∧ Below w.heap.size w w'
set_option maxHeartbeats 1000000 in
theorem dAddCake (cs : List Int) (A : Option Addr) (c : Nat) (w : World) (hr : Rd w w.heap.size A (bytes cs)) (hb : ∀ z ∈ cs, 0 ≤ z ∧ z ≤ 255) (hn : cs.length ≤ c) (hm : c ≤ maxLen) :
    Calls Try.prog 25 #[.slice A cs.length c] w (dAddCakePost w) := by
  go_enter Try.func25, Try.ntmps25
  go_wp2_with fail
  refine (newReader_any _ _ _ _ hr hb hn hm).mono ?_
  rintro e w1 ⟨g, rfl, r1, b1⟩
  have hB := r1.1
  have hsz := b1.size
  have hltg := r1.lt
  go_wp2_with fail
  refine (anyHeap_any _ _ _ _ r1 (by omega)).mono ?_
  rintro e w2 ⟨pp, Ap, cp, q, rfl, hpl, hpc, hq, rw2, gw2, HCL⟩
  have HCw3 := Lib.hid (fun (wx : World) (hx : w2.grownBy wx (some g)) => HCL.out wx (only_trans (only_refl _ _) hx))
  go_wp2_with fail
  refine (heapCell_any pp Ap cp _ _ _ _ rw2 (by omega) HCw3.out (by omega)).mono ?_
  rintro e w3 ⟨t, qw3, rfl, lot, hit, hqw3, rw3, gw3⟩
  have hdp : DP w3 pp Ap cp := ⟨hpl, hpc.1, hpc.2, HCL.out _ (only_trans (only_refl _ _) gw3)⟩
  have hbl := fin_below b1 r1 (only_trans (only_trans (only_refl _ _) gw2) gw3)
  have HDP := Lib.hid hdp
  have HBL := Lib.hid hbl
  clear hdp hbl
  go_wp2
  go_ret2
  exact ⟨pp, Ap, cp, t, rfl, HDP.out, (by omega), HBL.out⟩

set_option maxHeartbeats 1000000 in
theorem dTakeCake (cs : List Int) (A : Option Addr) (c : Nat) (w : World) (hr : Rd w w.heap.size A (bytes cs)) (hb : ∀ z ∈ cs, 0 ≤ z ∧ z ≤ 255) (hn : cs.length ≤ c) (hm : c ≤ maxLen) :
    Calls Try.prog 30 #[.slice A cs.length c] w (dAddCakePost w) := by
  go_enter Try.func30, Try.ntmps30
  go_wp2_with fail
  refine (dAddCake _ _ _ _ hr hb hn hm).mono ?_
  rintro e w1 ⟨pp, Ap, cp, load, rfl, h1, h2, h3⟩
  have H1 := Lib.hid h1
  have H3 := Lib.hid h3
  clear h1 h3
  go_wp2
  go_ret2
  exact ⟨pp, Ap, cp, load, rfl, H1.out, h2, H3.out⟩

def dMeltDaysPost (w : World) (e : Ending) (w' : World) : Prop := ∃ (pp : List (List Int)) (Ap : Option Addr) (cp : Nat) (t : Int), e = .returned (.tuple #[.slice Ap pp.length cp, .int .i64 t]) ∧ DP w' pp Ap cp ∧ (-1000000 ≤ t ∧ t ≤ 1000000) ∧ Below w.heap.size w w'
set_option maxHeartbeats 1000000 in
theorem dMeltDays (cs : List Int) (A : Option Addr) (c : Nat) (w : World) (hr : Rd w w.heap.size A (bytes cs)) (hb : ∀ z ∈ cs, 0 ≤ z ∧ z ≤ 255) (hn : cs.length ≤ c) (hm : c ≤ maxLen) :
    Calls Try.prog 41 #[.slice A cs.length c] w (dMeltDaysPost w) := by
  go_enter Try.func41, Try.ntmps41
  go_wp2_with fail
  refine (newReader_any _ _ _ _ hr hb hn hm).mono ?_
  rintro e w1 ⟨g, rfl, r1, b1⟩
  have hB := r1.1
  have hsz := b1.size
  have hltg := r1.lt
  go_wp2_with fail
  refine (anyHeap_any _ _ _ _ r1 (by omega)).mono ?_
  rintro e w2 ⟨pp, Ap, cp, q, rfl, hpl, hpc, hq, rw2, gw2, HCL⟩
  go_wp2_with fail
  refine (one_any [2, 5, 1, 0, 20, 60, 61, -1] 8 rfl _ _ _ _ _ (rw2.alloc _) (by omega) (by omega) (by omega) (alloc_at (by simp)) (by have := rw2.lt; omega)).mono ?_
  rintro e w3 ⟨t, rfl, hmt, rw3, gw3⟩
  have hbt : -1000000 ≤ t ∧ t ≤ 1000000 := by simp only [List.mem_cons, List.not_mem_nil, or_false] at hmt; omega
  clear hmt
  have hdp : DP w3 pp Ap cp := ⟨hpl, hpc.1, hpc.2, HCL.out _ (only_trans (only_alloc (only_refl _ _) _) gw3)⟩
  have hbl := fin_below b1 r1 (only_trans (only_alloc (only_trans (only_refl _ _) gw2) _) gw3)
  have HDP := Lib.hid hdp
  have HBL := Lib.hid hbl
  clear hdp hbl
  go_wp2
  go_ret2
  exact ⟨pp, Ap, cp, t, rfl, HDP.out, (by omega), HBL.out⟩

def dDaysLeftPost (w : World) (e : Ending) (w' : World) : Prop := ∃ (pp : List (List Int)) (Ap : Option Addr) (cp : Nat) (t : Int), e = .returned (.tuple #[.slice Ap pp.length cp, .int .i64 t]) ∧ DP w' pp Ap cp ∧ (-1000000 ≤ t ∧ t ≤ 1000000) ∧ Below w.heap.size w w'
set_option maxHeartbeats 1000000 in
theorem dDaysLeft (cs : List Int) (A : Option Addr) (c : Nat) (w : World) (hr : Rd w w.heap.size A (bytes cs)) (hb : ∀ z ∈ cs, 0 ≤ z ∧ z ≤ 255) (hn : cs.length ≤ c) (hm : c ≤ maxLen) :
    Calls Try.prog 44 #[.slice A cs.length c] w (dDaysLeftPost w) := by
  go_enter Try.func44, Try.ntmps44
  go_wp2_with fail
  refine (newReader_any _ _ _ _ hr hb hn hm).mono ?_
  rintro e w1 ⟨g, rfl, r1, b1⟩
  have hB := r1.1
  have hsz := b1.size
  have hltg := r1.lt
  go_wp2_with fail
  refine (anyHeap_any _ _ _ _ r1 (by omega)).mono ?_
  rintro e w2 ⟨pp, Ap, cp, q, rfl, hpl, hpc, hq, rw2, gw2, HCL⟩
  go_wp2_with fail
  refine (one_any [5, 10, 1, 0, 30, -1, 200] 7 rfl _ _ _ _ _ (rw2.alloc _) (by omega) (by omega) (by omega) (alloc_at (by simp)) (by have := rw2.lt; omega)).mono ?_
  rintro e w3 ⟨t, rfl, hmt, rw3, gw3⟩
  have hbt : -1000000 ≤ t ∧ t ≤ 1000000 := by simp only [List.mem_cons, List.not_mem_nil, or_false] at hmt; omega
  clear hmt
  have hdp : DP w3 pp Ap cp := ⟨hpl, hpc.1, hpc.2, HCL.out _ (only_trans (only_alloc (only_refl _ _) _) gw3)⟩
  have hbl := fin_below b1 r1 (only_trans (only_alloc (only_trans (only_refl _ _) gw2) _) gw3)
  have HDP := Lib.hid hdp
  have HBL := Lib.hid hbl
  clear hdp hbl
  go_wp2
  go_ret2
  exact ⟨pp, Ap, cp, t, rfl, HDP.out, (by omega), HBL.out⟩

def dBestBoxPost (w : World) (e : Ending) (w' : World) : Prop := ∃ n : Int, e = .returned (.int .i64 n) ∧ (-3 ≤ n ∧ n ≤ 972) ∧ Below w.heap.size w w'
set_option maxHeartbeats 1000000 in
theorem dBestBox (cs : List Int) (A : Option Addr) (c : Nat) (w : World) (hr : Rd w w.heap.size A (bytes cs)) (hb : ∀ z ∈ cs, 0 ≤ z ∧ z ≤ 255) (hn : cs.length ≤ c) (hm : c ≤ maxLen) :
    Calls Try.prog 35 #[.slice A cs.length c] w (dBestBoxPost w) := by
  go_enter Try.func35, Try.ntmps35
  go_wp2_with fail
  refine (newReader_any _ _ _ _ hr hb hn hm).mono ?_
  rintro e w1 ⟨g, rfl, r1, b1⟩
  have hB := r1.1
  have hsz := b1.size
  go_wp2_with fail
  refine (pick_any _ _ _ _ _ r1 (by omega) (by omega)).mono ?_
  rintro e w2 ⟨a, rfl, a0, a1, r2, g2⟩
  go_wp2_with fail
  refine (one_any [24, 36, 60, 7, 1, 64, 1 + a, 0, 97, -3, 972] 11 rfl _ _ _ _ _ (r2.alloc _) (by omega) (by omega) (by omega) (alloc_at (by simp)) (by have := r2.lt; omega)).mono ?_
  rintro e w3 ⟨n, rfl, hmn, rw3, gw3⟩
  have hbn : -3 ≤ n ∧ n ≤ 972 := by simp only [List.mem_cons, List.not_mem_nil, or_false] at hmn; omega
  clear hmn
  have hbl := fin_below b1 r1 (only_trans (only_alloc (only_trans (only_refl _ _) g2) _) gw3)
  have HBL := Lib.hid hbl
  clear hbl
  go_wp2
  go_ret
  exact ⟨n, rfl, hbn, HBL.out⟩

def dFillHousePost (w : World) (e : Ending) (w' : World) : Prop := ∃ a b n : Int, e = .returned (.tuple #[.int .i64 a, .int .i64 b, .int .i64 n]) ∧ (0 ≤ a ∧ a ≤ 10) ∧ (0 ≤ b ∧ b ≤ 9) ∧ (-1 ≤ n ∧ n ≤ 973) ∧ Below w.heap.size w w'
set_option maxHeartbeats 1000000 in
theorem dFillHouse (cs : List Int) (A : Option Addr) (c : Nat) (w : World) (hr : Rd w w.heap.size A (bytes cs)) (hb : ∀ z ∈ cs, 0 ≤ z ∧ z ≤ 255) (hn : cs.length ≤ c) (hm : c ≤ maxLen) :
    Calls Try.prog 32 #[.slice A cs.length c] w (dFillHousePost w) := by
  go_enter Try.func32, Try.ntmps32
  go_wp2_with fail
  refine (newReader_any _ _ _ _ hr hb hn hm).mono ?_
  rintro e w1 ⟨g, rfl, r1, b1⟩
  have hB := r1.1
  have hsz := b1.size
  go_wp2_with fail
  refine (one_any [3, 2, 4, 9, 1, 0, 10] 7 rfl _ _ _ _ _ (r1.alloc _) (by omega) (by omega) (by omega) (alloc_at (by simp)) (by have := r1.lt; omega)).mono ?_
  rintro e w2 ⟨a, rfl, hma, rw2, gw2⟩
  have hba : 0 ≤ a ∧ a ≤ 10 := by simp only [List.mem_cons, List.not_mem_nil, or_false] at hma; omega
  clear hma
  go_wp2_with fail
  refine (one_any [2, 3, 1, 9, 0] 5 rfl _ _ _ _ _ (rw2.alloc _) (by omega) (by omega) (by omega) (alloc_at (by simp)) (by have := rw2.lt; omega)).mono ?_
  rintro e w3 ⟨b, rfl, hmb, rw3, gw3⟩
  have hbb : 0 ≤ b ∧ b ≤ 9 := by simp only [List.mem_cons, List.not_mem_nil, or_false] at hmb; omega
  clear hmb
  go_wp2_with fail
  refine (pick_any _ _ _ _ _ rw3 (by omega) (by omega)).mono ?_
  rintro e w4 ⟨z, rfl, z0, z1, r4, g4⟩
  go_wp2_with fail
  refine (one_any [10, 24, z, 0, 72, -1, 973] 7 rfl _ _ _ _ _ (r4.alloc _) (by omega) (by omega) (by omega) (alloc_at (by simp)) (by have := r4.lt; omega)).mono ?_
  rintro e w5 ⟨n, rfl, hmn, rw5, gw5⟩
  have hbn : -1 ≤ n ∧ n ≤ 973 := by simp only [List.mem_cons, List.not_mem_nil, or_false] at hmn; omega
  clear hmn
  have hbl := fin_below b1 r1 (only_trans (only_alloc (only_trans (only_trans (only_alloc (only_trans (only_alloc (only_refl _ _) _) gw2) _) gw3) g4) _) gw5)
  have HBL := Lib.hid hbl
  clear hbl
  go_wp2
  go_ret3
  exact ⟨a, b, n, rfl, hba, hbb, hbn, HBL.out⟩

end Go.Proofs.Ytbnggakfogcalaa

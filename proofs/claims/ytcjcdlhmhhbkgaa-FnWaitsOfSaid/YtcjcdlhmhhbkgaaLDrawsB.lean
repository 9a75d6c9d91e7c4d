/- The arguments of the laws of chapter 4, by contracts. -/
import Derived.Test.YtcjcdlhmhhbkgaaLDraws
namespace Go.Proofs.Ytcjcdlhmhhbkgaa
open Go.RowKit
set_option linter.unusedVariables false
set_option linter.unusedSimpArgs false

def dValidTimesPost (w : World) (e : Ending) (w' : World) : Prop := ∃ (zs : List Int) (Azs : Option Addr) (czs : Nat), e = .returned (.slice Azs zs.length czs) ∧ DrawnT w' zs Azs czs ∧ Below w.heap.size w w'
set_option maxHeartbeats 1000000 in
theorem dValidTimes (cs : List Int) (A : Option Addr) (c : Nat) (w : World) (hr : Rd w w.heap.size A (bytes cs)) (hb : ∀ z ∈ cs, 0 ≤ z ∧ z ≤ 255) (hn : cs.length ≤ c) (hm : c ≤ maxLen) :
    Calls Try.prog 15 #[.slice A cs.length c] w (dValidTimesPost w) := by
  go_enter Try.func15, Try.ntmps15
  go_wp2_with fail
  refine (newReader_any _ _ _ _ hr hb hn hm).mono ?_
  rintro e w1 ⟨g, rfl, r1, b1⟩
  have hB := r1.1
  have hsz := b1.size
  have hltw2 := r1.lt
  go_wp2_with fail
  refine (someTimes_any _ _ _ _ r1 (by omega)).mono ?_
  rintro e w2 ⟨zs, Azs, czs, qw2, rfl, hlw2, ownw2, hqw2, rw2, gw2⟩
  have HDzs : Hid (DrawnT w2 zs Azs czs) := Lib.hid (drawnT_only hlw2 ownw2 (only_refl _ _) hltw2)
  have HBL := Lib.hid (fin_below b1 r1 (only_trans (only_refl _ _) gw2))
  clear ownw2
  go_wp2
  go_ret
  exact ⟨zs, Azs, czs, rfl, HDzs.out, HBL.out⟩

def dLiftTimesPost (w : World) (e : Ending) (w' : World) : Prop := ∃ (zs : List Int) (Azs : Option Addr) (czs : Nat) (a : Int) (b : Int), e = .returned (.tuple #[.slice Azs zs.length czs, .int .i64 a, .int .i64 b]) ∧ DrawnT w' zs Azs czs ∧ (0 ≤ a ∧ a ≤ 61) ∧ (0 ≤ b ∧ b ≤ 9) ∧ Below w.heap.size w w'
set_option maxHeartbeats 1000000 in
theorem dLiftTimes (cs : List Int) (A : Option Addr) (c : Nat) (w : World) (hr : Rd w w.heap.size A (bytes cs)) (hb : ∀ z ∈ cs, 0 ≤ z ∧ z ≤ 255) (hn : cs.length ≤ c) (hm : c ≤ maxLen) :
    Calls Try.prog 19 #[.slice A cs.length c] w (dLiftTimesPost w) := by
  go_enter Try.func19, Try.ntmps19
  go_wp2_with fail
  refine (newReader_any _ _ _ _ hr hb hn hm).mono ?_
  rintro e w1 ⟨g, rfl, r1, b1⟩
  have hB := r1.1
  have hsz := b1.size
  have hltw2 := r1.lt
  go_wp2_with fail
  refine (someTimes_any _ _ _ _ r1 (by omega)).mono ?_
  rintro e w2 ⟨zs, Azs, czs, qw2, rfl, hlw2, ownw2, hqw2, rw2, gw2⟩
  go_wp2_with fail
  refine (one_any [3, 5, 1, 10, 60, 0, 61] 7 rfl _ _ _ _ _ (rw2.alloc _) (by omega) (by omega) (by omega) (alloc_at (by simp)) (by have := rw2.lt; omega)).mono ?_
  rintro e w3 ⟨a, rfl, hma, rw3, gw3⟩
  have hba : 0 ≤ a ∧ a ≤ 61 := by simp only [List.mem_cons, List.not_mem_nil, or_false] at hma; omega
  clear hma
  go_wp2_with fail
  refine (one_any [1, 2, 3, 8, 0, 9] 6 rfl _ _ _ _ _ (rw3.alloc _) (by omega) (by omega) (by omega) (alloc_at (by simp)) (by have := rw3.lt; omega)).mono ?_
  rintro e w4 ⟨b, rfl, hmb, rw4, gw4⟩
  have hbb : 0 ≤ b ∧ b ≤ 9 := by simp only [List.mem_cons, List.not_mem_nil, or_false] at hmb; omega
  clear hmb
  have HDzs : Hid (DrawnT w4 zs Azs czs) := Lib.hid (drawnT_only hlw2 ownw2 (only_trans (only_alloc (only_trans (only_alloc (only_refl _ _) _) gw3) _) gw4) hltw2)
  have HBL := Lib.hid (fin_below b1 r1 (only_trans (only_alloc (only_trans (only_alloc (only_trans (only_refl _ _) gw2) _) gw3) _) gw4))
  clear ownw2
  go_wp2
  go_ret3
  exact ⟨zs, Azs, czs, a, b, rfl, HDzs.out, (by omega), (by omega), HBL.out⟩

set_option maxHeartbeats 1000000 in
theorem dWaitsOf (cs : List Int) (A : Option Addr) (c : Nat) (w : World) (hr : Rd w w.heap.size A (bytes cs)) (hb : ∀ z ∈ cs, 0 ≤ z ∧ z ≤ 255) (hn : cs.length ≤ c) (hm : c ≤ maxLen) :
    Calls Try.prog 24 #[.slice A cs.length c] w (dLiftTimesPost w) := by
  go_enter Try.func24, Try.ntmps24
  go_wp2_with fail
  refine (dLiftTimes _ _ _ _ hr hb hn hm).mono ?_
  rintro e w1 ⟨zs, Az, cz, a, b, rfl, h1, h2, h3, h4⟩
  have H := Lib.hid (And.intro h1 (And.intro h2 (And.intro h3 h4)))
  clear h1 h2 h3 h4
  go_wp2
  go_ret3
  exact ⟨zs, Az, cz, a, b, rfl, H.out.1, H.out.2.1, H.out.2.2.1, H.out.2.2.2⟩

set_option maxHeartbeats 1000000 in
theorem dMostWaiting (cs : List Int) (A : Option Addr) (c : Nat) (w : World) (hr : Rd w w.heap.size A (bytes cs)) (hb : ∀ z ∈ cs, 0 ≤ z ∧ z ≤ 255) (hn : cs.length ≤ c) (hm : c ≤ maxLen) :
    Calls Try.prog 32 #[.slice A cs.length c] w (dLiftTimesPost w) := by
  go_enter Try.func32, Try.ntmps32
  go_wp2_with fail
  refine (dLiftTimes _ _ _ _ hr hb hn hm).mono ?_
  rintro e w1 ⟨zs, Az, cz, a, b, rfl, h1, h2, h3, h4⟩
  have H := Lib.hid (And.intro h1 (And.intro h2 (And.intro h3 h4)))
  clear h1 h2 h3 h4
  go_wp2
  go_ret3
  exact ⟨zs, Az, cz, a, b, rfl, H.out.1, H.out.2.1, H.out.2.2.1, H.out.2.2.2⟩

def dWaitingAtPost (w : World) (e : Ending) (w' : World) : Prop := ∃ (zs : List Int) (Azs : Option Addr) (czs : Nat) (a : Int) (b : Int) (t : Int), e = .returned (.tuple #[.slice Azs zs.length czs, .int .i64 a, .int .i64 b, .int .i64 t]) ∧ DrawnT w' zs Azs czs ∧ (0 ≤ a ∧ a ≤ 61) ∧ (0 ≤ b ∧ b ≤ 9) ∧ (-1 ≤ t ∧ t ≤ 5000) ∧ Below w.heap.size w w'
set_option maxHeartbeats 1000000 in
theorem dWaitingAt (cs : List Int) (A : Option Addr) (c : Nat) (w : World) (hr : Rd w w.heap.size A (bytes cs)) (hb : ∀ z ∈ cs, 0 ≤ z ∧ z ≤ 255) (hn : cs.length ≤ c) (hm : c ≤ maxLen) :
    Calls Try.prog 27 #[.slice A cs.length c] w (dWaitingAtPost w) := by
  go_enter Try.func27, Try.ntmps27
  go_wp2_with fail
  refine (newReader_any _ _ _ _ hr hb hn hm).mono ?_
  rintro e w1 ⟨g, rfl, r1, b1⟩
  have hB := r1.1
  have hsz := b1.size
  have hltw2 := r1.lt
  go_wp2_with fail
  refine (someTimes_any _ _ _ _ r1 (by omega)).mono ?_
  rintro e w2 ⟨zs, Azs, czs, qw2, rfl, hlw2, ownw2, hqw2, rw2, gw2⟩
  go_wp2_with fail
  refine (one_any [3, 5, 1, 10, 0] 5 rfl _ _ _ _ _ (rw2.alloc _) (by omega) (by omega) (by omega) (alloc_at (by simp)) (by have := rw2.lt; omega)).mono ?_
  rintro e w3 ⟨a, rfl, hma, rw3, gw3⟩
  have hba : 0 ≤ a ∧ a ≤ 61 := by simp only [List.mem_cons, List.not_mem_nil, or_false] at hma; omega
  clear hma
  go_wp2_with fail
  refine (one_any [1, 2, 3, 9] 4 rfl _ _ _ _ _ (rw3.alloc _) (by omega) (by omega) (by omega) (alloc_at (by simp)) (by have := rw3.lt; omega)).mono ?_
  rintro e w4 ⟨b, rfl, hmb, rw4, gw4⟩
  have hbb : 0 ≤ b ∧ b ≤ 9 := by simp only [List.mem_cons, List.not_mem_nil, or_false] at hmb; omega
  clear hmb
  go_wp2_with fail
  refine (pick_any _ _ _ _ _ rw4 (by omega) (by omega)).mono ?_
  rintro e w5 ⟨x, rfl, lox, hix, rw5, gw5⟩
  go_wp2_with fail
  refine (one_any [x, 0, 5, -1, 5000] 5 rfl _ _ _ _ _ (rw5.alloc _) (by omega) (by omega) (by omega) (alloc_at (by simp)) (by have := rw5.lt; omega)).mono ?_
  rintro e w6 ⟨t, rfl, hmt, rw6, gw6⟩
  have hbt : -1 ≤ t ∧ t ≤ 5000 := by simp only [List.mem_cons, List.not_mem_nil, or_false] at hmt; omega
  clear hmt
  have HDzs : Hid (DrawnT w6 zs Azs czs) := Lib.hid (drawnT_only hlw2 ownw2 (only_trans (only_alloc (only_trans (only_trans (only_alloc (only_trans (only_alloc (only_refl _ _) _) gw3) _) gw4) gw5) _) gw6) hltw2)
  have HBL := Lib.hid (fin_below b1 r1 (only_trans (only_alloc (only_trans (only_trans (only_alloc (only_trans (only_alloc (only_trans (only_refl _ _) gw2) _) gw3) _) gw4) gw5) _) gw6))
  clear ownw2
  go_wp2
  exact bodyPost_ret (v := .tuple #[.slice Azs zs.length czs, .int .i64 a, .int .i64 b, .int .i64 t]) (by simp [results, Try.results27, go_sem]) rfl ⟨zs, Azs, czs, a, b, t, rfl, HDzs.out, (by omega), (by omega), (by omega), HBL.out⟩

def dLeastLiftsPost (w : World) (e : Ending) (w' : World) : Prop := ∃ (zs : List Int) (Azs : Option Addr) (czs : Nat) (a : Int) (t : Int), e = .returned (.tuple #[.slice Azs zs.length czs, .int .i64 a, .int .i64 t]) ∧ DrawnT w' zs Azs czs ∧ (0 ≤ a ∧ a ≤ 61) ∧ (-1 ≤ t ∧ t ≤ 40) ∧ Below w.heap.size w w'
set_option maxHeartbeats 1000000 in
theorem dLeastLifts (cs : List Int) (A : Option Addr) (c : Nat) (w : World) (hr : Rd w w.heap.size A (bytes cs)) (hb : ∀ z ∈ cs, 0 ≤ z ∧ z ≤ 255) (hn : cs.length ≤ c) (hm : c ≤ maxLen) :
    Calls Try.prog 35 #[.slice A cs.length c] w (dLeastLiftsPost w) := by
  go_enter Try.func35, Try.ntmps35
  go_wp2_with fail
  refine (newReader_any _ _ _ _ hr hb hn hm).mono ?_
  rintro e w1 ⟨g, rfl, r1, b1⟩
  have hB := r1.1
  have hsz := b1.size
  have hltw2 := r1.lt
  go_wp2_with fail
  refine (someTimes_any _ _ _ _ r1 (by omega)).mono ?_
  rintro e w2 ⟨zs, Azs, czs, qw2, rfl, hlw2, ownw2, hqw2, rw2, gw2⟩
  go_wp2_with fail
  refine (one_any [3, 5, 20, 60, 0] 5 rfl _ _ _ _ _ (rw2.alloc _) (by omega) (by omega) (by omega) (alloc_at (by simp)) (by have := rw2.lt; omega)).mono ?_
  rintro e w3 ⟨a, rfl, hma, rw3, gw3⟩
  have hba : 0 ≤ a ∧ a ≤ 61 := by simp only [List.mem_cons, List.not_mem_nil, or_false] at hma; omega
  clear hma
  go_wp2_with fail
  refine (one_any [0, 2, 5, 10, 40, -1] 6 rfl _ _ _ _ _ (rw3.alloc _) (by omega) (by omega) (by omega) (alloc_at (by simp)) (by have := rw3.lt; omega)).mono ?_
  rintro e w4 ⟨t, rfl, hmt, rw4, gw4⟩
  have hbt : -1 ≤ t ∧ t ≤ 40 := by simp only [List.mem_cons, List.not_mem_nil, or_false] at hmt; omega
  clear hmt
  have HDzs : Hid (DrawnT w4 zs Azs czs) := Lib.hid (drawnT_only hlw2 ownw2 (only_trans (only_alloc (only_trans (only_alloc (only_refl _ _) _) gw3) _) gw4) hltw2)
  have HBL := Lib.hid (fin_below b1 r1 (only_trans (only_alloc (only_trans (only_alloc (only_trans (only_refl _ _) gw2) _) gw3) _) gw4))
  clear ownw2
  go_wp2
  go_ret3
  exact ⟨zs, Azs, czs, a, t, rfl, HDzs.out, (by omega), (by omega), HBL.out⟩

def dGreatestGapPost (w : World) (e : Ending) (w' : World) : Prop := ∃ (zs : List Int) (Azs : Option Addr) (czs : Nat) (b : Int) (t : Int), e = .returned (.tuple #[.slice Azs zs.length czs, .int .i64 b, .int .i64 t]) ∧ DrawnT w' zs Azs czs ∧ (0 ≤ b ∧ b ≤ 9) ∧ (-1 ≤ t ∧ t ≤ 100) ∧ Below w.heap.size w w'
set_option maxHeartbeats 1000000 in
theorem dGreatestGap (cs : List Int) (A : Option Addr) (c : Nat) (w : World) (hr : Rd w w.heap.size A (bytes cs)) (hb : ∀ z ∈ cs, 0 ≤ z ∧ z ≤ 255) (hn : cs.length ≤ c) (hm : c ≤ maxLen) :
    Calls Try.prog 38 #[.slice A cs.length c] w (dGreatestGapPost w) := by
  go_enter Try.func38, Try.ntmps38
  go_wp2_with fail
  refine (newReader_any _ _ _ _ hr hb hn hm).mono ?_
  rintro e w1 ⟨g, rfl, r1, b1⟩
  have hB := r1.1
  have hsz := b1.size
  have hltw2 := r1.lt
  go_wp2_with fail
  refine (someTimes_any _ _ _ _ r1 (by omega)).mono ?_
  rintro e w2 ⟨zs, Azs, czs, qw2, rfl, hlw2, ownw2, hqw2, rw2, gw2⟩
  go_wp2_with fail
  refine (one_any [1, 2, 3, 0, 9] 5 rfl _ _ _ _ _ (rw2.alloc _) (by omega) (by omega) (by omega) (alloc_at (by simp)) (by have := rw2.lt; omega)).mono ?_
  rintro e w3 ⟨b, rfl, hmb, rw3, gw3⟩
  have hbb : 0 ≤ b ∧ b ≤ 9 := by simp only [List.mem_cons, List.not_mem_nil, or_false] at hmb; omega
  clear hmb
  go_wp2_with fail
  refine (one_any [40, 60, 20, 10, 100, 0, -1] 7 rfl _ _ _ _ _ (rw3.alloc _) (by omega) (by omega) (by omega) (alloc_at (by simp)) (by have := rw3.lt; omega)).mono ?_
  rintro e w4 ⟨t, rfl, hmt, rw4, gw4⟩
  have hbt : -1 ≤ t ∧ t ≤ 100 := by simp only [List.mem_cons, List.not_mem_nil, or_false] at hmt; omega
  clear hmt
  have HDzs : Hid (DrawnT w4 zs Azs czs) := Lib.hid (drawnT_only hlw2 ownw2 (only_trans (only_alloc (only_trans (only_alloc (only_refl _ _) _) gw3) _) gw4) hltw2)
  have HBL := Lib.hid (fin_below b1 r1 (only_trans (only_alloc (only_trans (only_alloc (only_trans (only_refl _ _) gw2) _) gw3) _) gw4))
  clear ownw2
  go_wp2
  go_ret3
  exact ⟨zs, Azs, czs, b, t, rfl, HDzs.out, (by omega), (by omega), HBL.out⟩

def dMergeTimesPost (w : World) (e : Ending) (w' : World) : Prop := ∃ (zs : List Int) (Azs : Option Addr) (czs : Nat) (ys : List Int) (Ays : Option Addr) (cys : Nat), e = .returned (.tuple #[.slice Azs zs.length czs, .slice Ays ys.length cys]) ∧ DrawnT w' zs Azs czs ∧ DrawnT w' ys Ays cys ∧ Below w.heap.size w w'
set_option maxHeartbeats 1000000 in
theorem dMergeTimes (cs : List Int) (A : Option Addr) (c : Nat) (w : World) (hr : Rd w w.heap.size A (bytes cs)) (hb : ∀ z ∈ cs, 0 ≤ z ∧ z ≤ 255) (hn : cs.length ≤ c) (hm : c ≤ maxLen) :
    Calls Try.prog 41 #[.slice A cs.length c] w (dMergeTimesPost w) := by
  go_enter Try.func41, Try.ntmps41
  go_wp2_with fail
  refine (newReader_any _ _ _ _ hr hb hn hm).mono ?_
  rintro e w1 ⟨g, rfl, r1, b1⟩
  have hB := r1.1
  have hsz := b1.size
  have hltw2 := r1.lt
  go_wp2_with fail
  refine (someTimes_any _ _ _ _ r1 (by omega)).mono ?_
  rintro e w2 ⟨zs, Azs, czs, qw2, rfl, hlw2, ownw2, hqw2, rw2, gw2⟩
  have hltw3 := rw2.lt
  go_wp2_with fail
  refine (someTimes_any _ _ _ _ rw2 (by omega)).mono ?_
  rintro e w3 ⟨ys, Ays, cys, qw3, rfl, hlw3, ownw3, hqw3, rw3, gw3⟩
  have HDzs : Hid (DrawnT w3 zs Azs czs) := Lib.hid (drawnT_only hlw2 ownw2 (only_trans (only_refl _ _) gw3) hltw2)
  have HDys : Hid (DrawnT w3 ys Ays cys) := Lib.hid (drawnT_only hlw3 ownw3 (only_refl _ _) hltw3)
  have HBL := Lib.hid (fin_below b1 r1 (only_trans (only_trans (only_refl _ _) gw2) gw3))
  clear ownw2 ownw3
  go_wp2
  go_ret2
  exact ⟨zs, Azs, czs, ys, Ays, cys, rfl, HDzs.out, HDys.out, HBL.out⟩

def dEveryOfPost (w : World) (e : Ending) (w' : World) : Prop := ∃ (zs : List Int) (Azs : Option Addr) (czs : Nat) (b : Int) (t : Int), e = .returned (.tuple #[.slice Azs zs.length czs, .int .i64 b, .int .i64 t]) ∧ DrawnT w' zs Azs czs ∧ (0 ≤ b ∧ b ≤ 9) ∧ (-1 ≤ t ∧ t ≤ 2) ∧ Below w.heap.size w w'
set_option maxHeartbeats 1000000 in
theorem dEveryOf (cs : List Int) (A : Option Addr) (c : Nat) (w : World) (hr : Rd w w.heap.size A (bytes cs)) (hb : ∀ z ∈ cs, 0 ≤ z ∧ z ≤ 255) (hn : cs.length ≤ c) (hm : c ≤ maxLen) :
    Calls Try.prog 44 #[.slice A cs.length c] w (dEveryOfPost w) := by
  go_enter Try.func44, Try.ntmps44
  go_wp2_with fail
  refine (newReader_any _ _ _ _ hr hb hn hm).mono ?_
  rintro e w1 ⟨g, rfl, r1, b1⟩
  have hB := r1.1
  have hsz := b1.size
  have hltw2 := r1.lt
  go_wp2_with fail
  refine (someTimes_any _ _ _ _ r1 (by omega)).mono ?_
  rintro e w2 ⟨zs, Azs, czs, qw2, rfl, hlw2, ownw2, hqw2, rw2, gw2⟩
  go_wp2_with fail
  refine (one_any [2, 3, 1, 4, 0, 9] 6 rfl _ _ _ _ _ (rw2.alloc _) (by omega) (by omega) (by omega) (alloc_at (by simp)) (by have := rw2.lt; omega)).mono ?_
  rintro e w3 ⟨b, rfl, hmb, rw3, gw3⟩
  have hbb : 0 ≤ b ∧ b ≤ 9 := by simp only [List.mem_cons, List.not_mem_nil, or_false] at hmb; omega
  clear hmb
  go_wp2_with fail
  refine (one_any [0, 1, 2, -1] 4 rfl _ _ _ _ _ (rw3.alloc _) (by omega) (by omega) (by omega) (alloc_at (by simp)) (by have := rw3.lt; omega)).mono ?_
  rintro e w4 ⟨t, rfl, hmt, rw4, gw4⟩
  have hbt : -1 ≤ t ∧ t ≤ 2 := by simp only [List.mem_cons, List.not_mem_nil, or_false] at hmt; omega
  clear hmt
  have HDzs : Hid (DrawnT w4 zs Azs czs) := Lib.hid (drawnT_only hlw2 ownw2 (only_trans (only_alloc (only_trans (only_alloc (only_refl _ _) _) gw3) _) gw4) hltw2)
  have HBL := Lib.hid (fin_below b1 r1 (only_trans (only_alloc (only_trans (only_alloc (only_trans (only_refl _ _) gw2) _) gw3) _) gw4))
  clear ownw2
  go_wp2
  go_ret3
  exact ⟨zs, Azs, czs, b, t, rfl, HDzs.out, (by omega), (by omega), HBL.out⟩

def dIdleOfPost (w : World) (e : Ending) (w' : World) : Prop := ∃ (zs : List Int) (Azs : Option Addr) (czs : Nat) (a : Int), e = .returned (.tuple #[.slice Azs zs.length czs, .int .i64 a]) ∧ DrawnT w' zs Azs czs ∧ (0 ≤ a ∧ a ≤ 61) ∧ Below w.heap.size w w'
end Go.Proofs.Ytcjcdlhmhhbkgaa

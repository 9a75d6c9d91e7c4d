/- The draws of chapter 7 by contracts. -/
import Derived.Test.YtiihenhddleooaaTDraw
namespace Go.Proofs.Ytiihenhddleooaa
open Go.RowKit
set_option linter.unusedVariables false
set_option linter.unusedSimpArgs false
def TD (w : World) (cs : List Cu) (A : Option Addr) (c : Nat) : Prop := cs.length ≤ 8 ∧ cs.length ≤ c ∧ c ≤ maxLen ∧ Rd w w.heap.size A (custV cs)
def TDb (w : World) (bs : List Int) (A : Option Addr) (c : Nat) : Prop := bs.length ≤ 8 ∧ bs.length ≤ c ∧ c ≤ maxLen ∧ Rd w w.heap.size A (ints bs)
theorem TD_of {w : World} {base : Nat} {T : TypeId} {cs : List Cu} {A : Option Addr} {c : Nat} (hl : cs.length ≤ 8) (o : w.ownsRow base T 3 (.slice A cs.length c) cs.length (custV cs)) : TD w cs A c := ⟨hl, (owz_capX o).1, (owz_capX o).2, Rd.ownz o⟩
theorem TDb_of {w : World} {base : Nat} {T : TypeId} {bs : List Int} {A : Option Addr} {c : Nat} (hl : bs.length ≤ 8) (o : w.ownsRow base T 1 (.slice A bs.length c) bs.length (ints bs)) : TDb w bs A c := ⟨hl, (owz_capX o).1, (owz_capX o).2, Rd.ownz o⟩
def dTPost (w : World) (e : Ending) (w' : World) : Prop := ∃ (ks : List Cu) (Ak : Option Addr) (ck : Nat), e = .returned (.slice Ak ks.length ck) ∧ TD w' ks Ak ck ∧ Below w.heap.size w w'
set_option maxHeartbeats 1000000 in
theorem dValidDebts (cs : List Int) (A : Option Addr) (c : Nat) (w : World) (hr : Rd w w.heap.size A (bytes cs)) (hb : ∀ z ∈ cs, 0 ≤ z ∧ z ≤ 255) (hn : cs.length ≤ c) (hm : c ≤ maxLen) :
    Calls Try.prog 15 #[.slice A cs.length c] w (dTPost w) := by
  go_enter Try.func15, Try.ntmps15
  go_wp2_with fail
  refine (newReader_any _ _ _ _ hr hb hn hm).mono ?_
  rintro e w1 ⟨g, rfl, r1, b1⟩
  have hB := r1.1
  go_wp2_with fail
  refine (someDebts_any _ _ _ _ r1 (by omega)).mono ?_
  rintro e w3 ⟨ks, Ak, ck, q, rfl, hl, hq, o3, r3, g3⟩
  have HD := Lib.hid (And.intro (TD_of hl o3) (fin_below b1 r1 (only_trans (only_refl _ g) g3)))
  clear o3 r3 g3 r1 b1 hr
  go_wp2
  go_ret
  exact ⟨ks, Ak, ck, rfl, HD.out.1, HD.out.2⟩
set_option maxHeartbeats 1000000 in
theorem dBalancesOf (cs : List Int) (A : Option Addr) (c : Nat) (w : World) (hr : Rd w w.heap.size A (bytes cs)) (hb : ∀ z ∈ cs, 0 ≤ z ∧ z ≤ 255) (hn : cs.length ≤ c) (hm : c ≤ maxLen) :
    Calls Try.prog 18 #[.slice A cs.length c] w (dTPost w) := by
  go_enter Try.func18, Try.ntmps18
  go_wp2_with fail
  refine (newReader_any _ _ _ _ hr hb hn hm).mono ?_
  rintro e w1 ⟨g, rfl, r1, b1⟩
  have hB := r1.1
  go_wp2_with fail
  refine (someDebts_any _ _ _ _ r1 (by omega)).mono ?_
  rintro e w3 ⟨ks, Ak, ck, q, rfl, hl, hq, o3, r3, g3⟩
  have HD := Lib.hid (And.intro (TD_of hl o3) (fin_below b1 r1 (only_trans (only_refl _ g) g3)))
  clear o3 r3 g3 r1 b1 hr
  go_wp2
  go_ret
  exact ⟨ks, Ak, ck, rfl, HD.out.1, HD.out.2⟩
set_option maxHeartbeats 1000000 in
theorem dSettleDebts (cs : List Int) (A : Option Addr) (c : Nat) (w : World) (hr : Rd w w.heap.size A (bytes cs)) (hb : ∀ z ∈ cs, 0 ≤ z ∧ z ≤ 255) (hn : cs.length ≤ c) (hm : c ≤ maxLen) :
    Calls Try.prog 23 #[.slice A cs.length c] w (dTPost w) := by
  go_enter Try.func23, Try.ntmps23
  go_wp2_with fail
  refine (newReader_any _ _ _ _ hr hb hn hm).mono ?_
  rintro e w1 ⟨g, rfl, r1, b1⟩
  have hB := r1.1
  go_wp2_with fail
  refine (someDebts_any _ _ _ _ r1 (by omega)).mono ?_
  rintro e w3 ⟨ks, Ak, ck, q, rfl, hl, hq, o3, r3, g3⟩
  have HD := Lib.hid (And.intro (TD_of hl o3) (fin_below b1 r1 (only_trans (only_refl _ g) g3)))
  clear o3 r3 g3 r1 b1 hr
  go_wp2
  go_ret
  exact ⟨ks, Ak, ck, rfl, HD.out.1, HD.out.2⟩
set_option maxHeartbeats 1000000 in
theorem dValidClauses (cs : List Int) (A : Option Addr) (c : Nat) (w : World) (hr : Rd w w.heap.size A (bytes cs)) (hb : ∀ z ∈ cs, 0 ≤ z ∧ z ≤ 255) (hn : cs.length ≤ c) (hm : c ≤ maxLen) :
    Calls Try.prog 37 #[.slice A cs.length c] w (dTPost w) := by
  go_enter Try.func37, Try.ntmps37
  go_wp2_with fail
  refine (newReader_any _ _ _ _ hr hb hn hm).mono ?_
  rintro e w1 ⟨g, rfl, r1, b1⟩
  have hB := r1.1
  go_wp2_with fail
  refine (someClaus_any _ _ _ _ r1 (by omega)).mono ?_
  rintro e w3 ⟨ks, Ak, ck, q, rfl, hl, hq, o3, r3, g3⟩
  have HD := Lib.hid (And.intro (TD_of hl o3) (fin_below b1 r1 (only_trans (only_refl _ g) g3)))
  clear o3 r3 g3 r1 b1 hr
  go_wp2
  go_ret
  exact ⟨ks, Ak, ck, rfl, HD.out.1, HD.out.2⟩
set_option maxHeartbeats 1000000 in
theorem dWorstPay (cs : List Int) (A : Option Addr) (c : Nat) (w : World) (hr : Rd w w.heap.size A (bytes cs)) (hb : ∀ z ∈ cs, 0 ≤ z ∧ z ≤ 255) (hn : cs.length ≤ c) (hm : c ≤ maxLen) :
    Calls Try.prog 43 #[.slice A cs.length c] w (dTPost w) := by
  go_enter Try.func43, Try.ntmps43
  go_wp2_with fail
  refine (newReader_any _ _ _ _ hr hb hn hm).mono ?_
  rintro e w1 ⟨g, rfl, r1, b1⟩
  have hB := r1.1
  go_wp2_with fail
  refine (someClaus_any _ _ _ _ r1 (by omega)).mono ?_
  rintro e w3 ⟨ks, Ak, ck, q, rfl, hl, hq, o3, r3, g3⟩
  have HD := Lib.hid (And.intro (TD_of hl o3) (fin_below b1 r1 (only_trans (only_refl _ g) g3)))
  clear o3 r3 g3 r1 b1 hr
  go_wp2
  go_ret
  exact ⟨ks, Ak, ck, rfl, HD.out.1, HD.out.2⟩
set_option maxHeartbeats 1000000 in
theorem dSimplify (cs : List Int) (A : Option Addr) (c : Nat) (w : World) (hr : Rd w w.heap.size A (bytes cs)) (hb : ∀ z ∈ cs, 0 ≤ z ∧ z ≤ 255) (hn : cs.length ≤ c) (hm : c ≤ maxLen) :
    Calls Try.prog 46 #[.slice A cs.length c] w (dTPost w) := by
  go_enter Try.func46, Try.ntmps46
  go_wp2_with fail
  refine (newReader_any _ _ _ _ hr hb hn hm).mono ?_
  rintro e w1 ⟨g, rfl, r1, b1⟩
  have hB := r1.1
  go_wp2_with fail
  refine (someClaus_any _ _ _ _ r1 (by omega)).mono ?_
  rintro e w3 ⟨ks, Ak, ck, q, rfl, hl, hq, o3, r3, g3⟩
  have HD := Lib.hid (And.intro (TD_of hl o3) (fin_below b1 r1 (only_trans (only_refl _ g) g3)))
  clear o3 r3 g3 r1 b1 hr
  go_wp2
  go_ret
  exact ⟨ks, Ak, ck, rfl, HD.out.1, HD.out.2⟩
def dWPost (w : World) (e : Ending) (w' : World) : Prop := ∃ (bs : List Int) (Ab : Option Addr) (cb : Nat) (n : Int), e = .returned (.tuple #[.slice Ab bs.length cb, .int .i64 n]) ∧ TDb w' bs Ab cb ∧ (-1 ≤ n ∧ n ≤ 9) ∧ Below w.heap.size w w'
set_option maxHeartbeats 1000000 in
theorem dWinnersOf (cs : List Int) (A : Option Addr) (c : Nat) (w : World) (hr : Rd w w.heap.size A (bytes cs)) (hb : ∀ z ∈ cs, 0 ≤ z ∧ z ≤ 255) (hn : cs.length ≤ c) (hm : c ≤ maxLen) :
    Calls Try.prog 27 #[.slice A cs.length c] w (dWPost w) := by
  go_enter Try.func27, Try.ntmps27
  go_wp2_with fail
  refine (newReader_any _ _ _ _ hr hb hn hm).mono ?_
  rintro e w1 ⟨g, rfl, r1, b1⟩
  have hB := r1.1
  have hl1 := r1.lt
  go_wp2_with fail
  refine (someBids_any _ _ _ _ r1 (by omega)).mono ?_
  rintro e w3 ⟨bs, Ab, cb, q, rfl, hl, hq, o3, r3, g3⟩
  go_wp2_with fail
  refine (one_any [2,1,3,0,8,9,-1] 7 rfl _ _ _ _ _ (r3.alloc _) (by omega) (by omega) (by omega) (alloc_at (by simp)) (by have := r3.lt; omega)).mono ?_
  rintro e w4 ⟨n, rfl, hmn, rw4, gw4⟩
  have hbn : -1 ≤ n ∧ n ≤ 9 := by simp only [List.mem_cons, List.not_mem_nil, or_false] at hmn; omega
  clear hmn
  have o4 := owz_only (owz_alloc o3 (.cells (ints [2,1,3,0,8,9,-1]).toArray 3)) gw4 hl1
  have G4 := only_trans (only_alloc g3 (.cells (ints [2,1,3,0,8,9,-1]).toArray 3)) gw4
  have HD := Lib.hid (And.intro (TDb_of hl o4) (fin_below b1 r1 (only_trans (only_refl _ g) G4)))
  clear o3 r3 g3 r1 b1 hr o4 G4 gw4 rw4
  go_wp2
  go_ret2
  exact ⟨bs, Ab, cb, n, rfl, HD.out.1, hbn, HD.out.2⟩
set_option maxHeartbeats 1000000 in
theorem dPriceOf (cs : List Int) (A : Option Addr) (c : Nat) (w : World) (hr : Rd w w.heap.size A (bytes cs)) (hb : ∀ z ∈ cs, 0 ≤ z ∧ z ≤ 255) (hn : cs.length ≤ c) (hm : c ≤ maxLen) :
    Calls Try.prog 31 #[.slice A cs.length c] w (dWPost w) := by
  go_enter Try.func31, Try.ntmps31
  go_wp2_with fail
  refine (dWinnersOf _ _ _ _ hr hb hn hm).mono ?_
  rintro e w1 ⟨bs, Ab, cb, n, rfl, h1, h2, h3⟩
  have H := Lib.hid (And.intro h1 (And.intro h2 h3))
  clear h1 h2 h3
  go_wp2
  go_ret2
  exact ⟨bs, Ab, cb, n, rfl, H.out.1, H.out.2.1, H.out.2.2⟩
theorem results_fourT {fn : Func} {t u v x : Tmp} (h : fn.results = #[.tmp t, .tmp u, .tmp v, .tmp x]) (tmps : Array Value) (P : Program) (w : World) :
    (results fn tmps).run P w = .ok (.tuple #[tmps.getD t undef, tmps.getD u undef, tmps.getD v undef, tmps.getD x undef]) w := by
  simp [results, h]
def dGPost (w : World) (e : Ending) (w' : World) : Prop := ∃ (bs : List Int) (Ab : Option Addr) (cb : Nat) (n pi wo : Int), e = .returned (.tuple #[.slice Ab bs.length cb, .int .i64 n, .int .i64 pi, .int .i64 wo]) ∧ TDb w' bs Ab cb ∧ (0 ≤ n ∧ n ≤ 9) ∧ (-1 ≤ pi ∧ pi ≤ 8) ∧ (0 ≤ wo ∧ wo ≤ 10001) ∧ Below w.heap.size w w'
set_option maxHeartbeats 1000000 in
theorem dGainOf (cs : List Int) (A : Option Addr) (c : Nat) (w : World) (hr : Rd w w.heap.size A (bytes cs)) (hb : ∀ z ∈ cs, 0 ≤ z ∧ z ≤ 255) (hn : cs.length ≤ c) (hm : c ≤ maxLen) :
    Calls Try.prog 34 #[.slice A cs.length c] w (dGPost w) := by
  go_enter Try.func34, Try.ntmps34
  go_wp2_with fail
  refine (newReader_any _ _ _ _ hr hb hn hm).mono ?_
  rintro e w1 ⟨g, rfl, r1, b1⟩
  have hB := r1.1
  have hl1 := r1.lt
  go_wp2_with fail
  refine (someBids_any _ _ _ _ r1 (by omega)).mono ?_
  rintro e w3 ⟨bs, Ab, cb, q, rfl, hl, hq, o3, r3, g3⟩
  go_wp2_with fail
  refine (one_any [2,1,3,0,9] 5 rfl _ _ _ _ _ (r3.alloc _) (by omega) (by omega) (by omega) (alloc_at (by simp)) (by have := r3.lt; omega)).mono ?_
  rintro e w4 ⟨n, rfl, hmn, rw4, gw4⟩
  have hbn : 0 ≤ n ∧ n ≤ 9 := by simp only [List.mem_cons, List.not_mem_nil, or_false] at hmn; omega
  clear hmn
  have o4 := owz_only (owz_alloc o3 (.cells (ints [2,1,3,0,9]).toArray 3)) gw4 hl1
  have G4 := only_trans (only_alloc g3 (.cells (ints [2,1,3,0,9]).toArray 3)) gw4
  clear o3 g3 gw4 r3
  go_wp2_with fail
  refine (one_any [0,1,2,-1,8] 5 rfl _ _ _ _ _ (rw4.alloc _) (by omega) (by omega) (by omega) (alloc_at (by simp)) (by have := rw4.lt; omega)).mono ?_
  rintro e w5 ⟨pi, rfl, hmpi, rw5, gw5⟩
  have hbpi : -1 ≤ pi ∧ pi ≤ 8 := by simp only [List.mem_cons, List.not_mem_nil, or_false] at hmpi; omega
  clear hmpi
  have o5 := owz_only (owz_alloc o4 (.cells (ints [0,1,2,-1,8]).toArray 3)) gw5 hl1
  have G5 := only_trans (only_alloc G4 (.cells (ints [0,1,2,-1,8]).toArray 3)) gw5
  clear o4 G4 gw5 rw4
  go_wp2_with fail
  refine (pick_any 40 _ _ _ _ rw5 (by omega) (by omega)).mono ?_
  rintro e w6 ⟨x, rfl, x0, x1, r6, g6⟩
  have o6 := owz_only o5 g6 hl1
  have G6 := only_trans G5 g6
  clear o5 G5 g6 rw5
  go_wp2_with fail
  refine (one_any [20,15,x,0,10001] 5 rfl _ _ _ _ _ (r6.alloc _) (by omega) (by omega) (by omega) (alloc_at (by simp)) (by have := r6.lt; omega)).mono ?_
  rintro e w7 ⟨wo, rfl, hmwo, rw7, gw7⟩
  have hbwo : 0 ≤ wo ∧ wo ≤ 10001 := by simp only [List.mem_cons, List.not_mem_nil, or_false] at hmwo; omega
  clear hmwo
  have o7 := owz_only (owz_alloc o6 (.cells (ints [20,15,x,0,10001]).toArray 3)) gw7 hl1
  have G7 := only_trans (only_alloc G6 (.cells (ints [20,15,x,0,10001]).toArray 3)) gw7
  have HD := Lib.hid (And.intro (TDb_of hl o7) (fin_below b1 r1 (only_trans (only_refl _ g) G7)))
  clear r1 b1 hr o6 G6 gw7 r6 o7 G7 rw7
  go_wp2
  try simp only [Exit.inBlock, Exit.then]
  refine bodyPost_ret (results_fourT rfl _ _ _) rfl ?_
  exact ⟨bs, Ab, cb, n, pi, wo, rfl, HD.out.1, hbn, hbpi, hbwo, HD.out.2⟩
def dPPost (w : World) (e : Ending) (w' : World) : Prop := ∃ (ks : List Cu) (Ak : Option Addr) (ck : Nat) (th : Int), e = .returned (.tuple #[.slice Ak ks.length ck, .int .i64 th]) ∧ TD w' ks Ak ck ∧ (-1 ≤ th ∧ th ≤ 1000) ∧ Below w.heap.size w w'
set_option maxHeartbeats 1000000 in
theorem dPayFor (cs : List Int) (A : Option Addr) (c : Nat) (w : World) (hr : Rd w w.heap.size A (bytes cs)) (hb : ∀ z ∈ cs, 0 ≤ z ∧ z ≤ 255) (hn : cs.length ≤ c) (hm : c ≤ maxLen) :
    Calls Try.prog 40 #[.slice A cs.length c] w (dPPost w) := by
  go_enter Try.func40, Try.ntmps40
  go_wp2_with fail
  refine (newReader_any _ _ _ _ hr hb hn hm).mono ?_
  rintro e w1 ⟨g, rfl, r1, b1⟩
  have hB := r1.1
  have hl1 := r1.lt
  go_wp2_with fail
  refine (someClaus_any _ _ _ _ r1 (by omega)).mono ?_
  rintro e w3 ⟨ks, Ak, ck, q, rfl, hl, hq, o3, r3, g3⟩
  go_wp2_with fail
  refine (pick_any 200 _ _ _ _ r3 (by omega) (by omega)).mono ?_
  rintro e w4 ⟨x, rfl, x0, x1, r4, g4⟩
  have o4 := owz_only o3 g4 hl1
  have G4 := only_trans g3 g4
  clear o3 g3 g4 r3
  go_wp2_with fail
  refine (one_any [50,x,0,99,999,1000,-1] 7 rfl _ _ _ _ _ (r4.alloc _) (by omega) (by omega) (by omega) (alloc_at (by simp)) (by have := r4.lt; omega)).mono ?_
  rintro e w5 ⟨th, rfl, hmth, rw5, gw5⟩
  have hbth : -1 ≤ th ∧ th ≤ 1000 := by simp only [List.mem_cons, List.not_mem_nil, or_false] at hmth; omega
  clear hmth
  have o5 := owz_only (owz_alloc o4 (.cells (ints [50,x,0,99,999,1000,-1]).toArray 3)) gw5 hl1
  have G5 := only_trans (only_alloc G4 (.cells (ints [50,x,0,99,999,1000,-1]).toArray 3)) gw5
  have HD := Lib.hid (And.intro (TD_of hl o5) (fin_below b1 r1 (only_trans (only_refl _ g) G5)))
  clear o4 G4 r4 o5 G5 gw5 rw5 r1 b1 hr
  go_wp2
  go_ret2
  exact ⟨ks, Ak, ck, th, rfl, HD.out.1, hbth, HD.out.2⟩

end Go.Proofs.Ytiihenhddleooaa

/- The draws of chapter 6 by contracts. -/
import Derived.Test.YtjjddamblijffaaKOrdD
namespace Go.Proofs.Ytjjddamblijffaa
open Go.RowKit
set_option linter.unusedVariables false
set_option linter.unusedSimpArgs false
def KD (w : World) (cs : List Cu) (A : Option Addr) (c : Nat) : Prop := cs.length ≤ 7 ∧ cs.length ≤ c ∧ c ≤ maxLen ∧ Rd w w.heap.size A (custV cs)
theorem owz_capK {w : World} {base n : Nat} {T : TypeId} {z : Nat} {A : Option Addr} {c : Nat} {xs : List Value} (o : w.ownsRow base T z (.slice A n c) n xs) : n ≤ c ∧ c ≤ maxLen := by
  rcases o.2 with ⟨h0, hz⟩ | ⟨g, cap, cur, hv, _, _, hnc, hcm, _⟩
  · injection h0 with _ q1 q2; rw [q1, q2]; exact ⟨Nat.le_refl _, Nat.zero_le _⟩
  · injection hv with _ _ q2; subst q2; exact ⟨hnc, hcm⟩
theorem KD_of {w : World} {base : Nat} {cs : List Cu} {A : Option Addr} {c : Nat} (hl : cs.length ≤ 7) (o : w.ownsRow base 33 3 (.slice A cs.length c) cs.length (custV cs)) : KD w cs A c := ⟨hl, (owz_capK o).1, (owz_capK o).2, Rd.ownz o⟩
def dCustPost (w : World) (e : Ending) (w' : World) : Prop := ∃ (ks : List Cu) (Ak : Option Addr) (ck : Nat), e = .returned (.slice Ak ks.length ck) ∧ KD w' ks Ak ck ∧ Below w.heap.size w w'
set_option maxHeartbeats 1000000 in
theorem dValidCustomers (cs : List Int) (A : Option Addr) (c : Nat) (w : World) (hr : Rd w w.heap.size A (bytes cs)) (hb : ∀ z ∈ cs, 0 ≤ z ∧ z ≤ 255) (hn : cs.length ≤ c) (hm : c ≤ maxLen) :
    Calls Try.prog 15 #[.slice A cs.length c] w (dCustPost w) := by
  go_enter Try.func15, Try.ntmps15
  go_wp2_with fail
  refine (newReader_any _ _ _ _ hr hb hn hm).mono ?_
  rintro e w1 ⟨g, rfl, r1, b1⟩
  have hB := r1.1
  go_wp2_with fail
  refine (someCust_any _ _ _ _ r1 (by omega)).mono ?_
  rintro e w3 ⟨ks, Ak, ck, q, rfl, hl, hq, o3, r3, g3⟩
  have HD := Lib.hid (And.intro (KD_of hl o3) (fin_below b1 r1 (only_trans (only_refl _ g) g3)))
  clear o3 r3 g3 r1 b1 hr
  go_wp2
  go_ret
  exact ⟨ks, Ak, ck, rfl, HD.out.1, HD.out.2⟩
set_option maxHeartbeats 1000000 in
theorem dSweep (cs : List Int) (A : Option Addr) (c : Nat) (w : World) (hr : Rd w w.heap.size A (bytes cs)) (hb : ∀ z ∈ cs, 0 ≤ z ∧ z ≤ 255) (hn : cs.length ≤ c) (hm : c ≤ maxLen) :
    Calls Try.prog 39 #[.slice A cs.length c] w (dCustPost w) := by
  go_enter Try.func39, Try.ntmps39
  go_wp2_with fail
  refine (newReader_any _ _ _ _ hr hb hn hm).mono ?_
  rintro e w1 ⟨g, rfl, r1, b1⟩
  have hB := r1.1
  go_wp2_with fail
  refine (someCust_any _ _ _ _ r1 (by omega)).mono ?_
  rintro e w3 ⟨ks, Ak, ck, q, rfl, hl, hq, o3, r3, g3⟩
  have HD := Lib.hid (And.intro (KD_of hl o3) (fin_below b1 r1 (only_trans (only_refl _ g) g3)))
  clear o3 r3 g3 r1 b1 hr
  go_wp2
  go_ret
  exact ⟨ks, Ak, ck, rfl, HD.out.1, HD.out.2⟩
def dVisitPost (w : World) (e : Ending) (w' : World) : Prop := ∃ (ks : List Cu) (Ak : Option Addr) (ck : Nat) (st : Int) (os : List Int) (Ao : Option Addr) (co : Nat), e = .returned (.tuple #[.slice Ak ks.length ck, .int .i64 st, .slice Ao os.length co]) ∧ KD w' ks Ak ck ∧ (os.length ≤ 7 ∧ os.length ≤ co ∧ co ≤ maxLen ∧ Rd w' w'.heap.size Ao (ints os)) ∧ (-10 ≤ st ∧ st ≤ 101) ∧ Below w.heap.size w w'
set_option maxHeartbeats 1000000 in
theorem dVisitTimes (cs : List Int) (A : Option Addr) (c : Nat) (w : World) (hr : Rd w w.heap.size A (bytes cs)) (hb : ∀ z ∈ cs, 0 ≤ z ∧ z ≤ 255) (hn : cs.length ≤ c) (hm : c ≤ maxLen) :
    Calls Try.prog 18 #[.slice A cs.length c] w (dVisitPost w) := by
  go_enter Try.func18, Try.ntmps18
  go_wp2_with fail
  refine (newReader_any _ _ _ _ hr hb hn hm).mono ?_
  rintro e w1 ⟨g, rfl, r1, b1⟩
  have hB := r1.1
  have hl1 := r1.lt
  go_wp2_with fail
  refine (someCust_any _ _ _ _ r1 (by omega)).mono ?_
  rintro e w3 ⟨ks, Ak, ck, q, rfl, hl, hq, o3, r3, g3⟩
  have hsz3 := g3.size
  go_wp2_with fail
  refine (one_any [0,5,-10,30,101] 5 rfl _ _ _ _ _ (r3.alloc _) (by omega) (by omega) (by omega) (alloc_at (by simp)) (by have := r3.lt; omega)).mono ?_
  rintro e w4 ⟨st, rfl, hmst, rw4, gw4⟩
  have hbst : -10 ≤ st ∧ st ≤ 101 := by simp only [List.mem_cons, List.not_mem_nil, or_false] at hmst; omega
  clear hmst
  have o4 := owz_only (owz_alloc o3 (.cells (ints [0,5,-10,30,101]).toArray 3)) gw4 hl1
  have G4 := only_trans (only_alloc g3 (.cells (ints [0,5,-10,30,101]).toArray 3)) gw4
  have hl4 := rw4.lt
  have hsz4 := G4.size
  obtain ⟨nk, hnk⟩ : ∃ nk, nk = ks.length := ⟨_, rfl⟩
  rw [← hnk] at hl
  have HX := Lib.hid (And.intro o3 (And.intro g3 hnk))
  have HY := Lib.hid (And.intro r1 b1)
  clear o3 r3 g3 gw4 r1 b1 hr hn hm
  go_wp2_with fail
  rw [← hnk]
  refine (orderOf_any w4 _ g _ rw4 (by omega) nk (by omega)).mono ?_
  rintro e w5 ⟨os, Ao, co, q5, rfl, hol, hq5, o5, r5, g5⟩
  have k5 := owz_only o4 g5 hl1
  have G5 := only_trans G4 g5
  have HD := Lib.hid (And.intro (KD_of (by rw [← hnk]; exact hl) k5) (And.intro (owz_capK (z := 1) o5) (And.intro (Rd.own o5) (fin_below HY.out.2 HY.out.1 G5))))
  have HOL := Lib.hid hol
  clear o4 o5 k5 G4 G5 r5 g5 rw4 hol
  rw [hnk]
  clear hnk
  go_wp2
  go_ret3
  exact ⟨ks, Ak, ck, st, os, Ao, co, rfl, HD.out.1, ⟨by rw [HOL.out]; exact hl, HD.out.2.1.1, HD.out.2.1.2, HD.out.2.2.1⟩, hbst, HD.out.2.2.2⟩
set_option maxHeartbeats 1000000 in
theorem dLateBy (cs : List Int) (A : Option Addr) (c : Nat) (w : World) (hr : Rd w w.heap.size A (bytes cs)) (hb : ∀ z ∈ cs, 0 ≤ z ∧ z ≤ 255) (hn : cs.length ≤ c) (hm : c ≤ maxLen) :
    Calls Try.prog 23 #[.slice A cs.length c] w (dVisitPost w) := by
  go_enter Try.func23, Try.ntmps23
  go_wp2_with fail
  refine (dVisitTimes _ _ _ _ hr hb hn hm).mono ?_
  rintro e w1 ⟨ks, Ak, ck, st, os, Ao, co, rfl, h1, h2, h3, h4⟩
  have H := Lib.hid (And.intro h1 (And.intro h2 (And.intro h3 h4)))
  clear h1 h2 h3 h4
  go_wp2
  go_ret3
  exact ⟨ks, Ak, ck, st, os, Ao, co, rfl, H.out.1, H.out.2.1, H.out.2.2.1, H.out.2.2.2⟩
def dLeastPost (w : World) (e : Ending) (w' : World) : Prop := ∃ (ks : List Cu) (Ak : Option Addr) (ck : Nat) (st : Int), e = .returned (.tuple #[.slice Ak ks.length ck, .int .i64 st]) ∧ KD w' ks Ak ck ∧ (-10 ≤ st ∧ st ≤ 101) ∧ Below w.heap.size w w'
set_option maxHeartbeats 1000000 in
theorem dLeastLate (cs : List Int) (A : Option Addr) (c : Nat) (w : World) (hr : Rd w w.heap.size A (bytes cs)) (hb : ∀ z ∈ cs, 0 ≤ z ∧ z ≤ 255) (hn : cs.length ≤ c) (hm : c ≤ maxLen) :
    Calls Try.prog 26 #[.slice A cs.length c] w (dLeastPost w) := by
  go_enter Try.func26, Try.ntmps26
  go_wp2_with fail
  refine (newReader_any _ _ _ _ hr hb hn hm).mono ?_
  rintro e w1 ⟨g, rfl, r1, b1⟩
  have hB := r1.1
  have hl1 := r1.lt
  go_wp2_with fail
  refine (someCust_any _ _ _ _ r1 (by omega)).mono ?_
  rintro e w3 ⟨ks, Ak, ck, q, rfl, hl, hq, o3, r3, g3⟩
  have hcap := owz_capK o3
  obtain ⟨hc1, hc2⟩ := hcap
  obtain ⟨nk, hnk⟩ : ∃ nk, nk = ks.length := ⟨_, rfl⟩
  rw [← hnk] at hl hc1
  have HNK := Lib.hid hnk
  have HY := Lib.hid (And.intro r1 b1)
  clear r1 b1 hr hn hm
  rw [← hnk] at o3 ⊢
  by_cases h4 : 4 < nk
  · have h4i : (4 : Int) < (nk : Int) := by omega
    clear hnk
    go_wp2_with fail
    refine (pick_any 6 _ _ _ _ r3 (by omega) (by omega)).mono ?_
    rintro e w4 ⟨x, rfl, x0, x1, r4, g4⟩
    have o4 := owz_only o3 g4 hl1
    have G4 := only_trans g3 g4
    clear o3 g3 g4 r3
    have l1 : (4 : Int) ≤ (ck : Int) := by omega
    have l2 : 4 ≤ ck := by omega
    by_cases hx : 0 < x
    · skip
      go_wp2_with fail
      refine (one_any [0,5,-10,30,101] 5 rfl _ _ _ _ _ (r4.alloc _) (by omega) (by omega) (by omega) (alloc_at (by simp)) (by have := r4.lt; omega)).mono ?_
      rintro e w5 ⟨st, rfl, hmst, rw5, gw5⟩
      have hbst : -10 ≤ st ∧ st ≤ 101 := by simp only [List.mem_cons, List.not_mem_nil, or_false] at hmst; omega
      clear hmst
      have o5 := owz_only (owz_alloc o4 (.cells (ints [0,5,-10,30,101]).toArray 3)) gw5 hl1
      have G5 := only_trans (only_alloc G4 (.cells (ints [0,5,-10,30,101]).toArray 3)) gw5
      have HL4 : Hid ((ks.take 4).length = 4) := Lib.hid (by rw [List.length_take, ← HNK.out]; omega)
      have HD := Lib.hid (And.intro ((Rd.ownz o5).cust_take 4) (fin_below HY.out.2 HY.out.1 G5))
      clear o4 G4 gw5 r4 o5 G5 rw5
      go_wp2
      go_ret2
      exact ⟨ks.take 4, Ak, ck, st, (by rw [HL4.out]; rfl), ⟨by rw [HL4.out]; omega, by rw [HL4.out]; exact l2, hc2, HD.out.1⟩, hbst, HD.out.2⟩
    · have hx2 : x ≤ 0 := by omega
      go_wp2_with fail
      refine (one_any [0,5,-10,30,101] 5 rfl _ _ _ _ _ (r4.alloc _) (by omega) (by omega) (by omega) (alloc_at (by simp)) (by have := r4.lt; omega)).mono ?_
      rintro e w5 ⟨st, rfl, hmst, rw5, gw5⟩
      have hbst : -10 ≤ st ∧ st ≤ 101 := by simp only [List.mem_cons, List.not_mem_nil, or_false] at hmst; omega
      clear hmst
      have o5 := owz_only (owz_alloc o4 (.cells (ints [0,5,-10,30,101]).toArray 3)) gw5 hl1
      have G5 := only_trans (only_alloc G4 (.cells (ints [0,5,-10,30,101]).toArray 3)) gw5
      have HD := Lib.hid (And.intro (Rd.ownz o5) (fin_below HY.out.2 HY.out.1 G5))
      clear o4 G4 gw5 r4 o5 G5 rw5
      go_wp2
      go_ret2
      exact ⟨ks, Ak, ck, st, (by rw [← HNK.out]; rfl), ⟨by rw [← HNK.out]; exact hl, by rw [← HNK.out]; exact hc1, hc2, HD.out.1⟩, hbst, HD.out.2⟩
  · have h4i : ¬ (4 : Int) < (nk : Int) := by omega
    clear hnk
    go_wp2_with fail
    refine (one_any [0,5,-10,30,101] 5 rfl _ _ _ _ _ (r3.alloc _) (by omega) (by omega) (by omega) (alloc_at (by simp)) (by have := r3.lt; omega)).mono ?_
    rintro e w5 ⟨st, rfl, hmst, rw5, gw5⟩
    have hbst : -10 ≤ st ∧ st ≤ 101 := by simp only [List.mem_cons, List.not_mem_nil, or_false] at hmst; omega
    clear hmst
    have o5 := owz_only (owz_alloc o3 (.cells (ints [0,5,-10,30,101]).toArray 3)) gw5 hl1
    have G5 := only_trans (only_alloc g3 (.cells (ints [0,5,-10,30,101]).toArray 3)) gw5
    have HD := Lib.hid (And.intro (Rd.ownz o5) (fin_below HY.out.2 HY.out.1 G5))
    clear o3 g3 gw5 r3 o5 G5 rw5
    go_wp2
    go_ret2
    exact ⟨ks, Ak, ck, st, (by rw [← HNK.out]; rfl), ⟨by rw [← HNK.out]; exact hl, by rw [← HNK.out]; exact hc1, hc2, HD.out.1⟩, hbst, HD.out.2⟩
set_option maxHeartbeats 1000000 in
theorem dCanServe (cs : List Int) (A : Option Addr) (c : Nat) (w : World) (hr : Rd w w.heap.size A (bytes cs)) (hb : ∀ z ∈ cs, 0 ≤ z ∧ z ≤ 255) (hn : cs.length ≤ c) (hm : c ≤ maxLen) :
    Calls Try.prog 31 #[.slice A cs.length c] w (dLeastPost w) := by
  go_enter Try.func31, Try.ntmps31
  go_wp2_with fail
  refine (dLeastLate _ _ _ _ hr hb hn hm).mono ?_
  rintro e w1 ⟨ks, Ak, ck, st, rfl, h1, h3, h4⟩
  have H := Lib.hid (And.intro h1 (And.intro h3 h4))
  clear h1 h3 h4
  go_wp2
  go_ret2
  exact ⟨ks, Ak, ck, st, rfl, H.out.1, H.out.2.1, H.out.2.2⟩
set_option maxHeartbeats 1000000 in
theorem dShortestRound (cs : List Int) (A : Option Addr) (c : Nat) (w : World) (hr : Rd w w.heap.size A (bytes cs)) (hb : ∀ z ∈ cs, 0 ≤ z ∧ z ≤ 255) (hn : cs.length ≤ c) (hm : c ≤ maxLen) :
    Calls Try.prog 41 #[.slice A cs.length c] w (dLeastPost w) := by
  go_enter Try.func41, Try.ntmps41
  go_wp2_with fail
  refine (dLeastLate _ _ _ _ hr hb hn hm).mono ?_
  rintro e w1 ⟨ks, Ak, ck, st, rfl, h1, h3, h4⟩
  have H := Lib.hid (And.intro h1 (And.intro h3 h4))
  clear h1 h3 h4
  go_wp2
  go_ret2
  exact ⟨ks, Ak, ck, st, rfl, H.out.1, H.out.2.1, H.out.2.2⟩
theorem results_fourK {fn : Func} {t u v x : Tmp} (h : fn.results = #[.tmp t, .tmp u, .tmp v, .tmp x]) (tmps : Array Value) (P : Program) (w : World) :
    (results fn tmps).run P w = .ok (.tuple #[tmps.getD t undef, tmps.getD u undef, tmps.getD v undef, tmps.getD x undef]) w := by
  simp [results, h]
def dLoadPost (w : World) (e : Ending) (w' : World) : Prop := ∃ (ks : List Cu) (Ak : Option Addr) (ck : Nat) (st : Int) (os : List Int) (Ao : Option Addr) (co : Nat) (ev : Int), e = .returned (.tuple #[.slice Ak ks.length ck, .int .i64 st, .slice Ao os.length co, .int .i64 ev]) ∧ KD w' ks Ak ck ∧ (os.length ≤ 7 ∧ os.length ≤ co ∧ co ≤ maxLen ∧ Rd w' w'.heap.size Ao (ints os)) ∧ (-10 ≤ st ∧ st ≤ 101) ∧ (0 ≤ ev ∧ ev ≤ 2001) ∧ Below w.heap.size w w'
set_option maxHeartbeats 1000000 in
theorem dLoadFor (cs : List Int) (A : Option Addr) (c : Nat) (w : World) (hr : Rd w w.heap.size A (bytes cs)) (hb : ∀ z ∈ cs, 0 ≤ z ∧ z ≤ 255) (hn : cs.length ≤ c) (hm : c ≤ maxLen) :
    Calls Try.prog 35 #[.slice A cs.length c] w (dLoadPost w) := by
  go_enter Try.func35, Try.ntmps35
  go_wp2_with fail
  refine (newReader_any _ _ _ _ hr hb hn hm).mono ?_
  rintro e w1 ⟨g, rfl, r1, b1⟩
  have hB := r1.1
  have hl1 := r1.lt
  go_wp2_with fail
  refine (someCust_any _ _ _ _ r1 (by omega)).mono ?_
  rintro e w3 ⟨ks, Ak, ck, q, rfl, hl, hq, o3, r3, g3⟩
  have hsz3 := g3.size
  go_wp2_with fail
  refine (one_any [0,5,-10,101] 4 rfl _ _ _ _ _ (r3.alloc _) (by omega) (by omega) (by omega) (alloc_at (by simp)) (by have := r3.lt; omega)).mono ?_
  rintro e w4 ⟨st, rfl, hmst, rw4, gw4⟩
  have hbst : -10 ≤ st ∧ st ≤ 101 := by simp only [List.mem_cons, List.not_mem_nil, or_false] at hmst; omega
  clear hmst
  have o4 := owz_only (owz_alloc o3 (.cells (ints [0,5,-10,101]).toArray 3)) gw4 hl1
  have G4 := only_trans (only_alloc g3 (.cells (ints [0,5,-10,101]).toArray 3)) gw4
  have hl4 := rw4.lt
  obtain ⟨nk, hnk⟩ : ∃ nk, nk = ks.length := ⟨_, rfl⟩
  rw [← hnk] at hl
  have HNK := Lib.hid hnk
  have HY := Lib.hid (And.intro r1 b1)
  clear o3 r3 g3 gw4 r1 b1 hr hn hm
  rw [← hnk] at o4 ⊢
  clear hnk
  go_wp2_with fail
  refine (orderOf_any w4 _ g _ rw4 (by omega) nk (by omega)).mono ?_
  rintro e w5 ⟨os, Ao, co, q5, rfl, hol, hq5, o5, r5, g5⟩
  have HOL := Lib.hid hol
  have k5 := owz_only o4 g5 hl1
  have G5 := only_trans G4 g5
  have hl5 := r5.lt
  clear o4 G4 g5 rw4 hol
  go_wp2_with fail
  refine (one_any [5,10,1,50,0,2001] 6 rfl _ _ _ _ _ (r5.alloc _) (by omega) (by omega) (by omega) (alloc_at (by simp)) (by have := r5.lt; omega)).mono ?_
  rintro e w6 ⟨ev, rfl, hmev, rw6, gw6⟩
  have hbev : 0 ≤ ev ∧ ev ≤ 2001 := by simp only [List.mem_cons, List.not_mem_nil, or_false] at hmev; omega
  clear hmev
  have k6 := owz_only (owz_alloc k5 (.cells (ints [5,10,1,50,0,2001]).toArray 3)) gw6 hl1
  have o6 := own_only (own_alloc o5 (.cells (ints [5,10,1,50,0,2001]).toArray 3)) gw6 hl4
  have G6 := only_trans (only_alloc G5 (.cells (ints [5,10,1,50,0,2001]).toArray 3)) gw6
  have HD := Lib.hid (And.intro (And.intro (owz_capK k6) (Rd.ownz k6)) (And.intro (owz_capK (z := 1) o6) (And.intro (Rd.own o6) (fin_below HY.out.2 HY.out.1 G6))))
  clear k5 k6 o5 o6 G5 G6 gw6 r5 rw6
  go_wp2
  try simp only [Exit.inBlock, Exit.then]
  refine bodyPost_ret (results_fourK rfl _ _ _) rfl ?_
  exact ⟨ks, Ak, ck, st, os, Ao, co, ev, (by rw [← HNK.out]; rfl), ⟨by rw [← HNK.out]; exact hl, by rw [← HNK.out]; exact HD.out.1.1.1, HD.out.1.1.2, HD.out.1.2⟩, ⟨by rw [HOL.out]; exact hl, HD.out.2.1.1, HD.out.2.1.2, HD.out.2.2.1⟩, hbst, hbev, HD.out.2.2.2⟩

end Go.Proofs.Ytjjddamblijffaa

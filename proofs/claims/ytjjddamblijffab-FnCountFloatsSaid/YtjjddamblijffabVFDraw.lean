/- The generator of FnValidFloat's arguments by a contract. -/
import Derived.Lib.QuietBelow
import Derived.Test.YtjjddamblijffabVFLaw
namespace Go.Proofs.Ytjjddamblijffab
open Go.RowKit
set_option linter.unusedVariables false
set_option linter.unusedSimpArgs false
theorem results_four {fn : Func} {t u v x : Tmp} (h : fn.results = #[.tmp t, .tmp u, .tmp v, .tmp x]) (tmps : Array Value) (P : Program) (w : World) :
    (results fn tmps).run P w = .ok (.tuple #[tmps.getD t undef, tmps.getD u undef, tmps.getD v undef, tmps.getD x undef]) w := by
  simp [results, h]
set_option maxRecDepth 100000 in
set_option maxHeartbeats 2000000 in
theorem dValidFloat (cs : List Int) (A : Option Addr) (c : Nat) (w : World) (hr : Rd w w.heap.size A (bytes cs)) (hb : ∀ z ∈ cs, 0 ≤ z ∧ z ≤ 255) (hn : cs.length ≤ c) (hm : c ≤ maxLen) :
    Calls Try.prog 40 #[.slice A cs.length c] w (dValidFloatPost w) := by
  go_enter Try.func40, Try.ntmps40
  go_wp2_with fail
  refine (newReader_any _ _ _ _ hr hb hn hm).mono ?_
  rintro e w1 ⟨g, rfl, r1, b1⟩
  have hB := r1.1
  have hl1 := r1.lt
  go_wp2_with fail
  refine (someCakes_any _ _ _ _ r1 (by omega) 8 (by omega) (by omega)).mono ?_
  rintro e w3 ⟨ks, Ak, ck, q, a, h, rfl, ha, hh, hl, hq, o3, r3, g3⟩
  have hl3 := r3.lt
  go_wp2_with fail
  refine (sOrder_any _ (by omega) ks rfl Ak ck w3 (Rd.ownz o3) a h).mono ?_
  rintro e w4 ⟨A5, c5, rfl, o4, b4⟩
  have r4 := r3.below b4
  have G4 : w3.grownBy w4 (some g) := only_belC (only_refl w3 g) b4
  have hfl := float_le a h ks
  generalize floatT a h ks = ts at *
  generalize hts : ts.length = n at *
  have HN := Lib.hid hts
  have HC := Lib.hid (And.intro o3 (And.intro g3 (And.intro b1 r1)))
  clear o3 g3 b1 r1 b4 r3 hr hts hn hm
  by_cases h0 : n = 0
  · have h0i : ¬ (0 : Int) < (n : Int) := by omega
    have h1i : ¬ (1 : Int) < (n : Int) := by omega
    have h0n : ¬ 0 < n := by omega
    have h1n : ¬ 1 < n := by omega
    clear h0
    have d1 := owz_only HC.out.1 G4 hl1
    have hcq := owz_caps d1
    have hd := And.intro hcq.1 (And.intro hcq.2 (Rd.ownz d1))
    have hco := own_caps o4
    have hbl := fin_below HC.out.2.2.1 HC.out.2.2.2 (only_trans HC.out.2.1 G4)
    have HD := Lib.hid (And.intro hd (And.intro (And.intro hco.1 (And.intro hco.2 (Rd.own o4))) hbl))
    clear d1 hcq hd hco hbl o4 G4 r4
    go_wp2
    try simp only [Exit.inBlock, Exit.then]
    refine bodyPost_ret (results_four rfl _ _ _) rfl ?_
    exact ⟨ks, ts, Ak, A5, ck, c5, a, h, (by rw [HN.out]; rfl), ⟨hl, HD.out.1⟩, (by rw [HN.out]; exact HD.out.2.1), (by rw [HN.out]; exact hfl), HD.out.2.2⟩
  · have h0i : (0 : Int) < (n : Int) := by omega
    have h0n : 0 < n := by omega
    obtain ⟨g5, rfl, hg5, hg5l, _, _⟩ := own_some o4 h0n
    by_cases h1n : 1 < n
    · have h1i : (1 : Int) < (n : Int) := by omega
      go_wp2_with fail
      refine (pick_any 2 _ _ _ _ r4 (by omega) (by omega)).mono ?_
      rintro e w5 ⟨x, rfl, x0, x1, r5, gg5⟩
      have o5 := own_only o4 gg5 hl3
      have G5 := only_trans G4 gg5
      clear r4 o4 G4 gg5
      by_cases hx : x = 0
      · subst hx
        go_wp2_with fail
        refine (pick_any ((n : Int) - 1) _ _ _ _ r5 (by omega) (by omega)).mono ?_
        rintro e w6 ⟨y, rfl, y0, y1, r6, gg6⟩
        have o6 := own_only o5 gg6 hl3
        have G6 := only_trans G5 gg6
        clear r5 o5 G5 gg6
        obtain ⟨m, rfl⟩ := Int.eq_ofNat_of_zero_le y0
        have hmn : m + 1 < n := by omega
        have hmi : (m : Int) < (n : Int) := by omega
        have hmj : (m : Int) + 1 < (n : Int) := by omega
        have hmk : (0 : Int) ≤ (m : Int) + 1 := by omega
        have hmN : ((m : Int) + 1).toNat = m + 1 := by omega
        have hmw : IntKind.i64.wrap ((m : Int) + 1) = (m : Int) + 1 := IntWalk.i64_in _ (by omega)
        obtain ⟨z1, hz1⟩ : ∃ z1, ts[m]? = some z1 := ⟨_, List.getElem?_eq_getElem (by rw [HN.out]; omega)⟩
        obtain ⟨z2, hz2⟩ : ∃ z2, ts[m + 1]? = some z2 := ⟨_, List.getElem?_eq_getElem (by rw [HN.out]; omega)⟩
        have hc1 : w6.cell? ⟨g5, m, none⟩ = some (.int .i64 z1) := own_cell o6 (by rw [ints, List.getElem?_map, hz1]; rfl)
        have hc2 : w6.cell? ⟨g5, m + 1, none⟩ = some (.int .i64 z2) := own_cell o6 (by rw [ints, List.getElem?_map, hz2]; rfl)
        have hf1 := own_frozen o6 m
        have hf2 := own_frozen o6 (m + 1)
        have O7 := own_put (own_put o6 m (.int .i64 z2)) (m + 1) (.int .i64 z1)
        rw [ints_set, ints_set] at O7
        have HO7 := Lib.hid O7
        have HR7 := Lib.hid (set_own (k := m + 1) (u := .int .i64 z1) (set_own (k := m) (u := .int .i64 z2) r6 (show g < g5 by omega)) (show g < g5 by omega))
        have HG7 := Lib.hid (only_set (only_set G6 (p := ⟨g5, m, none⟩) (.inr hg5) (.int .i64 z2)) (p := ⟨g5, m + 1, none⟩) (.inr hg5) (.int .i64 z1))
        have HN7 : Hid (((ts.set m z2).set (m + 1) z1).length = n) := Lib.hid (by rw [List.length_set, List.length_set]; exact HN.out)
        clear O7 o6 G6 r6 hz1 hz2 y0 y1
        go_wp2_with fail
        have r7 := HR7.out
        have o7 := HO7.out
        have G7 := HG7.out
        clear HO7 HR7 HG7
        go_wp2_with fail
        refine (pick_any 12 _ _ _ _ r7 (by omega) (by omega)).mono ?_
        rintro e w8 ⟨u, rfl, u0, u1, r8, gg8⟩
        have o8 := own_only o7 gg8 hl3
        have G8 := only_trans G7 gg8
        clear gg8 r7 o7 G7
        by_cases hu : u = 0
        · subst hu
          go_wp2_with fail
          refine (one_any [-1, 9, 0] 3 rfl _ _ _ _ _ (r8.alloc _) (by omega) (by omega) (by omega) (alloc_at (by simp)) (by have := r8.lt; omega)).mono ?_
          rintro e w9 ⟨v, rfl, hmv, rw9, gw9⟩
          have hbv : -1 ≤ v ∧ v ≤ 9 := by simp only [List.mem_cons, List.not_mem_nil, or_false] at hmv; omega
          clear hmv
          have o9 := own_only (own_alloc o8 (.cells (ints [-1, 9, 0]).toArray 3)) gw9 hl3
          have G9 := only_trans (only_alloc G8 (.cells (ints [-1, 9, 0]).toArray 3)) gw9
          have hf0 := own_frozen o9 0
          obtain ⟨z0, hz0⟩ : ∃ z0, (((ts.set m z2).set (m + 1) z1))[0]? = some z0 := ⟨_, List.getElem?_eq_getElem (by rw [HN7.out]; omega)⟩
          have hc0 : w9.cell? ⟨g5, 0, none⟩ = some (.int .i64 z0) := own_cell o9 (by rw [ints, List.getElem?_map, hz0]; rfl)
          clear hz0
          have O10 := own_put o9 0 (.int .i64 v)
          have G10 := only_set G9 (p := ⟨g5, 0, none⟩) (.inr hg5) (.int .i64 v)
          rw [ints_set] at O10
          have d1 := owz_only HC.out.1 G10 hl1
          have hcq := owz_caps d1
          have hd := And.intro hcq.1 (And.intro hcq.2 (Rd.ownz d1))
          have hco := own_caps O10
          have hbl := fin_below HC.out.2.2.1 HC.out.2.2.2 (only_trans HC.out.2.1 G10)
          have HD := Lib.hid (And.intro hd (And.intro (And.intro hco.1 (And.intro hco.2 (Rd.own O10))) hbl))
          clear d1 hcq hd hco hbl O10 G10 o9 G9 r8 rw9 gw9 o8 G8
          go_wp2
          try simp only [Exit.inBlock, Exit.then]
          refine bodyPost_ret (results_four rfl _ _ _) rfl ?_
          exact ⟨ks, (((ts.set m z2).set (m + 1) z1)).set 0 v, Ak, some ⟨g5, 0, none⟩, ck, c5, a, h, (by rw [List.length_set, HN7.out]; rfl), ⟨hl, HD.out.1⟩, (by rw [List.length_set, HN7.out]; exact HD.out.2.1), (by rw [List.length_set, HN7.out]; exact hfl), HD.out.2.2⟩
        · have hub : ((u : Int) == 0) = false := beq_eq_false_iff_ne.2 hu
          have d1 := owz_only HC.out.1 G8 hl1
          have hcq := owz_caps d1
          have hd := And.intro hcq.1 (And.intro hcq.2 (Rd.ownz d1))
          have hco := own_caps o8
          have hbl := fin_below HC.out.2.2.1 HC.out.2.2.2 (only_trans HC.out.2.1 G8)
          have HD := Lib.hid (And.intro hd (And.intro (And.intro hco.1 (And.intro hco.2 (Rd.own o8))) hbl))
          clear d1 hcq hd hco hbl o8 G8 r8
          go_wp2
          try simp only [Exit.inBlock, Exit.then]
          refine bodyPost_ret (results_four rfl _ _ _) rfl ?_
          exact ⟨ks, ((ts.set m z2).set (m + 1) z1), Ak, some ⟨g5, 0, none⟩, ck, c5, a, h, (by rw [HN7.out]; rfl), ⟨hl, HD.out.1⟩, (by rw [HN7.out]; exact HD.out.2.1), (by rw [HN7.out]; exact hfl), HD.out.2.2⟩
      · have hxb : ((x : Int) == 0) = false := beq_eq_false_iff_ne.2 hx
        go_wp2_with fail
        refine (pick_any 12 _ _ _ _ r5 (by omega) (by omega)).mono ?_
        rintro e w8 ⟨u, rfl, u0, u1, r8, gg8⟩
        have o8 := own_only o5 gg8 hl3
        have G8 := only_trans G5 gg8
        clear gg8 r5 o5 G5
        by_cases hu : u = 0
        · subst hu
          go_wp2_with fail
          refine (one_any [-1, 9, 0] 3 rfl _ _ _ _ _ (r8.alloc _) (by omega) (by omega) (by omega) (alloc_at (by simp)) (by have := r8.lt; omega)).mono ?_
          rintro e w9 ⟨v, rfl, hmv, rw9, gw9⟩
          have hbv : -1 ≤ v ∧ v ≤ 9 := by simp only [List.mem_cons, List.not_mem_nil, or_false] at hmv; omega
          clear hmv
          have o9 := own_only (own_alloc o8 (.cells (ints [-1, 9, 0]).toArray 3)) gw9 hl3
          have G9 := only_trans (only_alloc G8 (.cells (ints [-1, 9, 0]).toArray 3)) gw9
          have hf0 := own_frozen o9 0
          obtain ⟨z0, hz0⟩ : ∃ z0, (ts)[0]? = some z0 := ⟨_, List.getElem?_eq_getElem (by rw [HN.out]; omega)⟩
          have hc0 : w9.cell? ⟨g5, 0, none⟩ = some (.int .i64 z0) := own_cell o9 (by rw [ints, List.getElem?_map, hz0]; rfl)
          clear hz0
          have O10 := own_put o9 0 (.int .i64 v)
          have G10 := only_set G9 (p := ⟨g5, 0, none⟩) (.inr hg5) (.int .i64 v)
          rw [ints_set] at O10
          have d1 := owz_only HC.out.1 G10 hl1
          have hcq := owz_caps d1
          have hd := And.intro hcq.1 (And.intro hcq.2 (Rd.ownz d1))
          have hco := own_caps O10
          have hbl := fin_below HC.out.2.2.1 HC.out.2.2.2 (only_trans HC.out.2.1 G10)
          have HD := Lib.hid (And.intro hd (And.intro (And.intro hco.1 (And.intro hco.2 (Rd.own O10))) hbl))
          clear d1 hcq hd hco hbl O10 G10 o9 G9 r8 rw9 gw9 o8 G8
          go_wp2
          try simp only [Exit.inBlock, Exit.then]
          refine bodyPost_ret (results_four rfl _ _ _) rfl ?_
          exact ⟨ks, (ts).set 0 v, Ak, some ⟨g5, 0, none⟩, ck, c5, a, h, (by rw [List.length_set, HN.out]; rfl), ⟨hl, HD.out.1⟩, (by rw [List.length_set, HN.out]; exact HD.out.2.1), (by rw [List.length_set, HN.out]; exact hfl), HD.out.2.2⟩
        · have hub : ((u : Int) == 0) = false := beq_eq_false_iff_ne.2 hu
          have d1 := owz_only HC.out.1 G8 hl1
          have hcq := owz_caps d1
          have hd := And.intro hcq.1 (And.intro hcq.2 (Rd.ownz d1))
          have hco := own_caps o8
          have hbl := fin_below HC.out.2.2.1 HC.out.2.2.2 (only_trans HC.out.2.1 G8)
          have HD := Lib.hid (And.intro hd (And.intro (And.intro hco.1 (And.intro hco.2 (Rd.own o8))) hbl))
          clear d1 hcq hd hco hbl o8 G8 r8
          go_wp2
          try simp only [Exit.inBlock, Exit.then]
          refine bodyPost_ret (results_four rfl _ _ _) rfl ?_
          exact ⟨ks, ts, Ak, some ⟨g5, 0, none⟩, ck, c5, a, h, (by rw [HN.out]; rfl), ⟨hl, HD.out.1⟩, (by rw [HN.out]; exact HD.out.2.1), (by rw [HN.out]; exact hfl), HD.out.2.2⟩
    · have h1i : ¬ (1 : Int) < (n : Int) := by omega
      go_wp2_with fail
      refine (pick_any 12 _ _ _ _ r4 (by omega) (by omega)).mono ?_
      rintro e w8 ⟨u, rfl, u0, u1, r8, gg8⟩
      have o8 := own_only o4 gg8 hl3
      have G8 := only_trans G4 gg8
      clear gg8 r4 o4 G4
      by_cases hu : u = 0
      · subst hu
        go_wp2_with fail
        refine (one_any [-1, 9, 0] 3 rfl _ _ _ _ _ (r8.alloc _) (by omega) (by omega) (by omega) (alloc_at (by simp)) (by have := r8.lt; omega)).mono ?_
        rintro e w9 ⟨v, rfl, hmv, rw9, gw9⟩
        have hbv : -1 ≤ v ∧ v ≤ 9 := by simp only [List.mem_cons, List.not_mem_nil, or_false] at hmv; omega
        clear hmv
        have o9 := own_only (own_alloc o8 (.cells (ints [-1, 9, 0]).toArray 3)) gw9 hl3
        have G9 := only_trans (only_alloc G8 (.cells (ints [-1, 9, 0]).toArray 3)) gw9
        have hf0 := own_frozen o9 0
        obtain ⟨z0, hz0⟩ : ∃ z0, (ts)[0]? = some z0 := ⟨_, List.getElem?_eq_getElem (by rw [HN.out]; omega)⟩
        have hc0 : w9.cell? ⟨g5, 0, none⟩ = some (.int .i64 z0) := own_cell o9 (by rw [ints, List.getElem?_map, hz0]; rfl)
        clear hz0
        have O10 := own_put o9 0 (.int .i64 v)
        have G10 := only_set G9 (p := ⟨g5, 0, none⟩) (.inr hg5) (.int .i64 v)
        rw [ints_set] at O10
        have d1 := owz_only HC.out.1 G10 hl1
        have hcq := owz_caps d1
        have hd := And.intro hcq.1 (And.intro hcq.2 (Rd.ownz d1))
        have hco := own_caps O10
        have hbl := fin_below HC.out.2.2.1 HC.out.2.2.2 (only_trans HC.out.2.1 G10)
        have HD := Lib.hid (And.intro hd (And.intro (And.intro hco.1 (And.intro hco.2 (Rd.own O10))) hbl))
        clear d1 hcq hd hco hbl O10 G10 o9 G9 r8 rw9 gw9 o8 G8
        go_wp2
        try simp only [Exit.inBlock, Exit.then]
        refine bodyPost_ret (results_four rfl _ _ _) rfl ?_
        exact ⟨ks, (ts).set 0 v, Ak, some ⟨g5, 0, none⟩, ck, c5, a, h, (by rw [List.length_set, HN.out]; rfl), ⟨hl, HD.out.1⟩, (by rw [List.length_set, HN.out]; exact HD.out.2.1), (by rw [List.length_set, HN.out]; exact hfl), HD.out.2.2⟩
      · have hub : ((u : Int) == 0) = false := beq_eq_false_iff_ne.2 hu
        have d1 := owz_only HC.out.1 G8 hl1
        have hcq := owz_caps d1
        have hd := And.intro hcq.1 (And.intro hcq.2 (Rd.ownz d1))
        have hco := own_caps o8
        have hbl := fin_below HC.out.2.2.1 HC.out.2.2.2 (only_trans HC.out.2.1 G8)
        have HD := Lib.hid (And.intro hd (And.intro (And.intro hco.1 (And.intro hco.2 (Rd.own o8))) hbl))
        clear d1 hcq hd hco hbl o8 G8 r8
        go_wp2
        try simp only [Exit.inBlock, Exit.then]
        refine bodyPost_ret (results_four rfl _ _ _) rfl ?_
        exact ⟨ks, ts, Ak, some ⟨g5, 0, none⟩, ck, c5, a, h, (by rw [HN.out]; rfl), ⟨hl, HD.out.1⟩, (by rw [HN.out]; exact HD.out.2.1), (by rw [HN.out]; exact hfl), HD.out.2.2⟩

end Go.Proofs.Ytjjddamblijffab

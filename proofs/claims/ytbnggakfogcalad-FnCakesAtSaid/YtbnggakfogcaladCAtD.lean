/- The generator of FnCakesAt's arguments by a contract. -/
import Derived.Test.YtbnggakfogcaladFDraws
namespace Go.Proofs.Ytbnggakfogcalad
open Go.RowKit
set_option linter.unusedVariables false
set_option linter.unusedSimpArgs false
theorem results_five {fn : Func} {t u v x y : Tmp} (h : fn.results = #[.tmp t, .tmp u, .tmp v, .tmp x, .tmp y]) (tmps : Array Value) (P : Program) (w : World) :
    (results fn tmps).run P w = .ok (.tuple #[tmps.getD t undef, tmps.getD u undef, tmps.getD v undef, tmps.getD x undef, tmps.getD y undef]) w := by
  simp [results, h]
def dCakesAtPost (w : World) (e : Ending) (w' : World) : Prop := ∃ (ff : List (List Bool)) (Af : Option Addr) (cf : Nat) (a b x y : Int), e = .returned (.tuple #[.slice Af ff.length cf, .int .i64 a, .int .i64 b, .int .i64 x, .int .i64 y]) ∧ DF w' ff Af cf ∧ Below w.heap.size w w'
set_option maxRecDepth 100000 in
set_option maxHeartbeats 2000000 in
theorem dCakesAt (cs : List Int) (A : Option Addr) (c : Nat) (w : World) (hr : Rd w w.heap.size A (bytes cs)) (hb : ∀ z ∈ cs, 0 ≤ z ∧ z ≤ 255) (hn : cs.length ≤ c) (hm : c ≤ maxLen) :
    Calls Try.prog 47 #[.slice A cs.length c] w (dCakesAtPost w) := by
  go_enter Try.func47, Try.ntmps47
  go_wp2_with fail
  refine (newReader_any _ _ _ _ hr hb hn hm).mono ?_
  rintro e w1 ⟨g, rfl, r1, b1⟩
  have hB := r1.1
  have hsz := b1.size
  have hltg := r1.lt
  go_wp2_with fail
  refine (anyField_any _ _ _ _ r1 (by omega) 9 (by omega) (by omega)).mono ?_
  rintro e w2 ⟨ff, Af, cf, q, rfl, hpl, hpc, hq, rw2, gw2, HCL⟩
  go_wp2_with fail
  refine (one_any [2, 1, 3, 2, 0, 5] 6 rfl _ _ _ _ _ (rw2.alloc _) (by omega) (by omega) (by omega) (alloc_at (by simp)) (by have := rw2.lt; omega)).mono ?_
  rintro e w3 ⟨a, rfl, hma, rw3, gw3⟩
  have hba : 0 ≤ a ∧ a ≤ 5 := by simp only [List.mem_cons, List.not_mem_nil, or_false] at hma; omega
  clear hma
  go_wp2_with fail
  refine (one_any [2, 1, 2, 3, 4, 5] 6 rfl _ _ _ _ _ (rw3.alloc _) (by omega) (by omega) (by omega) (alloc_at (by simp)) (by have := rw3.lt; omega)).mono ?_
  rintro e w4 ⟨b, rfl, hmb, rw4, gw4⟩
  have hbb : 1 ≤ b ∧ b ≤ 5 := by simp only [List.mem_cons, List.not_mem_nil, or_false] at hmb; omega
  clear hmb
  by_cases ha0 : a = 0
  · subst ha0
    by_cases hb1 : b = 1
    · subst hb1
      go_wp2_with fail
      refine (one_any [0, 1, 0, 4] 4 rfl _ _ _ _ _ (rw4.alloc _) (by omega) (by omega) (by omega) (alloc_at (by simp)) (by have := rw4.lt; omega)).mono ?_
      rintro e w5 ⟨x, rfl, hmx, rw5, gw5⟩
      have hbx : -10 ≤ x ∧ x ≤ 20 := by simp only [List.mem_cons, List.not_mem_nil, or_false] at hmx; omega
      clear hmx
      go_wp2_with fail
      refine (one_any [0, 1, 0, -1] 4 rfl _ _ _ _ _ (rw5.alloc _) (by omega) (by omega) (by omega) (alloc_at (by simp)) (by have := rw5.lt; omega)).mono ?_
      rintro e w6 ⟨y, rfl, hmy, rw6, gw6⟩
      have hby : -10 ≤ y ∧ y ≤ 20 := by simp only [List.mem_cons, List.not_mem_nil, or_false] at hmy; omega
      clear hmy
      have hdp : DF w6 ff Af cf := ⟨hpl, hpc.1, hpc.2, HCL.out _ (only_trans (only_alloc (only_trans (only_alloc (only_trans (only_alloc (only_trans (only_alloc (only_refl _ _) _) gw3) _) gw4) _) gw5) _) gw6)⟩
      have hbl := fin_below b1 r1 (only_trans (only_alloc (only_trans (only_alloc (only_trans (only_alloc (only_trans (only_alloc (only_trans (only_refl _ _) gw2) _) gw3) _) gw4) _) gw5) _) gw6)
      have HDP := Lib.hid hdp
      have HBL := Lib.hid hbl
      clear hdp hbl gw3 gw4 gw5 gw6 rw2 rw3 rw4 rw5 rw6 gw2
      go_wp2
      try simp only [Exit.inBlock, Exit.then]
      refine bodyPost_ret (results_five rfl _ _ _) rfl ?_
      exact ⟨ff, Af, cf, 0, 1, x, y, rfl, HDP.out, HBL.out⟩
    · have hb2 : 1 < b := by omega
      clear hb1
      go_wp2_with fail
      refine (one_any [0, 1, 0, 4] 4 rfl _ _ _ _ _ (rw4.alloc _) (by omega) (by omega) (by omega) (alloc_at (by simp)) (by have := rw4.lt; omega)).mono ?_
      rintro e w5 ⟨x, rfl, hmx, rw5, gw5⟩
      have hbx : -10 ≤ x ∧ x ≤ 20 := by simp only [List.mem_cons, List.not_mem_nil, or_false] at hmx; omega
      clear hmx
      go_wp2_with fail
      refine (one_any [0, 1, b - 1, -1] 4 rfl _ _ _ _ _ (rw5.alloc _) (by omega) (by omega) (by omega) (alloc_at (by simp)) (by have := rw5.lt; omega)).mono ?_
      rintro e w6 ⟨y, rfl, hmy, rw6, gw6⟩
      have hby : -10 ≤ y ∧ y ≤ 20 := by simp only [List.mem_cons, List.not_mem_nil, or_false] at hmy; omega
      clear hmy
      have hdp : DF w6 ff Af cf := ⟨hpl, hpc.1, hpc.2, HCL.out _ (only_trans (only_alloc (only_trans (only_alloc (only_trans (only_alloc (only_trans (only_alloc (only_refl _ _) _) gw3) _) gw4) _) gw5) _) gw6)⟩
      have hbl := fin_below b1 r1 (only_trans (only_alloc (only_trans (only_alloc (only_trans (only_alloc (only_trans (only_alloc (only_trans (only_refl _ _) gw2) _) gw3) _) gw4) _) gw5) _) gw6)
      have HDP := Lib.hid hdp
      have HBL := Lib.hid hbl
      clear hdp hbl gw3 gw4 gw5 gw6 rw2 rw3 rw4 rw5 rw6 gw2
      go_wp2
      try simp only [Exit.inBlock, Exit.then]
      refine bodyPost_ret (results_five rfl _ _ _) rfl ?_
      exact ⟨ff, Af, cf, 0, b, x, y, rfl, HDP.out, HBL.out⟩
  · by_cases ha1 : a = 1
    · subst ha1
      by_cases hb1 : b = 1
      · subst hb1
        go_wp2_with fail
        refine (one_any [0, 1, 0, 4] 4 rfl _ _ _ _ _ (rw4.alloc _) (by omega) (by omega) (by omega) (alloc_at (by simp)) (by have := rw4.lt; omega)).mono ?_
        rintro e w5 ⟨x, rfl, hmx, rw5, gw5⟩
        have hbx : -10 ≤ x ∧ x ≤ 20 := by simp only [List.mem_cons, List.not_mem_nil, or_false] at hmx; omega
        clear hmx
        go_wp2_with fail
        refine (one_any [0, 1, 0, -1] 4 rfl _ _ _ _ _ (rw5.alloc _) (by omega) (by omega) (by omega) (alloc_at (by simp)) (by have := rw5.lt; omega)).mono ?_
        rintro e w6 ⟨y, rfl, hmy, rw6, gw6⟩
        have hby : -10 ≤ y ∧ y ≤ 20 := by simp only [List.mem_cons, List.not_mem_nil, or_false] at hmy; omega
        clear hmy
        have hdp : DF w6 ff Af cf := ⟨hpl, hpc.1, hpc.2, HCL.out _ (only_trans (only_alloc (only_trans (only_alloc (only_trans (only_alloc (only_trans (only_alloc (only_refl _ _) _) gw3) _) gw4) _) gw5) _) gw6)⟩
        have hbl := fin_below b1 r1 (only_trans (only_alloc (only_trans (only_alloc (only_trans (only_alloc (only_trans (only_alloc (only_trans (only_refl _ _) gw2) _) gw3) _) gw4) _) gw5) _) gw6)
        have HDP := Lib.hid hdp
        have HBL := Lib.hid hbl
        clear hdp hbl gw3 gw4 gw5 gw6 rw2 rw3 rw4 rw5 rw6 gw2
        go_wp2
        try simp only [Exit.inBlock, Exit.then]
        refine bodyPost_ret (results_five rfl _ _ _) rfl ?_
        exact ⟨ff, Af, cf, 1, 1, x, y, rfl, HDP.out, HBL.out⟩
      · have hb2 : 1 < b := by omega
        clear hb1
        go_wp2_with fail
        refine (one_any [0, 1, 0, 4] 4 rfl _ _ _ _ _ (rw4.alloc _) (by omega) (by omega) (by omega) (alloc_at (by simp)) (by have := rw4.lt; omega)).mono ?_
        rintro e w5 ⟨x, rfl, hmx, rw5, gw5⟩
        have hbx : -10 ≤ x ∧ x ≤ 20 := by simp only [List.mem_cons, List.not_mem_nil, or_false] at hmx; omega
        clear hmx
        go_wp2_with fail
        refine (one_any [0, 1, b - 1, -1] 4 rfl _ _ _ _ _ (rw5.alloc _) (by omega) (by omega) (by omega) (alloc_at (by simp)) (by have := rw5.lt; omega)).mono ?_
        rintro e w6 ⟨y, rfl, hmy, rw6, gw6⟩
        have hby : -10 ≤ y ∧ y ≤ 20 := by simp only [List.mem_cons, List.not_mem_nil, or_false] at hmy; omega
        clear hmy
        have hdp : DF w6 ff Af cf := ⟨hpl, hpc.1, hpc.2, HCL.out _ (only_trans (only_alloc (only_trans (only_alloc (only_trans (only_alloc (only_trans (only_alloc (only_refl _ _) _) gw3) _) gw4) _) gw5) _) gw6)⟩
        have hbl := fin_below b1 r1 (only_trans (only_alloc (only_trans (only_alloc (only_trans (only_alloc (only_trans (only_alloc (only_trans (only_refl _ _) gw2) _) gw3) _) gw4) _) gw5) _) gw6)
        have HDP := Lib.hid hdp
        have HBL := Lib.hid hbl
        clear hdp hbl gw3 gw4 gw5 gw6 rw2 rw3 rw4 rw5 rw6 gw2
        go_wp2
        try simp only [Exit.inBlock, Exit.then]
        refine bodyPost_ret (results_five rfl _ _ _) rfl ?_
        exact ⟨ff, Af, cf, 1, b, x, y, rfl, HDP.out, HBL.out⟩
    · have ha2 : 1 < a := by omega
      clear ha0 ha1
      by_cases hb1 : b = 1
      · subst hb1
        go_wp2_with fail
        refine (one_any [0, 1, a - 1, 4] 4 rfl _ _ _ _ _ (rw4.alloc _) (by omega) (by omega) (by omega) (alloc_at (by simp)) (by have := rw4.lt; omega)).mono ?_
        rintro e w5 ⟨x, rfl, hmx, rw5, gw5⟩
        have hbx : -10 ≤ x ∧ x ≤ 20 := by simp only [List.mem_cons, List.not_mem_nil, or_false] at hmx; omega
        clear hmx
        go_wp2_with fail
        refine (one_any [0, 1, 0, -1] 4 rfl _ _ _ _ _ (rw5.alloc _) (by omega) (by omega) (by omega) (alloc_at (by simp)) (by have := rw5.lt; omega)).mono ?_
        rintro e w6 ⟨y, rfl, hmy, rw6, gw6⟩
        have hby : -10 ≤ y ∧ y ≤ 20 := by simp only [List.mem_cons, List.not_mem_nil, or_false] at hmy; omega
        clear hmy
        have hdp : DF w6 ff Af cf := ⟨hpl, hpc.1, hpc.2, HCL.out _ (only_trans (only_alloc (only_trans (only_alloc (only_trans (only_alloc (only_trans (only_alloc (only_refl _ _) _) gw3) _) gw4) _) gw5) _) gw6)⟩
        have hbl := fin_below b1 r1 (only_trans (only_alloc (only_trans (only_alloc (only_trans (only_alloc (only_trans (only_alloc (only_trans (only_refl _ _) gw2) _) gw3) _) gw4) _) gw5) _) gw6)
        have HDP := Lib.hid hdp
        have HBL := Lib.hid hbl
        clear hdp hbl gw3 gw4 gw5 gw6 rw2 rw3 rw4 rw5 rw6 gw2
        go_wp2
        try simp only [Exit.inBlock, Exit.then]
        refine bodyPost_ret (results_five rfl _ _ _) rfl ?_
        exact ⟨ff, Af, cf, a, 1, x, y, rfl, HDP.out, HBL.out⟩
      · have hb2 : 1 < b := by omega
        clear hb1
        go_wp2_with fail
        refine (one_any [0, 1, a - 1, 4] 4 rfl _ _ _ _ _ (rw4.alloc _) (by omega) (by omega) (by omega) (alloc_at (by simp)) (by have := rw4.lt; omega)).mono ?_
        rintro e w5 ⟨x, rfl, hmx, rw5, gw5⟩
        have hbx : -10 ≤ x ∧ x ≤ 20 := by simp only [List.mem_cons, List.not_mem_nil, or_false] at hmx; omega
        clear hmx
        go_wp2_with fail
        refine (one_any [0, 1, b - 1, -1] 4 rfl _ _ _ _ _ (rw5.alloc _) (by omega) (by omega) (by omega) (alloc_at (by simp)) (by have := rw5.lt; omega)).mono ?_
        rintro e w6 ⟨y, rfl, hmy, rw6, gw6⟩
        have hby : -10 ≤ y ∧ y ≤ 20 := by simp only [List.mem_cons, List.not_mem_nil, or_false] at hmy; omega
        clear hmy
        have hdp : DF w6 ff Af cf := ⟨hpl, hpc.1, hpc.2, HCL.out _ (only_trans (only_alloc (only_trans (only_alloc (only_trans (only_alloc (only_trans (only_alloc (only_refl _ _) _) gw3) _) gw4) _) gw5) _) gw6)⟩
        have hbl := fin_below b1 r1 (only_trans (only_alloc (only_trans (only_alloc (only_trans (only_alloc (only_trans (only_alloc (only_trans (only_refl _ _) gw2) _) gw3) _) gw4) _) gw5) _) gw6)
        have HDP := Lib.hid hdp
        have HBL := Lib.hid hbl
        clear hdp hbl gw3 gw4 gw5 gw6 rw2 rw3 rw4 rw5 rw6 gw2
        go_wp2
        try simp only [Exit.inBlock, Exit.then]
        refine bodyPost_ret (results_five rfl _ _ _) rfl ?_
        exact ⟨ff, Af, cf, a, b, x, y, rfl, HDP.out, HBL.out⟩

end Go.Proofs.Ytbnggakfogcalad

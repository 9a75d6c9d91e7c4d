/- The law FnFillHouse: for every code it answers true, and the code reads as it read before. No condition. -/
import Derived.Test.YtbnggakfogcalaaHLaw
import Derived.Test.YtbnggakfogcalaaHDraws
import Derived.Test.YtbnggakfogcalaaLaw
namespace Go.Proofs.Ytbnggakfogcalaa
open Go.RowKit
set_option linter.unusedVariables false
set_option linter.unusedSimpArgs false

namespace fnFillHouse
open Go.ChangeShapes Go.WideShapes Go.ChangeAt Go.RowKit
set_option maxRecDepth 100000 in
set_option maxHeartbeats 800000 in
set_option maxRecDepth 100000 in
set_option maxRecDepth 100000 in
set_option maxHeartbeats 8000000 in
theorem walk (w : World) (cs : List Int) (Acs : Option Addr) (ccs : Nat) (hrcs : Rd w w.heap.size Acs (bytes cs)) (hbcs : ∀ z ∈ cs, 0 ≤ z ∧ z ≤ 255) (hlcs : cs.length ≤ ccs ∧ ccs ≤ maxLen) :
    Calls Try.prog 8 #[.slice Acs cs.length ccs] w fun e w' => e = .returned (.bool true) ∧ Below w.heap.size w w' := by
  by_cases hn : cs.length ≤ 1048576
  · go_enter Try.func8, Try.ntmps8
    go_wp2_with fail
    refine (dFillHouse _ _ _ _ hrcs hbcs hlcs.1 hlcs.2).mono ?_
    rintro e w1 ⟨a, b, n, rfl, hba, hbb, hbn, b1⟩
    obtain ⟨ts, hts⟩ : ∃ ts, ts = fillT a b n := ⟨_, rfl⟩
    have hrw := rows_or (pp := ts) (by rw [hts]; exact fillT_heap)
    have hql := hrw.1
    have HQR := hrw.2
    have HTS := Lib.hid hts
    clear hts hrw
    go_wp2_with fail
    refine (iFill_b a b n w1 HTS).mono ?_
    rintro e w2 ⟨A2, c2, xs2, rfl, o2, b2⟩
    go_wp2_with fail
    refine (sFill_b a b n w2 HTS).mono ?_
    rintro e w3 ⟨A3, c3, xs3, rfl, o3, b3⟩
    have r23 := o2.rd.up b3
    have bl3 : Below w.heap.size w w3 := (b1.trans (b2.mono b1.size)).trans (b3.mono (by have := b1.size; have := b2.size; omega))
    go_wp2_with fail
    refine (eqH_b ts A2 A3 c2 c3 w3 w3.heap.size r23 o3.rd hql HQR).mono ?_
    rintro e w4 ⟨rfl, b4⟩
    have r24 := r23.up b4
    have bl4 := bl3.trans (b4.mono bl3.size)
    clear o2 o3 b1 b2 b3 b4 r23 bl3
    by_cases h0 : ts.length = 0
    · have hz0 : ((ts.length : Int) == 0) = true := beq_iff_eq.2 (by omega)
      have HZ0 := Lib.hid h0
      clear h0
      go_wp2_with fail
      refine (sFill_b a b n w4 HTS).mono ?_
      rintro e w5 ⟨A5, c5, xs5, rfl, o5, b5⟩
      go_wp2_with fail
      refine (eqH_b ts A2 A5 c2 c5 w5 w5.heap.size (r24.up b5) o5.rd hql HQR).mono ?_
      rintro e w6 ⟨rfl, b6⟩
      have bl6 := bl4.trans ((b5.trans (b6.mono b5.size)).mono bl4.size)
      clear o5 b5 b6
      go_wp2
      go_ret
      exact ⟨rfl, bl6⟩
    · have hz0 : ((ts.length : Int) == 0) = false := beq_eq_false_iff_ne.2 (by omega)
      have hz1 : ¬ (ts.length : Int) = 0 := by omega
      rcases fillT_some (a := a) (b := b) (z := n) with h | ⟨W, D, n', rfl, rfl, rfl, hW, hD, hn', hts⟩
      · have := HTS.out
        rw [h] at this
        subst this
        exact absurd rfl h0
      rw [← HTS.out] at hts
      have hv : heapB ts = true := by rw [hts]; exact lay_heap hW hD hn'
      have hq4 : Pnd w4 w4.heap.size A2 ts := ⟨heap_pond hv, r24⟩
      have HLT : Hid (ts.length = D) := Lib.hid (by rw [hts]; exact layF_len W D n')
      have HWT : Hid (wide ts = W) := Lib.hid (by rw [hts]; exact layF_wide (by omega))
      have HNEAR : Hid (∀ x y : Nat, x < W → y < D → at2 ts (W - 1) (D - 1) ≤ at2 ts x y ∧ at2 ts x y ≤ at2 ts (W - 1) (D - 1) + 1) := Lib.hid fun x y hx hy => by
        rw [hts, lay_at2 hx hy, lay_at2 (by omega) (by omega)]
        exact lay_near hW.1 hD.1 hx hy
      have HZB : Hid (∀ x y : Nat, x < W → y < D → 0 ≤ at2 ts x y ∧ at2 ts x y ≤ 12) := Lib.hid fun x y hx hy => heap_at2 hv (by rw [HWT.out]; exact hx) (by rw [HLT.out]; exact hy)
      have HCN : Hid (∀ w', Below w4.heap.size w4 w' → Calls Try.prog 21 #[.slice A2 ts.length c2] w' fun e w'' => e = .returned (.int .i64 (n' : Nat)) ∧ w' = w'') := Lib.hid fun w' hb => by
        have h := iCakesH_any ts A2 c2 w' _ (r24.up hb)
        rw [cakesHT_ok hv, hts, lay_cakes hW hD n' hn', ← hts] at h
        exact h
      have HVH : Hid (∀ w', Below w4.heap.size w4 w' → Calls Try.prog 16 #[.slice A2 ts.length c2] w' fun e w'' => e = .returned (.bool true) ∧ w' = w'') := Lib.hid fun w' hb => by
        have h := iHeap_any ts A2 c2 w' _ (r24.up hb)
        rw [hv] at h
        exact h
      have HSUC : Hid (n' + 1 ≤ W * D * 12 → ∃ us : List (List Int), heapB us = true ∧ (∀ w' : World, Calls Try.prog 33 #[.int .i64 (W : Nat), .int .i64 (D : Nat), .int .i64 ((n' : Int) + 1)] w' (OutGr us w')) ∧ ∀ w', Below w4.heap.size w4 w' → Calls Try.prog 26 #[.slice A2 ts.length c2, .int .i64 ((n' % (W * D) : Nat) : Int)] w' (OutGr us w')) := Lib.hid fun hs => by
        have hm : 0 < W * D := Nat.mul_pos (by omega) (by omega)
        have hk : n' % (W * D) < W * D := Nat.mod_lt _ hm
        refine ⟨layF W D (n' + 1), lay_heap hW hD hs, fun w' => ?_, fun w' hb => ?_⟩
        · have h := iFill_any (W : Int) (D : Int) ((n' + 1 : Nat) : Int) w'
          rw [fillT_ok hW hD hs] at h
          exact h
        · have h := iAdd_any ts A2 c2 w' (r24.up hb) ((n' % (W * D) : Nat) : Int)
          have ht := lay_thk (n := n') (k := n' % (W * D)) (show 0 < W by omega) (show 0 < D by omega) hk
          have hcn : n' % (W * D) < cnt ts := by rw [hts, lay_cnt (by omega)]; exact hk
          have h12 : thk ts (n' % (W * D)) ≠ 12 := by
            rw [hts, ht, if_neg (by omega)]
            have h2 := Nat.div_add_mod n' (W * D)
            have h3 : n' / (W * D) < 12 := by
              rcases Nat.lt_or_ge (n' / (W * D)) 12 with h4 | h4
              · exact h4
              · have h5 : W * D * 12 ≤ W * D * (n' / (W * D)) := Nat.mul_le_mul_left _ h4
                omega
            generalize n' / (W * D) = q at *
            omega
          rw [addT_ok hv hcn h12, hts, lay_succ hW hD hs, ← hts] at h
          exact h
      have hM1 : 1 * 1 ≤ W * D := Nat.mul_le_mul hW.1 hD.1
      have hM2 : W * D ≤ 9 * 9 := Nat.mul_le_mul hW.2 hD.2
      have e2 := natW (a := W) (b := D) (by omega)
      have r2 : (n' : Int) % ((W * D : Nat) : Int) = ((n' % (W * D) : Nat) : Int) := (Int.natCast_emod _ _).symm
      have r3 : (n' : Int).tmod ((W * D : Nat) : Int) = ((n' % (W * D) : Nat) : Int) := by rw [Int.tmod_eq_emod_of_nonneg (by omega)]; exact r2
      have HB4 := Lib.hid bl4
      clear hts hv h0 r24 bl4
      obtain ⟨bq, oq, A0q, c0q, rfl, _, h000⟩ := hq4.row0
      rw [HWT.out] at h000
      have H00 := Lib.hid h000
      clear h000
      generalize n' % (W * D) = R at *
      generalize hMM : W * D = M at *
      have i1 : ((M : Int) == 0) = false := beq_eq_false_iff_ne.2 (by omega)
      have i2 : ¬ M = 0 := by omega
      have i3 : ¬ (M : Int) = 0 := by omega
      have e6 : IntKind.i64.wrap ((M : Int) * 12) = (M : Int) * 12 := IntWalk.i64_in _ (by omega)
      clear hMM
      obtain ⟨D1, hD1⟩ : ∃ D1, D1 = D - 1 := ⟨_, rfl⟩
      obtain ⟨W1, hW1⟩ : ∃ W1, W1 = W - 1 := ⟨_, rfl⟩
      have eD : IntKind.i64.wrap ((D : Int) - 1) = (D1 : Int) := by rw [show (D : Int) - 1 = (D1 : Int) by omega]; exact IntWalk.i64_in _ (by omega)
      have eW : IntKind.i64.wrap ((W : Int) - 1) = (W1 : Int) := by rw [show (W : Int) - 1 = (W1 : Int) by omega]; exact IntWalk.i64_in _ (by omega)
      rw [← hD1, ← hW1] at HNEAR
      have hD1l : D1 < D := by omega
      have hW1l : W1 < W := by omega
      clear hD1 hW1
      go_wp2
      go_loopw [7] (fun i wr => ∃ y n : Nat, y ≤ D ∧ i = .int .i64 y ∧ wr = w4.drewN n) (fun i _ => D - (intOf i).toNat)
      case atStart => exact ⟨0, 0, Nat.zero_le _, rfl, rfl⟩
      case round =>
        obtain ⟨y, n, hy, rfl, hwr⟩ := hrel
        have HW := Lib.hid hwr
        by_cases hlt : y < D
        · clear hwr
          go_wp2
          go_loopw [8] (fun i wr => ∃ x n : Nat, x ≤ W ∧ i = .int .i64 x ∧ wr = w4.drewN n) (fun i _ => W - (intOf i).toNat)
          case atStart => exact ⟨0, n, Nat.zero_le _, rfl, HW.out⟩
          case round =>
            clear HW
            obtain ⟨x, n, hx, rfl, hwr⟩ := hrel
            have hqr : Pnd wr wr.heap.size (some ⟨bq, oq, none⟩) ts := by rw [hwr]; exact hq4.drewN n
            have HW := Lib.hid hwr
            clear hwr
            by_cases hxt : x < W
            · obtain ⟨b5, o5, A5, c5, b6, o6, c6, e6', h0q, hqy, hqx⟩ := hqr.at_ (x := x) (y := y) (by rw [HWT.out]; exact hxt) (by rw [HLT.out]; exact hlt)
              injection e6' with e6'
              injection e6' with e7 e8
              subst e7 e8
              obtain ⟨b7, o7, A7, c7, b8, o8, c8, e6', h0q', hqy', hqx'⟩ := hqr.at_ (x := W1) (y := D1) (by rw [HWT.out]; exact hW1l) (by rw [HLT.out]; exact hD1l)
              injection e6' with e6'
              injection e6' with e7 e8
              subst e7 e8
              rw [HWT.out] at hqy hqy'
              have hne := HNEAR.out x y hxt hlt
              have hz0 := HZB.out W1 D1 hW1l hD1l
              have hql1 : y < ts.length := by rw [HLT.out]; exact hlt
              have hql2 : D1 < ts.length := by rw [HLT.out]; exact hD1l
              clear h0q h0q' hqr
              generalize at2 ts x y = z at *
              generalize at2 ts W1 D1 = z0 at *
              have e9 : IntKind.i64.wrap (z0 + 1) = z0 + 1 := IntWalk.i64_in _ (by omega)
              have hn1 : ¬ z < z0 := by omega
              have hn2 : ¬ z0 + 1 < z := by omega
              have hnb1 : decide (z < z0) = false := decide_eq_false hn1
              have hnb2 : decide (z0 + 1 < z) = false := decide_eq_false hn2
              have hltI : (x : Int) < (W : Int) := by omega
              go_wp2
              refine wp_region_quiet_lit (by kernel_rfl) (by kernel_rfl) ?_
              repeat (go_big_quiet_step (fail))
              refine wpQuiet_nil ?_
              intro _ hw'
              obtain ⟨nq, hw''⟩ := hw'
              subst hw''
              go_wp2
              go_roundw
              case rel => exact ⟨x + 1, _, by omega, by go_num, by rw [HW.out, drewN_add]⟩
              case measure => simp [intOf]; omega
            · have hxe : x = W := by omega
              clear hqr
              go_wp2
              go_roundw
              case rel => exact ⟨y + 1, n, by omega, by go_num, HW.out⟩
              case measure => simp [intOf]; omega
        · have hye : y = D := by omega
          have HBR4 : Hid (Below w4.heap.size w4 wr) := Lib.hid (by rw [hwr]; exact below_drewN (Below.refl _ _) n)
          have HBR : Hid (Below w.heap.size w wr) := Lib.hid (by rw [hwr]; exact below_drewN HB4.out n)
          have h00 : wr.cell? ⟨bq, oq, none⟩ = some (.slice A0q W c0q) := by rw [hwr]; exact H00.out
          have HCN := Lib.hid (fun w' (hb : Below wr.heap.size wr w') => HCN.out w' (HBR4.out.trans (hb.mono HBR4.out.size)))
          have HVH := Lib.hid (fun w' (hb : Below wr.heap.size wr w') => HVH.out w' (HBR4.out.trans (hb.mono HBR4.out.size)))
          clear hwr hq4 eD eW HNEAR HZB
          by_cases hs : n' + 1 ≤ M * 12
          · obtain ⟨us, hvu, hf1, hf2⟩ := HSUC.out hs
            have hru := rows_or (pp := us) (.inr hvu)
            have HRU := hru.2
            have hru1 := hru.1
            have HFN := Lib.hid hf1
            have HAD := Lib.hid (fun w' (hb : Below wr.heap.size wr w') => hf2 w' (HBR4.out.trans (hb.mono HBR4.out.size)))
            have hsI : (n' : Int) < (M : Int) * 12 := by omega
            have hsd : decide ((n' : Int) < (M : Int) * 12) = true := decide_eq_true hsI
            have e10 : IntKind.i64.wrap ((n' : Int) + 1) = (n' : Int) + 1 := IntWalk.i64_in _ (by omega)
            clear hru hvu hf1 hf2 HSUC
            go_wp2
            refine wp_region_noPanic ?_
            refine wp_region_held_drew (S := fun w' => w'.cell? ⟨bq, oq, none⟩ = some (.slice A0q W c0q)) (by kernel_rfl) ?_ (fun hH0 => ?_)
            · try dsimp only
              go_keep
            refine wpAnyH_take (i := 0) (v := ?_) (by simp only [List.getElem?_toArray, List.getElem?_cons_succ, List.getElem?_cons_zero]; exact rfl) (by kernel_rfl) (by kernel_rfl) (by kernel_rfl) (by exact fun _ _ _ h => h) (Or.inl ⟨by rfl, ?_⟩) (by assumption) ?_
            rotate_left 1
            · intro w hSw
              try dsimp only at hSw
              go_simp
              try with_reducible rfl
            try simp only [Act.put, List.setIfInBounds_toArray, List.set_cons_zero, List.set_cons_succ]
            refine wpAnyH_take (i := 1) (v := ?_) (by simp only [List.getElem?_toArray, List.getElem?_cons_succ, List.getElem?_cons_zero]; exact rfl) (by kernel_rfl) (by kernel_rfl) (by kernel_rfl) (by exact fun _ _ _ h => h) (Or.inl ⟨by rfl, ?_⟩) (by assumption) ?_
            rotate_left 1
            · intro w hSw
              try dsimp only at hSw
              go_simp
              try with_reducible rfl
            try simp only [Act.put, List.setIfInBounds_toArray, List.set_cons_zero, List.set_cons_succ]
            refine wpAnyH_take (i := 2) (v := ?_) (by simp only [List.getElem?_toArray, List.getElem?_cons_succ, List.getElem?_cons_zero]; exact rfl) (by kernel_rfl) (by kernel_rfl) (by kernel_rfl) (by exact fun _ _ _ h => h) (Or.inl ⟨by rfl, ?_⟩) (by assumption) ?_
            rotate_left 1
            · intro w hSw
              try dsimp only at hSw
              go_simp
              try with_reducible rfl
            try simp only [Act.put, List.setIfInBounds_toArray, List.set_cons_zero, List.set_cons_succ]
            refine wpAnyH_take (i := 3) (v := ?_) (by simp only [List.getElem?_toArray, List.getElem?_cons_succ, List.getElem?_cons_zero]; exact rfl) (by kernel_rfl) (by kernel_rfl) (by kernel_rfl) (by exact fun _ _ _ h => h) (Or.inl ⟨by rfl, ?_⟩) (by assumption) ?_
            rotate_left 1
            · intro w hSw
              try dsimp only at hSw
              go_simp
              try with_reducible rfl
            try simp only [Act.put, List.setIfInBounds_toArray, List.set_cons_zero, List.set_cons_succ]
            refine wpAnyH_take (i := 4) (v := ?_) (by simp only [List.getElem?_toArray, List.getElem?_cons_succ, List.getElem?_cons_zero]; exact rfl) (by kernel_rfl) (by kernel_rfl) (by kernel_rfl) (by exact fun _ _ _ h => h) (Or.inl ⟨by rfl, ?_⟩) (by assumption) ?_
            rotate_left 1
            · intro w hSw
              try dsimp only at hSw
              go_simp
              try with_reducible rfl
            try simp only [Act.put, List.setIfInBounds_toArray, List.set_cons_zero, List.set_cons_succ]
            refine wpAnyH_take (i := 5) (v := ?_) (by simp only [List.getElem?_toArray, List.getElem?_cons_succ, List.getElem?_cons_zero]; exact rfl) (by kernel_rfl) (by kernel_rfl) (by kernel_rfl) (by exact fun _ _ _ h => h) (Or.inl ⟨by rfl, ?_⟩) (by assumption) ?_
            rotate_left 1
            · intro w hSw
              try dsimp only at hSw
              go_simp
              try with_reducible rfl
            try simp only [Act.put, List.setIfInBounds_toArray, List.set_cons_zero, List.set_cons_succ]
            refine wpAnyH_take (i := 6) (v := ?_) (by simp only [List.getElem?_toArray, List.getElem?_cons_succ, List.getElem?_cons_zero]; exact rfl) (by kernel_rfl) (by kernel_rfl) (by kernel_rfl) (by exact fun _ _ _ h => h) (Or.inl ⟨by rfl, ?_⟩) (by assumption) ?_
            rotate_left 1
            · intro w hSw
              try dsimp only at hSw
              go_simp
              try with_reducible rfl
            try simp only [Act.put, List.setIfInBounds_toArray, List.set_cons_zero, List.set_cons_succ]
            refine wpAnyH_take (i := 7) (v := ?_) (by simp only [List.getElem?_toArray, List.getElem?_cons_succ, List.getElem?_cons_zero]; exact rfl) (by kernel_rfl) (by kernel_rfl) (by kernel_rfl) (by exact fun _ _ _ h => h) (Or.inl ⟨by rfl, ?_⟩) (by assumption) ?_
            rotate_left 1
            · intro w hSw
              try dsimp only at hSw
              go_simp
              try with_reducible rfl
            try simp only [Act.put, List.setIfInBounds_toArray, List.set_cons_zero, List.set_cons_succ]
            refine wpAnyH_take (i := 8) (v := ?_) (by simp only [List.getElem?_toArray, List.getElem?_cons_succ, List.getElem?_cons_zero]; exact rfl) (by kernel_rfl) (by kernel_rfl) (by kernel_rfl) (by exact fun _ _ _ h => h) (Or.inl ⟨by rfl, ?_⟩) (by assumption) ?_
            rotate_left 1
            · intro w hSw
              try dsimp only at hSw
              go_simp
              try with_reducible rfl
            try simp only [Act.put, List.setIfInBounds_toArray, List.set_cons_zero, List.set_cons_succ]
            refine wpAnyH_take (i := 9) (v := ?_) (by simp only [List.getElem?_toArray, List.getElem?_cons_succ, List.getElem?_cons_zero]; exact rfl) (by kernel_rfl) (by kernel_rfl) (by kernel_rfl) (by exact fun _ _ _ h => h) (Or.inl ⟨by rfl, ?_⟩) (by assumption) ?_
            rotate_left 1
            · intro w hSw
              try dsimp only at hSw
              go_simp
              try with_reducible rfl
            try simp only [Act.put, List.setIfInBounds_toArray, List.set_cons_zero, List.set_cons_succ]
            refine wpAnyH_take (i := 10) (v := ?_) (by simp only [List.getElem?_toArray, List.getElem?_cons_succ, List.getElem?_cons_zero]; exact rfl) (by kernel_rfl) (by kernel_rfl) (by kernel_rfl) (by exact fun _ _ _ h => h) (Or.inl ⟨by rfl, ?_⟩) (by assumption) ?_
            rotate_left 1
            · intro w hSw
              try dsimp only at hSw
              go_simp
              try with_reducible rfl
            try simp only [Act.put, List.setIfInBounds_toArray, List.set_cons_zero, List.set_cons_succ]
            refine wpAnyH_take (i := 12) (v := ?_) (by simp only [List.getElem?_toArray, List.getElem?_cons_succ, List.getElem?_cons_zero]; exact rfl) (by kernel_rfl) (by kernel_rfl) (by kernel_rfl) (by exact fun _ _ _ h => h) (Or.inl ⟨by rfl, ?_⟩) (by assumption) ?_
            rotate_left 1
            · intro w hSw
              try dsimp only at hSw
              go_simp
              try with_reducible rfl
            try simp only [Act.put, List.setIfInBounds_toArray, List.set_cons_zero, List.set_cons_succ]
            refine wpAnyH_take (i := 13) (v := ?_) (by simp only [List.getElem?_toArray, List.getElem?_cons_succ, List.getElem?_cons_zero]; exact rfl) (by kernel_rfl) (by kernel_rfl) (by kernel_rfl) (by exact fun _ _ _ h => h) (Or.inl ⟨by rfl, ?_⟩) (by assumption) ?_
            rotate_left 1
            · intro w hSw
              try dsimp only at hSw
              go_simp
              try with_reducible rfl
            try simp only [Act.put, List.setIfInBounds_toArray, List.set_cons_zero, List.set_cons_succ]
            refine wpAnyH_take (i := 14) (v := ?_) (by simp only [List.getElem?_toArray, List.getElem?_cons_succ, List.getElem?_cons_zero]; exact rfl) (by kernel_rfl) (by kernel_rfl) (by kernel_rfl) (by exact fun _ _ _ h => h) (Or.inl ⟨by rfl, ?_⟩) (by assumption) ?_
            rotate_left 1
            · intro w hSw
              try dsimp only at hSw
              go_simp
              try with_reducible rfl
            try simp only [Act.put, List.setIfInBounds_toArray, List.set_cons_zero, List.set_cons_succ]
            refine wpAnyH_take (i := 15) (v := ?_) (by simp only [List.getElem?_toArray, List.getElem?_cons_succ, List.getElem?_cons_zero]; exact rfl) (by kernel_rfl) (by kernel_rfl) (by kernel_rfl) (by exact fun _ _ _ h => h) (Or.inl ⟨by rfl, ?_⟩) (by assumption) ?_
            rotate_left 1
            · intro w hSw
              try dsimp only at hSw
              go_simp
              try with_reducible rfl
            try simp only [Act.put, List.setIfInBounds_toArray, List.set_cons_zero, List.set_cons_succ]
            refine wpAnyH_take (i := 16) (v := ?_) (by simp only [List.getElem?_toArray, List.getElem?_cons_succ, List.getElem?_cons_zero]; exact rfl) (by kernel_rfl) (by kernel_rfl) (by kernel_rfl) (by exact fun _ _ _ h => h) (Or.inl ⟨by rfl, ?_⟩) (by assumption) ?_
            rotate_left 1
            · intro w hSw
              try dsimp only at hSw
              go_simp
              try with_reducible rfl
            try simp only [Act.put, List.setIfInBounds_toArray, List.set_cons_zero, List.set_cons_succ]
            refine wpAnyH_take (i := 17) (v := ?_) (by simp only [List.getElem?_toArray, List.getElem?_cons_succ, List.getElem?_cons_zero]; exact rfl) (by kernel_rfl) (by kernel_rfl) (by kernel_rfl) (by exact fun _ _ _ h => h) (Or.inl ⟨by rfl, ?_⟩) (by assumption) ?_
            rotate_left 1
            · intro w hSw
              try dsimp only at hSw
              go_simp
              try with_reducible rfl
            try simp only [Act.put, List.setIfInBounds_toArray, List.set_cons_zero, List.set_cons_succ]
            refine wpAnyH_ready (rs := [11]) (by kernel_rfl) (by simp) ?_
            refine AllReadyH.cons (by simp only [List.getElem?_toArray, List.getElem?_cons_succ, List.getElem?_cons_zero]; exact rfl) (fun K hK => ?_) ?_
            · go_simp
              go_wp2_with (go_at_call 33; refine (HFN.out _).mono ?_; rintro e w5 ⟨A5, c5, xs5, rfl, o5, b5⟩; have hb5 : Below wr.heap.size wr w5 := (below_drewN (Below.refl wr.heap.size wr) 1).trans b5; have k1 := (hb5.cell (World.block_lt_of_cell? _ _ h00)).trans h00)
              refine hK.out _ _ ?_ (fun hH23 => ?_)
              · try dsimp only
                go_keep
              clear hK K hH0
              try simp only [Act.put, List.setIfInBounds_toArray, List.set_cons_zero, List.set_cons_succ]
              refine wpAnyH_ready (rs := [18]) (by kernel_rfl) (by simp) ?_
              refine AllReadyH.cons (by simp only [List.getElem?_toArray, List.getElem?_cons_succ, List.getElem?_cons_zero]; exact rfl) (fun K hK => ?_) ?_
              · go_simp
                go_wp2_with (go_at_call 26; refine (HAD.out _ hb5).mono ?_; rintro e w6 ⟨A6, c6, xs6, rfl, o6, b6⟩; have hb6 : Below wr.heap.size wr w6 := hb5.trans (b6.mono hb5.size); have k2 := (hb6.cell (World.block_lt_of_cell? _ _ h00)).trans h00)
                refine hK.out _ _ ?_ (fun hH24 => ?_)
                · try dsimp only
                  go_keep
                clear hK K hH23
                try simp only [Act.put, List.setIfInBounds_toArray, List.set_cons_zero, List.set_cons_succ]
                refine wpAnyH_ready (rs := [19]) (by kernel_rfl) (by simp) ?_
                refine AllReadyH.cons (by simp only [List.getElem?_toArray, List.getElem?_cons_succ, List.getElem?_cons_zero]; exact rfl) (fun K hK => ?_) ?_
                · go_simp
                  go_wp2_with (go_at_call 27; refine (eqH_b us A5 A6 c5 c6 w6 w6.heap.size (o5.rd.up b6) o6.rd hru1 HRU).mono ?_; rintro e w7 ⟨rfl, b7⟩; have hb7 : Below wr.heap.size wr w7 := hb6.trans (b7.mono hb6.size); have k3 := (hb7.cell (World.block_lt_of_cell? _ _ h00)).trans h00)
                  refine hK.out _ _ ?_ (fun hH25 => ?_)
                  · try dsimp only
                    go_keep
                  clear hK K hH24
                  try simp only [Act.put, List.setIfInBounds_toArray, List.set_cons_zero, List.set_cons_succ]
                  refine wpAnyH_take (i := 20) (v := ?_) (by simp only [List.getElem?_toArray, List.getElem?_cons_succ, List.getElem?_cons_zero]; exact rfl) (by kernel_rfl) (by kernel_rfl) (by kernel_rfl) (by exact fun _ _ _ h => h) (Or.inl ⟨by rfl, ?_⟩) (by assumption) ?_
                  rotate_left 1
                  · intro w hSw
                    try dsimp only at hSw
                    go_simp
                    try with_reducible rfl
                  try simp only [Act.put, List.setIfInBounds_toArray, List.set_cons_zero, List.set_cons_succ]
                  refine wpAnyH_take (i := 21) (v := ?_) (by simp only [List.getElem?_toArray, List.getElem?_cons_succ, List.getElem?_cons_zero]; exact rfl) (by kernel_rfl) (by kernel_rfl) (by kernel_rfl) (by exact fun _ _ _ h => h) (Or.inl ⟨by rfl, ?_⟩) (by assumption) ?_
                  rotate_left 1
                  · intro w hSw
                    try dsimp only at hSw
                    go_simp
                    try with_reducible rfl
                  try simp only [Act.put, List.setIfInBounds_toArray, List.set_cons_zero, List.set_cons_succ]
                  refine wpAnyH_done (by kernel_rfl) ?_ _
                  refine NoPanic.normal ?_
                  have HB7 := Lib.hid (hb7)
                  go_wp2_with fail
                  refine (HCN.out _ HB7.out).mono ?_
                  rintro e w' ⟨rfl, rfl⟩
                  go_wp2_with fail
                  refine (HVH.out _ HB7.out).mono ?_
                  rintro e w' ⟨rfl, rfl⟩
                  have bl7 := HBR.out.trans (HB7.out.mono HBR.out.size)
                  go_wp2
                  go_ret
                  exact ⟨rfl, bl7⟩
                exact AllReadyH.nil
              exact AllReadyH.nil
            exact AllReadyH.nil
          · have hsI : ¬ (n' : Int) < (M : Int) * 12 := by omega
            have hsd : decide ((n' : Int) < (M : Int) * 12) = false := decide_eq_false hsI
            clear HSUC
            go_wp2
            refine wp_region_noPanic ?_
            refine wp_region_held_drew (S := fun w' => w'.cell? ⟨bq, oq, none⟩ = some (.slice A0q W c0q)) (by kernel_rfl) ?_ (fun hH0 => ?_)
            · try dsimp only
              go_keep
            refine wpAnyH_take (i := 0) (v := ?_) (by simp only [List.getElem?_toArray, List.getElem?_cons_succ, List.getElem?_cons_zero]; exact rfl) (by kernel_rfl) (by kernel_rfl) (by kernel_rfl) (by exact fun _ _ _ h => h) (Or.inl ⟨by rfl, ?_⟩) (by assumption) ?_
            rotate_left 1
            · intro w hSw
              try dsimp only at hSw
              go_simp
              try with_reducible rfl
            try simp only [Act.put, List.setIfInBounds_toArray, List.set_cons_zero, List.set_cons_succ]
            refine wpAnyH_take (i := 1) (v := ?_) (by simp only [List.getElem?_toArray, List.getElem?_cons_succ, List.getElem?_cons_zero]; exact rfl) (by kernel_rfl) (by kernel_rfl) (by kernel_rfl) (by exact fun _ _ _ h => h) (Or.inl ⟨by rfl, ?_⟩) (by assumption) ?_
            rotate_left 1
            · intro w hSw
              try dsimp only at hSw
              go_simp
              try with_reducible rfl
            try simp only [Act.put, List.setIfInBounds_toArray, List.set_cons_zero, List.set_cons_succ]
            refine wpAnyH_take (i := 2) (v := ?_) (by simp only [List.getElem?_toArray, List.getElem?_cons_succ, List.getElem?_cons_zero]; exact rfl) (by kernel_rfl) (by kernel_rfl) (by kernel_rfl) (by exact fun _ _ _ h => h) (Or.inl ⟨by rfl, ?_⟩) (by assumption) ?_
            rotate_left 1
            · intro w hSw
              try dsimp only at hSw
              go_simp
              try with_reducible rfl
            try simp only [Act.put, List.setIfInBounds_toArray, List.set_cons_zero, List.set_cons_succ]
            refine wpAnyH_take (i := 3) (v := ?_) (by simp only [List.getElem?_toArray, List.getElem?_cons_succ, List.getElem?_cons_zero]; exact rfl) (by kernel_rfl) (by kernel_rfl) (by kernel_rfl) (by exact fun _ _ _ h => h) (Or.inl ⟨by rfl, ?_⟩) (by assumption) ?_
            rotate_left 1
            · intro w hSw
              try dsimp only at hSw
              go_simp
              try with_reducible rfl
            try simp only [Act.put, List.setIfInBounds_toArray, List.set_cons_zero, List.set_cons_succ]
            refine wpAnyH_take (i := 4) (v := ?_) (by simp only [List.getElem?_toArray, List.getElem?_cons_succ, List.getElem?_cons_zero]; exact rfl) (by kernel_rfl) (by kernel_rfl) (by kernel_rfl) (by exact fun _ _ _ h => h) (Or.inl ⟨by rfl, ?_⟩) (by assumption) ?_
            rotate_left 1
            · intro w hSw
              try dsimp only at hSw
              go_simp
              try with_reducible rfl
            try simp only [Act.put, List.setIfInBounds_toArray, List.set_cons_zero, List.set_cons_succ]
            refine wpAnyH_take (i := 5) (v := ?_) (by simp only [List.getElem?_toArray, List.getElem?_cons_succ, List.getElem?_cons_zero]; exact rfl) (by kernel_rfl) (by kernel_rfl) (by kernel_rfl) (by exact fun _ _ _ h => h) (Or.inl ⟨by rfl, ?_⟩) (by assumption) ?_
            rotate_left 1
            · intro w hSw
              try dsimp only at hSw
              go_simp
              try with_reducible rfl
            try simp only [Act.put, List.setIfInBounds_toArray, List.set_cons_zero, List.set_cons_succ]
            refine wpAnyH_take (i := 6) (v := ?_) (by simp only [List.getElem?_toArray, List.getElem?_cons_succ, List.getElem?_cons_zero]; exact rfl) (by kernel_rfl) (by kernel_rfl) (by kernel_rfl) (by exact fun _ _ _ h => h) (Or.inl ⟨by rfl, ?_⟩) (by assumption) ?_
            rotate_left 1
            · intro w hSw
              try dsimp only at hSw
              go_simp
              try with_reducible rfl
            try simp only [Act.put, List.setIfInBounds_toArray, List.set_cons_zero, List.set_cons_succ]
            refine wpAnyH_take (i := 7) (v := undef) (by simp only [List.getElem?_toArray, List.getElem?_cons_succ, List.getElem?_cons_zero]; exact rfl) (by kernel_rfl) (by kernel_rfl) (by kernel_rfl) (by exact fun _ _ _ h => h) (Or.inr ⟨by rfl, rfl⟩) (by assumption) ?_
            try simp only [Act.put, List.setIfInBounds_toArray, List.set_cons_zero, List.set_cons_succ]
            refine wpAnyH_take (i := 8) (v := undef) (by simp only [List.getElem?_toArray, List.getElem?_cons_succ, List.getElem?_cons_zero]; exact rfl) (by kernel_rfl) (by kernel_rfl) (by kernel_rfl) (by exact fun _ _ _ h => h) (Or.inr ⟨by rfl, rfl⟩) (by assumption) ?_
            try simp only [Act.put, List.setIfInBounds_toArray, List.set_cons_zero, List.set_cons_succ]
            refine wpAnyH_take (i := 9) (v := undef) (by simp only [List.getElem?_toArray, List.getElem?_cons_succ, List.getElem?_cons_zero]; exact rfl) (by kernel_rfl) (by kernel_rfl) (by kernel_rfl) (by exact fun _ _ _ h => h) (Or.inr ⟨by rfl, rfl⟩) (by assumption) ?_
            try simp only [Act.put, List.setIfInBounds_toArray, List.set_cons_zero, List.set_cons_succ]
            refine wpAnyH_take (i := 10) (v := undef) (by simp only [List.getElem?_toArray, List.getElem?_cons_succ, List.getElem?_cons_zero]; exact rfl) (by kernel_rfl) (by kernel_rfl) (by kernel_rfl) (by exact fun _ _ _ h => h) (Or.inr ⟨by rfl, rfl⟩) (by assumption) ?_
            try simp only [Act.put, List.setIfInBounds_toArray, List.set_cons_zero, List.set_cons_succ]
            refine wpAnyH_take (i := 12) (v := undef) (by simp only [List.getElem?_toArray, List.getElem?_cons_succ, List.getElem?_cons_zero]; exact rfl) (by kernel_rfl) (by kernel_rfl) (by kernel_rfl) (by exact fun _ _ _ h => h) (Or.inr ⟨by rfl, rfl⟩) (by assumption) ?_
            try simp only [Act.put, List.setIfInBounds_toArray, List.set_cons_zero, List.set_cons_succ]
            refine wpAnyH_take (i := 13) (v := undef) (by simp only [List.getElem?_toArray, List.getElem?_cons_succ, List.getElem?_cons_zero]; exact rfl) (by kernel_rfl) (by kernel_rfl) (by kernel_rfl) (by exact fun _ _ _ h => h) (Or.inr ⟨by rfl, rfl⟩) (by assumption) ?_
            try simp only [Act.put, List.setIfInBounds_toArray, List.set_cons_zero, List.set_cons_succ]
            refine wpAnyH_take (i := 14) (v := undef) (by simp only [List.getElem?_toArray, List.getElem?_cons_succ, List.getElem?_cons_zero]; exact rfl) (by kernel_rfl) (by kernel_rfl) (by kernel_rfl) (by exact fun _ _ _ h => h) (Or.inr ⟨by rfl, rfl⟩) (by assumption) ?_
            try simp only [Act.put, List.setIfInBounds_toArray, List.set_cons_zero, List.set_cons_succ]
            refine wpAnyH_take (i := 15) (v := undef) (by simp only [List.getElem?_toArray, List.getElem?_cons_succ, List.getElem?_cons_zero]; exact rfl) (by kernel_rfl) (by kernel_rfl) (by kernel_rfl) (by exact fun _ _ _ h => h) (Or.inr ⟨by rfl, rfl⟩) (by assumption) ?_
            try simp only [Act.put, List.setIfInBounds_toArray, List.set_cons_zero, List.set_cons_succ]
            refine wpAnyH_take (i := 16) (v := undef) (by simp only [List.getElem?_toArray, List.getElem?_cons_succ, List.getElem?_cons_zero]; exact rfl) (by kernel_rfl) (by kernel_rfl) (by kernel_rfl) (by exact fun _ _ _ h => h) (Or.inr ⟨by rfl, rfl⟩) (by assumption) ?_
            try simp only [Act.put, List.setIfInBounds_toArray, List.set_cons_zero, List.set_cons_succ]
            refine wpAnyH_take (i := 17) (v := undef) (by simp only [List.getElem?_toArray, List.getElem?_cons_succ, List.getElem?_cons_zero]; exact rfl) (by kernel_rfl) (by kernel_rfl) (by kernel_rfl) (by exact fun _ _ _ h => h) (Or.inr ⟨by rfl, rfl⟩) (by assumption) ?_
            try simp only [Act.put, List.setIfInBounds_toArray, List.set_cons_zero, List.set_cons_succ]
            refine wpAnyH_ready (rs := [11]) (by kernel_rfl) (by simp) ?_
            refine AllReadyH.cons (by simp only [List.getElem?_toArray, List.getElem?_cons_succ, List.getElem?_cons_zero]; exact rfl) (fun K hK => ?_) ?_
            · go_simp
              refine hK.out _ _ ?_ (fun hH26 => ?_)
              · try dsimp only
                go_keep
              clear hK K hH0
              try simp only [Act.put, List.setIfInBounds_toArray, List.set_cons_zero, List.set_cons_succ]
              refine wpAnyH_ready (rs := [18]) (by kernel_rfl) (by simp) ?_
              refine AllReadyH.cons (by simp only [List.getElem?_toArray, List.getElem?_cons_succ, List.getElem?_cons_zero]; exact rfl) (fun K hK => ?_) ?_
              · go_simp
                refine hK.out _ _ ?_ (fun hH27 => ?_)
                · try dsimp only
                  go_keep
                clear hK K hH26
                try simp only [Act.put, List.setIfInBounds_toArray, List.set_cons_zero, List.set_cons_succ]
                refine wpAnyH_ready (rs := [19]) (by kernel_rfl) (by simp) ?_
                refine AllReadyH.cons (by simp only [List.getElem?_toArray, List.getElem?_cons_succ, List.getElem?_cons_zero]; exact rfl) (fun K hK => ?_) ?_
                · go_simp
                  refine hK.out _ _ ?_ (fun hH28 => ?_)
                  · try dsimp only
                    go_keep
                  clear hK K hH27
                  try simp only [Act.put, List.setIfInBounds_toArray, List.set_cons_zero, List.set_cons_succ]
                  refine wpAnyH_take (i := 20) (v := undef) (by simp only [List.getElem?_toArray, List.getElem?_cons_succ, List.getElem?_cons_zero]; exact rfl) (by kernel_rfl) (by kernel_rfl) (by kernel_rfl) (by exact fun _ _ _ h => h) (Or.inr ⟨by rfl, rfl⟩) (by assumption) ?_
                  try simp only [Act.put, List.setIfInBounds_toArray, List.set_cons_zero, List.set_cons_succ]
                  refine wpAnyH_take (i := 21) (v := ?_) (by simp only [List.getElem?_toArray, List.getElem?_cons_succ, List.getElem?_cons_zero]; exact rfl) (by kernel_rfl) (by kernel_rfl) (by kernel_rfl) (by exact fun _ _ _ h => h) (Or.inl ⟨by rfl, ?_⟩) (by assumption) ?_
                  rotate_left 1
                  · intro w hSw
                    try dsimp only at hSw
                    go_simp
                    try with_reducible rfl
                  try simp only [Act.put, List.setIfInBounds_toArray, List.set_cons_zero, List.set_cons_succ]
                  refine wpAnyH_done (by kernel_rfl) ?_ _
                  refine NoPanic.normal ?_
                  have HB7 := Lib.hid ((below_drewN (Below.refl wr.heap.size wr) 1))
                  go_wp2_with fail
                  refine (HCN.out _ HB7.out).mono ?_
                  rintro e w' ⟨rfl, rfl⟩
                  go_wp2_with fail
                  refine (HVH.out _ HB7.out).mono ?_
                  rintro e w' ⟨rfl, rfl⟩
                  have bl7 := HBR.out.trans (HB7.out.mono HBR.out.size)
                  go_wp2
                  go_ret
                  exact ⟨rfl, bl7⟩
                exact AllReadyH.nil
              exact AllReadyH.nil
            exact AllReadyH.nil
  · have hn' : 1048576 < cs.length := by omega
    go_enter Try.func8, Try.ntmps8
    go_wp2
    go_ret
    exact ⟨rfl, Below.refl _ _⟩

set_option maxRecDepth 100000 in
theorem lifted (os : Os) (started : os.Started) (H : Type) (enc : TypeId × Value → H) :
    ReturnsInHanded {} Try.checked os 8 .any (Rows.fnFillHouseSpec.pre6 enc Try.prog Try.f8 Rows.fnFillHouseRow.domain false) (Rows.fnFillHouseSpec.post enc Try.prog Try.f8 false true false false) := by
  refine returnsInHanded_of_change (C := Try.checked) ownNone started (by kernel_rfl) Try.func8
    (ChangeSpec.witness6 (enc := enc) (C := Try.checked) false ⟨#[], #[.slice none 0 0], []⟩ 8 (by kernel_rfl) (by kernel_rfl) (by kernel_rfl) (by kernel_rfl)) ?_
  intro W base args ds gs before hval0 hW hcnd _
  have hval : ∀ (j : Nat) t v, Try.f8.params[j]? = some t → args[j]? = some v → Value.okWide Try.prog W .any base t v := hval0
  have hW' := hW
  obtain ⟨p, q, hA0, hV, rfl, _, _⟩ := hW
  have hA : DataW.TrodAll enc Try.prog W 0 (fun _ => true) true Try.f8.params.toList args.toList ds p := hA0
  rw [Try.params8] at hA hval
  obtain ⟨v0, vs0, d0, ds0, p0, q0, hargs, rfl, rfl, h0, r0⟩ := trodAll_cons hA
  obtain ⟨rfl, rfl, rfl⟩ := trodAll_nil r0
  obtain rfl : args = #[v0] := by cases args; simp_all
  obtain ⟨rfl, rfl⟩ := trodVars_none hV
  obtain ⟨Acs, ccs, cs, rfl, hrcs, hlcs, hqcs⟩ := open_rd Try.underlying22 Try.underlying5 cellsByte (hval 0 22 v0 rfl rfl) h0
  have hbcs := byte_bounds hqcs
  clear hA0 hval0
  refine (walk W cs Acs ccs hrcs hbcs hlcs).mono fun e W' ⟨he, hg⟩ => ?_
  subst he
  exact ⟨_, rfl, law_post laidOut (by kernel_rfl) rfl rfl rfl rfl rfl Try.underlying4 hW' hg⟩

/-- The statement. -/
theorem proved : Rows.FnFillHouseSaid :=
  OpenClaim.holds_of_wide 8 Try.f8 rfl rfl rfl rfl rfl rfl rfl ⟨rfl, rfl, rfl, rfl, rfl⟩ rfl rfl rfl rfl rfl (by kernel_rfl) Try.func8 (by kernel_rfl)
    (of_decide_eq_true (by kernel_rfl)) (by unfold Func.isWrapper; first | (rw [if_pos (by decide +kernel)]; kernel_rfl) | (rw [if_neg (by decide +kernel)]; exact ⟨rfl, rfl⟩))
    (fun os started H enc _ => lifted os started H enc)
#print axioms proved
end fnFillHouse

end Go.Proofs.Ytbnggakfogcalaa

/- The law FnGrowPond: for every code it answers true, and the code reads as it read before. No condition. -/
import Derived.Test.YtbnggakfogcaladLawM
import Derived.Test.YtbnggakfogcaladHelps
import Derived.Test.YtbnggakfogcaladGrowL
import Derived.Test.YtbnggakfogcaladPDraws
import Derived.Test.YtbnggakfogcaladLaw
namespace Go.Proofs.Ytbnggakfogcalad
open Go.RowKit
set_option linter.unusedVariables false
set_option linter.unusedSimpArgs false

namespace fnGrowPond
open Go.ChangeShapes Go.WideShapes Go.ChangeAt Go.RowKit
set_option maxRecDepth 100000 in
set_option maxHeartbeats 800000 in
set_option maxRecDepth 100000 in
set_option maxRecDepth 100000 in
set_option maxHeartbeats 8000000 in
theorem walk (w : World) (cs : List Int) (Acs : Option Addr) (ccs : Nat) (hrcs : Rd w w.heap.size Acs (bytes cs)) (hbcs : ∀ z ∈ cs, 0 ≤ z ∧ z ≤ 255) (hlcs : cs.length ≤ ccs ∧ ccs ≤ maxLen) :
    Calls Try.prog 10 #[.slice Acs cs.length ccs] w fun e w' => e = .returned (.bool true) ∧ Below w.heap.size w w' := by
  by_cases hn : cs.length ≤ 1048576
  · go_enter Try.func10, Try.ntmps10
    go_wp2_with fail
    refine (dGrowPond _ _ _ _ hrcs hbcs hlcs.1 hlcs.2).mono ?_
    rintro e w1 ⟨pp, Ap, cp, zs, Az, cz, rfl, ⟨hpl, hpc, hcm, hg⟩, ⟨hzl, hzb, hrz, hzc, hzm⟩, b1⟩
    have hn1 : pp.length ≤ 1048576 := by omega
    obtain ⟨ts, hts⟩ : ∃ ts, ts = growT pp zs := ⟨_, rfl⟩
    have hrows := growT_rows (pp := pp) (zs := zs)
    rw [← hts] at hrows
    have hql := hrows.1
    have HQR := hrows.2
    have HTS := Lib.hid hts
    clear hts hrows
    go_wp2_with fail
    refine (iGrowZ_any pp zs Ap Az cp cz w1 hg hrz HTS).mono ?_
    rintro e w2 ⟨A2, c2, xs2, rfl, o2, b2⟩
    have hg2 := hg.up b2
    have hz2 := (hrz.below b2).more b2.size
    go_wp2_with fail
    refine (sGrowZ_any pp zs Ap Az cp cz w2 hg2 hn1 hz2 HTS).mono ?_
    rintro e w3 ⟨A3, c3, xs3, rfl, o3, b3⟩
    have hg3 := hg2.up b3
    have hz3 := (hz2.below b3).more b3.size
    have r23 := o2.rd.up b3
    have bl3 : Below w.heap.size w w3 := (b1.trans (b2.mono b1.size)).trans (b3.mono (by have := b1.size; have := b2.size; omega))
    go_wp2_with fail
    refine (eqLs_b ts A2 A3 c2 c3 w3 w3.heap.size r23 o3.rd hql HQR).mono ?_
    rintro e w4 ⟨rfl, b4⟩
    have hg4 := hg3.up b4
    have hz4 := (hz3.below b4).more b4.size
    have r24 := r23.up b4
    have bl4 := bl3.trans (b4.mono bl3.size)
    clear o2 o3 b1 b2 b3 b4 hg hg2 hg3 hrz hz2 hz3 r23 bl3
    by_cases h0 : ts.length = 0
    · have hy0 : ((ts.length : Int) == 0) = true := beq_iff_eq.2 (by omega)
      clear h0
      go_wp2_with fail
      refine (sGrowZ_any pp zs Ap Az cp cz w4 hg4 hn1 hz4 HTS).mono ?_
      rintro e w5 ⟨A5, c5, xs5, rfl, o5, b5⟩
      go_wp2_with fail
      refine (eqLs_b ts A2 A5 c2 c5 w5 w5.heap.size (r24.up b5) o5.rd hql HQR).mono ?_
      rintro e w6 ⟨rfl, b6⟩
      have bl6 := bl4.trans ((b5.trans (b6.mono b5.size)).mono bl4.size)
      clear o5 b5 b6 r24 hg4 hz4 bl4
      go_wp2
      go_ret
      exact ⟨rfl, bl6⟩
    · have hy0 : ((ts.length : Int) == 0) = false := beq_eq_false_iff_ne.2 (by omega)
      obtain ⟨hv, ht, hts⟩ := growT_some (pp := pp) (zs := zs) (by rw [← HTS.out]; exact h0)
      have e : ts = growF pp zs := HTS.out.trans hts
      have HVT : Hid (pondB ts = true) := Lib.hid (by rw [e]; exact grow_pond hv)
      have HWT : Hid (wide ts = wide pp) := Lib.hid (by rw [e]; exact grow_wide hv)
      have HCT : Hid (cnt ts = cnt pp) := Lib.hid (by rw [e]; exact grow_cnt hv)
      have HLT : Hid (ts.length = pp.length) := Lib.hid (by rw [e]; exact growF_len pp zs)
      have HAT : Hid (∀ s, s < cnt pp → thk ts s = rt (runF (thk pp s * thk pp s) zs)) := Lib.hid fun s hs => by rw [e]; exact grow_thk hv hs
      obtain ⟨qq, hqq⟩ : ∃ qq, qq = growT pp (List.replicate 5 (-30)) := ⟨_, rfl⟩
      have hq : qq = growF pp (List.replicate 5 (-30)) := by rw [hqq]; exact growT_ok hv cold5_temps
      have HVQ : Hid (pondB qq = true) := Lib.hid (by rw [hq]; exact grow_pond hv)
      have HWQ : Hid (wide qq = wide pp) := Lib.hid (by rw [hq]; exact grow_wide hv)
      have HCQ : Hid (cnt qq = cnt pp) := Lib.hid (by rw [hq]; exact grow_cnt hv)
      have HLQ : Hid (qq.length = pp.length) := Lib.hid (by rw [hq]; exact growF_len pp _)
      have HAQ : Hid (∀ s, s < cnt pp → thk pp s ≤ thk qq s) := Lib.hid fun s hs => by
        rw [hq, grow_thk hv hs]
        exact thk_grow (thk_bd hv hs).1 (thk_bd hv hs).2 cold5_neg
      obtain ⟨T, hT⟩ : ∃ T, T = tpF ts := ⟨_, rfl⟩
      have HT := Lib.hid hT
      have HT2 : Hid (T = tpF (growF pp zs)) := Lib.hid (by rw [hT, e])
      have hTr : T.length ≤ 1048576 ∧ Hid (∀ (k : Nat) (r : List Int), T[k]? = some r → r.length ≤ 1048576) := by rw [hT]; exact pond_rows (pond_turned HVT.out)
      have HB : Hid (∀ s, s < cnt pp → 0 ≤ thk pp s ∧ thk pp s ≤ 999) := Lib.hid fun s hs => thk_bd hv hs
      have HQQ := Lib.hid hqq
      have HV := Lib.hid hv
      have HTM := Lib.hid ht
      have hl := pond_len hv
      have hwd := pond_wide hv
      clear h0 hts e hqq hq hT hv ht hn1 hql
      go_wp2_with fail
      refine (steady5_any w4).mono ?_
      rintro e w5 ⟨A5, c5, rfl, o5, b5⟩
      go_wp2_with fail
      refine (iGrowZ_any pp (List.replicate 5 (-30)) Ap A5 cp c5 w5 (hg4.up b5) (Rd.own o5) HQQ).mono ?_
      rintro e w6 ⟨A6, c6, xs6, rfl, o6, b6⟩
      have b46 := b5.trans (b6.mono b5.size)
      have hp6 : Pnd w6 w6.heap.size Ap pp := ⟨HV.out, hg4.up b46⟩
      have hz6 := (hz4.below b46).more b46.size
      have ht6 : Pnd w6 w6.heap.size A2 ts := ⟨HVT.out, r24.up b46⟩
      have hq6 : Pnd w6 w6.heap.size A6 qq := ⟨HVQ.out, o6.rd⟩
      have bl6 := bl4.trans (b46.mono bl4.size)
      have HB6 := Lib.hid bl6
      clear o5 o6 b5 b6 b46 hg4 hz4 r24 bl4 bl6
      go_wp2
      go_loopw [8] (fun i wr => ∃ y n : Nat, y ≤ pp.length ∧ i = .int .i64 y ∧ wr = w6.drewN n) (fun i _ => pp.length - (intOf i).toNat)
      case atStart => exact ⟨0, 0, Nat.zero_le _, rfl, rfl⟩
      case round =>
        obtain ⟨y, n, hy, rfl, hwr⟩ := hrel
        have hpr : Pnd wr wr.heap.size Ap pp := by rw [hwr]; exact hp6.drewN n
        have HW := Lib.hid hwr
        by_cases hlt : y < pp.length
        · obtain ⟨b, off, A', c', rfl, hb, hc, _, _⟩ := hpr.rowk hlt
          clear hpr hwr
          go_wp2
          go_loopw [9] (fun i wr => ∃ x n : Nat, x ≤ wide pp ∧ i = .int .i64 x ∧ wr = w6.drewN n) (fun i _ => wide pp - (intOf i).toNat)
          case atStart => exact ⟨0, n, Nat.zero_le _, rfl, HW.out⟩
          case round =>
            clear HW hc
            obtain ⟨x, n, hx, rfl, hwr⟩ := hrel
            have hpr : Pnd wr wr.heap.size (some ⟨b, off, none⟩) pp := by rw [hwr]; exact hp6.drewN n
            have htr : Pnd wr wr.heap.size A2 ts := by rw [hwr]; exact ht6.drewN n
            have hqr : Pnd wr wr.heap.size A6 qq := by rw [hwr]; exact hq6.drewN n
            have hzr : Rd wr wr.heap.size Az (ints zs) := by rw [hwr]; exact hz6.drewN n
            have HW := Lib.hid hwr
            clear hwr
            obtain ⟨b2, off2, A', c', e2, hb, hc, _, _⟩ := hpr.rowk hlt
            injection e2 with e2
            injection e2 with e2 e3
            subst e2 e3
            by_cases hxt : x < wide pp
            · have HC := cell_yx hlt hxt
              obtain ⟨s, hs⟩ : ∃ s, s = y * wide pp + x := ⟨_, rfl⟩
              rw [← hs] at HC
              obtain ⟨b9, off9, A9, c9, b3, off3, c3, e4, h0, hcy, hcx⟩ := hpr.cell_ HC.1
              injection e4 with e4
              injection e4 with e4 e5
              subst e4 e5
              obtain ⟨b5, off5, A5, c5, b6, off6, c6, rfl, h0t, hty, htx⟩ := htr.cell_ (c := s) (by rw [HCT.out]; exact HC.1)
              obtain ⟨b7, off7, A7, c7, b8, off8, c8, rfl, h0q, hqy, hqx⟩ := hqr.cell_ (c := s) (by rw [HCQ.out]; exact HC.1)
              rw [HC.2.1] at hcy
              rw [HC.2.2] at hcx
              rw [HWT.out, HC.2.1] at hty
              rw [HWT.out, HC.2.2] at htx
              rw [HWQ.out, HC.2.1] at hqy
              rw [HWQ.out, HC.2.2] at hqx
              have hu := HAT.out s HC.1
              have hvz := HAQ.out s HC.1
              have hzb := HB.out s HC.1
              have hyt : y < ts.length := by rw [HLT.out]; exact hlt
              have hyq : y < qq.length := by rw [HLQ.out]; exact hlt
              have hsqr := sq_in hzb.1 hzb.2
              rw [hcy] at hc
              clear hs HC hpr htr hqr hc h0 h0t h0q
              generalize wide pp = W at *
              generalize thk pp s = z at *
              generalize thk ts s = u at *
              generalize thk qq s = v at *
              obtain ⟨m, hm⟩ : ∃ m, m = z * z := ⟨_, rfl⟩
              rw [← hm] at hu hsqr
              have e0 : z * z = m := hm.symm
              have e1 : IntKind.i64.wrap m = m := IntWalk.i64_in _ (by omega)
              have hrn := runF_range m hsqr.1 hsqr.2 zs
              have HRUN : Hid (∀ w', (∃ k, w' = wr.drewN k) → Calls Try.prog 45 #[.int .i64 m, .slice Az zs.length cz] w' fun e w'' => e = .returned (.int .i64 (runF m zs)) ∧ w' = w'') := Lib.hid fun w' ⟨k, hk⟩ => by
                have h := iRunIce_any zs Az cz w' wr.heap.size (by rw [hk]; exact hzr.drewN k) m
                rw [runT_ok (inB_mk hsqr) HTM.out] at h
                exact h
              have HTK : Hid (∀ w', Calls Try.prog 44 #[.int .i64 (runF m zs)] w' fun e w'' => e = .returned (.int .i64 u) ∧ w' = w'') := Lib.hid fun w' => by
                rw [hu]
                exact iThickOf_any _ hrn.1 hrn.2 _
              have d1 : decide (v < z) = false := decide_eq_false (by omega)
              have d2 : (u != u) = false := by simp
              clear hm hu hvz hzb hzr
              generalize runF m zs = q at *
              go_wp2
              refine wp_region_noPanic ?_
              refine wp_region_held_drew (S := fun w' => w'.cell? ⟨b, off + y, none⟩ = some (.slice (some ⟨b3, off3, none⟩) W c3) ∧ w'.cell? ⟨b3, off3 + x, none⟩ = some (.int .i64 z) ∧ w'.cell? ⟨b5, off5 + y, none⟩ = some (.slice (some ⟨b6, off6, none⟩) W c6) ∧ w'.cell? ⟨b6, off6 + x, none⟩ = some (.int .i64 u) ∧ w'.cell? ⟨b7, off7 + y, none⟩ = some (.slice (some ⟨b8, off8, none⟩) W c8) ∧ w'.cell? ⟨b8, off8 + x, none⟩ = some (.int .i64 v)) (by kernel_rfl) ?_ (fun hH0 => ?_)
              · try dsimp only
                go_keep
              refine wpAnyH_take (i := 0) (v := ?_) (by simp only [List.getElem?_toArray, List.getElem?_cons_succ, List.getElem?_cons_zero]; exact rfl) (by kernel_rfl) (by kernel_rfl) (by kernel_rfl) (by exact fun _ _ _ h => h) (Or.inl ⟨by rfl, ?_⟩) (by assumption) ?_
              rotate_left 1
              · intro w hSw
                try dsimp only at hSw
                go_simp
                try with_reducible rfl
              try simp only [Act.put, List.setIfInBounds_toArray, List.set_cons_zero, List.set_cons_succ]
              refine wpAnyH_take (i := 1) (v := ?_) (by simp only [List.getElem?_toArray, List.getElem?_cons_succ, List.getElem?_cons_zero]; exact rfl) (by kernel_rfl) (by kernel_rfl) (by kernel_rfl) (by exact fun _ _ _ h => h) (Or.inl ⟨by rfl, ?_⟩) (by assumption) ?_
              rotate_left 1
              · intro w hSw
                try dsimp only at hSw
                go_simp
                try with_reducible rfl
              try simp only [Act.put, List.setIfInBounds_toArray, List.set_cons_zero, List.set_cons_succ]
              refine wpAnyH_take (i := 2) (v := ?_) (by simp only [List.getElem?_toArray, List.getElem?_cons_succ, List.getElem?_cons_zero]; exact rfl) (by kernel_rfl) (by kernel_rfl) (by kernel_rfl) (by exact fun _ _ _ h => h) (Or.inl ⟨by rfl, ?_⟩) (by assumption) ?_
              rotate_left 1
              · intro w hSw
                try dsimp only at hSw
                go_simp
                try with_reducible rfl
              try simp only [Act.put, List.setIfInBounds_toArray, List.set_cons_zero, List.set_cons_succ]
              refine wpAnyH_take (i := 3) (v := ?_) (by simp only [List.getElem?_toArray, List.getElem?_cons_succ, List.getElem?_cons_zero]; exact rfl) (by kernel_rfl) (by kernel_rfl) (by kernel_rfl) (by exact fun _ _ _ h => h) (Or.inl ⟨by rfl, ?_⟩) (by assumption) ?_
              rotate_left 1
              · intro w hSw
                try dsimp only at hSw
                go_simp
                try with_reducible rfl
              try simp only [Act.put, List.setIfInBounds_toArray, List.set_cons_zero, List.set_cons_succ]
              refine wpAnyH_take (i := 4) (v := ?_) (by simp only [List.getElem?_toArray, List.getElem?_cons_succ, List.getElem?_cons_zero]; exact rfl) (by kernel_rfl) (by kernel_rfl) (by kernel_rfl) (by exact fun _ _ _ h => h) (Or.inl ⟨by rfl, ?_⟩) (by assumption) ?_
              rotate_left 1
              · intro w hSw
                try dsimp only at hSw
                go_simp
                try with_reducible rfl
              try simp only [Act.put, List.setIfInBounds_toArray, List.set_cons_zero, List.set_cons_succ]
              refine wpAnyH_take (i := 5) (v := ?_) (by simp only [List.getElem?_toArray, List.getElem?_cons_succ, List.getElem?_cons_zero]; exact rfl) (by kernel_rfl) (by kernel_rfl) (by kernel_rfl) (by exact fun _ _ _ h => h) (Or.inl ⟨by rfl, ?_⟩) (by assumption) ?_
              rotate_left 1
              · intro w hSw
                try dsimp only at hSw
                go_simp
                try with_reducible rfl
              try simp only [Act.put, List.setIfInBounds_toArray, List.set_cons_zero, List.set_cons_succ]
              refine wpAnyH_take (i := 6) (v := ?_) (by simp only [List.getElem?_toArray, List.getElem?_cons_succ, List.getElem?_cons_zero]; exact rfl) (by kernel_rfl) (by kernel_rfl) (by kernel_rfl) (by exact fun _ _ _ h => h) (Or.inl ⟨by rfl, ?_⟩) (by assumption) ?_
              rotate_left 1
              · intro w hSw
                try dsimp only at hSw
                go_simp
                try with_reducible rfl
              try simp only [Act.put, List.setIfInBounds_toArray, List.set_cons_zero, List.set_cons_succ]
              refine wpAnyH_take (i := 7) (v := ?_) (by simp only [List.getElem?_toArray, List.getElem?_cons_succ, List.getElem?_cons_zero]; exact rfl) (by kernel_rfl) (by kernel_rfl) (by kernel_rfl) (by exact fun _ _ _ h => h) (Or.inl ⟨by rfl, ?_⟩) (by assumption) ?_
              rotate_left 1
              · intro w hSw
                try dsimp only at hSw
                go_simp
                try with_reducible rfl
              try simp only [Act.put, List.setIfInBounds_toArray, List.set_cons_zero, List.set_cons_succ]
              refine wpAnyH_take (i := 8) (v := ?_) (by simp only [List.getElem?_toArray, List.getElem?_cons_succ, List.getElem?_cons_zero]; exact rfl) (by kernel_rfl) (by kernel_rfl) (by kernel_rfl) (by exact fun _ _ _ h => h) (Or.inl ⟨by rfl, ?_⟩) (by assumption) ?_
              rotate_left 1
              · intro w hSw
                try dsimp only at hSw
                go_simp
                try with_reducible rfl
              try simp only [Act.put, List.setIfInBounds_toArray, List.set_cons_zero, List.set_cons_succ]
              refine wpAnyH_take (i := 9) (v := ?_) (by simp only [List.getElem?_toArray, List.getElem?_cons_succ, List.getElem?_cons_zero]; exact rfl) (by kernel_rfl) (by kernel_rfl) (by kernel_rfl) (by exact fun _ _ _ h => h) (Or.inl ⟨by rfl, ?_⟩) (by assumption) ?_
              rotate_left 1
              · intro w hSw
                try dsimp only at hSw
                go_simp
                try with_reducible rfl
              try simp only [Act.put, List.setIfInBounds_toArray, List.set_cons_zero, List.set_cons_succ]
              refine wpAnyH_take (i := 10) (v := ?_) (by simp only [List.getElem?_toArray, List.getElem?_cons_succ, List.getElem?_cons_zero]; exact rfl) (by kernel_rfl) (by kernel_rfl) (by kernel_rfl) (by exact fun _ _ _ h => h) (Or.inl ⟨by rfl, ?_⟩) (by assumption) ?_
              rotate_left 1
              · intro w hSw
                try dsimp only at hSw
                go_simp
                try with_reducible rfl
              try simp only [Act.put, List.setIfInBounds_toArray, List.set_cons_zero, List.set_cons_succ]
              refine wpAnyH_take (i := 11) (v := ?_) (by simp only [List.getElem?_toArray, List.getElem?_cons_succ, List.getElem?_cons_zero]; exact rfl) (by kernel_rfl) (by kernel_rfl) (by kernel_rfl) (by exact fun _ _ _ h => h) (Or.inl ⟨by rfl, ?_⟩) (by assumption) ?_
              rotate_left 1
              · intro w hSw
                try dsimp only at hSw
                go_simp
                try with_reducible rfl
              try simp only [Act.put, List.setIfInBounds_toArray, List.set_cons_zero, List.set_cons_succ]
              refine wpAnyH_take (i := 12) (v := ?_) (by simp only [List.getElem?_toArray, List.getElem?_cons_succ, List.getElem?_cons_zero]; exact rfl) (by kernel_rfl) (by kernel_rfl) (by kernel_rfl) (by exact fun _ _ _ h => h) (Or.inl ⟨by rfl, ?_⟩) (by assumption) ?_
              rotate_left 1
              · intro w hSw
                try dsimp only at hSw
                go_simp
                try with_reducible rfl
              try simp only [Act.put, List.setIfInBounds_toArray, List.set_cons_zero, List.set_cons_succ]
              refine wpAnyH_take (i := 13) (v := ?_) (by simp only [List.getElem?_toArray, List.getElem?_cons_succ, List.getElem?_cons_zero]; exact rfl) (by kernel_rfl) (by kernel_rfl) (by kernel_rfl) (by exact fun _ _ _ h => h) (Or.inl ⟨by rfl, ?_⟩) (by assumption) ?_
              rotate_left 1
              · intro w hSw
                try dsimp only at hSw
                go_simp
                try with_reducible rfl
              try simp only [Act.put, List.setIfInBounds_toArray, List.set_cons_zero, List.set_cons_succ]
              refine wpAnyH_take (i := 14) (v := ?_) (by simp only [List.getElem?_toArray, List.getElem?_cons_succ, List.getElem?_cons_zero]; exact rfl) (by kernel_rfl) (by kernel_rfl) (by kernel_rfl) (by exact fun _ _ _ h => h) (Or.inl ⟨by rfl, ?_⟩) (by assumption) ?_
              rotate_left 1
              · intro w hSw
                try dsimp only at hSw
                go_simp
                try with_reducible rfl
              try simp only [Act.put, List.setIfInBounds_toArray, List.set_cons_zero, List.set_cons_succ]
              refine wpAnyH_take (i := 15) (v := ?_) (by simp only [List.getElem?_toArray, List.getElem?_cons_succ, List.getElem?_cons_zero]; exact rfl) (by kernel_rfl) (by kernel_rfl) (by kernel_rfl) (by exact fun _ _ _ h => h) (Or.inl ⟨by rfl, ?_⟩) (by assumption) ?_
              rotate_left 1
              · intro w hSw
                try dsimp only at hSw
                go_simp
                try with_reducible rfl
              try simp only [Act.put, List.setIfInBounds_toArray, List.set_cons_zero, List.set_cons_succ]
              refine wpAnyH_take (i := 16) (v := ?_) (by simp only [List.getElem?_toArray, List.getElem?_cons_succ, List.getElem?_cons_zero]; exact rfl) (by kernel_rfl) (by kernel_rfl) (by kernel_rfl) (by exact fun _ _ _ h => h) (Or.inl ⟨by rfl, ?_⟩) (by assumption) ?_
              rotate_left 1
              · intro w hSw
                try dsimp only at hSw
                go_simp
                try with_reducible rfl
              try simp only [Act.put, List.setIfInBounds_toArray, List.set_cons_zero, List.set_cons_succ]
              refine wpAnyH_take (i := 17) (v := ?_) (by simp only [List.getElem?_toArray, List.getElem?_cons_succ, List.getElem?_cons_zero]; exact rfl) (by kernel_rfl) (by kernel_rfl) (by kernel_rfl) (by exact fun _ _ _ h => h) (Or.inl ⟨by rfl, ?_⟩) (by assumption) ?_
              rotate_left 1
              · intro w hSw
                try dsimp only at hSw
                go_simp
                try with_reducible rfl
              try simp only [Act.put, List.setIfInBounds_toArray, List.set_cons_zero, List.set_cons_succ]
              refine wpAnyH_take (i := 18) (v := ?_) (by simp only [List.getElem?_toArray, List.getElem?_cons_succ, List.getElem?_cons_zero]; exact rfl) (by kernel_rfl) (by kernel_rfl) (by kernel_rfl) (by exact fun _ _ _ h => h) (Or.inl ⟨by rfl, ?_⟩) (by assumption) ?_
              rotate_left 1
              · intro w hSw
                try dsimp only at hSw
                go_simp
                try with_reducible rfl
              try simp only [Act.put, List.setIfInBounds_toArray, List.set_cons_zero, List.set_cons_succ]
              refine wpAnyH_take (i := 19) (v := ?_) (by simp only [List.getElem?_toArray, List.getElem?_cons_succ, List.getElem?_cons_zero]; exact rfl) (by kernel_rfl) (by kernel_rfl) (by kernel_rfl) (by exact fun _ _ _ h => h) (Or.inl ⟨by rfl, ?_⟩) (by assumption) ?_
              rotate_left 1
              · intro w hSw
                try dsimp only at hSw
                go_simp
                try with_reducible rfl
              try simp only [Act.put, List.setIfInBounds_toArray, List.set_cons_zero, List.set_cons_succ]
              refine wpAnyH_take (i := 20) (v := ?_) (by simp only [List.getElem?_toArray, List.getElem?_cons_succ, List.getElem?_cons_zero]; exact rfl) (by kernel_rfl) (by kernel_rfl) (by kernel_rfl) (by exact fun _ _ _ h => h) (Or.inl ⟨by rfl, ?_⟩) (by assumption) ?_
              rotate_left 1
              · intro w hSw
                try dsimp only at hSw
                go_simp
                try with_reducible rfl
              try simp only [Act.put, List.setIfInBounds_toArray, List.set_cons_zero, List.set_cons_succ]
              refine wpAnyH_take (i := 21) (v := ?_) (by simp only [List.getElem?_toArray, List.getElem?_cons_succ, List.getElem?_cons_zero]; exact rfl) (by kernel_rfl) (by kernel_rfl) (by kernel_rfl) (by exact fun _ _ _ h => h) (Or.inl ⟨by rfl, ?_⟩) (by assumption) ?_
              rotate_left 1
              · intro w hSw
                try dsimp only at hSw
                go_simp
                try with_reducible rfl
              try simp only [Act.put, List.setIfInBounds_toArray, List.set_cons_zero, List.set_cons_succ]
              refine wpAnyH_take (i := 22) (v := ?_) (by simp only [List.getElem?_toArray, List.getElem?_cons_succ, List.getElem?_cons_zero]; exact rfl) (by kernel_rfl) (by kernel_rfl) (by kernel_rfl) (by exact fun _ _ _ h => h) (Or.inl ⟨by rfl, ?_⟩) (by assumption) ?_
              rotate_left 1
              · intro w hSw
                try dsimp only at hSw
                go_simp
                try with_reducible rfl
              try simp only [Act.put, List.setIfInBounds_toArray, List.set_cons_zero, List.set_cons_succ]
              refine wpAnyH_take (i := 23) (v := ?_) (by simp only [List.getElem?_toArray, List.getElem?_cons_succ, List.getElem?_cons_zero]; exact rfl) (by kernel_rfl) (by kernel_rfl) (by kernel_rfl) (by exact fun _ _ _ h => h) (Or.inl ⟨by rfl, ?_⟩) (by assumption) ?_
              rotate_left 1
              · intro w hSw
                try dsimp only at hSw
                go_simp
                try with_reducible rfl
              try simp only [Act.put, List.setIfInBounds_toArray, List.set_cons_zero, List.set_cons_succ]
              refine wpAnyH_take (i := 24) (v := ?_) (by simp only [List.getElem?_toArray, List.getElem?_cons_succ, List.getElem?_cons_zero]; exact rfl) (by kernel_rfl) (by kernel_rfl) (by kernel_rfl) (by exact fun _ _ _ h => h) (Or.inl ⟨by rfl, ?_⟩) (by assumption) ?_
              rotate_left 1
              · intro w hSw
                try dsimp only at hSw
                go_simp
                try with_reducible rfl
              try simp only [Act.put, List.setIfInBounds_toArray, List.set_cons_zero, List.set_cons_succ]
              refine wpAnyH_take (i := 25) (v := ?_) (by simp only [List.getElem?_toArray, List.getElem?_cons_succ, List.getElem?_cons_zero]; exact rfl) (by kernel_rfl) (by kernel_rfl) (by kernel_rfl) (by exact fun _ _ _ h => h) (Or.inl ⟨by rfl, ?_⟩) (by assumption) ?_
              rotate_left 1
              · intro w hSw
                try dsimp only at hSw
                go_simp
                try with_reducible rfl
              try simp only [Act.put, List.setIfInBounds_toArray, List.set_cons_zero, List.set_cons_succ]
              refine wpAnyH_take (i := 26) (v := ?_) (by simp only [List.getElem?_toArray, List.getElem?_cons_succ, List.getElem?_cons_zero]; exact rfl) (by kernel_rfl) (by kernel_rfl) (by kernel_rfl) (by exact fun _ _ _ h => h) (Or.inl ⟨by rfl, ?_⟩) (by assumption) ?_
              rotate_left 1
              · intro w hSw
                try dsimp only at hSw
                go_simp
                try with_reducible rfl
              try simp only [Act.put, List.setIfInBounds_toArray, List.set_cons_zero, List.set_cons_succ]
              refine wpAnyH_take (i := 27) (v := ?_) (by simp only [List.getElem?_toArray, List.getElem?_cons_succ, List.getElem?_cons_zero]; exact rfl) (by kernel_rfl) (by kernel_rfl) (by kernel_rfl) (by exact fun _ _ _ h => h) (Or.inl ⟨by rfl, ?_⟩) (by assumption) ?_
              rotate_left 1
              · intro w hSw
                try dsimp only at hSw
                go_simp
                try with_reducible rfl
              try simp only [Act.put, List.setIfInBounds_toArray, List.set_cons_zero, List.set_cons_succ]
              refine wpAnyH_take (i := 28) (v := ?_) (by simp only [List.getElem?_toArray, List.getElem?_cons_succ, List.getElem?_cons_zero]; exact rfl) (by kernel_rfl) (by kernel_rfl) (by kernel_rfl) (by exact fun _ _ _ h => h) (Or.inl ⟨by rfl, ?_⟩) (by assumption) ?_
              rotate_left 1
              · intro w hSw
                try dsimp only at hSw
                go_simp
                try with_reducible rfl
              try simp only [Act.put, List.setIfInBounds_toArray, List.set_cons_zero, List.set_cons_succ]
              refine wpAnyH_take (i := 29) (v := ?_) (by simp only [List.getElem?_toArray, List.getElem?_cons_succ, List.getElem?_cons_zero]; exact rfl) (by kernel_rfl) (by kernel_rfl) (by kernel_rfl) (by exact fun _ _ _ h => h) (Or.inl ⟨by rfl, ?_⟩) (by assumption) ?_
              rotate_left 1
              · intro w hSw
                try dsimp only at hSw
                go_simp
                try with_reducible rfl
              try simp only [Act.put, List.setIfInBounds_toArray, List.set_cons_zero, List.set_cons_succ]
              refine wpAnyH_take (i := 30) (v := ?_) (by simp only [List.getElem?_toArray, List.getElem?_cons_succ, List.getElem?_cons_zero]; exact rfl) (by kernel_rfl) (by kernel_rfl) (by kernel_rfl) (by exact fun _ _ _ h => h) (Or.inl ⟨by rfl, ?_⟩) (by assumption) ?_
              rotate_left 1
              · intro w hSw
                try dsimp only at hSw
                go_simp
                try with_reducible rfl
              try simp only [Act.put, List.setIfInBounds_toArray, List.set_cons_zero, List.set_cons_succ]
              refine wpAnyH_take (i := 31) (v := ?_) (by simp only [List.getElem?_toArray, List.getElem?_cons_succ, List.getElem?_cons_zero]; exact rfl) (by kernel_rfl) (by kernel_rfl) (by kernel_rfl) (by exact fun _ _ _ h => h) (Or.inl ⟨by rfl, ?_⟩) (by assumption) ?_
              rotate_left 1
              · intro w hSw
                try dsimp only at hSw
                go_simp
                try with_reducible rfl
              try simp only [Act.put, List.setIfInBounds_toArray, List.set_cons_zero, List.set_cons_succ]
              refine wpAnyH_take (i := 32) (v := ?_) (by simp only [List.getElem?_toArray, List.getElem?_cons_succ, List.getElem?_cons_zero]; exact rfl) (by kernel_rfl) (by kernel_rfl) (by kernel_rfl) (by exact fun _ _ _ h => h) (Or.inl ⟨by rfl, ?_⟩) (by assumption) ?_
              rotate_left 1
              · intro w hSw
                try dsimp only at hSw
                go_simp
                try with_reducible rfl
              try simp only [Act.put, List.setIfInBounds_toArray, List.set_cons_zero, List.set_cons_succ]
              refine wpAnyH_take (i := 33) (v := ?_) (by simp only [List.getElem?_toArray, List.getElem?_cons_succ, List.getElem?_cons_zero]; exact rfl) (by kernel_rfl) (by kernel_rfl) (by kernel_rfl) (by exact fun _ _ _ h => h) (Or.inl ⟨by rfl, ?_⟩) (by assumption) ?_
              rotate_left 1
              · intro w hSw
                try dsimp only at hSw
                go_simp
                try with_reducible rfl
              try simp only [Act.put, List.setIfInBounds_toArray, List.set_cons_zero, List.set_cons_succ]
              refine wpAnyH_take (i := 34) (v := ?_) (by simp only [List.getElem?_toArray, List.getElem?_cons_succ, List.getElem?_cons_zero]; exact rfl) (by kernel_rfl) (by kernel_rfl) (by kernel_rfl) (by exact fun _ _ _ h => h) (Or.inl ⟨by rfl, ?_⟩) (by assumption) ?_
              rotate_left 1
              · intro w hSw
                try dsimp only at hSw
                go_simp
                try with_reducible rfl
              try simp only [Act.put, List.setIfInBounds_toArray, List.set_cons_zero, List.set_cons_succ]
              refine wpAnyH_take (i := 35) (v := ?_) (by simp only [List.getElem?_toArray, List.getElem?_cons_succ, List.getElem?_cons_zero]; exact rfl) (by kernel_rfl) (by kernel_rfl) (by kernel_rfl) (by exact fun _ _ _ h => h) (Or.inl ⟨by rfl, ?_⟩) (by assumption) ?_
              rotate_left 1
              · intro w hSw
                try dsimp only at hSw
                go_simp
                try with_reducible rfl
              try simp only [Act.put, List.setIfInBounds_toArray, List.set_cons_zero, List.set_cons_succ]
              refine wpAnyH_take (i := 36) (v := ?_) (by simp only [List.getElem?_toArray, List.getElem?_cons_succ, List.getElem?_cons_zero]; exact rfl) (by kernel_rfl) (by kernel_rfl) (by kernel_rfl) (by exact fun _ _ _ h => h) (Or.inl ⟨by rfl, ?_⟩) (by assumption) ?_
              rotate_left 1
              · intro w hSw
                try dsimp only at hSw
                go_simp
                try with_reducible rfl
              try simp only [Act.put, List.setIfInBounds_toArray, List.set_cons_zero, List.set_cons_succ]
              refine wpAnyH_take (i := 37) (v := ?_) (by simp only [List.getElem?_toArray, List.getElem?_cons_succ, List.getElem?_cons_zero]; exact rfl) (by kernel_rfl) (by kernel_rfl) (by kernel_rfl) (by exact fun _ _ _ h => h) (Or.inl ⟨by rfl, ?_⟩) (by assumption) ?_
              rotate_left 1
              · intro w hSw
                try dsimp only at hSw
                go_simp
                try with_reducible rfl
              try simp only [Act.put, List.setIfInBounds_toArray, List.set_cons_zero, List.set_cons_succ]
              refine wpAnyH_take (i := 38) (v := ?_) (by simp only [List.getElem?_toArray, List.getElem?_cons_succ, List.getElem?_cons_zero]; exact rfl) (by kernel_rfl) (by kernel_rfl) (by kernel_rfl) (by exact fun _ _ _ h => h) (Or.inl ⟨by rfl, ?_⟩) (by assumption) ?_
              rotate_left 1
              · intro w hSw
                try dsimp only at hSw
                go_simp
                try with_reducible rfl
              try simp only [Act.put, List.setIfInBounds_toArray, List.set_cons_zero, List.set_cons_succ]
              refine wpAnyH_ready (rs := [39]) (by kernel_rfl) (by simp) ?_
              refine AllReadyH.cons (by simp only [List.getElem?_toArray, List.getElem?_cons_succ, List.getElem?_cons_zero]; exact rfl) (fun K hK => ?_) ?_
              · go_simp
                go_wp2_with (go_at_call 45; refine (HRUN.out _ ⟨1, rfl⟩).mono ?_; rintro e w' ⟨rfl, rfl⟩)
                refine hK.out _ _ ?_ (fun hH13 => ?_)
                · try dsimp only
                  go_keep
                clear hK K hH0
                try simp only [Act.put, List.setIfInBounds_toArray, List.set_cons_zero, List.set_cons_succ]
                refine wpAnyH_ready (rs := [40]) (by kernel_rfl) (by simp) ?_
                refine AllReadyH.cons (by simp only [List.getElem?_toArray, List.getElem?_cons_succ, List.getElem?_cons_zero]; exact rfl) (fun K hK => ?_) ?_
                · go_simp
                  go_wp2_with (go_at_call 44; refine (HTK.out _).mono ?_; rintro e w' ⟨rfl, rfl⟩)
                  refine hK.out _ _ ?_ (fun hH14 => ?_)
                  · try dsimp only
                    go_keep
                  clear hK K hH13
                  try simp only [Act.put, List.setIfInBounds_toArray, List.set_cons_zero, List.set_cons_succ]
                  refine wpAnyH_take (i := 41) (v := ?_) (by simp only [List.getElem?_toArray, List.getElem?_cons_succ, List.getElem?_cons_zero]; exact rfl) (by kernel_rfl) (by kernel_rfl) (by kernel_rfl) (by exact fun _ _ _ h => h) (Or.inl ⟨by rfl, ?_⟩) (by assumption) ?_
                  rotate_left 1
                  · intro w hSw
                    try dsimp only at hSw
                    go_simp
                    try with_reducible rfl
                  try simp only [Act.put, List.setIfInBounds_toArray, List.set_cons_zero, List.set_cons_succ]
                  refine wpAnyH_take (i := 42) (v := ?_) (by simp only [List.getElem?_toArray, List.getElem?_cons_succ, List.getElem?_cons_zero]; exact rfl) (by kernel_rfl) (by kernel_rfl) (by kernel_rfl) (by exact fun _ _ _ h => h) (Or.inl ⟨by rfl, ?_⟩) (by assumption) ?_
                  rotate_left 1
                  · intro w hSw
                    try dsimp only at hSw
                    go_simp
                    try with_reducible rfl
                  try simp only [Act.put, List.setIfInBounds_toArray, List.set_cons_zero, List.set_cons_succ]
                  refine wpAnyH_done (by kernel_rfl) ?_ _
                  refine NoPanic.normal ?_
                  go_wp2
                  go_roundw
                  case rel => exact ⟨x + 1, n + 1, by omega, by go_num, by rw [HW.out]; exact drewN_add w6 n 1⟩
                  case measure => simp [intOf]; omega
                exact AllReadyH.nil
              exact AllReadyH.nil
            · clear hpr htr hqr hzr
              have hxe : x = wide pp := by omega
              go_wp2
              go_roundw
              case rel => exact ⟨y + 1, n, by omega, by go_num, HW.out⟩
              case measure => simp [intOf]; omega
        · have htr : Pnd wr wr.heap.size A2 ts := by rw [hwr]; exact ht6.drewN n
          have hzr : Rd wr wr.heap.size Az (ints zs) := by rw [hwr]; exact hz6.drewN n
          have bl7 : Below w.heap.size w wr := by rw [hwr]; exact below_drewN HB6.out n
          clear hwr hq6
          have hye : y = pp.length := by omega
          go_wp2_with fail
          refine (turned_any pp Ap cp wr hpr).mono ?_
          rintro e w7 ⟨A7, c7, rfl, g7, b7⟩
          go_wp2_with fail
          refine (iGrowTp_any pp zs HV.out HTM.out HT2 A7 Az c7 cz w7 g7 ((hzr.below b7).more b7.size)).mono ?_
          rintro e w8 ⟨A8, c8, xs8, rfl, o8, b8⟩
          have b78 := b7.trans (b8.mono b7.size)
          go_wp2_with fail
          refine (turnOut_any ts HVT.out HT A2 c2 w8 (htr.2.up b78)).mono ?_
          rintro e w9 ⟨A9, c9, rfl, g9, b9⟩
          go_wp2_with fail
          refine (eqLs_b T A8 A9 c8 c9 w9 w9.heap.size (o8.rd.up b9) g9 hTr.1 hTr.2).mono ?_
          rintro e w10 ⟨rfl, b10⟩
          have b79 := b78.trans (b9.mono b78.size)
          have bl10 := bl7.trans ((b79.trans (b10.mono b79.size)).mono bl7.size)
          clear o8 g9 g7 b7 b8 b9 b10 b78 b79 hpr htr hzr bl7
          go_wp2
          go_ret
          exact ⟨rfl, bl10⟩
  · have hn' : 1048576 < cs.length := by omega
    go_enter Try.func10, Try.ntmps10
    go_wp2
    go_ret
    exact ⟨rfl, Below.refl _ _⟩

set_option maxRecDepth 100000 in
theorem lifted (os : Os) (started : os.Started) (H : Type) (enc : TypeId × Value → H) :
    ReturnsInHanded {} Try.checked os 10 .any (Rows.fnGrowPondSpec.pre6 enc Try.prog Try.f10 Rows.fnGrowPondRow.domain false) (Rows.fnGrowPondSpec.post enc Try.prog Try.f10 false true false false) := by
  refine returnsInHanded_of_change (C := Try.checked) ownNone started (by kernel_rfl) Try.func10
    (ChangeSpec.witness6 (enc := enc) (C := Try.checked) false ⟨#[], #[.slice none 0 0], []⟩ 8 (by kernel_rfl) (by kernel_rfl) (by kernel_rfl) (by kernel_rfl)) ?_
  intro W base args ds gs before hval0 hW hcnd _
  have hval : ∀ (j : Nat) t v, Try.f10.params[j]? = some t → args[j]? = some v → Value.okWide Try.prog W .any base t v := hval0
  have hW' := hW
  obtain ⟨p, q, hA0, hV, rfl, _, _⟩ := hW
  have hA : DataW.TrodAll enc Try.prog W 0 (fun _ => true) true Try.f10.params.toList args.toList ds p := hA0
  rw [Try.params10] at hA hval
  obtain ⟨v0, vs0, d0, ds0, p0, q0, hargs, rfl, rfl, h0, r0⟩ := trodAll_cons hA
  obtain ⟨rfl, rfl, rfl⟩ := trodAll_nil r0
  obtain rfl : args = #[v0] := by cases args; simp_all
  obtain ⟨rfl, rfl⟩ := trodVars_none hV
  obtain ⟨Acs, ccs, cs, rfl, hrcs, hlcs, hqcs⟩ := open_rd Try.underlying22 Try.underlying5 cellsByte (hval 0 22 v0 rfl rfl) h0
  have hbcs := byte_bounds hqcs
  clear hA0 hval0
  refine (walk W cs Acs ccs hrcs hbcs hlcs).mono fun e W' ⟨he, hg⟩ => ?_
  subst he
  exact ⟨_, rfl, law_post laidOut (by kernel_rfl) rfl rfl rfl rfl rfl Try.underlying4 hW' hg⟩

/-- The statement. -/
theorem proved : Rows.FnGrowPondSaid :=
  OpenClaim.holds_of_wide 10 Try.f10 rfl rfl rfl rfl rfl rfl rfl ⟨rfl, rfl, rfl, rfl, rfl⟩ rfl rfl rfl rfl rfl (by kernel_rfl) Try.func10 (by kernel_rfl)
    (of_decide_eq_true (by kernel_rfl)) (by unfold Func.isWrapper; first | (rw [if_pos (by decide +kernel)]; kernel_rfl) | (rw [if_neg (by decide +kernel)]; exact ⟨rfl, rfl⟩))
    (fun os started H enc _ => lifted os started H enc)
#print axioms proved
end fnGrowPond

end Go.Proofs.Ytbnggakfogcalad

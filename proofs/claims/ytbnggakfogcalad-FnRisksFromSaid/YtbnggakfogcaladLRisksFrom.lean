/- The law FnRisksFrom: for every code it answers true, and the code reads as it read before. No condition. -/
import Derived.Test.YtbnggakfogcaladLawM
import Derived.Test.YtbnggakfogcaladHelps
import Derived.Test.YtbnggakfogcaladRiskL
import Derived.Test.YtbnggakfogcaladPDraws
import Derived.Test.YtbnggakfogcaladLaw
namespace Go.Proofs.Ytbnggakfogcalad
open Go.RowKit
set_option linter.unusedVariables false
set_option linter.unusedSimpArgs false

namespace fnRisksFrom
open Go.ChangeShapes Go.WideShapes Go.ChangeAt Go.RowKit
set_option maxRecDepth 100000 in
set_option maxHeartbeats 800000 in
set_option maxRecDepth 100000 in
set_option maxRecDepth 100000 in
set_option maxHeartbeats 8000000 in
theorem walk (w : World) (cs : List Int) (Acs : Option Addr) (ccs : Nat) (hrcs : Rd w w.heap.size Acs (bytes cs)) (hbcs : ∀ z ∈ cs, 0 ≤ z ∧ z ≤ 255) (hlcs : cs.length ≤ ccs ∧ ccs ≤ maxLen) :
    Calls Try.prog 7 #[.slice Acs cs.length ccs] w fun e w' => e = .returned (.bool true) ∧ Below w.heap.size w w' := by
  by_cases hn : cs.length ≤ 1048576
  · go_enter Try.func7, Try.ntmps7
    go_wp2_with fail
    refine (dRisksFrom _ _ _ _ hrcs hbcs hlcs.1 hlcs.2).mono ?_
    rintro e w1 ⟨pp, Ap, cp, load, f, rfl, ⟨hpl, hpc, hcm, hg⟩, hbload, hbf, b1⟩
    have hn1 : pp.length ≤ 1048576 := by omega
    go_wp2_with fail
    refine (iRisk_ans pp Ap cp w1 load f hg).mono ?_
    rintro e w2 ⟨ts, hts, htl, A2, c2, rfl, o2, b2⟩
    have hg2 := (hg.below b2).more b2.size
    go_wp2_with fail
    refine (sRisk_ans pp Ap cp w2 load f hg2 hn1).mono ?_
    rintro e w3 ⟨us, hus, hul, A3, c3, rfl, o3, b3⟩
    obtain rfl : ts = us := RiskR.uniq hts hus
    have HTS := Lib.hid hts
    have hg3 := (hg2.below b3).more b3.size
    have r23 := ((Rd.own o2).below b3).more b3.size
    have o23 := own_below o2 b3
    have bl3 : Below w.heap.size w w3 := (b1.trans (b2.mono b1.size)).trans (b3.mono (by have := b1.size; have := b2.size; omega))
    go_wp2_with fail
    refine (equalInts_same ts A2 A3 c2 c3 w3 w3.heap.size r23 (Rd.own o3) htl).mono ?_
    rintro e w' ⟨rfl, n4, rfl⟩
    have hg4 : RdG (w3.drewN n4) (w3.drewN n4).heap.size Ap pp := hg3.drewN n4
    have bl4 : Below w.heap.size w (w3.drewN n4) := below_drewN bl3 n4
    have r24 : Rd (w3.drewN n4) (w3.drewN n4).heap.size A2 (ints ts) := r23
    have o24 : (w3.drewN n4).ownsRow w1.heap.size 3 1 (.slice A2 ts.length c2) ts.length (ints ts) := o23
    clear hus hul hts o2 o3 b1 b2 b3 hg hg2 r23 o23
    by_cases h0 : ts.length = 0
    · have hz0 : ((ts.length : Int) == 0) = true := beq_iff_eq.2 (by omega)
      clear h0
      go_wp2_with fail
      refine (sRisk_ans pp Ap cp (w3.drewN n4) load f hg4 hn1).mono ?_
      rintro e w5 ⟨us, hus, hul, A5, c5, rfl, o5, b5⟩
      obtain rfl : ts = us := RiskR.uniq HTS.out hus
      go_wp2_with fail
      refine (equalInts_same ts A2 A5 c2 c5 w5 w5.heap.size ((r24.below b5).more b5.size) (Rd.own o5) htl).mono ?_
      rintro e w' ⟨rfl, n6, rfl⟩
      have bl5 := below_drewN (bl4.trans (b5.mono bl4.size)) n6
      clear hus o5 b5
      go_wp2
      go_ret
      exact ⟨rfl, bl5⟩
    · have hz0 : ((ts.length : Int) == 0) = false := beq_eq_false_iff_ne.2 (by omega)
      have hts0 : 0 < ts.length := by omega
      obtain ⟨a, rfl, ha, hv, hr⟩ := risk_some HTS.out hts0
      have hNl : ts.length = cnt pp := hr.len
      have HR := Lib.hid hr
      have HV := Lib.hid hv
      have hcc := pond_cnt hv
      have hl := pond_len hv
      have hwd := pond_wide hv
      have hp4 : Pnd (w3.drewN n4) (w3.drewN n4).heap.size Ap pp := ⟨hv, hg4⟩
      obtain ⟨g2, rfl, hg2a, hg2b, _, _⟩ := own_some o24 hts0
      clear r24 h0 hr hts0
      generalize hgen : ts.length = N at *
      subst hNl
      clear hgen
      go_wp2_with fail
      refine (iFields_ans pp _ cp _ load hg4).mono ?_
      intro e w5 h5
      obtain ⟨fs, A5, c5, hlab, rfl, o5, b5⟩ := fields_out h5 HV.out
      obtain ⟨g5, rfl, hg5a, hg5b, _, _⟩ := own_some o5 (by omega)
      have hp5 := hp4.up b5
      have o25 := own_below o24 b5
      have HB5 := Lib.hid (bl4.trans (b5.mono bl4.size))
      have HCT : Hid (∀ k, k < cnt pp → w5.cell? ⟨g2, k, none⟩ = some (.int .i64 (at_ ts k))) := Lib.hid fun k hk => own_cell o25 (ints_at' (by rw [HR.out.len]; exact hk))
      have HCF : Hid (∀ k, k < cnt pp → w5.cell? ⟨g5, k, none⟩ = some (.int .i64 (at_ fs k))) := Lib.hid fun k hk => own_cell o5 (ints_at' (by rw [hlab.len]; exact hk))
      have hfa := HCF.out a ha
      have HLB : Hid (∀ i, 0 ≤ at_ ts i ↔ 0 ≤ at_ fs a ∧ at_ fs i = at_ fs a) := Lib.hid fun i => risk_lab HR.out hlab
      obtain ⟨bp, op, A0p, c0p, hAp, hbp, h0p⟩ := hp5.row0
      subst hAp
      clear h5 o24 o25 o5 hg3 hg4 bl3 bl4 b5 hp4 hv hlab
      generalize at_ fs a = ff at *
      by_cases hff : 0 ≤ ff
      · have hd0 : decide (0 ≤ ff) = true := decide_eq_true hff
        go_wp2
        go_loopw [9] (fun i wr => ∃ j n : Nat, j ≤ cnt pp ∧ i = .int .i64 j ∧ wr = w5.drewN n) (fun i _ => cnt pp - (intOf i).toNat)
        case atStart => exact ⟨0, 0, Nat.zero_le _, rfl, rfl⟩
        case round =>
          obtain ⟨i, n, hi, rfl, hwr⟩ := hrel
          have hw5 : ∀ p, wr.cell? p = w5.cell? p := fun p => by rw [hwr]; rfl
          by_cases hlt : i < cnt pp
          · have hpr : Pnd wr wr.heap.size (some ⟨bp, op, none⟩) pp := by rw [hwr]; exact hp5.drewN n
            have HW := Lib.hid hwr
            have hci := (hw5 _).trans (HCT.out i hlt)
            have hfi := (hw5 _).trans (HCF.out i hlt)
            have hfa2 := (hw5 _).trans hfa
            obtain ⟨b', o', A0', c0', b1', o1', c1', he, h00, hcy, hcx⟩ := hpr.cell_ hlt
            cases he
            have hz := thk_bd HV.out hlt
            have hrk := rkF_eq HV.out hlt
            rw [show thk pp i + 1 = 1 + thk pp i by omega] at hrk
            have hyc := row_y hlt
            have hlab := HLB.out i
            have hbi : ∀ k, k < cnt pp → (k ∈ nbP pp i ↔ (wide pp ≤ i ∧ k = i - wide pp) ∨ k = i + wide pp ∨ (0 < i % wide pp ∧ k = i - 1) ∨ (k = i + 1 ∧ 0 < k % wide pp)) := fun k hk => beside_iff (by omega) hk
            have HBI0 := Lib.hid hbi
            have HLT := Lib.hid hlt
            clear hw5 hwr hpr h00 hbi
            obtain ⟨vi, hvi⟩ : ∃ vi, at_ ts i = vi := ⟨_, rfl⟩
            have HVI := Lib.hid hvi
            rw [hvi] at hci hlab
            generalize at_ fs i = fi at *
            generalize thk pp i = z at *
            generalize hWW : wide pp = W at *
            have HWW := Lib.hid hWW
            clear hWW
            obtain ⟨q, hq⟩ : ∃ q, q = (200 : Int) / (1 + z) := ⟨_, rfl⟩
            have q0 : 0 ≤ q := by rw [hq]; exact Int.ediv_nonneg (by omega) (by omega)
            have q1 : q ≤ 200 := by rw [hq]; exact Int.ediv_le_self _ (by omega)
            have hq2 : (200 : Int) / (1 + z) = q := hq.symm
            have hq3 : Int.tdiv 200 (1 + z) = q := by rw [Int.tdiv_eq_ediv_of_nonneg (by omega)]; exact hq2
            rw [hq2] at hrk
            obtain ⟨u, hu⟩ : ∃ u, 1 + q = u := ⟨_, rfl⟩
            rw [hu] at hrk
            have HU := Lib.hid hrk
            have hu0 : 0 ≤ u ∧ u ≤ 201 := by omega
            have e2 : IntKind.i64.wrap (1 + z) = 1 + z := IntWalk.i64_in _ (by omega)
            have e4 : IntKind.i64.wrap q = q := IntWalk.i64_in _ (by omega)
            have e5 : IntKind.i64.wrap u = u := IntWalk.i64_in _ (by omega)
            have d3 : (1 + z == 0) = false := beq_eq_false_iff_ne.2 (by omega)
            have d4 : ¬ 1 + z = 0 := by omega
            have i0 : 0 < pp.length := by omega
            have i1 : ((W : Int) == 0) = false := beq_eq_false_iff_ne.2 (by omega)
            have i2 : ¬ W = 0 := by omega
            have hxc := Nat.mod_lt i (show 0 < W by omega)
            have j1 : 0 ≤ (i : Int) / (W : Int) := Int.ediv_nonneg (by omega) (by omega)
            have j2 : (i : Int) / (W : Int) < pp.length := by omega
            have j3 : 0 ≤ (i : Int) % (W : Int) := Int.emod_nonneg _ (by omega)
            have j4 : (i : Int) % (W : Int) < W := Int.emod_lt_of_pos _ (by omega)
            have j5 : IntKind.i64.wrap ((i : Int) / (W : Int)) = (i : Int) / (W : Int) := IntWalk.i64_in _ (by omega)
            obtain ⟨b1, hB1⟩ : ∃ b1, decide (0 ≤ vi) = b1 := ⟨_, rfl⟩
            have hB2 : (fi == ff) = b1 := by
              rw [← hB1]
              by_cases h : fi = ff
              · rw [beq_iff_eq.2 h, decide_eq_true (hlab.2 ⟨hff, h⟩)]
              · rw [beq_eq_false_iff_ne.2 h, decide_eq_false (fun g => h (hlab.1 g).2)]
            have hB3 : (b1 != b1) = false := by cases b1 <;> rfl
            clear hq hz hvi hrk hlab
            go_wp2
            refine wp_region_quiet_lit (by kernel_rfl) (by kernel_rfl) ?_
            repeat (go_big_quiet_step (fail))
            refine wpQuiet_nil ?_
            intro _ hw'
            obtain ⟨nq, hw''⟩ := hw'
            subst hw''
            go_wp2
            refine wp_region_quiet_lit (by kernel_rfl) (by kernel_rfl) ?_
            repeat (go_big_quiet_step (fail))
            refine wpQuiet_nil ?_
            intro _ hw'
            obtain ⟨nq, hw''⟩ := hw'
            subst hw''
            go_wp2
            clear hcy hcx hq2 hq3 hu e2 e4 d3 d4 j1 j2 j3 j4 j5 q0 q1 hfi hfa2 hB2
            go_loopw [11, 12] (fun lv kv wr => ∃ (k n : Nat) (l : Int), k ≤ cnt pp ∧ lv = .int .i64 l ∧ kv = .int .i64 k ∧ LeastN ts (nbP pp i) k l ∧ wr = w5.drewN n) (fun _ kv _ => cnt pp - (intOf kv).toNat)
            case atStart => exact ⟨0, _, -1, Nat.zero_le _, rfl, rfl, LeastN.zero _ _, by first | (rw [HW.out, drewN_add]; done) | (rw [HW.out, drewN_add, drewN_add]; done) | exact HW.out⟩
            case round =>
              clear HW hci
              obtain ⟨k, n, l, hk, rfl, rfl, hLN, hwr⟩ := hrel
              have hw5 : ∀ p, wr.cell? p = w5.cell? p := fun p => by rw [hwr]; rfl
              have hlb := hLN.bd HR.out.bnd
              have HLN := Lib.hid hLN
              have HW := Lib.hid hwr
              by_cases hlk : k < cnt pp
              · have hck := (hw5 _).trans (HCT.out k hlk)
                have HBI := Lib.hid (HBI0.out k hlk)
                obtain ⟨v, hv⟩ : ∃ v, at_ ts k = v := ⟨_, rfl⟩
                have HVK := Lib.hid hv
                rw [hv] at hck
                obtain ⟨ri, hri⟩ : ∃ ri, i % W = ri := ⟨_, rfl⟩
                obtain ⟨rk, hrk⟩ : ∃ rk, k % W = rk := ⟨_, rfl⟩
                rw [hri, hrk] at HBI
                have m1 : Int.tmod (i : Int) (W : Int) = (ri : Int) := by rw [Int.tmod_eq_emod_of_nonneg (by omega), ← hri]; exact (Int.natCast_emod i W).symm
                have m2 : (i : Int) % (W : Int) = (ri : Int) := by rw [← hri]; exact (Int.natCast_emod i W).symm
                have m3 : Int.tmod (k : Int) (W : Int) = (rk : Int) := by rw [Int.tmod_eq_emod_of_nonneg (by omega), ← hrk]; exact (Int.natCast_emod k W).symm
                have m4 : (k : Int) % (W : Int) = (rk : Int) := by rw [← hrk]; exact (Int.natCast_emod k W).symm
                have hrib : ri < W ∧ ri ≤ i := by rw [← hri]; exact ⟨Nat.mod_lt _ (by omega), Nat.mod_le _ _⟩
                have hrkb : rk < W ∧ rk ≤ k := by rw [← hrk]; exact ⟨Nat.mod_lt _ (by omega), Nat.mod_le _ _⟩
                clear hw5 hwr hLN hv hri hrk
                have hways : (W ≤ i ∧ k = i - W) ∨ k = i + W ∨ (0 < ri ∧ k = i - 1) ∨ (k = i + 1 ∧ 0 < rk) ∨ (ri = 0 ∧ 1 ≤ i ∧ k = i - 1 ∧ ¬ (W ≤ i ∧ k = i - W)) ∨ (k = i + 1 ∧ rk = 0 ∧ ¬ k = i + W) ∨ (¬ (W ≤ i ∧ k = i - W) ∧ ¬ k = i + W ∧ ¬ (1 ≤ i ∧ k = i - 1) ∧ ¬ k = i + 1) := by omega
                rcases hways with hw | hw | hw | hw | hw | hw | hw
                · have p1 : ((k : Int) == (i : Int) - (W : Int)) = true := beq_iff_eq.2 (by omega)
                  have hmem := HBI.out.2 (by omega)
                  have hsub : (v < 0) ∨ (0 ≤ v ∧ l < 0) ∨ (0 ≤ v ∧ 0 ≤ l ∧ v < l) ∨ (0 ≤ v ∧ 0 ≤ l ∧ l ≤ v) := by omega
                  rcases hsub with hs | hs | hs | hs
                  · as_aux_lemma =>
                      have s0 : decide (0 ≤ v) = false := decide_eq_false (by omega)
                      have HL2 : Hid (LeastN ts (nbP pp i) (k + 1) l) := Lib.hid (LeastN.skip HLN.out fun _ h => by rw [HVK.out] at h ⊢; omega)
                      clear hw hs hmem
                      go_wp2
                      go_roundw
                      case rel => exact ⟨k + 1, n, _, by omega, rfl, by go_num, HL2.out, HW.out⟩
                      case measure => simp [intOf]; omega
                  · as_aux_lemma =>
                      have s0 : decide (0 ≤ v) = true := decide_eq_true (by omega)
                      have s1 : decide (l < 0) = true := decide_eq_true (by omega)
                      have HL2 : Hid (LeastN ts (nbP pp i) (k + 1) v) := Lib.hid (by have := LeastN.take HLN.out hmem (by rw [HVK.out]; omega) (by rw [HVK.out]; omega); rwa [HVK.out] at this)
                      clear hw hs hmem
                      go_wp2
                      go_roundw
                      case rel => exact ⟨k + 1, n, _, by omega, rfl, by go_num, HL2.out, HW.out⟩
                      case measure => simp [intOf]; omega
                  · as_aux_lemma =>
                      have s0 : decide (0 ≤ v) = true := decide_eq_true (by omega)
                      have s1 : decide (l < 0) = false := decide_eq_false (by omega)
                      have s2 : decide (v < l) = true := decide_eq_true (by omega)
                      have HL2 : Hid (LeastN ts (nbP pp i) (k + 1) v) := Lib.hid (by have := LeastN.take HLN.out hmem (by rw [HVK.out]; omega) (by rw [HVK.out]; omega); rwa [HVK.out] at this)
                      clear hw hs hmem
                      go_wp2
                      go_roundw
                      case rel => exact ⟨k + 1, n, _, by omega, rfl, by go_num, HL2.out, HW.out⟩
                      case measure => simp [intOf]; omega
                  · as_aux_lemma =>
                      have s0 : decide (0 ≤ v) = true := decide_eq_true (by omega)
                      have s1 : decide (l < 0) = false := decide_eq_false (by omega)
                      have s2 : decide (v < l) = false := decide_eq_false (by omega)
                      have HL2 : Hid (LeastN ts (nbP pp i) (k + 1) l) := Lib.hid (LeastN.skip HLN.out fun _ h => by rw [HVK.out] at h ⊢; omega)
                      clear hw hs hmem
                      go_wp2
                      go_roundw
                      case rel => exact ⟨k + 1, n, _, by omega, rfl, by go_num, HL2.out, HW.out⟩
                      case measure => simp [intOf]; omega
                · have p1 : ((k : Int) == (i : Int) - (W : Int)) = false := beq_eq_false_iff_ne.2 (by omega)
                  have p1n : ¬ (k : Int) = (i : Int) - (W : Int) := by omega
                  have p2 : ((k : Int) == (i : Int) + (W : Int)) = true := beq_iff_eq.2 (by omega)
                  have hmem := HBI.out.2 (by omega)
                  have hsub : (v < 0) ∨ (0 ≤ v ∧ l < 0) ∨ (0 ≤ v ∧ 0 ≤ l ∧ v < l) ∨ (0 ≤ v ∧ 0 ≤ l ∧ l ≤ v) := by omega
                  rcases hsub with hs | hs | hs | hs
                  · as_aux_lemma =>
                      have s0 : decide (0 ≤ v) = false := decide_eq_false (by omega)
                      have HL2 : Hid (LeastN ts (nbP pp i) (k + 1) l) := Lib.hid (LeastN.skip HLN.out fun _ h => by rw [HVK.out] at h ⊢; omega)
                      clear hw hs hmem
                      go_wp2
                      go_roundw
                      case rel => exact ⟨k + 1, n, _, by omega, rfl, by go_num, HL2.out, HW.out⟩
                      case measure => simp [intOf]; omega
                  · as_aux_lemma =>
                      have s0 : decide (0 ≤ v) = true := decide_eq_true (by omega)
                      have s1 : decide (l < 0) = true := decide_eq_true (by omega)
                      have HL2 : Hid (LeastN ts (nbP pp i) (k + 1) v) := Lib.hid (by have := LeastN.take HLN.out hmem (by rw [HVK.out]; omega) (by rw [HVK.out]; omega); rwa [HVK.out] at this)
                      clear hw hs hmem
                      go_wp2
                      go_roundw
                      case rel => exact ⟨k + 1, n, _, by omega, rfl, by go_num, HL2.out, HW.out⟩
                      case measure => simp [intOf]; omega
                  · as_aux_lemma =>
                      have s0 : decide (0 ≤ v) = true := decide_eq_true (by omega)
                      have s1 : decide (l < 0) = false := decide_eq_false (by omega)
                      have s2 : decide (v < l) = true := decide_eq_true (by omega)
                      have HL2 : Hid (LeastN ts (nbP pp i) (k + 1) v) := Lib.hid (by have := LeastN.take HLN.out hmem (by rw [HVK.out]; omega) (by rw [HVK.out]; omega); rwa [HVK.out] at this)
                      clear hw hs hmem
                      go_wp2
                      go_roundw
                      case rel => exact ⟨k + 1, n, _, by omega, rfl, by go_num, HL2.out, HW.out⟩
                      case measure => simp [intOf]; omega
                  · as_aux_lemma =>
                      have s0 : decide (0 ≤ v) = true := decide_eq_true (by omega)
                      have s1 : decide (l < 0) = false := decide_eq_false (by omega)
                      have s2 : decide (v < l) = false := decide_eq_false (by omega)
                      have HL2 : Hid (LeastN ts (nbP pp i) (k + 1) l) := Lib.hid (LeastN.skip HLN.out fun _ h => by rw [HVK.out] at h ⊢; omega)
                      clear hw hs hmem
                      go_wp2
                      go_roundw
                      case rel => exact ⟨k + 1, n, _, by omega, rfl, by go_num, HL2.out, HW.out⟩
                      case measure => simp [intOf]; omega
                · have p1 : ((k : Int) == (i : Int) - (W : Int)) = false := beq_eq_false_iff_ne.2 (by omega)
                  have p1n : ¬ (k : Int) = (i : Int) - (W : Int) := by omega
                  have p2 : ((k : Int) == (i : Int) + (W : Int)) = false := beq_eq_false_iff_ne.2 (by omega)
                  have p2n : ¬ (k : Int) = (i : Int) + (W : Int) := by omega
                  have p3 : ((k : Int) == (i : Int) - 1) = true := beq_iff_eq.2 (by omega)
                  have p4 : decide ((0 : Int) < (ri : Int)) = true := decide_eq_true (by omega)
                  have p4m : decide (0 < ri) = true := decide_eq_true (by omega)
                  have hmem := HBI.out.2 (by omega)
                  have hsub : (v < 0) ∨ (0 ≤ v ∧ l < 0) ∨ (0 ≤ v ∧ 0 ≤ l ∧ v < l) ∨ (0 ≤ v ∧ 0 ≤ l ∧ l ≤ v) := by omega
                  rcases hsub with hs | hs | hs | hs
                  · as_aux_lemma =>
                      have s0 : decide (0 ≤ v) = false := decide_eq_false (by omega)
                      have HL2 : Hid (LeastN ts (nbP pp i) (k + 1) l) := Lib.hid (LeastN.skip HLN.out fun _ h => by rw [HVK.out] at h ⊢; omega)
                      clear hw hs hmem
                      go_wp2
                      go_roundw
                      case rel => exact ⟨k + 1, n, _, by omega, rfl, by go_num, HL2.out, HW.out⟩
                      case measure => simp [intOf]; omega
                  · as_aux_lemma =>
                      have s0 : decide (0 ≤ v) = true := decide_eq_true (by omega)
                      have s1 : decide (l < 0) = true := decide_eq_true (by omega)
                      have HL2 : Hid (LeastN ts (nbP pp i) (k + 1) v) := Lib.hid (by have := LeastN.take HLN.out hmem (by rw [HVK.out]; omega) (by rw [HVK.out]; omega); rwa [HVK.out] at this)
                      clear hw hs hmem
                      go_wp2
                      go_roundw
                      case rel => exact ⟨k + 1, n, _, by omega, rfl, by go_num, HL2.out, HW.out⟩
                      case measure => simp [intOf]; omega
                  · as_aux_lemma =>
                      have s0 : decide (0 ≤ v) = true := decide_eq_true (by omega)
                      have s1 : decide (l < 0) = false := decide_eq_false (by omega)
                      have s2 : decide (v < l) = true := decide_eq_true (by omega)
                      have HL2 : Hid (LeastN ts (nbP pp i) (k + 1) v) := Lib.hid (by have := LeastN.take HLN.out hmem (by rw [HVK.out]; omega) (by rw [HVK.out]; omega); rwa [HVK.out] at this)
                      clear hw hs hmem
                      go_wp2
                      go_roundw
                      case rel => exact ⟨k + 1, n, _, by omega, rfl, by go_num, HL2.out, HW.out⟩
                      case measure => simp [intOf]; omega
                  · as_aux_lemma =>
                      have s0 : decide (0 ≤ v) = true := decide_eq_true (by omega)
                      have s1 : decide (l < 0) = false := decide_eq_false (by omega)
                      have s2 : decide (v < l) = false := decide_eq_false (by omega)
                      have HL2 : Hid (LeastN ts (nbP pp i) (k + 1) l) := Lib.hid (LeastN.skip HLN.out fun _ h => by rw [HVK.out] at h ⊢; omega)
                      clear hw hs hmem
                      go_wp2
                      go_roundw
                      case rel => exact ⟨k + 1, n, _, by omega, rfl, by go_num, HL2.out, HW.out⟩
                      case measure => simp [intOf]; omega
                · have p1 : ((k : Int) == (i : Int) - (W : Int)) = false := beq_eq_false_iff_ne.2 (by omega)
                  have p1n : ¬ (k : Int) = (i : Int) - (W : Int) := by omega
                  have p2 : ((k : Int) == (i : Int) + (W : Int)) = false := beq_eq_false_iff_ne.2 (by omega)
                  have p2n : ¬ (k : Int) = (i : Int) + (W : Int) := by omega
                  have p3 : ((k : Int) == (i : Int) - 1) = false := beq_eq_false_iff_ne.2 (by omega)
                  have p3n : ¬ (k : Int) = (i : Int) - 1 := by omega
                  have p5 : ((k : Int) == (i : Int) + 1) = true := beq_iff_eq.2 (by omega)
                  have p6 : decide ((0 : Int) < (rk : Int)) = true := decide_eq_true (by omega)
                  have p6m : decide (0 < rk) = true := decide_eq_true (by omega)
                  have hmem := HBI.out.2 (by omega)
                  have hsub : (v < 0) ∨ (0 ≤ v ∧ l < 0) ∨ (0 ≤ v ∧ 0 ≤ l ∧ v < l) ∨ (0 ≤ v ∧ 0 ≤ l ∧ l ≤ v) := by omega
                  rcases hsub with hs | hs | hs | hs
                  · as_aux_lemma =>
                      have s0 : decide (0 ≤ v) = false := decide_eq_false (by omega)
                      have HL2 : Hid (LeastN ts (nbP pp i) (k + 1) l) := Lib.hid (LeastN.skip HLN.out fun _ h => by rw [HVK.out] at h ⊢; omega)
                      clear hw hs hmem
                      go_wp2
                      go_roundw
                      case rel => exact ⟨k + 1, n, _, by omega, rfl, by go_num, HL2.out, HW.out⟩
                      case measure => simp [intOf]; omega
                  · as_aux_lemma =>
                      have s0 : decide (0 ≤ v) = true := decide_eq_true (by omega)
                      have s1 : decide (l < 0) = true := decide_eq_true (by omega)
                      have HL2 : Hid (LeastN ts (nbP pp i) (k + 1) v) := Lib.hid (by have := LeastN.take HLN.out hmem (by rw [HVK.out]; omega) (by rw [HVK.out]; omega); rwa [HVK.out] at this)
                      clear hw hs hmem
                      go_wp2
                      go_roundw
                      case rel => exact ⟨k + 1, n, _, by omega, rfl, by go_num, HL2.out, HW.out⟩
                      case measure => simp [intOf]; omega
                  · as_aux_lemma =>
                      have s0 : decide (0 ≤ v) = true := decide_eq_true (by omega)
                      have s1 : decide (l < 0) = false := decide_eq_false (by omega)
                      have s2 : decide (v < l) = true := decide_eq_true (by omega)
                      have HL2 : Hid (LeastN ts (nbP pp i) (k + 1) v) := Lib.hid (by have := LeastN.take HLN.out hmem (by rw [HVK.out]; omega) (by rw [HVK.out]; omega); rwa [HVK.out] at this)
                      clear hw hs hmem
                      go_wp2
                      go_roundw
                      case rel => exact ⟨k + 1, n, _, by omega, rfl, by go_num, HL2.out, HW.out⟩
                      case measure => simp [intOf]; omega
                  · as_aux_lemma =>
                      have s0 : decide (0 ≤ v) = true := decide_eq_true (by omega)
                      have s1 : decide (l < 0) = false := decide_eq_false (by omega)
                      have s2 : decide (v < l) = false := decide_eq_false (by omega)
                      have HL2 : Hid (LeastN ts (nbP pp i) (k + 1) l) := Lib.hid (LeastN.skip HLN.out fun _ h => by rw [HVK.out] at h ⊢; omega)
                      clear hw hs hmem
                      go_wp2
                      go_roundw
                      case rel => exact ⟨k + 1, n, _, by omega, rfl, by go_num, HL2.out, HW.out⟩
                      case measure => simp [intOf]; omega
                · as_aux_lemma =>
                    have p1 : ((k : Int) == (i : Int) - (W : Int)) = false := beq_eq_false_iff_ne.2 (by omega)
                    have p1n : ¬ (k : Int) = (i : Int) - (W : Int) := by omega
                    have p2 : ((k : Int) == (i : Int) + (W : Int)) = false := beq_eq_false_iff_ne.2 (by omega)
                    have p2n : ¬ (k : Int) = (i : Int) + (W : Int) := by omega
                    have p3 : ((k : Int) == (i : Int) - 1) = true := beq_iff_eq.2 (by omega)
                    have p4 : decide ((0 : Int) < (ri : Int)) = false := decide_eq_false (by omega)
                    have p4m : decide (0 < ri) = false := decide_eq_false (by omega)
                    have p5 : ((k : Int) == (i : Int) + 1) = false := beq_eq_false_iff_ne.2 (by omega)
                    have p5n : ¬ (k : Int) = (i : Int) + 1 := by omega
                    have HL2 : Hid (LeastN ts (nbP pp i) (k + 1) l) := Lib.hid (LeastN.skip HLN.out fun h _ => by have := HBI.out.1 h; omega)
                    clear hw
                    go_wp2
                    go_roundw
                    case rel => exact ⟨k + 1, n, _, by omega, rfl, by go_num, HL2.out, HW.out⟩
                    case measure => simp [intOf]; omega
                · as_aux_lemma =>
                    have p1 : ((k : Int) == (i : Int) - (W : Int)) = false := beq_eq_false_iff_ne.2 (by omega)
                    have p1n : ¬ (k : Int) = (i : Int) - (W : Int) := by omega
                    have p2 : ((k : Int) == (i : Int) + (W : Int)) = false := beq_eq_false_iff_ne.2 (by omega)
                    have p2n : ¬ (k : Int) = (i : Int) + (W : Int) := by omega
                    have p3 : ((k : Int) == (i : Int) - 1) = false := beq_eq_false_iff_ne.2 (by omega)
                    have p3n : ¬ (k : Int) = (i : Int) - 1 := by omega
                    have p5 : ((k : Int) == (i : Int) + 1) = true := beq_iff_eq.2 (by omega)
                    have p6 : decide ((0 : Int) < (rk : Int)) = false := decide_eq_false (by omega)
                    have p6m : decide (0 < rk) = false := decide_eq_false (by omega)
                    have HL2 : Hid (LeastN ts (nbP pp i) (k + 1) l) := Lib.hid (LeastN.skip HLN.out fun h _ => by have := HBI.out.1 h; omega)
                    clear hw
                    go_wp2
                    go_roundw
                    case rel => exact ⟨k + 1, n, _, by omega, rfl, by go_num, HL2.out, HW.out⟩
                    case measure => simp [intOf]; omega
                · as_aux_lemma =>
                    have p1 : ((k : Int) == (i : Int) - (W : Int)) = false := beq_eq_false_iff_ne.2 (by omega)
                    have p1n : ¬ (k : Int) = (i : Int) - (W : Int) := by omega
                    have p2 : ((k : Int) == (i : Int) + (W : Int)) = false := beq_eq_false_iff_ne.2 (by omega)
                    have p2n : ¬ (k : Int) = (i : Int) + (W : Int) := by omega
                    have p3 : ((k : Int) == (i : Int) - 1) = false := beq_eq_false_iff_ne.2 (by omega)
                    have p3n : ¬ (k : Int) = (i : Int) - 1 := by omega
                    have p5 : ((k : Int) == (i : Int) + 1) = false := beq_eq_false_iff_ne.2 (by omega)
                    have p5n : ¬ (k : Int) = (i : Int) + 1 := by omega
                    have HL2 : Hid (LeastN ts (nbP pp i) (k + 1) l) := Lib.hid (LeastN.skip HLN.out fun h _ => by have := HBI.out.1 h; omega)
                    clear hw
                    go_wp2
                    go_roundw
                    case rel => exact ⟨k + 1, n, _, by omega, rfl, by go_num, HL2.out, HW.out⟩
                    case measure => simp [intOf]; omega
              · obtain rfl : k = cnt pp := by omega
                have hci := (hw5 _).trans (HCT.out i HLT.out)
                rw [HVI.out] at hci
                have hlt := HLT.out
                clear hw5 hwr hLN hk
                cases b1 <;> by_cases hia : i = a
                · as_aux_lemma =>
                    have y1 : ((i : Int) == (a : Int)) = true := beq_iff_eq.2 (by omega)
                    have y2 : ((i : Int) != (a : Int)) = false := by rw [bne, beq_iff_eq.2 (show (i : Int) = (a : Int) by omega)]; rfl
                    have HIA := Lib.hid hia
                    clear hia
                    go_wp2
                    go_roundw
                    case rel => exact ⟨i + 1, n, by omega, by go_num, HW.out⟩
                    case measure => simp [intOf]; omega
                · as_aux_lemma =>
                    have y1 : ((i : Int) == (a : Int)) = false := beq_eq_false_iff_ne.2 (by omega)
                    have y2 : ((i : Int) != (a : Int)) = true := bne_iff_ne.2 (by omega)
                    have y3 : ¬ (i : Int) = (a : Int) := by omega
                    have HIA := Lib.hid hia
                    clear hia
                    go_wp2
                    go_roundw
                    case rel => exact ⟨i + 1, n, by omega, by go_num, HW.out⟩
                    case measure => simp [intOf]; omega
                · as_aux_lemma =>
                    have y1 : ((i : Int) == (a : Int)) = true := beq_iff_eq.2 (by omega)
                    have y2 : ((i : Int) != (a : Int)) = false := by rw [bne, beq_iff_eq.2 (show (i : Int) = (a : Int) by omega)]; rfl
                    have hv0 : 0 ≤ vi := of_decide_eq_true hB1
                    obtain rfl : vi = u := by
                      obtain rfl : i = a := hia
                      have h := risk_self HR.out (by rw [HVI.out]; exact hv0)
                      rw [HVI.out, HU.out] at h
                      exact h
                    have y4 : (vi != vi) = false := by simp
                    clear hv0
                    have HIA := Lib.hid hia
                    clear hia
                    go_wp2
                    go_roundw
                    case rel => exact ⟨i + 1, n, by omega, by go_num, HW.out⟩
                    case measure => simp [intOf]; omega
                · as_aux_lemma =>
                    have y1 : ((i : Int) == (a : Int)) = false := beq_eq_false_iff_ne.2 (by omega)
                    have y2 : ((i : Int) != (a : Int)) = true := bne_iff_ne.2 (by omega)
                    have y3 : ¬ (i : Int) = (a : Int) := by omega
                    have hv0 : 0 ≤ vi := of_decide_eq_true hB1
                    have e7 : l + u = vi := by
                      have h := LeastN.done HV.out HR.out HLN.out hlt (by rw [HVI.out]; exact hv0) hia
                      rw [HVI.out, HU.out] at h
                      exact h.symm
                    have e8 : IntKind.i64.wrap vi = vi := IntWalk.i64_in _ (by have := HR.out.bnd i; rw [HVI.out] at this; omega)
                    have y4 : (vi != vi) = false := by simp
                    clear hv0
                    have HIA := Lib.hid hia
                    clear hia
                    go_wp2
                    go_roundw
                    case rel => exact ⟨i + 1, n, by omega, by go_num, HW.out⟩
                    case measure => simp [intOf]; omega
          · obtain rfl : i = cnt pp := by omega
            have bl6 : Below w.heap.size w wr := by rw [hwr]; exact below_drewN HB5.out n
            clear hw5 hwr
            go_wp2
            go_ret
            exact ⟨rfl, bl6⟩
      · have hd0 : decide (0 ≤ ff) = false := decide_eq_false hff
        go_wp2
        go_loopw [9] (fun i wr => ∃ j n : Nat, j ≤ cnt pp ∧ i = .int .i64 j ∧ wr = w5.drewN n) (fun i _ => cnt pp - (intOf i).toNat)
        case atStart => exact ⟨0, 0, Nat.zero_le _, rfl, rfl⟩
        case round =>
          obtain ⟨i, n, hi, rfl, hwr⟩ := hrel
          have hw5 : ∀ p, wr.cell? p = w5.cell? p := fun p => by rw [hwr]; rfl
          by_cases hlt : i < cnt pp
          · have hpr : Pnd wr wr.heap.size (some ⟨bp, op, none⟩) pp := by rw [hwr]; exact hp5.drewN n
            have HW := Lib.hid hwr
            have hci := (hw5 _).trans (HCT.out i hlt)
            have hfi := (hw5 _).trans (HCF.out i hlt)
            have hfa2 := (hw5 _).trans hfa
            obtain ⟨b', o', A0', c0', b1', o1', c1', he, h00, hcy, hcx⟩ := hpr.cell_ hlt
            cases he
            have hz := thk_bd HV.out hlt
            have hrk := rkF_eq HV.out hlt
            rw [show thk pp i + 1 = 1 + thk pp i by omega] at hrk
            have hyc := row_y hlt
            have hlab := HLB.out i
            have hbi : ∀ k, k < cnt pp → (k ∈ nbP pp i ↔ (wide pp ≤ i ∧ k = i - wide pp) ∨ k = i + wide pp ∨ (0 < i % wide pp ∧ k = i - 1) ∨ (k = i + 1 ∧ 0 < k % wide pp)) := fun k hk => beside_iff (by omega) hk
            have HBI0 := Lib.hid hbi
            have HLT := Lib.hid hlt
            clear hw5 hwr hpr h00 hbi
            obtain ⟨vi, hvi⟩ : ∃ vi, at_ ts i = vi := ⟨_, rfl⟩
            have HVI := Lib.hid hvi
            rw [hvi] at hci hlab
            generalize at_ fs i = fi at *
            generalize thk pp i = z at *
            generalize hWW : wide pp = W at *
            have HWW := Lib.hid hWW
            clear hWW
            obtain ⟨q, hq⟩ : ∃ q, q = (200 : Int) / (1 + z) := ⟨_, rfl⟩
            have q0 : 0 ≤ q := by rw [hq]; exact Int.ediv_nonneg (by omega) (by omega)
            have q1 : q ≤ 200 := by rw [hq]; exact Int.ediv_le_self _ (by omega)
            have hq2 : (200 : Int) / (1 + z) = q := hq.symm
            have hq3 : Int.tdiv 200 (1 + z) = q := by rw [Int.tdiv_eq_ediv_of_nonneg (by omega)]; exact hq2
            rw [hq2] at hrk
            obtain ⟨u, hu⟩ : ∃ u, 1 + q = u := ⟨_, rfl⟩
            rw [hu] at hrk
            have HU := Lib.hid hrk
            have hu0 : 0 ≤ u ∧ u ≤ 201 := by omega
            have e2 : IntKind.i64.wrap (1 + z) = 1 + z := IntWalk.i64_in _ (by omega)
            have e4 : IntKind.i64.wrap q = q := IntWalk.i64_in _ (by omega)
            have e5 : IntKind.i64.wrap u = u := IntWalk.i64_in _ (by omega)
            have d3 : (1 + z == 0) = false := beq_eq_false_iff_ne.2 (by omega)
            have d4 : ¬ 1 + z = 0 := by omega
            have i0 : 0 < pp.length := by omega
            have i1 : ((W : Int) == 0) = false := beq_eq_false_iff_ne.2 (by omega)
            have i2 : ¬ W = 0 := by omega
            have hxc := Nat.mod_lt i (show 0 < W by omega)
            have j1 : 0 ≤ (i : Int) / (W : Int) := Int.ediv_nonneg (by omega) (by omega)
            have j2 : (i : Int) / (W : Int) < pp.length := by omega
            have j3 : 0 ≤ (i : Int) % (W : Int) := Int.emod_nonneg _ (by omega)
            have j4 : (i : Int) % (W : Int) < W := Int.emod_lt_of_pos _ (by omega)
            have j5 : IntKind.i64.wrap ((i : Int) / (W : Int)) = (i : Int) / (W : Int) := IntWalk.i64_in _ (by omega)
            obtain ⟨b1, hB1⟩ : ∃ b1, decide (0 ≤ vi) = b1 := ⟨_, rfl⟩
            obtain rfl : b1 = false := by rw [← hB1]; exact decide_eq_false (fun g => by have := (hlab.1 g).1; omega)
            have hB2 : True := trivial
            have hB3 : True := trivial
            clear hq hz hvi hrk hlab
            go_wp2
            refine wp_region_quiet_lit (by kernel_rfl) (by kernel_rfl) ?_
            repeat (go_big_quiet_step (fail))
            refine wpQuiet_nil ?_
            intro _ hw'
            obtain ⟨nq, hw''⟩ := hw'
            subst hw''
            go_wp2
            refine wp_region_quiet_lit (by kernel_rfl) (by kernel_rfl) ?_
            repeat (go_big_quiet_step (fail))
            refine wpQuiet_nil ?_
            intro _ hw'
            obtain ⟨nq, hw''⟩ := hw'
            subst hw''
            go_wp2
            clear hcy hcx hq2 hq3 hu e2 e4 d3 d4 j1 j2 j3 j4 j5 q0 q1 hfi hfa2 hB2
            go_loopw [11, 12] (fun lv kv wr => ∃ (k n : Nat) (l : Int), k ≤ cnt pp ∧ lv = .int .i64 l ∧ kv = .int .i64 k ∧ LeastN ts (nbP pp i) k l ∧ wr = w5.drewN n) (fun _ kv _ => cnt pp - (intOf kv).toNat)
            case atStart => exact ⟨0, _, -1, Nat.zero_le _, rfl, rfl, LeastN.zero _ _, by first | (rw [HW.out, drewN_add]; done) | (rw [HW.out, drewN_add, drewN_add]; done) | exact HW.out⟩
            case round =>
              clear HW hci
              obtain ⟨k, n, l, hk, rfl, rfl, hLN, hwr⟩ := hrel
              have hw5 : ∀ p, wr.cell? p = w5.cell? p := fun p => by rw [hwr]; rfl
              have hlb := hLN.bd HR.out.bnd
              have HLN := Lib.hid hLN
              have HW := Lib.hid hwr
              by_cases hlk : k < cnt pp
              · have hck := (hw5 _).trans (HCT.out k hlk)
                have HBI := Lib.hid (HBI0.out k hlk)
                obtain ⟨v, hv⟩ : ∃ v, at_ ts k = v := ⟨_, rfl⟩
                have HVK := Lib.hid hv
                rw [hv] at hck
                obtain ⟨ri, hri⟩ : ∃ ri, i % W = ri := ⟨_, rfl⟩
                obtain ⟨rk, hrk⟩ : ∃ rk, k % W = rk := ⟨_, rfl⟩
                rw [hri, hrk] at HBI
                have m1 : Int.tmod (i : Int) (W : Int) = (ri : Int) := by rw [Int.tmod_eq_emod_of_nonneg (by omega), ← hri]; exact (Int.natCast_emod i W).symm
                have m2 : (i : Int) % (W : Int) = (ri : Int) := by rw [← hri]; exact (Int.natCast_emod i W).symm
                have m3 : Int.tmod (k : Int) (W : Int) = (rk : Int) := by rw [Int.tmod_eq_emod_of_nonneg (by omega), ← hrk]; exact (Int.natCast_emod k W).symm
                have m4 : (k : Int) % (W : Int) = (rk : Int) := by rw [← hrk]; exact (Int.natCast_emod k W).symm
                have hrib : ri < W ∧ ri ≤ i := by rw [← hri]; exact ⟨Nat.mod_lt _ (by omega), Nat.mod_le _ _⟩
                have hrkb : rk < W ∧ rk ≤ k := by rw [← hrk]; exact ⟨Nat.mod_lt _ (by omega), Nat.mod_le _ _⟩
                clear hw5 hwr hLN hv hri hrk
                have hways : (W ≤ i ∧ k = i - W) ∨ k = i + W ∨ (0 < ri ∧ k = i - 1) ∨ (k = i + 1 ∧ 0 < rk) ∨ (ri = 0 ∧ 1 ≤ i ∧ k = i - 1 ∧ ¬ (W ≤ i ∧ k = i - W)) ∨ (k = i + 1 ∧ rk = 0 ∧ ¬ k = i + W) ∨ (¬ (W ≤ i ∧ k = i - W) ∧ ¬ k = i + W ∧ ¬ (1 ≤ i ∧ k = i - 1) ∧ ¬ k = i + 1) := by omega
                rcases hways with hw | hw | hw | hw | hw | hw | hw
                · have p1 : ((k : Int) == (i : Int) - (W : Int)) = true := beq_iff_eq.2 (by omega)
                  have hmem := HBI.out.2 (by omega)
                  have hsub : (v < 0) ∨ (0 ≤ v ∧ l < 0) ∨ (0 ≤ v ∧ 0 ≤ l ∧ v < l) ∨ (0 ≤ v ∧ 0 ≤ l ∧ l ≤ v) := by omega
                  rcases hsub with hs | hs | hs | hs
                  · as_aux_lemma =>
                      have s0 : decide (0 ≤ v) = false := decide_eq_false (by omega)
                      have HL2 : Hid (LeastN ts (nbP pp i) (k + 1) l) := Lib.hid (LeastN.skip HLN.out fun _ h => by rw [HVK.out] at h ⊢; omega)
                      clear hw hs hmem
                      go_wp2
                      go_roundw
                      case rel => exact ⟨k + 1, n, _, by omega, rfl, by go_num, HL2.out, HW.out⟩
                      case measure => simp [intOf]; omega
                  · as_aux_lemma =>
                      have s0 : decide (0 ≤ v) = true := decide_eq_true (by omega)
                      have s1 : decide (l < 0) = true := decide_eq_true (by omega)
                      have HL2 : Hid (LeastN ts (nbP pp i) (k + 1) v) := Lib.hid (by have := LeastN.take HLN.out hmem (by rw [HVK.out]; omega) (by rw [HVK.out]; omega); rwa [HVK.out] at this)
                      clear hw hs hmem
                      go_wp2
                      go_roundw
                      case rel => exact ⟨k + 1, n, _, by omega, rfl, by go_num, HL2.out, HW.out⟩
                      case measure => simp [intOf]; omega
                  · as_aux_lemma =>
                      have s0 : decide (0 ≤ v) = true := decide_eq_true (by omega)
                      have s1 : decide (l < 0) = false := decide_eq_false (by omega)
                      have s2 : decide (v < l) = true := decide_eq_true (by omega)
                      have HL2 : Hid (LeastN ts (nbP pp i) (k + 1) v) := Lib.hid (by have := LeastN.take HLN.out hmem (by rw [HVK.out]; omega) (by rw [HVK.out]; omega); rwa [HVK.out] at this)
                      clear hw hs hmem
                      go_wp2
                      go_roundw
                      case rel => exact ⟨k + 1, n, _, by omega, rfl, by go_num, HL2.out, HW.out⟩
                      case measure => simp [intOf]; omega
                  · as_aux_lemma =>
                      have s0 : decide (0 ≤ v) = true := decide_eq_true (by omega)
                      have s1 : decide (l < 0) = false := decide_eq_false (by omega)
                      have s2 : decide (v < l) = false := decide_eq_false (by omega)
                      have HL2 : Hid (LeastN ts (nbP pp i) (k + 1) l) := Lib.hid (LeastN.skip HLN.out fun _ h => by rw [HVK.out] at h ⊢; omega)
                      clear hw hs hmem
                      go_wp2
                      go_roundw
                      case rel => exact ⟨k + 1, n, _, by omega, rfl, by go_num, HL2.out, HW.out⟩
                      case measure => simp [intOf]; omega
                · have p1 : ((k : Int) == (i : Int) - (W : Int)) = false := beq_eq_false_iff_ne.2 (by omega)
                  have p1n : ¬ (k : Int) = (i : Int) - (W : Int) := by omega
                  have p2 : ((k : Int) == (i : Int) + (W : Int)) = true := beq_iff_eq.2 (by omega)
                  have hmem := HBI.out.2 (by omega)
                  have hsub : (v < 0) ∨ (0 ≤ v ∧ l < 0) ∨ (0 ≤ v ∧ 0 ≤ l ∧ v < l) ∨ (0 ≤ v ∧ 0 ≤ l ∧ l ≤ v) := by omega
                  rcases hsub with hs | hs | hs | hs
                  · as_aux_lemma =>
                      have s0 : decide (0 ≤ v) = false := decide_eq_false (by omega)
                      have HL2 : Hid (LeastN ts (nbP pp i) (k + 1) l) := Lib.hid (LeastN.skip HLN.out fun _ h => by rw [HVK.out] at h ⊢; omega)
                      clear hw hs hmem
                      go_wp2
                      go_roundw
                      case rel => exact ⟨k + 1, n, _, by omega, rfl, by go_num, HL2.out, HW.out⟩
                      case measure => simp [intOf]; omega
                  · as_aux_lemma =>
                      have s0 : decide (0 ≤ v) = true := decide_eq_true (by omega)
                      have s1 : decide (l < 0) = true := decide_eq_true (by omega)
                      have HL2 : Hid (LeastN ts (nbP pp i) (k + 1) v) := Lib.hid (by have := LeastN.take HLN.out hmem (by rw [HVK.out]; omega) (by rw [HVK.out]; omega); rwa [HVK.out] at this)
                      clear hw hs hmem
                      go_wp2
                      go_roundw
                      case rel => exact ⟨k + 1, n, _, by omega, rfl, by go_num, HL2.out, HW.out⟩
                      case measure => simp [intOf]; omega
                  · as_aux_lemma =>
                      have s0 : decide (0 ≤ v) = true := decide_eq_true (by omega)
                      have s1 : decide (l < 0) = false := decide_eq_false (by omega)
                      have s2 : decide (v < l) = true := decide_eq_true (by omega)
                      have HL2 : Hid (LeastN ts (nbP pp i) (k + 1) v) := Lib.hid (by have := LeastN.take HLN.out hmem (by rw [HVK.out]; omega) (by rw [HVK.out]; omega); rwa [HVK.out] at this)
                      clear hw hs hmem
                      go_wp2
                      go_roundw
                      case rel => exact ⟨k + 1, n, _, by omega, rfl, by go_num, HL2.out, HW.out⟩
                      case measure => simp [intOf]; omega
                  · as_aux_lemma =>
                      have s0 : decide (0 ≤ v) = true := decide_eq_true (by omega)
                      have s1 : decide (l < 0) = false := decide_eq_false (by omega)
                      have s2 : decide (v < l) = false := decide_eq_false (by omega)
                      have HL2 : Hid (LeastN ts (nbP pp i) (k + 1) l) := Lib.hid (LeastN.skip HLN.out fun _ h => by rw [HVK.out] at h ⊢; omega)
                      clear hw hs hmem
                      go_wp2
                      go_roundw
                      case rel => exact ⟨k + 1, n, _, by omega, rfl, by go_num, HL2.out, HW.out⟩
                      case measure => simp [intOf]; omega
                · have p1 : ((k : Int) == (i : Int) - (W : Int)) = false := beq_eq_false_iff_ne.2 (by omega)
                  have p1n : ¬ (k : Int) = (i : Int) - (W : Int) := by omega
                  have p2 : ((k : Int) == (i : Int) + (W : Int)) = false := beq_eq_false_iff_ne.2 (by omega)
                  have p2n : ¬ (k : Int) = (i : Int) + (W : Int) := by omega
                  have p3 : ((k : Int) == (i : Int) - 1) = true := beq_iff_eq.2 (by omega)
                  have p4 : decide ((0 : Int) < (ri : Int)) = true := decide_eq_true (by omega)
                  have p4m : decide (0 < ri) = true := decide_eq_true (by omega)
                  have hmem := HBI.out.2 (by omega)
                  have hsub : (v < 0) ∨ (0 ≤ v ∧ l < 0) ∨ (0 ≤ v ∧ 0 ≤ l ∧ v < l) ∨ (0 ≤ v ∧ 0 ≤ l ∧ l ≤ v) := by omega
                  rcases hsub with hs | hs | hs | hs
                  · as_aux_lemma =>
                      have s0 : decide (0 ≤ v) = false := decide_eq_false (by omega)
                      have HL2 : Hid (LeastN ts (nbP pp i) (k + 1) l) := Lib.hid (LeastN.skip HLN.out fun _ h => by rw [HVK.out] at h ⊢; omega)
                      clear hw hs hmem
                      go_wp2
                      go_roundw
                      case rel => exact ⟨k + 1, n, _, by omega, rfl, by go_num, HL2.out, HW.out⟩
                      case measure => simp [intOf]; omega
                  · as_aux_lemma =>
                      have s0 : decide (0 ≤ v) = true := decide_eq_true (by omega)
                      have s1 : decide (l < 0) = true := decide_eq_true (by omega)
                      have HL2 : Hid (LeastN ts (nbP pp i) (k + 1) v) := Lib.hid (by have := LeastN.take HLN.out hmem (by rw [HVK.out]; omega) (by rw [HVK.out]; omega); rwa [HVK.out] at this)
                      clear hw hs hmem
                      go_wp2
                      go_roundw
                      case rel => exact ⟨k + 1, n, _, by omega, rfl, by go_num, HL2.out, HW.out⟩
                      case measure => simp [intOf]; omega
                  · as_aux_lemma =>
                      have s0 : decide (0 ≤ v) = true := decide_eq_true (by omega)
                      have s1 : decide (l < 0) = false := decide_eq_false (by omega)
                      have s2 : decide (v < l) = true := decide_eq_true (by omega)
                      have HL2 : Hid (LeastN ts (nbP pp i) (k + 1) v) := Lib.hid (by have := LeastN.take HLN.out hmem (by rw [HVK.out]; omega) (by rw [HVK.out]; omega); rwa [HVK.out] at this)
                      clear hw hs hmem
                      go_wp2
                      go_roundw
                      case rel => exact ⟨k + 1, n, _, by omega, rfl, by go_num, HL2.out, HW.out⟩
                      case measure => simp [intOf]; omega
                  · as_aux_lemma =>
                      have s0 : decide (0 ≤ v) = true := decide_eq_true (by omega)
                      have s1 : decide (l < 0) = false := decide_eq_false (by omega)
                      have s2 : decide (v < l) = false := decide_eq_false (by omega)
                      have HL2 : Hid (LeastN ts (nbP pp i) (k + 1) l) := Lib.hid (LeastN.skip HLN.out fun _ h => by rw [HVK.out] at h ⊢; omega)
                      clear hw hs hmem
                      go_wp2
                      go_roundw
                      case rel => exact ⟨k + 1, n, _, by omega, rfl, by go_num, HL2.out, HW.out⟩
                      case measure => simp [intOf]; omega
                · have p1 : ((k : Int) == (i : Int) - (W : Int)) = false := beq_eq_false_iff_ne.2 (by omega)
                  have p1n : ¬ (k : Int) = (i : Int) - (W : Int) := by omega
                  have p2 : ((k : Int) == (i : Int) + (W : Int)) = false := beq_eq_false_iff_ne.2 (by omega)
                  have p2n : ¬ (k : Int) = (i : Int) + (W : Int) := by omega
                  have p3 : ((k : Int) == (i : Int) - 1) = false := beq_eq_false_iff_ne.2 (by omega)
                  have p3n : ¬ (k : Int) = (i : Int) - 1 := by omega
                  have p5 : ((k : Int) == (i : Int) + 1) = true := beq_iff_eq.2 (by omega)
                  have p6 : decide ((0 : Int) < (rk : Int)) = true := decide_eq_true (by omega)
                  have p6m : decide (0 < rk) = true := decide_eq_true (by omega)
                  have hmem := HBI.out.2 (by omega)
                  have hsub : (v < 0) ∨ (0 ≤ v ∧ l < 0) ∨ (0 ≤ v ∧ 0 ≤ l ∧ v < l) ∨ (0 ≤ v ∧ 0 ≤ l ∧ l ≤ v) := by omega
                  rcases hsub with hs | hs | hs | hs
                  · as_aux_lemma =>
                      have s0 : decide (0 ≤ v) = false := decide_eq_false (by omega)
                      have HL2 : Hid (LeastN ts (nbP pp i) (k + 1) l) := Lib.hid (LeastN.skip HLN.out fun _ h => by rw [HVK.out] at h ⊢; omega)
                      clear hw hs hmem
                      go_wp2
                      go_roundw
                      case rel => exact ⟨k + 1, n, _, by omega, rfl, by go_num, HL2.out, HW.out⟩
                      case measure => simp [intOf]; omega
                  · as_aux_lemma =>
                      have s0 : decide (0 ≤ v) = true := decide_eq_true (by omega)
                      have s1 : decide (l < 0) = true := decide_eq_true (by omega)
                      have HL2 : Hid (LeastN ts (nbP pp i) (k + 1) v) := Lib.hid (by have := LeastN.take HLN.out hmem (by rw [HVK.out]; omega) (by rw [HVK.out]; omega); rwa [HVK.out] at this)
                      clear hw hs hmem
                      go_wp2
                      go_roundw
                      case rel => exact ⟨k + 1, n, _, by omega, rfl, by go_num, HL2.out, HW.out⟩
                      case measure => simp [intOf]; omega
                  · as_aux_lemma =>
                      have s0 : decide (0 ≤ v) = true := decide_eq_true (by omega)
                      have s1 : decide (l < 0) = false := decide_eq_false (by omega)
                      have s2 : decide (v < l) = true := decide_eq_true (by omega)
                      have HL2 : Hid (LeastN ts (nbP pp i) (k + 1) v) := Lib.hid (by have := LeastN.take HLN.out hmem (by rw [HVK.out]; omega) (by rw [HVK.out]; omega); rwa [HVK.out] at this)
                      clear hw hs hmem
                      go_wp2
                      go_roundw
                      case rel => exact ⟨k + 1, n, _, by omega, rfl, by go_num, HL2.out, HW.out⟩
                      case measure => simp [intOf]; omega
                  · as_aux_lemma =>
                      have s0 : decide (0 ≤ v) = true := decide_eq_true (by omega)
                      have s1 : decide (l < 0) = false := decide_eq_false (by omega)
                      have s2 : decide (v < l) = false := decide_eq_false (by omega)
                      have HL2 : Hid (LeastN ts (nbP pp i) (k + 1) l) := Lib.hid (LeastN.skip HLN.out fun _ h => by rw [HVK.out] at h ⊢; omega)
                      clear hw hs hmem
                      go_wp2
                      go_roundw
                      case rel => exact ⟨k + 1, n, _, by omega, rfl, by go_num, HL2.out, HW.out⟩
                      case measure => simp [intOf]; omega
                · as_aux_lemma =>
                    have p1 : ((k : Int) == (i : Int) - (W : Int)) = false := beq_eq_false_iff_ne.2 (by omega)
                    have p1n : ¬ (k : Int) = (i : Int) - (W : Int) := by omega
                    have p2 : ((k : Int) == (i : Int) + (W : Int)) = false := beq_eq_false_iff_ne.2 (by omega)
                    have p2n : ¬ (k : Int) = (i : Int) + (W : Int) := by omega
                    have p3 : ((k : Int) == (i : Int) - 1) = true := beq_iff_eq.2 (by omega)
                    have p4 : decide ((0 : Int) < (ri : Int)) = false := decide_eq_false (by omega)
                    have p4m : decide (0 < ri) = false := decide_eq_false (by omega)
                    have p5 : ((k : Int) == (i : Int) + 1) = false := beq_eq_false_iff_ne.2 (by omega)
                    have p5n : ¬ (k : Int) = (i : Int) + 1 := by omega
                    have HL2 : Hid (LeastN ts (nbP pp i) (k + 1) l) := Lib.hid (LeastN.skip HLN.out fun h _ => by have := HBI.out.1 h; omega)
                    clear hw
                    go_wp2
                    go_roundw
                    case rel => exact ⟨k + 1, n, _, by omega, rfl, by go_num, HL2.out, HW.out⟩
                    case measure => simp [intOf]; omega
                · as_aux_lemma =>
                    have p1 : ((k : Int) == (i : Int) - (W : Int)) = false := beq_eq_false_iff_ne.2 (by omega)
                    have p1n : ¬ (k : Int) = (i : Int) - (W : Int) := by omega
                    have p2 : ((k : Int) == (i : Int) + (W : Int)) = false := beq_eq_false_iff_ne.2 (by omega)
                    have p2n : ¬ (k : Int) = (i : Int) + (W : Int) := by omega
                    have p3 : ((k : Int) == (i : Int) - 1) = false := beq_eq_false_iff_ne.2 (by omega)
                    have p3n : ¬ (k : Int) = (i : Int) - 1 := by omega
                    have p5 : ((k : Int) == (i : Int) + 1) = true := beq_iff_eq.2 (by omega)
                    have p6 : decide ((0 : Int) < (rk : Int)) = false := decide_eq_false (by omega)
                    have p6m : decide (0 < rk) = false := decide_eq_false (by omega)
                    have HL2 : Hid (LeastN ts (nbP pp i) (k + 1) l) := Lib.hid (LeastN.skip HLN.out fun h _ => by have := HBI.out.1 h; omega)
                    clear hw
                    go_wp2
                    go_roundw
                    case rel => exact ⟨k + 1, n, _, by omega, rfl, by go_num, HL2.out, HW.out⟩
                    case measure => simp [intOf]; omega
                · as_aux_lemma =>
                    have p1 : ((k : Int) == (i : Int) - (W : Int)) = false := beq_eq_false_iff_ne.2 (by omega)
                    have p1n : ¬ (k : Int) = (i : Int) - (W : Int) := by omega
                    have p2 : ((k : Int) == (i : Int) + (W : Int)) = false := beq_eq_false_iff_ne.2 (by omega)
                    have p2n : ¬ (k : Int) = (i : Int) + (W : Int) := by omega
                    have p3 : ((k : Int) == (i : Int) - 1) = false := beq_eq_false_iff_ne.2 (by omega)
                    have p3n : ¬ (k : Int) = (i : Int) - 1 := by omega
                    have p5 : ((k : Int) == (i : Int) + 1) = false := beq_eq_false_iff_ne.2 (by omega)
                    have p5n : ¬ (k : Int) = (i : Int) + 1 := by omega
                    have HL2 : Hid (LeastN ts (nbP pp i) (k + 1) l) := Lib.hid (LeastN.skip HLN.out fun h _ => by have := HBI.out.1 h; omega)
                    clear hw
                    go_wp2
                    go_roundw
                    case rel => exact ⟨k + 1, n, _, by omega, rfl, by go_num, HL2.out, HW.out⟩
                    case measure => simp [intOf]; omega
              · obtain rfl : k = cnt pp := by omega
                have hci := (hw5 _).trans (HCT.out i HLT.out)
                rw [HVI.out] at hci
                have hlt := HLT.out
                clear hw5 hwr hLN hk
                by_cases hia : i = a
                · as_aux_lemma =>
                    have y1 : ((i : Int) == (a : Int)) = true := beq_iff_eq.2 (by omega)
                    have y2 : ((i : Int) != (a : Int)) = false := by rw [bne, beq_iff_eq.2 (show (i : Int) = (a : Int) by omega)]; rfl
                    have HIA := Lib.hid hia
                    clear hia
                    go_wp2
                    go_roundw
                    case rel => exact ⟨i + 1, n, by omega, by go_num, HW.out⟩
                    case measure => simp [intOf]; omega
                · as_aux_lemma =>
                    have y1 : ((i : Int) == (a : Int)) = false := beq_eq_false_iff_ne.2 (by omega)
                    have y2 : ((i : Int) != (a : Int)) = true := bne_iff_ne.2 (by omega)
                    have y3 : ¬ (i : Int) = (a : Int) := by omega
                    have HIA := Lib.hid hia
                    clear hia
                    go_wp2
                    go_roundw
                    case rel => exact ⟨i + 1, n, by omega, by go_num, HW.out⟩
                    case measure => simp [intOf]; omega
          · obtain rfl : i = cnt pp := by omega
            have bl6 : Below w.heap.size w wr := by rw [hwr]; exact below_drewN HB5.out n
            clear hw5 hwr
            go_wp2
            go_ret
            exact ⟨rfl, bl6⟩
  · have hn' : 1048576 < cs.length := by omega
    go_enter Try.func7, Try.ntmps7
    go_wp2
    go_ret
    exact ⟨rfl, Below.refl _ _⟩

set_option maxRecDepth 100000 in
theorem lifted (os : Os) (started : os.Started) (H : Type) (enc : TypeId × Value → H) :
    ReturnsInHanded {} Try.checked os 7 .any (Rows.fnRisksFromSpec.pre6 enc Try.prog Try.f7 Rows.fnRisksFromRow.domain false) (Rows.fnRisksFromSpec.post enc Try.prog Try.f7 false true false false) := by
  refine returnsInHanded_of_change (C := Try.checked) ownNone started (by kernel_rfl) Try.func7
    (ChangeSpec.witness6 (enc := enc) (C := Try.checked) false ⟨#[], #[.slice none 0 0], []⟩ 8 (by kernel_rfl) (by kernel_rfl) (by kernel_rfl) (by kernel_rfl)) ?_
  intro W base args ds gs before hval0 hW hcnd _
  have hval : ∀ (j : Nat) t v, Try.f7.params[j]? = some t → args[j]? = some v → Value.okWide Try.prog W .any base t v := hval0
  have hW' := hW
  obtain ⟨p, q, hA0, hV, rfl, _, _⟩ := hW
  have hA : DataW.TrodAll enc Try.prog W 0 (fun _ => true) true Try.f7.params.toList args.toList ds p := hA0
  rw [Try.params7] at hA hval
  obtain ⟨v0, vs0, d0, ds0, p0, q0, hargs, rfl, rfl, h0, r0⟩ := trodAll_cons hA
  obtain ⟨rfl, rfl, rfl⟩ := trodAll_nil r0
  obtain rfl : args = #[v0] := by cases args; simp_all
  obtain ⟨rfl, rfl⟩ := trodVars_none hV
  obtain ⟨Acs, ccs, cs, rfl, hrcs, hlcs, hqcs⟩ := open_rd Try.underlying22 Try.underlying5 cellsByte (hval 0 22 v0 rfl rfl) h0
  have hbcs := byte_bounds hqcs
  clear hA0 hval0
  refine (walk W cs Acs ccs hrcs hbcs hlcs).mono fun e W' ⟨he, hg⟩ => ?_
  subst he
  exact ⟨_, rfl, law_post laidOut (by kernel_rfl) rfl rfl rfl rfl rfl Try.underlying4 hW' hg⟩

/-- The statement. -/
theorem proved : Rows.FnRisksFromSaid :=
  OpenClaim.holds_of_wide 7 Try.f7 rfl rfl rfl rfl rfl rfl rfl ⟨rfl, rfl, rfl, rfl, rfl⟩ rfl rfl rfl rfl rfl (by kernel_rfl) Try.func7 (by kernel_rfl)
    (of_decide_eq_true (by kernel_rfl)) (by unfold Func.isWrapper; first | (rw [if_pos (by decide +kernel)]; kernel_rfl) | (rw [if_neg (by decide +kernel)]; exact ⟨rfl, rfl⟩))
    (fun os started H enc _ => lifted os started H enc)
#print axioms proved
end fnRisksFrom

end Go.Proofs.Ytbnggakfogcalad

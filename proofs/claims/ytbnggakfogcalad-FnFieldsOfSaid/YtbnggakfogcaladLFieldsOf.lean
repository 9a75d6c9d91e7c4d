/- The law FnFieldsOf: for every code it answers true, and the code reads as it read before. No condition. -/
import Derived.Test.YtbnggakfogcaladLawM
import Derived.Test.YtbnggakfogcaladHelps
import Derived.Test.YtbnggakfogcaladPDraws
import Derived.Test.YtbnggakfogcaladLaw
namespace Go.Proofs.Ytbnggakfogcalad
open Go.RowKit
set_option linter.unusedVariables false
set_option linter.unusedSimpArgs false

namespace fnFieldsOf
open Go.ChangeShapes Go.WideShapes Go.ChangeAt Go.RowKit
set_option maxRecDepth 100000 in
set_option maxHeartbeats 800000 in
set_option maxRecDepth 100000 in
set_option maxRecDepth 100000 in
set_option maxHeartbeats 8000000 in
theorem walk (w : World) (cs : List Int) (Acs : Option Addr) (ccs : Nat) (hrcs : Rd w w.heap.size Acs (bytes cs)) (hbcs : ∀ z ∈ cs, 0 ≤ z ∧ z ≤ 255) (hlcs : cs.length ≤ ccs ∧ ccs ≤ maxLen) :
    Calls Try.prog 3 #[.slice Acs cs.length ccs] w fun e w' => e = .returned (.bool true) ∧ Below w.heap.size w w' := by
  by_cases hn : cs.length ≤ 1048576
  · go_enter Try.func3, Try.ntmps3
    go_wp2_with fail
    refine (dFieldsOf _ _ _ _ hrcs hbcs hlcs.1 hlcs.2).mono ?_
    rintro e w1 ⟨pp, Ap, cp, load, rfl, ⟨hpl, hpc, hcm, hg⟩, hbload, b1⟩
    have hn1 : pp.length ≤ 1048576 := by omega
    go_wp2_with fail
    refine (iFields_ans pp Ap cp w1 load hg).mono ?_
    rintro e w2 ⟨ts, hts, htl, A2, c2, rfl, o2, b2⟩
    have hg2 := (hg.below b2).more b2.size
    go_wp2_with fail
    refine (sFields_ans pp Ap cp w2 load hg2 hn1).mono ?_
    rintro e w3 ⟨us, hus, hul, A3, c3, rfl, o3, b3⟩
    obtain rfl : ts = us := FieldsR.uniq hts hus
    have HTS := Lib.hid hts
    have hg3 := (hg2.below b3).more b3.size
    have r23 := ((Rd.own o2).below b3).more b3.size
    have o23 := own_below o2 b3
    have bl3 : Below w.heap.size w w3 := (b1.trans (b2.mono b1.size)).trans (b3.mono (by have := b1.size; have := b2.size; omega))
    go_wp2_with fail
    refine (equalInts_same ts A2 A3 c2 c3 w3 w3.heap.size r23 (Rd.own o3) htl).mono ?_
    rintro e w' ⟨rfl, n4, rfl⟩
    have hg4 : RdG (w3.drewN n4) (w3.drewN n4).heap.size Ap pp := hg3.drewN n4
    have bl4 : Below w.heap.size w (w3.drewN n4) := below_drewN bl3 n4
    have r24 : Rd (w3.drewN n4) (w3.drewN n4).heap.size A2 (ints ts) := r23
    have o24 : (w3.drewN n4).ownsRow w1.heap.size 3 1 (.slice A2 ts.length c2) ts.length (ints ts) := o23
    clear hus hul hts o2 o3 b1 b2 b3 hg hg2 r23 o23
    by_cases h0 : ts.length = 0
    · have hz0 : ((ts.length : Int) == 0) = true := beq_iff_eq.2 (by omega)
      clear h0
      go_wp2_with fail
      refine (sFields_ans pp Ap cp (w3.drewN n4) load hg4 hn1).mono ?_
      rintro e w5 ⟨us, hus, hul, A5, c5, rfl, o5, b5⟩
      obtain rfl : ts = us := FieldsR.uniq HTS.out hus
      go_wp2_with fail
      refine (equalInts_same ts A2 A5 c2 c5 w5 w5.heap.size ((r24.below b5).more b5.size) (Rd.own o5) htl).mono ?_
      rintro e w' ⟨rfl, n6, rfl⟩
      have bl5 := below_drewN (bl4.trans (b5.mono bl4.size)) n6
      clear hus o5 b5
      go_wp2
      go_ret
      exact ⟨rfl, bl5⟩
    · have hz0 : ((ts.length : Int) == 0) = false := beq_eq_false_iff_ne.2 (by omega)
      have hv := fields_some HTS.out h0
      have HV := Lib.hid hv
      have hlab := fields_rel HTS.out hv
      have HLB := Lib.hid hlab
      have hN := hlab.len
      have hc := pond_cnt hv
      have hl := pond_len hv
      have hw := pond_wide hv
      have hp3 : Pnd w3 w3.heap.size Ap pp := ⟨hv, hg3⟩
      clear hlab r24 htl h0
      obtain ⟨g2, rfl, hg2a, hg2b, _, _⟩ := own_some o24 (by omega)
      go_wp2_with fail
      refine (iSafe_any pp Ap cp (w3.drewN n4) hg3 load).mono ?_
      intro e w5 h5
      obtain ⟨A5, c5, rfl, o5, b5⟩ := safe_out h5 hv
      obtain ⟨g5, rfl, hg5a, hg5b, _, _⟩ := own_some o5 (by omega)
      have o25 := own_below o24 b5
      have hp5 : Pnd w5 w5.heap.size Ap pp := (Pnd.below (w := w3.drewN n4) hp3 b5).more b5.size
      have bl5 := bl4.trans (b5.mono bl4.size)
      have HCT : Hid (∀ k, k < cnt pp → w5.cell? ⟨g2, k, none⟩ = some (.int .i64 (at_ ts k))) := Lib.hid fun k hk => own_cell o25 (ints_at' (by rw [hN]; exact hk))
      have HCS : Hid (∀ k, k < cnt pp → w5.cell? ⟨g5, k, none⟩ = some (.bool (okF pp load k))) := Lib.hid fun k hk => by
        have := own_cell o5 (bools_at (bs := safeF pp load) (k := k) (by rw [safeF_len]; exact hk))
        rw [safeF_at] at this
        exact this
      clear h5 o24 o25 o5 hg3 hg4 bl3 bl4 b5 hp3 hv
      obtain ⟨bp, op, A0p, c0p, hAp, hbp, h0p⟩ := hp5.row0
      subst hAp
      clear hp5
      go_wp2
      go_loopw [7, 8, 9] (fun nv i wv wr => ∃ (k : Nat) (nx : Int), k ≤ cnt pp ∧ nv = .int .i64 nx ∧ i = .int .i64 k ∧ 0 ≤ nx ∧ nx ≤ k ∧ (∀ j, j < k → at_ ts j < nx) ∧ ∃ n, wr = w5.drewN n) (fun _ i _ _ => cnt pp - (intOf i).toNat)
      case atStart => exact ⟨0, 0, Nat.zero_le _, rfl, rfl, by omega, by omega, fun j hj => by omega, 0, rfl⟩
      case round =>
        obtain ⟨k, nx, hk, rfl, rfl, hn0, hnk, hJ, n, hwr⟩ := hrel
        by_cases hlt : k < cnt pp
        · have hle := lab_next (k := k) HLB.out hn0 hJ
          have HJ1 : Hid (at_ ts k = nx → ∀ j, j < k + 1 → at_ ts j < nx + 1) := Lib.hid fun h => next_more hJ (by omega) (by omega)
          have HJ0 : Hid (at_ ts k < nx → ∀ j, j < k + 1 → at_ ts j < nx) := Lib.hid fun h => next_more hJ (by omega) h
          have hw5 : ∀ p, wr.cell? p = w5.cell? p := fun p => by rw [hwr]; rfl
          have h0r := (hw5 ⟨bp, op, none⟩).trans h0p
          have hck := (hw5 _).trans (HCT.out k hlt)
          have hqk := (hw5 _).trans (HCS.out k hlt)
          have hok := lab_ok HLB.out k
          have HLf : Hid (0 < k % wide pp → ∃ (k1 : Nat) (x1 : Int) (q1 : Bool), (k : Int) - 1 = (k1 : Int) ∧ k1 < cnt pp ∧ wr.cell? ⟨g2, k1, none⟩ = some (.int .i64 x1) ∧ wr.cell? ⟨g5, k1, none⟩ = some (.bool q1) ∧ (okF pp load k = true → q1 = true → at_ ts k = x1)) := Lib.hid fun h => by
            have hk0 : k ≠ 0 := by rintro rfl; simp at h
            exact ⟨k - 1, _, _, by omega, by omega, (hw5 _).trans (HCT.out (k - 1) (by omega)), (hw5 _).trans (HCS.out (k - 1) (by omega)), fun h1 h2 => lab_left HLB.out (by omega) h h1 h2⟩
          have HUp : Hid (wide pp ≤ k → ∃ (k3 : Nat) (x3 : Int) (q3 : Bool), (k : Int) - (wide pp : Int) = (k3 : Int) ∧ k3 < cnt pp ∧ wr.cell? ⟨g2, k3, none⟩ = some (.int .i64 x3) ∧ wr.cell? ⟨g5, k3, none⟩ = some (.bool q3) ∧ (okF pp load k = true → q3 = true → at_ ts k = x3)) := Lib.hid fun h => by
            exact ⟨k - wide pp, _, _, by omega, by omega, (hw5 _).trans (HCT.out (k - wide pp) (by omega)), (hw5 _).trans (HCS.out (k - wide pp) (by omega)), fun h1 h2 => lab_up HLB.out (by omega) h1 h2⟩
          have HW := Lib.hid hwr
          clear hJ hw5 hwr
          generalize at_ ts k = x at *
          generalize okF pp load k = q at *
          have i1 : ((wide pp : Int) == 0) = false := beq_eq_false_iff_ne.2 (by omega)
          have i2 : ¬ wide pp = 0 := by omega
          have j3 : 0 ≤ (k : Int) % (wide pp : Int) := Int.emod_nonneg _ (by omega)
          have j4 : (k : Int) % (wide pp : Int) < wide pp := Int.emod_lt_of_pos _ (by omega)
          rcases hok with ⟨rfl, hx⟩ | ⟨rfl, hx⟩
          · have dx : decide (0 ≤ x) = true := decide_eq_true hx
            have dn : decide (nx < x) = false := decide_eq_false (by omega)
            by_cases hL : 0 < k % wide pp
            · obtain ⟨k1, x1, q1, e1, m1, z1, t1, l1⟩ := HLf.out hL
              have w1 : IntKind.i64.wrap (k1 : Int) = (k1 : Int) := IntWalk.i64_in _ (by omega)
              have dL : decide (0 < (k : Int) % (wide pp : Int)) = true := decide_eq_true (by omega)
              cases q1
              · clear l1
                by_cases hU : wide pp ≤ k
                · obtain ⟨k3, x3, q3, e3, m3, z3, t3, l3⟩ := HUp.out hU
                  have w3 : IntKind.i64.wrap (k3 : Int) = (k3 : Int) := IntWalk.i64_in _ (by omega)
                  have dU : decide ((wide pp : Int) ≤ (k : Int)) = true := decide_eq_true (by omega)
                  cases q3
                  · clear l3
                    as_aux_lemma =>
                      go_wp2
                      refine wp_region_quiet_lit (by kernel_rfl) (by kernel_rfl) ?_
                      try simp only [List.append]
                      repeat (go_big_quiet_step (fail))
                      refine wpQuiet_nil ?_
                      intro _ hw'
                      obtain ⟨nq, hw''⟩ := hw'
                      subst hw''
                      by_cases he : x = nx
                      · subst he
                        go_wp2
                        go_roundw
                        case rel => exact ⟨k + 1, x + 1, by omega, rfl, by go_num, by omega, by omega, HJ1.out rfl, n + nq, by rw [HW.out, World.drewN_drewN]⟩
                        case measure => simp [intOf]; omega
                      · have de : (x == nx) = false := beq_eq_false_iff_ne.2 he
                        go_wp2
                        go_roundw
                        case rel => exact ⟨k + 1, nx, by omega, rfl, by go_num, by omega, by omega, HJ0.out (by omega), n + nq, by rw [HW.out, World.drewN_drewN]⟩
                        case measure => simp [intOf]; omega
                  · obtain rfl := l3 rfl rfl
                    as_aux_lemma =>
                      go_wp2
                      refine wp_region_quiet_lit (by kernel_rfl) (by kernel_rfl) ?_
                      try simp only [List.append]
                      repeat (go_big_quiet_step (fail))
                      refine wpQuiet_nil ?_
                      intro _ hw'
                      obtain ⟨nq, hw''⟩ := hw'
                      subst hw''
                      by_cases he : x = nx
                      · subst he
                        go_wp2
                        go_roundw
                        case rel => exact ⟨k + 1, x + 1, by omega, rfl, by go_num, by omega, by omega, HJ1.out rfl, n + nq, by rw [HW.out, World.drewN_drewN]⟩
                        case measure => simp [intOf]; omega
                      · have de : (x == nx) = false := beq_eq_false_iff_ne.2 he
                        go_wp2
                        go_roundw
                        case rel => exact ⟨k + 1, nx, by omega, rfl, by go_num, by omega, by omega, HJ0.out (by omega), n + nq, by rw [HW.out, World.drewN_drewN]⟩
                        case measure => simp [intOf]; omega
                · have dU : decide ((wide pp : Int) ≤ (k : Int)) = false := decide_eq_false (by omega)
                  as_aux_lemma =>
                    go_wp2
                    refine wp_region_quiet_lit (by kernel_rfl) (by kernel_rfl) ?_
                    try simp only [List.append]
                    repeat (go_big_quiet_step (fail))
                    refine wpQuiet_nil ?_
                    intro _ hw'
                    obtain ⟨nq, hw''⟩ := hw'
                    subst hw''
                    by_cases he : x = nx
                    · subst he
                      go_wp2
                      go_roundw
                      case rel => exact ⟨k + 1, x + 1, by omega, rfl, by go_num, by omega, by omega, HJ1.out rfl, n + nq, by rw [HW.out, World.drewN_drewN]⟩
                      case measure => simp [intOf]; omega
                    · have de : (x == nx) = false := beq_eq_false_iff_ne.2 he
                      go_wp2
                      go_roundw
                      case rel => exact ⟨k + 1, nx, by omega, rfl, by go_num, by omega, by omega, HJ0.out (by omega), n + nq, by rw [HW.out, World.drewN_drewN]⟩
                      case measure => simp [intOf]; omega
              · obtain rfl := l1 rfl rfl
                by_cases hU : wide pp ≤ k
                · obtain ⟨k3, x3, q3, e3, m3, z3, t3, l3⟩ := HUp.out hU
                  have w3 : IntKind.i64.wrap (k3 : Int) = (k3 : Int) := IntWalk.i64_in _ (by omega)
                  have dU : decide ((wide pp : Int) ≤ (k : Int)) = true := decide_eq_true (by omega)
                  cases q3
                  · clear l3
                    as_aux_lemma =>
                      go_wp2
                      refine wp_region_quiet_lit (by kernel_rfl) (by kernel_rfl) ?_
                      try simp only [List.append]
                      repeat (go_big_quiet_step (fail))
                      refine wpQuiet_nil ?_
                      intro _ hw'
                      obtain ⟨nq, hw''⟩ := hw'
                      subst hw''
                      by_cases he : x = nx
                      · subst he
                        go_wp2
                        go_roundw
                        case rel => exact ⟨k + 1, x + 1, by omega, rfl, by go_num, by omega, by omega, HJ1.out rfl, n + nq, by rw [HW.out, World.drewN_drewN]⟩
                        case measure => simp [intOf]; omega
                      · have de : (x == nx) = false := beq_eq_false_iff_ne.2 he
                        go_wp2
                        go_roundw
                        case rel => exact ⟨k + 1, nx, by omega, rfl, by go_num, by omega, by omega, HJ0.out (by omega), n + nq, by rw [HW.out, World.drewN_drewN]⟩
                        case measure => simp [intOf]; omega
                  · obtain rfl := l3 rfl rfl
                    as_aux_lemma =>
                      go_wp2
                      refine wp_region_quiet_lit (by kernel_rfl) (by kernel_rfl) ?_
                      try simp only [List.append]
                      repeat (go_big_quiet_step (fail))
                      refine wpQuiet_nil ?_
                      intro _ hw'
                      obtain ⟨nq, hw''⟩ := hw'
                      subst hw''
                      by_cases he : x = nx
                      · subst he
                        go_wp2
                        go_roundw
                        case rel => exact ⟨k + 1, x + 1, by omega, rfl, by go_num, by omega, by omega, HJ1.out rfl, n + nq, by rw [HW.out, World.drewN_drewN]⟩
                        case measure => simp [intOf]; omega
                      · have de : (x == nx) = false := beq_eq_false_iff_ne.2 he
                        go_wp2
                        go_roundw
                        case rel => exact ⟨k + 1, nx, by omega, rfl, by go_num, by omega, by omega, HJ0.out (by omega), n + nq, by rw [HW.out, World.drewN_drewN]⟩
                        case measure => simp [intOf]; omega
                · have dU : decide ((wide pp : Int) ≤ (k : Int)) = false := decide_eq_false (by omega)
                  as_aux_lemma =>
                    go_wp2
                    refine wp_region_quiet_lit (by kernel_rfl) (by kernel_rfl) ?_
                    try simp only [List.append]
                    repeat (go_big_quiet_step (fail))
                    refine wpQuiet_nil ?_
                    intro _ hw'
                    obtain ⟨nq, hw''⟩ := hw'
                    subst hw''
                    by_cases he : x = nx
                    · subst he
                      go_wp2
                      go_roundw
                      case rel => exact ⟨k + 1, x + 1, by omega, rfl, by go_num, by omega, by omega, HJ1.out rfl, n + nq, by rw [HW.out, World.drewN_drewN]⟩
                      case measure => simp [intOf]; omega
                    · have de : (x == nx) = false := beq_eq_false_iff_ne.2 he
                      go_wp2
                      go_roundw
                      case rel => exact ⟨k + 1, nx, by omega, rfl, by go_num, by omega, by omega, HJ0.out (by omega), n + nq, by rw [HW.out, World.drewN_drewN]⟩
                      case measure => simp [intOf]; omega
            · have dL : decide (0 < (k : Int) % (wide pp : Int)) = false := decide_eq_false (by omega)
              by_cases hU : wide pp ≤ k
              · obtain ⟨k3, x3, q3, e3, m3, z3, t3, l3⟩ := HUp.out hU
                have w3 : IntKind.i64.wrap (k3 : Int) = (k3 : Int) := IntWalk.i64_in _ (by omega)
                have dU : decide ((wide pp : Int) ≤ (k : Int)) = true := decide_eq_true (by omega)
                cases q3
                · clear l3
                  as_aux_lemma =>
                    go_wp2
                    refine wp_region_quiet_lit (by kernel_rfl) (by kernel_rfl) ?_
                    try simp only [List.append]
                    repeat (go_big_quiet_step (fail))
                    refine wpQuiet_nil ?_
                    intro _ hw'
                    obtain ⟨nq, hw''⟩ := hw'
                    subst hw''
                    by_cases he : x = nx
                    · subst he
                      go_wp2
                      go_roundw
                      case rel => exact ⟨k + 1, x + 1, by omega, rfl, by go_num, by omega, by omega, HJ1.out rfl, n + nq, by rw [HW.out, World.drewN_drewN]⟩
                      case measure => simp [intOf]; omega
                    · have de : (x == nx) = false := beq_eq_false_iff_ne.2 he
                      go_wp2
                      go_roundw
                      case rel => exact ⟨k + 1, nx, by omega, rfl, by go_num, by omega, by omega, HJ0.out (by omega), n + nq, by rw [HW.out, World.drewN_drewN]⟩
                      case measure => simp [intOf]; omega
                · obtain rfl := l3 rfl rfl
                  as_aux_lemma =>
                    go_wp2
                    refine wp_region_quiet_lit (by kernel_rfl) (by kernel_rfl) ?_
                    try simp only [List.append]
                    repeat (go_big_quiet_step (fail))
                    refine wpQuiet_nil ?_
                    intro _ hw'
                    obtain ⟨nq, hw''⟩ := hw'
                    subst hw''
                    by_cases he : x = nx
                    · subst he
                      go_wp2
                      go_roundw
                      case rel => exact ⟨k + 1, x + 1, by omega, rfl, by go_num, by omega, by omega, HJ1.out rfl, n + nq, by rw [HW.out, World.drewN_drewN]⟩
                      case measure => simp [intOf]; omega
                    · have de : (x == nx) = false := beq_eq_false_iff_ne.2 he
                      go_wp2
                      go_roundw
                      case rel => exact ⟨k + 1, nx, by omega, rfl, by go_num, by omega, by omega, HJ0.out (by omega), n + nq, by rw [HW.out, World.drewN_drewN]⟩
                      case measure => simp [intOf]; omega
              · have dU : decide ((wide pp : Int) ≤ (k : Int)) = false := decide_eq_false (by omega)
                as_aux_lemma =>
                  go_wp2
                  refine wp_region_quiet_lit (by kernel_rfl) (by kernel_rfl) ?_
                  try simp only [List.append]
                  repeat (go_big_quiet_step (fail))
                  refine wpQuiet_nil ?_
                  intro _ hw'
                  obtain ⟨nq, hw''⟩ := hw'
                  subst hw''
                  by_cases he : x = nx
                  · subst he
                    go_wp2
                    go_roundw
                    case rel => exact ⟨k + 1, x + 1, by omega, rfl, by go_num, by omega, by omega, HJ1.out rfl, n + nq, by rw [HW.out, World.drewN_drewN]⟩
                    case measure => simp [intOf]; omega
                  · have de : (x == nx) = false := beq_eq_false_iff_ne.2 he
                    go_wp2
                    go_roundw
                    case rel => exact ⟨k + 1, nx, by omega, rfl, by go_num, by omega, by omega, HJ0.out (by omega), n + nq, by rw [HW.out, World.drewN_drewN]⟩
                    case measure => simp [intOf]; omega
          · have hx2 : x < 0 := by omega
            have dx : decide (0 ≤ x) = false := decide_eq_false (by omega)
            have dn : decide (nx < x) = false := decide_eq_false (by omega)
            have HDE : Hid ((x == nx) = false) := Lib.hid (beq_eq_false_iff_ne.2 (by omega))
            clear hx
            by_cases hL : 0 < k % wide pp
            · obtain ⟨k1, x1, q1, e1, m1, z1, t1, l1⟩ := HLf.out hL
              have w1 : IntKind.i64.wrap (k1 : Int) = (k1 : Int) := IntWalk.i64_in _ (by omega)
              have dL : decide (0 < (k : Int) % (wide pp : Int)) = true := decide_eq_true (by omega)
              clear l1
              by_cases hU : wide pp ≤ k
              · obtain ⟨k3, x3, q3, e3, m3, z3, t3, l3⟩ := HUp.out hU
                have w3 : IntKind.i64.wrap (k3 : Int) = (k3 : Int) := IntWalk.i64_in _ (by omega)
                have dU : decide ((wide pp : Int) ≤ (k : Int)) = true := decide_eq_true (by omega)
                clear l3
                as_aux_lemma =>
                  go_wp2
                  refine wp_region_quiet_lit (by kernel_rfl) (by kernel_rfl) ?_
                  try simp only [List.append]
                  repeat (go_big_quiet_step (fail))
                  refine wpQuiet_nil ?_
                  intro _ hw'
                  obtain ⟨nq, hw''⟩ := hw'
                  subst hw''
                  have de := HDE.out
                  go_wp2
                  go_roundw
                  case rel => exact ⟨k + 1, nx, by omega, rfl, by go_num, by omega, by omega, HJ0.out (by omega), n + nq, by rw [HW.out, World.drewN_drewN]⟩
                  case measure => simp [intOf]; omega
              · have dU : decide ((wide pp : Int) ≤ (k : Int)) = false := decide_eq_false (by omega)
                as_aux_lemma =>
                  go_wp2
                  refine wp_region_quiet_lit (by kernel_rfl) (by kernel_rfl) ?_
                  try simp only [List.append]
                  repeat (go_big_quiet_step (fail))
                  refine wpQuiet_nil ?_
                  intro _ hw'
                  obtain ⟨nq, hw''⟩ := hw'
                  subst hw''
                  have de := HDE.out
                  go_wp2
                  go_roundw
                  case rel => exact ⟨k + 1, nx, by omega, rfl, by go_num, by omega, by omega, HJ0.out (by omega), n + nq, by rw [HW.out, World.drewN_drewN]⟩
                  case measure => simp [intOf]; omega
            · have dL : decide (0 < (k : Int) % (wide pp : Int)) = false := decide_eq_false (by omega)
              by_cases hU : wide pp ≤ k
              · obtain ⟨k3, x3, q3, e3, m3, z3, t3, l3⟩ := HUp.out hU
                have w3 : IntKind.i64.wrap (k3 : Int) = (k3 : Int) := IntWalk.i64_in _ (by omega)
                have dU : decide ((wide pp : Int) ≤ (k : Int)) = true := decide_eq_true (by omega)
                clear l3
                as_aux_lemma =>
                  go_wp2
                  refine wp_region_quiet_lit (by kernel_rfl) (by kernel_rfl) ?_
                  try simp only [List.append]
                  repeat (go_big_quiet_step (fail))
                  refine wpQuiet_nil ?_
                  intro _ hw'
                  obtain ⟨nq, hw''⟩ := hw'
                  subst hw''
                  have de := HDE.out
                  go_wp2
                  go_roundw
                  case rel => exact ⟨k + 1, nx, by omega, rfl, by go_num, by omega, by omega, HJ0.out (by omega), n + nq, by rw [HW.out, World.drewN_drewN]⟩
                  case measure => simp [intOf]; omega
              · have dU : decide ((wide pp : Int) ≤ (k : Int)) = false := decide_eq_false (by omega)
                as_aux_lemma =>
                  go_wp2
                  refine wp_region_quiet_lit (by kernel_rfl) (by kernel_rfl) ?_
                  try simp only [List.append]
                  repeat (go_big_quiet_step (fail))
                  refine wpQuiet_nil ?_
                  intro _ hw'
                  obtain ⟨nq, hw''⟩ := hw'
                  subst hw''
                  have de := HDE.out
                  go_wp2
                  go_roundw
                  case rel => exact ⟨k + 1, nx, by omega, rfl, by go_num, by omega, by omega, HJ0.out (by omega), n + nq, by rw [HW.out, World.drewN_drewN]⟩
                  case measure => simp [intOf]; omega
        · obtain rfl : k = cnt pp := by omega
          subst hwr
          go_wp2
          go_ret
          exact ⟨rfl, below_drewN bl5 _⟩
  · have hn' : 1048576 < cs.length := by omega
    go_enter Try.func3, Try.ntmps3
    go_wp2
    go_ret
    exact ⟨rfl, Below.refl _ _⟩

set_option maxRecDepth 100000 in
theorem lifted (os : Os) (started : os.Started) (H : Type) (enc : TypeId × Value → H) :
    ReturnsInHanded {} Try.checked os 3 .any (Rows.fnFieldsOfSpec.pre6 enc Try.prog Try.f3 Rows.fnFieldsOfRow.domain false) (Rows.fnFieldsOfSpec.post enc Try.prog Try.f3 false true false false) := by
  refine returnsInHanded_of_change (C := Try.checked) ownNone started (by kernel_rfl) Try.func3
    (ChangeSpec.witness6 (enc := enc) (C := Try.checked) false ⟨#[], #[.slice none 0 0], []⟩ 8 (by kernel_rfl) (by kernel_rfl) (by kernel_rfl) (by kernel_rfl)) ?_
  intro W base args ds gs before hval0 hW hcnd _
  have hval : ∀ (j : Nat) t v, Try.f3.params[j]? = some t → args[j]? = some v → Value.okWide Try.prog W .any base t v := hval0
  have hW' := hW
  obtain ⟨p, q, hA0, hV, rfl, _, _⟩ := hW
  have hA : DataW.TrodAll enc Try.prog W 0 (fun _ => true) true Try.f3.params.toList args.toList ds p := hA0
  rw [Try.params3] at hA hval
  obtain ⟨v0, vs0, d0, ds0, p0, q0, hargs, rfl, rfl, h0, r0⟩ := trodAll_cons hA
  obtain ⟨rfl, rfl, rfl⟩ := trodAll_nil r0
  obtain rfl : args = #[v0] := by cases args; simp_all
  obtain ⟨rfl, rfl⟩ := trodVars_none hV
  obtain ⟨Acs, ccs, cs, rfl, hrcs, hlcs, hqcs⟩ := open_rd Try.underlying22 Try.underlying5 cellsByte (hval 0 22 v0 rfl rfl) h0
  have hbcs := byte_bounds hqcs
  clear hA0 hval0
  refine (walk W cs Acs ccs hrcs hbcs hlcs).mono fun e W' ⟨he, hg⟩ => ?_
  subst he
  exact ⟨_, rfl, law_post laidOut (by kernel_rfl) rfl rfl rfl rfl rfl Try.underlying4 hW' hg⟩

/-- The statement. -/
theorem proved : Rows.FnFieldsOfSaid :=
  OpenClaim.holds_of_wide 3 Try.f3 rfl rfl rfl rfl rfl rfl rfl ⟨rfl, rfl, rfl, rfl, rfl⟩ rfl rfl rfl rfl rfl (by kernel_rfl) Try.func3 (by kernel_rfl)
    (of_decide_eq_true (by kernel_rfl)) (by unfold Func.isWrapper; first | (rw [if_pos (by decide +kernel)]; kernel_rfl) | (rw [if_neg (by decide +kernel)]; exact ⟨rfl, rfl⟩))
    (fun os started H enc _ => lifted os started H enc)
#print axioms proved
end fnFieldsOf

end Go.Proofs.Ytbnggakfogcalad

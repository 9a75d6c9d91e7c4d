/- The law FnSafeCells: for every code it answers true, and the code reads as it read before. No condition. -/
import Derived.Test.YtbnggakfogcalacLawM
import Derived.Test.YtbnggakfogcalacHelps
import Derived.Test.YtbnggakfogcalacPDraws
import Derived.Test.YtbnggakfogcalacLaw
namespace Go.Proofs.Ytbnggakfogcalac
open Go.RowKit
set_option linter.unusedVariables false
set_option linter.unusedSimpArgs false

namespace fnSafeCells
open Go.ChangeShapes Go.WideShapes Go.ChangeAt Go.RowKit
set_option maxRecDepth 100000 in
set_option maxHeartbeats 800000 in
set_option maxRecDepth 100000 in
set_option maxRecDepth 100000 in
set_option maxHeartbeats 8000000 in
theorem walk (w : World) (cs : List Int) (Acs : Option Addr) (ccs : Nat) (hrcs : Rd w w.heap.size Acs (bytes cs)) (hbcs : ∀ z ∈ cs, 0 ≤ z ∧ z ≤ 255) (hlcs : cs.length ≤ ccs ∧ ccs ≤ maxLen) :
    Calls Try.prog 11 #[.slice Acs cs.length ccs] w fun e w' => e = .returned (.bool true) ∧ Below w.heap.size w w' := by
  by_cases hn : cs.length ≤ 1048576
  · go_enter Try.func11, Try.ntmps11
    go_wp2_with fail
    refine (dSafeCells _ _ _ _ hrcs hbcs hlcs.1 hlcs.2).mono ?_
    rintro e w1 ⟨pp, Ap, cp, load, rfl, ⟨hpl, hpc, hcm, hg⟩, hbload, b1⟩
    have hn1 : pp.length ≤ 1048576 := by omega
    obtain ⟨bs, hbs⟩ : ∃ bs, bs = safeT pp load := ⟨_, rfl⟩
    have HBS := Lib.hid hbs
    have hbl : bs.length ≤ 1048576 := by rw [HBS.out]; exact safeT_le pp load
    go_wp2_with fail
    refine (iSafe_any pp Ap cp w1 hg load).mono ?_
    rw [← hbs]
    rintro e w2 ⟨A2, c2, rfl, o2, b2⟩
    have hg2 := (hg.below b2).more b2.size
    go_wp2_with fail
    refine (sSafe_any pp Ap cp w2 hg2 hn1 load).mono ?_
    rw [← hbs]
    rintro e w3 ⟨A3, c3, rfl, o3, b3⟩
    clear hbs
    have hg3 := (hg2.below b3).more b3.size
    have r23 := ((Rd.own o2).below b3).more b3.size
    have o23 := own_below o2 b3
    have bl3 : Below w.heap.size w w3 := (b1.trans (b2.mono b1.size)).trans (b3.mono (by have := b1.size; have := b2.size; omega))
    go_wp2_with fail
    refine (equalBools_same bs A2 A3 c2 c3 w3 w3.heap.size r23 (Rd.own o3) hbl).mono ?_
    rintro e w' ⟨rfl, n4, rfl⟩
    clear o2 o3 b1 b2 b3 hg hg2 
    by_cases h0 : bs.length = 0
    · have hz0 : ((bs.length : Int) == 0) = true := beq_iff_eq.2 (by omega)
      clear h0
      go_wp2_with fail
      refine (sSafe_any pp Ap cp (w3.drewN n4) (hg3.drewN _) hn1 load).mono ?_
      rw [← HBS.out]
      rintro e w5 ⟨A5, c5, rfl, o5, b5⟩
      have r25 : Rd w5 w5.heap.size A2 (bools bs) := (Rd.below (w := w3.drewN n4) r23 b5).more b5.size
      go_wp2_with fail
      refine (equalBools_same bs A2 A5 c2 c5 w5 w5.heap.size r25 (Rd.own o5) hbl).mono ?_
      rintro e w' ⟨rfl, n6, rfl⟩
      have bl5 := below_drewN ((below_drewN bl3 n4).trans (b5.mono bl3.size)) n6
      clear o5 b5 r25 r23
      go_wp2
      go_ret
      exact ⟨rfl, bl5⟩
    · have hz0 : ((bs.length : Int) == 0) = false := beq_eq_false_iff_ne.2 (by omega)
      have hv : pondB pp = true := safe_some (load := load) (by rw [← HBS.out]; exact h0)
      have HV := Lib.hid hv
      have hN : bs.length = cnt pp := by rw [HBS.out, safeT_ok hv, safeF_len]
      have HQ : Hid (isd bs = okF pp load) := Lib.hid (by rw [HBS.out, safeT_ok hv, safeF_at])
      have hc := pond_cnt hv
      have hl := pond_len hv
      have hw := pond_wide hv
      have hp3 : Pnd w3 w3.heap.size Ap pp := ⟨hv, hg3⟩
      clear hv hbl h0 r23
      obtain ⟨g2, rfl, hg2a, hg2b, _, _⟩ := own_some o23 (by omega)
      obtain ⟨L, hL⟩ : ∃ L, L = load.tdiv 2 := ⟨_, rfl⟩
      have hL1 : 0 < load → L ≤ load := by intro h; rw [hL, Int.tdiv_eq_ediv_of_nonneg (by omega)]; omega
      have HL := Lib.hid hL
      have HL1 := Lib.hid hL1
      clear hL hL1
      go_wp2_with fail
      refine (iSafe_any pp _ cp (w3.drewN n4) hg3 (load.tdiv 2)).mono ?_
      rw [← HL.out]
      intro e w5 h5
      obtain ⟨A5, c5, rfl, o5, b5⟩ := safe_out h5 HV.out
      obtain ⟨g5, rfl, hg5a, hg5b, _, _⟩ := own_some o5 (by omega)
      have o25 := own_below (w := w3.drewN n4) o23 b5
      have hp5 : Pnd w5 w5.heap.size Ap pp := (Pnd.below (w := w3.drewN n4) hp3 b5).more b5.size
      have bl5 : Below w.heap.size w w5 := (below_drewN bl3 n4).trans (b5.mono bl3.size)
      have HSL : Hid (isd (safeF pp L) = okF pp L) := Lib.hid (safeF_at pp L)
      have HSN : Hid ((safeF pp L).length = cnt pp) := Lib.hid (safeF_len pp L)
      have HM : Hid (∀ k, 0 < load → okF pp load k = true → okF pp L k = true) := Lib.hid fun k h hk => okF_mono (HL1.out h) k hk
      clear h5 o23 hg3 b5 bl3 hp3
      obtain ⟨bp, op, A0p, c0p, hAp, hbp, h0p⟩ := hp5.row0
      subst hAp
      have H : Hid ((pp.length : Int) * (wide pp : Int) = ((cnt pp : Nat) : Int)) := Lib.hid (by unfold cnt; exact (Int.natCast_mul _ _).symm)
      have hm1 : 0 ≤ (pp.length : Int) * (wide pp : Int) := by rw [H.out]; omega
      have hm2 : (pp.length : Int) * (wide pp : Int) ≤ 81 := by rw [H.out]; omega
      have hm3 : ((cnt pp : Nat) : Int) == (pp.length : Int) * (wide pp : Int) := by rw [H.out]; exact beq_self_eq_true _
      go_wp2
      go_loopw [7] (fun i wr => ∃ k : Nat, k ≤ cnt pp ∧ i = .int .i64 k ∧ ∃ n, wr = w5.drewN n) (fun i _ => cnt pp - (intOf i).toNat)
      case atStart => exact ⟨0, Nat.zero_le _, rfl, 0, rfl⟩
      case round =>
        obtain ⟨k, hk, rfl, n, hwr⟩ := hrel
        by_cases hlt : k < cnt pp
        · obtain ⟨b, off, A0, c0, b1, o1, c1, heq, h0, h1, h2⟩ := (hp5.drewN n).cell_ hlt
          cases heq
          have t0 := thk_bd HV.out hlt
          have hy := row_y hlt
          have hx := Nat.mod_lt k (show 0 < wide pp by omega)
          have hcs := own_cell (own_drewN o25 n) (bools_at (bs := bs) (k := k) (by rw [hN]; exact hlt))
          have hcl := own_cell (own_drewN o5 n) (bools_at (bs := safeF pp L) (k := k) (by rw [HSN.out]; exact hlt))
          rw [HQ.out] at hcs
          rw [HSL.out] at hcl
          have hqd : decide (load ≤ thk pp k * thk pp k) = okF pp load k := (okF_in hlt).symm
          have hmk := HM.out k
          rw [← hwr] at h0 h1 h2 hcs hcl
          have HW := Lib.hid hwr
          clear hwr
          have HO5 := Lib.hid o5
          have HO25 := Lib.hid o25
          have HP5 := Lib.hid hp5
          clear o5 o25 hp5
          generalize okF pp load k = q at *
          generalize okF pp L k = q2 at *
          generalize thk pp k = t at *
          have cLo := iLo_in t t0.1 t0.2
          have i0 : 0 < pp.length := by omega
          have i1 : ((wide pp : Int) == 0) = false := beq_eq_false_iff_ne.2 (by omega)
          have i2 : ¬ wide pp = 0 := by omega
          have j1 : 0 ≤ (k : Int) / (wide pp : Int) := Int.ediv_nonneg (by omega) (by omega)
          have j2 : (k : Int) / (wide pp : Int) < pp.length := by omega
          have j3 : 0 ≤ (k : Int) % (wide pp : Int) := Int.emod_nonneg _ (by omega)
          have j4 : (k : Int) % (wide pp : Int) < wide pp := Int.emod_lt_of_pos _ (by omega)
          have j5 : IntKind.i64.wrap ((k : Int) / (wide pp : Int)) = (k : Int) / (wide pp : Int) := IntWalk.i64_in _ (by omega)
          have k1 : (k : Int) + 1 ≤ 81 := by omega
          clear hm3
          cases q
          · clear hmk
            go_wp2
            refine wp_region_quiet_lit (by kernel_rfl) (by kernel_rfl) ?_
            repeat (go_big_quiet_step (fail))
            go_big_quiet_step ((go_at_call 45; exact quiet_same (cLo _)))
            repeat (go_big_quiet_step (fail))
            refine wpQuiet_nil ?_
            intro _ hw'
            obtain ⟨nq, hw''⟩ := hw'
            subst hw''
            go_wp2
            go_roundw
            case rel => exact ⟨k + 1, by omega, by go_num, n + nq, by rw [HW.out, World.drewN_drewN]⟩
            case measure => simp [intOf]; omega
          · by_cases hld : 0 < load
            · obtain rfl : q2 = true := hmk hld rfl
              have hdl : decide (0 < load) = true := decide_eq_true hld
              clear hmk
              go_wp2
              refine wp_region_quiet_lit (by kernel_rfl) (by kernel_rfl) ?_
              repeat (go_big_quiet_step (fail))
              go_big_quiet_step ((go_at_call 45; exact quiet_same (cLo _)))
              repeat (go_big_quiet_step (fail))
              refine wpQuiet_nil ?_
              intro _ hw'
              obtain ⟨nq, hw''⟩ := hw'
              subst hw''
              go_wp2
              go_roundw
              case rel => exact ⟨k + 1, by omega, by go_num, n + nq, by rw [HW.out, World.drewN_drewN]⟩
              case measure => simp [intOf]; omega
            · have hdl : decide (0 < load) = false := decide_eq_false hld
              clear hmk
              go_wp2
              refine wp_region_quiet_lit (by kernel_rfl) (by kernel_rfl) ?_
              repeat (go_big_quiet_step (fail))
              go_big_quiet_step ((go_at_call 45; exact quiet_same (cLo _)))
              repeat (go_big_quiet_step (fail))
              refine wpQuiet_nil ?_
              intro _ hw'
              obtain ⟨nq, hw''⟩ := hw'
              subst hw''
              go_wp2
              go_roundw
              case rel => exact ⟨k + 1, by omega, by go_num, n + nq, by rw [HW.out, World.drewN_drewN]⟩
              case measure => simp [intOf]; omega
        · obtain rfl : k = cnt pp := by omega
          subst hwr
          go_wp2
          go_ret
          exact ⟨rfl, below_drewN bl5 _⟩
  · have hn' : 1048576 < cs.length := by omega
    go_enter Try.func11, Try.ntmps11
    go_wp2
    go_ret
    exact ⟨rfl, Below.refl _ _⟩

set_option maxRecDepth 100000 in
theorem lifted (os : Os) (started : os.Started) (H : Type) (enc : TypeId × Value → H) :
    ReturnsInHanded {} Try.checked os 11 .any (Rows.fnSafeCellsSpec.pre6 enc Try.prog Try.f11 Rows.fnSafeCellsRow.domain false) (Rows.fnSafeCellsSpec.post enc Try.prog Try.f11 false true false false) := by
  refine returnsInHanded_of_change (C := Try.checked) ownNone started (by kernel_rfl) Try.func11
    (ChangeSpec.witness6 (enc := enc) (C := Try.checked) false ⟨#[], #[.slice none 0 0], []⟩ 8 (by kernel_rfl) (by kernel_rfl) (by kernel_rfl) (by kernel_rfl)) ?_
  intro W base args ds gs before hval0 hW hcnd _
  have hval : ∀ (j : Nat) t v, Try.f11.params[j]? = some t → args[j]? = some v → Value.okWide Try.prog W .any base t v := hval0
  have hW' := hW
  obtain ⟨p, q, hA0, hV, rfl, _, _⟩ := hW
  have hA : DataW.TrodAll enc Try.prog W 0 (fun _ => true) true Try.f11.params.toList args.toList ds p := hA0
  rw [Try.params11] at hA hval
  obtain ⟨v0, vs0, d0, ds0, p0, q0, hargs, rfl, rfl, h0, r0⟩ := trodAll_cons hA
  obtain ⟨rfl, rfl, rfl⟩ := trodAll_nil r0
  obtain rfl : args = #[v0] := by cases args; simp_all
  obtain ⟨rfl, rfl⟩ := trodVars_none hV
  obtain ⟨Acs, ccs, cs, rfl, hrcs, hlcs, hqcs⟩ := open_rd Try.underlying40 Try.underlying5 cellsByte (hval 0 40 v0 rfl rfl) h0
  have hbcs := byte_bounds hqcs
  clear hA0 hval0
  refine (walk W cs Acs ccs hrcs hbcs hlcs).mono fun e W' ⟨he, hg⟩ => ?_
  subst he
  exact ⟨_, rfl, law_post laidOut (by kernel_rfl) rfl rfl rfl rfl rfl Try.underlying4 hW' hg⟩

/-- The statement. -/
theorem proved : Rows.FnSafeCellsSaid :=
  OpenClaim.holds_of_wide 11 Try.f11 rfl rfl rfl rfl rfl rfl rfl ⟨rfl, rfl, rfl, rfl, rfl⟩ rfl rfl rfl rfl rfl (by kernel_rfl) Try.func11 (by kernel_rfl)
    (of_decide_eq_true (by kernel_rfl)) (by unfold Func.isWrapper; first | (rw [if_pos (by decide +kernel)]; kernel_rfl) | (rw [if_neg (by decide +kernel)]; exact ⟨rfl, rfl⟩))
    (fun os started H enc _ => lifted os started H enc)
#print axioms proved
end fnSafeCells

end Go.Proofs.Ytbnggakfogcalac

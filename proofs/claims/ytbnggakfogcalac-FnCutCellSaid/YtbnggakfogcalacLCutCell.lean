/- The law FnCutCell: for every code it answers true, and the code reads as it read before. No condition. -/
import Derived.Test.YtbnggakfogcalacLawM
import Derived.Test.YtbnggakfogcalacHelps
import Derived.Test.YtbnggakfogcalacLCut
import Derived.Test.YtbnggakfogcalacPDraws
import Derived.Test.YtbnggakfogcalacLaw
namespace Go.Proofs.Ytbnggakfogcalac
open Go.RowKit
set_option linter.unusedVariables false
set_option linter.unusedSimpArgs false

namespace fnCutCell
open Go.ChangeShapes Go.WideShapes Go.ChangeAt Go.RowKit
set_option maxRecDepth 100000 in
set_option maxHeartbeats 800000 in
set_option maxRecDepth 100000 in
set_option maxRecDepth 100000 in
set_option maxHeartbeats 8000000 in
theorem walk (w : World) (cs : List Int) (Acs : Option Addr) (ccs : Nat) (hrcs : Rd w w.heap.size Acs (bytes cs)) (hbcs : ∀ z ∈ cs, 0 ≤ z ∧ z ≤ 255) (hlcs : cs.length ≤ ccs ∧ ccs ≤ maxLen) :
    Calls Try.prog 14 #[.slice Acs cs.length ccs] w fun e w' => e = .returned (.bool true) ∧ Below w.heap.size w w' := by
  by_cases hn : cs.length ≤ 1048576
  · go_enter Try.func14, Try.ntmps14
    go_wp2_with fail
    refine (dCutCell _ _ _ _ hrcs hbcs hlcs.1 hlcs.2).mono ?_
    rintro e w1 ⟨pp, Ap, cp, t, rfl, ⟨hpl, hpc, hcm, hg⟩, hbt, b1⟩
    have hn1 : pp.length ≤ 1048576 := by omega
    obtain ⟨qq, hqq⟩ : ∃ qq, qq = cutT pp t := ⟨_, rfl⟩
    have cI := iCut_any pp Ap cp w1 hg t
    have cS := fun w hg => sCut_any pp Ap cp w hg hn1 t
    have hrows := cutT_rows (pp := pp) (t := t)
    rw [← hqq] at cI hrows
    simp only [← hqq] at cS
    have hql : qq.length ≤ 1048576 := by omega
    have HQR : Hid (∀ (k : Nat) (r : List Int), qq[k]? = some r → r.length ≤ 1048576) := Lib.hid fun k r h => by have := hrows.2 k r h; omega
    have HQQ := Lib.hid hqq
    have CS := Lib.hid cS
    clear hqq cS hrows
    go_wp2_with fail
    refine (cI).mono ?_
    rintro e w2 ⟨A2, c2, xs2, rfl, o2, b2⟩
    have hg2 := (hg.below b2).more b2.size
    go_wp2_with fail
    refine (CS.out w2 hg2).mono ?_
    rintro e w3 ⟨A3, c3, xs3, rfl, o3, b3⟩
    have hg3 := (hg2.below b3).more b3.size
    have r23 := (o2.rd.below b3).more b3.size
    have bl3 : Below w.heap.size w w3 := (b1.trans (b2.mono b1.size)).trans (b3.mono (by have := b1.size; have := b2.size; omega))
    go_wp2_with fail
    refine (equalLists_same qq A2 A3 c2 c3 w3 w3.heap.size r23 o3.rd hql HQR).mono ?_
    rintro e w' ⟨rfl, n4, rfl⟩
    obtain ⟨w4, hw4⟩ : ∃ w4, w4 = w3.drewN n4 := ⟨_, rfl⟩
    have hg4 : RdG w4 w4.heap.size Ap pp := by rw [hw4]; exact hg3.drewN n4
    have r24 : RdG w4 w4.heap.size A2 qq := by rw [hw4]; exact r23.drewN n4
    have bl4 : Below w.heap.size w w4 := by rw [hw4]; exact below_drewN bl3 n4
    rw [← hw4]
    clear hw4 o2 o3 b1 b2 b3 hg hg2 hg3 r23 cI bl3
    by_cases h0 : qq.length = 0
    · have hz0 : ((qq.length : Int) == 0) = true := beq_iff_eq.2 (by omega)
      clear h0
      go_wp2_with fail
      refine (CS.out w4 hg4).mono ?_
      rintro e w5 ⟨A5, c5, xs5, rfl, o5, b5⟩
      go_wp2_with fail
      refine (equalLists_same qq A2 A5 c2 c5 w5 w5.heap.size ((r24.below b5).more b5.size) o5.rd hql HQR).mono ?_
      rintro e w' ⟨rfl, n6, rfl⟩
      have bl5 := below_drewN (bl4.trans (b5.mono bl4.size)) n6
      clear o5 b5
      go_wp2
      go_ret
      exact ⟨rfl, bl5⟩
    · have hz0 : ((qq.length : Int) == 0) = false := beq_eq_false_iff_ne.2 (by omega)
      obtain ⟨k, rfl, hv, hk, hcut⟩ := cutT_some (pp := pp) (t := t) (by rw [← HQQ.out]; exact h0)
      obtain rfl : qq = cutF pp k := HQQ.out.trans hcut
      have hp4 : Pnd w4 w4.heap.size Ap pp := ⟨hv, hg4⟩
      have hq4 : Pnd w4 w4.heap.size A2 (cutF pp k) := ⟨cutF_pond hv, r24⟩
      have hl := pond_len hv
      have hwd := pond_wide hv
      have HQN : Hid ((cutF pp k).length = pp.length) := Lib.hid (cutF_len pp k)
      have i0 : 0 < pp.length := by omega
      have HCUT := Lib.hid (fun c hc => cut_thk (c := c) hv hk hc)
      have HAG := Lib.hid (cut_again hv hk)
      have Hk := Lib.hid hk
      have HB4 := Lib.hid bl4
      have HCQ : Hid (cnt (cutF pp k) = cnt pp) := Lib.hid (by unfold cnt; rw [cutF_wide, cutF_len])
      have HWQ : Hid (wide (cutF pp k) = wide pp) := Lib.hid cutF_wide
      clear hcut HQQ CS hv h0 hk hg4 r24 bl4
      generalize hQ : cutF pp k = qq at *
      clear hQ
      go_wp2
      go_loopw [6] (fun i wr => ∃ y n : Nat, y ≤ pp.length ∧ i = .int .i64 y ∧ wr = w4.drewN n) (fun i _ => pp.length - (intOf i).toNat)
      case atStart => exact ⟨0, 0, Nat.zero_le _, rfl, rfl⟩
      case round =>
        obtain ⟨y, n, hy, rfl, hwr⟩ := hrel
        have hpr : Pnd wr wr.heap.size Ap pp := by rw [hwr]; exact hp4.drewN n
        have hqr : Pnd wr wr.heap.size A2 qq := by rw [hwr]; exact hq4.drewN n
        have hbr : Below w.heap.size w wr := by rw [hwr]; exact below_drewN HB4.out n
        have HW := Lib.hid hwr
        clear hwr
        by_cases hlt : y < pp.length
        · obtain ⟨b, off, A', c', rfl, hb, hc, _, _⟩ := hpr.rowk hlt
          clear hpr hqr hbr
          go_wp2
          go_loopw [7] (fun i wr => ∃ x n : Nat, x ≤ wide pp ∧ i = .int .i64 x ∧ wr = w4.drewN n) (fun i _ => wide pp - (intOf i).toNat)
          case atStart => exact ⟨0, n, Nat.zero_le _, rfl, HW.out⟩
          case round =>
            clear HW hc
            obtain ⟨x, n, hx, rfl, hwr⟩ := hrel
            have hpr : Pnd wr wr.heap.size (some ⟨b, off, none⟩) pp := by rw [hwr]; exact hp4.drewN n
            have hqr : Pnd wr wr.heap.size A2 qq := by rw [hwr]; exact hq4.drewN n
            have HW := Lib.hid hwr
            clear hwr
            obtain ⟨b2, off2, A', c', e2, hb, hc, _, _⟩ := hpr.rowk hlt
            injection e2 with e2
            injection e2 with e2 e3
            subst e2 e3
            by_cases hxt : x < wide pp
            · have HC := cell_yx hlt hxt
              obtain ⟨s, hs⟩ : ∃ s, s = y * wide pp + x := ⟨_, rfl⟩
              rw [← hs] at HC
              obtain ⟨b3, off3, A3, c3, b4, o4, c4, e4, h0, hcy, hcx⟩ := hpr.cell_ HC.1
              injection e4 with e4
              injection e4 with e4 e5
              subst e4 e5
              obtain ⟨b5, off5, A5, c5, b6, o6, c6, rfl, h0q, hqy, hqx⟩ := hqr.cell_ (c := s) (by rw [HCQ.out]; exact HC.1)
              rw [HC.2.1] at hcy
              rw [HC.2.2] at hcx
              rw [HWQ.out, HC.2.1] at hqy
              rw [HWQ.out, HC.2.2] at hqx
              rw [hcy] at hc
              have hsm : y * wide pp ≤ 9 * 9 := Nat.mul_le_mul (by omega) hwd.2
              have hcut := HCUT.out s HC.1
              have e1 : IntKind.i64.wrap ((y : Int) * ((wide pp : Nat) : Int)) = ((y * wide pp : Nat) : Int) := by rw [← Int.natCast_mul]; exact IntWalk.i64_in _ (by omega)
              generalize hm : y * wide pp = m at *
              have e2 : IntKind.i64.wrap ((m : Int) + (x : Int)) = (s : Int) := by rw [← Int.natCast_add, ← hs]; exact IntWalk.i64_in _ (by omega)
              have hqlt : y < qq.length := by rw [HQN.out]; exact hlt
              have HS := Lib.hid hs
              clear hm hs HC hpr hqr hc
              generalize hWW : wide pp = W at *
              have HWW := Lib.hid hWW
              clear hWW
              by_cases hsk : s = k
              · subst hsk
                have hbe : ((s : Int) == (s : Int)) = true := beq_self_eq_true _
                clear hcut hqx hcx hqy h0q
                go_wp2
                refine wp_region_quiet_lit (by kernel_rfl) (by kernel_rfl) ?_
                repeat (go_big_quiet_step (fail))
                refine wpQuiet_nil ?_
                intro _ hw'
                obtain ⟨nq, hw''⟩ := hw'
                subst hw''
                go_wp2
                go_roundw
                case rel => exact ⟨x + 1, _, by omega, by go_num, by rw [HW.out, drewN_add]⟩
                case measure => simp [intOf]; omega
              · rw [if_neg hsk] at hcut
                rw [hcut] at hqx
                have hn1 : ¬ (s : Int) = (k : Int) := by omega
                have hn2 : ((s : Int) != (k : Int)) = true := bne_iff_ne.2 hn1
                clear hcut
                generalize thk pp s = z at *
                go_wp2
                refine wp_region_quiet_lit (by kernel_rfl) (by kernel_rfl) ?_
                repeat (go_big_quiet_step (fail))
                refine wpQuiet_nil ?_
                intro _ hw'
                obtain ⟨nq, hw''⟩ := hw'
                subst hw''
                go_wp2
                go_roundw
                case rel => exact ⟨x + 1, _, by omega, by go_num, by rw [HW.out, drewN_add]⟩
                case measure => simp [intOf]; omega
            · clear hpr hqr
              have hxe : x = wide pp := by omega
              go_wp2
              go_roundw
              case rel => exact ⟨y + 1, n, by omega, by go_num, HW.out⟩
              case measure => simp [intOf]; omega
        · obtain rfl : y = pp.length := by omega
          obtain ⟨b, off, A0, c0, b4, o4, c4, rfl, h0, hcy, hcx⟩ := hpr.cell_ Hk.out
          obtain ⟨b5, off5, A5, c5, b6, o6, c6, rfl, h0q, hqy, hqx⟩ := hqr.cell_ (c := k) (by rw [HCQ.out]; exact Hk.out)
          rw [HWQ.out] at hqy hqx
          have hz := HCUT.out k Hk.out
          rw [if_pos rfl] at hz
          rw [hz] at hqx
          have hyk := row_y Hk.out
          have hyq : k / wide pp < qq.length := by rw [HQN.out]; exact hyk
          have hxm := Nat.mod_lt k (show 0 < wide pp by omega)
          have HC : Hid (∀ w' : World, (∃ n, w' = wr.drewN n) → Calls Try.prog 48 #[.slice (some ⟨b5, off5, none⟩) qq.length c2, .int .i64 (k : Nat)] w' (OutGr qq w')) := Lib.hid fun w' ⟨n, e⟩ => by
            have := iCut_any qq (some ⟨b5, off5, none⟩) c2 w' (by rw [e]; exact hqr.2.drewN n) (k : Int)
            rw [HAG.out] at this
            exact this
          have HQD : Hid (∀ w', Below wr.heap.size wr w' → RdG w' w'.heap.size (some ⟨b5, off5, none⟩) qq) := Lib.hid fun w' hb => (hqr.2.below hb).more hb.size
          have HBR := Lib.hid hbr
          clear hpr hqr hbr hz hcy hcx h0q hp4 hq4
          generalize hWW : wide pp = W at *
          clear hWW
          have t1 : ((k : Int) / (W : Int)).toNat = k / W := by rw [← Int.natCast_ediv, Int.toNat_natCast]
          have t2 : ((k : Int) % (W : Int)).toNat = k % W := by rw [← Int.natCast_emod, Int.toNat_natCast]
          have m1 : (k : Int).tmod (W : Int) = ((k % W : Nat) : Int) := by rw [Int.tmod_eq_emod_of_nonneg (by omega)]; exact (Int.natCast_emod k W).symm
          have i1 : ((W : Int) == 0) = false := beq_eq_false_iff_ne.2 (by omega)
          have i2 : ¬ W = 0 := by omega
          have j1 : 0 ≤ (k : Int) / (W : Int) := Int.ediv_nonneg (by omega) (by omega)
          have j2 : (k : Int) / (W : Int) < qq.length := by omega
          have j3 : 0 ≤ (k : Int) % (W : Int) := Int.emod_nonneg _ (by omega)
          have j4 : (k : Int) % (W : Int) < W := Int.emod_lt_of_pos _ (by omega)
          have j5 : IntKind.i64.wrap ((k : Int) / (W : Int)) = (k : Int) / (W : Int) := IntWalk.i64_in _ (by omega)
          have jq : 0 < qq.length := by omega
          go_wp2
          go_region_held3 (fun w' => w'.cell? ⟨b, off, none⟩ = some (.slice A0 W c0) ∧ w'.cell? ⟨b5, off5 + k / W, none⟩ = some (.slice (some ⟨b6, o6, none⟩) W c6) ∧ w'.cell? ⟨b6, o6 + k % W, none⟩ = some (.int .i64 0)) (go_keep) (first
            | (go_at_call 48; refine (HC.out _ ⟨1, rfl⟩).mono ?_; rintro e w5 ⟨A7, c7, xs7, rfl, o7, b7⟩; have hb7 : Below wr.heap.size wr w5 := (below_drewN (Below.refl wr.heap.size wr) 1).trans b7; have k1 := (hb7.cell (World.block_lt_of_cell? _ _ h0)).trans h0; have k2 := (hb7.cell (World.block_lt_of_cell? _ _ hqy)).trans hqy; have k3 := (hb7.cell (World.block_lt_of_cell? _ _ hqx)).trans hqx)
            | (go_at_call 49; refine (equalLists_same qq A7 (some ⟨b5, off5, none⟩) c7 c2 w5 w5.heap.size o7.rd (HQD.out w5 ((below_drewN (Below.refl wr.heap.size wr) 1).trans b7)) hql HQR).mono ?_; rintro e w6 ⟨rfl, n8, rfl⟩))
          have bl6 : Below w.heap.size w (w5.drewN n8) := below_drewN (HBR.out.trans (((below_drewN (Below.refl wr.heap.size wr) 1).trans b7).mono HBR.out.size)) n8
          have BL := Lib.hid bl6
          clear bl6 b7 o7
          go_wp2
          go_ret
          exact ⟨rfl, BL.out⟩
  · have hn' : 1048576 < cs.length := by omega
    go_enter Try.func14, Try.ntmps14
    go_wp2
    go_ret
    exact ⟨rfl, Below.refl _ _⟩

set_option maxRecDepth 100000 in
theorem lifted (os : Os) (started : os.Started) (H : Type) (enc : TypeId × Value → H) :
    ReturnsInHanded {} Try.checked os 14 .any (Rows.fnCutCellSpec.pre6 enc Try.prog Try.f14 Rows.fnCutCellRow.domain false) (Rows.fnCutCellSpec.post enc Try.prog Try.f14 false true false false) := by
  refine returnsInHanded_of_change (C := Try.checked) ownNone started (by kernel_rfl) Try.func14
    (ChangeSpec.witness6 (enc := enc) (C := Try.checked) false ⟨#[], #[.slice none 0 0], []⟩ 8 (by kernel_rfl) (by kernel_rfl) (by kernel_rfl) (by kernel_rfl)) ?_
  intro W base args ds gs before hval0 hW hcnd _
  have hval : ∀ (j : Nat) t v, Try.f14.params[j]? = some t → args[j]? = some v → Value.okWide Try.prog W .any base t v := hval0
  have hW' := hW
  obtain ⟨p, q, hA0, hV, rfl, _, _⟩ := hW
  have hA : DataW.TrodAll enc Try.prog W 0 (fun _ => true) true Try.f14.params.toList args.toList ds p := hA0
  rw [Try.params14] at hA hval
  obtain ⟨v0, vs0, d0, ds0, p0, q0, hargs, rfl, rfl, h0, r0⟩ := trodAll_cons hA
  obtain ⟨rfl, rfl, rfl⟩ := trodAll_nil r0
  obtain rfl : args = #[v0] := by cases args; simp_all
  obtain ⟨rfl, rfl⟩ := trodVars_none hV
  obtain ⟨Acs, ccs, cs, rfl, hrcs, hlcs, hqcs⟩ := open_rd Try.underlying40 Try.underlying5 cellsByte (hval 0 40 v0 rfl rfl) h0
  have hbcs := byte_bounds hqcs
  clear hA0 hval0
  refine (walk W cs Acs ccs hrcs hbcs hlcs).mono fun e W' ⟨he, hg⟩ => ?_
  subst he
  exact ⟨_, rfl, law_post laidOut (by kernel_rfl) rfl rfl rfl rfl rfl Try.underlying4 hW' hg⟩

/-- The statement. -/
theorem proved : Rows.FnCutCellSaid :=
  OpenClaim.holds_of_wide 14 Try.f14 rfl rfl rfl rfl rfl rfl rfl ⟨rfl, rfl, rfl, rfl, rfl⟩ rfl rfl rfl rfl rfl (by kernel_rfl) Try.func14 (by kernel_rfl)
    (of_decide_eq_true (by kernel_rfl)) (by unfold Func.isWrapper; first | (rw [if_pos (by decide +kernel)]; kernel_rfl) | (rw [if_neg (by decide +kernel)]; exact ⟨rfl, rfl⟩))
    (fun os started H enc _ => lifted os started H enc)
#print axioms proved
end fnCutCell

end Go.Proofs.Ytbnggakfogcalac

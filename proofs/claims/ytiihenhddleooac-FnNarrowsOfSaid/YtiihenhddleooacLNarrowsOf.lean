/- The law FnNarrowsOf: for every code it answers true, and the code reads as it read before. No condition. -/
import Derived.Test.YtiihenhddleooacLawM
import Derived.Test.YtiihenhddleooacHelps
import Derived.Test.YtiihenhddleooacNIsIn
import Derived.Test.YtiihenhddleooacPDraws
import Derived.Test.YtiihenhddleooacLaw
namespace Go.Proofs.Ytiihenhddleooac
open Go.RowKit
set_option linter.unusedVariables false
set_option linter.unusedSimpArgs false

namespace fnNarrowsOf
open Go.ChangeShapes Go.WideShapes Go.ChangeAt Go.RowKit
set_option maxRecDepth 100000 in
set_option maxHeartbeats 800000 in
set_option maxRecDepth 100000 in
set_option maxRecDepth 100000 in
set_option maxHeartbeats 8000000 in
theorem walk (w : World) (cs : List Int) (Acs : Option Addr) (ccs : Nat) (hrcs : Rd w w.heap.size Acs (bytes cs)) (hbcs : ∀ z ∈ cs, 0 ≤ z ∧ z ≤ 255) (hlcs : cs.length ≤ ccs ∧ ccs ≤ maxLen) :
    Calls Try.prog 5 #[.slice Acs cs.length ccs] w fun e w' => e = .returned (.bool true) ∧ Below w.heap.size w w' := by
  by_cases hn : cs.length ≤ 1048576
  · go_enter Try.func5, Try.ntmps5
    go_wp2_with fail
    refine (dNarrowsOf _ _ _ _ hrcs hbcs hlcs.1 hlcs.2).mono ?_
    rintro e w1 ⟨pp, Ap, cp, load, rfl, ⟨hpl, hpc, hcm, hg⟩, hbload, b1⟩
    have hn1 : pp.length ≤ 1048576 := by omega
    go_wp2_with fail
    refine (iNar_ans pp Ap cp w1 load hg).mono ?_
    rintro e w2 ⟨ts, hts, htl, A2, c2, rfl, o2, b2⟩
    have hg2 := (hg.below b2).more b2.size
    go_wp2_with fail
    refine (sNar_ans pp Ap cp w2 load hg2 hn1).mono ?_
    rintro e w3 ⟨us, hus, hul, A3, c3, rfl, o3, b3⟩
    obtain rfl : ts = us := NarR.uniq hts hus
    have HTS := Lib.hid hts
    have hg3 := (hg2.below b3).more b3.size
    have r23 := ((Rd.own o2).below b3).more b3.size
    have o23 := own_below o2 b3
    have bl3 : Below w.heap.size w w3 := (b1.trans (b2.mono b1.size)).trans (b3.mono (by have := b1.size; have := b2.size; omega))
    go_wp2_with fail
    refine (equalInts_same ts A2 A3 c2 c3 w3 w3.heap.size r23 (Rd.own o3) htl).mono ?_
    rintro e w' ⟨rfl, n4, rfl⟩
    have hg4 : RdG (w3.drewN n4) (w3.drewN n4).heap.size Ap pp := hg3.drewN n4
    have bl4 : Below w.heap.size w (w3.drewN n4) := below_drewN bl3 n4
    have r24 : Rd (w3.drewN n4) (w3.drewN n4).heap.size A2 (ints ts) := r23
    have o24 : (w3.drewN n4).ownsRow w1.heap.size 3 1 (.slice A2 ts.length c2) ts.length (ints ts) := o23
    clear hus hul hts o2 o3 b1 b2 b3 hg hg2 r23 o23
    cases hv : pondB pp
    · have cv := iVal_is pp Ap cp (w3.drewN n4) _ hg4 hv
      clear hv
      go_wp2_with fail
      refine (cv).mono ?_
      rintro e w' ⟨rfl, rfl⟩
      clear cv
      go_wp2_with fail
      refine (sNar_ans pp Ap cp (w3.drewN n4) load hg4 hn1).mono ?_
      rintro e w5 ⟨us, hus, hul, A5, c5, rfl, o5, b5⟩
      obtain rfl : ts = us := NarR.uniq HTS.out hus
      go_wp2_with fail
      refine (equalInts_same ts A2 A5 c2 c5 w5 w5.heap.size ((r24.below b5).more b5.size) (Rd.own o5) htl).mono ?_
      rintro e w' ⟨rfl, n6, rfl⟩
      have bl5 := below_drewN (bl4.trans (b5.mono bl4.size)) n6
      clear hus o5 b5
      go_wp2
      go_ret
      exact ⟨rfl, bl5⟩
    · have cv := iVal_is pp Ap cp (w3.drewN n4) _ hg4 hv
      go_wp2_with fail
      refine (cv).mono ?_
      rintro e w' ⟨rfl, rfl⟩
      clear cv
      by_cases hl1 : load < 1
      · have hl2 : decide (load < 1) = true := decide_eq_true hl1
        go_wp2_with fail
        refine (sNar_ans pp Ap cp (w3.drewN n4) load hg4 hn1).mono ?_
        rintro e w5 ⟨us, hus, hul, A5, c5, rfl, o5, b5⟩
        obtain rfl : ts = us := NarR.uniq HTS.out hus
        go_wp2_with fail
        refine (equalInts_same ts A2 A5 c2 c5 w5 w5.heap.size ((r24.below b5).more b5.size) (Rd.own o5) htl).mono ?_
        rintro e w' ⟨rfl, n6, rfl⟩
        have bl5 := below_drewN (bl4.trans (b5.mono bl4.size)) n6
        clear hus o5 b5
        go_wp2
        go_ret
        exact ⟨rfl, bl5⟩
      · have hl2 : decide (load < 1) = false := decide_eq_false hl1
        have hc := pond_cnt hv
        have hl := pond_len hv
        have HV := Lib.hid hv
        clear hv
        go_wp2_with fail
        refine (iSizes_ans pp Ap cp (w3.drewN n4) load hg4).mono ?_
        rintro e w5 ⟨ss, hss, hsl, A5, c5, rfl, o5, b5⟩
        have hg5 := (hg4.below b5).more b5.size
        have HSS := Lib.hid hss
        go_wp2_with fail
        refine (iSafe_any pp Ap cp w5 hg5 load).mono ?_
        intro e w6 h6
        obtain ⟨A6, c6, rfl, o6, b6⟩ := safe_out h6 HV.out
        obtain ⟨g6, rfl, hg6a, hg6b, _, _⟩ := own_some o6 (by omega)
        have hg6 := (hg5.below b6).more b6.size
        have b56 : Below (w3.drewN n4).heap.size (w3.drewN n4) w6 := b5.trans (b6.mono b5.size)
        have r26 := (r24.below b56).more b56.size
        have BL6 := Lib.hid (bl4.trans (b56.mono bl4.size))
        have HCS : Hid (∀ wr, Below w6.heap.size w6 wr → ∀ k, k < cnt pp → wr.cell? ⟨g6, k, none⟩ = some (.bool (okF pp load k))) := Lib.hid fun wr hb k hk => by
          have := own_cell o6 (bools_at (bs := safeF pp load) (k := k) (by rw [safeF_len]; exact hk))
          rw [safeF_at] at this
          exact (hb.cell (p := ⟨g6, k, none⟩) (by exact hg6b)).trans this
        have HG : Hid (∀ wr, Below w6.heap.size w6 wr → RdG wr wr.heap.size Ap pp) := Lib.hid fun wr hb => (hg6.below hb).more hb.size
        have HR : Hid (∀ wr, Below w6.heap.size w6 wr → Rd wr wr.heap.size A2 (ints ts)) := Lib.hid fun wr hb => (r26.below hb).more hb.size
        clear h6 o5 o6 b5 b6 b56 r26 hg5 hg6 hss hg3 hg4 bl3 bl4 r24 o24
        have sl0 : (0 : Int) ≤ (ss.length : Int) := by omega
        obtain ⟨N, hN⟩ : ∃ N, N = ss.length := ⟨_, rfl⟩
        have HN := Lib.hid hN
        rw [← hN] at hsl ⊢
        clear hN sl0
        go_wp2
        go_loopw [8] (fun i wr => ∃ k : Nat, k ≤ cnt pp ∧ i = .int .i64 k ∧ Below w6.heap.size w6 wr) (fun i _ => cnt pp - (intOf i).toNat)
        case atStart => exact ⟨0, Nat.zero_le _, rfl, Below.refl _ _⟩
        case round =>
          obtain ⟨k, hk, rfl, hbel⟩ := hrel
          have HB := Lib.hid hbel
          clear hbel
          by_cases hlt : k < cnt pp
          · have hcell := HCS.out wr HB.out k hlt
            cases hq : okF pp load k
            · rw [hq] at hcell
              clear hq
              go_wp2
              go_roundw
              case rel => exact ⟨k + 1, by omega, by go_num, HB.out⟩
              case measure => simp [intOf]; omega
            · rw [hq] at hcell
              have HOK := Lib.hid hq
              clear hq
              have hcut := iCut_any pp Ap cp wr (HG.out wr HB.out) k
              rw [cutT_ok HV.out hlt] at hcut
              go_wp2_with fail
              refine (hcut).mono ?_
              rintro e w7 ⟨A7, c7, xs7, rfl, o7, b7⟩
              clear hcut
              go_wp2_with fail
              refine (iSizes_ans (cutF pp k) A7 c7 w7 load o7.rd).mono ?_
              rintro e w8 ⟨us, hus, hul, A8, c8, rfl, o8, b8⟩
              have hb8 : Below w6.heap.size w6 w8 := HB.out.trans ((b7.trans (b8.mono b7.size)).mono HB.out.size)
              have hcmp := nar_cell HV.out (by omega) hlt HOK.out HTS.out HSS.out hus
              rw [← HN.out] at hcmp
              have HB8 := Lib.hid hb8
              clear o7 b7 o8 b8 hus hb8 hcell
              generalize us.length = M at *
              obtain ⟨hmem, hsub⟩ := hcmp
              have cIn := isIn_any ts.length htl ts rfl A2 c2 w8 _ (HR.out w8 HB8.out) (k : Int)
              rw [hmem] at cIn
              clear hmem
              by_cases hgt : (M : Int) > (N : Int)
              · have hd : decide ((M : Int) > (N : Int)) = true := decide_eq_true hgt
                rw [hd] at cIn
                go_wp2_with fail
                refine (cIn).mono ?_
                rintro e w' ⟨rfl, rfl⟩
                clear cIn
                have hlt2 : decide ((M : Int) < (N : Int) - 1) = false := decide_eq_false (by omega)
                go_wp2
                go_roundw
                case rel => exact ⟨k + 1, by omega, by go_num, HB8.out⟩
                case measure => simp [intOf]; omega
              · have hd : decide ((M : Int) > (N : Int)) = false := decide_eq_false hgt
                rw [hd] at cIn
                go_wp2_with fail
                refine (cIn).mono ?_
                rintro e w' ⟨rfl, rfl⟩
                clear cIn
                have hlt2 : decide ((M : Int) < (N : Int) - 1) = false := decide_eq_false (by omega)
                go_wp2
                go_roundw
                case rel => exact ⟨k + 1, by omega, by go_num, HB8.out⟩
                case measure => simp [intOf]; omega
          · obtain rfl : k = cnt pp := by omega
            have cA := ascends_any ts.length htl ts rfl (nar_up HV.out HTS.out) A2 c2 wr _ (HR.out wr HB.out)
            go_wp2_with fail
            refine (cA).mono ?_
            rintro e w' ⟨rfl, m9, rfl⟩
            go_wp2
            go_ret
            exact ⟨rfl, below_drewN (BL6.out.trans (HB.out.mono BL6.out.size)) _⟩
  · have hn' : 1048576 < cs.length := by omega
    go_enter Try.func5, Try.ntmps5
    go_wp2
    go_ret
    exact ⟨rfl, Below.refl _ _⟩

set_option maxRecDepth 100000 in
theorem lifted (os : Os) (started : os.Started) (H : Type) (enc : TypeId × Value → H) :
    ReturnsInHanded {} Try.checked os 5 .any (Rows.fnNarrowsOfSpec.pre6 enc Try.prog Try.f5 Rows.fnNarrowsOfRow.domain false) (Rows.fnNarrowsOfSpec.post enc Try.prog Try.f5 false true false false) := by
  refine returnsInHanded_of_change (C := Try.checked) ownNone started (by kernel_rfl) Try.func5
    (ChangeSpec.witness6 (enc := enc) (C := Try.checked) false ⟨#[], #[.slice none 0 0], []⟩ 8 (by kernel_rfl) (by kernel_rfl) (by kernel_rfl) (by kernel_rfl)) ?_
  intro W base args ds gs before hval0 hW hcnd _
  have hval : ∀ (j : Nat) t v, Try.f5.params[j]? = some t → args[j]? = some v → Value.okWide Try.prog W .any base t v := hval0
  have hW' := hW
  obtain ⟨p, q, hA0, hV, rfl, _, _⟩ := hW
  have hA : DataW.TrodAll enc Try.prog W 0 (fun _ => true) true Try.f5.params.toList args.toList ds p := hA0
  rw [Try.params5] at hA hval
  obtain ⟨v0, vs0, d0, ds0, p0, q0, hargs, rfl, rfl, h0, r0⟩ := trodAll_cons hA
  obtain ⟨rfl, rfl, rfl⟩ := trodAll_nil r0
  obtain rfl : args = #[v0] := by cases args; simp_all
  obtain ⟨rfl, rfl⟩ := trodVars_none hV
  obtain ⟨Acs, ccs, cs, rfl, hrcs, hlcs, hqcs⟩ := open_rd Try.underlying22 Try.underlying5 cellsByte (hval 0 22 v0 rfl rfl) h0
  have hbcs := byte_bounds hqcs
  clear hA0 hval0
  refine (walk W cs Acs ccs hrcs hbcs hlcs).mono fun e W' ⟨he, hg⟩ => ?_
  subst he
  exact ⟨_, rfl, law_post laidOut (by kernel_rfl) rfl rfl rfl rfl rfl Try.underlying4 hW' hg⟩

/-- The statement. -/
theorem proved : Rows.FnNarrowsOfSaid :=
  OpenClaim.holds_of_wide 5 Try.f5 rfl rfl rfl rfl rfl rfl rfl ⟨rfl, rfl, rfl, rfl, rfl⟩ rfl rfl rfl rfl rfl (by kernel_rfl) Try.func5 (by kernel_rfl)
    (of_decide_eq_true (by kernel_rfl)) (by unfold Func.isWrapper; first | (rw [if_pos (by decide +kernel)]; kernel_rfl) | (rw [if_neg (by decide +kernel)]; exact ⟨rfl, rfl⟩))
    (fun os started H enc _ => lifted os started H enc)
#print axioms proved
end fnNarrowsOf

end Go.Proofs.Ytiihenhddleooac

/- The law FnFieldSizes: for every code it answers true, and the code reads as it read before. No condition. -/
import Derived.Test.YtiihenhddleooacLawM
import Derived.Test.YtiihenhddleooacHelps
import Derived.Test.YtiihenhddleooacNTot
import Derived.Test.YtiihenhddleooacPDraws
import Derived.Test.YtiihenhddleooacLaw
namespace Go.Proofs.Ytiihenhddleooac
open Go.RowKit
set_option linter.unusedVariables false
set_option linter.unusedSimpArgs false

namespace fnFieldSizes
open Go.ChangeShapes Go.WideShapes Go.ChangeAt Go.RowKit
set_option maxRecDepth 100000 in
set_option maxHeartbeats 800000 in
set_option maxRecDepth 100000 in
set_option maxRecDepth 100000 in
set_option maxHeartbeats 8000000 in
theorem walk (w : World) (cs : List Int) (Acs : Option Addr) (ccs : Nat) (hrcs : Rd w w.heap.size Acs (bytes cs)) (hbcs : ∀ z ∈ cs, 0 ≤ z ∧ z ≤ 255) (hlcs : cs.length ≤ ccs ∧ ccs ≤ maxLen) :
    Calls Try.prog 4 #[.slice Acs cs.length ccs] w fun e w' => e = .returned (.bool true) ∧ Below w.heap.size w w' := by
  by_cases hn : cs.length ≤ 1048576
  · go_enter Try.func4, Try.ntmps4
    go_wp2_with fail
    refine (dFieldSizes _ _ _ _ hrcs hbcs hlcs.1 hlcs.2).mono ?_
    rintro e w1 ⟨pp, Ap, cp, load, rfl, ⟨hpl, hpc, hcm, hg⟩, hbload, b1⟩
    have hn1 : pp.length ≤ 1048576 := by omega
    go_wp2_with fail
    refine (iSizes_ans pp Ap cp w1 load hg).mono ?_
    rintro e w2 ⟨ts, hts, htl, A2, c2, rfl, o2, b2⟩
    have hg2 := (hg.below b2).more b2.size
    go_wp2_with fail
    refine (sSizes_ans pp Ap cp w2 load hg2 hn1).mono ?_
    rintro e w3 ⟨us, hus, hul, A3, c3, rfl, o3, b3⟩
    obtain rfl : ts = us := SizesR.uniq hts hus
    have HTS := Lib.hid hts
    have hg3 := (hg2.below b3).more b3.size
    have r23 := ((Rd.own o2).below b3).more b3.size
    have o23 := own_below o2 b3
    have bl3 : Below w.heap.size w w3 := (b1.trans (b2.mono b1.size)).trans (b3.mono (by have := b1.size; have := b2.size; omega))
    go_wp2_with fail
    refine (equalInts_same ts A2 A3 c2 c3 w3 w3.heap.size r23 (Rd.own o3) htl).mono ?_
    rintro e w' ⟨rfl, n4, rfl⟩
    have hg4 : RdG (w3.drewN n4) (w3.drewN n4).heap.size Ap pp := hg3.drewN n4
    have bl4 : Below w.heap.size w (w3.drewN n4) := below_drewN bl3 n4
    have r24 : Rd (w3.drewN n4) (w3.drewN n4).heap.size A2 (ints ts) := r23
    have o24 : (w3.drewN n4).ownsRow w1.heap.size 3 1 (.slice A2 ts.length c2) ts.length (ints ts) := o23
    clear hus hul hts o2 o3 b1 b2 b3 hg hg2 r23 o23
    cases hv : pondB pp
    · have cv := iVal_is pp Ap cp (w3.drewN n4) _ hg4 hv
      clear hv
      go_wp2_with fail
      refine (cv).mono ?_
      rintro e w' ⟨rfl, rfl⟩
      clear cv
      go_wp2_with fail
      refine (sSizes_ans pp Ap cp (w3.drewN n4) load hg4 hn1).mono ?_
      rintro e w5 ⟨us, hus, hul, A5, c5, rfl, o5, b5⟩
      obtain rfl : ts = us := SizesR.uniq HTS.out hus
      go_wp2_with fail
      refine (equalInts_same ts A2 A5 c2 c5 w5 w5.heap.size ((r24.below b5).more b5.size) (Rd.own o5) htl).mono ?_
      rintro e w' ⟨rfl, n6, rfl⟩
      have bl5 := below_drewN (bl4.trans (b5.mono bl4.size)) n6
      clear hus o5 b5
      go_wp2
      go_ret
      exact ⟨rfl, bl5⟩
    · have cv := iVal_is pp Ap cp (w3.drewN n4) _ hg4 hv
      go_wp2_with fail
      refine (cv).mono ?_
      rintro e w' ⟨rfl, rfl⟩
      clear cv
      have hc := pond_cnt hv
      have HV := Lib.hid hv
      clear hv
      obtain ⟨fs, hlab, hts⟩ := sizes_rel HTS.out HV.out
      have hsum : ts.sum = ((cntP (okF pp load) (cnt pp) : Nat) : Int) := by rw [hts]; exact sz_sum hlab
      have HPOS : Hid (∀ k, k < ts.length → 1 ≤ at_ ts k) := Lib.hid fun k hk => by rw [hts] at hk ⊢; exact sz_pos hlab hk
      clear hlab hts
      have HSUM := Lib.hid hsum
      clear hsum
      go_wp2_with fail
      refine (iSafe_any pp Ap cp (w3.drewN n4) hg4 load).mono ?_
      intro e w6 h6
      obtain ⟨A6, c6, rfl, o6, b6⟩ := safe_out h6 HV.out
      obtain ⟨g6, rfl, hg6a, hg6b, _, _⟩ := own_some o6 (by omega)
      have hg6 := (hg4.below b6).more b6.size
      have r26 := (r24.below b6).more b6.size
      have BL6 := Lib.hid (bl4.trans (b6.mono bl4.size))
      have HCS : Hid (∀ wr, Below w6.heap.size w6 wr → ∀ k, k < cnt pp → wr.cell? ⟨g6, k, none⟩ = some (.bool (okF pp load k))) := Lib.hid fun wr hb k hk => by
        have := own_cell o6 (bools_at (bs := safeF pp load) (k := k) (by rw [safeF_len]; exact hk))
        rw [safeF_at] at this
        exact (hb.cell (p := ⟨g6, k, none⟩) (by exact hg6b)).trans this
      have HG : Hid (∀ wr, Below w6.heap.size w6 wr → RdG wr wr.heap.size Ap pp) := Lib.hid fun wr hb => (hg6.below hb).more hb.size
      have HR : Hid (∀ wr, Below w6.heap.size w6 wr → Rd wr wr.heap.size A2 (ints ts)) := Lib.hid fun wr hb => (r26.below hb).more hb.size
      clear h6 o6 b6 r26 hg6 hg3 hg4 bl3 bl4 r24 o24
      go_wp2
      go_loopw [7, 8] (fun n i wr => ∃ k : Nat, k ≤ cnt pp ∧ n = .int .i64 (cntP (okF pp load) k : Nat) ∧ i = .int .i64 k ∧ Below w6.heap.size w6 wr) (fun _ i _ => cnt pp - (intOf i).toNat)
      case atStart => exact ⟨0, Nat.zero_le _, rfl, rfl, Below.refl _ _⟩
      case round =>
        obtain ⟨k, hk, rfl, rfl, hbel⟩ := hrel
        have HB := Lib.hid hbel
        clear hbel
        have hcl := cntP_le (okF pp load) k
        by_cases hlt : k < cnt pp
        · have hcell := HCS.out wr HB.out k hlt
          have hnx := cntP_succ (okF pp load) k
          cases hq : okF pp load k
          · rw [hq] at hcell hnx
            have HNX := Lib.hid hnx
            clear hnx hq
            generalize cntP (okF pp load) k = q at *
            go_wp2
            go_roundw
            case rel => exact ⟨k + 1, by omega, by rw [HNX.out]; rfl, by go_num, HB.out⟩
            case measure => simp [intOf]; omega
          · rw [hq] at hcell hnx
            have HNX := Lib.hid hnx
            clear hnx hq
            generalize cntP (okF pp load) k = q at *
            go_wp2
            go_roundw
            case rel => exact ⟨k + 1, by omega, by rw [HNX.out]; go_num, by go_num, HB.out⟩
            case measure => simp [intOf]; omega
        · obtain rfl : k = cnt pp := by omega
          obtain ⟨n7, hn7⟩ : ∃ n7, n7 = cntP (okF pp load) (cnt pp) := ⟨_, rfl⟩
          have HN7 := Lib.hid hn7
          rw [← hn7]
          rw [← hn7] at hcl
          clear hn7
          obtain ⟨N, hN⟩ : ∃ N, N = ts.length := ⟨_, rfl⟩
          have HN := Lib.hid hN
          rw [← hN] at htl ⊢
          clear hN
          go_wp2
          go_loopw [9] (fun i w2 => ∃ k : Nat, k ≤ N ∧ i = .int .i64 k ∧ Below w6.heap.size w6 w2) (fun i _ => N - (intOf i).toNat)
          case atStart => exact ⟨0, Nat.zero_le _, rfl, HB.out⟩
          case round =>
            obtain ⟨k, hk, rfl, hbel⟩ := hrel
            have HB2 := Lib.hid hbel
            clear hbel
            by_cases hlt : k < N
            · obtain ⟨b, off, y, rfl, _, hy, hcy⟩ := (HR.out wr HB2.out).int_ (k := k) (by rw [← HN.out]; exact hlt)
              have hp1 := HPOS.out k (by rw [← HN.out]; exact hlt)
              rw [at_of hy.out] at hp1
              have hy1 : decide (y < 1) = false := decide_eq_false (by omega)
              go_wp2
              go_roundw
              case rel => exact ⟨k + 1, by omega, by go_num, HB2.out⟩
              case measure => simp [intOf]; omega
            · obtain rfl : k = N := by omega
              have hp := (⟨HV.out, HG.out wr HB2.out⟩ : Pnd wr wr.heap.size Ap pp)
              go_wp2_with fail
              refine (turned_any pp Ap cp wr hp).mono ?_
              rintro e w7 ⟨A7, c7, rfl, r7, b7⟩
              have cO := iSizes_ans (tpF pp) A7 c7 w7 load r7
              rw [tpF_len] at cO
              go_wp2_with fail
              refine (cO).mono ?_
              rintro e w8 ⟨us, hus, hul, A8, c8, rfl, o8, b8⟩
              have hb8 : Below w6.heap.size w6 w8 := HB2.out.trans ((b7.trans (b8.mono b7.size)).mono HB2.out.size)
              have ht := sizes_turn HV.out HTS.out hus
              have r2 := HR.out w8 hb8
              have cT := total_nn ts.length (by rw [← HN.out]; exact htl) ts rfl (fun z hz => by
                obtain ⟨j, hj⟩ := List.mem_iff_getElem?.1 hz
                have := HPOS.out j (List.getElem?_eq_some_iff.1 hj).1
                rw [at_of hj] at this
                omega) (by rw [HSUM.out, ← HN7.out]; omega) A2 c2 w8 _ r2
              rw [HSUM.out, ← HN7.out, ← HN.out] at cT
              have cG2 := greatest_any ts.length (by rw [← HN.out]; exact htl) ts rfl A2 c2 w8 _ r2
              have cG8 := greatest_any us.length hul us rfl A8 c8 w8 _ (Rd.own o8)
              rw [ht.2] at cG8
              rw [← HN.out] at cG2 ht
              obtain ⟨hul2, _⟩ := ht
              rw [hul2] at cG8 ⊢
              generalize grF ts = G at *
              have HB8 := Lib.hid hb8
              clear o8 b7 b8 hus hb8 r2 hul2 r7 hp cO
              go_wp2_with fail
              refine (cT).mono ?_
              rintro e w' ⟨rfl, rfl⟩
              clear cT
              go_wp2_with fail
              refine (cG8).mono ?_
              rintro e w' ⟨rfl, rfl⟩
              clear cG8
              go_wp2_with fail
              refine (cG2).mono ?_
              rintro e w' ⟨rfl, rfl⟩
              go_wp2
              go_ret
              exact ⟨rfl, BL6.out.trans (HB8.out.mono BL6.out.size)⟩
  · have hn' : 1048576 < cs.length := by omega
    go_enter Try.func4, Try.ntmps4
    go_wp2
    go_ret
    exact ⟨rfl, Below.refl _ _⟩

set_option maxRecDepth 100000 in
theorem lifted (os : Os) (started : os.Started) (H : Type) (enc : TypeId × Value → H) :
    ReturnsInHanded {} Try.checked os 4 .any (Rows.fnFieldSizesSpec.pre6 enc Try.prog Try.f4 Rows.fnFieldSizesRow.domain false) (Rows.fnFieldSizesSpec.post enc Try.prog Try.f4 false true false false) := by
  refine returnsInHanded_of_change (C := Try.checked) ownNone started (by kernel_rfl) Try.func4
    (ChangeSpec.witness6 (enc := enc) (C := Try.checked) false ⟨#[], #[.slice none 0 0], []⟩ 8 (by kernel_rfl) (by kernel_rfl) (by kernel_rfl) (by kernel_rfl)) ?_
  intro W base args ds gs before hval0 hW hcnd _
  have hval : ∀ (j : Nat) t v, Try.f4.params[j]? = some t → args[j]? = some v → Value.okWide Try.prog W .any base t v := hval0
  have hW' := hW
  obtain ⟨p, q, hA0, hV, rfl, _, _⟩ := hW
  have hA : DataW.TrodAll enc Try.prog W 0 (fun _ => true) true Try.f4.params.toList args.toList ds p := hA0
  rw [Try.params4] at hA hval
  obtain ⟨v0, vs0, d0, ds0, p0, q0, hargs, rfl, rfl, h0, r0⟩ := trodAll_cons hA
  obtain ⟨rfl, rfl, rfl⟩ := trodAll_nil r0
  obtain rfl : args = #[v0] := by cases args; simp_all
  obtain ⟨rfl, rfl⟩ := trodVars_none hV
  obtain ⟨Acs, ccs, cs, rfl, hrcs, hlcs, hqcs⟩ := open_rd Try.underlying22 Try.underlying5 cellsByte (hval 0 22 v0 rfl rfl) h0
  have hbcs := byte_bounds hqcs
  clear hA0 hval0
  refine (walk W cs Acs ccs hrcs hbcs hlcs).mono fun e W' ⟨he, hg⟩ => ?_
  subst he
  exact ⟨_, rfl, law_post laidOut (by kernel_rfl) rfl rfl rfl rfl rfl Try.underlying4 hW' hg⟩

/-- The statement. -/
theorem proved : Rows.FnFieldSizesSaid :=
  OpenClaim.holds_of_wide 4 Try.f4 rfl rfl rfl rfl rfl rfl rfl ⟨rfl, rfl, rfl, rfl, rfl⟩ rfl rfl rfl rfl rfl (by kernel_rfl) Try.func4 (by kernel_rfl)
    (of_decide_eq_true (by kernel_rfl)) (by unfold Func.isWrapper; first | (rw [if_pos (by decide +kernel)]; kernel_rfl) | (rw [if_neg (by decide +kernel)]; exact ⟨rfl, rfl⟩))
    (fun os started H enc _ => lifted os started H enc)
#print axioms proved
end fnFieldSizes

end Go.Proofs.Ytiihenhddleooac

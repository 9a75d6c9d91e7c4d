/- Contract of the model's risks. -/
import Derived.Deep.RegionWith
import Derived.Test.YtbnggakfogcaladRisks
namespace Go.Proofs.Ytbnggakfogcalad
open Go.RowKit
set_option linter.unusedVariables false
set_option linter.unusedSimpArgs false
def ScRel (w wi : World) (n g1 c1 g2 c2 : Nat) (rs : List Int) (dn : List Bool) (v i : Value) : Prop :=
  ∃ (k : Nat) (l : Int), k ≤ n ∧ i = .int .i64 k ∧ v = .int .i64 l ∧ Least rs dn k l ∧ Two w wi n g1 c1 g2 c2 rs dn
def RsRel (w : World) (n g1 c1 g2 c2 : Nat) (nb : Nat → List Nat) (ok : Nat → Bool) (rk : Nat → Int) (a : Nat) (m : Nat) (wr : World) : Prop :=
  ∃ (rs : List Int) (dn : List Bool), opens dn = m ∧ Dij n nb ok rk a ((n : Int) - m) rs dn ∧ Two w wr n g1 c1 g2 c2 rs dn
set_option maxRecDepth 100000 in
set_option maxRecDepth 100000 in
set_option maxHeartbeats 8000000 in
theorem sRisks_any (pp : List (List Int)) (A : Option Addr) (c : Nat) (w : World) (hp : Pnd w w.heap.size A pp) (load : Int) (a : Nat) (haN : a < cnt pp) :
    Calls Try.prog 79 #[.slice A pp.length c, .int .i64 load, .int .i64 a] w (OutRisk (cnt pp) (nbP pp) (okF pp load) (rkF pp) a w) := by
  have hc := pond_cnt hp.1
  have Gr0 := gr_pond hp.1
  have HOK : Hid (∀ i, okF pp load i = true → i < cnt pp) := Lib.hid fun i hi => okF_lt i hi
  have HNB : Hid (∀ k, (nbP pp k).length ≤ 4) := Lib.hid fun k => nb4_len _ _ _
  have HR1 : Hid (∀ k, 1 ≤ rkF pp k) := Lib.hid (rkF_ge pp)
  have HR2 : Hid (∀ k, rkF pp k ≤ 201) := Lib.hid (rkF_le pp)
  have HCn : Hid (∀ (w' : World), Pnd w' w'.heap.size A pp → Calls Try.prog 68 #[.slice A pp.length c] w' fun e w'' => e = .returned (.int .i64 (cnt pp : Nat)) ∧ w' = w'') := Lib.hid fun w' h => sCnt_any pp A c w' _ h
  have ra1 := rkF_ge pp a
  have ra2 := rkF_le pp a
  have HaC : a < cnt pp := haN
  obtain ⟨i0, hi, hz0, hz1, hz2⟩ := info_parts info_int
  generalize hn : cnt pp = n at haN hc Gr0 HOK HCn ⊢
  have HN := Lib.hid hn
  clear hn
  have hmk := run_make_row' (P := Try.prog) 29 4 (.bool false) 1 Try.underlying29 info_bool rfl .i64 .i64 n (by omega) (by omega)
  go_enter Try.func79, Try.ntmps79
  go_wp2
  go_loopw [7, 8] (fun s i wr => ∃ k : Nat, k ≤ n ∧ i = .int .i64 k ∧ wr.ownsRow w.heap.size 3 1 s k (ints (List.replicate k (-1))) ∧ Below w.heap.size w wr) (fun _ i _ => n - (intOf i).toNat)
  case atStart => exact ⟨0, Nat.zero_le _, rfl, own_empty w _, (Below.refl _ _).alloc (Nat.le_refl _) _⟩
  case round =>
    obtain ⟨k, hk, rfl, hown, hbel⟩ := hrel
    have hbz := hbel.size
    have hpr := hp.up hbel
    by_cases hlt : k < n
    · go_wp2_with (first | (go_at_call 68; refine (HCn.out _ hpr).mono ?_; rintro e w' ⟨rfl, rfl⟩) | (at_builtin; refine wpList_append_own _ rfl _ _ 26 rfl (w.heap.size) 3 i0 (.int .i64 0) 1 8 Try.underlying26 hi hz0 hz1 hz2 rfl (by decide) _ _ _ rfl (hown.alloc _) ⟨wr.heap.size, 0, none⟩ 1 1 [.int .i64 (-1)] rfl rfl ?c1 ?c2 ?c3 ?c4 ?c5 ?_))
      first | (case c1 => first | exact one_new _ _ _ _ rfl | exact one_new _ _ _ _ (by simp)) | skip
      case c2 => first | rfl | (intro u hu; simp at hu; subst hu; rfl)
      case c3 => unfold maxLen; omega
      case c4 => omega
      case c5 => have := hbel.size; simp; omega
      · intro v' w1 hown' hgrow _
        have R : w1.ownsRow w.heap.size 3 1 v' (k + 1) (ints (List.replicate (k + 1) (-1))) := by
          rw [List.replicate_succ']
          simpa [ints] using hown'
        have hb1 : Below w.heap.size w w1 := (hbel.alloc hbel.size _).grown hgrow (by have := hbel.size; simp; omega) (own_block hown)
        clear hown' hgrow hown hbel hpr
        go_wp2
        go_roundw
        case rel => exact ⟨k + 1, by omega, by go_num, R, hb1⟩
        case measure => simp [intOf]; omega
    · obtain rfl : n = k := by omega
      obtain ⟨A1, c1, rfl⟩ := own_form hown
      obtain ⟨g, rfl, hg, hg1, hgc, hgm⟩ := own_some hown (by omega)
      go_wp2_with fail
      refine (HCn.out _ hpr).mono ?_
      rintro e w' ⟨rfl, rfl⟩
      cases hq : okF pp load a
      · have Hq := Lib.hid hq
        have HO := Lib.hid hown
        have HBl := Lib.hid hbel
        clear hq
        go_wp2_with fail
        refine (bears_is _ _ _ _ _ hpr _ HaC _ Hq.out).mono ?_
        rintro e w' ⟨rfl, nb, rfl⟩
        clear hown hbel hpr
        go_wp2
        go_ret
        exact ⟨_, IsRisk.none_ Hq.out, _, _, by simp, rfl, own_drewN HO.out nb, below_drewN HBl.out nb⟩
      · have Hq := Lib.hid hq
        clear hq
        go_wp2_with fail
        refine (bears_is _ _ _ _ _ hpr _ HaC _ Hq.out).mono ?_
        rintro e w' ⟨rfl, nb, rfl⟩
        have hpr2 := hpr.drewN nb
        go_wp2_with fail
        refine (sRisk_any _ _ _ _ _ hpr2 _ HaC).mono ?_
        rintro e w' ⟨rfl, nr, rfl⟩
        have hfz := own_frozen hown a
        have hcl := own_cell hown (ints_at' (zs := List.replicate n (-1)) (k := a) (by simpa using haN))
        have hS : ((wr.drewN (nb + nr)).setCell ⟨g, a, none⟩ (.int .i64 (rkF pp a))).ownsRow w.heap.size 3 1 (.slice (some ⟨g, 0, none⟩) n c1) n (ints ((List.replicate n (-1)).set a (rkF pp a))) := by rw [← ints_set]; exact own_put (own_drewN hown (nb + nr)) a _
        have hB : Below w.heap.size w ((wr.drewN (nb + nr)).setCell ⟨g, a, none⟩ (.int .i64 (rkF pp a))) := (below_drewN hbel (nb + nr)).setCell (by simpa using hg) _
        have hgs : g < ((wr.drewN (nb + nr)).setCell ⟨g, a, none⟩ (.int .i64 (rkF pp a))).heap.size := own_lt hS g rfl
        go_wp2_with fail
        generalize ((wr.drewN (nb + nr)).setCell ⟨g, a, none⟩ (.int .i64 (rkF pp a))) = w0 at *
        clear hown hbel hpr hpr2 hfz hcl
        refine (HCn.out _ (hp.up hB)).mono ?_
        rintro e w' ⟨rfl, rfl⟩
        have hTwo : Two w (w0.alloc (.cells (madeCells #[Value.bool false] n) 4)) n g c1 w0.heap.size n ((List.replicate n (-1)).set a (rkF pp a)) (List.replicate n false) := by
          have h2 := own_made w0 (.bool false) n 4 (by unfold maxLen; omega)
          refine ⟨own_alloc hS _, ?_, by omega, hB.alloc hB.size _⟩
          have h3 := own_base h2 (base' := w.heap.size) hB.size
          simpa [bools] using h3
        have HT := Lib.hid hTwo
        clear hTwo hS hB
        go_wp2
        go_loopg [] n (fun m wr => RsRel w n g c1 w0.heap.size n (nbP pp) (okF pp load) (rkF pp) a m wr)
        case atStart => exact ⟨_, _, opens_rep n, by rw [Int.sub_self]; exact Dij.start haN Hq.out ra1 ra2, HT.out⟩
        case round =>
          obtain ⟨rs, dn, hop, hdij, htwo⟩ := hrel
          have HDij := Lib.hid hdij
          have HOp := Lib.hid hop
          have HTw0 := Lib.hid htwo
          have hgk : gk ≤ n := by rw [← hop, ← hdij.dlen]; exact opens_le dn
          clear hdij hop htwo
          go_wp2
          go_loopw [10, 11] (fun v i wi => ScRel w wi n g c1 w0.heap.size n rs dn v i) (fun _ i _ => n - (intOf i).toNat)
          case atStart => exact ⟨0, -1, Nat.zero_le _, rfl, rfl, .inl ⟨rfl, fun i hi => by omega⟩, HTw0.out⟩
          case round =>
            obtain ⟨k, l, hk, rfl, rfl, hl, htw⟩ := hrel
            have HTw := Lib.hid htw
            have hpr := hp.up htw.2.2.2
            by_cases hlt : k < n
            · have hcr := own_cell htw.1 (ints_at' (zs := rs) (k := k) (by rw [HDij.out.len]; exact hlt))
              have hcd := own_cell htw.2.1 (bools_at (bs := dn) (k := k) (by rw [HDij.out.dlen]; exact hlt))
              cases hq : isd dn k
              · rw [hq] at hcd
                have Hqd := Lib.hid hq
                clear hq
                by_cases h0 : at_ rs k < 0
                · have R := Lib.hid (hl.skip (fun h => by omega))
                  have h0b : decide (0 ≤ at_ rs k) = false := decide_eq_false (by omega)
                  clear hl htw
                  go_wp2_with (go_at_call 68; refine (HCn.out _ hpr).mono ?_; rintro e w' ⟨rfl, rfl⟩)
                  refine wp_region_quiet_lit (by kernel_rfl) (by kernel_rfl) ?_
                  repeat (go_big_quiet_step (fail))
                  refine wpQuiet_nil ?_
                  intro _ hw'
                  obtain ⟨nq, hw''⟩ := hw'
                  subst hw''
                  go_wp2
                  go_roundw
                  case rel => exact ⟨k + 1, l, by omega, by go_num, rfl, R.out, two_drewN HTw.out _⟩
                  case measure => simp [intOf]; omega
                · have h0' : 0 ≤ at_ rs k := by omega
                  have h0b : decide (0 ≤ at_ rs k) = true := decide_eq_true h0'
                  rcases hl with ⟨rfl, h1⟩ | ⟨ci, rfl, hc', hc0, hco, h1⟩
                  · have R := Lib.hid (Least.take (.inl ⟨rfl, h1⟩) h0' Hqd.out (fun c h => by omega))
                    clear h1 htw
                    go_wp2_with (go_at_call 68; refine (HCn.out _ hpr).mono ?_; rintro e w' ⟨rfl, rfl⟩)
                    refine wp_region_quiet_lit (by kernel_rfl) (by kernel_rfl) ?_
                    repeat (go_big_quiet_step (fail))
                    refine wpQuiet_nil ?_
                    intro _ hw'
                    obtain ⟨nq, hw''⟩ := hw'
                    subst hw''
                    go_wp2
                    go_roundw
                    case rel => exact ⟨k + 1, _, by omega, by go_num, rfl, R.out, two_drewN HTw.out _⟩
                    case measure => simp [intOf]; omega
                  · have hcin : ci < n := by omega
                    have hcib : decide ((ci : Int) < 0) = false := decide_eq_false (by omega)
                    have hcc := own_cell htw.1 (ints_at' (zs := rs) (k := ci) (by rw [HDij.out.len]; omega))
                    by_cases hlt2 : at_ rs k < at_ rs ci
                    · have hltb : decide (at_ rs k < at_ rs ci) = true := decide_eq_true hlt2
                      have R := Lib.hid (Least.take (.inr ⟨ci, rfl, hc', hc0, hco, h1⟩) h0' Hqd.out (fun d h => (show d = ci by omega) ▸ (by omega)))
                      clear h1 hco htw
                      go_wp2_with (go_at_call 68; refine (HCn.out _ hpr).mono ?_; rintro e w' ⟨rfl, rfl⟩)
                      refine wp_region_quiet_lit (by kernel_rfl) (by kernel_rfl) ?_
                      repeat (go_big_quiet_step (fail))
                      refine wpQuiet_nil ?_
                      intro _ hw'
                      obtain ⟨nq, hw''⟩ := hw'
                      subst hw''
                      go_wp2
                      go_roundw
                      case rel => exact ⟨k + 1, _, by omega, by go_num, rfl, R.out, two_drewN HTw.out _⟩
                      case measure => simp [intOf]; omega
                    · have hltb : decide (at_ rs k < at_ rs ci) = false := decide_eq_false hlt2
                      have R := Lib.hid (Least.skip (k := k) (.inr ⟨ci, rfl, hc', hc0, hco, h1⟩) (fun _ _ => ⟨ci, rfl, by omega⟩))
                      clear h1 hco htw
                      go_wp2_with (go_at_call 68; refine (HCn.out _ hpr).mono ?_; rintro e w' ⟨rfl, rfl⟩)
                      refine wp_region_quiet_lit (by kernel_rfl) (by kernel_rfl) ?_
                      repeat (go_big_quiet_step (fail))
                      refine wpQuiet_nil ?_
                      intro _ hw'
                      obtain ⟨nq, hw''⟩ := hw'
                      subst hw''
                      go_wp2
                      go_roundw
                      case rel => exact ⟨k + 1, _, by omega, by go_num, rfl, R.out, two_drewN HTw.out _⟩
                      case measure => simp [intOf]; omega
              · rw [hq] at hcd
                have R := Lib.hid (hl.skip (fun _ h => by rw [hq] at h; cases h))
                clear hl hq htw
                go_wp2_with (go_at_call 68; refine (HCn.out _ hpr).mono ?_; rintro e w' ⟨rfl, rfl⟩)
                refine wp_region_quiet_lit (by kernel_rfl) (by kernel_rfl) ?_
                repeat (go_big_quiet_step (fail))
                refine wpQuiet_nil ?_
                intro _ hw'
                obtain ⟨nq, hw''⟩ := hw'
                subst hw''
                go_wp2
                go_roundw
                case rel => exact ⟨k + 1, l, by omega, by go_num, rfl, R.out, two_drewN HTw.out _⟩
                case measure => simp [intOf]; omega
            · obtain rfl : n = k := by omega
              rcases hl with ⟨rfl, hall⟩ | ⟨ci, rfl, hcn, hc0, hco, hmin⟩
              · have R : OutRisk n (nbP pp) (okF pp load) (rkF pp) a w (.returned (.slice (some ⟨g, 0, none⟩) n c1)) wr := by
                  refine ⟨rs, HDij.out.done HR1.out (by omega) (fun i hi => ?_), _, _, HDij.out.len, rfl, htw.1, htw.2.2.2⟩
                  exact hall i (by have := at_lt hi; have := HDij.out.len; omega) hi
                have HR := Lib.hid R
                clear R htw hall
                go_wp2_with (go_at_call 68; refine (HCn.out _ hpr).mono ?_; rintro e w' ⟨rfl, rfl⟩)
                go_ret
                exact HR.out
              · skip
                have hcp : ci < cnt pp := by rw [HN.out]; exact hcn
                have hTurn := HDij.out.turn (c := ci) hcn hc0 hco (fun i hi hd => hmin i (by have := at_lt hi; have := HDij.out.len; omega) hi hd)
                have HTurn := Lib.hid hTurn
                have hopen : opens (dn.set ci true) + 1 = gk := by
                  rw [← HOp.out]
                  exact opens_set (by rw [isd_get (by rw [HDij.out.dlen]; exact hcn), hco])
                have hq : (n : Int) - gk + 1 = (n : Int) - (opens (dn.set ci true) : Nat) := by omega
                rw [hq] at HTurn
                have HQ := Lib.hid hopen
                clear hTurn hq hmin hopen hco
                have htd := two_dn htw ci true
                have HTd := Lib.hid htd
                have hfzd := own_frozen htw.2.1 ci
                have hcld := own_cell htw.2.1 (bools_at (bs := dn) (k := ci) (by rw [HDij.out.dlen]; exact hcn))
                have hbd : Below w.heap.size w (wr.setCell ⟨w0.heap.size, ci, none⟩ (.bool true)) := htd.2.2.2
                have hpd := hp.up hbd
                have hnb := nb_some HNB.out ci
                clear htd htw
                go_wp2_with fail
                refine (HCn.out _ hpr).mono ?_
                rintro e w' ⟨rfl, rfl⟩
                go_wp2_with fail
                refine (sBeside_any _ _ _ _ hpd _ hcp).mono ?_
                rintro e w2 ⟨A2, c2, rfl, o2, b2⟩
                have HTd2 : Hid (Two w w2 n g c1 w0.heap.size n rs (dn.set ci true)) := Lib.hid (two_below HTd.out b2)
                have HLL : Hid ((nats (nbP pp ci)).length = (nbP pp ci).length) := Lib.hid (nats_length _)
                generalize hLe : (nats (nbP pp ci)).length = L at *
                clear hLe
                have hlo2 : (wr.setCell ⟨w0.heap.size, ci, none⟩ (.bool true)).heap.size ≤ w2.heap.size := b2.size
                have hgl : g < (wr.setCell ⟨w0.heap.size, ci, none⟩ (.bool true)).heap.size := own_lt HTd.out.1 g rfl
                generalize hlo : (wr.setCell ⟨w0.heap.size, ci, none⟩ (.bool true)).heap.size = lo at *
                clear hlo b2 hpd hbd hcld hfzd HTd HTw hpr
                go_wp2
                go_loopw [13] (fun s wi => RkIn w wi n g c1 w0.heap.size n (nbP pp) (okF pp load) (rkF pp) a ((n : Int) - (opens (dn.set ci true) : Nat)) (dn.set ci true) ci lo A2 c2 L s) (fun s _ => L - (intOf s).toNat)
                case atStart => exact ⟨0, rs, Nat.zero_le _, rfl, HTurn.out, HTd2.out, o2, hgl, hlo2⟩
                case round =>
                  clear o2 hlo2
                  obtain ⟨t, rs', ht, rfl, hdi, htw, hoA, hgl2, hlo'⟩ := hrel
                  have HDi := Lib.hid hdi
                  have HTw := Lib.hid htw
                  have hqn : (opens (dn.set ci true) : Nat) ≤ n := by have := opens_le (dn.set ci true); rw [HDi.out.dlen] at this; exact this
                  by_cases htl : t < L
                  · obtain ⟨k, hk⟩ : ∃ k, (nbP pp ci)[t]? = some k := ⟨_, List.getElem?_eq_getElem (by have := HLL.out; omega)⟩
                    have HK := Lib.hid hk
                    obtain ⟨gA, rfl, hgA, _, _, _⟩ := own_some hoA (by omega)
                    have hcA := own_cell hoA (nats_get hk)
                    have hkN : k < n := Gr0.lt ci k hcn (List.mem_of_getElem? hk)
                    have hkn2 : k < cnt pp := by rw [HN.out]; exact hkN
                    have hpr := hp.up htw.2.2.2
                    have hcc := own_cell htw.1 (ints_at' (zs := rs') (k := ci) (by rw [HDi.out.len]; exact hcn))
                    have hck := own_cell htw.1 (ints_at' (zs := rs') (k := k) (by rw [HDi.out.len]; exact hkN))
                    have hfk := own_frozen htw.1 k
                    have x0 := HDi.out.pos ci HDi.out.cur
                    have x1 := HDi.out.bndc
                    have y1 := HDi.out.bnd k
                    have z0 := HR1.out k
                    have z1 := HR2.out k
                    obtain ⟨x, hx⟩ : ∃ x, x = at_ rs' ci := ⟨_, rfl⟩
                    obtain ⟨y, hy⟩ : ∃ y, y = at_ rs' k := ⟨_, rfl⟩
                    rw [← hx] at hcc x0 x1
                    rw [← hy] at hck y1
                    have HX : Hid (at_ rs' ci = x) := Lib.hid hx.symm
                    have HY : Hid (at_ rs' k = y) := Lib.hid hy.symm
                    clear hx hy hk htw hdi
                    have hw1 : IntKind.i64.wrap (x + rkF pp k) = x + rkF pp k := IntWalk.i64_in _ (by omega)
                    cases hq : okF pp load k
                    · have Hq := Lib.hid hq
                      clear hq
                      go_wp2
                      refine wp_region_quiet_lit (by kernel_rfl) (by kernel_rfl) ?_
                      repeat (go_big_quiet_step (fail))
                      go_big_quiet_step ((go_at_call 69; exact quiet_draw (bears_is _ _ _ _ _ (hpr.drewN _) _ hkn2 _ Hq.out)))
                      repeat (go_big_quiet_step (fail))
                      refine wpQuiet_nil ?_
                      intro _ hw'
                      obtain ⟨nq, hw''⟩ := hw'
                      subst hw''
                      go_wp2
                      go_roundw
                      case rel => exact ⟨t + 1, rs', by omega, by go_num, HDi.out.skip HK.out (.inl Hq.out), two_drewN HTw.out _, own_drewN hoA _, hgl2, hlo'⟩
                      case measure => simp [intOf]; omega
                    · have Hq := Lib.hid hq
                      clear hq
                      by_cases hless : y < 0 ∨ x + rkF pp k < y
                      · have HLess : Hid (DijI n (nbP pp) (okF pp load) (rkF pp) a ((n : Int) - (opens (dn.set ci true) : Nat)) (rs'.set k (x + rkF pp k)) (dn.set ci true) ci (t + 1)) := Lib.hid (by
                          have := HDi.out.less HR1.out HR2.out hkN HK.out Hq.out (by rw [HX.out, HY.out]; exact hless)
                          rw [HX.out] at this
                          exact this)
                        by_cases hy0 : y < 0
                        · have hyb : decide (y < 0) = true := decide_eq_true hy0
                          clear hless
                          go_wp2
                          refine wp_region_quiet_lit (by kernel_rfl) (by kernel_rfl) ?_
                          repeat (go_big_quiet_step (fail))
                          go_big_quiet_step ((go_at_call 69; exact quiet_draw (bears_is _ _ _ _ _ (hpr.drewN _) _ hkn2 _ Hq.out)))
                          repeat (go_big_quiet_step (fail))
                          refine wpQuiet_nil ?_
                          intro _ hw'
                          obtain ⟨nq, hw''⟩ := hw'
                          subst hw''
                          go_wp2
                          go_region_with (go_at_call 84; refine (sRisk_any _ _ _ _ _ (hpr.drewN _) _ hkn2).mono ?_; rintro e w' ⟨rfl, nb, rfl⟩)
                          all_goals
                            go_wp2
                            go_roundw
                            case rel => exact ⟨t + 1, _, by omega, by go_num, HLess.out, two_rs (two_drewN HTw.out _) k _, own_other (own_drewN hoA _) (own_apart hoA hgl2) _, hgl2, by simpa [World.setCell] using hlo'⟩
                            case measure => simp [intOf]; omega
                        · have hl2 : x + rkF pp k < y := by omega
                          have hy1 : 0 ≤ y := by omega
                          have hyb : decide (y < 0) = false := decide_eq_false hy0
                          have hlb : decide (x + rkF pp k < y) = true := decide_eq_true hl2
                          clear hless
                          go_wp2
                          refine wp_region_quiet_lit (by kernel_rfl) (by kernel_rfl) ?_
                          repeat (go_big_quiet_step (fail))
                          go_big_quiet_step ((go_at_call 69; exact quiet_draw (bears_is _ _ _ _ _ (hpr.drewN _) _ hkn2 _ Hq.out)))
                          repeat (go_big_quiet_step (fail))
                          go_big_quiet_step ((go_at_call 84; exact quiet_draw (sRisk_any _ _ _ _ _ (hpr.drewN _) _ hkn2)))
                          repeat (go_big_quiet_step (fail))
                          refine wpQuiet_nil ?_
                          intro _ hw'
                          obtain ⟨nq, hw''⟩ := hw'
                          subst hw''
                          go_wp2
                          go_region_with (go_at_call 84; refine (sRisk_any _ _ _ _ _ (hpr.drewN _) _ hkn2).mono ?_; rintro e w' ⟨rfl, nb, rfl⟩)
                          all_goals
                            go_wp2
                            go_roundw
                            case rel => exact ⟨t + 1, _, by omega, by go_num, HLess.out, two_rs (two_drewN HTw.out _) k _, own_other (own_drewN hoA _) (own_apart hoA hgl2) _, hgl2, by simpa [World.setCell] using hlo'⟩
                            case measure => simp [intOf]; omega
                      · have hy0 : 0 ≤ y := by omega
                        have hl2 : y ≤ x + rkF pp k := by omega
                        have hyb : decide (y < 0) = false := decide_eq_false (by omega)
                        have hlb : decide (x + rkF pp k < y) = false := decide_eq_false (by omega)
                        have HSkip : Hid (0 ≤ at_ rs' k ∧ at_ rs' k ≤ at_ rs' ci + rkF pp k) := Lib.hid (by rw [HX.out, HY.out]; exact ⟨hy0, hl2⟩)
                        clear hless
                        go_wp2
                        refine wp_region_quiet_lit (by kernel_rfl) (by kernel_rfl) ?_
                        repeat (go_big_quiet_step (fail))
                        go_big_quiet_step ((go_at_call 69; exact quiet_draw (bears_is _ _ _ _ _ (hpr.drewN _) _ hkn2 _ Hq.out)))
                        repeat (go_big_quiet_step (fail))
                        go_big_quiet_step ((go_at_call 84; exact quiet_draw (sRisk_any _ _ _ _ _ (hpr.drewN _) _ hkn2)))
                        repeat (go_big_quiet_step (fail))
                        refine wpQuiet_nil ?_
                        intro _ hw'
                        obtain ⟨nq, hw''⟩ := hw'
                        subst hw''
                        go_wp2
                        go_roundw
                        case rel => exact ⟨t + 1, rs', by omega, by go_num, HDi.out.skip HK.out (.inr HSkip.out), two_drewN HTw.out _, own_drewN hoA _, hgl2, hlo'⟩
                        case measure => simp [intOf]; omega
                  · have HT2 : Hid (t = (nbP pp ci).length) := Lib.hid (by have := HLL.out; omega)
                    have hdone : DijI n (nbP pp) (okF pp load) (rkF pp) a ((n : Int) - (opens (dn.set ci true) : Nat)) rs' (dn.set ci true) ci (nbP pp ci).length := by rw [← HT2.out]; exact HDi.out
                    have HDone := Lib.hid hdone.fin
                    clear hdone hdi htw
                    go_wp2
                    go_roundg (opens (dn.set ci true))
                    case measure => have := HQ.out; omega
                    case rel => exact ⟨rs', dn.set ci true, rfl, HDone.out, HTw.out⟩

end Go.Proofs.Ytbnggakfogcalad

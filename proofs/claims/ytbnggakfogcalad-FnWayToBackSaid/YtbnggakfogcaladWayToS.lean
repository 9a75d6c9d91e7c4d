/- Contracts of the model's WayTo; arguments without ways. -/
import Derived.Test.YtbnggakfogcaladWayTo
namespace Go.Proofs.Ytbnggakfogcalad
open Go.RowKit
set_option linter.unusedVariables false
set_option linter.unusedSimpArgs false
set_option maxRecDepth 100000 in
set_option maxHeartbeats 800000 in
theorem iWay_no (pp : List (List Int)) (A : Option Addr) (c : Nat) (w : World) (hg : RdG w w.heap.size A pp) (load f t : Int) (hv : pondB pp = false ∨ inB f 0 ((cnt pp : Nat) - 1) = false ∨ inB t 0 ((cnt pp : Nat) - 1) = false) :
    Calls Try.prog 37 #[.slice A pp.length c, .int .i64 load, .int .i64 f, .int .i64 t] w (OutL 0 [] w) := by
  cases hpb : pondB pp
  · have Hv := Lib.hid hpb
    clear hpb hv
    go_enter Try.func37, Try.ntmps37
    go_wp2_with (go_at_call 23; refine (iVal_is _ _ _ _ _ hg Hv.out).mono ?_; rintro e w' ⟨rfl, rfl⟩)
    go_ret
    exact out_n rfl (out_nil w)
  · have Hv := Lib.hid hpb
    have hp : Pnd w w.heap.size A pp := ⟨hpb, hg⟩
    rcases hv with h | h | h
    · rw [hpb] at h; cases h
    · have Hf := Lib.hid h
      clear hpb h
      go_enter Try.func37, Try.ntmps37
      go_wp2_with (first | (go_at_call 23; refine (iVal_is _ _ _ _ _ hg Hv.out).mono ?_; rintro e w' ⟨rfl, rfl⟩) | (go_at_call 70; refine (vc_is hp Hf.out).mono ?_; rintro e w' ⟨rfl, rfl⟩))
      go_ret
      exact out_n rfl (out_nil w)
    · have Ht := Lib.hid h
      cases hf : inB f 0 ((cnt pp : Nat) - 1)
      · have Hf := Lib.hid hf
        clear hpb h hf
        go_enter Try.func37, Try.ntmps37
        go_wp2_with (first | (go_at_call 23; refine (iVal_is _ _ _ _ _ hg Hv.out).mono ?_; rintro e w' ⟨rfl, rfl⟩) | (go_at_call 70; refine (vc_is hp Hf.out).mono ?_; rintro e w' ⟨rfl, rfl⟩))
        go_ret
        exact out_n rfl (out_nil w)
      · have Hf := Lib.hid hf
        clear hpb h hf
        go_enter Try.func37, Try.ntmps37
        go_wp2_with fail
        refine (iVal_is _ _ _ _ _ hg Hv.out).mono ?_
        rintro e w' ⟨rfl, rfl⟩
        go_wp2_with fail
        refine (vc_is hp Hf.out).mono ?_
        rintro e w' ⟨rfl, rfl⟩
        go_wp2_with fail
        refine (vc_is hp Ht.out).mono ?_
        rintro e w' ⟨rfl, rfl⟩
        go_wp2
        go_ret
        exact out_n rfl (out_nil w)
set_option maxRecDepth 100000 in
set_option maxHeartbeats 800000 in
theorem sWay_no (pp : List (List Int)) (A : Option Addr) (c : Nat) (w : World) (hg : RdG w w.heap.size A pp) (hn : pp.length ≤ 1048576) (load f t : Int) (hv : pondB pp = false ∨ inB f 0 ((cnt pp : Nat) - 1) = false ∨ inB t 0 ((cnt pp : Nat) - 1) = false) :
    Calls Try.prog 38 #[.slice A pp.length c, .int .i64 load, .int .i64 f, .int .i64 t] w (OutL 0 [] w) := by
  have R : ∀ n, OutL 0 [] w (.returned (.slice none 0 0)) (w.drewN n) := fun n => ⟨_, _, rfl, rfl, ⟨rfl, .inl ⟨rfl, rfl⟩⟩, below_drewN (Below.refl _ _) _⟩
  have HR := Lib.hid R
  clear R
  cases hpb : pondB pp
  · have Hv := Lib.hid hpb
    clear hpb hv
    go_enter Try.func38, Try.ntmps38
    go_wp2_with (go_at_call 59; refine (sVal_is _ _ _ _ _ hg hn Hv.out).mono ?_; rintro e w' ⟨rfl, nv, rfl⟩)
    go_ret
    exact HR.out _
  · have Hv := Lib.hid hpb
    have hp0 : Pnd w w.heap.size A pp := ⟨hpb, hg⟩
    have hc := pond_cnt hpb
    cases hf : inB f 0 ((cnt pp : Nat) - 1)
    · have Hf := Lib.hid hf
      clear hpb hv hf
      go_enter Try.func38, Try.ntmps38
      go_wp2_with fail
      refine (sVal_is _ _ _ _ _ hg hn Hv.out).mono ?_
      rintro e w' ⟨rfl, nv, rfl⟩
      have hp := hp0.drewN nv
      go_wp2_with (first | (go_at_call 68; refine (sCnt_any _ _ _ _ _ hp).mono ?_; rintro e w' ⟨rfl, rfl⟩) | (go_at_call 78; refine (inR_is Hf.out _).mono ?_; rintro e w' ⟨rfl, rfl⟩))
      go_ret
      exact HR.out _
    · have Hf := Lib.hid hf
      have Ht : Hid (inB t 0 ((cnt pp : Nat) - 1) = false) := Lib.hid (by rcases hv with h | h | h; rw [hpb] at h; cases h; rw [hf] at h; cases h; exact h)
      clear hpb hv hf
      go_enter Try.func38, Try.ntmps38
      go_wp2_with fail
      refine (sVal_is _ _ _ _ _ hg hn Hv.out).mono ?_
      rintro e w' ⟨rfl, nv, rfl⟩
      have hp := hp0.drewN nv
      go_wp2_with fail
      refine (sCnt_any _ _ _ _ _ hp).mono ?_
      rintro e w' ⟨rfl, rfl⟩
      go_wp2_with fail
      refine (inR_is Hf.out _).mono ?_
      rintro e w' ⟨rfl, rfl⟩
      go_wp2_with fail
      refine (sCnt_any _ _ _ _ _ hp).mono ?_
      rintro e w' ⟨rfl, rfl⟩
      go_wp2_with fail
      refine (inR_is Ht.out _).mono ?_
      rintro e w' ⟨rfl, rfl⟩
      go_wp2
      go_ret
      exact HR.out _
def WsR (w wr : World) (n g c lo : Nat) (nb : Nat → List Nat) (rk : Nat → Int) (rs : List Int) (a : Nat) (full : List Nat) (v s : Value) : Prop :=
  ∃ (m ci : Nat) (l tl : List Nat), s = .int .i64 (ci : Int) ∧ m = tl.length + 1 ∧ wr.ownsRow lo 3 1 v m (ints (nats (ci :: tl))) ∧ wr.ownsRow w.heap.size 3 1 (.slice (some ⟨g, 0, none⟩) n c) n (ints rs) ∧ Below w.heap.size w wr ∧ g < lo ∧ lo ≤ wr.heap.size ∧
    ci < n ∧ Back rk rs nb a ci l ∧ l ++ tl = full ∧ 0 ≤ at_ rs ci ∧ (m : Int) + at_ rs ci ≤ 1000001
set_option maxRecDepth 100000 in
set_option maxRecDepth 100000 in
set_option maxHeartbeats 2000000 in
theorem sWay_ok (pp : List (List Int)) (A : Option Addr) (c : Nat) (w : World) (hp0 : Pnd w w.heap.size A pp) (load : Int) (a b : Nat) (ha : a < cnt pp) (hb : b < cnt pp) :
    Calls Try.prog 38 #[.slice A pp.length c, .int .i64 load, .int .i64 a, .int .i64 b] w (OutWay (cnt pp) (nbP pp) (okF pp load) (rkF pp) a b w) := by
  have hg := hp0.2
  have Hv := Lib.hid hp0.1
  have hc := pond_cnt hp0.1
  have hn : pp.length ≤ 1048576 := by have := pond_len hp0.1; omega
  have Gr0 := gr_pond hp0.1
  have HOK : Hid (∀ i, okF pp load i = true → i < cnt pp) := Lib.hid fun i hi => okF_lt i hi
  have HR1 : Hid (∀ k, 1 ≤ rkF pp k) := Lib.hid (rkF_ge pp)
  have HR2 : Hid (∀ k, rkF pp k ≤ 201) := Lib.hid (rkF_le pp)
  have HNB : Hid (∀ k, (nbP pp k).length ≤ 4) := Lib.hid fun k => nb4_len _ _ _
  have Hf : Hid (inB (a : Int) 0 ((cnt pp : Nat) - 1) = true) := Lib.hid (inB_mk (by omega))
  have Ht : Hid (inB (b : Int) 0 ((cnt pp : Nat) - 1) = true) := Lib.hid (inB_mk (by omega))
  obtain ⟨i0, hi, hz0, hz1, hz2⟩ := info_parts info_int
  go_enter Try.func38, Try.ntmps38
  go_wp2_with fail
  refine (sVal_is _ _ _ _ _ hg hn Hv.out).mono ?_
  rintro e w' ⟨rfl, nv, rfl⟩
  have hp := hp0.drewN nv
  go_wp2_with fail
  refine (sCnt_any _ _ _ _ _ hp).mono ?_
  rintro e w' ⟨rfl, rfl⟩
  go_wp2_with fail
  refine (inR_is Hf.out _).mono ?_
  rintro e w' ⟨rfl, rfl⟩
  go_wp2_with fail
  refine (sCnt_any _ _ _ _ _ hp).mono ?_
  rintro e w' ⟨rfl, rfl⟩
  go_wp2_with fail
  refine (inR_is Ht.out _).mono ?_
  rintro e w' ⟨rfl, rfl⟩
  go_wp2_with fail
  refine (sRisks_any pp A c _ hp load a ha).mono ?_
  rintro e w1 ⟨rs, hrs, A1, c1, hl1, rfl, o1', b1'⟩
  have o1 : w1.ownsRow w.heap.size 3 1 (.slice A1 (cnt pp) c1) (cnt pp) (ints rs) := o1'
  have b1 : Below w.heap.size w w1 := (below_drewN (Below.refl _ _) nv).trans b1'
  obtain ⟨g, rfl, hg1, hgl, _, _⟩ := own_some o1 (by omega)
  have HRS := Lib.hid hrs
  have HL := Lib.hid hl1
  have hbd := hrs.bnds HR1.out b
  have hcb := own_cell o1 (ints_at' (zs := rs) (k := b) (by rw [hl1]; exact hb))
  clear hrs hl1 o1' b1' hp
  by_cases hneg : at_ rs b < 0
  · have R : OutWay (cnt pp) (nbP pp) (okF pp load) (rkF pp) a b w (.returned (.slice none 0 0)) w1 := ⟨rs, HRS.out, .inl ⟨hneg, _, _, rfl, rfl, ⟨rfl, .inl ⟨rfl, rfl⟩⟩, b1⟩⟩
    have HR := Lib.hid R
    clear R o1 b1
    go_wp2
    go_ret
    exact HR.out
  · have h0 : 0 ≤ at_ rs b := by omega
    obtain ⟨full, hfull⟩ := HRS.out.back Gr0 HOK.out HR1.out _ (Nat.le_refl _) h0
    have HFull := Lib.hid hfull
    have one : (w1.alloc (.cells #[.int .i64 (b : Int)] 3)).ownsRow w1.heap.size 3 1 (.slice (some ⟨w1.heap.size, 0, none⟩) 1 1) 1 (ints (nats [b])) := own_one w1 _ _
    have HST := Lib.hid (show WsR w (w1.alloc (.cells #[.int .i64 (b : Int)] 3)) (cnt pp) g c1 w1.heap.size (nbP pp) (rkF pp) rs a full (.slice (some ⟨w1.heap.size, 0, none⟩) 1 1) (.int .i64 (b : Int)) from
      ⟨1, b, full, [], rfl, rfl, one, own_alloc o1 _, b1.alloc b1.size _, hgl, by simp, hb, hfull, by simp, h0, by have := hbd.2; omega⟩)
    clear one o1 b1 hfull hgl
    go_wp2
    generalize hlo : w1.heap.size = lo at HST
    go_loopw [10, 11] (fun v s wr => WsR w wr (cnt pp) g c1 lo (nbP pp) (rkF pp) rs a full v s) (fun _ s _ => (at_ rs (intOf s).toNat).toNat)
    case atStart => rw [← hlo] at HST ⊢; exact HST.out
    case round =>
      clear hcb
      obtain ⟨m, ci, l, tl, rfl, hm, hown, hor, hbel, hglo, hlos, hcn, hback, hcat, hc0, hms⟩ := hrel
      have HM := Lib.hid hm
      have HBack := Lib.hid hback
      have HCat := Lib.hid hcat
      have hm1 : 1 ≤ m := by omega
      have hm2 : m ≤ 1000001 := by omega
      clear hm hback hcat
      obtain ⟨A10, c10, rfl⟩ := own_form hown
      obtain ⟨g10, rfl, hg10, _, _, _⟩ := own_some hown (by omega)
      by_cases hca : ci = a
      · have hne : ((ci : Int) != (a : Int)) = false := by simp [hca]
        have hfullE : ci :: tl = full := by
          rw [← HCat.out]
          have hb := HBack.out
          rw [hca] at hb
          rw [hb.first, hca]; rfl
        have R : OutWay (cnt pp) (nbP pp) (okF pp load) (rkF pp) a b w (.returned (.slice (some ⟨g10, 0, none⟩) m c10)) wr := by
          refine ⟨rs, HRS.out, .inr ⟨h0, full, HFull.out, ?_⟩⟩
          rw [← hfullE]
          exact out_mk (n := m) (by rw [nats_length, HM.out]; rfl) (own_base hown (by have := own_block hor g rfl; omega)) hbel
        have HR := Lib.hid R
        have hca2 : (ci : Int) = (a : Int) := by omega
        clear R hown hor hbel hfullE hca
        go_wp2
        go_ret
        exact HR.out
      · have hne : ((ci : Int) != (a : Int)) = true := bne_iff_ne.2 (by omega)
        have hne2 : ((ci : Int) == (a : Int)) = false := beq_eq_false_iff_ne.2 (by omega)
        have hne3 : ¬ (ci : Int) = (a : Int) := by omega
        have hpr := hp0.up hbel
        have hnb := nb_some HNB.out ci
        have HPrev := Lib.hid (HRS.out.prev Gr0 HOK.out HR1.out hc0 hca)
        clear hca
        go_wp2_with fail
        refine (sBeside_any _ _ _ _ hpr _ hcn).mono ?_
        rintro e w2 ⟨A2, c2, rfl, o2, b2⟩
        have hown2 := own_below hown b2
        have hor2 := own_below hor b2
        have hbel2 := hbel.trans (b2.mono hbel.size)
        have hlo2 : lo ≤ w2.heap.size := by have := b2.size; omega
        have HLL : Hid ((nats (nbP pp ci)).length = (nbP pp ci).length) := Lib.hid (nats_length _)
        generalize hLe : (nats (nbP pp ci)).length = L at *
        generalize hup : wr.heap.size = up at o2
        clear hLe hup b2 hown hor hbel hpr hlos
        go_wp2
        go_loopw [11, 13] (fun q s wi => ∃ j : Nat, j ≤ L ∧ q = .int .i64 (ci : Int) ∧ s = .int .i64 j ∧ ((nbP pp ci).take j).find? (fun k => decide (0 ≤ at_ rs k ∧ at_ rs k + rkF pp ci = at_ rs ci)) = none ∧ wi.ownsRow lo 3 1 (.slice (some ⟨g10, 0, none⟩) m c10) m (ints (nats (ci :: tl))) ∧ wi.ownsRow w.heap.size 3 1 (.slice (some ⟨g, 0, none⟩) (cnt pp) c1) (cnt pp) (ints rs) ∧
          wi.ownsRow up 3 1 (.slice A2 L c2) L (ints (nats (nbP pp ci))) ∧ Below w.heap.size w wi ∧ lo ≤ wi.heap.size) (fun _ s _ => L - (intOf s).toNat)
        case atStart => exact ⟨0, Nat.zero_le _, rfl, rfl, rfl, hown2, hor2, o2, hbel2, hlo2⟩
        case round =>
          clear hown2 hor2 o2 hbel2 hlo2
          obtain ⟨j, hj, rfl, rfl, hno, hown, hor, hoA, hbel, hlos⟩ := hrel
          have HNo := Lib.hid hno
          clear hno
          by_cases hjl : j < L
          · obtain ⟨k, hk⟩ : ∃ k, (nbP pp ci)[j]? = some k := ⟨_, List.getElem?_eq_getElem (by have := HLL.out; omega)⟩
            have HK := Lib.hid hk
            obtain ⟨gA, rfl, hgA, _, _, _⟩ := own_some hoA (by omega)
            have hcA := own_cell hoA (nats_get hk)
            have hkN : k < cnt pp := Gr0.lt ci k hcn (List.mem_of_getElem? hk)
            have hpr := hp0.up hbel
            have hcc := own_cell hor (ints_at' (zs := rs) (k := ci) (by rw [HL.out]; exact hcn))
            have hck := own_cell hor (ints_at' (zs := rs) (k := k) (by rw [HL.out]; exact hkN))
            have y1 := HRS.out.bnds HR1.out k
            have x1 := HRS.out.bnds HR1.out ci
            have z0 := HR1.out ci
            have z1 := HR2.out ci
            obtain ⟨x, hx⟩ : ∃ x, x = at_ rs ci := ⟨_, rfl⟩
            obtain ⟨y, hy⟩ : ∃ y, y = at_ rs k := ⟨_, rfl⟩
            rw [← hx] at hcc x1
            rw [← hy] at hck y1
            have HX : Hid (at_ rs ci = x) := Lib.hid hx.symm
            have HY : Hid (at_ rs k = y) := Lib.hid hy.symm
            clear hx hy hk
            have hw1 : IntKind.i64.wrap (y + rkF pp ci) = y + rkF pp ci := IntWalk.i64_in _ (by omega)
            by_cases hy0 : 0 ≤ y
            · have hyb : decide (0 ≤ y) = true := decide_eq_true hy0
              by_cases heq : y + rkF pp ci = x
              · have heqb : (y + rkF pp ci == x) = true := beq_iff_eq.2 heq
                have hP : Hid (prevF (rkF pp) rs (nbP pp) ci = some k) := Lib.hid (find_here HNo.out HK.out (by rw [HX.out, HY.out]; exact decide_eq_true ⟨hy0, heq⟩))
                obtain ⟨l', hl', hbk⟩ := HBack.out.split (by omega) hP.out
                have hk3 : at_ rs k < at_ rs ci := by rw [HX.out, HY.out]; omega
                have hk4 : at_ rs k + 1 ≤ at_ rs ci := by omega
                have hk5 : 0 ≤ at_ rs k := by rw [HY.out]; exact hy0
                have HL' := Lib.hid hl'
                have HBk := Lib.hid hbk
                have HEq := Lib.hid heq
                clear hl' hbk heq
                go_wp2
                refine wp_region_quiet_lit (by kernel_rfl) (by kernel_rfl) ?_
                repeat (go_big_quiet_step (fail))
                go_big_quiet_step ((go_at_call 84; exact quiet_draw (sRisk_any _ _ _ _ _ (hpr.drewN _) _ hcn)))
                repeat (go_big_quiet_step (fail))
                refine wpQuiet_nil ?_
                intro _ hw'
                obtain ⟨nq, hw''⟩ := hw'
                subst hw''
                have hown3 : (wr.drewN nq).ownsRow lo 3 1 (.slice (some ⟨g10, 0, none⟩) m c10) m (ints (nats (ci :: tl))) := hown
                have hon := own_base (own_one (wr.drewN nq) 3 (.int .i64 (k : Int))) (base' := lo) hlos
                have hra := Rd.own (own_alloc hown3 (.cells #[.int .i64 (k : Int)] 3))
                have hln : (ints (nats (ci :: tl))).length = m * 1 := by rw [ints_length, nats_length, HM.out]; simp
                have HLn := Lib.hid hln
                have HRa := Lib.hid hra
                clear hln hra
                go_wp2_with (at_builtin; refine wpList_append_own _ rfl _ _ 26 rfl lo 3 i0 (.int .i64 0) 1 8 Try.underlying26 hi hz0 hz1 hz2 rfl (by decide) _ 1 [.int .i64 (k : Int)] rfl hon ⟨g10, 0, none⟩ m c10 (ints (nats (ci :: tl))) rfl HLn.out ?c1 oneCell_ints ?c3 ?c4 ?c5 ?_)
                case c1 =>
                  intro q u hu
                  obtain ⟨b7, off7, e7, _, hc7⟩ := HRa.out.at_ hu
                  injection e7 with e7
                  injection e7 with e8 e9
                  subst e8 e9
                  simpa [Addr.add_lit] using hc7
                case c3 => unfold maxLen; omega
                case c4 => omega
                case c5 => simp; omega
                · intro v' w5 hown' hgrow _
                  have hR : w5.ownsRow lo 3 1 v' (1 + m) (ints (nats (k :: ci :: tl))) := hown'
                  have hor5 := own_grown (own_alloc (own_drewN hor nq) _) hgrow (fun q hq e => by simp [Value.ownBlock] at e hq; omega)
                  have hb5 : Below w.heap.size w w5 := ((below_drewN hbel nq).alloc hbel.size _).grown hgrow (by have := hbel.size; simp; omega) (fun q hq => by simp [Value.ownBlock] at hq; have := hbel.size; omega)
                  have hlo5 : lo ≤ w5.heap.size := by have := hgrow.size; simp at this; omega
                  have HR := Lib.hid hR
                  have HO := Lib.hid hor5
                  clear hown' hgrow hR hor5 hown hor hoA hbel hown3 hon hpr
                  go_wp2
                  go_roundw
                  case rel =>
                    refine ⟨1 + m, k, l', ci :: tl, rfl, by have := HM.out; simp; omega, HR.out, HO.out, hb5, hglo, hlo5, hkN, HBk.out, ?_, hk5, by omega⟩
                    rw [← HCat.out, HL'.out]
                    simp
                  case measure => simp [intOf]; omega
              · have heqb : (y + rkF pp ci == x) = false := beq_eq_false_iff_ne.2 heq
                have hP : Hid (decide (0 ≤ at_ rs k ∧ at_ rs k + rkF pp ci = at_ rs ci) = false) := Lib.hid (by rw [HX.out, HY.out]; exact decide_eq_false (fun h => heq h.2))
                go_wp2
                refine wp_region_quiet_lit (by kernel_rfl) (by kernel_rfl) ?_
                repeat (go_big_quiet_step (fail))
                go_big_quiet_step ((go_at_call 84; exact quiet_draw (sRisk_any _ _ _ _ _ (hpr.drewN _) _ hcn)))
                repeat (go_big_quiet_step (fail))
                refine wpQuiet_nil ?_
                intro _ hw'
                obtain ⟨nq, hw''⟩ := hw'
                subst hw''
                go_wp2
                go_roundw
                case rel => exact ⟨j + 1, by omega, rfl, by go_num, find_next HNo.out HK.out hP.out, own_drewN hown _, own_drewN hor _, own_drewN hoA _, below_drewN hbel _, hlos⟩
                case measure => simp [intOf]; omega
            · have hyb : decide (0 ≤ y) = false := decide_eq_false hy0
              have hP : Hid (decide (0 ≤ at_ rs k ∧ at_ rs k + rkF pp ci = at_ rs ci) = false) := Lib.hid (by rw [HX.out, HY.out]; exact decide_eq_false (fun h => hy0 h.1))
              go_wp2
              refine wp_region_quiet_lit (by kernel_rfl) (by kernel_rfl) ?_
              repeat (go_big_quiet_step (fail))
              refine wpQuiet_nil ?_
              intro _ hw'
              obtain ⟨nq, hw''⟩ := hw'
              subst hw''
              go_wp2
              go_roundw
              case rel => exact ⟨j + 1, by omega, rfl, by go_num, find_next HNo.out HK.out hP.out, own_drewN hown _, own_drewN hor _, own_drewN hoA _, below_drewN hbel _, hlos⟩
              case measure => simp [intOf]; omega
          · exfalso
            have HT : j = (nbP pp ci).length := by have := HLL.out; omega
            have h1 := HNo.out
            rw [HT, List.take_length] at h1
            obtain ⟨k, hk⟩ := HPrev.out
            unfold prevF at hk
            rw [hk] at h1
            cases h1

end Go.Proofs.Ytbnggakfogcalad

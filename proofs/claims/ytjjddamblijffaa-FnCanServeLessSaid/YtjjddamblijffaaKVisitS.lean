/- Contracts of chapter 6's model: visits, how late they are, the load that they need. -/
import Derived.Deep.AppendSrc
import Derived.Test.YtjjddamblijffaaKVisitI
namespace Go.Proofs.Ytjjddamblijffaa
open Go.RowKit
set_option linter.unusedVariables false
set_option linter.unusedSimpArgs false
set_option maxHeartbeats 2000000 in
theorem sVisits_any (m : Nat) (cs : List Cu) (os : List Int) (st : Int) (hP : RndP cs st os m) (A : Option Addr) (c : Nat) (Ao : Option Addr) (co : Nat) (w : World) (hr : Rd w w.heap.size A (custV cs)) (hro : Rd w w.heap.size Ao (ints os)) :
    Calls Try.prog 60 #[.slice A m c, .int .i64 st, .slice Ao m co] w (OutI (tmL st 0 (pick cs os)) w) := by
  obtain ⟨i0, hi, hz0, hz1, hz2⟩ := info_parts info_int
  have h8 := hP.n8
  have HP := Lib.hid hP
  have HL := Lib.hid hP.len
  have HLO := Lib.hid hP.olen
  clear hP
  go_enter Try.func60, Try.ntmps60
  go_wp2
  go_loopw [7, 8, 9, 10] (fun q a u i wr => ∃ k : Nat, k ≤ m ∧ i = .int .i64 k ∧ u = .int .i64 (endT st (pick cs (os.take k))) ∧ a = .int .i64 (endP st (pick cs (os.take k))) ∧ wr.ownsRow w.heap.size 3 1 q k (ints (tmL st 0 (pick cs (os.take k)))) ∧ Below w.heap.size w wr) (fun _ _ _ i _ => m - (intOf i).toNat)
  case atStart => exact ⟨0, Nat.zero_le _, rfl, rfl, rfl, own_empty _ _, (Below.refl _ _).alloc (Nat.le_refl _) _⟩
  case round =>
    obtain ⟨k, hk, rfl, rfl, rfl, hown, hbel⟩ := hrel
    have HBEL := Lib.hid hbel
    by_cases hlt : k < m
    · obtain ⟨b3, off3, z, rfl, hb3, hz, hcz⟩ := (hro.below hbel).int_ (k := k) (by rw [HLO.out]; exact hlt)
      obtain ⟨t, rfl, htm⟩ := HP.out.at_ hlt hz.out
      obtain ⟨b1, off, x, d, v, rfl, hb1, hzc, hc0, hc1, hc2⟩ := (hr.below hbel).cust_ (k := t) (by rw [HL.out]; exact htm)
      obtain ⟨⟨hx1, hx2⟩, _⟩ := HP.out.cu htm hzc.out
      obtain ⟨hp1, hp2⟩ := HP.out.pos k
      obtain ⟨ht1, ht2⟩ := HP.out.time hk
      have HNX := Lib.hid (HP.out.next hz.out hzc.out)
      obtain ⟨hd1, hd2⟩ := dst_bd ⟨hp1, hp2⟩ ⟨hx1, hx2⟩
      have cD := fun w => sWay_any (endP st (pick cs (os.take k))) x ⟨hp1, hp2⟩ ⟨hx1, hx2⟩ w
      have HSN : Hid (∀ y, y = endT st (pick cs (os.take (k + 1))) → ints (tmL st 0 (pick cs (os.take k))) ++ [.int .i64 y] = ints (tmL st 0 (pick cs (os.take (k + 1))))) := Lib.hid fun y hy => by
        have e1 := HNX.out.2
        rw [hy, pick_snoc hz.out, tmL_snoc, Int.zero_add, ints, ints, List.map_append]; rfl
      have HO := Lib.hid hown
      have hsz := hbel.size
      generalize dst (endP st (pick cs (os.take k))) x = D at *
      generalize hT : endT st (pick cs (os.take k)) = T at *
      generalize endP st (pick cs (os.take k)) = Q at *
      have CD := Lib.hid cD
      clear hown hbel cD hz hzc hT
      go_wp2_with fail
      refine (CD.out _).mono ?_
      rintro e w' ⟨rfl, rfl⟩
      go_wp2_with (at_builtin; refine wpList_append_own _ rfl _ _ 27 rfl (w.heap.size) 3 i0 (.int .i64 0) 1 8 Try.underlying27 hi hz0 hz1 hz2 rfl (by decide) _ _ _ rfl (own_alloc HO.out _) ⟨wr.heap.size, 0, none⟩ 1 1 [.int .i64 (T + D)] rfl rfl (one_new _ _ _ _ rfl) (fun u hu => by simp at hu; subst hu; rfl) (by unfold maxLen; omega) (by omega) (by simp; omega) ?_)
      intro v6 w6 own6 grow6 _
      have hb6 : Below w.heap.size w w6 := (HBEL.out.alloc hsz (.cells #[.int .i64 (T + D)] 3)).grown grow6 (by simp; omega) (own_block HO.out)
      rw [HSN.out _ HNX.out.2.symm] at own6
      have HP6 := Lib.hid (And.intro own6 hb6)
      clear own6 hb6 grow6
      go_wp2
      go_roundw
      case rel => exact ⟨k + 1, by omega, by go_num, by rw [HNX.out.2], by rw [HNX.out.1], HP6.out.1, HP6.out.2⟩
      case measure => simp [intOf]; omega
    · obtain rfl : k = m := by omega
      obtain ⟨A', c', rfl⟩ := own_form hown
      have R : OutI (tmL st 0 (pick cs os)) w (.returned (.slice A' k c')) wr := by
        rw [List.take_of_length_le (by rw [HLO.out]; exact Nat.le_refl _)] at hown
        exact out_mk (by rw [tmL_len, pick_len, HLO.out]) hown hbel
      have HR := Lib.hid R
      clear R hown hbel
      go_wp2
      go_ret
      exact HR.out
set_option maxHeartbeats 2000000 in
theorem sLateN_any (m : Nat) (cs : List Cu) (os : List Int) (st : Int) (hP : RndP cs st os m) (A : Option Addr) (c : Nat) (Ao : Option Addr) (co : Nat) (w : World) (hr : Rd w w.heap.size A (custV cs)) (hro : Rd w w.heap.size Ao (ints os)) :
    Calls Try.prog 62 #[.slice A m c, .int .i64 st, .slice Ao m co] w fun e w' => e = .returned (.int .i64 (latR st 0 (pick cs os))) ∧ Below w.heap.size w w' := by
  have cV := sVisits_any m cs os st hP A c Ao co w hr hro
  have h8 := hP.n8
  have HP := Lib.hid hP
  have HL := Lib.hid hP.len
  have HLO := Lib.hid hP.olen
  have HTL : Hid ((tmL st 0 (pick cs os)).length = m) := Lib.hid (by rw [tmL_len, pick_len, hP.olen])
  clear hP
  go_enter Try.func62, Try.ntmps62
  go_wp2_with fail
  refine (cV).mono ?_
  rintro e w2 ⟨A2, c2, rfl, o2, b2⟩
  rw [HTL.out] at o2 ⊢
  have B12 := Lib.hid b2
  have rt0 := Rd.own o2
  clear o2 b2
  go_wp2
  go_loopw [7, 9] (fun q i wr => ∃ k : Nat, k ≤ m ∧ i = .int .i64 k ∧ (∃ nd, wr = w2.drewN nd) ∧ q = .int .i64 (latR st 0 (pick cs (os.take k)))) (fun _ i _ => m - (intOf i).toNat)
  case atStart => exact ⟨0, Nat.zero_le _, rfl, ⟨0, rfl⟩, rfl⟩
  case round =>
    obtain ⟨k, hk, rfl, ⟨nd, hwd⟩, rfl⟩ := hrel
    have hbw : Below w.heap.size w wr := by rw [hwd]; exact below_drewN B12.out nd
    have rt2 : Rd wr wr.heap.size A2 (ints (tmL st 0 (pick cs os))) := by rw [hwd]; exact rt0.drewN nd
    have hr2 := (hr.below hbw).more hbw.size
    have hro2 := (hro.below hbw).more hbw.size
    have HW := Lib.hid hwd
    have HBW := Lib.hid hbw
    clear hwd hbw
    by_cases hlt : k < m
    · obtain ⟨b4, off4, y, rfl, hb4, hy, hcy⟩ := rt2.int_ (k := k) (by rw [HTL.out]; exact hlt)
      obtain ⟨b3, off3, z, rfl, hb3, hz, hcz⟩ := hro2.int_ (k := k) (by rw [HLO.out]; exact hlt)
      obtain ⟨t, rfl, htm⟩ := HP.out.at_ hlt hz.out
      obtain ⟨b1, off, x, d, v, rfl, hb1, hzc, hc0, hc1, hc2⟩ := hr2.cust_ (k := t) (by rw [HL.out]; exact htm)
      obtain rfl : y = endT st (pick cs (os.take (k + 1))) := by have h1 := hy.out; rw [tm_at (by rw [HLO.out]; exact hlt)] at h1; injection h1 with h1; exact h1.symm
      obtain ⟨ht1, ht2⟩ := HP.out.time (show k + 1 ≤ m by omega)
      obtain ⟨_, ⟨hd1, hd2⟩, _⟩ := HP.out.cu htm hzc.out
      obtain ⟨hl1, hl2⟩ := HP.out.late hk
      have HNX := Lib.hid (late_next (cs := cs) (st := st) hz.out hzc.out)
      generalize endT st (pick cs (os.take (k + 1))) = T at *
      generalize latR st 0 (pick cs (os.take k)) = L at *
      have hgP : (0 < T - d ∧ pos0 (T - d) = T - d) ∨ (¬ 0 < T - d ∧ pos0 (T - d) = 0) := by unfold pos0; split <;> omega
      clear hz hzc hy
      rcases hgP with ⟨hg, e⟩ | ⟨hg, e⟩
      · rw [e] at HNX
        clear e
        have hw1 : IntKind.i64.wrap (T - d) = T - d := IntWalk.i64_in _ (by omega)
        have hw2 : IntKind.i64.wrap (L + (T - d)) = L + (T - d) := IntWalk.i64_in _ (by omega)
        go_wp2
        refine wp_region_quiet_lit (by kernel_rfl) (by kernel_rfl) ?_
        repeat (go_big_quiet_step (fail))
        refine wpQuiet_nil ?_
        intro _ hw'
        obtain ⟨nq, hw''⟩ := hw'
        subst hw''
        have HD : Hid (∃ q, wr.drewN nq = w2.drewN q) := Lib.hid ⟨nd + nq, by rw [HW.out, drewN_add]⟩
        go_wp2
        go_roundw
        case rel => exact ⟨k + 1, by omega, by go_num, HD.out, by rw [HNX.out]⟩
        case measure => simp [intOf]; omega
      · rw [e, Int.add_zero] at HNX
        clear e
        have hw1 : IntKind.i64.wrap (T - d) = T - d := IntWalk.i64_in _ (by omega)
        have hw2 : IntKind.i64.wrap L = L := IntWalk.i64_in _ (by omega)
        go_wp2
        refine wp_region_quiet_lit (by kernel_rfl) (by kernel_rfl) ?_
        repeat (go_big_quiet_step (fail))
        refine wpQuiet_nil ?_
        intro _ hw'
        obtain ⟨nq, hw''⟩ := hw'
        subst hw''
        have HD : Hid (∃ q, wr.drewN nq = w2.drewN q) := Lib.hid ⟨nd + nq, by rw [HW.out, drewN_add]⟩
        go_wp2
        go_roundw
        case rel => exact ⟨k + 1, by omega, by go_num, HD.out, by rw [HNX.out]⟩
        case measure => simp [intOf]; omega
    · obtain rfl : k = m := by omega
      have HE : Hid (pick cs (os.take k) = pick cs os) := Lib.hid (by rw [List.take_of_length_le (by rw [HLO.out]; exact Nat.le_refl _)])
      go_wp2
      go_ret
      exact ⟨ret_int (by rw [HE.out]), HBW.out⟩
set_option maxHeartbeats 2000000 in
theorem sLoadN_any (m : Nat) (cs : List Cu) (os : List Int) (st : Int) (hP : RndP cs st os m) (A : Option Addr) (c : Nat) (Ao : Option Addr) (co : Nat) (w : World) (hr : Rd w w.heap.size A (custV cs)) (hro : Rd w w.heap.size Ao (ints os)) (ev : Int) (he : 1 ≤ ev ∧ ev ≤ 2000) :
    Calls Try.prog 70 #[.slice A m c, .int .i64 st, .slice Ao m co, .int .i64 ev] w fun e w' => e = .returned (.int .i64 (lodR st ev (pick cs os))) ∧ Below w.heap.size w w' := by
  have cV := sVisits_any m cs os st hP A c Ao co w hr hro
  have h8 := hP.n8
  have HP := Lib.hid hP
  have HL := Lib.hid hP.len
  have HLO := Lib.hid hP.olen
  have HTL : Hid ((tmL st 0 (pick cs os)).length = m) := Lib.hid (by rw [tmL_len, pick_len, hP.olen])
  clear hP
  go_enter Try.func70, Try.ntmps70
  go_wp2_with fail
  refine (cV).mono ?_
  rintro e w2 ⟨A2, c2, rfl, o2, b2⟩
  rw [HTL.out] at o2 ⊢
  have B12 := Lib.hid b2
  have rt0 := Rd.own o2
  clear o2 b2
  go_wp2
  go_loopw [10, 11, 12] (fun q u i wr => ∃ k : Nat, k ≤ m ∧ i = .int .i64 k ∧ (∃ nd, wr = w2.drewN nd) ∧ q = .int .i64 (lodR st ev (pick cs (os.take k))) ∧ u = .int .i64 (wanS (pick cs (os.take k)))) (fun _ _ i _ => m - (intOf i).toNat)
  case atStart => exact ⟨0, Nat.zero_le _, rfl, ⟨0, rfl⟩, rfl, rfl⟩
  case round =>
    obtain ⟨k, hk, rfl, ⟨nd, hwd⟩, rfl, rfl⟩ := hrel
    have hbw : Below w.heap.size w wr := by rw [hwd]; exact below_drewN B12.out nd
    have rt2 : Rd wr wr.heap.size A2 (ints (tmL st 0 (pick cs os))) := by rw [hwd]; exact rt0.drewN nd
    have hr2 := (hr.below hbw).more hbw.size
    have hro2 := (hro.below hbw).more hbw.size
    have HW := Lib.hid hwd
    have HBW := Lib.hid hbw
    clear hwd hbw
    by_cases hlt : k < m
    · obtain ⟨b4, off4, y, rfl, hb4, hy, hcy⟩ := rt2.int_ (k := k) (by rw [HTL.out]; exact hlt)
      obtain ⟨b3, off3, z, rfl, hb3, hz, hcz⟩ := hro2.int_ (k := k) (by rw [HLO.out]; exact hlt)
      obtain ⟨t, rfl, htm⟩ := HP.out.at_ hlt hz.out
      obtain ⟨b1, off, x, d, v, rfl, hb1, hzc, hc0, hc1, hc2⟩ := hr2.cust_ (k := t) (by rw [HL.out]; exact htm)
      obtain rfl : y = endT st (pick cs (os.take (k + 1))) := by have h1 := hy.out; rw [tm_at (by rw [HLO.out]; exact hlt)] at h1; injection h1 with h1; exact h1.symm
      obtain ⟨ht1, ht2⟩ := HP.out.time (show k + 1 ≤ m by omega)
      obtain ⟨_, _, ⟨hv1, hv2⟩⟩ := HP.out.cu htm hzc.out
      obtain ⟨hw1, hw2⟩ := HP.out.want hk
      have HNX := Lib.hid (want_next (cs := cs) hz.out hzc.out)
      have HNL := Lib.hid (lod_at (cs := cs) (st := st) (e := ev) hz.out)
      have hup : lodR st ev (pick cs (os.take k)) ≤ lodR st ev (pick cs (os.take (k + 1))) ∧ 0 ≤ lodR st ev (pick cs (os.take k)) := by
        have h1 := lodR_up (a := st) (l := pick cs (os.take k)) (c := cuA cs t) he.1 (by rw [hzc.out]; exact hv1)
        rw [← pick_snoc hz.out] at h1
        have h2 : 0 ≤ lodR st ev (pick cs (os.take k)) := by
          unfold lodR
          split
          · omega
          · have := Int.ediv_nonneg (HP.out.time hk).1 (show 0 ≤ ev by omega); omega
        refine ⟨?_, h2⟩
        rcases h1 with h1 | ⟨_, h1⟩
        · exact h1
        · rw [h1, HNL.out, HNX.out]
          have := Int.ediv_nonneg ht1 (show 0 ≤ ev by omega); omega
      rw [HNL.out, HNX.out] at hup
      obtain ⟨hup, hlo0⟩ := hup
      obtain ⟨he1, he2⟩ := he
      generalize endT st (pick cs (os.take (k + 1))) = T at *
      generalize wanS (pick cs (os.take k)) = L at *
      generalize lodR st ev (pick cs (os.take k)) = N at *
      have hdv := Int.ediv_nonneg ht1 (show 0 ≤ ev by omega)
      have hdv2 : T / ev ≤ T := Int.ediv_le_self _ ht1
      have hne : ev ≠ 0 := by omega
      have hneb : (ev == 0) = false := beq_eq_false_iff_ne.2 hne
      clear hz hzc hy
      by_cases hgt : N < L + v + T / ev
      · go_wp2
        all_goals
          go_roundw
          case rel => exact ⟨k + 1, by omega, by go_num, ⟨nd, HW.out⟩, by first | (rw [HNL.out, HNX.out]; done) | (rw [HNL.out, HNX.out]; congr 1; omega), by rw [HNX.out]⟩
          case measure => simp [intOf]; omega
      · have hge : N = L + v + T / ev := by omega
        go_wp2
        all_goals
          go_roundw
          case rel => exact ⟨k + 1, by omega, by go_num, ⟨nd, HW.out⟩, by first | (rw [HNL.out, HNX.out]; done) | (rw [HNL.out, HNX.out]; congr 1; omega), by rw [HNX.out]⟩
          case measure => simp [intOf]; omega
    · obtain rfl : k = m := by omega
      have HE : Hid (pick cs (os.take k) = pick cs os) := Lib.hid (by rw [List.take_of_length_le (by rw [HLO.out]; exact Nat.le_refl _)])
      go_wp2
      go_ret
      exact ⟨ret_int (by rw [HE.out]), HBW.out⟩
set_option maxHeartbeats 1000000 in
theorem sVis_any (n m : Nat) (cs : List Cu) (hl : cs.length = n) (A : Option Addr) (c : Nat) (hn : n ≤ maxLen) (os : List Int) (hlo : os.length = m) (hm : m ≤ 1048576) (Ao : Option Addr) (co : Nat) (hcap : m ≤ co ∧ co ≤ maxLen) (w : World) (hr : Rd w w.heap.size A (custV cs)) (hro : Rd w w.heap.size Ao (ints os)) (st : Int) :
    Calls Try.prog 21 #[.slice A n c, .int .i64 st, .slice Ao m co] w (OutI (visT cs st os) w) := by
  have cV := sVCs_any n cs hl A c hn w _ hr
  cases hv : vcB cs
  · have HF : rndB cs st os = false := by unfold rndB; rw [hv]; rfl
    rw [hv] at cV
    have CV := Lib.hid cV
    rw [visT_no HF]
    clear hv cV HF
    go_enter Try.func21, Try.ntmps21
    go_wp2_with fail
    refine (CV.out).mono ?_
    rintro e w1 ⟨rfl, q1, rfl⟩
    go_wp2
    go_ret
    exact ⟨none, 0, rfl, ⟨rfl, .inl ⟨rfl, rfl⟩⟩, (below_drewN (Below.refl _ _) q1)⟩
  rw [hv] at cV
  have CV := Lib.hid cV
  have h8 : n ≤ 8 := by rw [← hl]; exact (vcB_t hv).1
  cases hs : inB st (-100) 100
  · have HF : rndB cs st os = false := by unfold rndB; rw [hs]; simp
    have HS := Lib.hid hs
    rw [visT_no HF]
    clear hv cV HF hs
    go_enter Try.func21, Try.ntmps21
    go_wp2_with fail
    refine (CV.out).mono ?_
    rintro e w1 ⟨rfl, q1, rfl⟩
    go_wp2_with fail
    refine (inR_is HS.out _).mono ?_
    rintro e w' ⟨rfl, rfl⟩
    go_wp2
    go_ret
    exact ⟨none, 0, rfl, ⟨rfl, .inl ⟨rfl, rfl⟩⟩, (below_drewN (Below.refl _ _) q1)⟩
  have HS := Lib.hid hs
  have cO := fun w (hro : Rd w w.heap.size Ao (ints os)) => sVOrd_any n m (by omega) os hlo hm Ao co hcap w hro
  cases ho : ordB n os
  · have HF : rndB cs st os = false := by unfold rndB; rw [hl, ho]; simp
    simp only [ho] at cO
    have CO := Lib.hid cO
    rw [visT_no HF]
    clear hv cV HF hs ho cO
    go_enter Try.func21, Try.ntmps21
    go_wp2_with fail
    refine (CV.out).mono ?_
    rintro e w1 ⟨rfl, q1, rfl⟩
    go_wp2_with fail
    refine (inR_is HS.out _).mono ?_
    rintro e w' ⟨rfl, rfl⟩
    go_wp2_with fail
    refine (CO.out _ (hro.drewN q1)).mono ?_
    rintro e w2 ⟨rfl, q2, rfl⟩
    go_wp2
    go_ret
    exact ⟨none, 0, rfl, ⟨rfl, .inl ⟨rfl, rfl⟩⟩, (below_drewN (Below.refl _ _) (q1 + q2))⟩
  simp only [ho] at cO
  have CO := Lib.hid cO
  have hrn : rndB cs st os = true := by unfold rndB; rw [hv, hs, hl, ho]; rfl
  have hP := rndP hrn
  rw [hl] at hP
  have hmn : m = n := by rw [← hlo]; exact hP.olen
  subst hmn
  have HRN := Lib.hid hrn
  have HP := Lib.hid hP
  clear hv cV hs ho cO hrn hP
  rw [visT_ok HRN.out]
  go_enter Try.func21, Try.ntmps21
  go_wp2_with fail
  refine (CV.out).mono ?_
  rintro e w1 ⟨rfl, q1, rfl⟩
  go_wp2_with fail
  refine (inR_is HS.out _).mono ?_
  rintro e w' ⟨rfl, rfl⟩
  go_wp2_with fail
  refine (CO.out _ (hro.drewN q1)).mono ?_
  rintro e w2 ⟨rfl, q2, rfl⟩
  have BD : Below w.heap.size w (w.drewN (q1 + q2)) := below_drewN (Below.refl _ _) (q1 + q2)
  have hrd := hr.drewN (q1 + q2)
  have hrod := hro.drewN (q1 + q2)
  have HBD := Lib.hid BD
  clear BD
  go_wp2_with fail
  refine (sVisits_any m cs os st HP.out A c Ao co _ hrd hrod).mono ?_
  rintro e w3 ⟨A3, c3, rfl, o3, b3⟩
  have R : OutI (tmL st 0 (pick cs os)) w (.returned (.slice A3 (tmL st 0 (pick cs os)).length c3)) w3 := ⟨A3, c3, rfl, own_base o3 HBD.out.size, HBD.out.trans (b3.mono HBD.out.size)⟩
  have HR := Lib.hid R
  clear R o3 b3
  go_wp2
  go_ret
  exact HR.out
set_option maxHeartbeats 1000000 in
theorem sLate_any (n m : Nat) (cs : List Cu) (hl : cs.length = n) (A : Option Addr) (c : Nat) (hn : n ≤ maxLen) (os : List Int) (hlo : os.length = m) (hm : m ≤ 1048576) (Ao : Option Addr) (co : Nat) (hcap : m ≤ co ∧ co ≤ maxLen) (w : World) (hr : Rd w w.heap.size A (custV cs)) (hro : Rd w w.heap.size Ao (ints os)) (st : Int) :
    Calls Try.prog 25 #[.slice A n c, .int .i64 st, .slice Ao m co] w fun e w' => e = .returned (.int .i64 (lateT cs st os)) ∧ Below w.heap.size w w' := by
  have cV := sVCs_any n cs hl A c hn w _ hr
  cases hv : vcB cs
  · have HF : rndB cs st os = false := by unfold rndB; rw [hv]; rfl
    rw [hv] at cV
    have CV := Lib.hid cV
    rw [lateT_no HF]
    clear hv cV HF
    go_enter Try.func25, Try.ntmps25
    go_wp2_with fail
    refine (CV.out).mono ?_
    rintro e w1 ⟨rfl, q1, rfl⟩
    go_wp2
    go_ret
    exact ⟨rfl, (below_drewN (Below.refl _ _) q1)⟩
  rw [hv] at cV
  have CV := Lib.hid cV
  have h8 : n ≤ 8 := by rw [← hl]; exact (vcB_t hv).1
  cases hs : inB st (-100) 100
  · have HF : rndB cs st os = false := by unfold rndB; rw [hs]; simp
    have HS := Lib.hid hs
    rw [lateT_no HF]
    clear hv cV HF hs
    go_enter Try.func25, Try.ntmps25
    go_wp2_with fail
    refine (CV.out).mono ?_
    rintro e w1 ⟨rfl, q1, rfl⟩
    go_wp2_with fail
    refine (inR_is HS.out _).mono ?_
    rintro e w' ⟨rfl, rfl⟩
    go_wp2
    go_ret
    exact ⟨rfl, (below_drewN (Below.refl _ _) q1)⟩
  have HS := Lib.hid hs
  have cO := fun w (hro : Rd w w.heap.size Ao (ints os)) => sVOrd_any n m (by omega) os hlo hm Ao co hcap w hro
  cases ho : ordB n os
  · have HF : rndB cs st os = false := by unfold rndB; rw [hl, ho]; simp
    simp only [ho] at cO
    have CO := Lib.hid cO
    rw [lateT_no HF]
    clear hv cV HF hs ho cO
    go_enter Try.func25, Try.ntmps25
    go_wp2_with fail
    refine (CV.out).mono ?_
    rintro e w1 ⟨rfl, q1, rfl⟩
    go_wp2_with fail
    refine (inR_is HS.out _).mono ?_
    rintro e w' ⟨rfl, rfl⟩
    go_wp2_with fail
    refine (CO.out _ (hro.drewN q1)).mono ?_
    rintro e w2 ⟨rfl, q2, rfl⟩
    go_wp2
    go_ret
    exact ⟨rfl, (below_drewN (Below.refl _ _) (q1 + q2))⟩
  simp only [ho] at cO
  have CO := Lib.hid cO
  have hrn : rndB cs st os = true := by unfold rndB; rw [hv, hs, hl, ho]; rfl
  have hP := rndP hrn
  rw [hl] at hP
  have hmn : m = n := by rw [← hlo]; exact hP.olen
  subst hmn
  have HRN := Lib.hid hrn
  have HP := Lib.hid hP
  clear hv cV hs ho cO hrn hP
  rw [lateT_ok HRN.out]
  go_enter Try.func25, Try.ntmps25
  go_wp2_with fail
  refine (CV.out).mono ?_
  rintro e w1 ⟨rfl, q1, rfl⟩
  go_wp2_with fail
  refine (inR_is HS.out _).mono ?_
  rintro e w' ⟨rfl, rfl⟩
  go_wp2_with fail
  refine (CO.out _ (hro.drewN q1)).mono ?_
  rintro e w2 ⟨rfl, q2, rfl⟩
  have BD : Below w.heap.size w (w.drewN (q1 + q2)) := below_drewN (Below.refl _ _) (q1 + q2)
  have hrd := hr.drewN (q1 + q2)
  have hrod := hro.drewN (q1 + q2)
  have HBD := Lib.hid BD
  clear BD
  go_wp2_with fail
  refine (sLateN_any m cs os st HP.out A c Ao co _ hrd hrod).mono ?_
  rintro e w3 ⟨rfl, b3⟩
  have HB3 := Lib.hid (HBD.out.trans (b3.mono HBD.out.size))
  clear b3
  go_wp2
  go_ret
  exact ⟨rfl, HB3.out⟩
set_option maxHeartbeats 1000000 in
theorem sLoad_any (n m : Nat) (cs : List Cu) (hl : cs.length = n) (A : Option Addr) (c : Nat) (hn : n ≤ maxLen) (os : List Int) (hlo : os.length = m) (hm : m ≤ 1048576) (Ao : Option Addr) (co : Nat) (hcap : m ≤ co ∧ co ≤ maxLen) (w : World) (hr : Rd w w.heap.size A (custV cs)) (hro : Rd w w.heap.size Ao (ints os)) (st : Int) (ev : Int) :
    Calls Try.prog 37 #[.slice A n c, .int .i64 st, .slice Ao m co, .int .i64 ev] w fun e w' => e = .returned (.int .i64 (loadT cs st os ev)) ∧ Below w.heap.size w w' := by
  have cV := sVCs_any n cs hl A c hn w _ hr
  cases hv : vcB cs
  · have HF : rndB cs st os = false := by unfold rndB; rw [hv]; rfl
    rw [hv] at cV
    have CV := Lib.hid cV
    rw [show loadT cs st os ev = -1 by unfold loadT; rw [HF]; rfl]
    clear hv cV HF
    go_enter Try.func37, Try.ntmps37
    go_wp2_with fail
    refine (CV.out).mono ?_
    rintro e w1 ⟨rfl, q1, rfl⟩
    go_wp2
    go_ret
    exact ⟨rfl, (below_drewN (Below.refl _ _) q1)⟩
  rw [hv] at cV
  have CV := Lib.hid cV
  have h8 : n ≤ 8 := by rw [← hl]; exact (vcB_t hv).1
  cases hs : inB st (-100) 100
  · have HF : rndB cs st os = false := by unfold rndB; rw [hs]; simp
    have HS := Lib.hid hs
    rw [show loadT cs st os ev = -1 by unfold loadT; rw [HF]; rfl]
    clear hv cV HF hs
    go_enter Try.func37, Try.ntmps37
    go_wp2_with fail
    refine (CV.out).mono ?_
    rintro e w1 ⟨rfl, q1, rfl⟩
    go_wp2_with fail
    refine (inR_is HS.out _).mono ?_
    rintro e w' ⟨rfl, rfl⟩
    go_wp2
    go_ret
    exact ⟨rfl, (below_drewN (Below.refl _ _) q1)⟩
  have HS := Lib.hid hs
  have cO := fun w (hro : Rd w w.heap.size Ao (ints os)) => sVOrd_any n m (by omega) os hlo hm Ao co hcap w hro
  cases ho : ordB n os
  · have HF : rndB cs st os = false := by unfold rndB; rw [hl, ho]; simp
    simp only [ho] at cO
    have CO := Lib.hid cO
    rw [show loadT cs st os ev = -1 by unfold loadT; rw [HF]; rfl]
    clear hv cV HF hs ho cO
    go_enter Try.func37, Try.ntmps37
    go_wp2_with fail
    refine (CV.out).mono ?_
    rintro e w1 ⟨rfl, q1, rfl⟩
    go_wp2_with fail
    refine (inR_is HS.out _).mono ?_
    rintro e w' ⟨rfl, rfl⟩
    go_wp2_with fail
    refine (CO.out _ (hro.drewN q1)).mono ?_
    rintro e w2 ⟨rfl, q2, rfl⟩
    go_wp2
    go_ret
    exact ⟨rfl, (below_drewN (Below.refl _ _) (q1 + q2))⟩
  simp only [ho] at cO
  have CO := Lib.hid cO
  have hrn : rndB cs st os = true := by unfold rndB; rw [hv, hs, hl, ho]; rfl
  have hP := rndP hrn
  rw [hl] at hP
  have hmn : m = n := by rw [← hlo]; exact hP.olen
  subst hmn
  have HRN := Lib.hid hrn
  have HP := Lib.hid hP
  clear hv cV hs ho cO hrn hP
  cases he : inB ev 1 2000
  · rw [show loadT cs st os ev = -1 by unfold loadT; rw [he]; simp]
    have HE := Lib.hid he
    clear he
    go_enter Try.func37, Try.ntmps37
    go_wp2_with fail
    refine (CV.out).mono ?_
    rintro e w1 ⟨rfl, q1, rfl⟩
    go_wp2_with fail
    refine (inR_is HS.out _).mono ?_
    rintro e w' ⟨rfl, rfl⟩
    go_wp2_with fail
    refine (CO.out _ (hro.drewN q1)).mono ?_
    rintro e w2 ⟨rfl, q2, rfl⟩
    have BD : Below w.heap.size w (w.drewN (q1 + q2)) := below_drewN (Below.refl _ _) (q1 + q2)
    have hrd := hr.drewN (q1 + q2)
    have hrod := hro.drewN (q1 + q2)
    have HBD := Lib.hid BD
    clear BD
    go_wp2_with fail
    refine (inR_is HE.out _).mono ?_
    rintro e w' ⟨rfl, rfl⟩
    go_wp2
    go_ret
    exact ⟨rfl, HBD.out⟩
  rw [show loadT cs st os ev = lodR st ev (pick cs os) by unfold loadT; rw [HRN.out, he]; rfl]
  have hE := inB_t he
  have HE := Lib.hid he
  clear he
  go_enter Try.func37, Try.ntmps37
  go_wp2_with fail
  refine (CV.out).mono ?_
  rintro e w1 ⟨rfl, q1, rfl⟩
  go_wp2_with fail
  refine (inR_is HS.out _).mono ?_
  rintro e w' ⟨rfl, rfl⟩
  go_wp2_with fail
  refine (CO.out _ (hro.drewN q1)).mono ?_
  rintro e w2 ⟨rfl, q2, rfl⟩
  have BD : Below w.heap.size w (w.drewN (q1 + q2)) := below_drewN (Below.refl _ _) (q1 + q2)
  have hrd := hr.drewN (q1 + q2)
  have hrod := hro.drewN (q1 + q2)
  have HBD := Lib.hid BD
  clear BD
  go_wp2_with fail
  refine (inR_is HE.out _).mono ?_
  rintro e w' ⟨rfl, rfl⟩
  go_wp2_with fail
  refine (sLoadN_any m cs os st HP.out A c Ao co _ hrd hrod ev hE).mono ?_
  rintro e w3 ⟨rfl, b3⟩
  have HB3 := Lib.hid (HBD.out.trans (b3.mono HBD.out.size))
  clear b3
  go_wp2
  go_ret
  exact ⟨rfl, HB3.out⟩

end Go.Proofs.Ytjjddamblijffaa

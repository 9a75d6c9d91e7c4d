/- Contracts of chapter 4: LeastLifts and GreatestGap, the model. -/
import Derived.Test.YtcjcdlhmhhbkgaaLLeast
namespace Go.Proofs.Ytcjcdlhmhhbkgaa
open Go.RowKit
set_option linter.unusedVariables false
set_option linter.unusedSimpArgs false
/-- all numbers below k are good -/
def allTo (p : Nat → Bool) : Nat → Bool
  | 0 => true
  | k + 1 => allTo p k && p k
theorem allTo_t {p : Nat → Bool} : ∀ {k : Nat}, allTo p k = true → ∀ i, i < k → p i = true
  | 0, _, i, h => by omega
  | k + 1, h, i, hi => by
    simp only [allTo, Bool.and_eq_true] at h
    by_cases e : i = k
    · rw [e]; exact h.2
    · exact allTo_t h.1 i (by omega)
theorem allTo_mk {p : Nat → Bool} : ∀ {k : Nat}, (∀ i, i < k → p i = true) → allTo p k = true
  | 0, _ => rfl
  | k + 1, h => by simp only [allTo, Bool.and_eq_true]; exact ⟨allTo_mk fun i hi => h i (by omega), h k (by omega)⟩
def waitOk (zs : List Int) (g : Int) (m : Nat) (wt : Int) (i : Nat) : Bool := decide (la zs g m i - el zs i ≤ wt)
theorem okL_all {zs : List Int} {g wt : Int} {m : Nat} : okL zs g wt m = allTo (waitOk zs g m wt) zs.length := by
  cases h : allTo (waitOk zs g m wt) zs.length
  · unfold okL
    cases hq : underB (waitsF zs g m) wt
    · rfl
    · rw [allTo_mk (fun i hi => ?_)] at h
      · exact h
      · have := underB_t hq i (by rw [waitsF_len]; exact hi)
        rw [waitsF_at hi] at this
        exact decide_eq_true this
  · exact underB_mk fun i hi => by
      rw [waitsF_len] at hi
      rw [waitsF_at hi]
      exact of_decide_eq_true (allTo_t h i hi)
theorem okG_last {zs : List Int} {g : Nat} {m : Nat} {b : Int} (ht : TimesP zs) (hm : 0 < m) {k : Nat} (hk : zs.length = k + 1) : okG zs m b g = decide (la zs g m k ≤ b) := by
  unfold okG
  rw [underB_last (m := k) (by rw [liftF_len]; exact hk) (fun i hi => ?_), liftF_at (by omega)]
  rw [liftF_len] at hi
  rw [liftF_at hi, liftF_at (by omega)]
  exact la_up ht hm (by omega) (by omega) (by omega)
theorem okG_none {zs : List Int} {g : Nat} {m : Nat} {b : Int} (hk : zs.length = 0) : okG zs m b g = true := underB_mk fun i hi => by rw [liftF_len] at hi; omega
set_option maxHeartbeats 1600000 in
theorem sLeast_any (zs : List Int) (A : Option Addr) (c : Nat) (w : World) (hr : Rd w w.heap.size A (ints zs)) (hn : zs.length ≤ 1048576) (g wt : Int) :
    Calls Try.prog 37 #[.slice A zs.length c, .int .i64 g, .int .i64 wt] w fun e w' => e = .returned (.int .i64 (leastT zs g wt)) ∧ Below w.heap.size w w' := by
  cases hv : timesB zs
  · rw [leastT_no (by rw [hv]; rfl)]
    have Hv := Lib.hid hv
    clear hv
    go_enter Try.func37, Try.ntmps37
    go_wp2_with (first | (go_at_call 48; refine (sVT_is _ _ _ _ _ hr hn Hv.out).mono ?_; rintro e w' ⟨rfl, nv, rfl⟩) | (go_at_call 60; refine (inRange_any _ _ _ _).mono ?_; rintro e w' ⟨rfl, rfl⟩))
    go_ret
    exact ⟨rfl, bel_drew (n := nv) (Below.refl _ _)⟩
  · cases h1 : inB g 1 60
    · rw [leastT_no (by rw [hv, h1]; rfl)]
      have Hv := Lib.hid hv
      clear hv
      go_enter Try.func37, Try.ntmps37
      go_wp2_with (first | (go_at_call 48; refine (sVT_is _ _ _ _ _ hr hn Hv.out).mono ?_; rintro e w' ⟨rfl, nv, rfl⟩) | (go_at_call 60; refine (inRange_any _ _ _ _).mono ?_; rintro e w' ⟨rfl, rfl⟩))
      go_ret
      exact ⟨rfl, bel_drew (n := nv) (Below.refl _ _)⟩
    · cases h2 : inB wt 0 2000
      · rw [leastT_no (by rw [hv, h1, h2]; rfl)]
        have Hv := Lib.hid hv
        clear hv
        go_enter Try.func37, Try.ntmps37
        go_wp2_with (first | (go_at_call 48; refine (sVT_is _ _ _ _ _ hr hn Hv.out).mono ?_; rintro e w' ⟨rfl, nv, rfl⟩) | (go_at_call 60; refine (inRange_any _ _ _ _).mono ?_; rintro e w' ⟨rfl, rfl⟩))
        go_ret
        exact ⟨rfl, bel_drew (n := nv) (Below.refl _ _)⟩
      · rw [leastT_ok (by rw [hv, h1, h2]; rfl)]
        have ht := timesB_t hv
        have hl := ht.len
        have hg := inB_t h1
        have hwt := inB_t h2
        have HT := Lib.hid ht
        have Hv := Lib.hid hv
        clear hv ht
        go_enter Try.func37, Try.ntmps37
        go_wp2_with (first | (go_at_call 48; refine (sVT_is _ _ _ _ _ hr hn Hv.out).mono ?_; rintro e w' ⟨rfl, nv, rfl⟩) | (go_at_call 60; refine (inRange_any _ _ _ _).mono ?_; rintro e w' ⟨rfl, rfl⟩))
        go_loopw [7] (fun i wr => ∃ m : Nat, 1 ≤ m ∧ m ≤ 9 ∧ i = .int .i64 m ∧ firstUp (okL zs g wt) 1 8 = firstUp (okL zs g wt) m (9 - m) ∧ Below w.heap.size w wr) (fun i _ => 9 - (intOf i).toNat)
        case atStart => exact ⟨1, by omega, by omega, rfl, rfl, bel_drew (n := nv) (Below.refl _ _)⟩
        case round =>
          obtain ⟨m, hm1, hm9, rfl, hf, hbel⟩ := hrel
          have HF := Lib.hid hf
          clear hf
          by_cases hlt : m ≤ 8
          · have HU := Lib.hid (up_step (p := okL zs g wt) hlt)
            go_wp2_with fail
            refine (lifted_any _ _ _ _ (hr.up hbel) _ _ HT.out hg hm1 hlt).mono ?_
            rintro e w2 ⟨A2, c2, rfl, o2, b2⟩
            have r2 := Rd.own o2
            rw [liftF_len] at o2 ⊢
            have hbel2 := hbel.trans (b2.mono hbel.size)
            have hr2 := hr.up hbel2
            clear o2 b2 hbel
            go_wp2
            go_loopw [9, 10] (fun v i wi => ∃ k : Nat, k ≤ zs.length ∧ i = .int .i64 k ∧ v = .bool (allTo (waitOk zs g m wt) k) ∧ ∃ n, wi = w2.drewN n) (fun _ i _ => zs.length - (intOf i).toNat)
            case atStart => exact ⟨0, Nat.zero_le _, rfl, rfl, 0, rfl⟩
            case round =>
              obtain ⟨k, hk, rfl, rfl, nd, hwi⟩ := hrel
              have HW := Lib.hid hwi
              clear hwi
              by_cases hlk : k < zs.length
              · have HS : Hid (allTo (waitOk zs g m wt) (k + 1) = (allTo (waitOk zs g m wt) k && waitOk zs g m wt k)) := Lib.hid rfl
                cases hq : allTo (waitOk zs g m wt) k
                · rw [hq] at HS
                  have HQ := Lib.hid hq
                  clear hq
                  go_wp2
                  refine wp_region_quiet_lit (by kernel_rfl) (by kernel_rfl) ?_
                  repeat (go_big_quiet_step (fail))
                  refine wpQuiet_nil ?_
                  intro _ hw'
                  obtain ⟨nq, hw''⟩ := hw'
                  subst hw''
                  go_wp2
                  go_roundw
                  case rel => exact ⟨k + 1, by omega, by go_num, by rw [HS.out]; rfl, nd + nq, by rw [HW.out, World.drewN_drewN]⟩
                  case measure => simp [intOf]; omega
                · rw [hq] at HS
                  have HQ := Lib.hid hq
                  clear hq
                  obtain ⟨b, off, rfl, hb0, hc0⟩ := hr2.el_ hlk
                  obtain ⟨b', off', rfl, hb1, hc1⟩ := r2.el_ (k := k) (by rw [liftF_len]; exact hlk)
                  rw [liftF_at hlk] at hc1
                  have hwc : ∀ p, wr.cell? p = w2.cell? p := fun p => by rw [HW.out]; rfl
                  have hc2 := (hwc _).trans hc0
                  have hc3 := (hwc _).trans hc1
                  clear hwc hc0 hc1
                  have hz := HT.out.bd k hlk
                  have hla := la_bd' HT.out (n := m) (g := g) (i := k) (by omega) (by omega) hlk
                  have HWO : Hid (waitOk zs g m wt k = decide (la zs g m k - el zs k ≤ wt)) := Lib.hid rfl
                  by_cases hd : la zs g m k - el zs k ≤ wt
                  · rw [decide_eq_true hd] at HWO
                    go_wp2
                    refine wp_region_quiet_lit (by kernel_rfl) (by kernel_rfl) ?_
                    repeat (go_big_quiet_step (fail))
                    refine wpQuiet_nil ?_
                    intro _ hw'
                    obtain ⟨nq, hw''⟩ := hw'
                    subst hw''
                    go_wp2
                    go_roundw
                    case rel => exact ⟨k + 1, by omega, by go_num, by rw [HS.out, HWO.out]; first | rfl | (rw [decide_eq_false (by omega)]; rfl) | (rw [decide_eq_true (by omega)]; rfl), nd + nq, by rw [HW.out, World.drewN_drewN]⟩
                    case measure => simp [intOf]; omega
                  · rw [decide_eq_false hd] at HWO
                    go_wp2
                    refine wp_region_quiet_lit (by kernel_rfl) (by kernel_rfl) ?_
                    repeat (go_big_quiet_step (fail))
                    refine wpQuiet_nil ?_
                    intro _ hw'
                    obtain ⟨nq, hw''⟩ := hw'
                    subst hw''
                    go_wp2
                    go_roundw
                    case rel => exact ⟨k + 1, by omega, by go_num, by rw [HS.out, HWO.out]; first | rfl | (rw [decide_eq_false (by omega)]; rfl) | (rw [decide_eq_true (by omega)]; rfl), nd + nq, by rw [HW.out, World.drewN_drewN]⟩
                    case measure => simp [intOf]; omega
              · obtain rfl : k = zs.length := by omega
                have HO : Hid (okL zs g wt m = allTo (waitOk zs g m wt) zs.length) := Lib.hid okL_all
                cases hq : allTo (waitOk zs g m wt) zs.length
                · rw [hq] at HO
                  have HE : Hid (firstUp (okL zs g wt) 1 8 = firstUp (okL zs g wt) (m + 1) (9 - (m + 1))) := Lib.hid (by rw [HF.out, HU.out, HO.out]; rfl)
                  have HQ := Lib.hid hq
                  clear hq r2
                  go_wp2
                  go_roundw
                  case rel => exact ⟨m + 1, by omega, by omega, by go_num, HE.out, by rw [HW.out]; exact below_drewN hbel2 nd⟩
                  case measure => simp [intOf]; omega
                · rw [hq] at HO
                  have HE : Hid (firstUp (okL zs g wt) 1 8 = (m : Int)) := Lib.hid (by rw [HF.out, HU.out, HO.out]; rfl)
                  have HQ := Lib.hid hq
                  clear hq r2
                  go_wp2
                  go_ret
                  exact ⟨ret_int HE.out.symm, by rw [HW.out]; exact below_drewN hbel2 nd⟩
          · obtain rfl : m = 9 := by omega
            have HE : Hid (firstUp (okL zs g wt) 1 8 = -1) := Lib.hid (by rw [HF.out]; rfl)
            go_wp2
            go_ret
            exact ⟨ret_int HE.out.symm, hbel⟩
set_option maxHeartbeats 1600000 in
theorem sGap_any (zs : List Int) (A : Option Addr) (c : Nat) (w : World) (hr : Rd w w.heap.size A (ints zs)) (hn : zs.length ≤ 1048576) (n by_ : Int) :
    Calls Try.prog 40 #[.slice A zs.length c, .int .i64 n, .int .i64 by_] w fun e w' => e = .returned (.int .i64 (gapT zs n by_)) ∧ Below w.heap.size w w' := by
  cases hv : timesB zs
  · rw [gapT_no (by rw [hv]; rfl)]
    have Hv := Lib.hid hv
    clear hv
    go_enter Try.func40, Try.ntmps40
    go_wp2_with (first | (go_at_call 48; refine (sVT_is _ _ _ _ _ hr hn Hv.out).mono ?_; rintro e w' ⟨rfl, nv, rfl⟩) | (go_at_call 60; refine (inRange_any _ _ _ _).mono ?_; rintro e w' ⟨rfl, rfl⟩))
    go_ret
    exact ⟨rfl, bel_drew (n := nv) (Below.refl _ _)⟩
  · cases h1 : inB n 1 8
    · rw [gapT_no (by rw [hv, h1]; rfl)]
      have Hv := Lib.hid hv
      clear hv
      go_enter Try.func40, Try.ntmps40
      go_wp2_with (first | (go_at_call 48; refine (sVT_is _ _ _ _ _ hr hn Hv.out).mono ?_; rintro e w' ⟨rfl, nv, rfl⟩) | (go_at_call 60; refine (inRange_any _ _ _ _).mono ?_; rintro e w' ⟨rfl, rfl⟩))
      go_ret
      exact ⟨rfl, bel_drew (n := nv) (Below.refl _ _)⟩
    · have hnn := inB_t h1
      obtain ⟨m, rfl⟩ := Int.eq_ofNat_of_zero_le (show 0 ≤ n by omega)
      rw [gapT_ok (by rw [hv, h1]; rfl)]
      have ht := timesB_t hv
      have hl := ht.len
      have HT := Lib.hid ht
      have Hv := Lib.hid hv
      clear hv ht
      go_enter Try.func40, Try.ntmps40
      go_wp2_with (first | (go_at_call 48; refine (sVT_is _ _ _ _ _ hr hn Hv.out).mono ?_; rintro e w' ⟨rfl, nv, rfl⟩) | (go_at_call 60; refine (inRange_any _ _ _ _).mono ?_; rintro e w' ⟨rfl, rfl⟩))
      go_loopw [7, 8] (fun v i wr => ∃ r : Nat, r ≤ 60 ∧ i = .int .i64 ((r : Int) + 1) ∧ v = .int .i64 (lastDn (okG zs m by_) r) ∧ Below w.heap.size w wr) (fun _ i _ => 61 - (intOf i).toNat)
      case atStart => exact ⟨0, by omega, rfl, rfl, bel_drew (n := nv) (Below.refl _ _)⟩
      case round =>
        obtain ⟨r, hr60, rfl, rfl, hbel⟩ := hrel
        by_cases hlt : r < 60
        · have e1 : ((r : Int) + 1) = ((r + 1 : Nat) : Int) := by omega
          have HS : Hid (lastDn (okG zs m by_) (r + 1) = if okG zs m by_ (r + 1) then ((r + 1 : Nat) : Int) else lastDn (okG zs m by_) r) := Lib.hid rfl
          have hlr := lastDn_range (okG zs m by_) r
          generalize lastDn (okG zs m by_) r = best at *
          rw [e1]
          clear e1
          generalize hsr : r + 1 = s at *
          have HSR := Lib.hid hsr
          clear hsr
          have hs1 : 1 ≤ s ∧ s ≤ 60 := by have := HSR.out; omega
          obtain ⟨hs1, hs2⟩ := hs1
          go_wp2_with fail
          refine (lifted_any _ _ _ _ (hr.up hbel) _ _ HT.out (by omega) (by omega) (by omega)).mono ?_
          rintro e w2 ⟨A2, c2, rfl, o2, b2⟩
          have r2 := Rd.own o2
          rw [liftF_len] at o2 ⊢
          have hbel2 := hbel.trans (b2.mono hbel.size)
          clear o2 b2 hbel
          by_cases hz : zs.length = 0
          · have hz0 : ((zs.length : Int) == 0) = true := beq_iff_eq.2 (by omega)
            have HE : Hid (lastDn (okG zs m by_) s = (s : Int)) := Lib.hid (by have := HS.out; rw [okG_none hz] at this; exact this)
            have HZ := Lib.hid hz
            clear hz
            go_wp2
            go_roundw
            case rel => exact ⟨s, by omega, by go_num, by rw [HE.out], hbel2⟩
            case measure => simp [intOf]; omega
          · have hz0 : ((zs.length : Int) == 0) = false := beq_eq_false_iff_ne.2 (by omega)
            obtain ⟨q, hq⟩ : ∃ q, zs.length = q + 1 := ⟨zs.length - 1, by omega⟩
            have i1 : (zs.length : Int) - 1 = (q : Int) := by omega
            obtain ⟨b', off', rfl, hb1, hc1⟩ := r2.el_ (k := q) (by rw [liftF_len]; omega)
            rw [liftF_at (by omega)] at hc1
            have hql : q < zs.length := by omega
            have HG := Lib.hid (okG_last (g := s) (b := by_) HT.out (show 0 < m by omega) hq)
            clear hz hq
            by_cases hd : la zs s m q ≤ by_
            · have HE : Hid (lastDn (okG zs m by_) s = (s : Int)) := Lib.hid (by have := HS.out; rw [HG.out, decide_eq_true hd] at this; exact this)
              go_wp2
              go_roundw
              case rel => exact ⟨s, by omega, by go_num, by rw [HE.out], hbel2⟩
              case measure => simp [intOf]; omega
            · have HE : Hid (lastDn (okG zs m by_) s = best) := Lib.hid (by have := HS.out; rw [HG.out, decide_eq_false hd] at this; exact this)
              go_wp2
              go_roundw
              case rel => exact ⟨s, by omega, by go_num, by rw [HE.out], hbel2⟩
              case measure => simp [intOf]; omega
        · obtain rfl : r = 60 := by omega
          go_wp2
          go_ret
          exact ⟨rfl, hbel⟩

end Go.Proofs.Ytcjcdlhmhhbkgaa

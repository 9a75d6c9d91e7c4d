/- Contracts of chapter 4: LeastLifts and GreatestGap, the program. -/
import Derived.Test.YtcjcdlhmhhbkgaaLWait
namespace Go.Proofs.Ytcjcdlhmhhbkgaa
open Go.RowKit
set_option linter.unusedVariables false
set_option linter.unusedSimpArgs false
def okL (zs : List Int) (g w : Int) (m : Nat) : Bool := underB (waitsF zs g m) w
def okG (zs : List Int) (m : Nat) (by_ : Int) (g : Nat) : Bool := underB (liftF zs g m) by_
def leastT (zs : List Int) (g w : Int) : Int := if timesB zs && (inB g 1 60 && inB w 0 2000) then firstUp (okL zs g w) 1 8 else -1
def gapT (zs : List Int) (n by_ : Int) : Int := if timesB zs && inB n 1 8 then lastDn (okG zs n.toNat by_) 60 else -1
theorem leastT_no {zs : List Int} {g w : Int} (h : (timesB zs && (inB g 1 60 && inB w 0 2000)) = false) : leastT zs g w = -1 := by unfold leastT; rw [h]; rfl
theorem leastT_ok {zs : List Int} {g w : Int} (h : (timesB zs && (inB g 1 60 && inB w 0 2000)) = true) : leastT zs g w = firstUp (okL zs g w) 1 8 := by unfold leastT; rw [h]; rfl
theorem gapT_no {zs : List Int} {n b : Int} (h : (timesB zs && inB n 1 8) = false) : gapT zs n b = -1 := by unfold gapT; rw [h]; rfl
theorem gapT_ok {zs : List Int} {n : Nat} {b : Int} (h : (timesB zs && inB n 1 8) = true) : gapT zs n b = lastDn (okG zs n b) 60 := by unfold gapT; rw [h]; rfl
theorem lv_mk {zs : List Int} {g n : Int} (h : TimesP zs) (hg : 1 ≤ g ∧ g ≤ 60) (hn : 1 ≤ n ∧ n ≤ 8) : lvB zs g n = true := by
  unfold lvB
  rw [timesB_mk h, inB_mk hg, inB_mk hn]; rfl
theorem up_step {p : Nat → Bool} {m : Nat} (hm : m ≤ 8) : firstUp p m (9 - m) = if p m then (m : Int) else firstUp p (m + 1) (9 - (m + 1)) := by
  obtain ⟨r, hr⟩ : ∃ r, 9 - m = r + 1 := ⟨8 - m, by omega⟩
  rw [hr, show 9 - (m + 1) = r by omega]; rfl
theorem up_end {p : Nat → Bool} : firstUp p 9 (9 - 9) = -1 := rfl
set_option maxHeartbeats 400000 in
theorem noneOver_any (zs : List Int) (n : Nat) (hz : zs.length = n) (hn : n ≤ 1000) (A : Option Addr) (c : Nat) (w : World) (B : Nat) (hr : Rd w B A (ints zs)) (l : Int) :
    Calls Try.prog 59 #[.slice A n c, .int .i64 l] w fun e w' => e = .returned (.bool (underB zs l)) ∧ w = w' := by
  have HZ := Lib.hid hz
  clear hz
  go_enter Try.func59, Try.ntmps59
  go_wp2
  go_loop [9] (fun i => ∃ k : Nat, k ≤ n ∧ i = .int .i64 k ∧ ∀ j, j < k → el zs j ≤ l) (fun i => n - (intOf i).toNat)
  case atStart => exact ⟨0, Nat.zero_le _, rfl, fun j h => by omega⟩
  case round =>
    obtain ⟨k, hk, rfl, hj⟩ := hrel
    have HJ := Lib.hid hj
    clear hj
    by_cases hlt : k < n
    · obtain ⟨b, off, rfl, hb0, hc⟩ := hr.el_ (k := k) (by rw [HZ.out]; exact hlt)
      by_cases h1 : l < el zs k
      · have HF := Lib.hid (underB_nk (zs := zs) (by rw [HZ.out]; exact hlt) h1)
        go_wp2
        go_ret
        exact ⟨ret_bool HF.out.symm, rfl⟩
      · go_wp2
        go_round
        case rel => exact ⟨k + 1, by omega, by go_num, fun j hj => by by_cases e : j = k; (subst e; omega); exact HJ.out j (by omega)⟩
        case measure => simp [intOf]; omega
    · have HT := Lib.hid (underB_mk (zs := zs) (l := l) (fun j hj => HJ.out j (by have := HZ.out; omega)))
      go_wp2
      go_ret
      exact ⟨ret_bool HT.out.symm, rfl⟩
set_option maxHeartbeats 1000000 in
theorem iLeast_any (zs : List Int) (A : Option Addr) (c : Nat) (w : World) (hr : Rd w w.heap.size A (ints zs)) (g wt : Int) :
    Calls Try.prog 36 #[.slice A zs.length c, .int .i64 g, .int .i64 wt] w fun e w' => e = .returned (.int .i64 (leastT zs g wt)) ∧ Below w.heap.size w w' := by
  cases hv : timesB zs
  · rw [leastT_no (by rw [hv]; rfl)]
    have Hv := Lib.hid hv
    clear hv
    go_enter Try.func36, Try.ntmps36
    go_wp2_with (go_at_call 16; refine (iVT_is _ _ _ _ _ hr Hv.out).mono ?_; rintro e w' ⟨rfl, rfl⟩)
    go_ret
    exact ⟨rfl, Below.refl _ _⟩
  · cases h1 : inB g 1 60
    · rw [leastT_no (by rw [hv, h1]; rfl)]
      have Hv := Lib.hid hv
      clear hv
      go_enter Try.func36, Try.ntmps36
      go_wp2_with (first | (go_at_call 16; refine (iVT_is _ _ _ _ _ hr Hv.out).mono ?_; rintro e w' ⟨rfl, rfl⟩) | (go_at_call 58; refine (vGap_any _ _).mono ?_; rintro e w' ⟨rfl, rfl⟩))
      go_ret
      exact ⟨rfl, Below.refl _ _⟩
    · by_cases h2 : 0 ≤ wt ∧ wt ≤ 2000
      · obtain ⟨w0, w1⟩ := h2
        rw [leastT_ok (by rw [hv, h1, inB_mk ⟨w0, w1⟩]; rfl)]
        have ht := timesB_t hv
        have hl := ht.len
        have hg := inB_t h1
        have HT := Lib.hid ht
        have Hv := Lib.hid hv
        clear hv ht
        go_enter Try.func36, Try.ntmps36
        go_wp2_with (first | (go_at_call 16; refine (iVT_is _ _ _ _ _ hr Hv.out).mono ?_; rintro e w' ⟨rfl, rfl⟩) | (go_at_call 58; refine (vGap_any _ _).mono ?_; rintro e w' ⟨rfl, rfl⟩))
        go_loopw [7] (fun i wr => ∃ m : Nat, 1 ≤ m ∧ m ≤ 9 ∧ i = .int .i64 m ∧ firstUp (okL zs g wt) 1 8 = firstUp (okL zs g wt) m (9 - m) ∧ Below w.heap.size w wr) (fun i _ => 9 - (intOf i).toNat)
        case atStart => exact ⟨1, by omega, by omega, rfl, rfl, Below.refl _ _⟩
        case round =>
          obtain ⟨m, hm1, hm9, rfl, hf, hbel⟩ := hrel
          have HF := Lib.hid hf
          clear hf
          by_cases hlt : m ≤ 8
          · have HU := Lib.hid (up_step (p := okL zs g wt) hlt)
            have cW := iWaits_any zs A c wr (hr.up hbel) g m
            rw [waitsT_ok (lv_mk HT.out hg (by omega))] at cW
            go_wp2_with fail
            refine cW.mono ?_
            rintro e w2 ⟨A2, c2, rfl, o2, b2⟩
            have r2 := Rd.own o2
            rw [waitsF_len] at o2 ⊢
            have hbel2 := hbel.trans (b2.mono hbel.size)
            clear o2 b2 hbel cW
            go_wp2_with fail
            refine (noneOver_any _ _ (waitsF_len zs g m) (by omega) _ _ _ _ r2 wt).mono ?_
            rintro e w' ⟨rfl, rfl⟩
            cases hq : okL zs g wt m
            · have hq2 : underB (waitsF zs g m) wt = false := hq
              have HE : Hid (firstUp (okL zs g wt) 1 8 = firstUp (okL zs g wt) (m + 1) (9 - (m + 1))) := Lib.hid (by rw [HF.out, HU.out, hq]; rfl)
              clear hq r2
              go_wp2
              go_roundw
              case rel => exact ⟨m + 1, by omega, by omega, by go_num, HE.out, hbel2⟩
              case measure => simp [intOf]; omega
            · have hq2 : underB (waitsF zs g m) wt = true := hq
              have HE : Hid (firstUp (okL zs g wt) 1 8 = (m : Int)) := Lib.hid (by rw [HF.out, HU.out, hq]; rfl)
              clear hq r2
              go_wp2
              go_ret
              exact ⟨ret_int HE.out.symm, hbel2⟩
          · obtain rfl : m = 9 := by omega
            have HE : Hid (firstUp (okL zs g wt) 1 8 = -1) := Lib.hid (by rw [HF.out]; rfl)
            go_wp2
            go_ret
            exact ⟨ret_int HE.out.symm, hbel⟩
      · rw [leastT_no (by rw [hv, h1, inB_nk h2]; rfl)]
        have Hv := Lib.hid hv
        clear hv
        by_cases h3 : wt < 0
        · clear h2
          go_enter Try.func36, Try.ntmps36
          go_wp2_with (first | (go_at_call 16; refine (iVT_is _ _ _ _ _ hr Hv.out).mono ?_; rintro e w' ⟨rfl, rfl⟩) | (go_at_call 58; refine (vGap_any _ _).mono ?_; rintro e w' ⟨rfl, rfl⟩))
          go_ret
          exact ⟨rfl, Below.refl _ _⟩
        · have h4 : 2000 < wt := by omega
          clear h2
          go_enter Try.func36, Try.ntmps36
          go_wp2_with (first | (go_at_call 16; refine (iVT_is _ _ _ _ _ hr Hv.out).mono ?_; rintro e w' ⟨rfl, rfl⟩) | (go_at_call 58; refine (vGap_any _ _).mono ?_; rintro e w' ⟨rfl, rfl⟩))
          go_ret
          exact ⟨rfl, Below.refl _ _⟩
set_option maxHeartbeats 1000000 in
theorem iGap_any (zs : List Int) (A : Option Addr) (c : Nat) (w : World) (hr : Rd w w.heap.size A (ints zs)) (n by_ : Int) :
    Calls Try.prog 39 #[.slice A zs.length c, .int .i64 n, .int .i64 by_] w fun e w' => e = .returned (.int .i64 (gapT zs n by_)) ∧ Below w.heap.size w w' := by
  cases hv : timesB zs
  · rw [gapT_no (by rw [hv]; rfl)]
    have Hv := Lib.hid hv
    clear hv
    go_enter Try.func39, Try.ntmps39
    go_wp2_with (go_at_call 16; refine (iVT_is _ _ _ _ _ hr Hv.out).mono ?_; rintro e w' ⟨rfl, rfl⟩)
    go_ret
    exact ⟨rfl, Below.refl _ _⟩
  · cases h1 : inB n 1 8
    · rw [gapT_no (by rw [hv, h1]; rfl)]
      have Hv := Lib.hid hv
      clear hv
      go_enter Try.func39, Try.ntmps39
      go_wp2_with (first | (go_at_call 16; refine (iVT_is _ _ _ _ _ hr Hv.out).mono ?_; rintro e w' ⟨rfl, rfl⟩) | (go_at_call 54; refine (vLifts_any _ _).mono ?_; rintro e w' ⟨rfl, rfl⟩))
      go_ret
      exact ⟨rfl, Below.refl _ _⟩
    · have hn := inB_t h1
      obtain ⟨m, rfl⟩ := Int.eq_ofNat_of_zero_le (show 0 ≤ n by omega)
      rw [gapT_ok (by rw [hv, h1]; rfl)]
      have ht := timesB_t hv
      have hl := ht.len
      have HT := Lib.hid ht
      have Hv := Lib.hid hv
      clear hv ht
      go_enter Try.func39, Try.ntmps39
      go_wp2_with (first | (go_at_call 16; refine (iVT_is _ _ _ _ _ hr Hv.out).mono ?_; rintro e w' ⟨rfl, rfl⟩) | (go_at_call 54; refine (vLifts_any _ _).mono ?_; rintro e w' ⟨rfl, rfl⟩))
      go_loopw [7] (fun i wr => ∃ r : Nat, r ≤ 60 ∧ i = .int .i64 r ∧ lastDn (okG zs m by_) 60 = lastDn (okG zs m by_) r ∧ Below w.heap.size w wr) (fun i _ => (intOf i).toNat)
      case atStart => exact ⟨60, by omega, rfl, rfl, Below.refl _ _⟩
      case round =>
        obtain ⟨r, hr60, rfl, hf, hbel⟩ := hrel
        have HF := Lib.hid hf
        clear hf
        by_cases hlt : 1 ≤ r
        · obtain ⟨s, rfl⟩ : ∃ s, r = s + 1 := ⟨r - 1, by omega⟩
          have hlt2 : (1 : Int) ≤ ((s + 1 : Nat) : Int) := by omega
          have cW := iLift_any zs A c wr (hr.up hbel) ((s + 1 : Nat) : Int) m
          rw [liftT_ok (lv_mk HT.out (by omega) hn)] at cW
          generalize hsr : s + 1 = r at *
          go_wp2_with fail
          refine cW.mono ?_
          rintro e w2 ⟨A2, c2, rfl, o2, b2⟩
          have r2 := Rd.own o2
          rw [liftF_len] at o2 ⊢
          have hbel2 := hbel.trans (b2.mono hbel.size)
          clear o2 b2 hbel cW
          go_wp2_with fail
          refine (noneOver_any _ _ (liftF_len zs r m) (by omega) _ _ _ _ r2 by_).mono ?_
          rintro e w' ⟨rfl, rfl⟩
          cases hq : okG zs m by_ r
          · have hq2 : underB (liftF zs r m) by_ = false := hq
            have HE : Hid (lastDn (okG zs m by_) 60 = lastDn (okG zs m by_) s) := Lib.hid (by rw [HF.out, ← hsr, lastDn, hsr, hq]; rfl)
            have HSR := Lib.hid hsr
            clear hq r2 hsr
            go_wp2
            go_roundw
            case rel => exact ⟨s, by have := HSR.out; omega, by have := HSR.out; first | go_num | (congr 1; omega), HE.out, hbel2⟩
            case measure => have := HSR.out; simp [intOf]; omega
          · have hq2 : underB (liftF zs r m) by_ = true := hq
            have HE : Hid (lastDn (okG zs m by_) 60 = (r : Int)) := Lib.hid (by rw [HF.out, ← hsr, lastDn, hsr, hq]; rfl)
            clear hq r2
            go_wp2
            go_ret
            exact ⟨ret_int HE.out.symm, hbel2⟩
        · obtain rfl : r = 0 := by omega
          have HE : Hid (lastDn (okG zs m by_) 60 = -1) := Lib.hid (by rw [HF.out]; rfl)
          go_wp2
          go_ret
          exact ⟨ret_int HE.out.symm, hbel⟩

end Go.Proofs.Ytcjcdlhmhhbkgaa

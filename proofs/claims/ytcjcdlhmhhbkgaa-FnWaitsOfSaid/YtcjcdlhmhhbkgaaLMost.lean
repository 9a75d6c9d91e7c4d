/- Contracts of chapter 4: WaitingAt and MostWaiting. -/
import Derived.Test.YtcjcdlhmhhbkgaaLWait
namespace Go.Proofs.Ytcjcdlhmhhbkgaa
open Go.RowKit
set_option linter.unusedVariables false
set_option linter.unusedSimpArgs false
def waitT (zs : List Int) (g n t : Int) : Int := if lvB zs g n then wc (el zs) (la zs g n.toNat) t zs.length else -1
def mostT (zs : List Int) (g n : Int) : Int := if lvB zs g n then mostF zs g n.toNat zs.length else -1
theorem waitT_no {zs : List Int} {g n t : Int} (h : lvB zs g n = false) : waitT zs g n t = -1 := by unfold waitT; rw [h]; rfl
theorem waitT_ok {zs : List Int} {g t : Int} {n : Nat} (h : lvB zs g n = true) : waitT zs g n t = wc (el zs) (la zs g n) t zs.length := by unfold waitT; rw [h]; rfl
theorem mostT_no {zs : List Int} {g n : Int} (h : lvB zs g n = false) : mostT zs g n = -1 := by unfold mostT; rw [h]; rfl
theorem mostT_ok {zs : List Int} {g : Int} {n : Nat} (h : lvB zs g n = true) : mostT zs g n = mostF zs g n zs.length := by unfold mostT; rw [h]; rfl
theorem wc_lift (zs : List Int) (g : Int) (m : Nat) (t : Int) : wc (el zs) (el (liftF zs g m)) t zs.length = wc (el zs) (la zs g m) t zs.length :=
  wc_congr (fun _ _ => rfl) (fun i hi => liftF_at hi)
set_option maxHeartbeats 400000 in
theorem iThenL_any (zs : List Int) (g : Int) (m : Nat) (hl : zs.length ≤ 40) (A A' : Option Addr) (c c' : Nat) (w : World) (B : Nat) (hr : Rd w B A (ints zs)) (hr' : Rd w B A' (ints (liftF zs g m))) (t : Int) :
    Calls Try.prog 56 #[.slice A zs.length c, .slice A' zs.length c', .int .i64 t] w fun e w' => e = .returned (.int .i64 (wc (el zs) (la zs g m) t zs.length)) ∧ w = w' := by
  rw [← wc_lift]
  exact iThen_any zs _ _ rfl (liftF_len zs g m) (by omega) A A' c c' w B hr hr' t
theorem sThenL_any (zs : List Int) (g : Int) (m : Nat) (hl : zs.length ≤ 40) (A A' : Option Addr) (c c' : Nat) (w : World) (B : Nat) (hr : Rd w B A (ints zs)) (hr' : Rd w B A' (ints (liftF zs g m))) (t : Int) :
    Calls Try.prog 57 #[.slice A zs.length c, .slice A' zs.length c', .int .i64 t] w fun e w' => e = .returned (.int .i64 (wc (el zs) (la zs g m) t zs.length)) ∧ w = w' := by
  rw [← wc_lift]
  exact sThen_any zs _ _ rfl (liftF_len zs g m) (by omega) A A' c c' w B hr hr' t
set_option maxHeartbeats 400000 in
theorem iWaitAt_any (zs : List Int) (A : Option Addr) (c : Nat) (w : World) (hr : Rd w w.heap.size A (ints zs)) (g n t : Int) :
    Calls Try.prog 28 #[.slice A zs.length c, .int .i64 g, .int .i64 n, .int .i64 t] w fun e w' => e = .returned (.int .i64 (waitT zs g n t)) ∧ Below w.heap.size w w' := by
  cases hv : lvB zs g n
  · rw [waitT_no hv]
    have Hv := Lib.hid hv
    clear hv
    go_enter Try.func28, Try.ntmps28
    go_wp2_with (go_at_call 51; refine (iLV_is _ _ _ _ _ hr _ _ Hv.out).mono ?_; rintro e w' ⟨rfl, rfl⟩)
    go_ret
    exact ⟨rfl, Below.refl _ _⟩
  · obtain ⟨ht, hg, m, rfl, hm0, hm8⟩ := lvB_t hv
    rw [waitT_ok hv]
    have hl := ht.len
    have HT := Lib.hid ht
    have cL := iLift_is zs A c w hr g m (liftT_ok hv).symm
    have Hv := Lib.hid hv
    clear hv ht
    go_enter Try.func28, Try.ntmps28
    go_wp2_with (go_at_call 51; refine (iLV_is _ _ _ _ _ hr _ _ Hv.out).mono ?_; rintro e w' ⟨rfl, rfl⟩)
    go_wp2_with fail
    refine cL.mono ?_
    rintro e w1 ⟨A1, c1, rfl, o1, b1⟩
    rw [liftF_len] at o1 ⊢
    have r1 := Rd.own o1
    have hr1 := hr.up b1
    clear cL o1
    go_wp2_with fail
    refine (iThenL_any zs g m hl _ _ _ _ _ _ hr1 r1 t).mono ?_
    rintro e w' ⟨rfl, rfl⟩
    go_wp2
    go_ret
    exact ⟨rfl, b1⟩
set_option maxHeartbeats 400000 in
theorem sWaitAt_any (zs : List Int) (A : Option Addr) (c : Nat) (w : World) (hr : Rd w w.heap.size A (ints zs)) (hn : zs.length ≤ 1048576) (g n t : Int) :
    Calls Try.prog 29 #[.slice A zs.length c, .int .i64 g, .int .i64 n, .int .i64 t] w fun e w' => e = .returned (.int .i64 (waitT zs g n t)) ∧ Below w.heap.size w w' := by
  cases hv : timesB zs
  · rw [waitT_no (by unfold lvB; rw [hv]; rfl)]
    have Hv := Lib.hid hv
    clear hv
    go_enter Try.func29, Try.ntmps29
    go_wp2_with (go_at_call 48; refine (sVT_is _ _ _ _ _ hr hn Hv.out).mono ?_; rintro e w' ⟨rfl, nv, rfl⟩)
    go_ret
    exact ⟨rfl, bel_drew (n := nv) (Below.refl _ _)⟩
  · cases hw : (inB g 1 60 && inB n 1 8)
    · rw [waitT_no (by unfold lvB; rw [hv, hw]; rfl)]
      have Hv := Lib.hid hv
      have Hw := Lib.hid hw
      clear hv hw
      go_enter Try.func29, Try.ntmps29
      go_wp2_with (first | (go_at_call 48; refine (sVT_is _ _ _ _ _ hr hn Hv.out).mono ?_; rintro e w' ⟨rfl, nv, rfl⟩) | (go_at_call 52; refine (sLV_is _ _ _ Hw.out).mono ?_; rintro e w' ⟨rfl, rfl⟩))
      go_ret
      exact ⟨rfl, bel_drew (n := nv) (Below.refl _ _)⟩
    · obtain ⟨ht, hg, m, rfl, hm0, hm8⟩ := lvB_t (zs := zs) (g := g) (n := n) (by unfold lvB; rw [hv, hw]; rfl)
      rw [waitT_ok (by unfold lvB; rw [hv, hw]; rfl)]
      have hl := ht.len
      have HT := Lib.hid ht
      have Hv := Lib.hid hv
      have Hw := Lib.hid hw
      clear hv hw ht
      go_enter Try.func29, Try.ntmps29
      go_wp2_with (first | (go_at_call 48; refine (sVT_is _ _ _ _ _ hr hn Hv.out).mono ?_; rintro e w' ⟨rfl, nv, rfl⟩) | (go_at_call 52; refine (sLV_is _ _ _ Hw.out).mono ?_; rintro e w' ⟨rfl, rfl⟩))
      go_wp2_with fail
      refine (lifted_any _ _ _ _ (hr.drewN nv) _ _ HT.out hg hm0 hm8).mono ?_
      rintro e w1 ⟨A1, c1, rfl, o1, b1⟩
      rw [liftF_len] at o1 ⊢
      have r1 := Rd.own o1
      have hr1 := (hr.drewN nv).up b1
      clear o1
      go_wp2_with fail
      refine (sThenL_any zs g m hl _ _ _ _ _ _ hr1 r1 t).mono ?_
      rintro e w' ⟨rfl, rfl⟩
      go_wp2
      go_ret
      exact ⟨rfl, bel_drew b1⟩
set_option maxHeartbeats 800000 in
theorem iMost_any (zs : List Int) (A : Option Addr) (c : Nat) (w : World) (hr : Rd w w.heap.size A (ints zs)) (g n : Int) :
    Calls Try.prog 33 #[.slice A zs.length c, .int .i64 g, .int .i64 n] w fun e w' => e = .returned (.int .i64 (mostT zs g n)) ∧ Below w.heap.size w w' := by
  cases hv : lvB zs g n
  · rw [mostT_no hv]
    have Hv := Lib.hid hv
    clear hv
    go_enter Try.func33, Try.ntmps33
    go_wp2_with (go_at_call 51; refine (iLV_is _ _ _ _ _ hr _ _ Hv.out).mono ?_; rintro e w' ⟨rfl, rfl⟩)
    go_ret
    exact ⟨rfl, Below.refl _ _⟩
  · obtain ⟨ht, hg, m, rfl, hm0, hm8⟩ := lvB_t hv
    rw [mostT_ok hv]
    have hl := ht.len
    have HT := Lib.hid ht
    have cL := iLift_is zs A c w hr g m (liftT_ok hv).symm
    have Hv := Lib.hid hv
    clear hv ht
    go_enter Try.func33, Try.ntmps33
    go_wp2_with (go_at_call 51; refine (iLV_is _ _ _ _ _ hr _ _ Hv.out).mono ?_; rintro e w' ⟨rfl, rfl⟩)
    go_wp2_with fail
    refine cL.mono ?_
    rintro e w1 ⟨A1, c1, rfl, o1, b1⟩
    rw [liftF_len] at o1 ⊢
    have r1 := Rd.own o1
    have hr1 := hr.up b1
    clear cL o1
    go_wp2
    go_loop [8, 23] (fun v i => ∃ k : Nat, k ≤ zs.length ∧ i = .int .i64 k ∧ v = .int .i64 (mostF zs g m k)) (fun _ i => zs.length - (intOf i).toNat)
    case atStart => exact ⟨0, Nat.zero_le _, rfl, rfl⟩
    case round =>
      obtain ⟨k, hk, rfl, rfl⟩ := hrel
      have hb := mostF_bd zs g m k
      by_cases hlt : k < zs.length
      · obtain ⟨b, off, rfl, hb0, hc⟩ := hr1.el_ hlt
        have HS := Lib.hid (mostF_succ zs g m k)
        have hw := wc_bd (el zs) (la zs g m) (el zs k) zs.length
        by_cases h1 : mostF zs g m k < wc (el zs) (la zs g m) (el zs k) zs.length
        · have e : mostF zs g m (k + 1) = wc (el zs) (la zs g m) (el zs k) zs.length := by rw [HS.out, if_pos h1]
          have HE := Lib.hid e
          clear e
          go_wp2_with (go_at_call 56; refine (iThenL_any zs g m hl _ _ _ _ _ _ hr1 r1 _).mono ?_; rintro e w' ⟨rfl, rfl⟩)
          go_round
          case rel => exact ⟨k + 1, by omega, by go_num, by rw [HE.out]⟩
          case measure => simp [intOf]; omega
        · have e : mostF zs g m (k + 1) = mostF zs g m k := by rw [HS.out, if_neg h1]
          have HE := Lib.hid e
          clear e
          go_wp2_with (go_at_call 56; refine (iThenL_any zs g m hl _ _ _ _ _ _ hr1 r1 _).mono ?_; rintro e w' ⟨rfl, rfl⟩)
          go_round
          case rel => exact ⟨k + 1, by omega, by go_num, by rw [HE.out]⟩
          case measure => simp [intOf]; omega
      · obtain rfl : k = zs.length := by omega
        go_wp2
        go_ret
        exact ⟨rfl, b1⟩
set_option maxHeartbeats 800000 in
theorem sMost_any (zs : List Int) (A : Option Addr) (c : Nat) (w : World) (hr : Rd w w.heap.size A (ints zs)) (hn : zs.length ≤ 1048576) (g n : Int) :
    Calls Try.prog 34 #[.slice A zs.length c, .int .i64 g, .int .i64 n] w fun e w' => e = .returned (.int .i64 (mostT zs g n)) ∧ Below w.heap.size w w' := by
  cases hv : timesB zs
  · rw [mostT_no (by unfold lvB; rw [hv]; rfl)]
    have Hv := Lib.hid hv
    clear hv
    go_enter Try.func34, Try.ntmps34
    go_wp2_with (go_at_call 48; refine (sVT_is _ _ _ _ _ hr hn Hv.out).mono ?_; rintro e w' ⟨rfl, nv, rfl⟩)
    go_ret
    exact ⟨rfl, bel_drew (n := nv) (Below.refl _ _)⟩
  · cases hw : (inB g 1 60 && inB n 1 8)
    · rw [mostT_no (by unfold lvB; rw [hv, hw]; rfl)]
      have Hv := Lib.hid hv
      have Hw := Lib.hid hw
      clear hv hw
      go_enter Try.func34, Try.ntmps34
      go_wp2_with (first | (go_at_call 48; refine (sVT_is _ _ _ _ _ hr hn Hv.out).mono ?_; rintro e w' ⟨rfl, nv, rfl⟩) | (go_at_call 52; refine (sLV_is _ _ _ Hw.out).mono ?_; rintro e w' ⟨rfl, rfl⟩))
      go_ret
      exact ⟨rfl, bel_drew (n := nv) (Below.refl _ _)⟩
    · obtain ⟨ht, hg, m, rfl, hm0, hm8⟩ := lvB_t (zs := zs) (g := g) (n := n) (by unfold lvB; rw [hv, hw]; rfl)
      rw [mostT_ok (by unfold lvB; rw [hv, hw]; rfl)]
      have hl := ht.len
      have HT := Lib.hid ht
      have Hv := Lib.hid hv
      have Hw := Lib.hid hw
      clear hv hw ht
      go_enter Try.func34, Try.ntmps34
      go_wp2_with (first | (go_at_call 48; refine (sVT_is _ _ _ _ _ hr hn Hv.out).mono ?_; rintro e w' ⟨rfl, nv, rfl⟩) | (go_at_call 52; refine (sLV_is _ _ _ Hw.out).mono ?_; rintro e w' ⟨rfl, rfl⟩))
      go_wp2_with fail
      refine (lifted_any _ _ _ _ (hr.drewN nv) _ _ HT.out hg hm0 hm8).mono ?_
      rintro e w1 ⟨A1, c1, rfl, o1, b1⟩
      rw [liftF_len] at o1 ⊢
      have r1 := Rd.own o1
      have hr1 := (hr.drewN nv).up b1
      clear o1
      go_wp2
      go_loop [7, 9] (fun v i => ∃ k : Nat, k ≤ zs.length ∧ i = .int .i64 k ∧ v = .int .i64 (mostF zs g m k)) (fun _ i => zs.length - (intOf i).toNat)
      case atStart => exact ⟨0, Nat.zero_le _, rfl, rfl⟩
      case round =>
        obtain ⟨k, hk, rfl, rfl⟩ := hrel
        have hb := mostF_bd zs g m k
        by_cases hlt : k < zs.length
        · obtain ⟨b, off, rfl, hb0, hc⟩ := hr1.el_ hlt
          have HS := Lib.hid (mostF_succ zs g m k)
          have hw := wc_bd (el zs) (la zs g m) (el zs k) zs.length
          by_cases h1 : mostF zs g m k < wc (el zs) (la zs g m) (el zs k) zs.length
          · have e : mostF zs g m (k + 1) = wc (el zs) (la zs g m) (el zs k) zs.length := by rw [HS.out, if_pos h1]
            have HE := Lib.hid e
            clear e
            go_wp2_with (go_at_call 57; refine (sThenL_any zs g m hl _ _ _ _ _ _ hr1 r1 _).mono ?_; rintro e w' ⟨rfl, rfl⟩)
            go_round
            case rel => exact ⟨k + 1, by omega, by go_num, by rw [HE.out]⟩
            case measure => simp [intOf]; omega
          · have e : mostF zs g m (k + 1) = mostF zs g m k := by rw [HS.out, if_neg h1]
            have HE := Lib.hid e
            clear e
            go_wp2_with (go_at_call 57; refine (sThenL_any zs g m hl _ _ _ _ _ _ hr1 r1 _).mono ?_; rintro e w' ⟨rfl, rfl⟩)
            go_round
            case rel => exact ⟨k + 1, by omega, by go_num, by rw [HE.out]⟩
            case measure => simp [intOf]; omega
        · obtain rfl : k = zs.length := by omega
          go_wp2
          go_ret
          exact ⟨rfl, bel_drew b1⟩

end Go.Proofs.Ytcjcdlhmhhbkgaa

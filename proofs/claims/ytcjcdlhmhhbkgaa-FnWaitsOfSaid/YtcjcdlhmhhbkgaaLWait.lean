/- Contracts of chapter 4: how long cakes wait, how many wait at a time, and the most that wait together. -/
import Derived.Test.YtcjcdlhmhhbkgaaLLift
namespace Go.Proofs.Ytcjcdlhmhhbkgaa
open Go.RowKit
set_option linter.unusedVariables false
set_option linter.unusedSimpArgs false
theorem below_drew {B : Nat} {a w : World} (h : Below B a w) : Below B a w.drew := ⟨h.os, h.tape, h.output, h.size, h.block⟩
set_option maxHeartbeats 1000000 in
theorem iWaits_any (zs : List Int) (A : Option Addr) (c : Nat) (w : World) (hr : Rd w w.heap.size A (ints zs)) (g n : Int) :
    Calls Try.prog 25 #[.slice A zs.length c, .int .i64 g, .int .i64 n] w (OutI (waitsT zs g n) w) := by
  cases hv : lvB zs g n
  · rw [waitsT_no hv]
    have Hv := Lib.hid hv
    clear hv
    go_enter Try.func25, Try.ntmps25
    go_wp2_with (go_at_call 51; refine (iLV_is _ _ _ _ _ hr _ _ Hv.out).mono ?_; rintro e w' ⟨rfl, rfl⟩)
    go_ret
    exact out_nil w
  · obtain ⟨ht, hg, m, rfl, hm0, hm8⟩ := lvB_t hv
    rw [waitsT_ok hv]
    have hl := ht.len
    have HT := Lib.hid ht
    have cL := iLift_is zs A c w hr g m (liftT_ok hv).symm
    have Hv := Lib.hid hv
    clear hv ht
    go_enter Try.func25, Try.ntmps25
    go_wp2_with (go_at_call 51; refine (iLV_is _ _ _ _ _ hr _ _ Hv.out).mono ?_; rintro e w' ⟨rfl, rfl⟩)
    go_wp2_with fail
    refine cL.mono ?_
    rintro e w1 ⟨A1, c1, rfl, o1, b1⟩
    rw [liftF_len] at o1 ⊢
    have o1' : w1.ownsRow w.heap.size 3 1 (.slice A1 zs.length c1) zs.length (ints (mixL (fun i => la zs g m i - el zs i) (la zs g m) zs.length 0)) := by rw [mixL_zero]; exact o1
    clear o1 cL
    go_wp2
    go_loopw [21] (fun i wr => ∃ k : Nat, k ≤ zs.length ∧ i = .int .i64 k ∧ wr.ownsRow w.heap.size 3 1 (.slice A1 zs.length c1) zs.length (ints (mixL (fun i => la zs g m i - el zs i) (la zs g m) zs.length k)) ∧ Below w.heap.size w wr) (fun i _ => zs.length - (intOf i).toNat)
    case atStart => exact ⟨0, Nat.zero_le _, rfl, o1', b1⟩
    case round =>
      clear o1'
      obtain ⟨k, hk, rfl, hown, hbel⟩ := hrel
      by_cases hlt : k < zs.length
      · obtain ⟨b, off, rfl, hb, hc⟩ := (hr.below hbel).el_ hlt
        obtain ⟨q, rfl, hq0, hql, _, _⟩ := own_some hown (by omega)
        have hz := HT.out.bd k hlt
        have hla := la_bd' HT.out (n := m) (g := g) (i := k) (by omega) (by omega) hlt
        have hfz := own_frozen hown k
        have hcl := own_cell hown (ints_el (zs := mixL (fun i => la zs g m i - el zs i) (la zs g m) zs.length k) (k := k) (by rw [mixL_len]; exact hlt))
        rw [mixL_ge (Nat.le_refl k) hlt] at hcl
        have h1 := own_put hown k (.int .i64 (la zs g m k - el zs k))
        rw [ints_set, mixL_set (f := fun i => la zs g m i - el zs i) hlt] at h1
        have HO := Lib.hid (And.intro h1 (hbel.setCell (p := ⟨q, k, none⟩) (by exact hq0) (.int .i64 (la zs g m k - el zs k))))
        clear h1 hown hbel
        go_wp2
        go_roundw
        case rel => exact ⟨k + 1, by omega, by go_num, HO.out.1, HO.out.2⟩
        case measure => simp [intOf]; omega
      · obtain rfl : k = zs.length := by omega
        have R := out_mk (l := waitsF zs g m) (n := zs.length) (waitsF_len zs g m) (by rw [mixL_all] at hown; exact hown) hbel
        clear hown hbel
        go_wp2
        go_ret
        exact R
set_option maxHeartbeats 1000000 in
theorem sWaits_any (zs : List Int) (A : Option Addr) (c : Nat) (w : World) (hr : Rd w w.heap.size A (ints zs)) (hn : zs.length ≤ 1048576) (g n : Int) :
    Calls Try.prog 26 #[.slice A zs.length c, .int .i64 g, .int .i64 n] w (OutI (waitsT zs g n) w) := by
  cases hv : timesB zs
  · rw [waitsT_no (by unfold lvB; rw [hv]; rfl)]
    have Hv := Lib.hid hv
    clear hv
    go_enter Try.func26, Try.ntmps26
    go_wp2_with (go_at_call 48; refine (sVT_is _ _ _ _ _ hr hn Hv.out).mono ?_; rintro e w' ⟨rfl, nv, rfl⟩)
    go_ret
    exact out_drew (n := nv) (out_nil _)
  · cases hw : (inB g 1 60 && inB n 1 8)
    · rw [waitsT_no (by unfold lvB; rw [hv, hw]; rfl)]
      have Hv := Lib.hid hv
      have Hw := Lib.hid hw
      clear hv hw
      go_enter Try.func26, Try.ntmps26
      go_wp2_with (first | (go_at_call 48; refine (sVT_is _ _ _ _ _ hr hn Hv.out).mono ?_; rintro e w' ⟨rfl, nv, rfl⟩) | (go_at_call 52; refine (sLV_is _ _ _ Hw.out).mono ?_; rintro e w' ⟨rfl, rfl⟩))
      go_ret
      exact out_drew (n := nv) (out_nil _)
    · obtain ⟨ht, hg, m, rfl, hm0, hm8⟩ := lvB_t (zs := zs) (g := g) (n := n) (by unfold lvB; rw [hv, hw]; rfl)
      rw [waitsT_ok (by unfold lvB; rw [hv, hw]; rfl)]
      have hl := ht.len
      have HT := Lib.hid ht
      have Hv := Lib.hid hv
      have Hw := Lib.hid hw
      clear hv hw ht
      go_enter Try.func26, Try.ntmps26
      go_wp2_with (first | (go_at_call 48; refine (sVT_is _ _ _ _ _ hr hn Hv.out).mono ?_; rintro e w' ⟨rfl, nv, rfl⟩) | (go_at_call 52; refine (sLV_is _ _ _ Hw.out).mono ?_; rintro e w' ⟨rfl, rfl⟩))
      go_wp2_with fail
      refine (lifted_any _ _ _ _ (hr.drewN nv) _ _ HT.out hg hm0 hm8).mono ?_
      rintro e w1 ⟨A1, c1, rfl, o1, b1⟩
      rw [liftF_len] at o1 ⊢
      have o1' : w1.ownsRow w.heap.size 3 1 (.slice A1 zs.length c1) zs.length (ints (mixL (fun i => la zs g m i - el zs i) (la zs g m) zs.length 0)) := by rw [mixL_zero]; exact o1
      have b1' : Below w.heap.size w w1 := bel_drew b1
      clear o1
      go_wp2
      go_loopw [8] (fun i wr => ∃ k : Nat, k ≤ zs.length ∧ i = .int .i64 k ∧ wr.ownsRow w.heap.size 3 1 (.slice A1 zs.length c1) zs.length (ints (mixL (fun i => la zs g m i - el zs i) (la zs g m) zs.length k)) ∧ Below w.heap.size w wr) (fun i _ => zs.length - (intOf i).toNat)
      case atStart => exact ⟨0, Nat.zero_le _, rfl, o1', b1'⟩
      case round =>
        clear o1'
        obtain ⟨k, hk, rfl, hown, hbel⟩ := hrel
        by_cases hlt : k < zs.length
        · obtain ⟨b, off, rfl, hb, hc⟩ := (hr.below hbel).el_ hlt
          obtain ⟨q, rfl, hq0, hql, _, _⟩ := own_some hown (by omega)
          have hz := HT.out.bd k hlt
          have hla := la_bd' HT.out (n := m) (g := g) (i := k) (by omega) (by omega) hlt
          have hfz := own_frozen hown k
          have hcl := own_cell hown (ints_el (zs := mixL (fun i => la zs g m i - el zs i) (la zs g m) zs.length k) (k := k) (by rw [mixL_len]; exact hlt))
          rw [mixL_ge (Nat.le_refl k) hlt] at hcl
          have h1 := own_put hown k (.int .i64 (la zs g m k - el zs k))
          rw [ints_set, mixL_set (f := fun i => la zs g m i - el zs i) hlt] at h1
          have HO := Lib.hid (And.intro h1 (hbel.setCell (p := ⟨q, k, none⟩) (by exact hq0) (.int .i64 (la zs g m k - el zs k))))
          clear h1 hown hbel
          go_wp2
          go_region
          go_wp2
          go_roundw
          case rel => exact ⟨k + 1, by omega, by go_num, HO.out.1, below_drew HO.out.2⟩
          case measure => simp [intOf]; omega
        · obtain rfl : k = zs.length := by omega
          have R := out_mk (l := waitsF zs g m) (n := zs.length) (waitsF_len zs g m) (by rw [mixL_all] at hown; exact hown) hbel
          clear hown hbel
          go_wp2
          go_ret
          exact R
set_option maxHeartbeats 400000 in
theorem iThen_any (zs os : List Int) (n : Nat) (hz : zs.length = n) (ho : os.length = n) (hn : n ≤ 1000) (A A' : Option Addr) (c c' : Nat) (w : World) (B : Nat) (hr : Rd w B A (ints zs)) (hr' : Rd w B A' (ints os)) (t : Int) :
    Calls Try.prog 56 #[.slice A n c, .slice A' n c', .int .i64 t] w fun e w' => e = .returned (.int .i64 (wc (el zs) (el os) t n)) ∧ w = w' := by
  have HZ := Lib.hid hz
  have HO := Lib.hid ho
  clear hz ho
  go_enter Try.func56, Try.ntmps56
  go_wp2
  go_loop [7, 12] (fun v i => ∃ k : Nat, k ≤ n ∧ i = .int .i64 k ∧ v = .int .i64 (wc (el zs) (el os) t k)) (fun _ i => n - (intOf i).toNat)
  case atStart => exact ⟨0, Nat.zero_le _, rfl, rfl⟩
  case round =>
    obtain ⟨k, hk, rfl, rfl⟩ := hrel
    have hb := wc_bd (el zs) (el os) t k
    by_cases hlt : k < n
    · obtain ⟨b, off, rfl, hb0, hc⟩ := hr.el_ (k := k) (by rw [HZ.out]; exact hlt)
      obtain ⟨b', off', rfl, hb1, hc1⟩ := hr'.el_ (k := k) (by rw [HO.out]; exact hlt)
      have HS := Lib.hid (wc_succ (el zs) (el os) t k)
      by_cases h1 : el zs k ≤ t
      · by_cases h2 : t < el os k
        · have e : wc (el zs) (el os) t (k + 1) = wc (el zs) (el os) t k + 1 := by rw [HS.out, if_pos ⟨h1, h2⟩]
          have HE := Lib.hid e
          clear e
          go_wp2
          go_round
          case rel => exact ⟨k + 1, by omega, by go_num, by rw [HE.out]⟩
          case measure => simp [intOf]; omega
        · have e : wc (el zs) (el os) t (k + 1) = wc (el zs) (el os) t k := by rw [HS.out, if_neg (fun h => h2 h.2)]; simp
          have HE := Lib.hid e
          clear e
          go_wp2
          go_round
          case rel => exact ⟨k + 1, by omega, by go_num, by rw [HE.out]⟩
          case measure => simp [intOf]; omega
      · have e : wc (el zs) (el os) t (k + 1) = wc (el zs) (el os) t k := by rw [HS.out, if_neg (fun h => h1 h.1)]; simp
        have HE := Lib.hid e
        clear e
        go_wp2
        go_round
        case rel => exact ⟨k + 1, by omega, by go_num, by rw [HE.out]⟩
        case measure => simp [intOf]; omega
    · obtain rfl : k = n := by omega
      go_wp2
      go_ret
      exact ⟨rfl, rfl⟩
set_option maxHeartbeats 400000 in
theorem sThen_any (zs os : List Int) (n : Nat) (hz : zs.length = n) (ho : os.length = n) (hn : n ≤ 1000) (A A' : Option Addr) (c c' : Nat) (w : World) (B : Nat) (hr : Rd w B A (ints zs)) (hr' : Rd w B A' (ints os)) (t : Int) :
    Calls Try.prog 57 #[.slice A n c, .slice A' n c', .int .i64 t] w fun e w' => e = .returned (.int .i64 (wc (el zs) (el os) t n)) ∧ w = w' := by
  have HZ := Lib.hid hz
  have HO := Lib.hid ho
  clear hz ho
  go_enter Try.func57, Try.ntmps57
  go_wp2
  go_loop [7, 8] (fun v i => ∃ k : Nat, k ≤ n ∧ i = .int .i64 k ∧ v = .int .i64 (wc (el zs) (el os) t k)) (fun _ i => n - (intOf i).toNat)
  case atStart => exact ⟨0, Nat.zero_le _, rfl, rfl⟩
  case round =>
    obtain ⟨k, hk, rfl, rfl⟩ := hrel
    have hb := wc_bd (el zs) (el os) t k
    by_cases hlt : k < n
    · obtain ⟨b, off, rfl, hb0, hc⟩ := hr.el_ (k := k) (by rw [HZ.out]; exact hlt)
      obtain ⟨b', off', rfl, hb1, hc1⟩ := hr'.el_ (k := k) (by rw [HO.out]; exact hlt)
      have HS := Lib.hid (wc_succ (el zs) (el os) t k)
      by_cases h1 : el zs k ≤ t
      · by_cases h2 : t < el os k
        · have e : wc (el zs) (el os) t (k + 1) = wc (el zs) (el os) t k + 1 := by rw [HS.out, if_pos ⟨h1, h2⟩]
          have HE := Lib.hid e
          clear e
          go_wp2
          go_round
          case rel => exact ⟨k + 1, by omega, by go_num, by rw [HE.out]⟩
          case measure => simp [intOf]; omega
        · have e : wc (el zs) (el os) t (k + 1) = wc (el zs) (el os) t k := by rw [HS.out, if_neg (fun h => h2 h.2)]; simp
          have HE := Lib.hid e
          clear e
          go_wp2
          go_round
          case rel => exact ⟨k + 1, by omega, by go_num, by rw [HE.out]⟩
          case measure => simp [intOf]; omega
      · have e : wc (el zs) (el os) t (k + 1) = wc (el zs) (el os) t k := by rw [HS.out, if_neg (fun h => h1 h.1)]; simp
        have HE := Lib.hid e
        clear e
        go_wp2
        go_round
        case rel => exact ⟨k + 1, by omega, by go_num, by rw [HE.out]⟩
        case measure => simp [intOf]; omega
    · obtain rfl : k = n := by omega
      go_wp2
      go_ret
      exact ⟨rfl, rfl⟩
theorem iWaits_is {ts : List Int} (zs : List Int) (A : Option Addr) (c : Nat) (w : World) (hr : Rd w w.heap.size A (ints zs)) (g n : Int) (h : ts = waitsT zs g n) :
    Calls Try.prog 25 #[.slice A zs.length c, .int .i64 g, .int .i64 n] w (OutI ts w) := by rw [h]; exact iWaits_any zs A c w hr g n
theorem sWaits_is {ts : List Int} (zs : List Int) (A : Option Addr) (c : Nat) (w : World) (hr : Rd w w.heap.size A (ints zs)) (hn : zs.length ≤ 1048576) (g n : Int) (h : ts = waitsT zs g n) :
    Calls Try.prog 26 #[.slice A zs.length c, .int .i64 g, .int .i64 n] w (OutI ts w) := by rw [h]; exact sWaits_any zs A c w hr hn g n

end Go.Proofs.Ytcjcdlhmhhbkgaa

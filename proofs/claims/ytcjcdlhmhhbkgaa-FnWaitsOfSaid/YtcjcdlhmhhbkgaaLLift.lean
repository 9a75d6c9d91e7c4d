/- Contracts of chapter 4: the times at which cakes are lifted, and how long they wait. -/
import Derived.Test.YtcjcdlhmhhbkgaaLValid
namespace Go.Proofs.Ytcjcdlhmhhbkgaa
open Go.RowKit
set_option linter.unusedVariables false
set_option linter.unusedSimpArgs false
def liftT (zs : List Int) (g n : Int) : List Int := if lvB zs g n then liftF zs g n.toNat else []
def waitsT (zs : List Int) (g n : Int) : List Int := if lvB zs g n then waitsF zs g n.toNat else []
theorem liftT_no {zs : List Int} {g n : Int} (h : lvB zs g n = false) : liftT zs g n = [] := by unfold liftT; rw [h]; rfl
theorem liftT_ok {zs : List Int} {g : Int} {n : Nat} (h : lvB zs g n = true) : liftT zs g n = liftF zs g n := by unfold liftT; rw [h]; rfl
theorem waitsT_no {zs : List Int} {g n : Int} (h : lvB zs g n = false) : waitsT zs g n = [] := by unfold waitsT; rw [h]; rfl
theorem waitsT_ok {zs : List Int} {g : Int} {n : Nat} (h : lvB zs g n = true) : waitsT zs g n = waitsF zs g n := by unfold waitsT; rw [h]; rfl
theorem liftT_le (zs : List Int) (g n : Int) : (liftT zs g n).length ≤ 40 := by
  unfold liftT
  split
  · next h => rw [liftF_len]; exact (lvB_t h).1.len
  · simp
theorem waitsT_le (zs : List Int) (g n : Int) : (waitsT zs g n).length ≤ 40 := by
  unfold waitsT
  split
  · next h => rw [waitsF_len]; exact (lvB_t h).1.len
  · simp
set_option maxHeartbeats 1000000 in
theorem iLift_any (zs : List Int) (A : Option Addr) (c : Nat) (w : World) (hr : Rd w w.heap.size A (ints zs)) (g n : Int) :
    Calls Try.prog 20 #[.slice A zs.length c, .int .i64 g, .int .i64 n] w (OutI (liftT zs g n) w) := by
  cases hv : lvB zs g n
  · rw [liftT_no hv]
    have Hv := Lib.hid hv
    clear hv
    go_enter Try.func20, Try.ntmps20
    go_wp2_with (go_at_call 51; refine (iLV_is _ _ _ _ _ hr _ _ Hv.out).mono ?_; rintro e w' ⟨rfl, rfl⟩)
    go_ret
    exact out_nil w
  · obtain ⟨ht, hg, m, rfl, hm0, hm8⟩ := lvB_t hv
    rw [liftT_ok hv]
    have hl := ht.len
    have HT := Lib.hid ht
    have Hv := Lib.hid hv
    clear hv ht
    have hmk := run_make_row' (P := Try.prog) 23 3 (.int .i64 0) 8 Try.underlying23 info_int rfl .i64 .i64 zs.length (by omega) (by omega)
    go_enter Try.func20, Try.ntmps20
    go_wp2_with (go_at_call 51; refine (iLV_is _ _ _ _ _ hr _ _ Hv.out).mono ?_; rintro e w' ⟨rfl, rfl⟩)
    go_loopw [20] (fun i wr => ∃ k : Nat, k ≤ zs.length ∧ i = .int .i64 k ∧ wr.ownsRow w.heap.size 3 1 (.slice (some ⟨w.heap.size, 0, none⟩) zs.length zs.length) zs.length (ints (mixL (la zs g m) (fun _ => 0) zs.length k)) ∧ Below w.heap.size w wr) (fun i _ => zs.length - (intOf i).toNat)
    case atStart =>
      refine ⟨0, Nat.zero_le _, rfl, ?_, (Below.refl _ _).alloc (Nat.le_refl _) _⟩
      rw [mixL_zero, zeros_eq]
      have := own_made w (.int .i64 0) zs.length 3 (by unfold maxLen; omega)
      simpa [ints] using this
    case round =>
      obtain ⟨k, hk, rfl, hown, hbel⟩ := hrel
      by_cases hlt : k < zs.length
      · obtain ⟨b, off, rfl, hb, hc⟩ := (hr.below hbel).el_ hlt
        have hfz := own_frozen hown k
        have hz := HT.out.bd k hlt
        have hcl := own_cell hown (ints_el (zs := mixL (la zs g m) (fun _ => 0) zs.length k) (k := k) (by rw [mixL_len]; exact hlt))
        rw [mixL_ge (Nat.le_refl k) hlt] at hcl
        have h1 := own_put hown k (.int .i64 (el zs k))
        have hcl1 := own_cell h1 (k := k) (x := .int .i64 (el zs k)) (by rw [List.getElem?_set_self]; rw [ints_length, mixL_len]; exact hlt)
        have hfz1 := own_frozen h1 k
        have hb1 : Below w.heap.size w (wr.setCell ⟨w.heap.size, k, none⟩ (.int .i64 (el zs k))) := hbel.setCell (by simp) _
        by_cases hge : m ≤ k
        · have hbd := la_bd' HT.out (n := m) (g := g) (i := k - m) (by omega) (by omega) (by omega)
          have hc2 := own_cell h1 (k := k - m) (x := .int .i64 (la zs g m (k - m))) (by
            rw [List.getElem?_set_ne (by omega), ints_el (by rw [mixL_len]; omega), mixL_lt (by omega) (by omega)])
          have i1 : (k : Int) - (m : Int) = ((k - m : Nat) : Int) := by omega
          have HLA := Lib.hid (la_hi (zs := zs) (g := g) (n := m) (i := k) (by omega) hge)
          have hgt : (m : Int) ≤ (k : Int) := by omega
          by_cases hq : el zs k < la zs g m (k - m) + g
          · have e : la zs g m k = la zs g m (k - m) + g := by rw [HLA.out, if_pos hq]
            have h2 := own_put h1 k (.int .i64 (la zs g m (k - m) + g))
            rw [List.set_set, ints_set, ← e, mixL_set hlt] at h2
            have HE := Lib.hid e
            have HO := Lib.hid (And.intro h2 (hb1.setCell (p := ⟨w.heap.size, k, none⟩) (by simp) (.int .i64 (la zs g m k))))
            rw [e] at HO
            clear h2 h1 hb1 hbel hown e
            go_wp2
            go_roundw
            case rel => exact ⟨k + 1, by omega, by go_num, HO.out.1, HO.out.2⟩
            case measure => simp [intOf]; omega
          · have e : la zs g m k = el zs k := by rw [HLA.out, if_neg hq]
            rw [ints_set, ← e, mixL_set hlt] at h1
            rw [← e] at hb1
            rw [e] at h1 hb1
            have HO := Lib.hid (And.intro h1 hb1)
            clear h1 hb1 hbel hown e
            go_wp2
            go_roundw
            case rel => exact ⟨k + 1, by omega, by go_num, HO.out.1, HO.out.2⟩
            case measure => simp [intOf]; omega
        · have e : la zs g m k = el zs k := la_lo (by omega)
          have hgt : (k : Int) < (m : Int) := by omega
          rw [ints_set, ← e, mixL_set hlt] at h1
          rw [← e] at hb1
          rw [e] at h1 hb1
          have HO := Lib.hid (And.intro h1 hb1)
          clear h1 hb1 hbel hown e
          go_wp2
          go_roundw
          case rel => exact ⟨k + 1, by omega, by go_num, HO.out.1, HO.out.2⟩
          case measure => simp [intOf]; omega
      · obtain rfl : k = zs.length := by omega
        have R := out_mk (l := liftF zs g m) (n := zs.length) (liftF_len zs g m) (by rw [mixL_all] at hown; exact hown) hbel
        clear hown hbel
        go_wp2
        go_ret
        exact R
set_option maxHeartbeats 1000000 in
theorem lifted_any (zs : List Int) (A : Option Addr) (c : Nat) (w : World) (hr : Rd w w.heap.size A (ints zs)) (g : Int) (m : Nat) (ht : TimesP zs) (hg : 1 ≤ g ∧ g ≤ 60) (hm0 : 1 ≤ m) (hm8 : m ≤ 8) :
    Calls Try.prog 53 #[.slice A zs.length c, .int .i64 g, .int .i64 m] w (OutI (liftF zs g m) w) := by
  obtain ⟨i0, hi, hz0, hz1, hz2⟩ := info_parts info_int
  have hl := ht.len
  have HT := Lib.hid ht
  clear ht
  go_enter Try.func53, Try.ntmps53
  go_wp2
  go_loopw [7, 8] (fun v i wr => ∃ k : Nat, k ≤ zs.length ∧ i = .int .i64 k ∧ wr.ownsRow w.heap.size 3 1 v k (ints ((liftF zs g m).take k)) ∧ Below w.heap.size w wr) (fun _ i _ => zs.length - (intOf i).toNat)
  case atStart => exact ⟨0, Nat.zero_le _, rfl, own_empty _ _, (Below.refl _ _).alloc (Nat.le_refl _) _⟩
  case round =>
    obtain ⟨k, hk, rfl, hown, hbel⟩ := hrel
    by_cases hlt : k < zs.length
    · obtain ⟨b, off, rfl, hb, hc⟩ := (hr.below hbel).el_ hlt
      have hz := HT.out.bd k hlt
      have hsz := hbel.size
      have HN : Hid ((liftF zs g m).take (k + 1) = (liftF zs g m).take k ++ [la zs g m k]) := Lib.hid (by rw [take_el (by rw [liftF_len]; exact hlt), liftF_at hlt])
      have HFIN : Hid (∀ (v' : Value) (w1 : World), w1.ownsRow w.heap.size 3 1 v' (k + 1) (ints ((liftF zs g m).take k) ++ [.int .i64 (la zs g m k)]) → w1.ownsRow w.heap.size 3 1 v' (k + 1) (ints ((liftF zs g m).take (k + 1)))) := Lib.hid fun v' w1 h => by
        rw [HN.out]; simpa [ints] using h
      by_cases hge : m ≤ k
      · have hbd := la_bd' HT.out (n := m) (g := g) (i := k - m) (by omega) (by omega) (by omega)
        obtain ⟨A', c', rfl⟩ := own_form hown
        obtain ⟨g1, rfl, hg1, hgl, _, _⟩ := own_some hown (by omega)
        have hc2 := own_cell hown (k := k - m) (x := .int .i64 (la zs g m (k - m))) (by
          rw [ints_el (by rw [List.length_take, liftF_len]; omega), el_take (by omega), liftF_at (by omega)])
        have i1 : (k : Int) - (m : Int) = ((k - m : Nat) : Int) := by omega
        have hgt : (m : Int) ≤ (k : Int) := by omega
        obtain ⟨t, ht⟩ : ∃ t, t = la zs g m k := ⟨_, rfl⟩
        rw [← ht] at HFIN
        have hla : t = if el zs k < la zs g m (k - m) + g then la zs g m (k - m) + g else el zs k := by rw [ht]; exact la_hi (by omega) hge
        have HLA := Lib.hid hla
        clear ht hla
        by_cases hq : el zs k < la zs g m (k - m) + g
        · obtain rfl : t = la zs g m (k - m) + g := by rw [HLA.out, if_pos hq]
          go_wp2_with (at_builtin; refine wpList_append_own _ rfl _ _ 23 rfl (w.heap.size) 3 i0 (.int .i64 0) 1 8 Try.underlying23 hi hz0 hz1 hz2 rfl (by decide) _ _ _ rfl (hown.alloc _) ⟨wr.heap.size, 0, none⟩ 1 1 [.int .i64 (la zs g m (k - m) + g)] rfl rfl ?c1 ?c2 ?c3 ?c4 ?c5 ?_)
          first | (case c1 => first | exact one_new _ _ _ _ rfl | exact one_new _ _ _ _ (by simp)) | skip
          case c2 => first | rfl | (intro u hu; simp at hu; subst hu; rfl)
          case c3 => unfold maxLen; omega
          case c4 => omega
          case c5 => have := hbel.size; simp; omega
          · intro v' w1 hown' hgrow _
            have R := HFIN.out v' w1 hown'
            have hb1 : Below w.heap.size w w1 := (hbel.alloc hbel.size _).grown hgrow (by simp; omega) (own_block hown)
            clear hown' hgrow hown hbel HFIN
            go_wp2
            go_roundw
            case rel => exact ⟨k + 1, by omega, by go_num, R, hb1⟩
            case measure => simp [intOf]; omega
        · obtain rfl : t = el zs k := by rw [HLA.out, if_neg hq]
          go_wp2_with (at_builtin; refine wpList_append_own _ rfl _ _ 23 rfl (w.heap.size) 3 i0 (.int .i64 0) 1 8 Try.underlying23 hi hz0 hz1 hz2 rfl (by decide) _ _ _ rfl (hown.alloc _) ⟨wr.heap.size, 0, none⟩ 1 1 [.int .i64 (el zs k)] rfl rfl ?c1x2 ?c2x2 ?c3x2 ?c4x2 ?c5x2 ?_)
          first | (case c1x2 => first | exact one_new _ _ _ _ rfl | exact one_new _ _ _ _ (by simp)) | skip
          case c2x2 => first | rfl | (intro u hu; simp at hu; subst hu; rfl)
          case c3x2 => unfold maxLen; omega
          case c4x2 => omega
          case c5x2 => have := hbel.size; simp; omega
          · intro v' w1 hown' hgrow _
            have R := HFIN.out v' w1 hown'
            have hb1 : Below w.heap.size w w1 := (hbel.alloc hbel.size _).grown hgrow (by simp; omega) (own_block hown)
            clear hown' hgrow hown hbel HFIN
            go_wp2
            go_roundw
            case rel => exact ⟨k + 1, by omega, by go_num, R, hb1⟩
            case measure => simp [intOf]; omega
      · have e : la zs g m k = el zs k := la_lo (by omega)
        rw [e] at HFIN
        have hgt : (k : Int) < (m : Int) := by omega
        go_wp2_with (at_builtin; refine wpList_append_own _ rfl _ _ 23 rfl (w.heap.size) 3 i0 (.int .i64 0) 1 8 Try.underlying23 hi hz0 hz1 hz2 rfl (by decide) _ _ _ rfl (hown.alloc _) ⟨wr.heap.size, 0, none⟩ 1 1 [.int .i64 (el zs k)] rfl rfl ?c1x3 ?c2x3 ?c3x3 ?c4x3 ?c5x3 ?_)
        first | (case c1x3 => first | exact one_new _ _ _ _ rfl | exact one_new _ _ _ _ (by simp)) | skip
        case c2x3 => first | rfl | (intro u hu; simp at hu; subst hu; rfl)
        case c3x3 => unfold maxLen; omega
        case c4x3 => omega
        case c5x3 => have := hbel.size; simp; omega
        · intro v' w1 hown' hgrow _
          have R := HFIN.out v' w1 hown'
          have hb1 : Below w.heap.size w w1 := (hbel.alloc hbel.size _).grown hgrow (by simp; omega) (own_block hown)
          clear hown' hgrow hown hbel HFIN
          go_wp2
          go_roundw
          case rel => exact ⟨k + 1, by omega, by go_num, R, hb1⟩
          case measure => simp [intOf]; omega
    · obtain rfl : k = zs.length := by omega
      obtain ⟨A', c', rfl⟩ := own_form hown
      have R := out_mk (l := liftF zs g m) (n := zs.length) (liftF_len zs g m) (by rw [List.take_of_length_le (by rw [liftF_len]; omega)] at hown; exact hown) hbel
      clear hown hbel
      go_wp2
      go_ret
      exact R
set_option maxHeartbeats 400000 in
theorem sLift_any (zs : List Int) (A : Option Addr) (c : Nat) (w : World) (hr : Rd w w.heap.size A (ints zs)) (hn : zs.length ≤ 1048576) (g n : Int) :
    Calls Try.prog 22 #[.slice A zs.length c, .int .i64 g, .int .i64 n] w (OutI (liftT zs g n) w) := by
  cases hv : timesB zs
  · rw [liftT_no (by unfold lvB; rw [hv]; rfl)]
    have Hv := Lib.hid hv
    clear hv
    go_enter Try.func22, Try.ntmps22
    go_wp2_with (go_at_call 48; refine (sVT_is _ _ _ _ _ hr hn Hv.out).mono ?_; rintro e w' ⟨rfl, nv, rfl⟩)
    go_ret
    exact out_drew (n := nv) (out_nil _)
  · cases hw : (inB g 1 60 && inB n 1 8)
    · rw [liftT_no (by unfold lvB; rw [hv, hw]; rfl)]
      have Hv := Lib.hid hv
      have Hw := Lib.hid hw
      clear hv hw
      go_enter Try.func22, Try.ntmps22
      go_wp2_with (first | (go_at_call 48; refine (sVT_is _ _ _ _ _ hr hn Hv.out).mono ?_; rintro e w' ⟨rfl, nv, rfl⟩) | (go_at_call 52; refine (sLV_is _ _ _ Hw.out).mono ?_; rintro e w' ⟨rfl, rfl⟩))
      go_ret
      exact out_drew (n := nv) (out_nil _)
    · obtain ⟨ht, hg, m, rfl, hm0, hm8⟩ := lvB_t (zs := zs) (g := g) (n := n) (by unfold lvB; rw [hv, hw]; rfl)
      rw [liftT_ok (by unfold lvB; rw [hv, hw]; rfl)]
      have HT := Lib.hid ht
      have Hv := Lib.hid hv
      have Hw := Lib.hid hw
      clear hv hw ht
      go_enter Try.func22, Try.ntmps22
      go_wp2_with (first | (go_at_call 48; refine (sVT_is _ _ _ _ _ hr hn Hv.out).mono ?_; rintro e w' ⟨rfl, nv, rfl⟩) | (go_at_call 52; refine (sLV_is _ _ _ Hw.out).mono ?_; rintro e w' ⟨rfl, rfl⟩))
      go_wp2_with fail
      refine (lifted_any _ _ _ _ (hr.drewN nv) _ _ HT.out hg hm0 hm8).mono ?_
      rintro e w1 ⟨A1, c1, rfl, o1, b1⟩
      have R : OutI (liftF zs g m) w (.returned (.slice A1 (liftF zs g m).length c1)) w1 := out_drew ⟨A1, c1, rfl, o1, b1⟩
      clear o1 b1
      go_wp2
      go_ret
      exact R
theorem iLift_is {ts : List Int} (zs : List Int) (A : Option Addr) (c : Nat) (w : World) (hr : Rd w w.heap.size A (ints zs)) (g n : Int) (h : ts = liftT zs g n) :
    Calls Try.prog 20 #[.slice A zs.length c, .int .i64 g, .int .i64 n] w (OutI ts w) := by rw [h]; exact iLift_any zs A c w hr g n
theorem sLift_is {ts : List Int} (zs : List Int) (A : Option Addr) (c : Nat) (w : World) (hr : Rd w w.heap.size A (ints zs)) (hn : zs.length ≤ 1048576) (g n : Int) (h : ts = liftT zs g n) :
    Calls Try.prog 22 #[.slice A zs.length c, .int .i64 g, .int .i64 n] w (OutI ts w) := by rw [h]; exact sLift_any zs A c w hr hn g n

end Go.Proofs.Ytcjcdlhmhhbkgaa

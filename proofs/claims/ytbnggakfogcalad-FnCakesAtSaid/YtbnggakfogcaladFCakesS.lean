/- Contracts of chapter 3's model: the cakes of a grid; both functions for any arguments. -/
import Derived.Deep.RegionWith
import Derived.Test.YtbnggakfogcaladFCakes
namespace Go.Proofs.Ytbnggakfogcalad
open Go.RowKit
set_option linter.unusedVariables false
set_option linter.unusedSimpArgs false
set_option maxRecDepth 100000 in
set_option maxHeartbeats 2000000 in
theorem sCakesN_any (ff : List (List Bool)) (A : Option Addr) (c : Nat) (w : World) (hg : RdF w w.heap.size A ff) (cw ch dx dy : Nat) (hv : fieldB ff = true) (hs : sidesB cw ch = true) (hdx : dx < cw) (hdy : dy < ch) :
    Calls Try.prog 100 #[.slice A ff.length c, .int .i64 (cw : Nat), .int .i64 (ch : Nat), .int .i64 (dx : Nat), .int .i64 (dy : Nat)] w (OutC (gridF ff cw ch dx dy) w) := by
  obtain ⟨i0, hi, hz0, hz1, hz2⟩ := info_parts info_cake
  have hf : Fld w w.heap.size A ff := ⟨hv, hg⟩
  have hl := field_len hv
  have hwd := field_wide hv
  have hs2 := sidesB_t hs
  clear hv hs
  obtain ⟨⟨s1, s2⟩, ⟨s3, s4⟩⟩ := hs2
  obtain ⟨b, off, A0, c0, rfl, hb, h0⟩ := hf.row0
  go_enter Try.func100, Try.ntmps100
  go_wp2
  go_loopw [11, 12] (fun v i wr => ∃ y : Nat, y ≤ 13 ∧ y % ch = dy ∧ i = .int .i64 y ∧ GS w wr v (gridG ff cw ch dx dy y)) (fun _ i _ => 20 - (intOf i).toNat)
  case atStart => exact ⟨dy, by omega, Nat.mod_eq_of_lt hdy, rfl, 0, by rw [gridG_zero hdy]; rfl, by rw [gridG_zero hdy]; exact owz_empty _ _ _, (Below.refl _ _).alloc (Nat.le_refl _) _⟩
  case round =>
    obtain ⟨y, hy, hym, rfl, hgs⟩ := hrel
    have HY := Lib.hid hym
    have HG := Lib.hid hgs
    clear hym hgs
    by_cases hlt : y < ff.length
    · go_wp2
      go_loopw [11, 13] (fun v i wr => ∃ x : Nat, x ≤ 13 ∧ x % cw = dx ∧ i = .int .i64 x ∧ GS w wr v (gridG ff cw ch dx dy y ++ rowG ff cw ch dx y x)) (fun _ i _ => 20 - (intOf i).toNat)
      case atStart => exact ⟨dx, by omega, Nat.mod_eq_of_lt hdx, rfl, by rw [rowG_zero hdx, List.append_nil]; exact HG.out⟩
      case round =>
        obtain ⟨x, hx, hxm, rfl, n, hn, hown, hbel⟩ := hrel
        have HX := Lib.hid hxm
        have HN := Lib.hid hn
        have hnb : n ≤ 200 := by
          have h1 := gridG_len (ff := ff) (w := cw) (h := ch) (dx := dx) (dy := dy) y
          have h2 := rowG_len (ff := ff) (w := cw) (h := ch) (dx := dx) (y := y) x
          have h3 : y * wideB ff ≤ 13 * 9 := Nat.mul_le_mul hy hwd.2
          rw [hn, List.length_append]
          omega
        clear hxm hn
        have h0r := (hbel.cell (p := ⟨b, off, none⟩) hb).trans h0
        have hfr := hf.up hbel
        by_cases hxt : x < wideB ff
        · have HS := Lib.hid (rowG_step (ff := ff) (w := cw) (h := ch) (dx := dx) (x := x) (y := y) (by omega) HX.out)
          go_wp2_with fail
          refine (sHolds_any ff _ c wr _ hfr cw ch x y (by omega) (by omega) (by omega) (by omega)).mono ?_
          rintro e w' ⟨rfl, rfl⟩
          cases hq : wholeB ff cw ch x y
          · have HQ := Lib.hid hq
            clear hq
            go_wp2
            go_roundw
            case rel => exact ⟨x + cw, by omega, by rw [Nat.add_mod_right]; exact HX.out, by go_num, by rw [HS.out, HQ.out]; simp; exact ⟨n, HN.out, hown, hbel⟩⟩
            case measure => simp [intOf]; omega
          · have HQ := Lib.hid hq
            clear hq
            go_wp2_with (at_builtin; refine wpList_append_own _ rfl _ _ 55 rfl (w.heap.size) 59 i0 (.agg #[.int .i64 0, .int .i64 0]) 2 16 Try.underlying55 hi hz0 hz1 hz2 rfl (by decide) _ _ _ rfl (owz_alloc hown _) ⟨wr.heap.size, 0, none⟩ 1 1 [.int .i64 (x : Nat), .int .i64 (y : Nat)] rfl rfl ?c1 ?c2 ?c3 ?c4 ?c5 ?_)
            case c1 => first | exact two_new _ _ _ _ _ rfl | exact two_new _ _ _ _ _ (by simp)
            case c2 => first | rfl | (intro u hu; simp at hu; rcases hu with rfl | rfl <;> rfl)
            case c3 => unfold maxLen; omega
            case c4 => omega
            case c5 => have := hbel.size; simp; omega
            · intro v' w5 hown' hgrow _
              have hob := owz_block hown
              have hbel5 : Below w.heap.size w w5 := (hbel.alloc (by have := hbel.size; omega) (.cells #[.int .i64 (x : Nat), .int .i64 (y : Nat)] 59)).grown hgrow (by have := hbel.size; simp; omega) hob
              have hsn : GS w w5 v' (gridG ff cw ch dx dy y ++ rowG ff cw ch dx y (x + cw)) := ⟨n + 1, by rw [HS.out, HQ.out, ← List.append_assoc, List.length_append, ← HN.out]; rfl, by rw [HS.out, HQ.out, ← List.append_assoc]; simp only [if_true]; rw [cakeV_snoc]; exact hown', hbel5⟩
              have HSN := Lib.hid hsn
              clear hown' hgrow hown hsn hbel5
              go_wp2
              go_roundw
              case rel => exact ⟨x + cw, by omega, by rw [Nat.add_mod_right]; exact HX.out, by go_num, HSN.out⟩
              case measure => simp [intOf]; omega
        · have hend : GS w wr u11 (gridG ff cw ch dx dy (y + ch)) := ⟨n, by rw [gridG_step (by omega) HY.out, ← rowG_end (by omega) (show wideB ff < x + cw by omega)]; exact HN.out, by rw [gridG_step (by omega) HY.out, ← rowG_end (by omega) (show wideB ff < x + cw by omega)]; exact hown, hbel⟩
          have HE := Lib.hid hend
          clear hend hown hbel
          go_wp2
          go_roundw
          case rel => exact ⟨y + ch, by omega, by rw [Nat.add_mod_right]; exact HY.out, by go_num, HE.out⟩
          case measure => simp [intOf]; omega
    · have HE : Hid (gridG ff cw ch dx dy y = gridF ff cw ch dx dy) := Lib.hid (gridG_end (by omega) (by omega))
      have hout := HG.out.out
      rw [HE.out] at hout
      have HO := Lib.hid hout
      clear hout
      go_wp2
      go_ret
      exact HO.out
theorem outC_drew {w : World} {n : Nat} {l : List (Int × Int)} {v : Value} (h : OutC l (w.drewN n) (.returned v) (w.drewN n)) : OutC l w (.returned v) (w.drewN n) := by
  obtain ⟨A', c', h1, h2, h3⟩ := h
  exact ⟨A', c', h1, h2, (below_drewN (Below.refl _ _) n).trans h3⟩
theorem toNat_parts {w h dx dy : Int} (hs : sidesB w h = true) (h1 : 0 ≤ dx) (h2 : 0 ≤ dy) : ∃ cw ch x y : Nat, w = cw ∧ h = ch ∧ dx = x ∧ dy = y := by
  have := sidesB_t hs
  exact ⟨w.toNat, h.toNat, dx.toNat, dy.toNat, by omega, by omega, by omega, by omega⟩
set_option maxRecDepth 100000 in
set_option maxHeartbeats 2000000 in
theorem iCakes_any (ff : List (List Bool)) (A : Option Addr) (c : Nat) (hcap : ff.length ≤ c ∧ c ≤ maxLen) (w : World) (hg : RdF w w.heap.size A ff) (a h dx dy : Int) :
    Calls Try.prog 48 #[.slice A ff.length c, .int .i64 a, .int .i64 h, .int .i64 dx, .int .i64 dy] w (OutC (cakesT ff a h dx dy) w) := by
  cases hv : fieldB ff
  · rw [cakesT_no (by rw [hv]; rfl)]
    have Hv := Lib.hid hv
    clear hv
    go_enter Try.func48, Try.ntmps48
    go_wp2_with (go_at_call 95; refine (iVF_is _ _ _ _ _ hg Hv.out).mono ?_; rintro e w' ⟨rfl, rfl⟩)
    go_ret
    exact outC_nil w
  cases hs : sidesB a h
  · rw [cakesT_no (by rw [hs]; simp)]
    have Hv := Lib.hid hv
    have Hs := Lib.hid hs
    clear hv hs
    go_enter Try.func48, Try.ntmps48
    go_wp2_with (first | (go_at_call 95; refine (iVF_is _ _ _ _ _ hg Hv.out).mono ?_; rintro e w' ⟨rfl, rfl⟩) | (go_at_call 96; refine (vSides_is Hs.out _).mono ?_; rintro e w' ⟨rfl, rfl⟩))
    go_ret
    exact outC_nil w
  have hs2 := sidesB_t hs
  by_cases hx : 0 ≤ dx ∧ dx ≤ a - 1
  · by_cases hy : 0 ≤ dy ∧ dy ≤ h - 1
    · obtain ⟨cw, ch, x, y, rfl, rfl, rfl, rfl⟩ := toNat_parts hs hx.1 hy.1
      rw [cakesT_ok hv hs (by omega) (by omega)]
      exact iCakesOk_any ff A c hcap w hg cw ch x y hv hs (by omega) (by omega)
    · have h5 : inB dy 0 (h - 1) = false := inB_nk hy
      rw [cakesT_no (by rw [h5]; simp)]
      have Hv := Lib.hid hv
      have Hs := Lib.hid hs
      clear hv hs h5
      obtain ⟨x1, x2⟩ := hx
      have x3 : ¬ a ≤ dx := by omega
      by_cases y1 : dy < 0
      · go_enter Try.func48, Try.ntmps48
        go_wp2_with (first | (go_at_call 95; refine (iVF_is _ _ _ _ _ hg Hv.out).mono ?_; rintro e w' ⟨rfl, rfl⟩) | (go_at_call 96; refine (vSides_is Hs.out _).mono ?_; rintro e w' ⟨rfl, rfl⟩))
        go_ret
        exact outC_nil w
      · have y2 : h ≤ dy := by omega
        have y3 : 0 ≤ dy := by omega
        clear y1 hy
        go_enter Try.func48, Try.ntmps48
        go_wp2_with (first | (go_at_call 95; refine (iVF_is _ _ _ _ _ hg Hv.out).mono ?_; rintro e w' ⟨rfl, rfl⟩) | (go_at_call 96; refine (vSides_is Hs.out _).mono ?_; rintro e w' ⟨rfl, rfl⟩))
        go_ret
        exact outC_nil w
  · have h5 : inB dx 0 (a - 1) = false := inB_nk hx
    rw [cakesT_no (by rw [h5]; simp)]
    have Hv := Lib.hid hv
    have Hs := Lib.hid hs
    clear hv hs h5
    by_cases y1 : dx < 0
    · go_enter Try.func48, Try.ntmps48
      go_wp2_with (first | (go_at_call 95; refine (iVF_is _ _ _ _ _ hg Hv.out).mono ?_; rintro e w' ⟨rfl, rfl⟩) | (go_at_call 96; refine (vSides_is Hs.out _).mono ?_; rintro e w' ⟨rfl, rfl⟩))
      go_ret
      exact outC_nil w
    · have y2 : a ≤ dx := by omega
      have y3 : 0 ≤ dx := by omega
      clear y1 hx
      go_enter Try.func48, Try.ntmps48
      go_wp2_with (first | (go_at_call 95; refine (iVF_is _ _ _ _ _ hg Hv.out).mono ?_; rintro e w' ⟨rfl, rfl⟩) | (go_at_call 96; refine (vSides_is Hs.out _).mono ?_; rintro e w' ⟨rfl, rfl⟩))
      go_ret
      exact outC_nil w
set_option maxRecDepth 100000 in
set_option maxHeartbeats 2000000 in
theorem sCakes_any (ff : List (List Bool)) (A : Option Addr) (c : Nat) (w : World) (hg : RdF w w.heap.size A ff) (hn : ff.length ≤ 1048576) (a h dx dy : Int) :
    Calls Try.prog 50 #[.slice A ff.length c, .int .i64 a, .int .i64 h, .int .i64 dx, .int .i64 dy] w (OutC (cakesT ff a h dx dy) w) := by
  cases hv : fieldB ff
  · rw [cakesT_no (by rw [hv]; rfl)]
    have Hv := Lib.hid hv
    clear hv
    go_enter Try.func50, Try.ntmps50
    go_wp2_with (go_at_call 98; refine (sVF_is _ _ _ _ _ hg hn Hv.out).mono ?_; rintro e w' ⟨rfl, nv, rfl⟩)
    go_ret
    exact outC_drew (outC_nil _)
  cases hs : sidesB a h
  · rw [cakesT_no (by rw [hs]; simp)]
    have Hv := Lib.hid hv
    have Hs := Lib.hid hs
    clear hv hs
    go_enter Try.func50, Try.ntmps50
    go_wp2_with (first | (go_at_call 98; refine (sVF_is _ _ _ _ _ hg hn Hv.out).mono ?_; rintro e w' ⟨rfl, nv, rfl⟩) | (go_at_call 99; refine (vSize_is Hs.out _).mono ?_; rintro e w' ⟨rfl, rfl⟩))
    go_ret
    exact outC_drew (outC_nil _)
  have hs2 := sidesB_t hs
  obtain ⟨⟨s1, s2⟩, ⟨s3, s4⟩⟩ := hs2
  cases hx : inB dx 0 (a - 1)
  · rw [cakesT_no (by rw [hx]; simp)]
    have Hv := Lib.hid hv
    have Hs := Lib.hid hs
    have Hx := Lib.hid hx
    clear hv hs hx
    go_enter Try.func50, Try.ntmps50
    go_wp2_with (first | (go_at_call 98; refine (sVF_is _ _ _ _ _ hg hn Hv.out).mono ?_; rintro e w' ⟨rfl, nv, rfl⟩) | (go_at_call 99; refine (vSize_is Hs.out _).mono ?_; rintro e w' ⟨rfl, rfl⟩))
    go_wp2_with fail
    refine (inR_is Hx.out _).mono ?_
    rintro e w' ⟨rfl, rfl⟩
    go_wp2
    go_ret
    exact outC_drew (outC_nil _)
  cases hy : inB dy 0 (h - 1)
  · rw [cakesT_no (by rw [hy]; simp)]
    have Hv := Lib.hid hv
    have Hs := Lib.hid hs
    have Hx := Lib.hid hx
    have Hy := Lib.hid hy
    clear hv hs hx hy
    go_enter Try.func50, Try.ntmps50
    go_wp2_with (first | (go_at_call 98; refine (sVF_is _ _ _ _ _ hg hn Hv.out).mono ?_; rintro e w' ⟨rfl, nv, rfl⟩) | (go_at_call 99; refine (vSize_is Hs.out _).mono ?_; rintro e w' ⟨rfl, rfl⟩))
    go_wp2_with fail
    refine (inR_is Hx.out _).mono ?_
    rintro e w' ⟨rfl, rfl⟩
    go_wp2_with fail
    refine (inR_is Hy.out _).mono ?_
    rintro e w' ⟨rfl, rfl⟩
    go_wp2
    go_ret
    exact outC_drew (outC_nil _)
  have x1 := inB_t hx
  have y1 := inB_t hy
  obtain ⟨cw, ch, x, y, rfl, rfl, rfl, rfl⟩ := toNat_parts hs x1.1 y1.1
  rw [cakesT_ok hv hs (by omega) (by omega)]
  have Hv := Lib.hid hv
  have Hs := Lib.hid hs
  have Hx := Lib.hid hx
  have Hy := Lib.hid hy
  have HC : Hid (∀ n : Nat, Calls Try.prog 100 #[.slice A ff.length c, .int .i64 (cw : Nat), .int .i64 (ch : Nat), .int .i64 (x : Nat), .int .i64 (y : Nat)] (w.drewN n) (OutC (gridF ff cw ch x y) (w.drewN n))) := Lib.hid fun n => sCakesN_any ff A c (w.drewN n) (hg.drewN n) cw ch x y hv hs (by omega) (by omega)
  clear hv hs hx hy
  go_enter Try.func50, Try.ntmps50
  go_wp2_with (first | (go_at_call 98; refine (sVF_is _ _ _ _ _ hg hn Hv.out).mono ?_; rintro e w' ⟨rfl, nv, rfl⟩) | (go_at_call 99; refine (vSize_is Hs.out _).mono ?_; rintro e w' ⟨rfl, rfl⟩))
  go_wp2_with fail
  refine (inR_is Hx.out _).mono ?_
  rintro e w' ⟨rfl, rfl⟩
  go_wp2_with fail
  refine (inR_is Hy.out _).mono ?_
  rintro e w' ⟨rfl, rfl⟩
  go_wp2_with fail
  refine (HC.out nv).mono ?_
  rintro e w' ⟨A', c', rfl, h2, h3⟩
  have h4 : Below w.heap.size w w' := (below_drewN (Below.refl _ _) nv).trans h3
  have H2 := Lib.hid h2
  clear h2 h3
  go_wp2
  go_ret
  exact ⟨A', c', rfl, H2.out, h4⟩

end Go.Proofs.Ytbnggakfogcalad

/- Contracts of chapter 3: the cakes of a grid. -/
import Derived.Deep.RegionWith
import Derived.Test.YtiihenhddleooabCGrid
import Derived.Test.YtiihenhddleooabCWords
namespace Go.Proofs.Ytiihenhddleooab
open Go.RowKit
set_option linter.unusedVariables false
set_option linter.unusedSimpArgs false
theorem vSize_any (a b : Int) (w : World) :
    Calls Try.prog 84 #[.int .i64 a, .int .i64 b] w fun e w' => e = .returned (.bool (sidesB a b)) ∧ w = w' := by
  have H : Hid (sidesB a b = (inB a 1 4 && inB b 1 4)) := Lib.hid rfl
  have cI := fun n w => inRange_any n 1 4 w
  cases h1 : inB a 1 4
  · have H1 := Lib.hid h1
    go_enter Try.func84, Try.ntmps84
    go_wp2_with fail
    refine (inR_is H1.out _).mono ?_
    rintro e w' ⟨rfl, rfl⟩
    go_wp2
    go_ret
    exact ⟨ret_bool (by rw [H.out, H1.out]; rfl), rfl⟩
  · have H1 := Lib.hid h1
    go_enter Try.func84, Try.ntmps84
    go_wp2_with fail
    refine (inR_is H1.out _).mono ?_
    rintro e w' ⟨rfl, rfl⟩
    go_wp2_with fail
    refine (inRange_any _ _ _ _).mono ?_
    rintro e w' ⟨rfl, rfl⟩
    go_wp2
    go_ret
    exact ⟨ret_bool (by rw [H.out, H1.out]; rfl), rfl⟩
theorem vSize_is {q : Bool} {a b : Int} (h : sidesB a b = q) (w : World) :
    Calls Try.prog 84 #[.int .i64 a, .int .i64 b] w fun e w' => e = .returned (.bool q) ∧ w = w' := by
  have := vSize_any a b w
  rw [h] at this
  exact this
def GS (w wr : World) (v : Value) (l : List (Int × Int)) : Prop := ∃ n, n = l.length ∧ wr.ownsRow w.heap.size 97 2 v n (cakeV l) ∧ Below w.heap.size w wr
theorem GS.up {w wr w' : World} {v : Value} {l : List (Int × Int)} (h : GS w wr v l) (hb : Below wr.heap.size wr w') : GS w w' v l := by
  obtain ⟨n, h1, h2, h3⟩ := h
  exact ⟨n, h1, owz_below h2 hb, h3.trans (hb.mono h3.size)⟩
theorem GS.out {w wr : World} {v : Value} {l : List (Int × Int)} (h : GS w wr v l) : OutC l w (.returned v) wr := by
  obtain ⟨n, h1, h2, h3⟩ := h
  exact outC_mk h1.symm h2 h3
set_option maxRecDepth 100000 in
set_option maxHeartbeats 2000000 in
theorem iCakesOk_any (ff : List (List Bool)) (A : Option Addr) (c : Nat) (hcap : ff.length ≤ c ∧ c ≤ maxLen) (w : World) (hg : RdF w w.heap.size A ff) (cw ch dx dy : Nat) (hv : fieldB ff = true) (hs : sidesB cw ch = true) (hdx : dx < cw) (hdy : dy < ch) :
    Calls Try.prog 56 #[.slice A ff.length c, .int .i64 (cw : Nat), .int .i64 (ch : Nat), .int .i64 (dx : Nat), .int .i64 (dy : Nat)] w (OutC (gridF ff cw ch dx dy) w) := by
  obtain ⟨i0, hi, hz0, hz1, hz2⟩ := info_parts info_cake
  have hf : Fld w w.heap.size A ff := ⟨hv, hg⟩
  have hl := field_len hv
  have hwd := field_wide hv
  have hs2 := sidesB_t hs
  have HV := Lib.hid hv
  have Hv := Lib.hid hv
  have Hs := Lib.hid hs
  clear hv hs
  obtain ⟨⟨s1, s2⟩, ⟨s3, s4⟩⟩ := hs2
  obtain ⟨b, off, A0, c0, rfl, hb, h0⟩ := hf.row0
  obtain ⟨q3, q4⟩ := hcap
  have d1 : 0 ≤ (dx : Int) := by omega
  have d2 : ¬ cw ≤ dx := by omega
  have d3 : 0 ≤ (dy : Int) := by omega
  have d4 : ¬ ch ≤ dy := by omega
  go_enter Try.func56, Try.ntmps56
  go_wp2_with (first | (go_at_call 87; refine (iVF_is _ _ _ _ _ hg Hv.out).mono ?_; rintro e w' ⟨rfl, rfl⟩) | (go_at_call 88; refine (vSides_is Hs.out _).mono ?_; rintro e w' ⟨rfl, rfl⟩))
  go_loopw [11, 12] (fun v i wr => ∃ y : Nat, y ≤ 13 ∧ y % ch = dy ∧ i = .int .i64 y ∧ GS w wr v (gridG ff cw ch dx dy y)) (fun _ i _ => 20 - (intOf i).toNat)
  case atStart => exact ⟨dy, by omega, Nat.mod_eq_of_lt hdy, rfl, 0, by rw [gridG_zero hdy]; rfl, by rw [gridG_zero hdy]; exact owz_empty _ _ _, (Below.refl _ _).alloc (Nat.le_refl _) _⟩
  case round =>
    obtain ⟨y, hy, hym, rfl, hgs⟩ := hrel
    have HY := Lib.hid hym
    have HG := Lib.hid hgs
    clear hym hgs
    by_cases hlt : y + ch ≤ ff.length
    · have hlti : (y : Int) + (ch : Int) ≤ (ff.length : Int) := by omega
      go_wp2
      go_loopw [11, 13] (fun v i wr => ∃ x : Nat, x ≤ 13 ∧ x % cw = dx ∧ i = .int .i64 x ∧ GS w wr v (gridG ff cw ch dx dy y ++ rowG ff cw ch dx y x)) (fun _ i _ => 20 - (intOf i).toNat)
      case atStart => exact ⟨dx, by omega, Nat.mod_eq_of_lt hdx, rfl, by rw [rowG_zero hdx, List.append_nil]; exact HG.out⟩
      case round =>
        obtain ⟨x, hx, hxm, rfl, n, hn, hown, hbel⟩ := hrel
        have HX := Lib.hid hxm
        have HN := Lib.hid hn
        have hnb : n ≤ 200 := by
          have h1 := gridG_len (ff := ff) (w := cw) (h := ch) (dx := dx) (dy := dy) y
          have h2 := rowG_len (ff := ff) (w := cw) (h := ch) (dx := dx) (y := y) x
          have h3 : y * wideB ff ≤ 13 * 9 := Nat.mul_le_mul hy hwd.2
          rw [hn, List.length_append]
          omega
        clear hxm hn
        have h0r := (hbel.cell (p := ⟨b, off, none⟩) hb).trans h0
        have hfr := hf.up hbel
        by_cases hxt : x + cw ≤ wideB ff
        · have HS := Lib.hid (rowG_step (ff := ff) (w := cw) (h := ch) (dx := dx) (x := x) (y := y) (by omega) HX.out)
          have hxti : (x : Int) + (cw : Int) ≤ (wideB ff : Int) := by omega
          go_wp2_with fail
          refine (iWhole_any ff _ c ⟨q3, q4⟩ wr _ hfr cw ch x y (by omega) (by omega) hxt hlt).mono ?_
          rintro e w' ⟨rfl, rfl⟩
          cases hq : wholeB ff cw ch x y
          · have HQ := Lib.hid hq
            clear hq
            go_wp2
            go_roundw
            case rel => exact ⟨x + cw, by omega, by rw [Nat.add_mod_right]; exact HX.out, by go_num, by rw [HS.out, HQ.out]; simp; exact ⟨n, HN.out, hown, hbel⟩⟩
            case measure => simp [intOf]; omega
          · have HQ := Lib.hid hq
            clear hq
            go_wp2_with (at_builtin; refine wpList_append_own _ rfl _ _ 62 rfl (w.heap.size) 97 i0 (.agg #[.int .i64 0, .int .i64 0]) 2 16 Try.underlying62 hi hz0 hz1 hz2 rfl (by decide) _ _ _ rfl (owz_alloc hown _) ⟨wr.heap.size, 0, none⟩ 1 1 [.int .i64 (x : Nat), .int .i64 (y : Nat)] rfl rfl ?c1 ?c2 ?c3 ?c4 ?c5 ?_)
            case c1 => first | exact two_new _ _ _ _ _ rfl | exact two_new _ _ _ _ _ (by simp)
            case c2 => first | rfl | (intro u hu; simp at hu; rcases hu with rfl | rfl <;> rfl)
            case c3 => unfold maxLen; omega
            case c4 => omega
            case c5 => have := hbel.size; simp; omega
            · intro v' w5 hown' hgrow _
              have hob := owz_block hown
              have hbel5 : Below w.heap.size w w5 := (hbel.alloc (by have := hbel.size; omega) (.cells #[.int .i64 (x : Nat), .int .i64 (y : Nat)] 97)).grown hgrow (by have := hbel.size; simp; omega) hob
              have hsn : GS w w5 v' (gridG ff cw ch dx dy y ++ rowG ff cw ch dx y (x + cw)) := ⟨n + 1, by rw [HS.out, HQ.out, ← List.append_assoc, List.length_append, ← HN.out]; rfl, by rw [HS.out, HQ.out, ← List.append_assoc]; simp only [if_true]; rw [cakeV_snoc]; exact hown', hbel5⟩
              have HSN := Lib.hid hsn
              clear hown' hgrow hown hsn hbel5
              go_wp2
              go_roundw
              case rel => exact ⟨x + cw, by omega, by rw [Nat.add_mod_right]; exact HX.out, by go_num, HSN.out⟩
              case measure => simp [intOf]; omega
        · have hxti : ¬ (x : Int) + (cw : Int) ≤ (wideB ff : Int) := by omega
          have hend : GS w wr u11 (gridG ff cw ch dx dy (y + ch)) := ⟨n, by rw [gridG_step (by omega) HY.out, ← rowG_end (by omega) (show wideB ff < x + cw by omega)]; exact HN.out, by rw [gridG_step (by omega) HY.out, ← rowG_end (by omega) (show wideB ff < x + cw by omega)]; exact hown, hbel⟩
          have HE := Lib.hid hend
          clear hend hown hbel
          go_wp2
          go_roundw
          case rel => exact ⟨y + ch, by omega, by rw [Nat.add_mod_right]; exact HY.out, by go_num, HE.out⟩
          case measure => simp [intOf]; omega
    · have hlti : ¬ (y : Int) + (ch : Int) ≤ (ff.length : Int) := by omega
      have HE : Hid (gridG ff cw ch dx dy y = gridF ff cw ch dx dy) := Lib.hid (gridG_end (by omega) (by omega))
      have hout := HG.out.out
      rw [HE.out] at hout
      have HO := Lib.hid hout
      clear hout
      go_wp2
      go_ret
      exact HO.out

end Go.Proofs.Ytiihenhddleooab

/- Contracts of chapter 5's model: houses filled layer by layer, boxes. -/
import Derived.Deep.RegionWith
import Derived.Test.YtbnggakfogcalaaHMeltS
import Derived.Test.YtbnggakfogcalaaHBestI
namespace Go.Proofs.Ytbnggakfogcalaa
open Go.RowKit
set_option linter.unusedVariables false
set_option linter.unusedSimpArgs false
def HRow (W D n : Nat) (w : World) (lo y : Nat) (v i vo : Value) (m : Nat) (xs : List Value) (qq : List (List Int)) (wi : World) : Prop :=
  ∃ k : Nat, k ≤ W ∧ i = .int .i64 k ∧ wi.ownsRow lo 3 1 v k (ints ((layRow W D n y).take k)) ∧ PG wi w.heap.size vo m xs qq ∧ Below w.heap.size w wi ∧ w.heap.size ≤ lo ∧ (∀ (i : Nat) (u : Value) (b : Nat), xs[i]? = some u → u.ownBlock = some b → b < lo) ∧ lo ≤ wi.heap.size
set_option maxHeartbeats 2000000 in
theorem sLayers_any (W D n : Nat) (hW : 1 ≤ W ∧ W ≤ 9) (hD : 1 ≤ D ∧ D ≤ 9) (hn : n ≤ W * D * 12) (w : World) :
    Calls Try.prog 67 #[.int .i64 (W : Nat), .int .i64 (D : Nat), .int .i64 (n : Nat)] w (OutGr (layF W D n) w) := by
  obtain ⟨i0, hi, hz0, hz1, hz2⟩ := info_parts info_int
  obtain ⟨j0, hj, hy0, hy1, hy2⟩ := info_parts info_ints
  have hM1 : 1 * 1 ≤ W * D := Nat.mul_le_mul hW.1 hD.1
  have hM2 : W * D ≤ 9 * 9 := Nat.mul_le_mul hW.2 hD.2
  have e2 := natW (a := W) (b := D) (by omega)
  have HLEN : Hid ((layF W D n).length = D) := Lib.hid (layF_len W D n)
  have HAT : Hid (∀ k, k < D → (layF W D n)[k]? = some (layRow W D n k)) := Lib.hid fun k hk => layF_at hk
  have HRAT : Hid (∀ k x, x < W → (layRow W D n k)[x]? = some (layC W D n x k)) := Lib.hid fun k x hx => layRow_at hx
  have HRL : Hid (∀ k, (layRow W D n k).length = W) := Lib.hid fun k => layRow_len W D n k
  have HLC : Hid (∀ x y, layC W D n x y = ((n / (W * D) : Nat) : Int) + (if y * W + x < n % (W * D) then 1 else 0)) := Lib.hid fun x y => rfl
  have hq12 : n / (W * D) ≤ 12 := Nat.div_le_of_le_mul (by omega)
  have hR : n % (W * D) < W * D := Nat.mod_lt _ (by omega)
  have q2 : (n : Int) / ((W * D : Nat) : Int) = ((n / (W * D) : Nat) : Int) := (Int.natCast_ediv _ _).symm
  have q3 : (n : Int).tdiv ((W * D : Nat) : Int) = ((n / (W * D) : Nat) : Int) := by rw [Int.tdiv_eq_ediv_of_nonneg (by omega)]; exact q2
  have r2 : (n : Int) % ((W * D : Nat) : Int) = ((n % (W * D) : Nat) : Int) := (Int.natCast_emod _ _).symm
  have r3 : (n : Int).tmod ((W * D : Nat) : Int) = ((n % (W * D) : Nat) : Int) := by rw [Int.tmod_eq_emod_of_nonneg (by omega)]; exact r2
  generalize n / (W * D) = Q at *
  generalize n % (W * D) = R at *
  generalize hMM : W * D = M at *
  have i1 : ((M : Int) == 0) = false := beq_eq_false_iff_ne.2 (by omega)
  have i2 : ¬ M = 0 := by omega
  have i3 : ¬ (M : Int) = 0 := by omega
  clear hMM
  go_enter Try.func67, Try.ntmps67
  go_wp2
  go_loopw [7, 8] (fun v i wr => ∃ (m : Nat) (xs : List Value), m ≤ D ∧ i = .int .i64 m ∧ PG wr w.heap.size v m xs ((layF W D n).take m) ∧ Below w.heap.size w wr) (fun _ i _ => D - (intOf i).toNat)
  case atStart =>
    exact ⟨0, [], Nat.zero_le _, rfl, ⟨own_empty w 26, rfl, fun k r hr => by simp at hr, fun i j u v b hu => by simp at hu, fun i u b hu => by simp at hu⟩, (Below.refl _ _).alloc (Nat.le_refl _) _⟩
  case round =>
    obtain ⟨m, xs, hm, rfl, hpg, hbel⟩ := hrel
    have hsz := hbel.size
    by_cases hlt : m < D
    · have hst2 : HRow W D n w wr.heap.size m (.slice (some ⟨wr.heap.size, 0, none⟩) 0 0) (.int .i64 (0 : Nat)) u7 m xs ((layF W D n).take m) (wr.alloc (.cells #[] 3)) :=
        ⟨0, Nat.zero_le _, rfl, own_empty wr _, hpg.below ((Below.refl _ _).alloc (Nat.le_refl _) _), hbel.alloc hsz _, hsz, hpg.hi_, by simp⟩
      have HST2 := Lib.hid hst2
      have e5 : IntKind.i64.wrap ((m : Int) * (W : Int)) = ((m * W : Nat) : Int) := natW (by
        have : m * W ≤ 9 * 9 := Nat.mul_le_mul (by omega) hW.2
        omega)
      have e6 : m * W ≤ 81 := by
        have : m * W ≤ 9 * 9 := Nat.mul_le_mul (by omega) hW.2
        omega
      clear hst2 hpg hbel
      generalize hlo : wr.heap.size = lo at HST2
      go_wp2
      go_loopw [9, 10] (fun v i wi => HRow W D n w lo m v i u7 m xs ((layF W D n).take m) wi) (fun _ i _ => W - (intOf i).toNat)
      case atStart => rw [← hlo] at HST2 ⊢; exact HST2.out
      case round =>
        clear hlo
        obtain ⟨k, hk, rfl, hown, hpg, hbel, hwl, hxl, hls⟩ := hrel
        have HXL := Lib.hid hxl
        clear hxl
        by_cases hkW : k < W
        · have HLX := Lib.hid (HLC.out k m)
          have HZ0 : Hid ((layRow W D n m).take (k + 1) = (layRow W D n m).take k ++ [layC W D n k m]) := Lib.hid (take_snoc (HRAT.out m k hkW))
          generalize hmW : m * W = mw at *
          clear hmW
          by_cases hmr : mw + k < R
          · have hmi : (mw : Int) + (k : Int) < (R : Int) := by omega
            have HZ : Hid ((layRow W D n m).take (k + 1) = (layRow W D n m).take k ++ [(Q : Int) + 1]) := Lib.hid (by rw [HZ0.out, HLX.out]; rw [if_pos hmr])
            clear HZ0
            go_wp2_with (at_builtin; refine wpList_append_own _ rfl _ _ 26 rfl (lo) 3 i0 (.int .i64 0) 1 8 Try.underlying26 hi hz0 hz1 hz2 rfl (by decide) _ _ _ rfl (hown.alloc _) ⟨wr.heap.size, 0, none⟩ 1 1 [.int .i64 ((Q : Int) + 1)] rfl rfl ?c1 ?c2 ?c3 ?c4 ?c5 ?_)
            first | (case c1 => first | exact one_new _ _ _ _ rfl | exact one_new _ _ _ _ (by simp)) | skip
            case c2 => first | rfl | (intro u hu; simp at hu; subst hu; rfl)
            case c3 => unfold maxLen; omega
            case c4 => omega
            case c5 => first | omega | (simp; omega) | trace_state
            · intro v' w5 hown' hgrow _
              have hob := own_block hown
              have R9 : w5.ownsRow lo 3 1 v' (k + 1) (ints ((layRow W D n m).take (k + 1))) := by rw [HZ.out]; simpa [ints] using hown'
              have hbel5 : Below w.heap.size w w5 := (hbel.alloc (by omega) _).grown hgrow (by simp; omega) (fun k hk => by have := hob k hk; omega)
              have hpg5 : PG w5 w.heap.size u7 m xs ((layF W D n).take m) := (hpg.below ((Below.refl _ _).alloc (Nat.le_refl _) _)).grow hgrow (own_alloc hown (.cells #[.int .i64 ((Q : Int) + 1)] 3)) (fun q hq => own_types hown hpg.out types_ne q hq) (fun i x q hx hq e => by have := HXL.out i x q hx e; have := hob q hq; omega)
              have hls5 : lo ≤ w5.heap.size := by have := hgrow.size; simp at this; omega
              have HR5 := Lib.hid R9
              have HPG := Lib.hid hpg5
              have HB5 := Lib.hid hbel5
              clear hown' hgrow hown R9 hpg5 hpg hbel hbel5
              go_wp2
              go_roundw
              case rel => exact ⟨k + 1, by omega, by go_num, HR5.out, HPG.out, HB5.out, hwl, HXL.out, hls5⟩
              case measure => simp [intOf]; omega
          · have hmi : ¬ (mw : Int) + (k : Int) < (R : Int) := by omega
            have HZ : Hid ((layRow W D n m).take (k + 1) = (layRow W D n m).take k ++ [(Q : Int)]) := Lib.hid (by rw [HZ0.out, HLX.out]; rw [if_neg hmr, Int.add_zero])
            clear HZ0
            go_wp2_with (at_builtin; refine wpList_append_own _ rfl _ _ 26 rfl (lo) 3 i0 (.int .i64 0) 1 8 Try.underlying26 hi hz0 hz1 hz2 rfl (by decide) _ _ _ rfl (hown.alloc _) ⟨wr.heap.size, 0, none⟩ 1 1 [.int .i64 (Q : Int)] rfl rfl ?c1x2 ?c2x2 ?c3x2 ?c4x2 ?c5x2 ?_)
            first | (case c1x2 => first | exact one_new _ _ _ _ rfl | exact one_new _ _ _ _ (by simp)) | skip
            case c2x2 => first | rfl | (intro u hu; simp at hu; subst hu; rfl)
            case c3x2 => unfold maxLen; omega
            case c4x2 => omega
            case c5x2 => first | omega | (simp; omega) | trace_state
            · intro v' w5 hown' hgrow _
              have hob := own_block hown
              have R9 : w5.ownsRow lo 3 1 v' (k + 1) (ints ((layRow W D n m).take (k + 1))) := by rw [HZ.out]; simpa [ints] using hown'
              have hbel5 : Below w.heap.size w w5 := (hbel.alloc (by omega) _).grown hgrow (by simp; omega) (fun k hk => by have := hob k hk; omega)
              have hpg5 : PG w5 w.heap.size u7 m xs ((layF W D n).take m) := (hpg.below ((Below.refl _ _).alloc (Nat.le_refl _) _)).grow hgrow (own_alloc hown (.cells #[.int .i64 ((Q : Int))] 3)) (fun q hq => own_types hown hpg.out types_ne q hq) (fun i x q hx hq e => by have := HXL.out i x q hx e; have := hob q hq; omega)
              have hls5 : lo ≤ w5.heap.size := by have := hgrow.size; simp at this; omega
              have HR5 := Lib.hid R9
              have HPG := Lib.hid hpg5
              have HB5 := Lib.hid hbel5
              clear hown' hgrow hown R9 hpg5 hpg hbel hbel5
              go_wp2
              go_roundw
              case rel => exact ⟨k + 1, by omega, by go_num, HR5.out, HPG.out, HB5.out, hwl, HXL.out, hls5⟩
              case measure => simp [intOf]; omega
        · obtain rfl : k = W := by omega
          obtain ⟨A6, c6, rfl⟩ := own_form hown
          have hout3 := hpg.out
          have hzl := HRL.out m
          rw [List.take_of_length_le (by omega)] at hown
          have HZ : Hid ((layF k D n).take (m + 1) = (layF k D n).take m ++ [layRow k D n m]) := Lib.hid (take_snoc (HAT.out m hlt))
          go_wp2_with (at_builtin; refine wpList_append_own _ rfl _ _ 23 rfl (w.heap.size) 26 j0 (.slice none 0 0) 1 24 Try.underlying23 hj hy0 hy1 hy2 rfl (by decide) _ _ _ rfl (hout3.alloc _) ⟨wr.heap.size, 0, none⟩ 1 1 [.slice A6 k c6] rfl rfl ?c1x3 ?c2x3 ?c3x3 ?c4x3 ?c5x3 ?_)
          first | (case c1x3 => first | exact one_new _ _ _ _ rfl | exact one_new _ _ _ _ (by simp)) | skip
          case c2x3 => first | rfl | (intro u hu; simp at hu; subst hu; rfl)
          case c3x3 => unfold maxLen; omega
          case c4x3 => omega
          case c5x3 => first | omega | (simp; omega) | trace_state
          · intro v' w5 hown' hgrow _
            have hob := own_block hout3
            have hrow3 : (wr.alloc (.cells #[.slice A6 k c6] 26)).ownsRow lo 3 1 (.slice A6 (layRow k D n m).length c6) (layRow k D n m).length (ints (layRow k D n m)) := by rw [hzl]; exact own_alloc hown _
            have hpg5 := (hpg.below ((Below.refl _ _).alloc (Nat.le_refl _) (.cells #[.slice A6 k c6] 26))).push hrow3 hwl HXL.out hgrow (by rw [hzl]; exact hown')
            rw [← HZ.out] at hpg5
            have hbel5 : Below w.heap.size w w5 := (hbel.alloc (by omega) _).grown hgrow (by simp; omega) hob
            have HPG := Lib.hid hpg5
            have HB5 := Lib.hid hbel5
            clear hown' hgrow hown hpg5 hpg hout3 hrow3 hbel hbel5
            go_wp2
            go_roundw
            case rel => exact ⟨m + 1, _, by omega, by go_num, HPG.out, HB5.out⟩
            case measure => simp [intOf]; omega
    · obtain rfl : m = D := by omega
      obtain ⟨A6, c6, rfl⟩ := own_form hpg.out
      rw [List.take_of_length_le (by rw [HLEN.out]; exact Nat.le_refl _)] at hpg
      have R9 : OutGr (layF W m n) w (.returned (.slice A6 m c6)) wr := ⟨A6, c6, xs, by rw [HLEN.out], by rw [HLEN.out]; exact hpg.own, hbel⟩
      have HR9 := Lib.hid R9
      clear hpg R9 hbel
      go_wp2
      go_ret
      exact HR9.out
set_option maxHeartbeats 1000000 in
theorem sFill_any (a b z : Int) (w : World) :
    Calls Try.prog 34 #[.int .i64 a, .int .i64 b, .int .i64 z] w (OutGr (fillT a b z) w) := by
  cases ha : inB a 1 9
  · rw [fillT_no (by rw [ha]; rfl)]
    have Ha := Lib.hid (inR_is ha w)
    clear ha
    go_enter Try.func34, Try.ntmps34
    go_wp2_with fail
    refine (Ha.out).mono ?_
    rintro e w' ⟨rfl, rfl⟩
    go_wp2
    go_ret
    exact outGr_nil w
  have Ha := Lib.hid (inR_is ha w)
  cases hb : inB b 1 9
  · rw [fillT_no (by rw [hb]; simp)]
    have Hb := Lib.hid (inR_is hb w)
    clear ha hb
    go_enter Try.func34, Try.ntmps34
    go_wp2_with fail
    refine (Ha.out).mono ?_
    rintro e w' ⟨rfl, rfl⟩
    go_wp2_with fail
    refine (Hb.out).mono ?_
    rintro e w' ⟨rfl, rfl⟩
    go_wp2
    go_ret
    exact outGr_nil w
  have Hb := Lib.hid (inR_is hb w)
  have ha2 := inB_t ha
  have hb2 := inB_t hb
  obtain ⟨W, rfl⟩ := Int.eq_ofNat_of_zero_le (show 0 ≤ a by omega)
  obtain ⟨D, rfl⟩ := Int.eq_ofNat_of_zero_le (show 0 ≤ b by omega)
  have hW : 1 ≤ W ∧ W ≤ 9 := by omega
  have hD : 1 ≤ D ∧ D ≤ 9 := by omega
  have hM1 : 1 * 1 ≤ W * D := Nat.mul_le_mul hW.1 hD.1
  have hM2 : W * D ≤ 9 * 9 := Nat.mul_le_mul hW.2 hD.2
  have e1 : (W : Int) * (D : Int) = ((W * D : Nat) : Int) := (Int.natCast_mul _ _).symm
  have e2 := natW (a := W) (b := D) (by omega)
  cases hz : inB z 0 ((W : Int) * (D : Int) * 12)
  · rw [fillT_no (by rw [hz]; simp)]
    rw [e1] at hz
    have Hz := Lib.hid (inR_is hz w)
    clear ha hb hz ha2 hb2 e1
    generalize W * D = M at *
    go_enter Try.func34, Try.ntmps34
    go_wp2_with fail
    refine (Ha.out).mono ?_
    rintro e w' ⟨rfl, rfl⟩
    go_wp2_with fail
    refine (Hb.out).mono ?_
    rintro e w' ⟨rfl, rfl⟩
    go_wp2_with fail
    refine (Hz.out).mono ?_
    rintro e w' ⟨rfl, rfl⟩
    go_wp2
    go_ret
    exact outGr_nil w
  rw [e1] at hz
  have Hz := Lib.hid (inR_is hz w)
  have hz2 := inB_t hz
  obtain ⟨n, rfl⟩ := Int.eq_ofNat_of_zero_le hz2.1
  rw [fillT_ok hW hD (by omega)]
  have HL := Lib.hid (sLayers_any W D n hW hD (by omega) w)
  clear ha hb hz ha2 hb2 e1
  generalize layF W D n = ts at *
  generalize W * D = M at *
  go_enter Try.func34, Try.ntmps34
  go_wp2_with fail
  refine (Ha.out).mono ?_
  rintro e w' ⟨rfl, rfl⟩
  go_wp2_with fail
  refine (Hb.out).mono ?_
  rintro e w' ⟨rfl, rfl⟩
  go_wp2_with fail
  refine (Hz.out).mono ?_
  rintro e w' ⟨rfl, rfl⟩
  go_wp2_with fail
  refine HL.out.mono ?_
  intro e w3 hout
  obtain ⟨A3, c3, xs3, he, o3, b3⟩ := hout
  subst he
  have R : OutGr ts w (.returned (.slice A3 ts.length c3)) w3 := ⟨A3, c3, xs3, rfl, o3, b3⟩
  have HR := Lib.hid R
  clear R o3 b3
  go_wp2
  go_ret
  exact HR.out

end Go.Proofs.Ytbnggakfogcalaa

/- Contracts of chapter 2's model: a cell of a pond is cut. -/
import Derived.StillTailTactics
import Derived.Deep.RegionWith
import Derived.Test.YtbnggakfogcalabCutI
namespace Go.Proofs.Ytbnggakfogcalab
open Go.RowKit
set_option linter.unusedVariables false
set_option linter.unusedSimpArgs false
theorem PG.own {w : World} {base : Nat} {A : Option Addr} {n c : Nat} {xs : List Value} {pp : List (List Int)} (h : PG w base (.slice A n c) n xs pp) : OwnG w base w.heap.size A n c xs pp :=
  ⟨h.out, h.len, h.row, h.sep, fun i u b hu hb e => by
      have hi : i < n := by have := (List.getElem?_eq_some_iff.1 hu).1; have := h.out.1; omega
      obtain ⟨A', c', h1, h2⟩ := h.row i (pp[i]'(by rw [h.len]; exact hi)) (List.getElem?_eq_getElem _)
      rw [h1] at hu
      injection hu with hu
      subst hu
      exact own_types h2 h.out types_ne b hb e,
    h.hi_, fun b hb => own_lt h.out b hb⟩
set_option maxHeartbeats 1000000 in
theorem sCopyI_any (n : Nat) (row : List Int) (hl : row.length = n) (h1 : 1 ≤ n) (h9 : n ≤ 1000) (A : Option Addr) (c : Nat) (w : World) (hr : Rd w w.heap.size A (ints row)) :
    Calls Try.prog 68 #[.slice A n c] w (OutI row w) := by
  obtain ⟨i0, hi, hz0, hz1, hz2⟩ := info_parts info_int
  obtain ⟨b, off, rfl, hb, hcl⟩ := hr (by rintro e; have := ints_length row; rw [e] at this; simp at this; omega)
  have hown := own_empty w 3
  have HL := Lib.hid hl
  have HC := Lib.hid hcl
  clear hl hr hcl
  go_enter Try.func68, Try.ntmps68
  go_wp2_with (at_builtin; refine wpList_append_own _ rfl _ _ 35 rfl (w.heap.size) 3 i0 (.int .i64 0) 1 8 Try.underlying35 hi hz0 hz1 hz2 rfl (by decide) _ _ _ rfl hown ⟨b, off, none⟩ n c (ints row) rfl ?c0 ?c1 ?c2 ?c3 ?c4 ?c5 ?_)
  case c0 => rw [ints_length, HL.out]; omega
  case c1 =>
    intro j u hu
    rw [Addr.add_lit]
    exact (World.cell?_alloc_lt w _ _ hb).trans (HC.out j u hu)
  case c2 => exact oneCell_ints
  case c3 => unfold maxLen; omega
  case c4 => omega
  case c5 => simp
  · intro v' w5 hown' hgrow _
    have hob := own_block hown
    have hown2 : w5.ownsRow w.heap.size 3 1 v' n (ints row) := by simpa using hown'
    have hb5 : Below w.heap.size w w5 := ((Below.refl _ _).alloc (Nat.le_refl _) (.cells #[] 3)).grown hgrow (by simp) hob
    have R := out_mk HL.out hown2 hb5
    have HR := Lib.hid R
    clear hown' hgrow hown2 hb5 R
    go_wp2
    go_ret
    exact HR.out
set_option maxHeartbeats 2000000 in
theorem sCut_any (pp : List (List Int)) (A : Option Addr) (c : Nat) (w : World) (hg : RdG w w.heap.size A pp) (hn : pp.length ≤ 1048576) (z : Int) :
    Calls Try.prog 38 #[.slice A pp.length c, .int .i64 z] w (OutGr (cutT pp z) w) := by
  cases hv : pondB pp
  · rw [cutT_no (by rw [hv]; rfl)]
    have Hv := Lib.hid hv
    clear hv
    go_enter Try.func38, Try.ntmps38
    go_wp2_with (go_at_call 66; refine (sVal_is _ _ _ _ _ hg hn Hv.out).mono ?_; rintro e w' ⟨rfl, nv, rfl⟩)
    go_ret
    obtain ⟨A', c', xs, h1, h2, h3⟩ := outGr_nil (w.drewN nv)
    exact ⟨A', c', xs, h1, h2, below_drewN (Below.refl _ _) _⟩
  have hp : Pnd w w.heap.size A pp := ⟨hv, hg⟩
  have hcc := pond_cnt hv
  have HCn : Hid (∀ m : Nat, Calls Try.prog 67 #[.slice A pp.length c] (w.drewN m) fun e w' => e = .returned (.int .i64 (cnt pp : Nat)) ∧ w.drewN m = w') := Lib.hid fun m => sCnt_any pp A c (w.drewN m) _ (hp.drewN m)
  cases hz : inB z 0 ((cnt pp : Nat) - 1)
  · rw [cutT_no (by rw [hz, Bool.and_false])]
    have Hv := Lib.hid hv
    have Hz := Lib.hid hz
    clear hv hz hp
    go_enter Try.func38, Try.ntmps38
    go_wp2_with fail
    refine (sVal_is _ _ _ _ _ hg hn Hv.out).mono ?_
    rintro e w' ⟨rfl, nv, rfl⟩
    go_wp2_with fail
    refine (HCn.out nv).mono ?_
    rintro e w' ⟨rfl, rfl⟩
    go_wp2_with fail
    refine (inR_is Hz.out _).mono ?_
    rintro e w' ⟨rfl, rfl⟩
    go_wp2
    go_ret
    obtain ⟨A', c', xs, h1, h2, h3⟩ := outGr_nil (w.drewN nv)
    exact ⟨A', c', xs, h1, h2, below_drewN (Below.refl _ _) _⟩
  have hz2 := inB_t hz
  obtain ⟨k, rfl⟩ := Int.eq_ofNat_of_zero_le hz2.1
  have hk : k < cnt pp := by omega
  rw [cutT_ok hv hk]
  have hl := pond_len hv
  have hwd := pond_wide hv
  obtain ⟨bq, off, A0, c0, rfl, hbq, h00⟩ := hp.row0
  have hy := row_y hk
  have hxm := Nat.mod_lt k (show 0 < wide pp by omega)
  have HROW : Hid (∀ (k : Nat) (r : List Int), pp[k]? = some r → r.length = wide pp) := Lib.hid fun k r h => (pond_row hv h).1
  have Hv := Lib.hid hv
  have Hz := Lib.hid hz
  have HLN := Lib.hid (cutF_len pp k)
  have Hk := Lib.hid hk
  obtain ⟨j0, hj, hy0, hy1, hy2⟩ := info_parts info_ints
  clear hv hz hp
  go_enter Try.func38, Try.ntmps38
  go_wp2_with fail
  refine (sVal_is _ _ _ _ _ hg hn Hv.out).mono ?_
  rintro e w' ⟨rfl, nv, rfl⟩
  go_wp2_with fail
  refine (HCn.out nv).mono ?_
  rintro e w' ⟨rfl, rfl⟩
  go_wp2_with fail
  refine (inR_is Hz.out _).mono ?_
  rintro e w' ⟨rfl, rfl⟩
  go_wp2
  go_loopw [5, 6] (fun v i wr => ∃ (y : Nat) (xs : List Value), y ≤ pp.length ∧ i = .int .i64 y ∧ PG wr w.heap.size v y xs (pp.take y) ∧ Below w.heap.size w wr) (fun _ i _ => pp.length - (intOf i).toNat)
  case atStart => exact ⟨0, [], Nat.zero_le _, rfl, ⟨own_empty (w.drewN nv) _, rfl, fun k r hr => by simp at hr, fun i j u v b hu => by simp at hu, fun i u b hu => by simp at hu⟩, (below_drewN (Below.refl _ _) _).alloc (Nat.le_refl _) _⟩
  case round =>
    obtain ⟨y, xs, hyl, rfl, hpg, hbel⟩ := hrel
    have hsz := hbel.size
    have HBEL := Lib.hid hbel
    by_cases hlt : y < pp.length
    · obtain ⟨b, off', row, A', c', e, hb, hrow, hc, hrc, hcm, hr⟩ := (hg.below hbel).row_ hlt
      injection e with e
      injection e with e1 e2
      subst e1 e2
      have hrr := hr.more hsz
      have hrl := HROW.out y row hrow.out
      have HS := Lib.hid (take_snoc hrow.out)
      have HLL := Lib.hid hrl
      rw [hrl] at hc hrc
      have hcall := sCopyI_any (wide pp) row hrl (by omega) (by omega) A' c' wr hrr
      have HPG := Lib.hid hpg
      clear hr hrr hrl hpg hbel
      go_wp2_with fail
      refine hcall.mono ?_
      rintro e w2 ⟨A2, c2, rfl, o2, b2⟩
      rw [HLL.out]
      have hs2 := b2.size
      have hpg2 := HPG.out.below b2
      have hbel2 := HBEL.out.trans (b2.mono hsz)
      have hout3 := hpg2.out
      clear hcall
      go_wp2_with (at_builtin; refine wpList_append_own _ rfl _ _ 22 rfl (w.heap.size) 35 j0 (.slice none 0 0) 1 24 Try.underlying22 hj hy0 hy1 hy2 rfl (by decide) _ _ _ rfl (hout3.alloc _) ⟨w2.heap.size, 0, none⟩ 1 1 [.slice A2 (wide pp) c2] rfl rfl ?d1 ?d2 ?d3 ?d4 ?d5 ?_)
      case d1 => first | exact one_new _ _ _ _ rfl | exact one_new _ _ _ _ (by simp)
      case d2 => first | rfl | (intro u hu; simp at hu; subst hu; rfl)
      case d3 => unfold maxLen; omega
      case d4 => omega
      case d5 => simp; omega
      · intro v' w5 hown' hgrow _
        have hob := own_block hout3
        have hrow3 : (w2.alloc (.cells #[.slice A2 (wide pp) c2] 35)).ownsRow wr.heap.size 3 1 (.slice A2 row.length c2) row.length (ints row) := own_alloc o2 _
        have hpg5 := (hpg2.below ((Below.refl _ _).alloc (Nat.le_refl _) (.cells #[.slice A2 (wide pp) c2] 35))).push hrow3 hsz HPG.out.hi_ hgrow (by rw [HLL.out]; exact hown')
        rw [← HS.out] at hpg5
        have hb5 : Below w.heap.size w w5 := (hbel2.alloc (by omega) (.cells #[.slice A2 (wide pp) c2] 35)).grown hgrow (by simp; omega) hob
        have HP := Lib.hid (And.intro hpg5 hb5)
        clear hown' hgrow hpg5 hb5 hpg2 hout3 hrow3 o2 b2 hbel2
        go_wp2
        go_roundw
        case rel => exact ⟨y + 1, _, by omega, by go_num, HP.out.1, HP.out.2⟩
        case measure => simp [intOf]; omega
    · obtain rfl : y = pp.length := by omega
      rw [List.take_length] at hpg
      obtain ⟨A2, c2, rfl⟩ := own_form hpg.out
      have o2 := hpg.own
      obtain ⟨g, b, c', r, rfl, hr, hrl, hx, hcy, hcx, hfz, hbb⟩ := o2.cell_ Hv.out Hk.out
      have h0 := (hbel.cell (p := ⟨bq, off, none⟩) hbq).trans h00
      have hput := (OwnG.far (w' := wr.drewN 1) o2 (fun _ _ _ => rfl)).put hr hx (k % wide pp) 0
      rw [cutF_eq hr] at hput
      have hbl : Below w.heap.size w ((wr.drewN 1).setCell ⟨b, k % wide pp, none⟩ (.int .i64 0)) := (below_drewN hbel 1).setCell (by omega) _
      have R : OutGr (cutF pp k) w (.returned (.slice (some ⟨g, 0, none⟩) pp.length c2)) ((wr.drewN 1).setCell ⟨b, k % wide pp, none⟩ (.int .i64 0)) := by
        refine ⟨_, c2, xs, by rw [HLN.out], ?_, hbl⟩
        have hs : ((wr.drewN 1).setCell ⟨b, k % wide pp, none⟩ (.int .i64 0)).heap.size = wr.heap.size := by simp [World.setCell, World.drewN]
        rw [hs, HLN.out]
        exact hput
      have HR := Lib.hid R
      clear hput hbl R o2 hr hx h00 hg hpg hbel
      generalize hWW : wide pp = W at *
      clear hWW
      have i0 : 0 < pp.length := by omega
      have t1 : ((k : Int) / (W : Int)).toNat = k / W := by rw [← Int.natCast_ediv, Int.toNat_natCast]
      have t2 : ((k : Int) % (W : Int)).toNat = k % W := by rw [← Int.natCast_emod, Int.toNat_natCast]
      have m1 : (k : Int).tmod (W : Int) = ((k % W : Nat) : Int) := by rw [Int.tmod_eq_emod_of_nonneg (by omega)]; exact (Int.natCast_emod k W).symm
      have i1 : ((W : Int) == 0) = false := beq_eq_false_iff_ne.2 (by omega)
      have i2 : ¬ W = 0 := by omega
      have j1 : 0 ≤ (k : Int) / (W : Int) := Int.ediv_nonneg (by omega) (by omega)
      have j2 : (k : Int) / (W : Int) < pp.length := by omega
      have j3 : 0 ≤ (k : Int) % (W : Int) := Int.emod_nonneg _ (by omega)
      have j4 : (k : Int) % (W : Int) < W := Int.emod_lt_of_pos _ (by omega)
      have j5 : IntKind.i64.wrap ((k : Int) / (W : Int)) = (k : Int) / (W : Int) := IntWalk.i64_in _ (by omega)
      go_wp2
      go_still_tail 16, (by kernel_rfl)
      change wpList _ _ _ _ _ (wr.drewN 1)
      go_wp2
      go_ret
      exact HR.out

end Go.Proofs.Ytbnggakfogcalab

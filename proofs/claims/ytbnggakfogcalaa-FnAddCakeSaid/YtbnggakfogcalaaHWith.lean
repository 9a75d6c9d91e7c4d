/- Contracts of chapter 5's model: a cake more or less, the highest place. -/
import Derived.StillTailTactics
import Derived.Deep.RegionWith
import Derived.Test.YtbnggakfogcalaaHSpec
import Derived.Test.YtbnggakfogcalaaCutS
import Derived.Test.YtbnggakfogcalaaHMeltI
namespace Go.Proofs.Ytbnggakfogcalaa
open Go.RowKit
set_option linter.unusedVariables false
set_option linter.unusedSimpArgs false
set_option maxHeartbeats 2000000 in
theorem sWith_any (pp : List (List Int)) (A : Option Addr) (c : Nat) (w : World) (hg : RdG w w.heap.size A pp) (hv : heapB pp = true) (k : Nat) (hk : k < cnt pp) (bz : Int) (hb0 : -12 ≤ bz) (hb1 : bz ≤ 12) :
    Calls Try.prog 63 #[.slice A pp.length c, .int .i64 (k : Nat), .int .i64 bz] w (OutGr (addF pp k bz) w) := by
  have hpv := heap_pond hv
  have hp : Pnd w w.heap.size A pp := ⟨hpv, hg⟩
  have hl := pond_len hpv
  have hwd := pond_wide hpv
  have hz := heap_thk hv hk
  obtain ⟨bq, off, A0, c0, rfl, hbq, h00⟩ := hp.row0
  have hy := row_y hk
  have hxm := Nat.mod_lt k (show 0 < wide pp by omega)
  have HROW : Hid (∀ (k : Nat) (r : List Int), pp[k]? = some r → r.length = wide pp) := Lib.hid fun k r h => (pond_row hpv h).1
  have Hv := Lib.hid hpv
  have HLN : Hid ((addF pp k bz).length = pp.length) := Lib.hid addF_len
  have Hk := Lib.hid hk
  have HEQ : Hid (∀ r, pp[k / wide pp]? = some r → pp.set (k / wide pp) (r.set (k % wide pp) (thk pp k + bz)) = addF pp k bz) := Lib.hid fun r hr => setF_eq hr
  obtain ⟨j0, hj, hy0, hy1, hy2⟩ := info_parts info_ints
  clear hv hpv hp
  go_enter Try.func63, Try.ntmps63
  go_wp2
  go_loopw [7, 8] (fun v i wr => ∃ (y : Nat) (xs : List Value), y ≤ pp.length ∧ i = .int .i64 y ∧ PG wr w.heap.size v y xs (pp.take y) ∧ Below w.heap.size w wr) (fun _ i _ => pp.length - (intOf i).toNat)
  case atStart => exact ⟨0, [], Nat.zero_le _, rfl, ⟨own_empty w _, rfl, fun k r hr => by simp at hr, fun i j u v b hu => by simp at hu, fun i u b hu => by simp at hu⟩, (Below.refl _ _).alloc (Nat.le_refl _) _⟩
  case round =>
    obtain ⟨y, xs, hyl, rfl, hpg, hbel⟩ := hrel
    have hsz := hbel.size
    have HBEL := Lib.hid hbel
    by_cases hlt : y < pp.length
    · obtain ⟨b, off', row, A', c', e, hb, hrow, hc, hrc, hcm, hr⟩ := (hg.below hbel).row_ hlt
      injection e with e
      injection e with e1 e2
      subst e1 e2
      have hrr := hr.more hsz
      have hrl := HROW.out y row hrow.out
      have HS := Lib.hid (take_snoc hrow.out)
      have HLL := Lib.hid hrl
      rw [hrl] at hc hrc
      have hcall := sCopyI_any (wide pp) row hrl (by omega) (by omega) A' c' wr hrr
      have HPG := Lib.hid hpg
      clear hr hrr hrl hpg hbel
      go_wp2_with fail
      refine hcall.mono ?_
      rintro e w2 ⟨A2, c2, rfl, o2, b2⟩
      rw [HLL.out]
      have hs2 := b2.size
      have hpg2 := HPG.out.below b2
      have hbel2 := HBEL.out.trans (b2.mono hsz)
      have hout3 := hpg2.out
      clear hcall
      go_wp2_with (at_builtin; refine wpList_append_own _ rfl _ _ 23 rfl (w.heap.size) 26 j0 (.slice none 0 0) 1 24 Try.underlying23 hj hy0 hy1 hy2 rfl (by decide) _ _ _ rfl (hout3.alloc _) ⟨w2.heap.size, 0, none⟩ 1 1 [.slice A2 (wide pp) c2] rfl rfl ?d1 ?d2 ?d3 ?d4 ?d5 ?_)
      case d1 => first | exact one_new _ _ _ _ rfl | exact one_new _ _ _ _ (by simp)
      case d2 => first | rfl | (intro u hu; simp at hu; subst hu; rfl)
      case d3 => unfold maxLen; omega
      case d4 => omega
      case d5 => simp; omega
      · intro v' w5 hown' hgrow _
        have hob := own_block hout3
        have hrow3 : (w2.alloc (.cells #[.slice A2 (wide pp) c2] 26)).ownsRow wr.heap.size 3 1 (.slice A2 row.length c2) row.length (ints row) := own_alloc o2 _
        have hpg5 := (hpg2.below ((Below.refl _ _).alloc (Nat.le_refl _) (.cells #[.slice A2 (wide pp) c2] 26))).push hrow3 hsz HPG.out.hi_ hgrow (by rw [HLL.out]; exact hown')
        rw [← HS.out] at hpg5
        have hb5 : Below w.heap.size w w5 := (hbel2.alloc (by omega) (.cells #[.slice A2 (wide pp) c2] 26)).grown hgrow (by simp; omega) hob
        have HP := Lib.hid (And.intro hpg5 hb5)
        clear hown' hgrow hpg5 hb5 hpg2 hout3 hrow3 o2 b2 hbel2
        go_wp2
        go_roundw
        case rel => exact ⟨y + 1, _, by omega, by go_num, HP.out.1, HP.out.2⟩
        case measure => simp [intOf]; omega
    · obtain rfl : y = pp.length := by omega
      rw [List.take_length] at hpg
      obtain ⟨A2, c2, rfl⟩ := own_form hpg.out
      have o2 := hpg.own
      obtain ⟨g, b, c', r, rfl, hr, hrl, hx, hcy, hcx, hfz, hbb⟩ := o2.cell_ Hv.out Hk.out
      have h0 := (hbel.cell (p := ⟨bq, off, none⟩) hbq).trans h00
      have hput := (OwnG.far (w' := wr.drewN 1) o2 (fun _ _ _ => rfl)).put hr hx (k % wide pp) (thk pp k + bz)
      rw [HEQ.out r hr] at hput
      have hbl : Below w.heap.size w ((wr.drewN 1).setCell ⟨b, k % wide pp, none⟩ (.int .i64 (thk pp k + bz))) := (below_drewN hbel 1).setCell (by omega) _
      have R : OutGr (addF pp k bz) w (.returned (.slice (some ⟨g, 0, none⟩) pp.length c2)) ((wr.drewN 1).setCell ⟨b, k % wide pp, none⟩ (.int .i64 (thk pp k + bz))) := by
        refine ⟨_, c2, xs, by rw [HLN.out], ?_, hbl⟩
        have hs : ((wr.drewN 1).setCell ⟨b, k % wide pp, none⟩ (.int .i64 (thk pp k + bz))).heap.size = wr.heap.size := by simp [World.setCell, World.drewN]
        rw [hs, HLN.out]
        exact hput
      have HR := Lib.hid R
      clear hput hbl R o2 hr hx h00 hg hpg hbel
      generalize thk pp k = z at *
      generalize hWW : wide pp = W at *
      clear hWW
      have i0 : 0 < pp.length := by omega
      have i1 : ((W : Int) == 0) = false := beq_eq_false_iff_ne.2 (by omega)
      have i2 : ¬ W = 0 := by omega
      have hq : k / W ≤ 81 := by omega
      have q2 : (k : Int) / (W : Int) = ((k / W : Nat) : Int) := (Int.natCast_ediv _ _).symm
      have q3 : (k : Int).tdiv (W : Int) = ((k / W : Nat) : Int) := by rw [Int.tdiv_eq_ediv_of_nonneg (by omega)]; exact q2
      have r2 : (k : Int) % (W : Int) = ((k % W : Nat) : Int) := (Int.natCast_emod _ _).symm
      have r3 : (k : Int).tmod (W : Int) = ((k % W : Nat) : Int) := by rw [Int.tmod_eq_emod_of_nonneg (by omega)]; exact r2
      have j6 : IntKind.i64.wrap (z + bz) = z + bz := IntWalk.i64_in _ (by omega)
      generalize k / W = Y at *
      generalize k % W = X at *
      go_wp2
      go_still_tail 15, (by kernel_rfl)
      change wpList _ _ _ _ _ (wr.drewN 1)
      go_wp2
      go_ret
      exact HR.out

end Go.Proofs.Ytbnggakfogcalaa

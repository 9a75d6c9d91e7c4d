/- Chapter 8: ponds copied, and new seasons. -/
import Derived.StillTailTactics
import Derived.Test.YtggdnpaiaijhgaaBSeaX
import Derived.Test.YtggdnpaiaijhgaaCutS
namespace Go.Proofs.Ytggdnpaiaijhgaa
open Go.RowKit
set_option linter.unusedVariables false
set_option linter.unusedSimpArgs false
set_option maxRecDepth 100000 in
set_option maxHeartbeats 2000000 in
theorem sRows_any (pp : List (List Int)) (A : Option Addr) (c : Nat) (w : World) (hg : RdG w w.heap.size A pp) (hv : pondB pp = true) :
    Calls Try.prog 62 #[.slice A pp.length c] w (OutGr pp w) := by
  have hp : Pnd w w.heap.size A pp := ⟨hv, hg⟩
  have hl := pond_len hv
  have hwd := pond_wide hv
  obtain ⟨bq, off, A0, c0, rfl, hbq, h00⟩ := hp.row0
  have HROW : Hid (∀ (k : Nat) (r : List Int), pp[k]? = some r → r.length = wide pp) := Lib.hid fun k r h => (pond_row hv h).1
  obtain ⟨j0, hj, hy0, hy1, hy2⟩ := info_parts info_ints
  clear hv hp h00
  go_enter Try.func62, Try.ntmps62
  go_wp2
  go_loopw [3, 4] (fun v i wr => ∃ (y : Nat) (xs : List Value), y ≤ pp.length ∧ i = .int .i64 y ∧ PG wr w.heap.size v y xs (pp.take y) ∧ Below w.heap.size w wr) (fun _ i _ => pp.length - (intOf i).toNat)
  case atStart => exact ⟨0, [], Nat.zero_le _, rfl, ⟨own_empty w _, rfl, fun k r hr => by simp at hr, fun i j u v b hu => by simp at hu, fun i u b hu => by simp at hu⟩, (Below.refl _ _).alloc (Nat.le_refl _) _⟩
  case round =>
    obtain ⟨y, xs, hyl, rfl, hpg, hbel⟩ := hrel
    have hsz := hbel.size
    have HBEL := Lib.hid hbel
    by_cases hlt : y < pp.length
    · obtain ⟨b, off', row, A', c', e, hb, hrow, hc, hrc, hcm, hr⟩ := (hg.below hbel).row_ hlt
      injection e with e
      injection e with e1 e2
      subst e1 e2
      have hrr := hr.more hsz
      have hrl := HROW.out y row hrow.out
      have HS := Lib.hid (take_snoc hrow.out)
      have HLL := Lib.hid hrl
      rw [hrl] at hc hrc
      have hcall := sCopyI_any (wide pp) row hrl (by omega) (by omega) A' c' wr hrr
      have HPG := Lib.hid hpg
      clear hr hrr hrl hpg hbel
      go_wp2_with fail
      refine hcall.mono ?_
      rintro e w2 ⟨A2, c2, rfl, o2, b2⟩
      rw [HLL.out]
      have hs2 := b2.size
      have hpg2 := HPG.out.below b2
      have hbel2 := HBEL.out.trans (b2.mono hsz)
      have hout3 := hpg2.out
      clear hcall
      go_wp2_with (at_builtin; refine wpList_append_own _ rfl _ _ 22 rfl (w.heap.size) 37 j0 (.slice none 0 0) 1 24 Try.underlying22 hj hy0 hy1 hy2 rfl (by decide) _ _ _ rfl (hout3.alloc _) ⟨w2.heap.size, 0, none⟩ 1 1 [.slice A2 (wide pp) c2] rfl rfl ?d1 ?d2 ?d3 ?d4 ?d5 ?_)
      case d1 => first | exact one_new _ _ _ _ rfl | exact one_new _ _ _ _ (by simp)
      case d2 => first | rfl | (intro u hu; simp at hu; subst hu; rfl)
      case d3 => unfold maxLen; omega
      case d4 => omega
      case d5 => simp; omega
      · intro v' w5 hown' hgrow _
        have hob := own_block hout3
        have hrow3 : (w2.alloc (.cells #[.slice A2 (wide pp) c2] 37)).ownsRow wr.heap.size 3 1 (.slice A2 row.length c2) row.length (ints row) := own_alloc o2 _
        have hpg5 := (hpg2.below ((Below.refl _ _).alloc (Nat.le_refl _) (.cells #[.slice A2 (wide pp) c2] 37))).push hrow3 hsz HPG.out.hi_ hgrow (by rw [HLL.out]; exact hown')
        rw [← HS.out] at hpg5
        have hb5 : Below w.heap.size w w5 := (hbel2.alloc (by omega) (.cells #[.slice A2 (wide pp) c2] 37)).grown hgrow (by simp; omega) hob
        have HP := Lib.hid (And.intro hpg5 hb5)
        clear hown' hgrow hpg5 hb5 hpg2 hout3 hrow3 o2 b2 hbel2
        go_wp2
        go_roundw
        case rel => exact ⟨y + 1, _, by omega, by go_num, HP.out.1, HP.out.2⟩
        case measure => simp [intOf]; omega
    · obtain rfl : y = pp.length := by omega
      rw [List.take_length] at hpg
      obtain ⟨A2, c2, rfl⟩ := own_form hpg.out
      have R : OutGr pp w (.returned (.slice A2 pp.length c2)) wr := ⟨A2, c2, xs, rfl, hpg.own, hbel⟩
      have HR := Lib.hid R
      clear R hpg hbel HBEL
      go_wp2
      go_ret
      exact HR.out
/-- a new season, if there is one -/
def newB (pp : List (List Int)) (a b : Int) : Bool := pondB pp && (inB a 1 9 && inB b 1 9)
def newT (pp : List (List Int)) (a b : Int) : Sea := if newB pp a b then ⟨pp, a, b, 0, 0, 0, 0, 0⟩ else seaZ
theorem ownG_nil (w : World) (lo hi : Nat) : OwnG w lo hi none 0 0 [] seaZ.pp := ⟨⟨rfl, .inl ⟨rfl, rfl⟩⟩, rfl, fun k r h => by simp [seaZ] at h, fun i j u v b h => by simp at h, fun i u b h => by simp at h, fun i u b h => by simp at h, fun b h => by cases h⟩

end Go.Proofs.Ytggdnpaiaijhgaa

/- Contracts of chapter 2: a cell of a pond is cut, the program; copies of rows. -/
import Derived.StillTailTactics
import Derived.Test.YtggdnpaiaijhgaaCut
namespace Go.Proofs.Ytggdnpaiaijhgaa
open Go.RowKit
set_option linter.unusedVariables false
set_option linter.unusedSimpArgs false
theorem vCell_is {q : Bool} (pp : List (List Int)) (A : Option Addr) (c : Nat) (w : World) (B : Nat) (hp : Pnd w B A pp) (z : Int) (h : inB z 0 ((cnt pp : Nat) - 1) = q) :
    Calls Try.prog 96 #[.slice A pp.length c, .int .i64 z] w fun e w' => e = .returned (.bool q) ∧ w = w' := by
  have := validCell_any pp A c w B hp z
  rw [h] at this
  exact this
theorem OwnG.cell_ {w : World} {base hi : Nat} {A : Option Addr} {n c : Nat} {xs : List Value} {pp : List (List Int)} (h : OwnG w base hi A n c xs pp) (hv : pondB pp = true) {k : Nat} (hk : k < cnt pp) :
    ∃ g b c' r, A = some ⟨g, 0, none⟩ ∧ pp[k / wide pp]? = some r ∧ r.length = wide pp ∧ xs[k / wide pp]? = some (.slice (some ⟨b, 0, none⟩) r.length c') ∧ w.cell? ⟨g, k / wide pp, none⟩ = some (.slice (some ⟨b, 0, none⟩) (wide pp) c') ∧ w.cell? ⟨b, k % wide pp, none⟩ = some (.int .i64 (thk pp k)) ∧ w.frozen? ⟨b, k % wide pp, none⟩ = false ∧ base ≤ b := by
  have hy := row_y hk
  have hwd := pond_wide hv
  have hr : pp[k / wide pp]? = some (pp[k / wide pp]'hy) := List.getElem?_eq_getElem hy
  have hrl := (pond_row hv hr).1
  obtain ⟨A', c', h1, h2⟩ := h.row _ _ hr
  have hn0 : 0 < n := by have h5 := (pond_len hv).1; rw [h.len] at h5; omega
  obtain ⟨g, rfl, hg, _, _, _⟩ := own_some h.out hn0
  obtain ⟨b, rfl, hb, _, _, _⟩ := own_some h2 (by rw [hrl]; omega)
  have h3 := own_cell h.out h1
  rw [hrl] at h3
  have h4 := own_cell h2 (k := k % wide pp) (x := .int .i64 (thk pp k)) (by rw [ints, List.getElem?_map, thk_row hv hk hr]; rfl)
  exact ⟨g, b, c', _, rfl, hr, hrl, h1, h3, h4, own_frozen h2 _, hb⟩
theorem cutF_eq {pp : List (List Int)} {k : Nat} {r : List Int} (hr : pp[k / wide pp]? = some r) : pp.set (k / wide pp) (r.set (k % wide pp) 0) = cutF pp k := by
  unfold cutF
  rw [List.getD_eq_getElem?_getD, hr]; rfl
set_option maxRecDepth 100000 in
set_option maxHeartbeats 2000000 in
theorem iCut_any (pp : List (List Int)) (A : Option Addr) (c : Nat) (w : World) (hg : RdG w w.heap.size A pp) (z : Int) :
    Calls Try.prog 99 #[.slice A pp.length c, .int .i64 z] w (OutGr (cutT pp z) w) := by
  cases hv : pondB pp
  · rw [cutT_no (by rw [hv]; rfl)]
    have Hv := Lib.hid hv
    clear hv
    go_enter Try.func99, Try.ntmps99
    go_wp2_with (go_at_call 56; refine (iVal_is _ _ _ _ _ hg Hv.out).mono ?_; rintro e w' ⟨rfl, rfl⟩)
    go_ret
    exact outGr_nil w
  cases hz : inB z 0 ((cnt pp : Nat) - 1)
  · rw [cutT_no (by rw [hz, Bool.and_false])]
    have hp : Pnd w w.heap.size A pp := ⟨hv, hg⟩
    have Hv := Lib.hid hv
    have HC := Lib.hid (vCell_is pp A c w _ hp z hz)
    clear hv hz
    go_enter Try.func99, Try.ntmps99
    go_wp2_with fail
    refine (iVal_is _ _ _ _ _ hg Hv.out).mono ?_
    rintro e w' ⟨rfl, rfl⟩
    go_wp2_with fail
    refine (HC.out).mono ?_
    rintro e w' ⟨rfl, rfl⟩
    go_wp2
    go_ret
    exact outGr_nil w
  have hz2 := inB_t hz
  obtain ⟨k, rfl⟩ := Int.eq_ofNat_of_zero_le hz2.1
  have hk : k < cnt pp := by omega
  rw [cutT_ok hv hk]
  have hp : Pnd w w.heap.size A pp := ⟨hv, hg⟩
  have hl := pond_len hv
  have hwd := pond_wide hv
  have HC := Lib.hid (vCell_is pp A c w _ hp k hz)
  have HCo := Lib.hid (iCopy_any pp A c w hg hv)
  obtain ⟨bq, off, A0, c0, rfl, hbq, h00⟩ := hp.row0
  have hy := row_y hk
  have hxm := Nat.mod_lt k (show 0 < wide pp by omega)
  have Hv := Lib.hid hv
  have HLN := Lib.hid (cutF_len pp k)
  have Hk := Lib.hid hk
  clear hv hz hp
  go_enter Try.func99, Try.ntmps99
  go_wp2_with fail
  refine (iVal_is _ _ _ _ _ hg Hv.out).mono ?_
  rintro e w' ⟨rfl, rfl⟩
  go_wp2_with fail
  refine (HC.out).mono ?_
  rintro e w' ⟨rfl, rfl⟩
  go_wp2_with fail
  refine (HCo.out).mono ?_
  rintro e w2 ⟨A2, c2, xs, rfl, o2, b2⟩
  obtain ⟨g, b, c', r, rfl, hr, hrl, hx, hcy, hcx, hfz, hbb⟩ := o2.cell_ Hv.out Hk.out
  have h0 := (b2.cell (p := ⟨bq, off, none⟩) hbq).trans h00
  have hput := (OwnG.far (w' := w2.drewN 1) o2 (fun _ _ _ => rfl)).put hr hx (k % wide pp) 0
  rw [cutF_eq hr] at hput
  have hbl : Below w.heap.size w ((w2.drewN 1).setCell ⟨b, k % wide pp, none⟩ (.int .i64 0)) := (below_drewN b2 1).setCell (by omega) _
  have R : OutGr (cutF pp k) w (.returned (.slice (some ⟨g, 0, none⟩) pp.length c2)) ((w2.drewN 1).setCell ⟨b, k % wide pp, none⟩ (.int .i64 0)) := by
    refine ⟨_, c2, xs, by rw [HLN.out], ?_, hbl⟩
    have hs : ((w2.drewN 1).setCell ⟨b, k % wide pp, none⟩ (.int .i64 0)).heap.size = w2.heap.size := by simp [World.setCell, World.drewN]
    rw [hs, HLN.out]
    exact hput
  have HR := Lib.hid R
  clear hput hbl R o2 b2 hr hx h00 hg
  generalize hWW : wide pp = W at *
  clear hWW
  have i0 : 0 < pp.length := by omega
  have t1 : ((k : Int) / (W : Int)).toNat = k / W := by rw [← Int.natCast_ediv, Int.toNat_natCast]
  have t2 : ((k : Int) % (W : Int)).toNat = k % W := by rw [← Int.natCast_emod, Int.toNat_natCast]
  have m1 : (k : Int).tmod (W : Int) = ((k % W : Nat) : Int) := by rw [Int.tmod_eq_emod_of_nonneg (by omega)]; exact (Int.natCast_emod k W).symm
  have i1 : ((W : Int) == 0) = false := beq_eq_false_iff_ne.2 (by omega)
  have i2 : ¬ W = 0 := by omega
  have j1 : 0 ≤ (k : Int) / (W : Int) := Int.ediv_nonneg (by omega) (by omega)
  have j2 : (k : Int) / (W : Int) < pp.length := by omega
  have j3 : 0 ≤ (k : Int) % (W : Int) := Int.emod_nonneg _ (by omega)
  have j4 : (k : Int) % (W : Int) < W := Int.emod_lt_of_pos _ (by omega)
  have j5 : IntKind.i64.wrap ((k : Int) / (W : Int)) = (k : Int) / (W : Int) := IntWalk.i64_in _ (by omega)
  go_wp2
  go_still_tail 16, (by kernel_rfl)
  change wpList _ _ _ _ _ (w2.drewN 1)
  go_wp2
  go_ret
  exact HR.out

end Go.Proofs.Ytggdnpaiaijhgaa

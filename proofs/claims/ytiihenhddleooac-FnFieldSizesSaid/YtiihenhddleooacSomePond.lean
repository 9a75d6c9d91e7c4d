/- The generators somePond and anyPond by contracts. -/
import Derived.Deep.RegionWith
import Derived.Test.YtiihenhddleooacPonds
namespace Go.Proofs.Ytiihenhddleooac
open Go.RowKit
set_option linter.unusedVariables false
set_option linter.unusedSimpArgs false
def SomePost (w : World) (B g p : Nat) (e : Ending) (w' : World) : Prop := ∃ (v : Value) (W : Nat), e = .returned v ∧ 1 ≤ W ∧ W ≤ 6 ∧ SomeRel w B g p W v (.int .i64 (0 : Nat)) w'
set_option maxRecDepth 100000 in
set_option maxHeartbeats 2000000 in
theorem somePond_any (w : World) (B g p : Nat) (h : Rdr w B g p) (hp : p < 900000) :
    Calls Try.prog 67 #[.pointer (some ⟨g, 0, none⟩)] w (SomePost w B g p) := by
  obtain ⟨i0, hi, hz0, hz1, hz2⟩ := info_parts info_int
  obtain ⟨j0, hj, hy0, hy1, hy2⟩ := info_parts info_ints
  have hlt0 := h.lt
  go_enter Try.func67, Try.ntmps67
  go_wp2_with fail
  refine (one_any [4, 5, 3, 6, 1, 2] 6 rfl _ _ _ _ _ (h.alloc _) (by omega) (by omega) (by omega) (alloc_at (by simp)) (by have := h.lt; omega)).mono ?_
  rintro e w1 ⟨W0, rfl, hmW0, rw1, gw1⟩
  have hbW0 : 1 ≤ W0 ∧ W0 ≤ 6 := by simp only [List.mem_cons, List.not_mem_nil, or_false] at hmW0; omega
  clear hmW0
  obtain ⟨W, rfl⟩ := Int.eq_ofNat_of_zero_le (show 0 ≤ W0 by omega)
  have hW1 : 1 ≤ W := by omega
  have hW6 : W ≤ 6 := by omega
  have hs1 : w.heap.size + 1 ≤ w1.heap.size := by have := gw1.size; simpa using this
  have hl1 := rw1.lt
  go_wp2_with fail
  refine (one_any [4, 3, 5, 2, 1] 5 rfl _ _ _ _ _ ((rw1.alloc _).alloc _) (by omega) (by omega) (by omega) (alloc_at (by simp)) (by simp; omega)).mono ?_
  rintro e w2 ⟨n, rfl, hmn, r2, g2⟩
  have hbn : 1 ≤ n ∧ n ≤ 5 := by simp only [List.mem_cons, List.not_mem_nil, or_false] at hmn; omega
  clear hmn
  obtain ⟨n0, rfl⟩ := Int.eq_ofNat_of_zero_le (show 0 ≤ n by omega)
  have o0 : w2.ownsRow w.heap.size 32 1 (.slice (some ⟨w1.heap.size, 0, none⟩) 0 0) 0 [] := own_base (own_only ((own_empty w1 32).alloc _) g2 (by omega)) (by omega)
  have hst : SomeRel w B g p W (.slice (some ⟨w1.heap.size, 0, none⟩) 0 0) (.int .i64 (n0 : Int)) w2 :=
    ⟨n0, 0, p + 2, [], [], rfl, by omega, ⟨o0, rfl, fun k r hr => by simp at hr, fun i j u v b hu => by simp at hu, fun i u b hu => by simp at hu⟩, by simp, by omega, r2, only_trans (only_alloc (only_alloc (only_trans (only_alloc (only_refl _ _) _) gw1) _) _) g2, by omega⟩
  have HST := Lib.hid hst
  clear hst o0 r2 g2 gw1 rw1
  go_wp2
  go_loopw [4, 5] (fun v n wr => SomeRel w B g p W v n wr) (fun _ n _ => (intOf n).toNat)
  case atStart => exact HST.out
  case round =>
    obtain ⟨j, m, q, xs, pp, rfl, hjm, hpg, hrows, hq, hR, hG, hjm1⟩ := hrel
    have HRows := Lib.hid hrows
    have hsz := hG.size
    clear hrows
    by_cases hlt : 0 < j
    · have hlt' : (0 : Int) < (j : Int) := by omega
      have hst2 : RowRel w wr.heap.size B g q W (.slice (some ⟨wr.heap.size, 0, none⟩) 0 0) (.int .i64 (0 : Nat)) u4 m xs pp (wr.alloc (.cells #[] 3)) :=
        ⟨0, q, [], Nat.zero_le _, rfl, rfl, own_empty wr _, hpg.below ((Below.refl _ _).alloc (Nat.le_refl _) _), by omega, hR.alloc _, only_alloc hG _, hsz, hpg.hi_, by simp⟩
      have HST2 := Lib.hid hst2
      clear hst2 hpg hR hG
      generalize hlo : wr.heap.size = lo at HST2
      go_wp2
      go_loopw [6, 7] (fun v i wi => RowRel w lo B g q W v i u4 m xs pp wi) (fun _ i _ => W - (intOf i).toNat)
      case atStart => rw [← hlo] at HST2 ⊢; exact HST2.out
      case round =>
        clear hlo
        obtain ⟨k, s, zs, hk, rfl, hzl, hown, hpg, hs, hR, hG, hwl, hxl, hls⟩ := hrel
        have HZ := Lib.hid hzl
        have HXL := Lib.hid hxl
        clear hzl hxl
        by_cases hkW : k < W
        · skip
          go_wp2_with fail
          refine (pick_any _ _ _ _ _ hR (by omega) (by omega)).mono ?_
          rintro e w3 ⟨a, rfl, a0, a1, r3, g3⟩
          go_wp2_with fail
          refine (one_any [60, 80, 120, 50, 30, 0, 40 + a] 7 rfl _ _ _ _ _ (r3.alloc _) (by omega) (by omega) (by omega) (alloc_at (by simp)) (by have := r3.lt; omega)).mono ?_
          rintro e w4 ⟨y, rfl, hmy, rw4, gw4⟩
          have hby : 0 ≤ y ∧ y ≤ 140 := by simp only [List.mem_cons, List.not_mem_nil, or_false] at hmy; omega
          clear hmy
          have hown4 := own_only (own_only hown g3 (by omega) |>.alloc _) gw4 (by omega)
          have hpg4 := ((hpg.only g3 hlt0).below ((Below.refl _ _).alloc (Nat.le_refl _) _)).only gw4 hlt0
          have hG4 := only_trans (only_alloc (only_trans hG g3) _) gw4
          have hsz4 := hG4.size
          have hls4 : lo ≤ w4.heap.size := by have := gw4.size; have := g3.size; simp at *; omega
          clear g3 gw4 hown hR hG r3 hpg
          go_wp2_with (at_builtin; refine wpList_append_own _ rfl _ _ 32 rfl (lo) 3 i0 (.int .i64 0) 1 8 Try.underlying32 hi hz0 hz1 hz2 rfl (by decide) _ _ _ rfl (hown4.alloc _) ⟨w4.heap.size, 0, none⟩ 1 1 [.int .i64 y] rfl rfl ?c1 ?c2 ?c3 ?c4 ?c5 ?_)
          case c1 => first | exact one_new _ _ _ _ rfl | exact one_new _ _ _ _ (by simp)
          case c2 => first | rfl | (intro u hu; simp at hu; subst hu; rfl)
          case c3 => unfold maxLen; omega
          case c4 => omega
          case c5 => simp; omega
          · intro v' w5 hown' hgrow _
            have hob := own_block hown4
            have R : w5.ownsRow lo 3 1 v' (k + 1) (ints (zs ++ [y])) := by simpa [ints] using hown'
            have hR5 : Rdr w5 B g (s + 1 + 1) := (rw4.alloc _).own hgrow (fun k hk => by have := hob k hk; omega)
            have hG5 : w.grownBy w5 (some g) := only_own (only_alloc hG4 _) hgrow (fun k hk => by have := hob k hk; omega)
            have hpg5 : PG w5 w.heap.size u4 m xs pp := (hpg4.below ((Below.refl _ _).alloc (Nat.le_refl _) _)).grow hgrow (own_alloc hown4 (.cells #[.int .i64 y] 3)) (fun q hq => own_types hown4 hpg4.out types_ne q hq) (fun i x q hx hq e => by have := HXL.out i x q hx e; have := hob q hq; omega)
            have hls5 : lo ≤ w5.heap.size := by have := hgrow.size; simp at this; omega
            have HR5 := Lib.hid R
            have HPG := Lib.hid hpg5
            clear hown' hgrow hown4 rw4 hG4 R hpg5 hpg4
            go_wp2
            go_roundw
            case rel => exact ⟨k + 1, s + 2, zs ++ [y], by omega, by go_num, by rw [List.length_append, HZ.out]; rfl, HR5.out, HPG.out, by omega, hR5, hG5, hwl, HXL.out, hls5⟩
            case measure => simp [intOf]; omega
        · obtain rfl : k = W := by omega
          obtain ⟨A6, c6, rfl⟩ := own_form hown
          have hout3 := hpg.out
          have hm5 : m ≤ 5 := by omega
          have hzl : zs.length = k := HZ.out
          go_wp2_with (at_builtin; refine wpList_append_own _ rfl _ _ 29 rfl (w.heap.size) 32 j0 (.slice none 0 0) 1 24 Try.underlying29 hj hy0 hy1 hy2 rfl (by decide) _ _ _ rfl (hout3.alloc _) ⟨wr.heap.size, 0, none⟩ 1 1 [.slice A6 k c6] rfl rfl ?d1 ?d2 ?d3 ?d4 ?d5 ?_)
          case d1 => first | exact one_new _ _ _ _ rfl | exact one_new _ _ _ _ (by simp)
          case d2 => first | rfl | (intro u hu; simp at hu; subst hu; rfl)
          case d3 => unfold maxLen; omega
          case d4 => omega
          case d5 => simp; omega
          · intro v' w5 hown' hgrow _
            have hob := own_block hout3
            have hrow3 : (wr.alloc (.cells #[.slice A6 k c6] 32)).ownsRow lo 3 1 (.slice A6 zs.length c6) zs.length (ints zs) := by rw [hzl]; exact own_alloc hown _
            have hpg5 := (hpg.below ((Below.refl _ _).alloc (Nat.le_refl _) (.cells #[.slice A6 k c6] 32))).push hrow3 hwl HXL.out hgrow (by rw [hzl]; exact hown')
            have hR5 : Rdr w5 B g s := (hR.alloc _).own hgrow (fun k hk => by have := hob k hk; omega)
            have hG5 : w.grownBy w5 (some g) := only_own (only_alloc hG _) hgrow hob
            have HPG := Lib.hid hpg5
            clear hown' hgrow hown hR hG hpg5 hpg hout3 hrow3
            go_wp2
            go_roundw
            case rel => exact ⟨j - 1, m + 1, s, _, _, by first | (congr 1; omega) | rfl, by omega, HPG.out, by intro r hr; rw [List.mem_append] at hr; rcases hr with hr | hr; exact HRows.out r hr; simp at hr; rw [hr]; exact hzl, by omega, hR5, hG5, by omega⟩
            case measure => simp [intOf]; omega
    · obtain rfl : j = 0 := by omega
      have R : SomeRel w B g p W u4 (.int .i64 (0 : Nat)) wr := ⟨0, m, q, xs, pp, rfl, hjm, hpg, HRows.out, hq, hR, hG, hjm1⟩
      have HR := Lib.hid R
      clear R hpg hR hG
      go_wp2
      go_ret
      exact ⟨_, W, rfl, hW1, hW6, HR.out⟩

end Go.Proofs.Ytiihenhddleooac

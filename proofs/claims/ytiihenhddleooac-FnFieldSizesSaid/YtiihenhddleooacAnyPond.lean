/- The generators anyPond, someLoad and pondCell by contracts. -/
import Derived.Deep.RegionWith
import Derived.Test.YtiihenhddleooacSomePond
import Derived.Test.YtiihenhddleooacValidS
namespace Go.Proofs.Ytiihenhddleooac
open Go.RowKit
set_option linter.unusedVariables false
set_option linter.unusedSimpArgs false
theorem pond_fin {w w' : World} {B g p q m c : Nat} {A : Option Addr} {xs : List Value} {pp : List (List Int)} (h : PG w' w.heap.size (.slice A m c) m xs pp) (hlt : g < w.heap.size) (hm : m ≤ 6) (hq : q ≤ p + 200) (hR : Rdr w' B g q) (hG : w.grownBy w' (some g)) : PondPost w B g p (.returned (.slice A m c)) w' := by
  have hl := h.len
  subst hl
  refine ⟨pp, A, c, q, rfl, hm, ?_, hq, hR, hG, Lib.hid fun w2 h2 => (h.only h2 hlt).rd⟩
  rcases h.out.2 with ⟨h0, hz⟩ | ⟨g, cap, cur, hv, _, _, hnc, hcm, _⟩
  · injection h0 with _ q1 q2; rw [q1, q2]; exact ⟨Nat.le_refl _, Nat.zero_le _⟩
  · injection hv with _ _ q2; subst q2; exact ⟨hnc, hcm⟩
theorem set_head (r : List Int) (y : Int) (rs : List (List Int)) : True := trivial
set_option maxRecDepth 100000 in
set_option maxHeartbeats 2000000 in
theorem anyPond_any (w : World) (B g p : Nat) (h : Rdr w B g p) (hp : p < 800000) :
    Calls Try.prog 57 #[.pointer (some ⟨g, 0, none⟩)] w (PondPost w B g p) := by
  obtain ⟨j0, hj, hy0, hy1, hy2⟩ := info_parts info_ints
  have hlt0 := h.lt
  go_enter Try.func57, Try.ntmps57
  go_wp2_with fail
  refine (somePond_any w B g p h (by omega)).mono ?_
  rintro e w1 ⟨v, W, rfl, hW1, hW6, hs⟩
  obtain ⟨j, m, q, xs, pp, hj0, hjm, hpg, hrows, hq, hR, hG, hjm1⟩ := hs
  have hj1 : j = 0 := by injection hj0 with _ hh; omega
  subst hj1
  obtain ⟨A, c, rfl⟩ := own_form hpg.out
  have HRows := Lib.hid hrows
  have hsz := hG.size
  clear hj0 hrows
  go_wp2_with fail
  refine (pick_any _ _ _ _ _ hR (by omega) (by omega)).mono ?_
  rintro e w2 ⟨a, rfl, a0, a1, r2, g2⟩
  have hpg2 := hpg.only g2 hlt0
  have hG2 := only_trans hG g2
  have hs2 := hG2.size
  clear hpg hG hR g2
  by_cases ha0 : a = 0
  · subst ha0
    obtain ⟨gA, rfl, hgA, _, _, _⟩ := own_some hpg2.out (by omega)
    obtain ⟨r0, rs, rfl⟩ : ∃ r0 rs, pp = r0 :: rs := by
      cases pp with
      | nil => have := hpg2.len; simp at this; omega
      | cons r0 rs => exact ⟨r0, rs, rfl⟩
    have hr0 : r0.length = W := HRows.out r0 (by simp)
    obtain ⟨A0, c0, hx0, ho0⟩ := hpg2.row 0 r0 rfl
    rw [hr0] at ho0
    obtain ⟨b0, rfl, hb0, hb0l, hc0W, _⟩ := own_some ho0 (by omega)
    have HX0 := Lib.hid hx0
    have hgAb : gA ≠ g := by omega
    have HCL : Hid (∀ w3, (w2.alloc (.cells #[.int .i64 (-1), .int .i64 1000, .int .i64 999] 3)).grownBy w3 (some g) → w3.cell? ⟨gA, 0, none⟩ = some (.slice (some ⟨b0, 0, none⟩) W c0) ∧ w3.cell? ⟨b0, 0, none⟩ = some (.int .i64 (at_ r0 0)) ∧ w3.frozen? ⟨b0, 0, none⟩ = false ∧ PG w3 w.heap.size (.slice (some ⟨gA, 0, none⟩) m c) m xs (r0 :: rs)) := Lib.hid fun w3 h3 => by
      have hpg3 := (hpg2.below ((Below.refl _ _).alloc (Nat.le_refl _) _)).only h3 hlt0
      obtain ⟨A5, c5, h5, h6⟩ := hpg3.row 0 r0 rfl
      rw [HX0.out] at h5
      injection h5 with h5
      injection h5 with e1 e2 e3
      subst e1 e3
      have hcell := own_cell hpg3.out HX0.out
      rw [hr0] at hcell
      exact ⟨hcell, own_cell h6 (ints_at' (by rw [hr0]; omega)), own_frozen h6 0, hpg3⟩
    have hcA := own_cell hpg2.out hx0
    rw [hr0] at hcA
    have HPG := Lib.hid hpg2
    have HR0 := Lib.hid hr0
    clear hpg2 hx0 ho0 hr0
    go_wp2
    go_region_with (go_at_call 28; refine (one_any [-1, 1000, 999] 3 rfl (World.drew (w2.alloc _)) _ _ _ _ ((r2.alloc _).drewN 1) (by omega) (by omega) (by omega) (alloc_at (w := w2) (by simp)) (by have := r2.lt; omega)).mono ?_; rintro e w3 ⟨y, rfl, hmy, r3, g3'⟩; have g3 : (w2.alloc (.cells #[.int .i64 (-1), .int .i64 1000, .int .i64 999] 3)).grownBy w3 (some g) := ⟨g3'.os, g3'.tape, g3'.output, g3'.size, g3'.block⟩; obtain ⟨hd1, hd2, hd3, hd4⟩ := HCL.out _ g3)
    all_goals
      have hput := hd4.put HX0.out y
      have R : PondPost w B g p (.returned (.slice (some ⟨gA, 0, none⟩) m c)) (w3.setCell ⟨b0, 0, none⟩ (.int .i64 y)) :=
        pond_fin hput hlt0 (by omega) (by omega) (r3.own (only_set (only_refl _ b0) (.inl rfl) _) (fun k hk => by injection hk with hk; omega)) (only_set (only_trans (only_alloc hG2 _) g3) (.inr (by simpa using hb0)) _)
      have HR := Lib.hid R
      clear hput hd4 R
      go_wp2
      go_ret
      exact HR.out
  · have hz : (a == 0) = false := by simpa using ha0
    by_cases ha1 : a = 1
    · subst ha1
      have hout3 : ((w2.alloc (.cells #[.int .i64 50] 3))).ownsRow w.heap.size 32 1 (.slice A m c) m xs := own_alloc hpg2.out _
      have hrow : ((w2.alloc (.cells #[.int .i64 50] 3))).ownsRow w2.heap.size 3 1 (.slice (some ⟨w2.heap.size, 0, none⟩) 1 1) 1 (ints [50]) := own_one w2 _ _
      go_wp2_with (at_builtin; refine wpList_append_own _ rfl _ _ 29 rfl (w.heap.size) 32 j0 (.slice none 0 0) 1 24 Try.underlying29 hj hy0 hy1 hy2 rfl (by decide) _ _ _ rfl (hout3.alloc _) ⟨w2.heap.size + 1, 0, none⟩ 1 1 [.slice (some ⟨w2.heap.size, 0, none⟩) 1 1] rfl rfl ?c1 ?c2 ?c3 ?c4 ?c5 ?_)
      case c1 => first | exact one_new _ _ _ _ rfl | exact one_new _ _ _ _ (by simp)
      case c2 => first | rfl | (intro u hu; simp at hu; subst hu; rfl)
      case c3 => unfold maxLen; omega
      case c4 => omega
      case c5 => simp; omega
      · intro v' w5 hown' hgrow _
        have hob := own_block hout3
        have hpg5 := ((hpg2.below ((Below.refl _ _).alloc (Nat.le_refl _) (.cells #[.int .i64 50] 3))).below ((Below.refl _ _).alloc (Nat.le_refl _) (.cells #[.slice (some ⟨w2.heap.size, 0, none⟩) 1 1] 32))).push (r := [50]) (own_alloc hrow _) (by omega) hpg2.hi_ hgrow hown'
        obtain ⟨A9, c9, rfl⟩ := own_form hown'
        have R : PondPost w B g p (.returned (.slice A9 (m + 1) c9)) w5 :=
          pond_fin hpg5 hlt0 (by omega) (by omega) (((r2.alloc _).alloc _).own hgrow (fun k hk => by have := hob k hk; omega)) (only_own (only_alloc (only_alloc hG2 _) _) hgrow hob)
        have HR := Lib.hid R
        clear hown' hgrow hpg5 R hpg2 hG2
        go_wp2
        go_ret
        exact HR.out
    · have hz1 : (a == 1) = false := by simpa using ha1
      by_cases ha2 : a = 2
      · subst ha2
        have R : PondPost w B g p (.returned (.slice none 0 0)) w2 := ⟨[], none, 0, q + 1, rfl, by simp, ⟨Nat.le_refl _, Nat.zero_le _⟩, by omega, r2, hG2, Lib.hid fun _ _ => RdG.nil_⟩
        have HR := Lib.hid R
        clear R hpg2 hG2
        go_wp2
        go_ret
        exact HR.out
      · have hz2 : (a == 2) = false := by simpa using ha2
        have R : PondPost w B g p (.returned (.slice A m c)) w2 := pond_fin hpg2 hlt0 (by omega) (by omega) r2 hG2
        have HR := Lib.hid R
        clear R hpg2 hG2
        go_wp2
        go_ret
        exact HR.out
def LoadPost (w : World) (B g p : Nat) (e : Ending) (w' : World) : Prop := ∃ z, e = .returned (.int .i64 z) ∧ -10 ≤ z ∧ z ≤ 1000000 ∧ Rdr w' B g (p + 1) ∧ w.grownBy w' (some g)
set_option maxRecDepth 100000 in
set_option maxHeartbeats 800000 in
theorem someLoad_any (w : World) (B g p : Nat) (h : Rdr w B g p) (hp : p < 900000) :
    Calls Try.prog 58 #[.pointer (some ⟨g, 0, none⟩)] w (LoadPost w B g p) := by
  go_enter Try.func58, Try.ntmps58
  go_wp2_with fail
  refine (one_any [2500, 3600, 1, 0, 10000, -5, 6400, 900001] 8 rfl _ _ _ _ _ (h.alloc _) (by omega) (by omega) (by omega) (alloc_at (by simp)) (by have := h.lt; omega)).mono ?_
  rintro e w1 ⟨z, rfl, hmz, rw1, gw1⟩
  have hbz : -10 ≤ z ∧ z ≤ 1000000 := by simp only [List.mem_cons, List.not_mem_nil, or_false] at hmz; omega
  clear hmz
  go_wp2
  go_ret
  exact ⟨z, rfl, hbz.1, hbz.2, rw1, only_trans (only_alloc (only_refl _ _) _) gw1⟩
def CellPost (w : World) (B g p : Nat) (e : Ending) (w' : World) : Prop := ∃ z q, e = .returned (.int .i64 z) ∧ -1 ≤ z ∧ z ≤ 81 ∧ q ≤ p + 2 ∧ Rdr w' B g q ∧ w.grownBy w' (some g)
end Go.Proofs.Ytiihenhddleooac

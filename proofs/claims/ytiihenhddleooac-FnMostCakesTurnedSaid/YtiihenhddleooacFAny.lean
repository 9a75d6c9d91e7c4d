/- The generator anyField by a contract. -/
import Derived.Deep.RegionWith
import Derived.Test.YtiihenhddleooacFSome
namespace Go.Proofs.Ytiihenhddleooac
open Go.RowKit
set_option linter.unusedVariables false
set_option linter.unusedSimpArgs false
def FieldPost (w : World) (B g p : Nat) (e : Ending) (w' : World) : Prop :=
  ∃ (ff : List (List Bool)) (A : Option Addr) (c q : Nat), e = .returned (.slice A ff.length c) ∧ ff.length ≤ 10 ∧ (ff.length ≤ c ∧ c ≤ maxLen) ∧ q ≤ p + 250 ∧ Rdr w' B g q ∧ w.grownBy w' (some g) ∧ Hid (∀ w2, w'.grownBy w2 (some g) → RdF w2 w2.heap.size A ff)
theorem field_fin {w w' : World} {B g p q m c : Nat} {A : Option Addr} {xs : List Value} {ff : List (List Bool)} (h : PF w' w.heap.size (.slice A m c) m xs ff) (hlt : g < w.heap.size) (hm : m ≤ 10) (hq : q ≤ p + 250) (hR : Rdr w' B g q) (hG : w.grownBy w' (some g)) : FieldPost w B g p (.returned (.slice A m c)) w' := by
  have hl := h.len
  subst hl
  refine ⟨ff, A, c, q, rfl, hm, ?_, hq, hR, hG, Lib.hid fun w2 h2 => (h.only h2 hlt).rd⟩
  rcases h.out.2 with ⟨h0, hz⟩ | ⟨g, cap, cur, hv, _, _, hnc, hcm, _⟩
  · injection h0 with _ q1 q2; rw [q1, q2]; exact ⟨Nat.le_refl _, Nat.zero_le _⟩
  · injection hv with _ _ q2; subst q2; exact ⟨hnc, hcm⟩
theorem make_twelve (w : World) :
    (Instr.makeSlice 27 (.int .i64 12) (.int .i64 12)).run Try.prog w = .ok (.slice (some ⟨w.heap.size, 0, none⟩) 12 12) (w.alloc (.cells (madeCells #[.bool false] 12) 4)) :=
  run_make_row' (P := Try.prog) 27 4 (.bool false) 1 Try.underlying27 info_bool rfl .i64 .i64 12 (by omega) (by omega) w
set_option maxRecDepth 100000 in
set_option maxHeartbeats 2000000 in
theorem anyField_any (w : World) (B g p : Nat) (h : Rdr w B g p) (hp : p < 800000) (most : Int) (hm0 : 1 ≤ most) (hm1 : most ≤ 9) :
    Calls Try.prog 27 #[.pointer (some ⟨g, 0, none⟩), .int .i64 most] w (FieldPost w B g p) := by
  obtain ⟨j0, hj, hy0, hy1, hy2⟩ := info_parts info_boolss
  have hlt0 := h.lt
  go_enter Try.func27, Try.ntmps27
  go_wp2_with fail
  refine (someField_any w B g p h (by omega) most hm0 hm1).mono ?_
  rintro e w1 ⟨v, W, rfl, hW1, hW6, hs⟩
  obtain ⟨j, m, q, xs, ff, hj0, hjm, hpg, hrows, hq, hR, hG, hjm1⟩ := hs
  have hj1 : j = 0 := by injection hj0 with _ hh; omega
  subst hj1
  obtain ⟨A, c, rfl⟩ := own_form hpg.out
  have hsz := hG.size
  clear hj0 hrows
  go_wp2_with fail
  refine (pick_any _ _ _ _ _ hR (by omega) (by omega)).mono ?_
  rintro e w2 ⟨a, rfl, a0, a1, r2, g2⟩
  have hpg2 := hpg.only g2 hlt0
  have hG2 := only_trans hG g2
  have hs2 := hG2.size
  clear hpg hG hR g2
  by_cases ha0 : a = 0
  · subst ha0
    have hmk := make_twelve w2
    have hout3 : ((w2.alloc (.cells (madeCells #[.bool false] 12) 4))).ownsRow w.heap.size 27 1 (.slice A m c) m xs := own_alloc hpg2.out _
    have hrow : ((w2.alloc (.cells (madeCells #[.bool false] 12) 4))).ownsRow w2.heap.size 4 1 (.slice (some ⟨w2.heap.size, 0, none⟩) 12 12) 12 (bools (List.replicate 12 false)) := by
      have := own_made w2 (.bool false) 12 4 (by unfold maxLen; omega)
      simpa [bools] using this
    go_wp2_with (at_builtin; refine wpList_append_own _ rfl _ _ 23 rfl (w.heap.size) 27 j0 (.slice none 0 0) 1 24 Try.underlying23 hj hy0 hy1 hy2 rfl (by decide) _ _ _ rfl (hout3.alloc _) ⟨w2.heap.size + 1, 0, none⟩ 1 1 [.slice (some ⟨w2.heap.size, 0, none⟩) 12 12] rfl rfl ?c1 ?c2 ?c3 ?c4 ?c5 ?_)
    case c1 => first | exact one_new _ _ _ _ rfl | exact one_new _ _ _ _ (by simp)
    case c2 => first | rfl | (intro u hu; simp at hu; subst hu; rfl)
    case c3 => unfold maxLen; omega
    case c4 => omega
    case c5 => simp; omega
    · intro v' w5 hown' hgrow _
      have hob := own_block hout3
      have hpg5 := ((hpg2.below ((Below.refl _ _).alloc (Nat.le_refl _) (.cells (madeCells #[.bool false] 12) 4))).below ((Below.refl _ _).alloc (Nat.le_refl _) (.cells #[.slice (some ⟨w2.heap.size, 0, none⟩) 12 12] 27))).push (r := List.replicate 12 false) (own_alloc hrow _) (by omega) hpg2.hi_ hgrow hown'
      obtain ⟨A9, c9, rfl⟩ := own_form hown'
      have R : FieldPost w B g p (.returned (.slice A9 (m + 1) c9)) w5 :=
        field_fin hpg5 hlt0 (by omega) (by omega) (((r2.alloc _).alloc _).own hgrow (fun k hk => by have := hob k hk; omega)) (only_own (only_alloc (only_alloc hG2 _) _) hgrow hob)
      have HR := Lib.hid R
      clear hown' hgrow hpg5 R hpg2 hG2
      go_wp2
      go_ret
      exact HR.out
  · have hz : (a == 0) = false := by simpa using ha0
    by_cases ha1 : a = 1
    · subst ha1
      have R : FieldPost w B g p (.returned (.slice none 0 0)) w2 := ⟨[], none, 0, q + 1, rfl, by simp, ⟨Nat.le_refl _, Nat.zero_le _⟩, by omega, r2, hG2, Lib.hid fun _ _ => RdF.nil_⟩
      have HR := Lib.hid R
      clear R hpg2 hG2
      go_wp2
      go_ret
      exact HR.out
    · have hz1 : (a == 1) = false := by simpa using ha1
      have R : FieldPost w B g p (.returned (.slice A m c)) w2 := field_fin hpg2 hlt0 (by omega) (by omega) r2 hG2
      have HR := Lib.hid R
      clear R hpg2 hG2
      go_wp2
      go_ret
      exact HR.out

end Go.Proofs.Ytiihenhddleooac

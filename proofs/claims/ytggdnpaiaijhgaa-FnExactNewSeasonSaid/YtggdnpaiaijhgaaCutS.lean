/- Contracts of chapter 2's model: a cell of a pond is cut. -/
import Derived.StillTailTactics
import Derived.Deep.RegionWith
import Derived.Test.YtggdnpaiaijhgaaCutI
namespace Go.Proofs.Ytggdnpaiaijhgaa
open Go.RowKit
set_option linter.unusedVariables false
set_option linter.unusedSimpArgs false
theorem PG.own {w : World} {base : Nat} {A : Option Addr} {n c : Nat} {xs : List Value} {pp : List (List Int)} (h : PG w base (.slice A n c) n xs pp) : OwnG w base w.heap.size A n c xs pp :=
  ⟨h.out, h.len, h.row, h.sep, fun i u b hu hb e => by
      have hi : i < n := by have := (List.getElem?_eq_some_iff.1 hu).1; have := h.out.1; omega
      obtain ⟨A', c', h1, h2⟩ := h.row i (pp[i]'(by rw [h.len]; exact hi)) (List.getElem?_eq_getElem _)
      rw [h1] at hu
      injection hu with hu
      subst hu
      exact own_types h2 h.out types_ne b hb e,
    h.hi_, fun b hb => own_lt h.out b hb⟩
set_option maxRecDepth 100000 in
set_option maxHeartbeats 1000000 in
theorem sCopyI_any (n : Nat) (row : List Int) (hl : row.length = n) (h1 : 1 ≤ n) (h9 : n ≤ 1000) (A : Option Addr) (c : Nat) (w : World) (hr : Rd w w.heap.size A (ints row)) :
    Calls Try.prog 86 #[.slice A n c] w (OutI row w) := by
  obtain ⟨i0, hi, hz0, hz1, hz2⟩ := info_parts info_int
  obtain ⟨b, off, rfl, hb, hcl⟩ := hr (by rintro e; have := ints_length row; rw [e] at this; simp at this; omega)
  have hown := own_empty w 3
  have HL := Lib.hid hl
  have HC := Lib.hid hcl
  clear hl hr hcl
  go_enter Try.func86, Try.ntmps86
  go_wp2_with (at_builtin; refine wpList_append_own _ rfl _ _ 37 rfl (w.heap.size) 3 i0 (.int .i64 0) 1 8 Try.underlying37 hi hz0 hz1 hz2 rfl (by decide) _ _ _ rfl hown ⟨b, off, none⟩ n c (ints row) rfl ?c0 ?c1 ?c2 ?c3 ?c4 ?c5 ?_)
  case c0 => rw [ints_length, HL.out]; omega
  case c1 =>
    intro j u hu
    rw [Addr.add_lit]
    exact (World.cell?_alloc_lt w _ _ hb).trans (HC.out j u hu)
  case c2 => exact oneCell_ints
  case c3 => unfold maxLen; omega
  case c4 => omega
  case c5 => simp
  · intro v' w5 hown' hgrow _
    have hob := own_block hown
    have hown2 : w5.ownsRow w.heap.size 3 1 v' n (ints row) := by simpa using hown'
    have hb5 : Below w.heap.size w w5 := ((Below.refl _ _).alloc (Nat.le_refl _) (.cells #[] 3)).grown hgrow (by simp) hob
    have R := out_mk HL.out hown2 hb5
    have HR := Lib.hid R
    clear hown' hgrow hown2 hb5 R
    go_wp2
    go_ret
    exact HR.out
end Go.Proofs.Ytggdnpaiaijhgaa

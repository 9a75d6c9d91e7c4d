/- Contracts of chapter 2: a cell of a pond is cut, the program; copies of rows. -/
import Derived.StillTailTactics
import Derived.Test.YtbnggakfogcalaaCut
namespace Go.Proofs.Ytbnggakfogcalaa
open Go.RowKit
set_option linter.unusedVariables false
set_option linter.unusedSimpArgs false
theorem vCell_is {q : Bool} (pp : List (List Int)) (A : Option Addr) (c : Nat) (w : World) (B : Nat) (hp : Pnd w B A pp) (z : Int) (h : inB z 0 ((cnt pp : Nat) - 1) = q) :
    Calls Try.prog 58 #[.slice A pp.length c, .int .i64 z] w fun e w' => e = .returned (.bool q) ∧ w = w' := by
  have := validCell_any pp A c w B hp z
  rw [h] at this
  exact this
theorem OwnG.cell_ {w : World} {base hi : Nat} {A : Option Addr} {n c : Nat} {xs : List Value} {pp : List (List Int)} (h : OwnG w base hi A n c xs pp) (hv : pondB pp = true) {k : Nat} (hk : k < cnt pp) :
    ∃ g b c' r, A = some ⟨g, 0, none⟩ ∧ pp[k / wide pp]? = some r ∧ r.length = wide pp ∧ xs[k / wide pp]? = some (.slice (some ⟨b, 0, none⟩) r.length c') ∧ w.cell? ⟨g, k / wide pp, none⟩ = some (.slice (some ⟨b, 0, none⟩) (wide pp) c') ∧ w.cell? ⟨b, k % wide pp, none⟩ = some (.int .i64 (thk pp k)) ∧ w.frozen? ⟨b, k % wide pp, none⟩ = false ∧ base ≤ b := by
  have hy := row_y hk
  have hwd := pond_wide hv
  have hr : pp[k / wide pp]? = some (pp[k / wide pp]'hy) := List.getElem?_eq_getElem hy
  have hrl := (pond_row hv hr).1
  obtain ⟨A', c', h1, h2⟩ := h.row _ _ hr
  have hn0 : 0 < n := by have h5 := (pond_len hv).1; rw [h.len] at h5; omega
  obtain ⟨g, rfl, hg, _, _, _⟩ := own_some h.out hn0
  obtain ⟨b, rfl, hb, _, _, _⟩ := own_some h2 (by rw [hrl]; omega)
  have h3 := own_cell h.out h1
  rw [hrl] at h3
  have h4 := own_cell h2 (k := k % wide pp) (x := .int .i64 (thk pp k)) (by rw [ints, List.getElem?_map, thk_row hv hk hr]; rfl)
  exact ⟨g, b, c', _, rfl, hr, hrl, h1, h3, h4, own_frozen h2 _, hb⟩
theorem cutF_eq {pp : List (List Int)} {k : Nat} {r : List Int} (hr : pp[k / wide pp]? = some r) : pp.set (k / wide pp) (r.set (k % wide pp) 0) = cutF pp k := by
  unfold cutF
  rw [List.getD_eq_getElem?_getD, hr]; rfl
end Go.Proofs.Ytbnggakfogcalaa

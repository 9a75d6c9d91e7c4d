/- What the law FnWaitsOf asks of WaitsOf: one number of it. -/
import Derived.Deep.RegionHeld3
import Derived.Test.YtcjcdlhmhhbkgaaLLaw
namespace Go.Proofs.Ytcjcdlhmhhbkgaa
open Go.RowKit
set_option linter.unusedVariables false
set_option linter.unusedSimpArgs false
theorem waits_at (zs : List Int) (A : Option Addr) (c : Nat) (w : World) (hr : Rd w w.heap.size A (ints zs)) (g : Int) (m : Nat) (h : waitsF zs g m = waitsT zs g m) (k : Nat) (hk : k < zs.length) :
    Calls Try.prog 25 #[.slice A zs.length c, .int .i64 g, .int .i64 m] w fun e w' => ∃ g5 c5, e = .returned (.slice (some ⟨g5, 0, none⟩) zs.length c5) ∧ w'.cell? ⟨g5, k, none⟩ = some (.int .i64 (la zs g m k - el zs k)) ∧ Below w.heap.size w w' := by
  refine (iWaits_is zs A c w hr g m h).mono ?_
  rintro e w5 ⟨A5, c5, rfl, o5, b5⟩
  rw [waitsF_len] at o5 ⊢
  obtain ⟨g5, rfl, _⟩ := own_some o5 (by omega)
  have := own_cell o5 (ints_el (zs := waitsF zs g m) (k := k) (by rw [waitsF_len]; exact hk))
  rw [waitsF_at hk] at this
  exact ⟨g5, c5, rfl, this, b5⟩

end Go.Proofs.Ytcjcdlhmhhbkgaa

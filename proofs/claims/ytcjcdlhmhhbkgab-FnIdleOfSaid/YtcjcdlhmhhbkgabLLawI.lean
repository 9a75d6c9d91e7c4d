/- Mathematics for the law FnIdleOf. -/
import Derived.Deep.RegionHeld3
import Derived.Test.YtcjcdlhmhhbkgabHelps
import Derived.Test.YtcjcdlhmhhbkgabLIdle
import Derived.Test.YtcjcdlhmhhbkgabLDrawsB
namespace Go.Proofs.Ytcjcdlhmhhbkgab
open Go.RowKit
set_option linter.unusedVariables false
set_option linter.unusedSimpArgs false
theorem idle_some {x : Int} {zs : List Int} {g : Int} (h : x = idleT zs g) (h0 : 0 ≤ x) (hz : zs.length ≠ 0) :
    ∃ q : Nat, zs.length = q + 1 ∧ TimesP zs ∧ (1 ≤ g ∧ g ≤ 60) ∧ el zs 0 ≤ x ∧ x ≤ el zs q ∧ 0 ≤ el zs 0 ∧ el zs 0 ≤ 2000 ∧ idleT (List.replicate zs.length (el zs 0)) g = el zs 0 := by
  cases hv : (timesB zs && inB g 1 60)
  · rw [idleT_no hv] at h; omega
  · rw [idleT_ok hv] at h
    simp only [Bool.and_eq_true] at hv
    have hT := timesB_t hv.1
    have hg := inB_t hv.2
    obtain ⟨q, hq⟩ : ∃ q, zs.length = q + 1 := ⟨zs.length - 1, by omega⟩
    have hb := hT.bd 0 (by omega)
    have hi := idle_bd (i := q) hT (show 0 ≤ g by omega) (by omega)
    rw [idleF_at hq] at h
    have hst := steady_times (t := el zs 0) (m := zs.length) hb.1 hb.2 hT.len
    refine ⟨q, hq, hT, hg, by omega, by omega, hb.1, hb.2, ?_⟩
    rw [idleT_ok (by rw [timesB_mk hst, hv.2]; rfl), idleF_at (q := q) (by rw [List.length_replicate]; exact hq), la_steady (by omega) (by omega)]
    omega

end Go.Proofs.Ytcjcdlhmhhbkgab

/- The law FnGainOf: honest bids among valid ones. -/
import Derived.Test.YtiihenhddleooaaTLawE
namespace Go.Proofs.Ytiihenhddleooaa
open Go.RowKit
set_option linter.unusedVariables false
set_option linter.unusedSimpArgs false
theorem aucB_set {bs : List Int} {n : Int} (h : aucB bs n = true) (i : Nat) {x : Int} (hx : 0 ≤ x ∧ x ≤ 10000) : aucB (bs.set i x) n = true := by
  obtain ⟨h8, hbz, hn0, hn8⟩ := aucB_t h
  unfold aucB
  rw [List.length_set, decide_eq_true h8, inB_mk (n := n) ⟨hn0, hn8⟩, Bool.true_and, Bool.and_true, List.all_eq_true]
  intro z hz
  rcases List.mem_or_eq_of_mem_set hz with hz | rfl
  · exact inB_mk (hbz z hz)
  · exact inB_mk hx
theorem gaT_ok {bs : List Int} {N I : Nat} {wo : Int} (h : aucB bs (N : Int) = true) (hI : I < bs.length) (hw : 0 ≤ wo ∧ wo ≤ 10000) : gaT bs N I wo = gaF bs N I wo := by
  unfold gaT
  rw [h, inB_mk (n := (I : Int)) (by omega), inB_mk (n := wo) hw]
  rfl
theorem gain_law {bs : List Int} {N I : Nat} {wo : Int} (hv : aucB bs (N : Int) = true) (hI : I < bs.length) (hw : 0 ≤ wo ∧ wo ≤ 10000) :
    0 ≤ gaT (bs.set I wo) N I wo ∧ gaT bs N I wo ≤ gaT (bs.set I wo) N I wo ∧ ∀ x, 0 ≤ x ∧ x ≤ 10000 → gaT (bs.set I x) N I wo ≤ gaT (bs.set I wo) N I wo := by
  have hat : at_ (bs.set I wo) I = wo := by rw [at_set _ _ _ _ hI, if_pos rfl]
  rw [gaT_ok (aucB_set hv I hw) (by rw [List.length_set]; exact hI) hw, gaT_ok hv hI hw]
  have h1 := gain_best (b1 := bs) (b2 := bs.set I wo) (i := I) (n := N) (wo := wo) (by rw [List.length_set]) hI (fun k hk => by rw [at_set _ _ _ _ hI, if_neg hk]) hat hw.1
  refine ⟨h1.2, h1.1, fun x hx => ?_⟩
  rw [gaT_ok (aucB_set hv I hx) (by rw [List.length_set]; exact hI) hw]
  exact (gain_best (b1 := bs.set I x) (b2 := bs.set I wo) (i := I) (n := N) (wo := wo) (by rw [List.length_set, List.length_set]) (by rw [List.length_set]; exact hI) (fun k hk => by rw [at_set _ _ _ _ hI, at_set _ _ _ _ hI, if_neg hk, if_neg hk]) hat hw.1).1

end Go.Proofs.Ytiihenhddleooaa

/- A turned pond has as many fields, and as large ones. -/
import Derived.Test.YtiihenhddleooacGSum
import Derived.Test.YtiihenhddleooacTurnM
namespace Go.Proofs.Ytiihenhddleooac
open Go.RowKit
set_option linter.unusedVariables false
set_option linter.unusedSimpArgs false
section
variable {pp : List (List Int)} {load : Int}
theorem tp_wide (hv : pondB pp = true) : wide (tpF pp) = pp.length := by
  have hw := pond_wide hv
  unfold wide
  rw [List.getD_eq_getElem?_getD, tpF_at (m := 0) (by omega)]
  exact colF_len pp 0
theorem tp_cnt (hv : pondB pp = true) : cnt (tpF pp) = wide pp * pp.length := by unfold cnt; rw [tpF_len, tp_wide hv]
theorem tp_nb (hv : pondB pp = true) : nbP (tpF pp) = nbs pp.length (wide pp * pp.length) := by unfold nbP; rw [tp_cnt hv, tp_wide hv]
theorem tp_thk (hv : pondB pp = true) {c : Nat} (hc : c < cnt pp) : thk (tpF pp) (tu (wide pp) pp.length c) = thk pp c := by
  have hw := pond_wide hv
  obtain ⟨x, y, hx, hy, rfl⟩ := co_ex (W := wide pp) (H := pp.length) (by omega) hc
  rw [tu_co y hx]
  unfold thk
  rw [tp_wide hv, (co x hy).1, (co x hy).2, (co y hx).1, (co y hx).2]
  have e1 : (tpF pp).getD x [] = colF pp x := by rw [List.getD_eq_getElem?_getD, tpF_at hx]; rfl
  rw [e1]
  unfold colF
  rw [List.getD_eq_getElem?_getD, List.getElem?_map, List.getElem?_eq_getElem hy, List.getD_eq_getElem?_getD (l := pp), List.getElem?_eq_getElem hy]
  rfl
theorem tp_ok (hv : pondB pp = true) : ∀ i, okF pp load i = true → okF (tpF pp) load (tu (wide pp) pp.length i) = true := fun i h => by
  have hw := pond_wide hv
  have hi := okF_lt i h
  unfold okF at h ⊢
  rw [Bool.and_eq_true, decide_eq_true_eq, decide_eq_true_eq] at h ⊢
  rw [tp_cnt hv, tp_thk hv hi]
  exact ⟨tu_lt (by omega) hi, h.2⟩
theorem tp_ko (hv : pondB pp = true) : ∀ i, okF (tpF pp) load i = true → okF pp load (tu pp.length (wide pp) i) = true := fun i h => by
  have hl := pond_len hv
  have hw := pond_wide hv
  have hi := okF_lt i h
  rw [tp_cnt hv] at hi
  have hlt : tu pp.length (wide pp) i < cnt pp := tu_lt (by omega) hi
  have e := tp_thk hv hlt
  rw [tu_tu (by omega) hi] at e
  unfold okF at h ⊢
  rw [Bool.and_eq_true, decide_eq_true_eq, decide_eq_true_eq] at h ⊢
  rw [← e]
  exact ⟨hlt, h.2⟩
/-- the greatest of a list and nought -/
def grF (l : List Int) : Int := l.foldl (fun m z => if m < z then z else m) 0
theorem grF_snoc (l : List Int) (z : Int) : grF (l ++ [z]) = if grF l < z then z else grF l := by
  unfold grF
  rw [List.foldl_append]; rfl
theorem grF_dom {a b : List Int} (h : ∀ z ∈ a, ∃ y ∈ b, z ≤ y) : grF a ≤ grF b := by
  have h1 := (hiG a 0).2.2
  have h2 := hiG b 0
  change grF a = 0 ∨ grF a ∈ a at h1
  change 0 ≤ grF b ∧ (∀ z ∈ b, z ≤ grF b) ∧ _ at h2
  rcases h1 with e | e
  · omega
  · obtain ⟨y, hy, hz⟩ := h _ e
    have := h2.2.1 y hy
    omega
theorem sz_dom {n n' : Nat} {nb nb' : Nat → List Nat} {ok ok' : Nat → Bool} {fs gs : List Int} (L : Lab n nb ok fs) (M : Lab n' nb' ok' gs)
    (h : ∀ c : Int, 0 ≤ c → c ≤ hi fs → ∃ d : Int, 0 ≤ d ∧ d ≤ hi gs ∧ cntP (fun i => decide (at_ fs i = c)) n ≤ cntP (fun i => decide (at_ gs i = d)) n') : grF (szF fs) ≤ grF (szF gs) := by
  refine grF_dom fun z hz => ?_
  have l1 : ((szF fs).length : Int) = hi fs + 1 := sz_len
  have l2 : ((szF gs).length : Int) = hi gs + 1 := sz_len
  obtain ⟨c, hc⟩ := List.mem_iff_getElem?.1 hz
  have hcl := (List.getElem?_eq_some_iff.1 hc).1
  obtain ⟨d, d0, d1, hle⟩ := h (c : Int) (by omega) (by omega)
  obtain ⟨d, rfl⟩ := Int.eq_ofNat_of_zero_le d0
  have hdl : d < (szF gs).length := by omega
  refine ⟨at_ (szF gs) d, at_mem hdl, ?_⟩
  rw [← at_of hc, sz_at hcl, sz_at hdl, L.len, M.len]
  omega
theorem sizes_turn {ts us : List Int} (hv : pondB pp = true) (ht : SizesR pp load ts) (hu : SizesR (tpF pp) load us) : us.length = ts.length ∧ grF us = grF ts := by
  have hl := pond_len hv
  have hw := pond_wide hv
  obtain ⟨fs, L, rfl⟩ := sizes_rel ht hv
  obtain ⟨gs, M, rfl⟩ := sizes_rel hu (pond_turned hv)
  have hk : ∀ i, okF pp load i = true → i < cnt pp := fun i h => okF_lt i h
  have hk' : ∀ i, okF (tpF pp) load i = true → i < wide pp * pp.length := fun i h => by have := okF_lt i h; rw [tp_cnt hv] at this; exact this
  rw [tp_nb hv, tp_cnt hv] at M
  have hR : ∀ i j, Rch (nbP pp) (okF pp load) i j → Rch (nbs pp.length (wide pp * pp.length)) (okF (tpF pp) load) (tu (wide pp) pp.length i) (tu (wide pp) pp.length j) := fun i j h => tu_rch (by omega) hk (tp_ok hv) h
  have hR' : ∀ i j, Rch (nbs pp.length (wide pp * pp.length)) (okF (tpF pp) load) i j → Rch (nbP pp) (okF pp load) (tu pp.length (wide pp) i) (tu pp.length (wide pp) j) := fun i j h => tu_rch (by omega) hk' (tp_ko hv) h
  have a := lab_map L M _ _ hk hk' hR hR' (fun i h => tu_tu (by omega) (hk i h))
  have b := lab_map M L _ _ hk' hk hR' hR (fun i h => tu_tu (by omega) (hk' i h))
  have l1 : ((szF fs).length : Int) = hi fs + 1 := sz_len
  have l2 : ((szF gs).length : Int) = hi gs + 1 := sz_len
  have d1 := sz_dom L M a.2
  have d2 := sz_dom M L b.2
  exact ⟨by omega, by omega⟩
end

end Go.Proofs.Ytiihenhddleooac

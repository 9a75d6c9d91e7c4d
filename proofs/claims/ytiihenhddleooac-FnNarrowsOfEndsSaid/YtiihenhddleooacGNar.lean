/- Narrow cells: a pond with a cell cut has the fields without that cell. -/
import Derived.Test.YtiihenhddleooacLawM
import Derived.Test.YtiihenhddleooacLCut
namespace Go.Proofs.Ytiihenhddleooac
open Go.RowKit
set_option linter.unusedVariables false
set_option linter.unusedSimpArgs false
section
variable {pp : List (List Int)} {load : Int} {k : Nat}
theorem cutF_cnt : cnt (cutF pp k) = cnt pp := by unfold cnt; rw [cutF_wide, cutF_len]
theorem cutF_nb : nbP (cutF pp k) = nbP pp := by unfold nbP; rw [cutF_cnt, cutF_wide]
theorem cutF_ok (hv : pondB pp = true) (hk : k < cnt pp) (hl : 1 ≤ load) : okF (cutF pp k) load = okW (okF pp load) k := by
  funext i
  unfold okW okF
  rw [cutF_cnt]
  by_cases hi : i < cnt pp
  · rw [cut_thk hv hk hi]
    by_cases e : i = k
    · rw [if_pos e, decide_eq_false (show ¬ load ≤ 0 * 0 by omega), decide_eq_false (show ¬ i ≠ k by omega)]; simp
    · rw [if_neg e, decide_eq_true e]; simp
  · rw [decide_eq_false hi]; simp
end
section
variable {n : Nat} {nb : Nat → List Nat} {ok : Nat → Bool} {fs gs : List Int} {i : Nat}
theorem Rch.less {j k : Nat} (h : Rch nb (okW ok i) j k) : Rch nb ok j k := Rch.mono (fun x hx => (okW_iff.1 hx).1) h
theorem lab_less (h : Lab n nb ok fs) (h' : Lab n nb (okW ok i) gs) (hi' : ok i = true) : hi fs - 1 ≤ hi gs := by
  have a := hi_ge fs
  have b := hi_ge gs
  have hex : ∀ c : Nat, ∃ j, c < (hi fs + 1).toNat → at_ fs j = c := fun c => by
    by_cases hc : c < (hi fs + 1).toNat
    · obtain ⟨j, _, hj⟩ := h.occ (c := (c : Int)) (by omega) (by omega)
      exact ⟨j, fun _ => hj⟩
    · exact ⟨0, fun h => absurd h hc⟩
  obtain ⟨g, hg⟩ := Classical.axiomOfChoice hex
  have h0 := h.pos i hi'
  have hh := at_hi fs i
  have hmem : (at_ fs i).toNat ∈ List.range (hi fs + 1).toNat := List.mem_range.2 (by omega)
  have hgs : ∀ c ∈ (List.range (hi fs + 1).toNat).erase (at_ fs i).toNat, c < (hi fs + 1).toNat ∧ at_ fs (g c) = c ∧ 0 ≤ at_ gs (g c) := fun c hc => by
    have h1 := (List.Nodup.mem_erase_iff List.nodup_range).1 hc
    have h2 := List.mem_range.1 h1.2
    have h3 := hg c h2
    refine ⟨h2, h3, h'.pos _ (okW_iff.2 ⟨h.okp.2 (by omega), fun e => ?_⟩)⟩
    rw [e] at h3
    omega
  have := inj_len ((List.range (hi fs + 1).toNat).erase (at_ fs i).toNat) (List.range (hi gs + 1).toNat) (fun c => (at_ gs (g c)).toNat) (List.nodup_range.erase _)
    (fun x hx => by
      have := hgs x hx
      have := at_hi gs (g x)
      exact List.mem_range.2 (by omega))
    (fun x hx y hy e => by
      have h1 := hgs x hx
      have h2 := hgs y hy
      have e2 : at_ gs (g x) = at_ gs (g y) := by omega
      have := h.con _ _ (Rch.less (h'.sep _ _ h1.2.2 e2))
      omega)
  rw [List.length_erase_of_mem hmem] at this
  simp only [List.length_range] at this
  omega
end
theorem sz_len {fs : List Int} : ((szF fs).length : Int) = hi fs + 1 := by
  unfold szF
  rw [szT_len, hi_toNat]
theorem sizes_rel {pp : List (List Int)} {load : Int} {ts : List Int} (h : SizesR pp load ts) (hv : pondB pp = true) : ∃ fs, Lab (cnt pp) (nbP pp) (okF pp load) fs ∧ ts = szF fs := by
  rcases h with ⟨h1, _⟩ | ⟨_, h⟩
  · rw [hv] at h1; cases h1
  · exact h
theorem nar_rel {pp : List (List Int)} {load : Int} {ts : List Int} (h : NarR pp load ts) (hv : pondB pp = true) : ∃ fs ys, Lab (cnt pp) (nbP pp) (okF pp load) fs ∧ IsNar (cnt pp) (nbP pp) (okF pp load) fs (cnt pp) ys ∧ ts = nats ys := by
  rcases h with ⟨h1, _⟩ | ⟨_, h⟩
  · rw [hv] at h1; cases h1
  · exact h
def memB (l : List Int) (z : Int) : Bool := decide (z ∈ l)
theorem nats_mem {l : List Nat} {k : Nat} : (k : Int) ∈ nats l ↔ k ∈ l := by
  unfold nats
  rw [List.mem_map]
  constructor
  · rintro ⟨x, hx, e⟩
    obtain rfl : x = k := by omega
    exact hx
  · intro h
    exact ⟨k, h, rfl⟩
/-- what the law compares, for a safe cell -/
theorem nar_cell {pp : List (List Int)} {load : Int} {ts ss us : List Int} {k : Nat} (hv : pondB pp = true) (hl : 1 ≤ load) (hk : k < cnt pp) (ho : okF pp load k = true) (ht : NarR pp load ts) (hs : SizesR pp load ss) (hu : SizesR (cutF pp k) load us) :
    memB ts (k : Int) = decide ((us.length : Int) > (ss.length : Int)) ∧ (ss.length : Int) - 1 ≤ (us.length : Int) := by
  obtain ⟨fs, ys, L, N, rfl⟩ := nar_rel ht hv
  obtain ⟨fs', L', rfl⟩ := sizes_rel hs hv
  obtain rfl := L.uniq L'
  obtain ⟨gs, M, rfl⟩ := sizes_rel hu (cutF_pond hv)
  rw [cutF_cnt, cutF_nb, cutF_ok hv hk hl] at M
  rw [sz_len, sz_len]
  have h1 := lab_less L M ho
  refine ⟨?_, by omega⟩
  unfold memB
  refine decide_eq_decide.2 ?_
  rw [nats_mem, N.mem, moreF_iff M]
  constructor
  · rintro ⟨_, _, h⟩; omega
  · intro h; exact ⟨hk, ho, by omega⟩
theorem nar_up {pp : List (List Int)} {load : Int} {ts : List Int} (hv : pondB pp = true) (ht : NarR pp load ts) : ts.Pairwise (· < ·) := by
  obtain ⟨fs, ys, L, N, rfl⟩ := nar_rel ht hv
  unfold nats
  rw [List.pairwise_map]
  exact N.srt.imp fun h => by omega
theorem up_at {ts : List Int} (h : ts.Pairwise (· < ·)) {i j : Nat} {x y : Int} (hi : ts[i]? = some x) (hj : ts[j]? = some y) (hij : i < j) : x < y := by
  obtain ⟨hi1, hi2⟩ := List.getElem?_eq_some_iff.1 hi
  obtain ⟨hj1, hj2⟩ := List.getElem?_eq_some_iff.1 hj
  rw [List.pairwise_iff_getElem] at h
  have := h i j hi1 hj1 hij
  rw [← hi2, ← hj2]; exact this

end Go.Proofs.Ytiihenhddleooac

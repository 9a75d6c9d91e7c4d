/- What the laws of chapter 2 say, of what the functions answer. -/
import Derived.Test.YtiihenhddleooacAns
namespace Go.Proofs.Ytiihenhddleooac
open Go.RowKit
set_option linter.unusedVariables false
set_option linter.unusedSimpArgs false
section
variable {pp : List (List Int)} {load f t : Int} {a b : Nat}
theorem okF_zero {i : Nat} (h : i < cnt pp) : okF pp 0 i = true := by
  unfold okF
  simp only [Bool.and_eq_true, decide_eq_true_eq]
  exact ⟨h, sq_nonneg _⟩
theorem rch_zero (hv : pondB pp = true) : ∀ c : Nat, c < cnt pp → RchL pp c 0 0 := fun c => by
  induction c using Nat.strongRecOn with
  | _ c ih =>
    intro hc
    have hw := pond_wide hv
    by_cases h0 : c = 0
    · subst h0; exact .refl (okF_zero hc)
    · by_cases hW : wide pp ≤ c
      · have hn : c - wide pp ∈ nbP pp c := nbs_mem.2 (.inl ⟨hW, rfl⟩)
        exact ((Rch.refl (okF_zero hc)).step hn (okF_zero (by omega))).trans (ih _ (by omega) (by omega))
      · have hm : c % wide pp = c := Nat.mod_eq_of_lt (by omega)
        have hn : c - 1 ∈ nbP pp c := nbs_mem.2 (.inr (.inl ⟨by omega, rfl⟩))
        exact ((Rch.refl (okF_zero hc)).step hn (okF_zero (by omega))).trans (ih _ (by omega) (by omega))
theorem RchL.symm (hv : pondB pp = true) (h : RchL pp a b load) : RchL pp b a load := Rch.symm (gr_pond hv) (fun i hi => okF_lt i hi) h
theorem rch_all (hv : pondB pp = true) (ha : a < cnt pp) (hb : b < cnt pp) {l : Int} (hl : l ≤ 0) : RchL pp a b l := RchL.down (Rch.trans (rch_zero hv a ha) (RchL.symm hv (rch_zero hv b hb))) hl
theorem IsGL.rch (hv : pondB pp = true) (ha : a < cnt pp) (hb : b < cnt pp) {z : Int} (h : IsGL pp a b z) : RchL pp a b z := by
  rcases h.thru with h0 | h0
  · exact rch_all hv ha hb (by omega)
  · exact h0
theorem way_rel {ts : List Int} (h : WayRel pp load (a : Int) (b : Int) ts) (hv : pondB pp = true) (ha : a < cnt pp) (hb : b < cnt pp) :
    ∃ rs, IsRisk (cnt pp) (nbP pp) (okF pp load) (rkF pp) a rs ∧ ((at_ rs b < 0 ∧ ts = []) ∨ (0 ≤ at_ rs b ∧ ∃ l, Back (rkF pp) rs (nbP pp) a b l ∧ ts = nats l)) := by
  rcases h with ⟨h1, _⟩ | ⟨c, d, e1, e2, _, _, _, h⟩
  · rw [good_mk hv ha, good_mk hv hb] at h1
    rcases h1 with h | h <;> cases h
  · obtain rfl : a = c := by omega
    obtain rfl : b = d := by omega
    exact h
theorem Back.ne_nil {rk : Nat → Int} {rs : List Int} {nb : Nat → List Nat} {l : List Nat} (h : Back rk rs nb a b l) : 0 < l.length := by
  cases h <;> simp
theorem way_pos {ts : List Int} (h : WayRel pp load (a : Int) (b : Int) ts) (hv : pondB pp = true) (ha : a < cnt pp) (hb : b < cnt pp) : 0 < ts.length ↔ RchL pp a b load := by
  obtain ⟨rs, h1, h2⟩ := way_rel h hv ha hb
  have h3 := h1.nn (rkF_ge pp) (c := b)
  rcases h2 with ⟨h4, rfl⟩ | ⟨h4, l, h5, rfl⟩
  · refine ⟨fun h => by simp at h, fun h => ?_⟩
    have := h3.2 h
    omega
  · exact ⟨fun _ => h3.1 h4, fun _ => by rw [nats_length]; exact h5.ne_nil⟩
theorem risk_rel {ts : List Int} (h : RiskR pp load (a : Int) ts) (hv : pondB pp = true) (ha : a < cnt pp) : IsRisk (cnt pp) (nbP pp) (okF pp load) (rkF pp) a ts := by
  rcases h with ⟨h1, _⟩ | ⟨c, e1, _, _, h⟩
  · rw [good_mk hv ha] at h1; cases h1
  · obtain rfl : a = c := by omega
    exact h
theorem great_rel {z : Int} (h : GreatR pp (a : Int) (b : Int) z) (hv : pondB pp = true) (ha : a < cnt pp) (hb : b < cnt pp) : IsGL pp a b z := by
  rcases h with ⟨h1, _⟩ | ⟨c, d, e1, e2, _, _, _, h⟩
  · rw [good_mk hv ha, good_mk hv hb] at h1
    rcases h1 with h | h <;> cases h
  · obtain rfl : a = c := by omega
    obtain rfl : b = d := by omega
    exact h
theorem IsGL.sym (hv : pondB pp = true) {z : Int} (h : IsGL pp a b z) : IsGL pp b a z :=
  ⟨h.lo, h.up, h.thru.imp id (fun g => RchL.symm hv g), fun l h1 h2 h3 => h.top l h1 h2 (RchL.symm hv h3)⟩
theorem IsGL.between (hv : pondB pp = true) {c : Nat} (ha : a < cnt pp) (hb : b < cnt pp) (hc : c < cnt pp) {x y z : Int} (hz : IsGL pp a b z) (hx : IsGL pp a c x) (hy : IsGL pp c b y) : x ≤ z ∨ y ≤ z := by
  by_cases h : x ≤ z
  · exact .inl h
  · by_cases h' : y ≤ z
    · exact .inr h'
    · exfalso
      have r1 := hx.rch hv ha hc
      have r2 := hy.rch hv hc hb
      have ux := hx.up
      have uy := hy.up
      by_cases hxy : x ≤ y
      · exact hz.top x (by omega) ux (Rch.trans r1 (RchL.down r2 hxy))
      · exact hz.top y (by omega) uy (Rch.trans (RchL.down r1 (by omega)) r2)
theorem risk_sym (hv : pondB pp = true) {rs ss : List Int} (hr : IsRisk (cnt pp) (nbP pp) (okF pp load) (rkF pp) a rs) (hs : IsRisk (cnt pp) (nbP pp) (okF pp load) (rkF pp) b ss) (h : RchL pp a b load) : at_ ss a = at_ rs b := by
  have G := gr_pond hv
  have hk : ∀ i, okF pp load i = true → i < cnt pp := fun i hi => okF_lt i hi
  obtain ⟨h1, h2⟩ := hr.way (rkF_ge pp) ((hr.nn (rkF_ge pp)).2 h)
  obtain ⟨g1, g2⟩ := hs.way (rkF_ge pp) ((hs.nn (rkF_ge pp)).2 (RchL.symm hv h))
  have := g2 _ (h1.back G hk)
  have := h2 _ (g1.back G hk)
  omega
end

section
variable {pp : List (List Int)} {load f t : Int} {a b : Nat} {w w' : World} {e : Ending}
theorem risk_out (h : AnsI (RiskR pp load (a : Int)) w e w') (hv : pondB pp = true) (ha : a < cnt pp) :
    ∃ rs A' c', IsRisk (cnt pp) (nbP pp) (okF pp load) (rkF pp) a rs ∧ e = .returned (.slice A' (cnt pp) c') ∧ w'.ownsRow w.heap.size 3 1 (.slice A' (cnt pp) c') (cnt pp) (ints rs) ∧ Below w.heap.size w w' := by
  obtain ⟨rs, h1, _, A', c', h2, h3, h4⟩ := h
  have h5 := risk_rel h1 hv ha
  rw [h5.len] at h2 h3
  exact ⟨rs, A', c', h5, h2, h3, h4⟩
theorem fields_rel {ts : List Int} (h : FieldsR pp load ts) (hv : pondB pp = true) : Lab (cnt pp) (nbP pp) (okF pp load) ts := by
  rcases h with ⟨h1, _⟩ | ⟨_, h⟩
  · rw [hv] at h1; cases h1
  · exact h
theorem fields_out (h : AnsI (FieldsR pp load) w e w') (hv : pondB pp = true) :
    ∃ fs A' c', Lab (cnt pp) (nbP pp) (okF pp load) fs ∧ e = .returned (.slice A' (cnt pp) c') ∧ w'.ownsRow w.heap.size 3 1 (.slice A' (cnt pp) c') (cnt pp) (ints fs) ∧ Below w.heap.size w w' := by
  obtain ⟨fs, h1, _, A', c', h2, h3, h4⟩ := h
  have h5 := fields_rel h1 hv
  rw [h5.len] at h2 h3
  exact ⟨fs, A', c', h5, h2, h3, h4⟩
theorem safe_out (h : OutB (safeT pp load) w e w') (hv : pondB pp = true) :
    ∃ A' c', e = .returned (.slice A' (cnt pp) c') ∧ w'.ownsRow w.heap.size 4 1 (.slice A' (cnt pp) c') (cnt pp) (bools (safeF pp load)) ∧ Below w.heap.size w w' := by
  rw [safeT_ok hv] at h
  obtain ⟨A', c', h2, h3, h4⟩ := h
  rw [safeF_len] at h2 h3
  exact ⟨A', c', h2, h3, h4⟩
theorem way_symm {ts us : List Int} (h : WayRel pp load (a : Int) (b : Int) ts) (g : WayRel pp load (b : Int) (a : Int) us) (hv : pondB pp = true) (ha : a < cnt pp) (hb : b < cnt pp) (h0 : 0 < ts.length) : 0 < us.length :=
  (way_pos g hv hb ha).2 (RchL.symm hv ((way_pos h hv ha hb).1 h0))
theorem way_some {ts : List Int} (h : WayRel pp load f t ts) (h0 : 0 < ts.length) : ∃ a b : Nat, f = a ∧ t = b ∧ a < cnt pp ∧ b < cnt pp ∧ pondB pp = true := by
  rcases h with ⟨_, rfl⟩ | ⟨a, b, h1, h2, h3, h4, h5, _⟩
  · simp at h0
  · exact ⟨a, b, h1, h2, h3, h4, h5⟩
end

theorem safeT_le (pp : List (List Int)) (load : Int) : (safeT pp load).length ≤ 1048576 := by
  cases hv : pondB pp
  · rw [safeT_no hv]; simp
  · rw [safeT_ok hv, safeF_len]
    have := pond_cnt hv
    omega
theorem safe_some {pp : List (List Int)} {load : Int} (h : (safeT pp load).length ≠ 0) : pondB pp = true := by
  cases hv : pondB pp
  · rw [safeT_no hv] at h; exact absurd rfl h
  · rfl
theorem fields_some {pp : List (List Int)} {load : Int} {ts : List Int} (h : FieldsR pp load ts) (h0 : ts.length ≠ 0) : pondB pp = true := by
  rcases h with ⟨_, rfl⟩ | ⟨h, _⟩
  · exact absurd rfl h0
  · exact h
section
variable {pp : List (List Int)} {load : Int} {fs : List Int} {k j : Nat}
theorem lab_left (L : Lab (cnt pp) (nbP pp) (okF pp load) fs) (e : j + 1 = k) (h : 0 < k % wide pp) (h1 : okF pp load k = true) (h2 : okF pp load j = true) : at_ fs k = at_ fs j := by
  have hn : k - 1 ∈ nbP pp k := nbs_mem.2 (.inr (.inl ⟨by omega, rfl⟩))
  have e2 : k - 1 = j := by omega
  rw [e2] at hn
  exact L.con _ _ ((Rch.refl h1).step hn h2)
theorem lab_up (L : Lab (cnt pp) (nbP pp) (okF pp load) fs) (e : j + wide pp = k) (h1 : okF pp load k = true) (h2 : okF pp load j = true) : at_ fs k = at_ fs j := by
  have hn : k - wide pp ∈ nbP pp k := nbs_mem.2 (.inl ⟨by omega, rfl⟩)
  have e2 : k - wide pp = j := by omega
  rw [e2] at hn
  exact L.con _ _ ((Rch.refl h1).step hn h2)
theorem lab_ok (L : Lab (cnt pp) (nbP pp) (okF pp load) fs) (k : Nat) : (okF pp load k = true ∧ 0 ≤ at_ fs k) ∨ (okF pp load k = false ∧ at_ fs k = -1) := by
  cases h : okF pp load k
  · exact .inr ⟨rfl, L.neg k h⟩
  · exact .inl ⟨rfl, L.pos k h⟩
theorem lab_next (L : Lab (cnt pp) (nbP pp) (okF pp load) fs) {nx : Int} (h0 : 0 ≤ nx) (h : ∀ j, j < k → at_ fs j < nx) : at_ fs k ≤ nx := by
  rcases Int.lt_or_le nx (at_ fs k) with h1 | h1
  · obtain ⟨j, hj, e⟩ := L.fst k nx h0 h1
    have := h j hj
    omega
  · exact h1
theorem next_more {nx nx' : Int} (h : ∀ j, j < k → at_ fs j < nx) (h1 : nx ≤ nx') (h2 : at_ fs k < nx') : ∀ j, j < k + 1 → at_ fs j < nx' := fun j hj => by
  rcases Nat.lt_or_ge j k with g | g
  · have := h j g; omega
  · obtain rfl : j = k := by omega
    exact h2
end

end Go.Proofs.Ytiihenhddleooac

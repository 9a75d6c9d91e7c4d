/- After frost alone a pond is nowhere thinner: what the law FnGrowPondWays asks. -/
import Derived.Test.YtbnggakfogcaladGrow
import Derived.Test.YtbnggakfogcaladLawM
import Derived.Test.YtbnggakfogcaladHelps
namespace Go.Proofs.Ytbnggakfogcalad
open Go.RowKit
set_option linter.unusedVariables false
set_option linter.unusedSimpArgs false
theorem grow_pond {pp : List (List Int)} {zs : List Int} (h : pondB pp = true) : pondB (growF pp zs) = true := by
  have hl := pond_len h
  have hw := pond_wide h
  have h0 : ∃ r, pp[0]? = some r := ⟨pp[0]'(by omega), List.getElem?_eq_getElem _⟩
  obtain ⟨r0, hr0⟩ := h0
  have hwd : wide (growF pp zs) = wide pp := by
    unfold wide
    rw [List.getD_eq_getElem?_getD, List.getD_eq_getElem?_getD, growF_at hr0, hr0]
    exact growRow_len zs r0
  unfold pondB rowsB
  simp only [Bool.and_eq_true, decide_eq_true_eq, List.all_eq_true]
  rw [growF_len, hwd]
  refine ⟨hl, fun r hr => ?_⟩
  obtain ⟨k, hk, e⟩ := List.getElem_of_mem hr
  rw [growF_len] at hk
  have hpk : pp[k]? = some (pp[k]) := List.getElem?_eq_getElem hk
  have hr2 := growF_at (zs := zs) hpk
  rw [List.getElem?_eq_getElem (by rw [growF_len]; exact hk), e] at hr2
  injection hr2 with hr2
  obtain ⟨g1, g2, g3, g4⟩ := pond_row h hpk
  subst hr2
  unfold rowB
  simp only [Bool.and_eq_true, decide_eq_true_eq, List.all_eq_true]
  rw [growRow_len]
  refine ⟨g1, ⟨g2, g3⟩, fun z hz => ?_⟩
  unfold growRow at hz
  rw [List.mem_map] at hz
  obtain ⟨t, _, rfl⟩ := hz
  exact inB_mk (rt_range _)
theorem grow_wide {pp : List (List Int)} {zs : List Int} (h : pondB pp = true) : wide (growF pp zs) = wide pp := by
  have hl := pond_len h
  have h0 : ∃ r, pp[0]? = some r := ⟨pp[0]'(by omega), List.getElem?_eq_getElem _⟩
  obtain ⟨r0, hr0⟩ := h0
  unfold wide
  rw [List.getD_eq_getElem?_getD, List.getD_eq_getElem?_getD, growF_at hr0, hr0]
  exact growRow_len zs r0
theorem grow_cnt {pp : List (List Int)} {zs : List Int} (h : pondB pp = true) : cnt (growF pp zs) = cnt pp := by
  unfold cnt
  rw [grow_wide h, growF_len]
theorem grow_nb {pp : List (List Int)} {zs : List Int} (h : pondB pp = true) : nbP (growF pp zs) = nbP pp := by
  unfold nbP
  rw [grow_wide h, grow_cnt h]
theorem grow_thk {pp : List (List Int)} {zs : List Int} (h : pondB pp = true) {c : Nat} (hc : c < cnt pp) : thk (growF pp zs) c = rt (runF (thk pp c * thk pp c) zs) := by
  have hy := row_y hc
  have hr : pp[c / wide pp]? = some (pp[c / wide pp]) := List.getElem?_eq_getElem hy
  have hx := thk_row h hc hr
  have h1 := growRow_at (zs := zs) hx
  have h2 : (growF pp zs).getD (c / wide pp) [] = growRow zs (pp[c / wide pp]) := by rw [List.getD_eq_getElem?_getD, growF_at hr]; rfl
  have h3 : thk (growF pp zs) c = ((growF pp zs).getD (c / wide pp) []).getD (c % wide pp) 0 := by
    show ((growF pp zs).getD (c / wide (growF pp zs)) []).getD (c % wide (growF pp zs)) 0 = _
    rw [grow_wide h]
  rw [h3, h2, List.getD_eq_getElem?_getD, h1]; rfl
theorem runF_cold : ∀ {zs : List Int} {m : Int}, (∀ z ∈ zs, z < 0) → m ≤ 998001 → m ≤ runF m zs
  | [], m, _, _ => Int.le_refl m
  | z :: zs, m, hz, hm => by
    have h0 := hz z (by simp)
    have h1 : m ≤ hourF m z ∧ hourF m z ≤ 998001 := by
      rw [hourF_cold h0]
      split <;> omega
    have h2 := runF_cold (zs := zs) (m := hourF m z) (fun x hx => hz x (by simp [hx])) h1.2
    show m ≤ runF (hourF m z) zs
    omega
theorem thk_grow {t : Int} {zs : List Int} (h0 : 0 ≤ t) (h1 : t ≤ 999) (hz : ∀ z ∈ zs, z < 0) : t ≤ rt (runF (t * t) zs) := by
  have hs := sq_in h0 h1
  have h2 := runF_cold (m := t * t) hz hs.2
  have h3 := runF_range (t * t) hs.1 hs.2 zs
  have h4 := rt_mono (t * t) (runF (t * t) zs) hs.1 h2 h3.2
  rwa [rt_of_sq t h0 h1] at h4
theorem grow_ok {pp : List (List Int)} {zs : List Int} {load : Int} (h : pondB pp = true) (hz : ∀ z ∈ zs, z < 0) : ∀ i, okF pp load i = true → okF (growF pp zs) load i = true := fun i hi => by
  have hc := okF_lt i hi
  have hl := okF_le hi
  have hb := thk_bd h hc
  have hg := thk_grow hb.1 hb.2 hz
  have hs := sq_mono hb.1 hg
  rw [← grow_thk h hc] at hs
  unfold okF
  simp only [Bool.and_eq_true, decide_eq_true_eq]
  exact ⟨by rw [grow_cnt h]; exact hc, by omega⟩
theorem grow_rch {pp : List (List Int)} {zs : List Int} {a b : Nat} {load : Int} (h : pondB pp = true) (hz : ∀ z ∈ zs, z < 0) (hr : RchL pp a b load) : RchL (growF pp zs) a b load := by
  unfold RchL at *
  rw [grow_nb h]
  exact hr.mono (grow_ok h hz)
theorem grow_good {pp : List (List Int)} {zs : List Int} {f : Int} (h : pondB pp = true) : goodB (growF pp zs) f = goodB pp f := by
  unfold goodB
  rw [h, grow_pond h, grow_cnt h]
theorem grow_great {pp : List (List Int)} {zs : List Int} {f t x y : Int} (h : pondB pp = true) (hz : ∀ z ∈ zs, z < 0) (hx : GreatR pp f t x) (hy : GreatR (growF pp zs) f t y) : x ≤ y := by
  rcases hx with ⟨hb, rfl⟩ | ⟨a, b, rfl, rfl, ha, hb, _, hg⟩
  · rcases hy with ⟨_, rfl⟩ | ⟨_, _, _, _, _, _, _, hg⟩
    · omega
    · have := hg.lo; omega
  · have hg2 := great_rel hy (grow_pond h) (by rw [grow_cnt h]; exact ha) (by rw [grow_cnt h]; exact hb)
    false_or_by_contra
    next hlt =>
    exact hg2.top x (by omega) hg.up (grow_rch h hz (hg.rch h ha hb))
theorem grow_way {pp : List (List Int)} {zs ts us : List Int} {load f t : Int} (h : pondB pp = true) (hz : ∀ z ∈ zs, z < 0) (ht : WayRel pp load f t ts) (hu : WayRel (growF pp zs) load f t us) (h0 : 0 < ts.length) : 0 < us.length := by
  obtain ⟨a, b, rfl, rfl, ha, hb, _⟩ := way_some ht (by omega)
  refine (way_pos hu (grow_pond h) (by rw [grow_cnt h]; exact ha) (by rw [grow_cnt h]; exact hb)).2 (grow_rch h hz ((way_pos ht h ha hb).1 h0))
theorem eqT_b (zs : List Int) (A A' : Option Addr) (c c' : Nat) (w : World) (B : Nat) (hr : Rd w B A (ints zs)) (hr' : Rd w B A' (ints zs)) (hn : zs.length ≤ 1048576) :
    Calls Try.prog 17 #[.slice A zs.length c, .slice A' zs.length c'] w fun e w' => e = .returned (.bool true) ∧ Below w.heap.size w w' :=
  (equalInts_same zs A A' c c' w B hr hr' hn).mono fun _ _ ⟨h, n, e⟩ => ⟨h, e ▸ below_drewN (Below.refl _ _) n⟩
theorem RdG.up {w w' : World} {A : Option Addr} {pp : List (List Int)} (h : RdG w w.heap.size A pp) (hb : Below w.heap.size w w') : RdG w' w'.heap.size A pp := (h.below hb).more hb.size
theorem rd_cold (w : World) (T : TypeId) : Rd (w.alloc (.cells #[.int .i64 (-100), .int .i64 (-50)] T)) (w.alloc (.cells #[.int .i64 (-100), .int .i64 (-50)] T)).heap.size (some ⟨w.heap.size, 0, none⟩) (ints [-100, -50]) := by
  have h := rd_new w T [-100, -50]
  exact h.more (by simp)
theorem cold_temps : tempsB [-100, -50] = true := by decide
theorem cold_neg : ∀ z ∈ ([-100, -50] : List Int), z < 0 := by decide

end Go.Proofs.Ytbnggakfogcalad

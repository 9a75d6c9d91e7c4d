/- Plain mathematics of chapter 5: heaps with one number changed, the highest place, melting. Nothing of the program. -/
import Derived.Test.YtggdnpaiaijhgaaHMath
namespace Go.Proofs.Ytggdnpaiaijhgaa
open Go.RowKit
set_option linter.unusedVariables false
set_option linter.unusedSimpArgs false
/-- the number of one cell is z -/
def setF (pp : List (List Int)) (k : Nat) (z : Int) : List (List Int) := pp.set (k / wide pp) ((pp.getD (k / wide pp) []).set (k % wide pp) z)
section
variable {pp : List (List Int)} {k : Nat} {z : Int}
theorem setF_len : (setF pp k z).length = pp.length := by simp [setF]
theorem setF_wide : wide (setF pp k z) = wide pp := by
  unfold wide setF
  rw [List.getD_eq_getElem?_getD, List.getD_eq_getElem?_getD, List.getElem?_set]
  split
  · rename_i e
    split
    · rename_i h2
      simp only [Option.getD_some, List.length_set]
      rw [List.getD_eq_getElem?_getD, e]
    · rename_i h2
      obtain rfl : pp = [] := List.eq_nil_of_length_eq_zero (by omega)
      rfl
  · rfl
theorem setF_cnt : cnt (setF pp k z) = cnt pp := by unfold cnt; rw [setF_wide, setF_len]
theorem setF_eq {r : List Int} (hr : pp[k / wide pp]? = some r) : pp.set (k / wide pp) (r.set (k % wide pp) z) = setF pp k z := by
  unfold setF
  rw [List.getD_eq_getElem?_getD, hr]; rfl
theorem set_grid {M : Int} (hv : gridB M pp = true) (hz : 0 ≤ z ∧ z ≤ M) : gridB M (setF pp k z) = true := by
  refine grid_mk (W := wide pp) (by rw [setF_len]; exact grid_len hv) setF_wide fun r hr => ?_
  obtain ⟨j, hj, e⟩ := List.getElem_of_mem hr
  have hj2 : j < pp.length := by rw [setF_len] at hj; exact hj
  have hg := grid_row hv (List.getElem?_eq_getElem hj2)
  have he : (setF pp k z)[j]? = some r := by rw [List.getElem?_eq_getElem hj, e]
  unfold setF at he
  rw [List.getElem?_set] at he
  by_cases hk : k / wide pp = j
  · rw [if_pos hk, if_pos (by omega)] at he
    injection he with he
    rw [hk, List.getD_eq_getElem?_getD, List.getElem?_eq_getElem hj2] at he
    simp only [Option.getD_some] at he
    subst he
    rw [List.length_set]
    refine ⟨hg.1, hg.2.1, hg.2.2.1, fun y hy => ?_⟩
    rcases List.mem_or_eq_of_mem_set hy with hy | rfl
    · exact hg.2.2.2 y hy
    · exact hz
  · rw [if_neg hk, List.getElem?_eq_getElem hj2] at he
    injection he with he
    subst he
    exact hg
theorem set_at2 {x y : Nat} (hx : x < wide pp) (hxl : ∀ r, pp[y]? = some r → r.length = wide pp) (hk : k < cnt pp) : at2 (setF pp k z) x y = if x = k % wide pp ∧ y = k / wide pp then z else at2 pp x y := by
  have hyk := row_y hk
  unfold at2 setF
  simp only [List.getD_eq_getElem?_getD, List.getElem?_set]
  by_cases e : k / wide pp = y
  · subst e
    rw [if_pos rfl, if_pos hyk]
    simp only [Option.getD_some, List.getElem?_set]
    have hl := hxl _ (List.getElem?_eq_getElem hyk)
    rw [List.getElem?_eq_getElem hyk]
    simp only [Option.getD_some]
    by_cases e2 : k % wide pp = x
    · rw [if_pos e2, if_pos (by omega), if_pos ⟨e2.symm, trivial⟩]; rfl
    · rw [if_neg e2, if_neg fun h => e2 h.1.symm]
  · rw [if_neg e, if_neg fun h => e h.2.symm]
theorem set_thk (hv : pondB pp = true) (hk : k < cnt pp) {c : Nat} (hc : c < cnt pp) : thk (setF pp k z) c = if c = k then z else thk pp c := by
  have hw := pond_wide hv
  rw [thk_at2, setF_wide, set_at2 (Nat.mod_lt _ (by omega)) (fun r hr => (pond_row hv hr).1) hk, thk_at2]
  have h1 := Nat.div_add_mod c (wide pp)
  have h2 := Nat.div_add_mod k (wide pp)
  by_cases e : c = k
  · subst e; rw [if_pos ⟨rfl, rfl⟩, if_pos rfl]
  · rw [if_neg e, if_neg]
    rintro ⟨e1, e2⟩
    exact e (by rw [← h1, ← h2, e1, e2])
theorem set_hgt (hv : pondB pp = true) (hk : k < cnt pp) (x y : Int) : hgt (setF pp k z) x y = if x = ((k % wide pp : Nat) : Int) ∧ y = ((k / wide pp : Nat) : Int) then z else hgt pp x y := by
  have hw := pond_wide hv
  have hyk := row_y hk
  have hxk := Nat.mod_lt k (show 0 < wide pp by omega)
  unfold hgt
  rw [setF_wide, setF_len]
  by_cases h : 0 ≤ x ∧ x < wide pp ∧ 0 ≤ y ∧ y < pp.length
  · rw [if_pos h, if_pos h, set_at2 (by omega) (fun r hr => (pond_row hv hr).1) hk]
    by_cases e : x = ((k % wide pp : Nat) : Int) ∧ y = ((k / wide pp : Nat) : Int)
    · rw [if_pos e, if_pos ⟨by omega, by omega⟩]
    · rw [if_neg e, if_neg fun h2 => e ⟨by generalize k % wide pp = q at *; omega, by generalize k / wide pp = q at *; omega⟩]
  · rw [if_neg h, if_neg h, if_neg]
    rintro ⟨e1, e2⟩
    generalize k % wide pp = q at *
    generalize k / wide pp = p at *
    exact h ⟨by omega, by omega, by omega, by omega⟩
theorem hgt_thk (hv : pondB pp = true) {c : Nat} (hc : c < cnt pp) : hgt pp ((c % wide pp : Nat) : Int) ((c / wide pp : Nat) : Int) = thk pp c := by
  have hw := pond_wide hv
  rw [hgt_in (Nat.mod_lt _ (by omega)) (row_y hc)]; rfl
end
def addF (pp : List (List Int)) (k : Nat) (b : Int) : List (List Int) := setF pp k (thk pp k + b)
theorem addF_zero {pp : List (List Int)} {k : Nat} (hv : pondB pp = true) (hk : k < cnt pp) : addF pp k 0 = pp := by
  have hyk := row_y hk
  have hw := pond_wide hv
  have hr : pp[k / wide pp]? = some (pp[k / wide pp]'hyk) := List.getElem?_eq_getElem hyk
  have ht := thk_row hv hk hr
  unfold addF
  rw [← setF_eq hr, Int.add_zero]
  have e : (pp[k / wide pp]'hyk).set (k % wide pp) (thk pp k) = pp[k / wide pp]'hyk := by
    apply List.ext_getElem?
    intro i
    rw [List.getElem?_set]
    split
    · next h => subst h; rw [if_pos (List.getElem?_eq_some_iff.1 ht).1, ht]
    · rfl
  rw [e]
  exact List.set_getElem_self hyk
theorem addF_heap {pp : List (List Int)} {k : Nat} {b : Int} (hv : heapB pp = true) (hb : 0 ≤ thk pp k + b ∧ thk pp k + b ≤ 12) : heapB (addF pp k b) = true := set_grid hv hb
theorem addF_len {pp : List (List Int)} {k : Nat} {b : Int} : (addF pp k b).length = pp.length := setF_len
theorem addF_wide {pp : List (List Int)} {k : Nat} {b : Int} : wide (addF pp k b) = wide pp := setF_wide
theorem addF_cnt {pp : List (List Int)} {k : Nat} {b : Int} : cnt (addF pp k b) = cnt pp := setF_cnt
theorem cakes_add {pp : List (List Int)} {k : Nat} {b : Int} (hv : heapB pp = true) (hk : k < cnt pp) : cakesF (addF pp k b) = cakesF pp + b := by
  have hp := heap_pond hv
  have hw := pond_wide hp
  have hyk := row_y hk
  have hxk := Nat.mod_lt k (show 0 < wide pp by omega)
  have hrl : ∀ (j : Nat) (r : List Int), (addF pp k b)[j]? = some r → r.length = wide (addF pp k b) := by
    intro j r hr
    have hjl : j < pp.length := by have := (List.getElem?_eq_some_iff.1 hr).1; rwa [addF_len] at this
    have hg := grid_row hv (List.getElem?_eq_getElem hjl)
    rw [addF_wide]
    unfold addF setF at hr
    rw [List.getElem?_set] at hr
    by_cases e : k / wide pp = j
    · subst e
      rw [if_pos rfl, if_pos hjl] at hr
      injection hr with hr
      subst hr
      rw [List.length_set, List.getD_eq_getElem?_getD, List.getElem?_eq_getElem hjl]
      exact hg.1
    · rw [if_neg e, List.getElem?_eq_getElem hjl] at hr
      injection hr with hr
      subst hr
      exact hg.1
  rw [cakes_S2 hrl, cakes_S2 fun j r hr => (grid_row hv hr).1, addF_wide, addF_len]
  have e : S2 (wide pp) pp.length (fun x y => hgt (addF pp k b) x y) = S2 (wide pp) pp.length (fun x y => hgt pp x y + (if x = k % wide pp ∧ y = k / wide pp then b else 0)) := by
    refine S2_congr fun x y hx hy => ?_
    unfold addF
    rw [set_hgt hp hk]
    by_cases h : x = k % wide pp ∧ y = k / wide pp
    · rw [if_pos h, if_pos ⟨by omega, by omega⟩, h.1, h.2, hgt_thk hp hk]
    · rw [if_neg h, if_neg fun h2 => h ⟨by omega, by omega⟩, Int.add_zero]
  rw [e, S2_add, S2_ind, if_pos ⟨hxk, hyk⟩]
/-- the last one of the highest of the first n places -/
def hiTo (pp : List (List Int)) : Nat → Nat
  | 0 => 0
  | n + 1 => if thk pp (hiTo pp n) ≤ thk pp n then n else hiTo pp n
def hiF (pp : List (List Int)) : Nat := hiTo pp (cnt pp)
theorem hiTo_lt (pp : List (List Int)) : ∀ n, hiTo pp n < n ∨ (n = 0 ∧ hiTo pp n = 0)
  | 0 => .inr ⟨rfl, rfl⟩
  | n + 1 => by
    have := hiTo_lt pp n
    unfold hiTo
    split <;> omega
theorem hiTo_ge (pp : List (List Int)) : ∀ n c, c < n → thk pp c ≤ thk pp (hiTo pp n)
  | 0, c, h => by omega
  | n + 1, c, h => by
    unfold hiTo
    by_cases hc : c = n
    · subst hc
      split
      · exact Int.le_refl _
      · omega
    · have := hiTo_ge pp n c (by omega)
      split
      · omega
      · exact this
theorem hiF_lt {pp : List (List Int)} (h : pondB pp = true) : hiF pp < cnt pp := by
  have h1 := pond_cnt h
  have := hiTo_lt pp (cnt pp)
  unfold hiF
  omega
theorem cakes_pos {pp : List (List Int)} (h : heapB pp = true) (hz : ∀ c, c < cnt pp → thk pp c ≤ 0) : cakesF pp ≤ 0 := by
  rw [cakes_S2 fun k r hk => (grid_row h hk).1]
  have h1 := S2_bd (W := wide pp) (H := pp.length) (f := fun x y => hgt pp x y) (c := 0) fun x y hx hy => by
    have hw := pond_wide (heap_pond h)
    have hc : y * wide pp + x < cnt pp := by
      unfold cnt
      have : (y + 1) * wide pp ≤ pp.length * wide pp := Nat.mul_le_mul (by omega) (Nat.le_refl _)
      rw [Nat.add_mul] at this
      omega
    have h2 := hz _ hc
    have e1 : (y * wide pp + x) / wide pp = y := by rw [Nat.add_comm, Nat.add_mul_div_right _ _ (by omega), Nat.div_eq_of_lt hx, Nat.zero_add]
    have e2 : (y * wide pp + x) % wide pp = x := by rw [Nat.add_comm, Nat.add_mul_mod_self_right, Nat.mod_eq_of_lt hx]
    have h3 := hgt_thk (heap_pond h) hc
    rw [e1, e2] at h3
    rw [h3]; exact h2
  simpa using h1
theorem hi_pos {pp : List (List Int)} (h : heapB pp = true) (hc : 0 < cakesF pp) : 0 < thk pp (hiF pp) := by
  false_or_by_contra
  have := cakes_pos h fun c hc => by
    have := hiTo_ge pp (cnt pp) c hc
    unfold hiF at *
    omega
  omega
/-- n cakes less -/
def lessF (pp : List (List Int)) : Nat → List (List Int)
  | 0 => pp
  | n + 1 => addF (lessF pp n) (hiF (lessF pp n)) (-1)
theorem less_ok {pp : List (List Int)} (h : heapB pp = true) : ∀ n : Nat, (n : Int) ≤ cakesF pp → heapB (lessF pp n) = true ∧ (lessF pp n).length = pp.length ∧ wide (lessF pp n) = wide pp ∧ cakesF (lessF pp n) = cakesF pp - n
  | 0, _ => ⟨h, rfl, rfl, by simp [lessF]⟩
  | n + 1, hn => by
    obtain ⟨h1, h2, h3, h4⟩ := less_ok h n (by omega)
    have hp := hi_pos h1 (by omega)
    have hlt := hiF_lt (heap_pond h1)
    have ht := heap_thk h1 hlt
    refine ⟨addF_heap h1 (by omega), ?_, ?_, ?_⟩
    · show (addF _ _ _).length = _
      rw [addF_len, h2]
    · show wide (addF _ _ _) = _
      rw [addF_wide, h3]
    · show cakesF (addF _ _ _) = _
      rw [cakes_add h1 hlt, h4]; omega
def goneF (pp : List (List Int)) : Nat := (if cakesF pp < (facesF pp + 9) / 10 then cakesF pp else (facesF pp + 9) / 10).toNat
theorem gone_le {pp : List (List Int)} (h : heapB pp = true) : (goneF pp : Int) ≤ cakesF pp ∧ (goneF pp : Int) = (if cakesF pp < (facesF pp + 9) / 10 then cakesF pp else (facesF pp + 9) / 10) := by
  have h1 := cakes_bd h
  have h2 := faces_bd h
  unfold goneF
  split <;> omega
def meltF (pp : List (List Int)) : List (List Int) := lessF pp (goneF pp)
theorem melt_ok {pp : List (List Int)} (h : heapB pp = true) : heapB (meltF pp) = true ∧ (meltF pp).length = pp.length ∧ wide (meltF pp) = wide pp ∧ cakesF (meltF pp) = cakesF pp - goneF pp := less_ok h _ (gone_le h).1
def meltT (pp : List (List Int)) : List (List Int) := if heapB pp then meltF pp else []
theorem meltT_no {pp : List (List Int)} (h : heapB pp = false) : meltT pp = [] := by unfold meltT; rw [h]; rfl
theorem meltT_ok {pp : List (List Int)} (h : heapB pp = true) : meltT pp = meltF pp := by unfold meltT; rw [h]; rfl
/-- after n days -/
def daysF (pp : List (List Int)) : Nat → List (List Int)
  | 0 => pp
  | n + 1 => meltF (daysF pp n)
theorem days_ok {pp : List (List Int)} (h : heapB pp = true) : ∀ n : Nat, heapB (daysF pp n) = true ∧ (daysF pp n).length = pp.length ∧ wide (daysF pp n) = wide pp
  | 0 => ⟨h, rfl, rfl⟩
  | n + 1 => by
    obtain ⟨h1, h2, h3⟩ := days_ok h n
    obtain ⟨g1, g2, g3, _⟩ := melt_ok h1
    exact ⟨g1, g2.trans h2, g3.trans h3⟩
def daysT (pp : List (List Int)) (d : Int) : List (List Int) := if heapB pp && inB d 0 60 then daysF pp d.toNat else []
theorem daysT_no {pp : List (List Int)} {d : Int} (h : (heapB pp && inB d 0 60) = false) : daysT pp d = [] := by unfold daysT; rw [h]; rfl
theorem daysT_ok {pp : List (List Int)} {d : Nat} (h : heapB pp = true) (hd : d ≤ 60) : daysT pp (d : Int) = daysF pp d := by unfold daysT; rw [h, inB_mk ⟨by omega, by omega⟩]; rfl
/-- the first of the days from n on, of m at most, after which fewer than keep are there, and -1 otherwise. -/
structure LeftR (pp : List (List Int)) (keep x : Int) : Prop where
  no : heapB pp = false → x = -1
  few : heapB pp = true → cakesF pp < keep → x = -1
  some_ : heapB pp = true → keep ≤ cakesF pp → ∃ n : Nat, x = n ∧ n ≤ 60 ∧ (∀ j, j ≤ n → keep ≤ cakesF (daysF pp j)) ∧ (n < 60 → cakesF (daysF pp (n + 1)) < keep)
theorem LeftR.uniq {pp : List (List Int)} {keep x y : Int} (h : LeftR pp keep x) (g : LeftR pp keep y) : x = y := by
  cases hv : heapB pp
  · rw [h.no hv, g.no hv]
  · by_cases hk : keep ≤ cakesF pp
    · obtain ⟨n, rfl, n1, n2, n3⟩ := h.some_ hv hk
      obtain ⟨m, rfl, m1, m2, m3⟩ := g.some_ hv hk
      rcases Nat.lt_trichotomy n m with e | e | e
      · have := n3 (by omega); have := m2 (n + 1) (by omega); omega
      · rw [e]
      · have := m3 (by omega); have := n2 (m + 1) (by omega); omega
    · rw [h.few hv (by omega), g.few hv (by omega)]

end Go.Proofs.Ytggdnpaiaijhgaa

/- Words of the exact laws of chapter 5. -/
import Derived.Deep.Matrix
import Derived.Test.YtbnggakfogcalaaGExact
import Derived.Test.YtbnggakfogcalaaHMeltS
import Derived.Test.YtbnggakfogcalaaHBestS
namespace Go.Proofs.Ytbnggakfogcalaa
open Go.RowKit
set_option linter.unusedVariables false
set_option linter.unusedSimpArgs false
theorem sizes_heap {pp : List (List Int)} (h : heapB pp = true) : sizes pp ≤ 1048576 := by
  have hl := grid_len h
  have hs : ∀ (qq : List (List Int)), (∀ r ∈ qq, r.length ≤ 9) → (qq.map List.length).sum ≤ 9 * qq.length := by
    intro qq
    induction qq with
    | nil => intro _; simp
    | cons a qq ih =>
      intro hq
      have h1 := hq a (by simp)
      have h2 := ih fun r hr => hq r (by simp [hr])
      rw [List.map_cons, List.sum_cons, List.length_cons]
      omega
  have h3 := hs pp fun r hr => by
    obtain ⟨k, hk, e⟩ := List.getElem_of_mem hr
    exact (grid_row h (k := k) (row := r) (by rw [List.getElem?_eq_getElem hk, e])).2.2.1
  unfold sizes
  omega
theorem sizes_or {pp : List (List Int)} (h : pp = [] ∨ heapB pp = true) : sizes pp ≤ 1048576 := by
  rcases h with rfl | h
  · simp [sizes]
  · exact sizes_heap h
theorem rows_or {pp : List (List Int)} (h : pp = [] ∨ heapB pp = true) : pp.length ≤ 1048576 ∧ Hid (∀ (k : Nat) (r : List Int), pp[k]? = some r → r.length ≤ 1048576) := by
  rcases h with rfl | h
  · exact ⟨by simp, Lib.hid fun k r hr => by simp at hr⟩
  · have hl := grid_len h
    exact ⟨by omega, Lib.hid fun k r hr => by have := (grid_row h hr).2.2.1; omega⟩
theorem addT_some {pp : List (List Int)} {z : Int} : addT pp z = [] ∨ ∃ k : Nat, z = k ∧ heapB pp = true ∧ k < cnt pp ∧ thk pp k ≠ 12 ∧ addT pp z = addF pp k 1 := by
  cases hc : (heapB pp && (inB z 0 ((cnt pp : Nat) - 1) && decide (thk pp z.toNat ≠ 12)))
  · exact .inl (addT_no hc)
  · simp only [Bool.and_eq_true, decide_eq_true_eq] at hc
    obtain ⟨h1, h2, h3⟩ := hc
    have h4 := inB_t h2
    obtain ⟨k, rfl⟩ := Int.eq_ofNat_of_zero_le h4.1
    rw [Int.toNat_natCast] at h3
    have hk : k < cnt pp := by omega
    exact .inr ⟨k, rfl, h1, hk, h3, addT_ok h1 hk h3⟩
theorem takeT_some {pp : List (List Int)} {z : Int} : takeT pp z = [] ∨ ∃ k : Nat, z = k ∧ heapB pp = true ∧ k < cnt pp ∧ thk pp k ≠ 0 ∧ takeT pp z = addF pp k (-1) := by
  cases hc : (heapB pp && (inB z 0 ((cnt pp : Nat) - 1) && decide (thk pp z.toNat ≠ 0)))
  · exact .inl (takeT_no hc)
  · simp only [Bool.and_eq_true, decide_eq_true_eq] at hc
    obtain ⟨h1, h2, h3⟩ := hc
    have h4 := inB_t h2
    obtain ⟨k, rfl⟩ := Int.eq_ofNat_of_zero_le h4.1
    rw [Int.toNat_natCast] at h3
    have hk : k < cnt pp := by omega
    exact .inr ⟨k, rfl, h1, hk, h3, takeT_ok h1 hk h3⟩
theorem addT_heap {pp : List (List Int)} {z : Int} : addT pp z = [] ∨ heapB (addT pp z) = true := by
  rcases addT_some (pp := pp) (z := z) with h | ⟨k, _, h1, h2, h3, h4⟩
  · exact .inl h
  · have ht := heap_thk h1 h2
    rw [h4]
    exact .inr (addF_heap h1 (by omega))
theorem takeT_heap {pp : List (List Int)} {z : Int} : takeT pp z = [] ∨ heapB (takeT pp z) = true := by
  rcases takeT_some (pp := pp) (z := z) with h | ⟨k, _, h1, h2, h3, h4⟩
  · exact .inl h
  · have ht := heap_thk h1 h2
    rw [h4]
    exact .inr (addF_heap h1 (by omega))
theorem meltT_heap {pp : List (List Int)} : meltT pp = [] ∨ heapB (meltT pp) = true := by
  cases hv : heapB pp
  · exact .inl (meltT_no hv)
  · rw [meltT_ok hv]; exact .inr (melt_ok hv).1
theorem daysT_some {pp : List (List Int)} {z : Int} : daysT pp z = [] ∨ ∃ d : Nat, z = d ∧ d ≤ 60 ∧ heapB pp = true ∧ daysT pp z = daysF pp d := by
  cases hc : (heapB pp && inB z 0 60)
  · exact .inl (daysT_no hc)
  · rw [Bool.and_eq_true] at hc
    have h4 := inB_t hc.2
    obtain ⟨d, rfl⟩ := Int.eq_ofNat_of_zero_le h4.1
    exact .inr ⟨d, rfl, by omega, hc.1, daysT_ok hc.1 (by omega)⟩
theorem daysT_heap {pp : List (List Int)} {z : Int} : daysT pp z = [] ∨ heapB (daysT pp z) = true := by
  rcases daysT_some (pp := pp) (z := z) with h | ⟨d, _, _, h1, h2⟩
  · exact .inl h
  · rw [h2]; exact .inr (days_ok h1 d).1
theorem fillT_some {a b z : Int} : fillT a b z = [] ∨ ∃ W D n : Nat, a = W ∧ b = D ∧ z = n ∧ (1 ≤ W ∧ W ≤ 9) ∧ (1 ≤ D ∧ D ≤ 9) ∧ n ≤ W * D * 12 ∧ fillT a b z = layF W D n := by
  cases hc : (inB a 1 9 && (inB b 1 9 && inB z 0 (a * b * 12)))
  · exact .inl (fillT_no hc)
  · simp only [Bool.and_eq_true] at hc
    have h1 := inB_t hc.1
    have h2 := inB_t hc.2.1
    have h3 := inB_t hc.2.2
    obtain ⟨W, rfl⟩ := Int.eq_ofNat_of_zero_le (show 0 ≤ a by omega)
    obtain ⟨D, rfl⟩ := Int.eq_ofNat_of_zero_le (show 0 ≤ b by omega)
    obtain ⟨n, rfl⟩ := Int.eq_ofNat_of_zero_le h3.1
    rw [← Int.natCast_mul] at h3
    exact .inr ⟨W, D, n, rfl, rfl, rfl, by omega, by omega, by omega, fillT_ok (by omega) (by omega) (by omega)⟩
theorem fillT_heap {a b z : Int} : fillT a b z = [] ∨ heapB (fillT a b z) = true := by
  rcases fillT_some (a := a) (b := b) (z := z) with h | ⟨W, D, n, _, _, _, h1, h2, h3, h4⟩
  · exact .inl h
  · rw [h4]; exact .inr (lay_heap h1 h2 h3)
section
variable {ts : List (List Int)} (pp : List (List Int)) (A : Option Addr) (c : Nat) (w : World)
theorem iHeap_b (hg : RdG w w.heap.size A pp) : Calls Try.prog 16 #[.slice A pp.length c] w fun e w' => e = .returned (.bool (heapB pp)) ∧ Below w.heap.size w w' :=
  (iHeap_any pp A c w _ hg).mono fun _ _ ⟨h, e⟩ => ⟨h, e ▸ Below.refl _ _⟩
theorem sHeap_b (hg : RdG w w.heap.size A pp) (hn : pp.length ≤ 1048576) : Calls Try.prog 17 #[.slice A pp.length c] w fun e w' => e = .returned (.bool (heapB pp)) ∧ Below w.heap.size w w' :=
  (sHeap_any pp A c w _ hg hn).mono fun _ _ ⟨h, n, e⟩ => ⟨h, e ▸ below_drewN (Below.refl _ _) n⟩
theorem iCakesH_b (hg : RdG w w.heap.size A pp) : Calls Try.prog 21 #[.slice A pp.length c] w fun e w' => e = .returned (.int .i64 (cakesHT pp)) ∧ Below w.heap.size w w' :=
  (iCakesH_any pp A c w _ hg).mono fun _ _ ⟨h, e⟩ => ⟨h, e ▸ Below.refl _ _⟩
theorem sCakesH_b (hg : RdG w w.heap.size A pp) (hn : pp.length ≤ 1048576) : Calls Try.prog 22 #[.slice A pp.length c] w fun e w' => e = .returned (.int .i64 (cakesHT pp)) ∧ Below w.heap.size w w' :=
  (sCakesH_any pp A c w _ hg hn).mono fun _ _ ⟨h, n, e⟩ => ⟨h, e ▸ below_drewN (Below.refl _ _) n⟩
theorem iFaces_b (hg : RdG w w.heap.size A pp) : Calls Try.prog 18 #[.slice A pp.length c] w fun e w' => e = .returned (.int .i64 (facesT pp)) ∧ Below w.heap.size w w' :=
  (iFaces_any pp A c w _ hg).mono fun _ _ ⟨h, e⟩ => ⟨h, e ▸ Below.refl _ _⟩
theorem sFaces_b (hg : RdG w w.heap.size A pp) (hn : pp.length ≤ 1048576) : Calls Try.prog 24 #[.slice A pp.length c] w fun e w' => e = .returned (.int .i64 (facesT pp)) ∧ Below w.heap.size w w' :=
  (sFaces_any pp A c w _ hg hn).mono fun _ _ ⟨h, n, e⟩ => ⟨h, e ▸ below_drewN (Below.refl _ _) n⟩
theorem iAdd_b (hg : RdG w w.heap.size A pp) (z : Int) (hts : Hid (ts = addT pp z)) : Calls Try.prog 26 #[.slice A pp.length c, .int .i64 z] w (OutGr ts w) := by rw [hts.out]; exact iAdd_any pp A c w hg z
theorem sAdd_b (hg : RdG w w.heap.size A pp) (hn : pp.length ≤ 1048576) (z : Int) (hts : Hid (ts = addT pp z)) : Calls Try.prog 28 #[.slice A pp.length c, .int .i64 z] w (OutGr ts w) := by rw [hts.out]; exact sAdd_any pp A c w hg hn z
theorem iTake_b (hg : RdG w w.heap.size A pp) (z : Int) (hts : Hid (ts = takeT pp z)) : Calls Try.prog 29 #[.slice A pp.length c, .int .i64 z] w (OutGr ts w) := by rw [hts.out]; exact iTake_any pp A c w hg z
theorem sTake_b (hg : RdG w w.heap.size A pp) (hn : pp.length ≤ 1048576) (z : Int) (hts : Hid (ts = takeT pp z)) : Calls Try.prog 31 #[.slice A pp.length c, .int .i64 z] w (OutGr ts w) := by rw [hts.out]; exact sTake_any pp A c w hg hn z
theorem iMelt_b (hg : RdG w w.heap.size A pp) (hts : Hid (ts = meltT pp)) : Calls Try.prog 39 #[.slice A pp.length c] w (OutGr ts w) := by rw [hts.out]; exact iMelt_any pp A c w hg
theorem sMelt_b (hg : RdG w w.heap.size A pp) (hn : pp.length ≤ 1048576) (hts : Hid (ts = meltT pp)) : Calls Try.prog 40 #[.slice A pp.length c] w (OutGr ts w) := by rw [hts.out]; exact sMelt_any pp A c w hg hn
theorem iMelts_b (hg : RdG w w.heap.size A pp) (z : Int) (hts : Hid (ts = daysT pp z)) : Calls Try.prog 42 #[.slice A pp.length c, .int .i64 z] w (OutGr ts w) := by rw [hts.out]; exact iMelts_any pp A c w hg z
theorem sMelts_b (hg : RdG w w.heap.size A pp) (hn : pp.length ≤ 1048576) (z : Int) (hts : Hid (ts = daysT pp z)) : Calls Try.prog 43 #[.slice A pp.length c, .int .i64 z] w (OutGr ts w) := by rw [hts.out]; exact sMelts_any pp A c w hg hn z
end
theorem iFill_b {ts : List (List Int)} (a b z : Int) (w : World) (hts : Hid (ts = fillT a b z)) : Calls Try.prog 33 #[.int .i64 a, .int .i64 b, .int .i64 z] w (OutGr ts w) := by rw [hts.out]; exact iFill_any a b z w
theorem sFill_b {ts : List (List Int)} (a b z : Int) (w : World) (hts : Hid (ts = fillT a b z)) : Calls Try.prog 34 #[.int .i64 a, .int .i64 b, .int .i64 z] w (OutGr ts w) := by rw [hts.out]; exact sFill_any a b z w

end Go.Proofs.Ytbnggakfogcalaa

/- Mathematics for the laws of chapter 4: what is left of valid times, and what an answer that is not empty tells. -/
import Derived.Test.YtcjcdlhmhhbkgaaLHelp
import Derived.Test.YtcjcdlhmhhbkgaaLMost
import Derived.Test.YtcjcdlhmhhbkgaaLLeastS
import Derived.Test.YtcjcdlhmhhbkgaaLEvery
import Derived.Test.YtcjcdlhmhhbkgaaLDrawsB
namespace Go.Proofs.Ytcjcdlhmhhbkgaa
open Go.RowKit
set_option linter.unusedVariables false
set_option linter.unusedSimpArgs false
theorem wo_times {zs : List Int} (h : TimesP zs) (i : Nat) : TimesP (zs.take i ++ zs.drop (i + 1)) := by
  by_cases hi : i < zs.length
  · have hl := wo_len hi
    have e : ∀ k, k < zs.length - 1 → el (zs.take i ++ zs.drop (i + 1)) k = el zs (if k < i then k else k + 1) := by
      intro k hk
      refine el_of ?_
      by_cases q : k < i
      · rw [if_pos q, List.getElem?_append_left (by omega), List.getElem?_take_of_lt q, of_el (by omega)]
      · rw [if_neg q, List.getElem?_append_right (by omega), hl.1, List.getElem?_drop, show i + 1 + (k - i) = k + 1 by omega, of_el (by omega)]
    have hlen : (zs.take i ++ zs.drop (i + 1)).length = zs.length - 1 := by rw [List.length_append, hl.1, hl.2]; omega
    have h40 := h.len
    refine ⟨by omega, fun k hk => ?_, fun k hk => ?_⟩
    · rw [e k (by omega)]
      exact h.bd _ (by split <;> omega)
    · rw [e k (by omega), e (k + 1) (by omega)]
      exact h.up (by split <;> split <;> omega) (by split <;> omega)
  · rw [List.take_of_length_le (by omega), List.drop_eq_nil_of_le (by omega), List.append_nil]; exact h
theorem lift_some {ts zs : List Int} {g n : Int} (h : ts = liftT zs g n) (h0 : ts.length ≠ 0) : lvB zs g n = true := by
  cases hv : lvB zs g n
  · rw [liftT_no hv] at h; subst h; simp at h0
  · rfl
theorem waits_some {ts zs : List Int} {g n : Int} (h : ts = waitsT zs g n) (h0 : ts.length ≠ 0) : lvB zs g n = true := by
  cases hv : lvB zs g n
  · rw [waitsT_no hv] at h; subst h; simp at h0
  · rfl
theorem every_some {ts zs : List Int} {n f : Int} (h : ts = everyT zs n f) (h0 : ts.length ≠ 0) : evB zs n f = true := by
  cases hv : evB zs n f
  · rw [everyT_no hv] at h; subst h; simp at h0
  · rfl
theorem every_lift {zs : List Int} {g : Int} {m f : Nat} (hf : f < m) : liftF (evF zs m f) g 1 = evF (liftF zs g m) m f := by
  have hl : (liftF (evF zs m f) g 1).length = evN zs.length m f := by rw [liftF_len, evF_len]
  refine ext_el (by rw [hl, evF_len, liftF_len]) fun k hk => ?_
  rw [hl] at hk
  rw [liftF_at (by rw [evF_len]; exact hk), la_every hf hk, evF_at (by rw [liftF_len]; exact hk), liftF_at ((evN_lt hf).1 hk)]
theorem waits_sum (zs : List Int) (g : Int) (m : Nat) : (waitsF zs g m).sum = sm (fun i => la zs g m i - el zs i) zs.length := by
  rw [sum_sm, waitsF_len]
  exact sm_congr fun i hi => waitsF_at hi
theorem gr_lift (zs : List Int) (g : Int) (m : Nat) : grF (el (liftF zs g m)) zs.length = grF (la zs g m) zs.length := grF_congr fun i hi => liftF_at hi
theorem lift_of {zs : List Int} {g : Int} {m : Nat} (h : TimesP zs) (hg : 1 ≤ g ∧ g ≤ 60) (hm : 1 ≤ m ∧ m ≤ 8) : liftF zs g m = liftT zs g m := (liftT_ok (lv_mk h hg (by omega))).symm
theorem waits_of {zs : List Int} {g : Int} {m : Nat} (h : TimesP zs) (hg : 1 ≤ g ∧ g ≤ 60) (hm : 1 ≤ m ∧ m ≤ 8) : waitsF zs g m = waitsT zs g m := (waitsT_ok (lv_mk h hg (by omega))).symm
theorem every_of {zs : List Int} {m f : Nat} (h : TimesP zs) (hm : 1 ≤ m ∧ m ≤ 8) (hf : f < m) : evF zs m f = everyT zs m f :=
  (everyT_ok (by unfold evB; rw [timesB_mk h, inB_mk (show (1 : Int) ≤ (m : Int) ∧ (m : Int) ≤ 8 by omega), inB_mk (show (0 : Int) ≤ (f : Int) ∧ (f : Int) ≤ (m : Int) - 1 by omega)]; rfl)).symm
theorem iVT_ok (zs : List Int) (n : Nat) (hl : zs.length = n) (A : Option Addr) (c : Nat) (w : World) (B : Nat) (hr : Rd w B A (ints zs)) (h : TimesP zs) :
    Calls Try.prog 16 #[.slice A n c] w fun e w' => e = .returned (.bool true) ∧ w = w' := by
  subst hl
  exact iVT_is zs A c w B hr (timesB_mk h)
theorem least_some {x : Int} {zs : List Int} {g w : Int} (h : x = leastT zs g w) (h0 : 0 ≤ x) :
    TimesP zs ∧ (1 ≤ g ∧ g ≤ 60) ∧ 0 ≤ w ∧ ∃ X : Nat, x = X ∧ 1 ≤ X ∧ X ≤ 8 ∧ okL zs g w X = true ∧ ∀ q, 1 ≤ q → q < X → okL zs g w q = false := by
  cases hv : (timesB zs && (inB g 1 60 && inB w 0 2000))
  · rw [leastT_no hv] at h; omega
  · rw [leastT_ok hv] at h
    simp only [Bool.and_eq_true] at hv
    rcases firstUp_bd (okL zs g w) 8 1 with ⟨e, _⟩ | ⟨X, e, h1, h2, h3, h4⟩
    · omega
    · exact ⟨timesB_t hv.1, inB_t hv.2.1, (inB_t hv.2.2).1, X, by omega, h1, by omega, h3, h4⟩
theorem gap_some {x : Int} {zs : List Int} {n b : Int} (h : x = gapT zs n b) (h0 : 0 ≤ x) :
    TimesP zs ∧ ∃ m : Nat, n = m ∧ 1 ≤ m ∧ m ≤ 8 ∧ ∃ X : Nat, x = X ∧ 1 ≤ X ∧ X ≤ 60 ∧ okG zs m b X = true ∧ ∀ q, X < q → q ≤ 60 → okG zs m b q = false := by
  cases hv : (timesB zs && inB n 1 8)
  · rw [gapT_no hv] at h; omega
  · have hv2 := hv
    simp only [Bool.and_eq_true] at hv2
    have hn := inB_t hv2.2
    obtain ⟨m, rfl⟩ := Int.eq_ofNat_of_zero_le (show 0 ≤ n by omega)
    rw [gapT_ok hv] at h
    rcases lastDn_bd (okG zs m b) 60 with ⟨e, _⟩ | ⟨X, e, h1, h2, h3, h4⟩
    · omega
    · exact ⟨timesB_t hv2.1, m, rfl, by omega, by omega, X, by omega, h1, h2, h3, h4⟩
theorem times_sum {zs : List Int} (h : TimesP zs) : 0 ≤ zs.sum ∧ zs.sum ≤ 80000 := by
  have h1 := sm_bd (f := el zs) (a := 0) (b := 2000) (n := zs.length) (fun i hi => h.bd i hi)
  rw [← sum_sm] at h1
  have := h.len
  omega
theorem ev_sum_bd {zs : List Int} {m f : Nat} (h : TimesP zs) (hf : f < m) : 0 ≤ (evF zs m f).sum ∧ (evF zs m f).sum ≤ 80000 := times_sum (ev_times h hf)

end Go.Proofs.Ytcjcdlhmhhbkgaa

/- Contracts of chapter 3's model: the cakes of a grid; both functions for any arguments. -/
import Derived.Deep.RegionWith
import Derived.Test.YtiihenhddleooabFCakes
namespace Go.Proofs.Ytiihenhddleooab
open Go.RowKit
set_option linter.unusedVariables false
set_option linter.unusedSimpArgs false
theorem outC_drew {w : World} {n : Nat} {l : List (Int × Int)} {v : Value} (h : OutC l (w.drewN n) (.returned v) (w.drewN n)) : OutC l w (.returned v) (w.drewN n) := by
  obtain ⟨A', c', h1, h2, h3⟩ := h
  exact ⟨A', c', h1, h2, (below_drewN (Below.refl _ _) n).trans h3⟩
theorem toNat_parts {w h dx dy : Int} (hs : sidesB w h = true) (h1 : 0 ≤ dx) (h2 : 0 ≤ dy) : ∃ cw ch x y : Nat, w = cw ∧ h = ch ∧ dx = x ∧ dy = y := by
  have := sidesB_t hs
  exact ⟨w.toNat, h.toNat, dx.toNat, dy.toNat, by omega, by omega, by omega, by omega⟩
set_option maxRecDepth 100000 in
set_option maxHeartbeats 2000000 in
theorem iCakes_any (ff : List (List Bool)) (A : Option Addr) (c : Nat) (hcap : ff.length ≤ c ∧ c ≤ maxLen) (w : World) (hg : RdF w w.heap.size A ff) (a h dx dy : Int) :
    Calls Try.prog 56 #[.slice A ff.length c, .int .i64 a, .int .i64 h, .int .i64 dx, .int .i64 dy] w (OutC (cakesT ff a h dx dy) w) := by
  cases hv : fieldB ff
  · rw [cakesT_no (by rw [hv]; rfl)]
    have Hv := Lib.hid hv
    clear hv
    go_enter Try.func56, Try.ntmps56
    go_wp2_with (go_at_call 87; refine (iVF_is _ _ _ _ _ hg Hv.out).mono ?_; rintro e w' ⟨rfl, rfl⟩)
    go_ret
    exact outC_nil w
  cases hs : sidesB a h
  · rw [cakesT_no (by rw [hs]; simp)]
    have Hv := Lib.hid hv
    have Hs := Lib.hid hs
    clear hv hs
    go_enter Try.func56, Try.ntmps56
    go_wp2_with (first | (go_at_call 87; refine (iVF_is _ _ _ _ _ hg Hv.out).mono ?_; rintro e w' ⟨rfl, rfl⟩) | (go_at_call 88; refine (vSides_is Hs.out _).mono ?_; rintro e w' ⟨rfl, rfl⟩))
    go_ret
    exact outC_nil w
  have hs2 := sidesB_t hs
  by_cases hx : 0 ≤ dx ∧ dx ≤ a - 1
  · by_cases hy : 0 ≤ dy ∧ dy ≤ h - 1
    · obtain ⟨cw, ch, x, y, rfl, rfl, rfl, rfl⟩ := toNat_parts hs hx.1 hy.1
      rw [cakesT_ok hv hs (by omega) (by omega)]
      exact iCakesOk_any ff A c hcap w hg cw ch x y hv hs (by omega) (by omega)
    · have h5 : inB dy 0 (h - 1) = false := inB_nk hy
      rw [cakesT_no (by rw [h5]; simp)]
      have Hv := Lib.hid hv
      have Hs := Lib.hid hs
      clear hv hs h5
      obtain ⟨x1, x2⟩ := hx
      have x3 : ¬ a ≤ dx := by omega
      by_cases y1 : dy < 0
      · go_enter Try.func56, Try.ntmps56
        go_wp2_with (first | (go_at_call 87; refine (iVF_is _ _ _ _ _ hg Hv.out).mono ?_; rintro e w' ⟨rfl, rfl⟩) | (go_at_call 88; refine (vSides_is Hs.out _).mono ?_; rintro e w' ⟨rfl, rfl⟩))
        go_ret
        exact outC_nil w
      · have y2 : h ≤ dy := by omega
        have y3 : 0 ≤ dy := by omega
        clear y1 hy
        go_enter Try.func56, Try.ntmps56
        go_wp2_with (first | (go_at_call 87; refine (iVF_is _ _ _ _ _ hg Hv.out).mono ?_; rintro e w' ⟨rfl, rfl⟩) | (go_at_call 88; refine (vSides_is Hs.out _).mono ?_; rintro e w' ⟨rfl, rfl⟩))
        go_ret
        exact outC_nil w
  · have h5 : inB dx 0 (a - 1) = false := inB_nk hx
    rw [cakesT_no (by rw [h5]; simp)]
    have Hv := Lib.hid hv
    have Hs := Lib.hid hs
    clear hv hs h5
    by_cases y1 : dx < 0
    · go_enter Try.func56, Try.ntmps56
      go_wp2_with (first | (go_at_call 87; refine (iVF_is _ _ _ _ _ hg Hv.out).mono ?_; rintro e w' ⟨rfl, rfl⟩) | (go_at_call 88; refine (vSides_is Hs.out _).mono ?_; rintro e w' ⟨rfl, rfl⟩))
      go_ret
      exact outC_nil w
    · have y2 : a ≤ dx := by omega
      have y3 : 0 ≤ dx := by omega
      clear y1 hx
      go_enter Try.func56, Try.ntmps56
      go_wp2_with (first | (go_at_call 87; refine (iVF_is _ _ _ _ _ hg Hv.out).mono ?_; rintro e w' ⟨rfl, rfl⟩) | (go_at_call 88; refine (vSides_is Hs.out _).mono ?_; rintro e w' ⟨rfl, rfl⟩))
      go_ret
      exact outC_nil w
end Go.Proofs.Ytiihenhddleooab

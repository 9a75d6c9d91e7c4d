/- Contracts of chapter 4: how long a lift is idle. -/
import Derived.Test.YtcjcdlhmhhbkgabLLift
namespace Go.Proofs.Ytcjcdlhmhhbkgab
open Go.RowKit
set_option linter.unusedVariables false
set_option linter.unusedSimpArgs false
def idleT (zs : List Int) (g : Int) : Int := if timesB zs && inB g 1 60 then idleF zs g else -1
theorem idleT_no {zs : List Int} {g : Int} (h : (timesB zs && inB g 1 60) = false) : idleT zs g = -1 := by unfold idleT; rw [h]; rfl
theorem idleT_ok {zs : List Int} {g : Int} (h : (timesB zs && inB g 1 60) = true) : idleT zs g = idleF zs g := by unfold idleT; rw [h]; rfl
theorem idleF_nil {zs : List Int} {g : Int} (h : zs.length = 0) : idleF zs g = 0 := if_pos h
theorem idleF_at {zs : List Int} {g : Int} {q : Nat} (h : zs.length = q + 1) : idleF zs g = la zs g 1 q - g * (q : Int) := by
  unfold idleF
  rw [if_neg (by omega), h]; rfl
set_option maxHeartbeats 1000000 in
theorem iIdle_any (zs : List Int) (A : Option Addr) (c : Nat) (w : World) (hr : Rd w w.heap.size A (ints zs)) (g : Int) :
    Calls Try.prog 16 #[.slice A zs.length c, .int .i64 g] w fun e w' => e = .returned (.int .i64 (idleT zs g)) ∧ Below w.heap.size w w' := by
  cases hv : timesB zs
  · rw [idleT_no (by rw [hv]; rfl)]
    have Hv := Lib.hid hv
    clear hv
    go_enter Try.func16, Try.ntmps16
    go_wp2_with (go_at_call 21; refine (iVT_is _ _ _ _ _ hr Hv.out).mono ?_; rintro e w' ⟨rfl, rfl⟩)
    go_ret
    exact ⟨rfl, Below.refl _ _⟩
  · cases h1 : inB g 1 60
    · rw [idleT_no (by rw [hv, h1]; rfl)]
      have Hv := Lib.hid hv
      clear hv
      go_enter Try.func16, Try.ntmps16
      go_wp2_with (first | (go_at_call 21; refine (iVT_is _ _ _ _ _ hr Hv.out).mono ?_; rintro e w' ⟨rfl, rfl⟩) | (go_at_call 50; refine (vGap_any _ _).mono ?_; rintro e w' ⟨rfl, rfl⟩))
      go_ret
      exact ⟨rfl, Below.refl _ _⟩
    · rw [idleT_ok (by rw [hv, h1]; rfl)]
      have ht := timesB_t hv
      have hl := ht.len
      have hg := inB_t h1
      have HT := Lib.hid ht
      have Hv := Lib.hid hv
      by_cases hz : zs.length = 0
      · have hz0 : ((zs.length : Int) == 0) = true := beq_iff_eq.2 (by omega)
        have HI := Lib.hid (idleF_nil (g := g) hz)
        clear hv ht hz
        go_enter Try.func16, Try.ntmps16
        go_wp2_with (first | (go_at_call 21; refine (iVT_is _ _ _ _ _ hr Hv.out).mono ?_; rintro e w' ⟨rfl, rfl⟩) | (go_at_call 50; refine (vGap_any _ _).mono ?_; rintro e w' ⟨rfl, rfl⟩))
        go_ret
        exact ⟨ret_int HI.out.symm, Below.refl _ _⟩
      · have hz0 : ((zs.length : Int) == 0) = false := beq_eq_false_iff_ne.2 (by omega)
        obtain ⟨q, hq⟩ : ∃ q, zs.length = q + 1 := ⟨zs.length - 1, by omega⟩
        have i1 : (zs.length : Int) - 1 = (q : Int) := by omega
        have hql : q < zs.length := by omega
        have HI := Lib.hid (idleF_at (g := g) hq)
        have cL : Calls Try.prog 24 #[.slice A zs.length c, .int .i64 g, .int .i64 1] w (OutI (liftF zs g 1) w) := by
          have := iLift_any zs A c w hr g ((1 : Nat) : Int)
          rw [liftT_ok (by unfold lvB; rw [hv, h1]; rfl)] at this
          exact this
        have hla := la_bd' HT.out (n := 1) (g := g) (i := q) (by omega) (by omega) hql
        have hm1 : 0 ≤ g * (q : Int) := Int.mul_nonneg (by omega) (by omega)
        have hm2 : g * (q : Int) ≤ 60 * 40 := Int.mul_le_mul (by omega) (by omega) (by omega) (by omega)
        clear hv ht hz hq
        go_enter Try.func16, Try.ntmps16
        go_wp2_with (first | (go_at_call 21; refine (iVT_is _ _ _ _ _ hr Hv.out).mono ?_; rintro e w' ⟨rfl, rfl⟩) | (go_at_call 50; refine (vGap_any _ _).mono ?_; rintro e w' ⟨rfl, rfl⟩))
        go_wp2_with fail
        refine cL.mono ?_
        rintro e w1 ⟨A1, c1, rfl, o1, b1⟩
        rw [liftF_len] at o1 ⊢
        obtain ⟨g1, rfl, hg1, hgl, _, _⟩ := own_some o1 (by omega)
        have hc1 := own_cell o1 (ints_el (zs := liftF zs g 1) (k := q) (by rw [liftF_len]; exact hql))
        rw [liftF_at hql] at hc1
        clear o1 cL
        go_wp2
        go_ret
        exact ⟨ret_int HI.out.symm, b1⟩
set_option maxHeartbeats 1000000 in
theorem sIdle_any (zs : List Int) (A : Option Addr) (c : Nat) (w : World) (hr : Rd w w.heap.size A (ints zs)) (hn : zs.length ≤ 1048576) (g : Int) :
    Calls Try.prog 17 #[.slice A zs.length c, .int .i64 g] w fun e w' => e = .returned (.int .i64 (idleT zs g)) ∧ Below w.heap.size w w' := by
  cases hv : timesB zs
  · rw [idleT_no (by rw [hv]; rfl)]
    have Hv := Lib.hid hv
    clear hv
    go_enter Try.func17, Try.ntmps17
    go_wp2_with (first | (go_at_call 51; refine (sVT_is _ _ _ _ _ hr hn Hv.out).mono ?_; rintro e w' ⟨rfl, nv, rfl⟩) | (go_at_call 52; refine (inRange_any _ _ _ _).mono ?_; rintro e w' ⟨rfl, rfl⟩))
    go_ret
    exact ⟨rfl, bel_drew (n := nv) (Below.refl _ _)⟩
  · cases h1 : inB g 1 60
    · rw [idleT_no (by rw [hv, h1]; rfl)]
      have Hv := Lib.hid hv
      clear hv
      go_enter Try.func17, Try.ntmps17
      go_wp2_with (first | (go_at_call 51; refine (sVT_is _ _ _ _ _ hr hn Hv.out).mono ?_; rintro e w' ⟨rfl, nv, rfl⟩) | (go_at_call 52; refine (inRange_any _ _ _ _).mono ?_; rintro e w' ⟨rfl, rfl⟩))
      go_ret
      exact ⟨rfl, bel_drew (n := nv) (Below.refl _ _)⟩
    · rw [idleT_ok (by rw [hv, h1]; rfl)]
      have ht := timesB_t hv
      have hl := ht.len
      have hg := inB_t h1
      have HT := Lib.hid ht
      have Hv := Lib.hid hv
      by_cases hz : zs.length = 0
      · have hz0 : ((zs.length : Int) == 0) = true := beq_iff_eq.2 (by omega)
        have HI := Lib.hid (idleF_nil (g := g) hz)
        clear hv ht hz
        go_enter Try.func17, Try.ntmps17
        go_wp2_with (first | (go_at_call 51; refine (sVT_is _ _ _ _ _ hr hn Hv.out).mono ?_; rintro e w' ⟨rfl, nv, rfl⟩) | (go_at_call 52; refine (inRange_any _ _ _ _).mono ?_; rintro e w' ⟨rfl, rfl⟩))
        go_ret
        exact ⟨ret_int HI.out.symm, bel_drew (n := nv) (Below.refl _ _)⟩
      · have hz0 : ((zs.length : Int) == 0) = false := beq_eq_false_iff_ne.2 (by omega)
        obtain ⟨q, hq⟩ : ∃ q, zs.length = q + 1 := ⟨zs.length - 1, by omega⟩
        have i1 : (zs.length : Int) - 1 = (q : Int) := by omega
        have hql : q < zs.length := by omega
        have HI := Lib.hid (idleF_at (g := g) hq)
        have hla := la_bd' HT.out (n := 1) (g := g) (i := q) (by omega) (by omega) hql
        have hm1 : 0 ≤ g * (q : Int) := Int.mul_nonneg (by omega) (by omega)
        have hm2 : g * (q : Int) ≤ 60 * 40 := Int.mul_le_mul (by omega) (by omega) (by omega) (by omega)
        clear hv ht hz hq
        go_enter Try.func17, Try.ntmps17
        go_wp2_with (first | (go_at_call 51; refine (sVT_is _ _ _ _ _ hr hn Hv.out).mono ?_; rintro e w' ⟨rfl, nv, rfl⟩) | (go_at_call 52; refine (inRange_any _ _ _ _).mono ?_; rintro e w' ⟨rfl, rfl⟩))
        go_wp2_with fail
        refine (lifted_any _ _ _ _ (hr.drewN nv) g 1 HT.out hg (by omega) (by omega)).mono ?_
        rintro e w1 ⟨A1, c1, rfl, o1, b1⟩
        rw [liftF_len] at o1 ⊢
        obtain ⟨g1, rfl, hg1, hgl, _, _⟩ := own_some o1 (by omega)
        have hc1 := own_cell o1 (ints_el (zs := liftF zs g 1) (k := q) (by rw [liftF_len]; exact hql))
        rw [liftF_at hql] at hc1
        clear o1
        go_wp2
        go_ret
        exact ⟨ret_int HI.out.symm, bel_drew b1⟩

end Go.Proofs.Ytcjcdlhmhhbkgab

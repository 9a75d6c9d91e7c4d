/- Contracts of chapter 4: every nth time, and how long a lift is idle. -/
import Derived.Test.YtcjcdlhmhhbkgaaLLift
namespace Go.Proofs.Ytcjcdlhmhhbkgaa
open Go.RowKit
set_option linter.unusedVariables false
set_option linter.unusedSimpArgs false
def evB (zs : List Int) (n f : Int) : Bool := timesB zs && (inB n 1 8 && inB f 0 (n - 1))
def everyT (zs : List Int) (n f : Int) : List Int := if evB zs n f then evF zs n.toNat f.toNat else []
theorem everyT_no {zs : List Int} {n f : Int} (h : evB zs n f = false) : everyT zs n f = [] := by unfold everyT; rw [h]; rfl
theorem everyT_ok {zs : List Int} {n f : Nat} (h : evB zs n f = true) : everyT zs n f = evF zs n f := by unfold everyT; rw [h]; rfl
theorem evB_t {zs : List Int} {n f : Int} (h : evB zs n f = true) : TimesP zs ∧ ∃ m k : Nat, n = m ∧ f = k ∧ 1 ≤ m ∧ m ≤ 8 ∧ k < m := by
  unfold evB at h
  simp only [Bool.and_eq_true] at h
  have h2 := inB_t h.2.1
  have h3 := inB_t h.2.2
  exact ⟨timesB_t h.1, n.toNat, f.toNat, by omega, by omega, by omega, by omega, by omega⟩
theorem everyT_le (zs : List Int) (n f : Int) : (everyT zs n f).length ≤ 40 := by
  cases h : evB zs n f
  · rw [everyT_no h]; simp
  · obtain ⟨ht, m, k, rfl, rfl, _, _, hk⟩ := evB_t h
    rw [everyT_ok h, evF_len]
    exact Nat.le_trans (evN_le hk) ht.len
def EvR (zs : List Int) (w : World) (m f : Nat) (v vi : Value) (wr : World) : Prop :=
  ∃ i j : Nat, vi = .int .i64 i ∧ Hid (i = f + j * m) ∧ i ≤ zs.length + 8 ∧ j ≤ evN zs.length m f ∧ wr.ownsRow w.heap.size 3 1 v j (ints ((evF zs m f).take j)) ∧ Below w.heap.size w wr
theorem ev_next {zs : List Int} {m f i j : Nat} (hf : f < m) (hi : i = f + j * m) (hl : i < zs.length) : j < evN zs.length m f ∧ (evF zs m f).take (j + 1) = (evF zs m f).take j ++ [el zs i] ∧ i + m = f + (j + 1) * m := by
  have h := (evN_lt (L := zs.length) (j := j) hf).2 (by omega)
  refine ⟨h, ?_, by rw [Nat.add_mul]; omega⟩
  rw [take_el (by rw [evF_len]; exact h), evF_at h, ← hi]
theorem ev_done {zs : List Int} {m f i j : Nat} (hf : f < m) (hi : i = f + j * m) (hl : ¬ i < zs.length) (hj : j ≤ evN zs.length m f) : j = evN zs.length m f := by
  have h : ¬ j < evN zs.length m f := by rw [evN_lt hf, ← hi]; exact hl
  omega
set_option maxHeartbeats 1000000 in
theorem everyOf_any (zs : List Int) (A : Option Addr) (c : Nat) (w : World) (hr : Rd w w.heap.size A (ints zs)) (hl : zs.length ≤ 40) (m f : Nat) (hm : 1 ≤ m) (hm8 : m ≤ 8) (hf : f < m) :
    Calls Try.prog 62 #[.slice A zs.length c, .int .i64 m, .int .i64 f] w (OutI (evF zs m f) w) := by
  obtain ⟨i0, hi, hz0, hz1, hz2⟩ := info_parts info_int
  go_enter Try.func62, Try.ntmps62
  go_wp2
  go_loopw [7, 8] (fun v vi wr => EvR zs w m f v vi wr) (fun _ vi _ => zs.length + 9 - (intOf vi).toNat)
  case atStart => exact ⟨f, 0, rfl, Lib.hid (by omega), by omega, Nat.zero_le _, own_empty _ _, (Below.refl _ _).alloc (Nat.le_refl _) _⟩
  case round =>
    obtain ⟨i, j, rfl, hij, hib, hjb, hown, hbel⟩ := hrel
    have hsz := hbel.size
    have hev := evN_le (L := zs.length) hf
    by_cases hlt : i < zs.length
    · obtain ⟨b, off, rfl, hb, hc⟩ := (hr.below hbel).el_ hlt
      have HN := Lib.hid (ev_next hf hij.out hlt)
      go_wp2_with (at_builtin; refine wpList_append_own _ rfl _ _ 23 rfl (w.heap.size) 3 i0 (.int .i64 0) 1 8 Try.underlying23 hi hz0 hz1 hz2 rfl (by decide) _ _ _ rfl (hown.alloc _) ⟨wr.heap.size, 0, none⟩ 1 1 [.int .i64 (el zs i)] rfl rfl ?c1 ?c2 ?c3 ?c4 ?c5 ?_)
      first | (case c1 => first | exact one_new _ _ _ _ rfl | exact one_new _ _ _ _ (by simp)) | skip
      case c2 => first | rfl | (intro u hu; simp at hu; subst hu; rfl)
      case c3 => unfold maxLen; omega
      case c4 => omega
      case c5 => have := hbel.size; simp; omega
      · intro v' w1 hown' hgrow _
        have R : w1.ownsRow w.heap.size 3 1 v' (j + 1) (ints ((evF zs m f).take (j + 1))) := by
          rw [HN.out.2.1]; simpa [ints] using hown'
        have hb1 : Below w.heap.size w w1 := (hbel.alloc hbel.size _).grown hgrow (by simp; omega) (own_block hown)
        clear hown' hgrow hown hbel
        go_wp2
        go_roundw
        case rel => exact ⟨i + m, j + 1, by go_num, Lib.hid HN.out.2.2, by omega, HN.out.1, R, hb1⟩
        case measure => simp [intOf]; omega
    · have hd := ev_done hf hij.out hlt hjb
      obtain ⟨A', c', rfl⟩ := own_form hown
      have R := out_mk (l := evF zs m f) (n := j) (by rw [evF_len]; exact hd.symm) (by rw [List.take_of_length_le (by rw [evF_len]; omega)] at hown; exact hown) hbel
      clear hown hbel
      go_wp2
      go_ret
      exact R
set_option maxHeartbeats 1000000 in
theorem sEvery_any (zs : List Int) (A : Option Addr) (c : Nat) (w : World) (hr : Rd w w.heap.size A (ints zs)) (hn : zs.length ≤ 1048576) (n f : Int) :
    Calls Try.prog 45 #[.slice A zs.length c, .int .i64 n, .int .i64 f] w (OutI (everyT zs n f) w) := by
  cases hv : timesB zs
  · rw [everyT_no (by unfold evB; rw [hv]; rfl)]
    have Hv := Lib.hid hv
    clear hv
    go_enter Try.func45, Try.ntmps45
    go_wp2_with (first | (go_at_call 48; refine (sVT_is _ _ _ _ _ hr hn Hv.out).mono ?_; rintro e w' ⟨rfl, nv, rfl⟩) | (go_at_call 60; refine (inRange_any _ _ _ _).mono ?_; rintro e w' ⟨rfl, rfl⟩))
    go_ret
    exact out_drew (n := nv) (out_nil _)
  · cases h1 : inB n 1 8
    · rw [everyT_no (by unfold evB; rw [hv, h1]; rfl)]
      have Hv := Lib.hid hv
      clear hv
      go_enter Try.func45, Try.ntmps45
      go_wp2_with (first | (go_at_call 48; refine (sVT_is _ _ _ _ _ hr hn Hv.out).mono ?_; rintro e w' ⟨rfl, nv, rfl⟩) | (go_at_call 60; refine (inRange_any _ _ _ _).mono ?_; rintro e w' ⟨rfl, rfl⟩))
      go_ret
      exact out_drew (n := nv) (out_nil _)
    · have hnn := inB_t h1
      cases h2 : inB f 0 (n - 1)
      · rw [everyT_no (by unfold evB; rw [hv, h1, h2]; rfl)]
        have Hv := Lib.hid hv
        clear hv
        go_enter Try.func45, Try.ntmps45
        go_wp2_with (first | (go_at_call 48; refine (sVT_is _ _ _ _ _ hr hn Hv.out).mono ?_; rintro e w' ⟨rfl, nv, rfl⟩) | (go_at_call 60; refine (inRange_any _ _ _ _).mono ?_; rintro e w' ⟨rfl, rfl⟩))
        go_ret
        exact out_drew (n := nv) (out_nil _)
      · have he : evB zs n f = true := by unfold evB; rw [hv, h1, h2]; rfl
        obtain ⟨ht, m, k, rfl, rfl, hm1, hm8, hk⟩ := evB_t he
        rw [everyT_ok he]
        have hl := ht.len
        have Hv := Lib.hid hv
        clear hv ht he
        go_enter Try.func45, Try.ntmps45
        go_wp2_with (first | (go_at_call 48; refine (sVT_is _ _ _ _ _ hr hn Hv.out).mono ?_; rintro e w' ⟨rfl, nv, rfl⟩) | (go_at_call 60; refine (inRange_any _ _ _ _).mono ?_; rintro e w' ⟨rfl, rfl⟩))
        go_wp2_with fail
        refine (everyOf_any _ _ _ _ (hr.drewN nv) hl m k hm1 hm8 hk).mono ?_
        rintro e w1 ⟨A1, c1, rfl, o1, b1⟩
        have R : OutI (evF zs m k) w (.returned (.slice A1 (evF zs m k).length c1)) w1 := out_drew ⟨A1, c1, rfl, o1, b1⟩
        clear o1 b1
        go_wp2
        go_ret
        exact R
set_option maxHeartbeats 1000000 in
theorem iEvery_any (zs : List Int) (A : Option Addr) (c : Nat) (w : World) (hr : Rd w w.heap.size A (ints zs)) (n f : Int) :
    Calls Try.prog 23 #[.slice A zs.length c, .int .i64 n, .int .i64 f] w (OutI (everyT zs n f) w) := by
  cases hv : timesB zs
  · rw [everyT_no (by unfold evB; rw [hv]; rfl)]
    have Hv := Lib.hid hv
    clear hv
    go_enter Try.func23, Try.ntmps23
    go_wp2_with (go_at_call 16; refine (iVT_is _ _ _ _ _ hr Hv.out).mono ?_; rintro e w' ⟨rfl, rfl⟩)
    go_ret
    exact out_nil w
  · cases h1 : inB n 1 8
    · rw [everyT_no (by unfold evB; rw [hv, h1]; rfl)]
      have Hv := Lib.hid hv
      clear hv
      go_enter Try.func23, Try.ntmps23
      go_wp2_with (first | (go_at_call 16; refine (iVT_is _ _ _ _ _ hr Hv.out).mono ?_; rintro e w' ⟨rfl, rfl⟩) | (go_at_call 54; refine (vLifts_any _ _).mono ?_; rintro e w' ⟨rfl, rfl⟩))
      go_ret
      exact out_nil w
    · have hnn := inB_t h1
      by_cases h2 : 0 ≤ f ∧ f ≤ n - 1
      · have he : evB zs n f = true := by unfold evB; rw [hv, h1, inB_mk h2]; rfl
        obtain ⟨ht, m, k, rfl, rfl, hm1, hm8, hf⟩ := evB_t he
        rw [everyT_ok he]
        have hl := ht.len
        have Hv := Lib.hid hv
        have hfm : ¬ m ≤ k := by omega
        obtain ⟨i0, hi, hz0, hz1, hz2⟩ := info_parts info_int
        clear hv ht he h2
        go_enter Try.func23, Try.ntmps23
        go_wp2_with (first | (go_at_call 16; refine (iVT_is _ _ _ _ _ hr Hv.out).mono ?_; rintro e w' ⟨rfl, rfl⟩) | (go_at_call 54; refine (vLifts_any _ _).mono ?_; rintro e w' ⟨rfl, rfl⟩))
        go_loopw [7, 8] (fun v vi wr => EvR zs w m k v vi wr) (fun _ vi _ => zs.length + 9 - (intOf vi).toNat)
        case atStart => exact ⟨k, 0, rfl, Lib.hid (by omega), by omega, Nat.zero_le _, own_empty _ _, (Below.refl _ _).alloc (Nat.le_refl _) _⟩
        case round =>
          obtain ⟨i, j, rfl, hij, hib, hjb, hown, hbel⟩ := hrel
          have hsz := hbel.size
          have hev := evN_le (L := zs.length) hf
          by_cases hlt : i < zs.length
          · obtain ⟨b, off, rfl, hb, hc⟩ := (hr.below hbel).el_ hlt
            have HN := Lib.hid (ev_next hf hij.out hlt)
            go_wp2_with (at_builtin; refine wpList_append_own _ rfl _ _ 23 rfl (w.heap.size) 3 i0 (.int .i64 0) 1 8 Try.underlying23 hi hz0 hz1 hz2 rfl (by decide) _ _ _ rfl (hown.alloc _) ⟨wr.heap.size, 0, none⟩ 1 1 [.int .i64 (el zs i)] rfl rfl ?c1 ?c2 ?c3 ?c4 ?c5 ?_)
            first | (case c1 => first | exact one_new _ _ _ _ rfl | exact one_new _ _ _ _ (by simp)) | skip
            case c2 => first | rfl | (intro u hu; simp at hu; subst hu; rfl)
            case c3 => unfold maxLen; omega
            case c4 => omega
            case c5 => have := hbel.size; simp; omega
            · intro v' w1 hown' hgrow _
              have R : w1.ownsRow w.heap.size 3 1 v' (j + 1) (ints ((evF zs m k).take (j + 1))) := by
                rw [HN.out.2.1]; simpa [ints] using hown'
              have hb1 : Below w.heap.size w w1 := (hbel.alloc hbel.size _).grown hgrow (by simp; omega) (own_block hown)
              clear hown' hgrow hown hbel
              go_wp2
              go_roundw
              case rel => exact ⟨i + m, j + 1, by go_num, Lib.hid HN.out.2.2, by omega, HN.out.1, R, hb1⟩
              case measure => simp [intOf]; omega
          · have hd := ev_done hf hij.out hlt hjb
            obtain ⟨A', c', rfl⟩ := own_form hown
            have R := out_mk (l := evF zs m k) (n := j) (by rw [evF_len]; exact hd.symm) (by rw [List.take_of_length_le (by rw [evF_len]; omega)] at hown; exact hown) hbel
            clear hown hbel
            go_wp2
            go_ret
            exact R
      · rw [everyT_no (by unfold evB; rw [hv, h1, inB_nk h2]; rfl)]
        have Hv := Lib.hid hv
        clear hv
        by_cases h3 : f < 0
        · clear h2
          go_enter Try.func23, Try.ntmps23
          go_wp2_with (first | (go_at_call 16; refine (iVT_is _ _ _ _ _ hr Hv.out).mono ?_; rintro e w' ⟨rfl, rfl⟩) | (go_at_call 54; refine (vLifts_any _ _).mono ?_; rintro e w' ⟨rfl, rfl⟩))
          go_ret
          exact out_nil w
        · have h4 : n ≤ f := by omega
          clear h2
          go_enter Try.func23, Try.ntmps23
          go_wp2_with (first | (go_at_call 16; refine (iVT_is _ _ _ _ _ hr Hv.out).mono ?_; rintro e w' ⟨rfl, rfl⟩) | (go_at_call 54; refine (vLifts_any _ _).mono ?_; rintro e w' ⟨rfl, rfl⟩))
          go_ret
          exact out_nil w
theorem iEvery_is {ts : List Int} (zs : List Int) (A : Option Addr) (c : Nat) (w : World) (hr : Rd w w.heap.size A (ints zs)) (n f : Int) (h : ts = everyT zs n f) :
    Calls Try.prog 23 #[.slice A zs.length c, .int .i64 n, .int .i64 f] w (OutI ts w) := by rw [h]; exact iEvery_any zs A c w hr n f
theorem sEvery_is {ts : List Int} (zs : List Int) (A : Option Addr) (c : Nat) (w : World) (hr : Rd w w.heap.size A (ints zs)) (hn : zs.length ≤ 1048576) (n f : Int) (h : ts = everyT zs n f) :
    Calls Try.prog 45 #[.slice A zs.length c, .int .i64 n, .int .i64 f] w (OutI ts w) := by rw [h]; exact sEvery_any zs A c w hr hn n f

end Go.Proofs.Ytcjcdlhmhhbkgaa

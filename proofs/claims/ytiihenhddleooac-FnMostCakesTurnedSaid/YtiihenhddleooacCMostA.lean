/- Contracts of chapter 3: the most cakes, the program and the model. -/
import Derived.Test.YtiihenhddleooacCMostY
import Derived.Test.YtiihenhddleooacFBel
import Derived.Test.YtiihenhddleooacFCakes
namespace Go.Proofs.Ytiihenhddleooac
open Go.RowKit
set_option linter.unusedVariables false
set_option linter.unusedSimpArgs false
theorem mostG_bd (w h : Nat) : ∀ (f a : Nat) (ff : List (List Bool)), 0 ≤ mostG w h ff f a ∧ mostG w h ff f a ≤ f
  | 0, _, _ => by unfold mostG; omega
  | f + 1, a, ff => by
    have h1 := mostG_bd w h f (a + 1) ff
    have h2 := mostG_bd w h f (a + 1) (clr ff (mS w (a % wideB ff) (a / wideB ff) h))
    unfold mostG
    split
    · split <;> omega
    · omega
theorem sMost_all (cw ch : Nat) (hw : 1 ≤ cw ∧ cw ≤ 4) (hh : 1 ≤ ch ∧ ch ≤ 4) : ∀ (f a : Nat) (ff : List (List Bool)) (n W M : Nat), ff.length = n → wideB ff = W → n * W = M → fieldB ff = true → n ≤ 5 → W ≤ 5 → f + a = M → ∀ (A : Option Addr) (c : Nat) (w : World), n ≤ c → c ≤ maxLen → RdF w w.heap.size A ff →
    Calls Try.prog 35 #[.slice A n c, .int .i64 (cw : Nat), .int .i64 (ch : Nat), .int .i64 (a : Nat)] w fun e w' => e = .returned (.int .i64 (mostG cw ch ff f a)) ∧ Below w.heap.size w w'
  | 0, a, ff, n, W, M, hn, hW, hM, hv, h5, w5, hfa, A, c, w, q3, q4, hg => by
    have ha : a = M := by omega
    subst ha
    exact sMost_zero cw ch ff n W _ hn hW hM hv h5 w5 A c w q3 q4 hg
  | f + 1, a, ff, n, W, M, hn, hW, hM, hv, h5, w5, hfa, A, c, w, q3, q4, hg => by
    have hl := field_len hv
    have hM5 : n * W ≤ 5 * 5 := Nat.mul_le_mul h5 w5
    have ih := sMost_all cw ch hw hh f (a + 1) ff n W M hn hW hM hv h5 w5 (by omega) A c w q3 q4 hg
    rw [show (((a + 1 : Nat)) : Int) = (a : Int) + 1 by omega] at ih
    have hb1 := mostG_bd cw ch f (a + 1) ff
    unfold mostG
    rw [hW]
    cases e : wholeB ff cw ch (a % W) (a / W)
    · have := sMost_no cw ch hw hh ff n W M a _ _ (mostG cw ch ff f (a + 1)) hn hW hM hv h5 w5 (by omega) rfl rfl A c w q3 q4 hg e ih
      simpa using this
    · have hb2 := mostG_bd cw ch f (a + 1) (clr ff (mS cw (a % W) (a / W) ch))
      have hj : ∀ (A' : Option Addr) (c' : Nat) (w' : World), n ≤ c' → c' ≤ maxLen → RdF w' w'.heap.size A' (clr ff (mS cw (a % W) (a / W) ch)) → Calls Try.prog 35 #[.slice A' n c', .int .i64 (cw : Nat), .int .i64 (ch : Nat), .int .i64 ((a : Int) + 1)] w' fun e w'' => e = .returned (.int .i64 (mostG cw ch (clr ff (mS cw (a % W) (a / W) ch)) f (a + 1))) ∧ Below w'.heap.size w' w'' := fun A' c' w' q5 q6 hg' => by
        have := sMost_all cw ch hw hh f (a + 1) (clr ff (mS cw (a % W) (a / W) ch)) n W M (by rw [clr_len]; exact hn) (by rw [clr_wide hl.1]; exact hW) hM (clr_field hv _) h5 w5 (by omega) A' c' w' q5 q6 hg'
        rw [show (((a + 1 : Nat)) : Int) = (a : Int) + 1 by omega] at this
        exact this
      have := sMost_yes cw ch hw hh ff n W M a _ _ (mostG cw ch ff f (a + 1)) (mostG cw ch (clr ff (mS cw (a % W) (a / W) ch)) f (a + 1)) (by omega) (by omega) hn hW hM hv h5 w5 (by omega) rfl rfl A c w q3 q4 hg e ih hj
      simpa using this
def smallB (ff : List (List Bool)) (a b : Int) : Bool := (fieldB ff && (decide (ff.length ≤ 5) && decide (wideB ff ≤ 5))) && (sidesB a b && !(a * b == 1))
def mostT (ff : List (List Bool)) (a b : Int) : Int := if smallB ff a b then apartF (setsF ff a.toNat b.toNat) 0 else -1
theorem mostT_no {ff : List (List Bool)} {a b : Int} (h : smallB ff a b = false) : mostT ff a b = -1 := by unfold mostT; rw [h]; rfl
set_option maxRecDepth 100000 in
set_option maxHeartbeats 1000000 in
theorem iMost_T (ff : List (List Bool)) (A : Option Addr) (c : Nat) (hcap : ff.length ≤ c ∧ c ≤ maxLen) (w : World) (hg : RdF w w.heap.size A ff) (a b : Int) :
    Calls Try.prog 8 #[.slice A ff.length c, .int .i64 a, .int .i64 b] w fun e w' => e = .returned (.int .i64 (mostT ff a b)) ∧ Below w.heap.size w w' := by
  cases hv : fieldB ff
  · have Hv := Lib.hid hv
    rw [mostT_no (by unfold smallB; rw [hv]; rfl)]
    clear hv
    go_enter Try.func8, Try.ntmps8
    go_wp2_with (go_at_call 29; refine (iVF_is _ _ _ _ _ hg Hv.out).mono ?_; rintro e w' ⟨rfl, rfl⟩)
    go_ret
    exact ⟨rfl, Below.refl _ _⟩
  · have Hv := Lib.hid hv
    have hf : Fld w w.heap.size A ff := ⟨hv, hg⟩
    obtain ⟨bq, off, A0, c0, rfl, hbq, h0⟩ := hf.row0
    have hl := field_len hv
    have hwd := field_wide hv
    by_cases h5 : ff.length ≤ 5
    · by_cases w5 : wideB ff ≤ 5
      · cases hs : sidesB a b
        · have Hs := Lib.hid hs
          rw [mostT_no (by unfold smallB; rw [hs]; simp)]
          clear hs hv
          generalize wideB ff = W at *
          go_enter Try.func8, Try.ntmps8
          go_wp2_with (first | (go_at_call 29; refine (iVF_is _ _ _ _ _ hg Hv.out).mono ?_; rintro e w' ⟨rfl, rfl⟩) | (go_at_call 30; refine (vSides_is Hs.out _).mono ?_; rintro e w' ⟨rfl, rfl⟩))
          go_ret
          exact ⟨rfl, Below.refl _ _⟩
        · obtain ⟨⟨s1, s2⟩, ⟨s3, s4⟩⟩ := sidesB_t hs
          obtain ⟨cw, rfl⟩ := Int.eq_ofNat_of_zero_le (show 0 ≤ a by omega)
          obtain ⟨ch, rfl⟩ := Int.eq_ofNat_of_zero_le (show 0 ≤ b by omega)
          by_cases h1 : cw = 1 ∧ ch = 1
          · obtain ⟨rfl, rfl⟩ := h1
            have Hs := Lib.hid hs
            rw [mostT_no (by unfold smallB; simp)]
            clear hs hv
            generalize wideB ff = W at *
            go_enter Try.func8, Try.ntmps8
            go_wp2_with (first | (go_at_call 29; refine (iVF_is _ _ _ _ _ hg Hv.out).mono ?_; rintro e w' ⟨rfl, rfl⟩) | (go_at_call 30; refine (vSides_is Hs.out _).mono ?_; rintro e w' ⟨rfl, rfl⟩))
            go_ret
            exact ⟨rfl, Below.refl _ _⟩
          · have hm1 : ((cw : Int) * (ch : Int) == 1) = false := by
              refine beq_eq_false_iff_ne.2 fun e => h1 ?_
              have e2 : cw * ch = 1 := by
                have : ((cw * ch : Nat) : Int) = 1 := by rw [Int.natCast_mul]; exact e
                omega
              exact ⟨Nat.eq_one_of_mul_eq_one_right e2, Nat.eq_one_of_mul_eq_one_left e2⟩
            have e : mostT ff (cw : Int) (ch : Int) = apartF (setsF ff cw ch) 0 := by
              unfold mostT smallB
              rw [hv, hs, hm1, decide_eq_true h5, decide_eq_true w5]
              rfl
            rw [e]
            exact iMostOk_any ff _ c hcap w hg cw ch hv hs h5 w5 h1
      · rw [mostT_no (by unfold smallB; rw [decide_eq_false w5]; simp)]
        have w5i : (5 : Int) < (wideB ff : Int) := by omega
        clear hv
        generalize wideB ff = W at *
        go_enter Try.func8, Try.ntmps8
        go_wp2_with (go_at_call 29; refine (iVF_is _ _ _ _ _ hg Hv.out).mono ?_; rintro e w' ⟨rfl, rfl⟩)
        go_ret
        exact ⟨rfl, Below.refl _ _⟩
    · rw [mostT_no (by unfold smallB; rw [decide_eq_false h5]; simp)]
      have h5i : (5 : Int) < (ff.length : Int) := by omega
      clear hv
      generalize wideB ff = W at *
      go_enter Try.func8, Try.ntmps8
      go_wp2_with (go_at_call 29; refine (iVF_is _ _ _ _ _ hg Hv.out).mono ?_; rintro e w' ⟨rfl, rfl⟩)
      go_ret
      exact ⟨rfl, Below.refl _ _⟩
set_option maxRecDepth 100000 in
set_option maxHeartbeats 1000000 in
theorem sMost_T (ff : List (List Bool)) (A : Option Addr) (c : Nat) (hcap : ff.length ≤ c ∧ c ≤ maxLen) (w : World) (hg : RdF w w.heap.size A ff) (hn : ff.length ≤ 1048576) (a b : Int) :
    Calls Try.prog 9 #[.slice A ff.length c, .int .i64 a, .int .i64 b] w fun e w' => e = .returned (.int .i64 (mostT ff a b)) ∧ Below w.heap.size w w' := by
  cases hv : fieldB ff
  · have Hv := Lib.hid hv
    rw [mostT_no (by unfold smallB; rw [hv]; rfl)]
    clear hv
    go_enter Try.func9, Try.ntmps9
    go_wp2_with (go_at_call 33; refine (sVF_is _ _ _ _ _ hg hn Hv.out).mono ?_; rintro e w' ⟨rfl, nv, rfl⟩)
    go_ret
    exact ⟨rfl, below_drewN (Below.refl _ _) _⟩
  · have Hv := Lib.hid hv
    have hf : Fld w w.heap.size A ff := ⟨hv, hg⟩
    obtain ⟨bq, off, A0, c0, rfl, hbq, h0⟩ := hf.row0
    have hl := field_len hv
    have hwd := field_wide hv
    cases hs : sidesB a b
    · have Hs := Lib.hid hs
      rw [mostT_no (by unfold smallB; rw [hs]; simp)]
      clear hs hv
      generalize wideB ff = W at *
      go_enter Try.func9, Try.ntmps9
      go_wp2_with (first | (go_at_call 33; refine (sVF_is _ _ _ _ _ hg hn Hv.out).mono ?_; rintro e w' ⟨rfl, nv, rfl⟩) | (go_at_call 34; refine (vSize_is Hs.out _).mono ?_; rintro e w' ⟨rfl, rfl⟩))
      go_ret
      exact ⟨rfl, below_drewN (Below.refl _ _) _⟩
    · obtain ⟨⟨s1, s2⟩, ⟨s3, s4⟩⟩ := sidesB_t hs
      obtain ⟨cw, rfl⟩ := Int.eq_ofNat_of_zero_le (show 0 ≤ a by omega)
      obtain ⟨ch, rfl⟩ := Int.eq_ofNat_of_zero_le (show 0 ≤ b by omega)
      have Hs := Lib.hid hs
      by_cases h1 : cw = 1 ∧ ch = 1
      · obtain ⟨rfl, rfl⟩ := h1
        rw [mostT_no (by unfold smallB; simp)]
        clear hs hv
        generalize wideB ff = W at *
        go_enter Try.func9, Try.ntmps9
        go_wp2_with (first | (go_at_call 33; refine (sVF_is _ _ _ _ _ hg hn Hv.out).mono ?_; rintro e w' ⟨rfl, nv, rfl⟩) | (go_at_call 34; refine (vSize_is Hs.out _).mono ?_; rintro e w' ⟨rfl, rfl⟩))
        go_ret
        exact ⟨rfl, below_drewN (Below.refl _ _) _⟩
      · have hm1 : ((cw : Int) * (ch : Int) == 1) = false := by
          refine beq_eq_false_iff_ne.2 fun e => h1 ?_
          have e2 : cw * ch = 1 := by
            have : ((cw * ch : Nat) : Int) = 1 := by rw [Int.natCast_mul]; exact e
            omega
          exact ⟨Nat.eq_one_of_mul_eq_one_right e2, Nat.eq_one_of_mul_eq_one_left e2⟩
        have hm2 : 0 ≤ (cw : Int) * (ch : Int) ∧ (cw : Int) * (ch : Int) ≤ 16 := by
          have h2 : cw * ch ≤ 4 * 4 := Nat.mul_le_mul (by omega) (by omega)
          rw [← Int.natCast_mul]; omega
        obtain ⟨m3, m4⟩ := hm2
        by_cases h5 : ff.length ≤ 5
        · by_cases w5 : wideB ff ≤ 5
          · have e : mostT ff (cw : Int) (ch : Int) = mostG cw ch ff (ff.length * wideB ff) 0 := by
              rw [mostG_all hv ⟨by omega, h5⟩ ⟨by omega, w5⟩ (by omega) (by omega)]
              unfold mostT smallB
              rw [hv, hs, hm1, decide_eq_true h5, decide_eq_true w5]
              rfl
            rw [e]
            have CM : Hid (∀ w', Below w.heap.size w w' → Calls Try.prog 35 #[.slice (some ⟨bq, off, none⟩) ff.length c, .int .i64 (cw : Nat), .int .i64 (ch : Nat), .int .i64 0] w' fun e w'' => e = .returned (.int .i64 (mostG cw ch ff (ff.length * wideB ff) 0)) ∧ Below w'.heap.size w' w'') := Lib.hid fun w' hb' =>
              sMost_all cw ch ⟨by omega, by omega⟩ ⟨by omega, by omega⟩ (ff.length * wideB ff) 0 ff ff.length (wideB ff) _ rfl rfl rfl hv h5 w5 (by omega) _ c w' hcap.1 hcap.2 ((hg.below hb').more hb'.size)
            generalize mostG cw ch ff (ff.length * wideB ff) 0 = R at *
            clear hs hv h1 hf e
            generalize wideB ff = W at *
            go_enter Try.func9, Try.ntmps9
            go_wp2_with (first | (go_at_call 33; refine (sVF_is _ _ _ _ _ hg hn Hv.out).mono ?_; rintro e w' ⟨rfl, nv, rfl⟩) | (go_at_call 34; refine (vSize_is Hs.out _).mono ?_; rintro e w' ⟨rfl, rfl⟩))
            go_wp2_with fail
            refine (CM.out _ (below_drewN (Below.refl _ _) nv)).mono ?_
            rintro e w2 ⟨rfl, b2⟩
            go_wp2
            go_ret
            exact ⟨rfl, (below_drewN (Below.refl _ _) nv).trans (b2.mono (Nat.le_refl _))⟩
          · rw [mostT_no (by unfold smallB; rw [decide_eq_false w5]; simp)]
            have w5i : (5 : Int) < (wideB ff : Int) := by omega
            clear hs hv
            generalize wideB ff = W at *
            go_enter Try.func9, Try.ntmps9
            go_wp2_with (first | (go_at_call 33; refine (sVF_is _ _ _ _ _ hg hn Hv.out).mono ?_; rintro e w' ⟨rfl, nv, rfl⟩) | (go_at_call 34; refine (vSize_is Hs.out _).mono ?_; rintro e w' ⟨rfl, rfl⟩))
            go_ret
            exact ⟨rfl, below_drewN (Below.refl _ _) _⟩
        · rw [mostT_no (by unfold smallB; rw [decide_eq_false h5]; simp)]
          have h5i : (5 : Int) < (ff.length : Int) := by omega
          clear hs hv
          generalize wideB ff = W at *
          go_enter Try.func9, Try.ntmps9
          go_wp2_with (first | (go_at_call 33; refine (sVF_is _ _ _ _ _ hg hn Hv.out).mono ?_; rintro e w' ⟨rfl, nv, rfl⟩) | (go_at_call 34; refine (vSize_is Hs.out _).mono ?_; rintro e w' ⟨rfl, rfl⟩))
          go_ret
          exact ⟨rfl, below_drewN (Below.refl _ _) _⟩

end Go.Proofs.Ytiihenhddleooac

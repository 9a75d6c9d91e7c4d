/- What the law FnSawLength asks: cuts of one cake; the generator of its arguments. -/
import Derived.Lib.QuietBelow
import Derived.Test.YtbnggakfogcalaeSawM
import Derived.Test.YtbnggakfogcalaeCSawS
import Derived.Test.YtbnggakfogcalaeSomeC
import Derived.Test.YtbnggakfogcalaeFSome
import Derived.Test.YtbnggakfogcalaeFCakesS
import Derived.Test.YtbnggakfogcalaeDraws
namespace Go.Proofs.Ytbnggakfogcalae
open Go.RowKit
set_option linter.unusedVariables false
set_option linter.unusedSimpArgs false
theorem field_drawn {ff : List (List Bool)} {W : Nat} (h1 : 1 ≤ W ∧ W ≤ 9) (h2 : 1 ≤ ff.length ∧ ff.length ≤ 9) (h : ∀ r ∈ ff, r.length = W) : fieldB ff = true := by
  have hw : wideB ff = W := by
    unfold wideB
    cases ff with
    | nil => simp at h2
    | cons r rs => exact h r (by simp)
  unfold fieldB rowsF
  simp only [Bool.and_eq_true, decide_eq_true_eq, List.all_eq_true]
  refine ⟨h2, fun r hr => ?_⟩
  have := h r hr
  rw [hw]
  omega
theorem owz_caps' {w : World} {base n : Nat} {T : TypeId} {z : Nat} {A : Option Addr} {c : Nat} {xs : List Value} (o : w.ownsRow base T z (.slice A n c) n xs) : n ≤ c ∧ c ≤ maxLen := by
  rcases o.2 with ⟨h0, hz⟩ | ⟨g, cap, cur, hv, _, _, hnc, hcm, _⟩
  · injection h0 with _ q1 q2; rw [q1, q2]; exact ⟨Nat.le_refl _, Nat.zero_le _⟩
  · injection hv with _ _ q2; subst q2; exact ⟨hnc, hcm⟩
def CDrawL (w : World) (cs : List (Int × Int)) (A : Option Addr) (c : Nat) : Prop := cs.length ≤ 81 ∧ cs.length ≤ c ∧ c ≤ maxLen ∧ Rd w w.heap.size A (cakeV cs)
def dSawPost (w : World) (e : Ending) (w' : World) : Prop := ∃ (ks : List (Int × Int)) (Ak : Option Addr) (ck : Nat) (a h : Int), e = .returned (.tuple #[.slice Ak ks.length ck, .int .i64 a, .int .i64 h]) ∧ CDrawL w' ks Ak ck ∧ (1 ≤ a ∧ a ≤ 3) ∧ (1 ≤ h ∧ h ≤ 3) ∧ Below w.heap.size w w'
set_option maxHeartbeats 1000000 in
theorem dSawLength (cs : List Int) (A : Option Addr) (c : Nat) (w : World) (hr : Rd w w.heap.size A (bytes cs)) (hb : ∀ z ∈ cs, 0 ≤ z ∧ z ≤ 255) (hn : cs.length ≤ c) (hm : c ≤ maxLen) :
    Calls Try.prog 27 #[.slice A cs.length c] w (dSawPost w) := by
  go_enter Try.func27, Try.ntmps27
  go_wp2_with fail
  refine (newReader_any _ _ _ _ hr hb hn hm).mono ?_
  rintro e w1 ⟨g, rfl, r1, b1⟩
  have hB := r1.1
  have hsz := b1.size
  go_wp2_with fail
  refine (pick_any _ _ _ _ _ r1 (by omega) (by omega)).mono ?_
  rintro e w2 ⟨z, rfl, z0, z1, r2, g2⟩
  by_cases hz : z = 0
  · subst hz
    go_wp2_with fail
    refine (one_any [2, 1, 3] 3 rfl _ _ _ _ _ (r2.alloc _) (by omega) (by omega) (by omega) (alloc_at (by simp)) (by have := r2.lt; omega)).mono ?_
    rintro e w3 ⟨a, rfl, hma, rw3, gw3⟩
    have hba : 1 ≤ a ∧ a ≤ 3 := by simp only [List.mem_cons, List.not_mem_nil, or_false] at hma; omega
    clear hma
    go_wp2_with fail
    refine (someField_any _ _ _ _ rw3 (by omega) 6 (by omega) (by omega)).mono ?_
    rintro e w4 ⟨v, W, rfl, hW1, hW6, hs⟩
    obtain ⟨j, m, q, xs, ff, hj0, hjm, hpg, hrows, hq, hR, hG, hjm1⟩ := hs
    have hj1 : j = 0 := by injection hj0 with _ hh; omega
    subst hj1
    obtain ⟨A5, c5, rfl⟩ := own_form hpg.out
    have hfl := hpg.len
    have hv : fieldB ff = true := field_drawn ⟨hW1, hW6⟩ (by omega) hrows
    obtain ⟨a', rfl⟩ := Int.eq_ofNat_of_zero_le (show 0 ≤ a by omega)
    have hs : sidesB (a' : Int) ((2 : Nat) : Int) = true := by unfold sidesB; rw [inB_mk (by omega), inB_mk (by omega)]; rfl
    have hcall := sCakesN_any ff A5 c5 w4 hpg.rd a' 2 0 0 hv hs (by omega) (by omega)
    have hgl := gridF_len (w := a') (h := 2) (dx := 0) (dy := 0) hv
    rw [hfl] at hcall
    have hbl := fin_below b1 r1 (only_trans (only_trans (only_alloc (only_trans (only_refl _ g) g2) _) gw3) hG)
    have HBL := Lib.hid hbl
    clear hbl hpg hrows hG hR rw3 gw3 r2 g2 r1 hj0
    generalize gridF ff a' 2 0 0 = ks at *
    go_wp2_with fail
    refine hcall.mono ?_
    rintro e w5 ⟨A6, c6, rfl, o6, b6⟩
    have hcaps := owz_caps' o6
    have hd : CDrawL w5 ks A6 c6 := ⟨hgl, hcaps.1, hcaps.2, Rd.ownz o6⟩
    have HD := Lib.hid (And.intro hd (HBL.out.trans (b6.mono HBL.out.size)))
    clear hd o6 b6 hcall
    go_wp2
    go_ret3
    exact ⟨ks, A6, c6, a', 2, rfl, HD.out.1, by omega, by omega, HD.out.2⟩
  · have hzb : (z == 0) = false := beq_eq_false_iff_ne.2 hz
    go_wp2_with fail
    refine (someCakes_any _ _ _ _ r2 (by omega) 8 (by omega) (by omega)).mono ?_
    rintro e w3 ⟨ks, Ak, ck, q, a, h, rfl, ha, hh, hl, hq, o3, r3, g3⟩
    have hcaps := owz_caps' o3
    have hd : CDrawL w3 ks Ak ck := ⟨by omega, hcaps.1, hcaps.2, Rd.ownz o3⟩
    have hbl := fin_below b1 r1 (only_trans (only_trans (only_refl _ g) g2) g3)
    have HD := Lib.hid (And.intro hd hbl)
    clear hd hbl o3 r3 g3 r2 g2 r1 b1 hr
    go_wp2
    go_ret3
    exact ⟨ks, Ak, ck, a, h, rfl, HD.out.1, ha, hh, HD.out.2⟩
theorem saw_one {a b : Int} {c : Int × Int} {cs : List (Int × Int)} (h : cakesB a b (c :: cs) = true) : sawT a b [c] = 2 * (a + b) := by
  have hp := cakesB_parts h
  have h1 : cakesB a b [c] = true := by
    unfold cakesB
    rw [hp.1, Bool.true_and]
    have h2 := hp.2
    unfold okTo at h2 ⊢
    rw [List.all_eq_true] at h2 ⊢
    intro i hi
    rw [List.mem_range, List.length_singleton] at hi
    obtain rfl : i = 0 := by omega
    have h3 := h2 0 (List.mem_range.2 (by simp))
    have e : cAt [c] 0 = cAt (c :: cs) 0 := rfl
    rw [e]
    simp only [Bool.and_eq_true] at h3 ⊢
    exact ⟨h3.1, by unfold anyOver; simp⟩
  rw [sawT_ok h1]
  unfold sawF
  simp [shAll, shTo]
theorem cakeV_head (c : Int × Int) (cs : List (Int × Int)) : (cakeV (c :: cs)).take 2 = cakeV [c] := by
  simp [cakeV]

end Go.Proofs.Ytbnggakfogcalae

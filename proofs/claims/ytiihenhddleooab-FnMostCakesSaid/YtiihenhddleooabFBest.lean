/- Contracts of chapter 3: the grid with the most cakes. -/
import Derived.Test.YtiihenhddleooabFCakesS
namespace Go.Proofs.Ytiihenhddleooab
open Go.RowKit
set_option linter.unusedVariables false
set_option linter.unusedSimpArgs false
def cntF (ff : List (List Bool)) (w h dx dy : Nat) : Nat := (gridF ff w h dx dy).length
def bestRow (ff : List (List Bool)) (w h y : Nat) (b : Nat × Nat) : Nat → Nat × Nat
  | 0 => b
  | x + 1 => if cntF ff w h (bestRow ff w h y b x).1 (bestRow ff w h y b x).2 < cntF ff w h x y then (x, y) else bestRow ff w h y b x
def bestAll (ff : List (List Bool)) (w h : Nat) : Nat → Nat × Nat
  | 0 => (0, 0)
  | y + 1 => bestRow ff w h y (bestAll ff w h y) w
/-- the best so far, ahead of the place x in the row y -/
structure BR (ff : List (List Bool)) (w h y x bx b2 : Nat) : Prop where
  eq : bestRow ff w h y (bestAll ff w h y) x = (bx, b2)
  lx : bx < w
  ly : b2 < h
theorem BR.zero {ff : List (List Bool)} {w h : Nat} (hw : 1 ≤ w) (hh : 1 ≤ h) : BR ff w h 0 0 0 0 := ⟨rfl, by omega, by omega⟩
theorem BR.more {ff : List (List Bool)} {w h y x bx b2 : Nat} (b : BR ff w h y x bx b2) (hx : x < w) (hy : y < h) (hc : cntF ff w h bx b2 < cntF ff w h x y) : BR ff w h y (x + 1) x y :=
  ⟨by show (if _ then _ else _) = _; rw [b.eq]; exact if_pos hc, hx, hy⟩
theorem BR.stay {ff : List (List Bool)} {w h y x bx b2 : Nat} (b : BR ff w h y x bx b2) (hc : ¬ cntF ff w h bx b2 < cntF ff w h x y) : BR ff w h y (x + 1) bx b2 :=
  ⟨by show (if _ then _ else _) = _; rw [b.eq]; exact if_neg hc, b.lx, b.ly⟩
theorem BR.next {ff : List (List Bool)} {w h y bx b2 : Nat} (b : BR ff w h y w bx b2) : BR ff w h (y + 1) 0 bx b2 := ⟨b.eq, b.lx, b.ly⟩
theorem cntF_le {ff : List (List Bool)} {w h x y : Nat} (hv : fieldB ff = true) : cntF ff w h x y ≤ 81 := gridF_len hv
def bestT (ff : List (List Bool)) (w h : Int) : Int × Int := if fieldB ff && sidesB w h then (((bestAll ff w.toNat h.toNat h.toNat).1 : Int), ((bestAll ff w.toNat h.toNat h.toNat).2 : Int)) else (-1, -1)
theorem bestT_no {ff : List (List Bool)} {w h : Int} (hq : (fieldB ff && sidesB w h) = false) : bestT ff w h = (-1, -1) := by unfold bestT; rw [hq]; rfl
theorem bestT_ok {ff : List (List Bool)} {w h bx b2 : Nat} (hv : fieldB ff = true) (hs : sidesB w h = true) (b : BR ff w h h 0 bx b2) : bestT ff w h = ((bx : Int), (b2 : Int)) := by
  have e := b.eq
  unfold bestT
  rw [hv, hs]
  have e' : bestAll ff w h h = (bx, b2) := e
  simp [e']
def BestPost (p : Int × Int) (w : World) (e : Ending) (w' : World) : Prop := e = .returned (.tuple #[.int .i64 p.1, .int .i64 p.2]) ∧ Below w.heap.size w w'
theorem nat_sides {w h : Int} (hs : sidesB w h = true) : ∃ cw ch : Nat, w = cw ∧ h = ch := by
  have := sidesB_t hs
  exact ⟨w.toNat, h.toNat, by omega, by omega⟩
set_option maxRecDepth 100000 in
set_option maxHeartbeats 2000000 in
theorem iBest_any (ff : List (List Bool)) (A : Option Addr) (c : Nat) (hcap : ff.length ≤ c ∧ c ≤ maxLen) (w : World) (hg : RdF w w.heap.size A ff) (a h : Int) :
    Calls Try.prog 55 #[.slice A ff.length c, .int .i64 a, .int .i64 h] w (BestPost (bestT ff a h) w) := by
  cases hv : fieldB ff
  · rw [bestT_no (by rw [hv]; rfl)]
    have Hv := Lib.hid hv
    clear hv
    go_enter Try.func55, Try.ntmps55
    go_wp2_with (go_at_call 87; refine (iVF_is _ _ _ _ _ hg Hv.out).mono ?_; rintro e w' ⟨rfl, rfl⟩)
    go_ret2
    exact ⟨rfl, Below.refl _ _⟩
  cases hs : sidesB a h
  · rw [bestT_no (by rw [hs]; simp)]
    have Hv := Lib.hid hv
    have Hs := Lib.hid hs
    clear hv hs
    go_enter Try.func55, Try.ntmps55
    go_wp2_with (first | (go_at_call 87; refine (iVF_is _ _ _ _ _ hg Hv.out).mono ?_; rintro e w' ⟨rfl, rfl⟩) | (go_at_call 88; refine (vSides_is Hs.out _).mono ?_; rintro e w' ⟨rfl, rfl⟩))
    go_ret2
    exact ⟨rfl, Below.refl _ _⟩
  obtain ⟨cw, ch, rfl, rfl⟩ := nat_sides hs
  have hs2 := sidesB_t hs
  obtain ⟨⟨s1, s2⟩, ⟨s3, s4⟩⟩ := hs2
  have HB : Hid (∀ bx b2, BR ff cw ch ch 0 bx b2 → bestT ff cw ch = ((bx : Int), (b2 : Int))) := Lib.hid fun bx b2 h => bestT_ok hv hs h
  have HC : Hid (∀ (wr : World) (x y : Nat), Below w.heap.size w wr → x < cw → y < ch → Calls Try.prog 56 #[.slice A ff.length c, .int .i64 (cw : Nat), .int .i64 (ch : Nat), .int .i64 (x : Nat), .int .i64 (y : Nat)] wr (OutC (gridF ff cw ch x y) wr)) :=
    Lib.hid fun wr x y hb hx hy => iCakesOk_any ff A c hcap wr ((hg.below hb).more hb.size) cw ch x y hv hs hx hy
  have HL : Hid (∀ x y, cntF ff cw ch x y ≤ 81) := Lib.hid fun x y => cntF_le hv
  have Hv := Lib.hid hv
  have Hs := Lib.hid hs
  have hbz := BR.zero (ff := ff) (w := cw) (h := ch) (by omega) (by omega)
  have HBZ := Lib.hid hbz
  clear hv hs hbz
  go_enter Try.func55, Try.ntmps55
  go_wp2_with (first | (go_at_call 87; refine (iVF_is _ _ _ _ _ hg Hv.out).mono ?_; rintro e w' ⟨rfl, rfl⟩) | (go_at_call 88; refine (vSides_is Hs.out _).mono ?_; rintro e w' ⟨rfl, rfl⟩))
  go_loopw [8, 9, 10, 11] (fun v8 v9 v10 i wr => ∃ y bx b2 m : Nat, y ≤ ch ∧ i = .int .i64 y ∧ v8 = .int .i64 bx ∧ v9 = .int .i64 b2 ∧ v10 = .int .i64 m ∧ m ≤ 81 ∧ BR ff cw ch y 0 bx b2 ∧ ((y = 0 ∧ bx = 0 ∧ b2 = 0 ∧ m = 0) ∨ m = cntF ff cw ch bx b2) ∧ Below w.heap.size w wr) (fun _ _ _ i _ => ch - (intOf i).toNat)
  case atStart => exact ⟨0, 0, 0, 0, Nat.zero_le _, rfl, rfl, rfl, rfl, Nat.zero_le _, HBZ.out, .inl ⟨rfl, rfl, rfl, rfl⟩, Below.refl _ _⟩
  case round =>
    obtain ⟨y, bx, b2, m, hy, rfl, rfl, rfl, rfl, hm, hbr, hcm, hbel⟩ := hrel
    have HBR := Lib.hid hbr
    have HCM := Lib.hid hcm
    have HBel := Lib.hid hbel
    clear hbr hcm hbel
    by_cases hlt : y < ch
    · go_wp2
      go_loopw [8, 9, 10, 12] (fun v8 v9 v10 i wr => ∃ x bx b2 m : Nat, x ≤ cw ∧ i = .int .i64 x ∧ v8 = .int .i64 bx ∧ v9 = .int .i64 b2 ∧ v10 = .int .i64 m ∧ m ≤ 81 ∧ BR ff cw ch y x bx b2 ∧ ((y = 0 ∧ x = 0 ∧ bx = 0 ∧ b2 = 0 ∧ m = 0) ∨ m = cntF ff cw ch bx b2) ∧ Below w.heap.size w wr) (fun _ _ _ i _ => cw - (intOf i).toNat)
      case atStart => exact ⟨0, bx, b2, m, Nat.zero_le _, rfl, rfl, rfl, rfl, hm, HBR.out, by rcases HCM.out with ⟨h1, h2, h3, h4⟩ | h; exact .inl ⟨h1, rfl, h2, h3, h4⟩; exact .inr h, HBel.out⟩
      case round =>
        clear hm HBR HCM HBel
        obtain ⟨x, bx, b2, m, hx, rfl, rfl, rfl, rfl, hm, hbr, hcm, hbel⟩ := hrel
        have HBR := Lib.hid hbr
        have HCM := Lib.hid hcm
        by_cases hxt : x < cw
        · have hcal := HC.out wr x y hbel hxt hlt
          have hcl := HL.out x y
          clear hbr hcm
          go_wp2_with fail
          refine hcal.mono ?_
          rintro e w5 ⟨A5, c5, rfl, o5, b5⟩
          have hbel5 := hbel.trans (b5.mono hbel.size)
          have HK : Hid (cntF ff cw ch x y = (gridF ff cw ch x y).length) := Lib.hid rfl
          rw [← HK.out] at o5 ⊢
          clear o5 b5 hcal hbel
          have HBel := Lib.hid hbel5
          clear hbel5
          by_cases hgt : m < cntF ff cw ch x y
          · have HN : Hid (BR ff cw ch y (x + 1) x y ∨ (y = 0 ∧ x = 0)) := Lib.hid (by
              rcases HCM.out with ⟨h1, h2, _⟩ | h
              · exact .inr ⟨h1, h2⟩
              · exact .inl (HBR.out.more hxt hlt (by rw [← h]; exact hgt)))
            have HN2 : Hid (BR ff cw ch y (x + 1) x y) := Lib.hid (by
              rcases HCM.out with ⟨h1, h2, h3, h4, h5⟩ | h
              · subst h1 h2 h3 h4
                exact HBR.out.stay (by omega)
              · exact HBR.out.more hxt hlt (by rw [← h]; exact hgt))
            have HE : Hid (∃ q, q = cntF ff cw ch x y) := Lib.hid ⟨_, rfl⟩
            obtain ⟨q, hq⟩ := HE.out
            rw [← hq] at hgt hcl ⊢
            have HQ := Lib.hid hq
            clear hq HN
            go_wp2
            go_roundw
            case rel => exact ⟨x + 1, x, y, q, by omega, by go_num, rfl, rfl, rfl, hcl, HN2.out, .inr HQ.out, HBel.out⟩
            case measure => simp [intOf]; omega
          · have HN2 : Hid (BR ff cw ch y (x + 1) bx b2 ∧ (m = cntF ff cw ch bx b2)) := Lib.hid (by
              rcases HCM.out with ⟨h1, h2, h3, h4, h5⟩ | h
              · subst h1 h2 h3 h4
                exact ⟨HBR.out.stay (by omega), by omega⟩
              · exact ⟨HBR.out.stay (by rw [← h]; exact hgt), h⟩)
            have HE : Hid (∃ q, q = cntF ff cw ch x y) := Lib.hid ⟨_, rfl⟩
            obtain ⟨q, hq⟩ := HE.out
            rw [← hq] at hgt hcl ⊢
            clear hq
            go_wp2
            go_roundw
            case rel => exact ⟨x + 1, bx, b2, m, by omega, by go_num, rfl, rfl, rfl, hm, HN2.out.1, .inr HN2.out.2, HBel.out⟩
            case measure => simp [intOf]; omega
        · obtain rfl : x = cw := by omega
          have HBel := Lib.hid hbel
          have HN : Hid (BR ff x ch (y + 1) 0 bx b2 ∧ (m = cntF ff x ch bx b2)) := Lib.hid ⟨hbr.next, by
            rcases hcm with ⟨h1, h2, h3, h4, h5⟩ | h
            · omega
            · exact h⟩
          clear hbr hcm hbel
          go_wp2
          go_roundw
          case rel => exact ⟨y + 1, bx, b2, m, by omega, by go_num, rfl, rfl, rfl, hm, HN.out.1, .inr HN.out.2, HBel.out⟩
          case measure => simp [intOf]; omega
    · obtain rfl : y = ch := by omega
      have HR := Lib.hid (HB.out bx b2 HBR.out)
      go_wp2
      go_ret2
      exact ⟨by have := HR.out; simp [this], HBel.out⟩
end Go.Proofs.Ytiihenhddleooab

/- The law FnMostWaiting: for every code it answers true, and the code reads as it read before. No condition. -/
import Derived.Test.YtcjcdlhmhhbkgaaLLaw
import Derived.Test.YtcjcdlhmhhbkgaaLDrawsB
import Derived.Test.YtcjcdlhmhhbkgaaLaw
namespace Go.Proofs.Ytcjcdlhmhhbkgaa
open Go.RowKit
set_option linter.unusedVariables false
set_option linter.unusedSimpArgs false

namespace fnMostWaiting
open Go.ChangeShapes Go.WideShapes Go.ChangeAt Go.RowKit
set_option maxHeartbeats 800000 in
set_option maxRecDepth 100000 in
set_option maxHeartbeats 8000000 in
theorem walk (w : World) (cs : List Int) (Acs : Option Addr) (ccs : Nat) (hrcs : Rd w w.heap.size Acs (bytes cs)) (hbcs : ∀ z ∈ cs, 0 ≤ z ∧ z ≤ 255) (hlcs : cs.length ≤ ccs ∧ ccs ≤ maxLen) :
    Calls Try.prog 9 #[.slice Acs cs.length ccs] w fun e w' => e = .returned (.bool true) ∧ Below w.heap.size w w' := by
  by_cases hn : cs.length ≤ 1048576
  · go_enter Try.func9, Try.ntmps9
    go_wp2_with fail
    refine (dMostWaiting _ _ _ _ hrcs hbcs hlcs.1 hlcs.2).mono ?_
    rintro e w1 ⟨zs, Azs, czs, a, b, rfl, ⟨hlzs, hrzs, hczs, hmzs⟩, ⟨loa, hia⟩, ⟨lob, hib⟩, b1⟩
    have hn1 : zs.length ≤ 1048576 := by omega
    obtain ⟨x, hx⟩ : ∃ x, x = mostT zs a b := ⟨_, rfl⟩
    have HX := Lib.hid hx
    clear hx
    have CI : Hid (∀ w' : World, Rd w' w'.heap.size Azs (ints zs) → Calls Try.prog 33 #[.slice Azs zs.length czs, .int .i64 a, .int .i64 b] w' fun e w'' => e = .returned (.int .i64 x) ∧ Below w'.heap.size w' w'') := Lib.hid fun w' h => by
        rw [HX.out]; exact iMost_any zs Azs czs w' h a b
    have CS : Hid (∀ w' : World, Rd w' w'.heap.size Azs (ints zs) → Calls Try.prog 34 #[.slice Azs zs.length czs, .int .i64 a, .int .i64 b] w' fun e w'' => e = .returned (.int .i64 x) ∧ Below w'.heap.size w' w'') := Lib.hid fun w' h => by
        rw [HX.out]; exact sMost_any zs Azs czs w' h hn1 a b
    go_wp2_with fail
    refine (CI.out w1 hrzs).mono ?_
    rintro e w2 ⟨rfl, b2⟩
    have hr2 := hrzs.up b2
    go_wp2_with fail
    refine (CS.out w2 hr2).mono ?_
    rintro e w3 ⟨rfl, b3⟩
    have hr3 := hr2.up b3
    have bl3 : Below w.heap.size w w3 := (b1.trans (b2.mono b1.size)).trans (b3.mono (by have := b1.size; have := b2.size; omega))
    clear b1 b2 b3 hrzs hr2 CI
    by_cases h0 : x < 0
    · skip
      go_wp2_with fail
      refine (CS.out w3 hr3).mono ?_
      rintro e w4 ⟨rfl, b4⟩
      have bl4 := bl3.trans (b4.mono bl3.size)
      clear b4 bl3 hr3 CS
      go_wp2
      go_ret
      exact ⟨rfl, bl4⟩
    · skip
      have hlv : lvB zs a b = true := by
        cases hq : lvB zs a b
        · rw [HX.out, mostT_no hq] at h0; omega
        · rfl
      obtain ⟨hT, hg, m, hbm, hm0, hm8⟩ := lvB_t hlv
      subst hbm
      have hl40 := hT.len
      have HX2 : Hid (x = mostF zs a m zs.length) := Lib.hid (by rw [HX.out, mostT_ok hlv])
      have HLV := Lib.hid hlv
      have HT := Lib.hid hT
      clear hlv hT
      have CW : Hid (∀ (w' : World) (t : Int), Rd w' w'.heap.size Azs (ints zs) → Calls Try.prog 28 #[.slice Azs zs.length czs, .int .i64 a, .int .i64 m, .int .i64 t] w' fun e w'' => e = .returned (.int .i64 (wc (el zs) (la zs a m) t zs.length)) ∧ Below w'.heap.size w' w'') := Lib.hid fun w' t h => by
        have := iWaitAt_any zs Azs czs w' h a m t
        rwa [waitT_ok HLV.out] at this
      have HALL : Hid (∀ t, wc (el zs) (la zs a m) t zs.length ≤ x) := Lib.hid fun t => by rw [HX2.out]; exact most_all HT.out t
      have HMET : Hid (∀ q : Bool, (q = false → 0 < zs.length ∧ ∀ i, i < zs.length → wc (el zs) (la zs a m) (el zs i) zs.length ≠ x) → q = true) := Lib.hid fun q h => by
        cases q
        · obtain ⟨h1, h2⟩ := h rfl
          obtain ⟨i, hi, e⟩ := most_met (zs := zs) (g := a) (n := m) h1
          exact absurd (e.trans HX2.out.symm) (h2 i hi)
        · rfl
      obtain ⟨q0, hq0, hq1⟩ : ∃ q0 : Bool, ((zs.length : Int) == 0) = q0 ∧ (q0 = true → x = 0) := ⟨_, rfl, fun h => by
        have h1 : zs.length = 0 := by have := beq_iff_eq.1 h; omega
        have h2 := mostF_bd zs a m zs.length
        rw [HX2.out]; omega⟩
      have hq2 : q0 = false → 0 < zs.length := fun h => by rw [h] at hq0; have := beq_eq_false_iff_ne.1 hq0; omega
      have HQ2 := Lib.hid hq2
      clear CS hq2
      cases q0
      · skip
        have HQ1 := Lib.hid hq1
        clear hq1
        go_wp2
        go_loopw [8] (fun i wr => ∃ k : Nat, k ≤ 60 ∧ i = .int .i64 k ∧ Below w3.heap.size w3 wr) (fun i _ => 60 - (intOf i).toNat)
        case atStart => exact ⟨0, Nat.zero_le _, rfl, Below.refl _ _⟩
        case round =>
          obtain ⟨k, hk, rfl, hbel⟩ := hrel
          by_cases hlt : k < 60
          · have hw := HALL.out (k : Int)
            have cw := CW.out wr k (hr3.up hbel)
            generalize wc (el zs) (la zs a m) (k : Int) zs.length = W at *
            go_wp2_with fail
            refine (cw).mono ?_
            rintro e w5 ⟨rfl, b5⟩
            have hb5 := hbel.trans (b5.mono hbel.size)
            clear b5 hbel cw
            go_wp2
            go_roundw
            case rel => exact ⟨k + 1, by omega, by go_num, hb5⟩
            case measure => simp [intOf]; omega
          · have hki : ¬ (k : Int) < 60 := by omega
            have HB0 := Lib.hid hbel
            clear hbel
            go_wp2
            go_loopw [7, 9] (fun v i wi => ∃ (k : Nat) (q : Bool), k ≤ zs.length ∧ i = .int .i64 k ∧ v = .bool q ∧ (q = false → 0 < zs.length ∧ ∀ i, i < k → wc (el zs) (la zs a m) (el zs i) zs.length ≠ x) ∧ Below w3.heap.size w3 wi) (fun _ i _ => zs.length - (intOf i).toNat)
            case atStart => exact ⟨0, _, Nat.zero_le _, rfl, rfl, fun h => ⟨HQ2.out (by first | rfl | trivial | cases h), fun i hi => by omega⟩, HB0.out⟩
            case round =>
              clear HB0
              obtain ⟨k, q, hk, rfl, rfl, hq, hbel⟩ := hrel
              have HQQ := Lib.hid hq
              clear hq
              by_cases hlt : k < zs.length
              · cases q
                · obtain ⟨b, off, rfl, hb0, hc⟩ := (hr3.up hbel).el_ hlt
                  have cw := CW.out wr (el zs k) (hr3.up hbel)
                  have HWV : Hid (wc (el zs) (la zs a m) (el zs k) zs.length = wc (el zs) (la zs a m) (el zs k) zs.length) := Lib.hid rfl
                  obtain ⟨W, hW⟩ : ∃ W, W = wc (el zs) (la zs a m) (el zs k) zs.length := ⟨_, rfl⟩
                  rw [← hW] at cw
                  have HW := Lib.hid hW
                  clear hW HWV
                  by_cases he : W = x
                  · have heq : (W == x) = true := beq_iff_eq.2 he
                    clear he
                    go_wp2_with fail
                    refine (cw).mono ?_
                    rintro e w5 ⟨rfl, b5⟩
                    have hb5 := hbel.trans (b5.mono hbel.size)
                    clear b5 hbel cw
                    go_wp2
                    go_roundw
                    case rel => exact ⟨k + 1, true, by omega, by go_num, rfl, fun h => (by cases h), hb5⟩
                    case measure => simp [intOf]; omega
                  · have hne : (W == x) = false := beq_eq_false_iff_ne.2 he
                    go_wp2_with fail
                    refine (cw).mono ?_
                    rintro e w5 ⟨rfl, b5⟩
                    have hb5 := hbel.trans (b5.mono hbel.size)
                    clear b5 hbel cw
                    go_wp2
                    go_roundw
                    case rel => exact ⟨k + 1, false, by omega, by go_num, rfl, fun h => ⟨(HQQ.out (by first | rfl | trivial)).1, fun i hi => by by_cases e : i = k; (subst e; rw [← HW.out]; exact he); exact (HQQ.out (by first | rfl | trivial)).2 i (by omega)⟩, hb5⟩
                    case measure => simp [intOf]; omega
                · go_wp2
                  go_roundw
                  case rel => exact ⟨k + 1, true, by omega, by go_num, rfl, fun h => (by cases h), hbel⟩
                  case measure => simp [intOf]; omega
              · obtain rfl : k = zs.length := by omega
                obtain rfl := HMET.out q HQQ.out
                go_wp2
                go_ret
                exact ⟨rfl, bl3.trans (hbel.mono bl3.size)⟩
      · skip
        obtain rfl := hq1 rfl
        have HQ1 := Lib.hid hq1
        clear hq1
        go_wp2
        go_loopw [8] (fun i wr => ∃ k : Nat, k ≤ 60 ∧ i = .int .i64 k ∧ Below w3.heap.size w3 wr) (fun i _ => 60 - (intOf i).toNat)
        case atStart => exact ⟨0, Nat.zero_le _, rfl, Below.refl _ _⟩
        case round =>
          obtain ⟨k, hk, rfl, hbel⟩ := hrel
          by_cases hlt : k < 60
          · have hw := HALL.out (k : Int)
            have cw := CW.out wr k (hr3.up hbel)
            generalize wc (el zs) (la zs a m) (k : Int) zs.length = W at *
            go_wp2_with fail
            refine (cw).mono ?_
            rintro e w5 ⟨rfl, b5⟩
            have hb5 := hbel.trans (b5.mono hbel.size)
            clear b5 hbel cw
            go_wp2
            go_roundw
            case rel => exact ⟨k + 1, by omega, by go_num, hb5⟩
            case measure => simp [intOf]; omega
          · have hki : ¬ (k : Int) < 60 := by omega
            have HB0 := Lib.hid hbel
            clear hbel
            go_wp2
            go_loopw [7, 9] (fun v i wi => ∃ (k : Nat) (q : Bool), k ≤ zs.length ∧ i = .int .i64 k ∧ v = .bool q ∧ (q = false → 0 < zs.length ∧ ∀ i, i < k → wc (el zs) (la zs a m) (el zs i) zs.length ≠ 0) ∧ Below w3.heap.size w3 wi) (fun _ i _ => zs.length - (intOf i).toNat)
            case atStart => exact ⟨0, _, Nat.zero_le _, rfl, rfl, fun h => ⟨HQ2.out (by first | rfl | trivial | cases h), fun i hi => by omega⟩, HB0.out⟩
            case round =>
              clear HB0
              obtain ⟨k, q, hk, rfl, rfl, hq, hbel⟩ := hrel
              have HQQ := Lib.hid hq
              clear hq
              by_cases hlt : k < zs.length
              · cases q
                · obtain ⟨b, off, rfl, hb0, hc⟩ := (hr3.up hbel).el_ hlt
                  have cw := CW.out wr (el zs k) (hr3.up hbel)
                  have HWV : Hid (wc (el zs) (la zs a m) (el zs k) zs.length = wc (el zs) (la zs a m) (el zs k) zs.length) := Lib.hid rfl
                  obtain ⟨W, hW⟩ : ∃ W, W = wc (el zs) (la zs a m) (el zs k) zs.length := ⟨_, rfl⟩
                  rw [← hW] at cw
                  have HW := Lib.hid hW
                  clear hW HWV
                  by_cases he : W = 0
                  · have heq : (W == 0) = true := beq_iff_eq.2 he
                    clear he
                    go_wp2_with fail
                    refine (cw).mono ?_
                    rintro e w5 ⟨rfl, b5⟩
                    have hb5 := hbel.trans (b5.mono hbel.size)
                    clear b5 hbel cw
                    go_wp2
                    go_roundw
                    case rel => exact ⟨k + 1, true, by omega, by go_num, rfl, fun h => (by cases h), hb5⟩
                    case measure => simp [intOf]; omega
                  · have hne : (W == 0) = false := beq_eq_false_iff_ne.2 he
                    go_wp2_with fail
                    refine (cw).mono ?_
                    rintro e w5 ⟨rfl, b5⟩
                    have hb5 := hbel.trans (b5.mono hbel.size)
                    clear b5 hbel cw
                    go_wp2
                    go_roundw
                    case rel => exact ⟨k + 1, false, by omega, by go_num, rfl, fun h => ⟨(HQQ.out (by first | rfl | trivial)).1, fun i hi => by by_cases e : i = k; (subst e; rw [← HW.out]; exact he); exact (HQQ.out (by first | rfl | trivial)).2 i (by omega)⟩, hb5⟩
                    case measure => simp [intOf]; omega
                · go_wp2
                  go_roundw
                  case rel => exact ⟨k + 1, true, by omega, by go_num, rfl, fun h => (by cases h), hbel⟩
                  case measure => simp [intOf]; omega
              · obtain rfl : k = zs.length := by omega
                obtain rfl := HMET.out q HQQ.out
                go_wp2
                go_ret
                exact ⟨rfl, bl3.trans (hbel.mono bl3.size)⟩
  · have hn' : 1048576 < cs.length := by omega
    go_enter Try.func9, Try.ntmps9
    go_wp2
    go_ret
    exact ⟨rfl, Below.refl _ _⟩

set_option maxRecDepth 100000 in
theorem lifted (os : Os) (started : os.Started) (H : Type) (enc : TypeId × Value → H) :
    ReturnsInHanded {} Try.checked os 9 .any (Rows.fnMostWaitingSpec.pre6 enc Try.prog Try.f9 Rows.fnMostWaitingRow.domain false) (Rows.fnMostWaitingSpec.post enc Try.prog Try.f9 false true false false) := by
  refine returnsInHanded_of_change (C := Try.checked) ownNone started (by kernel_rfl) Try.func9
    (ChangeSpec.witness6 (enc := enc) (C := Try.checked) false ⟨#[], #[.slice none 0 0], []⟩ 8 (by kernel_rfl) (by kernel_rfl) (by kernel_rfl) (by kernel_rfl)) ?_
  intro W base args ds gs before hval0 hW hcnd _
  have hval : ∀ (j : Nat) t v, Try.f9.params[j]? = some t → args[j]? = some v → Value.okWide Try.prog W .any base t v := hval0
  have hW' := hW
  obtain ⟨p, q, hA0, hV, rfl, _, _⟩ := hW
  have hA : DataW.TrodAll enc Try.prog W 0 (fun _ => true) true Try.f9.params.toList args.toList ds p := hA0
  rw [Try.params9] at hA hval
  obtain ⟨v0, vs0, d0, ds0, p0, q0, hargs, rfl, rfl, h0, r0⟩ := trodAll_cons hA
  obtain ⟨rfl, rfl, rfl⟩ := trodAll_nil r0
  obtain rfl : args = #[v0] := by cases args; simp_all
  obtain ⟨rfl, rfl⟩ := trodVars_none hV
  obtain ⟨Acs, ccs, cs, rfl, hrcs, hlcs, hqcs⟩ := open_rd Try.underlying22 Try.underlying5 cellsByte (hval 0 22 v0 rfl rfl) h0
  have hbcs := byte_bounds hqcs
  clear hA0 hval0
  refine (walk W cs Acs ccs hrcs hbcs hlcs).mono fun e W' ⟨he, hg⟩ => ?_
  subst he
  exact ⟨_, rfl, law_post laidOut (by kernel_rfl) rfl rfl rfl rfl rfl Try.underlying4 hW' hg⟩

/-- The statement. -/
theorem proved : Rows.FnMostWaitingSaid :=
  OpenClaim.holds_of_wide 9 Try.f9 rfl rfl rfl rfl rfl rfl rfl ⟨rfl, rfl, rfl, rfl, rfl⟩ rfl rfl rfl rfl rfl (by kernel_rfl) Try.func9 (by kernel_rfl)
    (of_decide_eq_true (by kernel_rfl)) (by unfold Func.isWrapper; first | (rw [if_pos (by decide +kernel)]; kernel_rfl) | (rw [if_neg (by decide +kernel)]; exact ⟨rfl, rfl⟩))
    (fun os started H enc _ => lifted os started H enc)
#print axioms proved
end fnMostWaiting

end Go.Proofs.Ytcjcdlhmhhbkgaa

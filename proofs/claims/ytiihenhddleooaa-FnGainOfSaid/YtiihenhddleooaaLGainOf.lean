/- The law FnGainOf: for every code it answers true, and the code reads as it read before. No condition. -/
import Derived.Test.YtiihenhddleooaaTLawG
import Derived.Test.YtiihenhddleooaaTLawD
import Derived.Test.YtiihenhddleooaaLaw
namespace Go.Proofs.Ytiihenhddleooaa
open Go.RowKit
set_option linter.unusedVariables false
set_option linter.unusedSimpArgs false

namespace fnGainOf
open Go.ChangeShapes Go.WideShapes Go.ChangeAt Go.RowKit
set_option maxRecDepth 100000 in
set_option maxHeartbeats 800000 in
set_option maxRecDepth 100000 in
set_option maxRecDepth 100000 in
set_option maxHeartbeats 8000000 in
theorem walk (w : World) (cs : List Int) (Acs : Option Addr) (ccs : Nat) (hrcs : Rd w w.heap.size Acs (bytes cs)) (hbcs : ∀ z ∈ cs, 0 ≤ z ∧ z ≤ 255) (hlcs : cs.length ≤ ccs ∧ ccs ≤ maxLen) :
    Calls Try.prog 9 #[.slice Acs cs.length ccs] w fun e w' => e = .returned (.bool true) ∧ Below w.heap.size w w' := by
  by_cases hn : cs.length ≤ 1048576
  · go_enter Try.func9, Try.ntmps9
    go_wp2_with fail
    refine (dGainOf _ _ _ _ hrcs hbcs hlcs.1 hlcs.2).mono ?_
    rintro e w1 ⟨bs, Ab, cb, n, pi, wo, rfl, ⟨hbl, hbc, hbm, hrb⟩, hn9, hpi9, hwo9, b1⟩
    obtain ⟨m, hm0⟩ : ∃ m, bs.length = m := ⟨_, rfl⟩
    rw [hm0] at hbl hbc ⊢
    have HL := Lib.hid hm0
    clear hm0
    have hm1 : m ≤ maxLen := by unfold maxLen; omega
    obtain ⟨O, hO⟩ : ∃ O, O = gaT bs n pi wo := ⟨_, rfl⟩
    have HI : Hid (∀ w, Rd w w.heap.size Ab (ints bs) → Calls Try.prog 35 #[.slice Ab m cb, .int .i64 n, .int .i64 pi, .int .i64 wo] w fun e w' => e = .returned (.int .i64 O) ∧ Below w.heap.size w w') := Lib.hid fun w hr => by rw [hO]; exact iGain_b m bs HL.out hm1 Ab cb n pi wo w hr
    have HS : Hid (∀ w, Rd w w.heap.size Ab (ints bs) → Calls Try.prog 36 #[.slice Ab m cb, .int .i64 n, .int .i64 pi, .int .i64 wo] w fun e w' => e = .returned (.int .i64 O) ∧ Below w.heap.size w w') := Lib.hid fun w hr => by rw [hO]; exact sGain_any m bs HL.out hm1 Ab cb n pi wo w hr
    have HO := Lib.hid hO
    clear hO
    go_wp2_with fail
    refine (HI.out w1 hrb).mono ?_
    rintro e w2 ⟨rfl, b2⟩
    have z2 := b2.size
    have bl2 : Below w1.heap.size w1 w2 := (Below.refl w1.heap.size w1).trans (b2.mono (Nat.le_refl _))
    clear b2
    go_wp2_with fail
    refine (HS.out w2 ((hrb.below bl2).more bl2.size)).mono ?_
    rintro e w3 ⟨rfl, b3⟩
    have z3 := b3.size
    have bl3 : Below w1.heap.size w1 w3 := bl2.trans (b3.mono bl2.size)
    clear bl2 b3
    by_cases hi0 : pi < 0
    · skip
      go_wp2_with fail
      refine (HS.out w3 ((hrb.below bl3).more bl3.size)).mono ?_
      rintro e w4 ⟨rfl, b4⟩
      have z4 := b4.size
      have bl4 : Below w1.heap.size w1 w4 := bl3.trans (b4.mono bl3.size)
      clear bl3 b4
      go_wp2
      go_ret
      exact ⟨rfl, b1.trans (bl4.mono b1.size)⟩
    · obtain ⟨I, rfl⟩ := Int.eq_ofNat_of_zero_le (show 0 ≤ pi by omega)
      by_cases hI : I < m
      · have e1 : decide ((I : Int) ≥ (m : Int)) = false := decide_eq_false (by omega)
        obtain ⟨N, rfl⟩ := Int.eq_ofNat_of_zero_le hn9.1
        by_cases hN : 8 < N
        · have hNi : (8 : Int) < (N : Int) := by omega
          go_wp2_with fail
          refine (HS.out w3 ((hrb.below bl3).more bl3.size)).mono ?_
          rintro e w4 ⟨rfl, b4⟩
          have z4 := b4.size
          have bl4 : Below w1.heap.size w1 w4 := bl3.trans (b4.mono bl3.size)
          clear bl3 b4
          go_wp2
          go_ret
          exact ⟨rfl, b1.trans (bl4.mono b1.size)⟩
        · have hNi : ¬ (8 : Int) < (N : Int) := by omega
          by_cases hw : 10000 < wo
          · skip
            go_wp2_with fail
            refine (HS.out w3 ((hrb.below bl3).more bl3.size)).mono ?_
            rintro e w4 ⟨rfl, b4⟩
            have z4 := b4.size
            have bl4 : Below w1.heap.size w1 w4 := bl3.trans (b4.mono bl3.size)
            clear bl3 b4
            go_wp2
            go_ret
            exact ⟨rfl, b1.trans (bl4.mono b1.size)⟩
          · have HP := Lib.hid fun w (hr : Rd w w.heap.size Ab (ints bs)) => iPrice_b m bs HL.out hm1 Ab cb (N : Int) w hr
            cases hv : aucB bs (N : Int)
            · have e0 : prT bs (N : Int) = -1 := by unfold prT; rw [hv]; rfl
              rw [e0] at HP
              clear e0 hv
              go_wp2_with fail
              refine (HP.out w3 ((hrb.below bl3).more bl3.size)).mono ?_
              rintro e w4 ⟨rfl, b4⟩
              have z4 := b4.size
              have bl4 : Below w1.heap.size w1 w4 := bl3.trans (b4.mono bl3.size)
              clear bl3 b4
              go_wp2_with fail
              refine (HS.out w4 ((hrb.below bl4).more bl4.size)).mono ?_
              rintro e w5 ⟨rfl, b5⟩
              have z5 := b5.size
              have bl5 : Below w1.heap.size w1 w5 := bl4.trans (b5.mono bl4.size)
              clear bl4 b5
              go_wp2
              go_ret
              exact ⟨rfl, b1.trans (bl5.mono b1.size)⟩
            · have e0 : prT bs (N : Int) = prF bs N := by unfold prT; rw [hv]; rfl
              obtain ⟨h8, hbz, _, _⟩ := aucB_t hv
              have hpb : 0 ≤ prF bs N := by
                by_cases g : N < bs.length
                · obtain ⟨x, x1, x2, _⟩ := prF_has g
                  rw [prF_at x1 x2]
                  exact (hbz _ (List.mem_of_getElem? (of_at x1))).1
                · rw [prF_none (by omega)]; exact Int.le_refl _
              rw [e0] at HP
              clear hbz h8 e0
              generalize prF bs N = P at *
              have hpb2 : ¬ P < 0 := by omega
              go_wp2_with fail
              refine (HP.out w3 ((hrb.below bl3).more bl3.size)).mono ?_
              rintro e w4 ⟨rfl, b4⟩
              have z4 := b4.size
              have bl4 : Below w1.heap.size w1 w4 := bl3.trans (b4.mono bl3.size)
              clear bl3 b4
              obtain ⟨hbest0, hob, hxb⟩ := gain_law hv (show I < bs.length by rw [HL.out]; exact hI) (show 0 ≤ wo ∧ wo ≤ 10000 by omega)
              rw [← HO.out] at hob
              obtain ⟨Z, hZ⟩ : ∃ Z, Z = gaT (bs.set I wo) (N : Int) (I : Int) wo := ⟨_, rfl⟩
              rw [← hZ] at hbest0 hob hxb
              have HXB := Lib.hid hxb
              have HZ := Lib.hid hZ
              have hrz := ((hrb.below bl4).more bl4.size)
              have HBL := Lib.hid bl4
              obtain ⟨wz, hwz⟩ : ∃ wz, wz = w4 := ⟨_, rfl⟩
              rw [← hwz] at hrz HBL ⊢
              obtain ⟨i0, hi, hz0, hz1, hz2⟩ := info_parts info_int
              clear bl4 hwz HI HS HP hv hxb hZ HO hrb
              go_wp2_with (at_builtin; refine push_any rfl _ _ 27 rfl wz.heap.size 3 i0 (.int .i64 0) 8 Try.underlying27 hi hz0 hz1 hz2 rfl _ _ _ rfl (own_empty wz 3) _ _ _ wz.heap.size (ints bs) rfl (hrz.alloc (Nat.le_refl _) _) (by rw [ints_length]; exact HL.out) oneCell_ints2 (by unfold maxLen; omega) (by omega) (by simp) ?_)
              intro v5 w5 hown5 hgrow5
              have hown52 : w5.ownsRow wz.heap.size 3 1 v5 m (ints bs) := by simpa using hown5
              have hb5 : Below wz.heap.size wz w5 := ((Below.refl _ _).alloc (Nat.le_refl _) (.cells #[] 3)).grown hgrow5 (by simp) (own_block (own_empty wz 3))
              obtain ⟨A5, c5, rfl⟩ := own_form hown52
              obtain ⟨g5, rfl, hg5, _, _, _⟩ := own_some hown52 (by omega)
              have k15 := own_cell hown52 (k := I) (x := .int .i64 (at_ bs I)) (by rw [ints, List.getElem?_map, of_at (by rw [HL.out]; exact hI)]; rfl)
              have f15 := own_frozen hown52 I
              have hput5 := own_put hown52 I (.int .i64 wo)
              rw [ints_set] at hput5
              have hbs5 := hb5.setCell (p := ⟨g5, I, none⟩) hg5 (.int .i64 wo)
              have C5 := Lib.hid (iGain_b m (bs.set I wo) (by rw [List.length_set]; exact HL.out) hm1 (some ⟨g5, 0, none⟩) c5 (N : Int) (I : Int) wo _ (Rd.own hput5))
              have HB5 := Lib.hid hbs5
              clear hown5 hgrow5 hown52 hb5 hput5 hbs5
              rw [← HZ.out] at C5
              go_wp2_with fail
              refine (C5.out).mono ?_
              rintro e w6 ⟨rfl, b6⟩
              have hb6 := HB5.out.trans (b6.mono (by have := HB5.out.size; simpa using this))
              have hrf : ∀ wr, Below wz.heap.size wz wr → Rd wr wr.heap.size Ab (ints bs) := fun wr hb => (hrz.below hb).more hb.size
              have HRF := Lib.hid hrf
              clear b6 hrz hrf k15 f15
              go_wp2
              go_loopw [10, 11] (fun x _ wr => ∃ k : Nat, k ≤ 46 ∧ x = .int .i64 k ∧ Below wz.heap.size wz wr) (fun x _ _ => 46 - (intOf x).toNat)
              case atStart => exact ⟨0, by omega, rfl, hb6⟩
              case round =>
                obtain ⟨k, hk, rfl, hbel⟩ := hrel
                by_cases hlt : k ≤ 45
                · have hrw := HRF.out wr hbel
                  have HBE := Lib.hid hbel
                  have hsz := hbel.size
                  clear hbel
                  go_wp2_with (at_builtin; refine push_any rfl _ _ 27 rfl wr.heap.size 3 i0 (.int .i64 0) 8 Try.underlying27 hi hz0 hz1 hz2 rfl _ _ _ rfl (own_empty wr 3) _ _ _ wr.heap.size (ints bs) rfl (hrw.alloc (Nat.le_refl _) _) (by rw [ints_length]; exact HL.out) oneCell_ints2 (by unfold maxLen; omega) (by omega) (by simp) ?_)
                  intro v7 w7 hown7 hgrow7
                  have hown72 : w7.ownsRow wr.heap.size 3 1 v7 m (ints bs) := by simpa using hown7
                  have hb7 : Below wr.heap.size wr w7 := ((Below.refl _ _).alloc (Nat.le_refl _) (.cells #[] 3)).grown hgrow7 (by simp) (own_block (own_empty wr 3))
                  obtain ⟨A7, c7, rfl⟩ := own_form hown72
                  obtain ⟨g7, rfl, hg7, _, _, _⟩ := own_some hown72 (by omega)
                  have k17 := own_cell hown72 (k := I) (x := .int .i64 (at_ bs I)) (by rw [ints, List.getElem?_map, of_at (by rw [HL.out]; exact hI)]; rfl)
                  have f17 := own_frozen hown72 I
                  have hput7 := own_put hown72 I (.int .i64 (k : Int))
                  rw [ints_set] at hput7
                  have hbs7 := hb7.setCell (p := ⟨g7, I, none⟩) hg7 (.int .i64 (k : Int))
                  have C7 := Lib.hid (iGain_b m (bs.set I (k : Int)) (by rw [List.length_set]; exact HL.out) hm1 (some ⟨g7, 0, none⟩) c7 (N : Int) (I : Int) wo _ (Rd.own hput7))
                  have HB7 := Lib.hid hbs7
                  clear hown7 hgrow7 hown72 hb7 hput7 hbs7
                  have hle := HXB.out (k : Int) (by omega)
                  obtain ⟨Y, hY⟩ : ∃ Y, Y = gaT (bs.set I (k : Int)) (N : Int) (I : Int) wo := ⟨_, rfl⟩
                  rw [← hY] at hle C7
                  have hled : decide (Z < Y) = false := decide_eq_false (by omega)
                  clear hY hrw
                  go_wp2_with fail
                  refine (C7.out).mono ?_
                  rintro e w8 ⟨rfl, b8⟩
                  have HB8 := Lib.hid (HBE.out.trans ((HB7.out.trans (b8.mono (by have := HB7.out.size; simpa using this))).mono hsz))
                  clear b8 k17 f17
                  go_wp2
                  go_roundw
                  case rel => exact ⟨k + 1, by omega, by go_num, HB8.out⟩
                  case measure => first | (simp [intOf]; omega) | simp [intOf]
                · obtain rfl : k = 46 := by omega
                  have HBE := Lib.hid (HBL.out.trans (hbel.mono HBL.out.size))
                  have d1 : decide (Z ≥ 0) = true := decide_eq_true (by omega)
                  have d2 : decide (O ≤ Z) = true := decide_eq_true (by omega)
                  clear hbel
                  go_wp2
                  go_ret
                  exact ⟨ret_bool (by first | rfl | (simp; omega)), b1.trans (HBE.out.mono b1.size)⟩
      · have e1 : decide ((I : Int) ≥ (m : Int)) = true := decide_eq_true (by omega)
        have e2 : (m : Int) ≤ (I : Int) := by omega
        go_wp2_with fail
        refine (HS.out w3 ((hrb.below bl3).more bl3.size)).mono ?_
        rintro e w4 ⟨rfl, b4⟩
        have z4 := b4.size
        have bl4 : Below w1.heap.size w1 w4 := bl3.trans (b4.mono bl3.size)
        clear bl3 b4
        go_wp2
        go_ret
        exact ⟨rfl, b1.trans (bl4.mono b1.size)⟩
  · have hn' : 1048576 < cs.length := by omega
    go_enter Try.func9, Try.ntmps9
    go_wp2
    go_ret
    exact ⟨rfl, Below.refl _ _⟩

set_option maxRecDepth 100000 in
theorem lifted (os : Os) (started : os.Started) (H : Type) (enc : TypeId × Value → H) :
    ReturnsInHanded {} Try.checked os 9 .any (Rows.fnGainOfSpec.pre6 enc Try.prog Try.f9 Rows.fnGainOfRow.domain false) (Rows.fnGainOfSpec.post enc Try.prog Try.f9 false true false false) := by
  refine returnsInHanded_of_change (C := Try.checked) ownNone started (by kernel_rfl) Try.func9
    (ChangeSpec.witness6 (enc := enc) (C := Try.checked) false ⟨#[], #[.slice none 0 0], []⟩ 8 (by kernel_rfl) (by kernel_rfl) (by kernel_rfl) (by kernel_rfl)) ?_
  intro W base args ds gs before hval0 hW hcnd _
  have hval : ∀ (j : Nat) t v, Try.f9.params[j]? = some t → args[j]? = some v → Value.okWide Try.prog W .any base t v := hval0
  have hW' := hW
  obtain ⟨p, q, hA0, hV, rfl, _, _⟩ := hW
  have hA : DataW.TrodAll enc Try.prog W 0 (fun _ => true) true Try.f9.params.toList args.toList ds p := hA0
  rw [Try.params9] at hA hval
  obtain ⟨v0, vs0, d0, ds0, p0, q0, hargs, rfl, rfl, h0, r0⟩ := trodAll_cons hA
  obtain ⟨rfl, rfl, rfl⟩ := trodAll_nil r0
  obtain rfl : args = #[v0] := by cases args; simp_all
  obtain ⟨rfl, rfl⟩ := trodVars_none hV
  obtain ⟨Acs, ccs, cs, rfl, hrcs, hlcs, hqcs⟩ := open_rd Try.underlying22 Try.underlying5 cellsByte (hval 0 22 v0 rfl rfl) h0
  have hbcs := byte_bounds hqcs
  clear hA0 hval0
  refine (walk W cs Acs ccs hrcs hbcs hlcs).mono fun e W' ⟨he, hg⟩ => ?_
  subst he
  exact ⟨_, rfl, law_post laidOut (by kernel_rfl) rfl rfl rfl rfl rfl Try.underlying4 hW' hg⟩

/-- The statement. -/
theorem proved : Rows.FnGainOfSaid :=
  OpenClaim.holds_of_wide 9 Try.f9 rfl rfl rfl rfl rfl rfl rfl ⟨rfl, rfl, rfl, rfl, rfl⟩ rfl rfl rfl rfl rfl (by kernel_rfl) Try.func9 (by kernel_rfl)
    (of_decide_eq_true (by kernel_rfl)) (by unfold Func.isWrapper; first | (rw [if_pos (by decide +kernel)]; kernel_rfl) | (rw [if_neg (by decide +kernel)]; exact ⟨rfl, rfl⟩))
    (fun os started H enc _ => lifted os started H enc)
#print axioms proved
end fnGainOf

end Go.Proofs.Ytiihenhddleooaa

/- The law FnSawLengthField: for every code it answers true, and the code reads as it read before. No condition. -/
import Derived.Test.YtboaikabbfipgacFFull
import Derived.Test.YtboaikabbfipgacFDraws
import Derived.Test.YtboaikabbfipgacLaw
namespace Go.Proofs.Ytboaikabbfipgac
open Go.RowKit
set_option linter.unusedVariables false
set_option linter.unusedSimpArgs false

namespace fnSawLengthField
open Go.ChangeShapes Go.WideShapes Go.ChangeAt Go.RowKit
set_option maxHeartbeats 800000 in
set_option maxRecDepth 100000 in
set_option maxHeartbeats 8000000 in
theorem walk (w : World) (cs : List Int) (Acs : Option Addr) (ccs : Nat) (hrcs : Rd w w.heap.size Acs (bytes cs)) (hbcs : ∀ z ∈ cs, 0 ≤ z ∧ z ≤ 255) (hlcs : cs.length ≤ ccs ∧ ccs ≤ maxLen) :
    Calls Try.prog 3 #[.slice Acs cs.length ccs] w fun e w' => e = .returned (.bool true) ∧ Below w.heap.size w w' := by
  by_cases hn : cs.length ≤ 1048576
  · go_enter Try.func3, Try.ntmps3
    go_wp2_with fail
    refine (dBestGrid _ _ _ _ hrcs hbcs hlcs.1 hlcs.2).mono ?_
    rintro e w1 ⟨ff, Af, cf, a, h, rfl, ⟨hpl, hpc, hcm, hg⟩, hba, hbh, b1⟩
    have hn1 : ff.length ≤ 1048576 := by omega
    obtain ⟨⟨x, y⟩, hp⟩ : ∃ p, p = bestT ff a h := ⟨_, rfl⟩
    have cI : Calls Try.prog 15 #[.slice Af ff.length cf, .int .i64 a, .int .i64 h] w1 (fun e w' => e = .returned (.tuple #[.int .i64 x, .int .i64 y]) ∧ Below w1.heap.size w1 w') := by
      have := iBest_any ff Af cf ⟨hpc, hcm⟩ w1 hg a h
      rw [← hp] at this
      exact this
    go_wp2_with fail
    refine (cI).mono ?_
    rintro e w2 ⟨rfl, b2⟩
    have hg2 := (hg.below b2).more b2.size
    have cS : Calls Try.prog 16 #[.slice Af ff.length cf, .int .i64 a, .int .i64 h] w2 (fun e w' => e = .returned (.tuple #[.int .i64 x, .int .i64 y]) ∧ Below w2.heap.size w2 w') := by
      have := sBest_any ff Af cf w2 hg2 hn1 a h
      rw [← hp] at this
      exact this
    go_wp2_with fail
    refine (cS).mono ?_
    rintro e w3 ⟨rfl, b3⟩
    have bl3 : Below w.heap.size w w3 := (b1.trans (b2.mono b1.size)).trans (b3.mono (by have := b1.size; have := b2.size; omega))
    by_cases hx : 0 ≤ x
    · obtain ⟨cw, ch, bx, b2', rfl, rfl, rfl, rfl, hv, hs, -, -, -⟩ := best_some hp.symm hx
      obtain ⟨⟨s1, s2⟩, s3, s4⟩ := sidesB_t hs
      have hcw : 1 ≤ cw ∧ cw ≤ 4 := by omega
      have hch : 1 ≤ ch ∧ ch ≤ 4 := by omega
      have HHS := Lib.hid hs
      obtain ⟨W, hW⟩ : ∃ W, W = 2 * cw := ⟨_, rfl⟩
      obtain ⟨H, hH⟩ : ∃ H, H = 2 * ch := ⟨_, rfl⟩
      have HFF : Hid (fullF cw ch = List.replicate H (List.replicate W true)) := Lib.hid (by rw [hW, hH]; rfl)
      have HFACT := Lib.hid (full_facts hcw hch)
      have HM : Hid (W ≤ 5 → H ≤ 5 → ¬ (cw = 1 ∧ ch = 1) → apartF (setsF (fullF cw ch) cw ch) 0 = 4) := Lib.hid fun h1 h2 h3 => full_most (by omega) (by omega) h3
      have eW : (2 : Int) * (cw : Int) = (W : Int) := by omega
      have eH : (2 : Int) * (ch : Int) = (H : Int) := by omega
      have hW8 : 2 ≤ W ∧ W ≤ 8 := by omega
      have hH8 : 2 ≤ H ∧ H ≤ 8 := by omega
      obtain ⟨hW2, hW8⟩ := hW8
      obtain ⟨hH2, hH8⟩ := hH8
      have HW := Lib.hid hW
      have HH := Lib.hid hH
      obtain ⟨i0, hi, hz0, hz1, hz2⟩ := info_parts info_bool
      obtain ⟨j0, hj, hy0, hy1, hy2⟩ := info_parts info_boolss
      clear hp cI cS b1 b2 b3 hg hg2 hv hs hW hH
      go_wp2
      go_loopw [10, 11] (fun v i wr => FullRel w3 W H v i wr) (fun _ i _ => H - (intOf i).toNat)
      case atStart => exact ⟨0, [], Nat.zero_le _, rfl, ⟨own_empty w3 _, rfl, fun k r hr => by simp at hr, fun i j u v b hu => by simp at hu, fun i u b hu => by simp at hu⟩, (Below.refl _ _).alloc (Nat.le_refl _) _⟩
      case round =>
        obtain ⟨j, xs, hjH, rfl, hpf, hbel⟩ := hrel
        have hsz := hbel.size
        by_cases hlt : j < H
        · have hst2 : FRowRel w3 wr.heap.size W (.slice (some ⟨wr.heap.size, 0, none⟩) 0 0) (.int .i64 (0 : Nat)) u10 j xs (List.replicate j (List.replicate W true)) (wr.alloc (.cells #[] 4)) :=
            ⟨0, Nat.zero_le _, rfl, own_empty wr _, hpf.below ((Below.refl _ _).alloc (Nat.le_refl _) _), hbel.alloc (by omega) _, hsz, hpf.hi_, by simp⟩
          have HST2 := Lib.hid hst2
          clear hst2 hpf hbel
          generalize hlo : wr.heap.size = lo at HST2
          go_wp2
          go_loopw [12, 13] (fun v i wi => FRowRel w3 lo W v i u10 j xs (List.replicate j (List.replicate W true)) wi) (fun _ i _ => W - (intOf i).toNat)
          case atStart => rw [← hlo] at HST2 ⊢; exact HST2.out
          case round =>
            clear hlo HST2
            obtain ⟨k, hk, rfl, hown, hpg, hb, hwl, hxl, hls⟩ := hrel
            have HXL := Lib.hid hxl
            clear hxl
            have hsz2 := hb.size
            by_cases hkW : k < W
            · go_wp2_with (at_builtin; refine wpList_append_own _ rfl _ _ 28 rfl (lo) 4 i0 (.bool false) 1 1 Try.underlying28 hi hz0 hz1 hz2 rfl (by decide) _ _ _ rfl (hown.alloc _) ⟨wr.heap.size, 0, none⟩ 1 1 [.bool true] rfl rfl ?c1 ?c2 ?c3 ?c4 ?c5 ?_)
              case c1 => first | exact one_new _ _ _ _ rfl | exact one_new _ _ _ _ (by simp)
              case c2 => first | rfl | (intro u hu; simp at hu; subst hu; rfl)
              case c3 => unfold maxLen; omega
              case c4 => omega
              case c5 => simp; omega
              · intro v' w5 hown' hgrow _
                have hob := own_block hown
                have R : w5.ownsRow lo 4 1 v' (k + 1) (bools (List.replicate (k + 1) true)) := by rw [List.replicate_succ']; simpa [bools] using hown'
                have hpg5 := (hpg.below ((Below.refl _ _).alloc (Nat.le_refl _) (.cells #[.bool true] 4))).grow hgrow (own_alloc hown (.cells #[.bool true] 4)) (fun q hq => own_typesF hown hpg.out typesF_ne q hq) (fun i x q hx hq e => by have := HXL.out i x q hx e; have := hob q hq; omega)
                have hb5 : Below w3.heap.size w3 w5 := (hb.alloc (by omega) (.cells #[.bool true] 4)).grown hgrow (by simp; omega) (fun k hk => by have := hob k hk; omega)
                have hls5 : lo ≤ w5.heap.size := by have := hgrow.size; simp at this; omega
                have HP5 := Lib.hid (And.intro R (And.intro hpg5 (And.intro hb5 hls5)))
                clear hown' hgrow R hpg5 hb5 hls5 hown hpg hb
                go_wp2
                go_roundw
                case rel => exact ⟨k + 1, by omega, by go_num, HP5.out.1, HP5.out.2.1, HP5.out.2.2.1, hwl, HXL.out, HP5.out.2.2.2⟩
                case measure => simp [intOf]; omega
            · obtain rfl : k = W := by omega
              obtain ⟨A6, c6, rfl⟩ := own_form hown
              have hout3 := hpg.out
              have hj9 : j ≤ 9 := by omega
              go_wp2_with (at_builtin; refine wpList_append_own _ rfl _ _ 23 rfl (w3.heap.size) 28 j0 (.slice none 0 0) 1 24 Try.underlying23 hj hy0 hy1 hy2 rfl (by decide) _ _ _ rfl (hout3.alloc _) ⟨wr.heap.size, 0, none⟩ 1 1 [.slice A6 k c6] rfl rfl ?c1x2 ?c2x2 ?c3x2 ?c4x2 ?c5x2 ?_)
              case c1x2 => first | exact one_new _ _ _ _ rfl | exact one_new _ _ _ _ (by simp)
              case c2x2 => first | rfl | (intro u hu; simp at hu; subst hu; rfl)
              case c3x2 => unfold maxLen; omega
              case c4x2 => omega
              case c5x2 => simp; omega
              · intro v' w5 hown' hgrow _
                have hob := own_block hout3
                have hrow3 : (wr.alloc (.cells #[.slice A6 k c6] 28)).ownsRow lo 4 1 (.slice A6 (List.replicate k true).length c6) (List.replicate k true).length (bools (List.replicate k true)) := by rw [List.length_replicate]; exact own_alloc hown _
                have hpg5 := (hpg.below ((Below.refl _ _).alloc (Nat.le_refl _) (.cells #[.slice A6 k c6] 28))).push hrow3 hwl HXL.out hgrow (by rw [List.length_replicate]; exact hown')
                rw [← List.replicate_succ'] at hpg5
                have hb5 : Below w3.heap.size w3 w5 := (hb.alloc (by omega) (.cells #[.slice A6 k c6] 28)).grown hgrow (by simp; omega) hob
                have HP5 := Lib.hid (And.intro hpg5 hb5)
                clear hown' hgrow hpg5 hb5 hown hpg hb hout3 hrow3
                go_wp2
                go_roundw
                case rel => exact ⟨j + 1, _, by omega, by go_num, HP5.out.1, HP5.out.2⟩
                case measure => simp [intOf]; omega
        · obtain rfl : j = H := by omega
          obtain ⟨A5, c5, rfl⟩ := own_form hpf.out
          have hcap5 := own_caps hpf.out
          have hrd := hpf.rd
          rw [← HFF.out] at hrd
          have hfl : (fullF cw ch).length = j := by rw [HFF.out, List.length_replicate]
          have HRD : Hid (∀ w', Below wr.heap.size wr w' → RdF w' w'.heap.size A5 (fullF cw ch)) := Lib.hid fun w' hb => (hrd.below hb).more hb.size
          have hc : Calls Try.prog 17 #[.slice A5 j c5, .int .i64 (cw : Nat), .int .i64 (ch : Nat), .int .i64 0, .int .i64 0] wr (fun e w' => ∃ A6 c6, e = .returned (.slice A6 4 c6) ∧ w'.ownsRow wr.heap.size 61 2 (.slice A6 4 c6) 4 (cakeV (four cw ch)) ∧ Below wr.heap.size wr w') := by
            have := iCakesOk_any (fullF cw ch) A5 c5 (by rw [hfl]; exact hcap5) wr hrd cw ch 0 0 HFACT.out.1 HHS.out (by omega) (by omega)
            rw [HFACT.out.2.2.1, hfl] at this
            exact this
          have HFL := Lib.hid hfl
          have HC5 := Lib.hid hcap5
          clear hpf hrd hfl hcap5
          go_wp2_with fail
          refine hc.mono ?_
          rintro e w5 ⟨A6, c6, rfl, o6, b6⟩
          have hcap6 := own_caps o6
          have cSaw := iSaw_any 4 (by omega) (four cw ch) rfl A6 c6 hcap6 w5 (Rd.ownz o6) (cw : Int) (ch : Int)
          rw [HFACT.out.2.2.2] at cSaw
          have hb56 : Below w3.heap.size w3 w5 := hbel.trans (b6.mono hsz)
          clear hc o6 hcap6
          go_wp2_with fail
          refine cSaw.mono ?_
          rintro e w6 ⟨rfl, b7⟩
          have hb67 : Below wr.heap.size wr w6 := b6.trans (b7.mono b6.size)
          have hb36 : Below w3.heap.size w3 w6 := hbel.trans (hb67.mono hsz)
          have HB67 := Lib.hid hb67
          have BL6 := Lib.hid (bl3.trans (hb36.mono bl3.size))
          have HB36 := Lib.hid hb36
          clear cSaw b6 b7 hb56 hb67 hb36 hbel
          by_cases q1 : 5 < W
          · have q2 : (5 : Int) < (W : Int) := by omega
            go_wp2
            go_ret
            exact ⟨rfl, BL6.out⟩
          · have q2 : (W : Int) ≤ 5 := by omega
            have q3 : ¬ (5 : Int) < (W : Int) := by omega
            by_cases q4 : 5 < j
            · have q5 : (5 : Int) < (j : Int) := by omega
              go_wp2
              go_ret
              exact ⟨rfl, BL6.out⟩
            · have q5 : (j : Int) ≤ 5 := by omega
              have q6 : ¬ (5 : Int) < (j : Int) := by omega
              by_cases q7 : cw = 1 ∧ ch = 1
              · obtain ⟨rfl, rfl⟩ := q7
                go_wp2
                go_ret
                exact ⟨rfl, BL6.out⟩
              · have m1 : ((cw : Int) * (ch : Int) == 1) = false := beq_eq_false_iff_ne.2 fun e => by
                  have e2 : cw * ch = 1 := by
                    have : ((cw * ch : Nat) : Int) = 1 := by rw [Int.natCast_mul]; exact e
                    omega
                  exact q7 ⟨Nat.eq_one_of_mul_eq_one_right e2, Nat.eq_one_of_mul_eq_one_left e2⟩
                have m2 : 0 ≤ (cw : Int) * (ch : Int) ∧ (cw : Int) * (ch : Int) ≤ 16 := by
                  have h2 : cw * ch ≤ 4 * 4 := Nat.mul_le_mul hcw.2 hch.2
                  rw [← Int.natCast_mul]; omega
                obtain ⟨m3, m4⟩ := m2
                have cM : Calls Try.prog 19 #[.slice A5 j c5, .int .i64 (cw : Nat), .int .i64 (ch : Nat)] w6 fun e w' => e = .returned (.int .i64 4) ∧ Below w6.heap.size w6 w' := by
                  have := iMostOk_any (fullF cw ch) A5 c5 (by rw [HFL.out]; exact HC5.out) w6 (HRD.out w6 HB67.out) cw ch HFACT.out.1 HHS.out (by rw [HFL.out]; omega) (by rw [HFACT.out.2.1, ← HW.out]; omega) q7
                  rw [HM.out (by omega) (by omega) q7, HFL.out] at this
                  exact this
                have HQ7 := Lib.hid q7
                clear q7
                go_wp2_with fail
                refine cM.mono ?_
                rintro e w7 ⟨rfl, b8⟩
                have bl7 := BL6.out.trans (b8.mono BL6.out.size)
                clear cM
                have BL7 := Lib.hid bl7
                clear bl7 b8
                go_wp2
                go_ret
                exact ⟨rfl, BL7.out⟩
    · obtain ⟨rfl, rfl⟩ := best_none hp.symm hx
      clear hp cI cS hx
      go_wp2
      go_ret
      exact ⟨rfl, bl3⟩
  · have hn' : 1048576 < cs.length := by omega
    go_enter Try.func3, Try.ntmps3
    go_wp2
    go_ret
    exact ⟨rfl, Below.refl _ _⟩

set_option maxRecDepth 100000 in
theorem lifted (os : Os) (started : os.Started) (H : Type) (enc : TypeId × Value → H) :
    ReturnsInHanded {} Try.checked os 3 .any (Rows.fnSawLengthFieldSpec.pre6 enc Try.prog Try.f3 Rows.fnSawLengthFieldRow.domain false) (Rows.fnSawLengthFieldSpec.post enc Try.prog Try.f3 false true false false) := by
  refine returnsInHanded_of_change (C := Try.checked) ownNone started (by kernel_rfl) Try.func3
    (ChangeSpec.witness6 (enc := enc) (C := Try.checked) false ⟨#[], #[.slice none 0 0], []⟩ 8 (by kernel_rfl) (by kernel_rfl) (by kernel_rfl) (by kernel_rfl)) ?_
  intro W base args ds gs before hval0 hW hcnd _
  have hval : ∀ (j : Nat) t v, Try.f3.params[j]? = some t → args[j]? = some v → Value.okWide Try.prog W .any base t v := hval0
  have hW' := hW
  obtain ⟨p, q, hA0, hV, rfl, _, _⟩ := hW
  have hA : DataW.TrodAll enc Try.prog W 0 (fun _ => true) true Try.f3.params.toList args.toList ds p := hA0
  rw [Try.params3] at hA hval
  obtain ⟨v0, vs0, d0, ds0, p0, q0, hargs, rfl, rfl, h0, r0⟩ := trodAll_cons hA
  obtain ⟨rfl, rfl, rfl⟩ := trodAll_nil r0
  obtain rfl : args = #[v0] := by cases args; simp_all
  obtain ⟨rfl, rfl⟩ := trodVars_none hV
  obtain ⟨Acs, ccs, cs, rfl, hrcs, hlcs, hqcs⟩ := open_rd Try.underlying22 Try.underlying5 cellsByte (hval 0 22 v0 rfl rfl) h0
  have hbcs := byte_bounds hqcs
  clear hA0 hval0
  refine (walk W cs Acs ccs hrcs hbcs hlcs).mono fun e W' ⟨he, hg⟩ => ?_
  subst he
  exact ⟨_, rfl, law_post laidOut (by kernel_rfl) rfl rfl rfl rfl rfl Try.underlying4 hW' hg⟩

/-- The statement. -/
theorem proved : Rows.FnSawLengthFieldSaid :=
  OpenClaim.holds_of_wide 3 Try.f3 rfl rfl rfl rfl rfl rfl rfl ⟨rfl, rfl, rfl, rfl, rfl⟩ rfl rfl rfl rfl rfl (by kernel_rfl) Try.func3 (by kernel_rfl)
    (of_decide_eq_true (by kernel_rfl)) (by unfold Func.isWrapper; first | (rw [if_pos (by decide +kernel)]; kernel_rfl) | (rw [if_neg (by decide +kernel)]; exact ⟨rfl, rfl⟩))
    (fun os started H enc _ => lifted os started H enc)
#print axioms proved
end fnSawLengthField

end Go.Proofs.Ytboaikabbfipgac

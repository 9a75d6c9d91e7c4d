/- The law FnMostCakesTurned: for every code it answers true, and the code reads as it read before. No condition. -/
import Derived.Test.YtiihenhddleooacGTurnL
import Derived.Test.YtiihenhddleooacFDraws
import Derived.Test.YtiihenhddleooacLaw
namespace Go.Proofs.Ytiihenhddleooac
open Go.RowKit
set_option linter.unusedVariables false
set_option linter.unusedSimpArgs false

namespace fnMostCakesTurned
open Go.ChangeShapes Go.WideShapes Go.ChangeAt Go.RowKit
set_option maxRecDepth 100000 in
set_option maxHeartbeats 800000 in
set_option maxRecDepth 100000 in
set_option maxRecDepth 100000 in
set_option maxHeartbeats 8000000 in
theorem walk (w : World) (cs : List Int) (Acs : Option Addr) (ccs : Nat) (hrcs : Rd w w.heap.size Acs (bytes cs)) (hbcs : ∀ z ∈ cs, 0 ≤ z ∧ z ≤ 255) (hlcs : cs.length ≤ ccs ∧ ccs ≤ maxLen) :
    Calls Try.prog 3 #[.slice Acs cs.length ccs] w fun e w' => e = .returned (.bool true) ∧ Below w.heap.size w w' := by
  by_cases hn : cs.length ≤ 1048576
  · go_enter Try.func3, Try.ntmps3
    go_wp2_with fail
    refine (dMostCakes _ _ _ _ hrcs hbcs hlcs.1 hlcs.2).mono ?_
    rintro e w1 ⟨ff, Af, cf, a, h, rfl, ⟨hpl, hpc, hcm, hg⟩, hba, hbh, b1⟩
    have hn1 : ff.length ≤ 1048576 := by omega
    obtain ⟨q, hq⟩ : ∃ q, q = mostT ff a h := ⟨_, rfl⟩
    have cI := iMost_T ff Af cf ⟨hpc, hcm⟩ w1 hg a h
    rw [← hq] at cI
    have CS : Hid (∀ w', Below w1.heap.size w1 w' → Calls Try.prog 9 #[.slice Af ff.length cf, .int .i64 a, .int .i64 h] w' (fun e w'' => e = .returned (.int .i64 q) ∧ Below w'.heap.size w' w'')) := Lib.hid fun w' hb' => by
      have := sMost_T ff Af cf ⟨hpc, hcm⟩ w' ((hg.below hb').more hb'.size) hn1 a h
      rw [← hq] at this
      exact this
    have HQ := Lib.hid hq
    clear hq
    go_wp2_with fail
    refine (cI).mono ?_
    rintro e w2 ⟨rfl, b2⟩
    clear cI
    go_wp2_with fail
    refine (CS.out _ b2).mono ?_
    rintro e w3 ⟨rfl, b3⟩
    have d3 : Below w1.heap.size w1 w3 := b2.trans (b3.mono b2.size)
    cases hm : smallB ff a h
    · obtain rfl : q = -1 := by rw [HQ.out]; exact mostT_no hm
      have HM := Lib.hid hm
      clear hm
      go_wp2_with fail
      refine (CS.out _ d3).mono ?_
      rintro e w4 ⟨rfl, b4⟩
      have d4 : Below w1.heap.size w1 w4 := d3.trans (b4.mono d3.size)
      go_wp2
      go_ret
      exact ⟨rfl, b1.trans (d4.mono b1.size)⟩
    · obtain ⟨et, e0, hv⟩ := mostT_turn hm
      obtain ⟨M, hM⟩ := Int.eq_ofNat_of_zero_le e0
      obtain rfl : q = (M : Nat) := by rw [HQ.out]; exact hM
      rw [hM] at et
      have hg3 := (hg.below d3).more d3.size
      have hf3 : Fld w3 w3.heap.size Af ff := ⟨hv, hg3⟩
      have hl := field_len hv
      have hwd := field_wide hv
      obtain ⟨bp, op, A0p, c0p, hAp, hbp, h0p⟩ := hf3.row0
      subst hAp
      obtain ⟨i0, hi, hz0, hz1, hz2⟩ := info_parts info_bool
      obtain ⟨j0, hj, hy0, hy1, hy2⟩ := info_parts info_boolss
      have HF := Lib.hid hf3
      have HET := Lib.hid et
      have BL3 := Lib.hid (b1.trans (d3.mono b1.size))
      clear hm e0 hv hM HQ CS hg hg3 h0p hf3 et b1 b2 b3 d3
      go_wp2
      go_loopw [7, 8] (fun v i wr => ∃ (m : Nat) (xs : List Value), m ≤ wideB ff ∧ i = .int .i64 m ∧ PF wr w3.heap.size v m xs ((turnF ff).take m) ∧ Below w3.heap.size w3 wr) (fun _ i _ => wideB ff - (intOf i).toNat)
      case atStart =>
        exact ⟨0, [], Nat.zero_le _, rfl, ⟨own_empty w3 _, rfl, fun k r hr => by simp at hr, fun i j u v b hu => by simp at hu, fun i u b hu => by simp at hu⟩, (Below.refl _ _).alloc (Nat.le_refl _) _⟩
      case round =>
        obtain ⟨m, xs, hmW, rfl, hpf, hbel⟩ := hrel
        have hsz := hbel.size
        have hfr := HF.out.below hbel
        obtain ⟨b', o', A0', c0', heq, _, h0r⟩ := hfr.row0
        cases heq
        by_cases hlt : m < wideB ff
        · have hst2 : TFRow ff w3 wr.heap.size m (.slice (some ⟨wr.heap.size, 0, none⟩) 0 0) (.int .i64 (0 : Nat)) u7 m xs ((turnF ff).take m) (wr.alloc (.cells #[] 4)) :=
            ⟨0, Nat.zero_le _, rfl, own_empty wr _, hpf.below ((Below.refl _ _).alloc (Nat.le_refl _) _), hbel.alloc (by omega) _, hsz, hpf.hi_, by simp⟩
          have HST2 := Lib.hid hst2
          clear hst2 hpf hbel hfr
          generalize hlo : wr.heap.size = lo at HST2
          go_wp2
          go_loopw [9, 10] (fun v i wi => TFRow ff w3 lo m v i u7 m xs ((turnF ff).take m) wi) (fun _ i _ => ff.length - (intOf i).toNat)
          case atStart => rw [← hlo] at HST2 ⊢; exact HST2.out
          case round =>
            clear hlo HST2 h0r
            obtain ⟨k, hk, rfl, hown, hpg, hb, hwl, hxl, hls⟩ := hrel
            have HXL := Lib.hid hxl
            clear hxl
            have hsz2 := hb.size
            by_cases hkW : k < ff.length
            · obtain ⟨b2, o2, b3, o3, c3, heq2, hc2, hcc1, hcc2, hc3⟩ := (HF.out.below hb).cell_ hkW hlt
              cases heq2
              have HZ : Hid ((turnR ff m).take (k + 1) = (turnR ff m).take k ++ [ice ff k m]) := Lib.hid (turnR_snoc ff hkW)
              generalize ice ff k m = bq at *
              go_wp2_with (at_builtin; refine wpList_append_own _ rfl _ _ 27 rfl (lo) 4 i0 (.bool false) 1 1 Try.underlying27 hi hz0 hz1 hz2 rfl (by decide) _ _ _ rfl (hown.alloc _) ⟨wr.heap.size, 0, none⟩ 1 1 [.bool bq] rfl rfl ?c1 ?c2 ?c3 ?c4 ?c5 ?_)
              case c1 => first | exact one_new _ _ _ _ rfl | exact one_new _ _ _ _ (by simp)
              case c2 => first | rfl | (intro u hu; simp at hu; subst hu; rfl)
              case c3 => unfold maxLen; omega
              case c4 => omega
              case c5 => simp; omega
              · intro v' w5 hown' hgrow _
                have hob := own_block hown
                have R : w5.ownsRow lo 4 1 v' (k + 1) (bools ((turnR ff m).take (k + 1))) := by rw [HZ.out]; simpa [bools] using hown'
                have hpg5 := (hpg.below ((Below.refl _ _).alloc (Nat.le_refl _) (.cells #[.bool bq] 4))).grow hgrow (own_alloc hown (.cells #[.bool bq] 4)) (fun q hq => own_typesF hown hpg.out typesF_ne q hq) (fun i x q hx hq e => by have := HXL.out i x q hx e; have := hob q hq; omega)
                have hb5 : Below w3.heap.size w3 w5 := (hb.alloc (by omega) (.cells #[.bool bq] 4)).grown hgrow (by simp; omega) (fun k hk => by have := hob k hk; omega)
                have hls5 : lo ≤ w5.heap.size := by have := hgrow.size; simp at this; omega
                have HP5 := Lib.hid (And.intro R (And.intro hpg5 (And.intro hb5 hls5)))
                clear hown' hgrow R hpg5 hb5 hls5 hown hpg hb hc2 hc3
                go_wp2
                go_roundw
                case rel => exact ⟨k + 1, by omega, by go_num, HP5.out.1, HP5.out.2.1, HP5.out.2.2.1, hwl, HXL.out, HP5.out.2.2.2⟩
                case measure => simp [intOf]; omega
            · obtain rfl : k = ff.length := by omega
              obtain ⟨A6, c6, rfl⟩ := own_form hown
              have hout3 := hpg.out
              have hzl := turnR_len ff m
              rw [List.take_of_length_le (by omega)] at hown
              have HZ : Hid ((turnF ff).take (m + 1) = (turnF ff).take m ++ [turnR ff m]) := Lib.hid (turnF_snoc ff hlt)
              have hm9 : m ≤ 9 := by omega
              go_wp2_with (at_builtin; refine wpList_append_own _ rfl _ _ 23 rfl (w3.heap.size) 27 j0 (.slice none 0 0) 1 24 Try.underlying23 hj hy0 hy1 hy2 rfl (by decide) _ _ _ rfl (hout3.alloc _) ⟨wr.heap.size, 0, none⟩ 1 1 [.slice A6 ff.length c6] rfl rfl ?c1x2 ?c2x2 ?c3x2 ?c4x2 ?c5x2 ?_)
              case c1x2 => first | exact one_new _ _ _ _ rfl | exact one_new _ _ _ _ (by simp)
              case c2x2 => first | rfl | (intro u hu; simp at hu; subst hu; rfl)
              case c3x2 => unfold maxLen; omega
              case c4x2 => omega
              case c5x2 => simp; omega
              · intro v' w5 hown' hgrow _
                have hob := own_block hout3
                have hrow3 : (wr.alloc (.cells #[.slice A6 ff.length c6] 27)).ownsRow lo 4 1 (.slice A6 (turnR ff m).length c6) (turnR ff m).length (bools (turnR ff m)) := by rw [hzl]; exact own_alloc hown _
                have hpg5 := (hpg.below ((Below.refl _ _).alloc (Nat.le_refl _) (.cells #[.slice A6 ff.length c6] 27))).push hrow3 hwl HXL.out hgrow (by rw [hzl]; exact hown')
                rw [← HZ.out] at hpg5
                have hb5 : Below w3.heap.size w3 w5 := (hb.alloc (by omega) (.cells #[.slice A6 ff.length c6] 27)).grown hgrow (by simp; omega) hob
                have HP5 := Lib.hid (And.intro hpg5 hb5)
                clear hown' hgrow hpg5 hb5 hown hpg hb hout3 hrow3
                go_wp2
                go_roundw
                case rel => exact ⟨m + 1, _, by omega, by go_num, HP5.out.1, HP5.out.2⟩
                case measure => simp [intOf]; omega
        · obtain rfl : m = wideB ff := by omega
          obtain ⟨A5, c5, rfl⟩ := own_form hpf.out
          have hcap5 := own_caps hpf.out
          rw [List.take_of_length_le (by rw [turnF_len]; exact Nat.le_refl _)] at hpf
          have cM : Calls Try.prog 8 #[.slice A5 (wideB ff) c5, .int .i64 h, .int .i64 a] wr fun e w' => e = .returned (.int .i64 (M : Nat)) ∧ Below wr.heap.size wr w' := by
            have := iMost_T (turnF ff) A5 c5 (by rw [turnF_len]; exact hcap5) wr hpf.rd h a
            rw [HET.out, turnF_len] at this
            exact this
          clear hpf hcap5
          go_wp2_with fail
          refine (cM).mono ?_
          rintro e w7 ⟨rfl, b7⟩
          have BL7 := Lib.hid (BL3.out.trans ((hbel.trans (b7.mono hsz)).mono BL3.out.size))
          clear b7 hbel cM
          go_wp2
          go_ret
          exact ⟨rfl, BL7.out⟩
  · have hn' : 1048576 < cs.length := by omega
    go_enter Try.func3, Try.ntmps3
    go_wp2
    go_ret
    exact ⟨rfl, Below.refl _ _⟩

set_option maxRecDepth 100000 in
theorem lifted (os : Os) (started : os.Started) (H : Type) (enc : TypeId × Value → H) :
    ReturnsInHanded {} Try.checked os 3 .any (Rows.fnMostCakesTurnedSpec.pre6 enc Try.prog Try.f3 Rows.fnMostCakesTurnedRow.domain false) (Rows.fnMostCakesTurnedSpec.post enc Try.prog Try.f3 false true false false) := by
  refine returnsInHanded_of_change (C := Try.checked) ownNone started (by kernel_rfl) Try.func3
    (ChangeSpec.witness6 (enc := enc) (C := Try.checked) false ⟨#[], #[.slice none 0 0], []⟩ 8 (by kernel_rfl) (by kernel_rfl) (by kernel_rfl) (by kernel_rfl)) ?_
  intro W base args ds gs before hval0 hW hcnd _
  have hval : ∀ (j : Nat) t v, Try.f3.params[j]? = some t → args[j]? = some v → Value.okWide Try.prog W .any base t v := hval0
  have hW' := hW
  obtain ⟨p, q, hA0, hV, rfl, _, _⟩ := hW
  have hA : DataW.TrodAll enc Try.prog W 0 (fun _ => true) true Try.f3.params.toList args.toList ds p := hA0
  rw [Try.params3] at hA hval
  obtain ⟨v0, vs0, d0, ds0, p0, q0, hargs, rfl, rfl, h0, r0⟩ := trodAll_cons hA
  obtain ⟨rfl, rfl, rfl⟩ := trodAll_nil r0
  obtain rfl : args = #[v0] := by cases args; simp_all
  obtain ⟨rfl, rfl⟩ := trodVars_none hV
  obtain ⟨Acs, ccs, cs, rfl, hrcs, hlcs, hqcs⟩ := open_rd Try.underlying22 Try.underlying5 cellsByte (hval 0 22 v0 rfl rfl) h0
  have hbcs := byte_bounds hqcs
  clear hA0 hval0
  refine (walk W cs Acs ccs hrcs hbcs hlcs).mono fun e W' ⟨he, hg⟩ => ?_
  subst he
  exact ⟨_, rfl, law_post laidOut (by kernel_rfl) rfl rfl rfl rfl rfl Try.underlying4 hW' hg⟩

/-- The statement. -/
theorem proved : Rows.FnMostCakesTurnedSaid :=
  OpenClaim.holds_of_wide 3 Try.f3 rfl rfl rfl rfl rfl rfl rfl ⟨rfl, rfl, rfl, rfl, rfl⟩ rfl rfl rfl rfl rfl (by kernel_rfl) Try.func3 (by kernel_rfl)
    (of_decide_eq_true (by kernel_rfl)) (by unfold Func.isWrapper; first | (rw [if_pos (by decide +kernel)]; kernel_rfl) | (rw [if_neg (by decide +kernel)]; exact ⟨rfl, rfl⟩))
    (fun os started H enc _ => lifted os started H enc)
#print axioms proved
end fnMostCakesTurned

end Go.Proofs.Ytiihenhddleooac

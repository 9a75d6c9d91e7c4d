/- The law FnLateBy: for every code it answers true, and the code reads as it read before. No condition. -/
import Derived.Test.YtjjddamblijffaaKLaw
import Derived.Test.YtjjddamblijffaaKHelp
import Derived.Test.YtjjddamblijffaaKLater
import Derived.Test.YtjjddamblijffaaKLawD
import Derived.Test.YtjjddamblijffaaLaw
namespace Go.Proofs.Ytjjddamblijffaa
open Go.RowKit
set_option linter.unusedVariables false
set_option linter.unusedSimpArgs false

namespace fnLateBy
open Go.ChangeShapes Go.WideShapes Go.ChangeAt Go.RowKit
set_option maxRecDepth 100000 in
set_option maxHeartbeats 800000 in
set_option maxRecDepth 100000 in
set_option maxRecDepth 100000 in
set_option maxHeartbeats 8000000 in
theorem walk (w : World) (cs : List Int) (Acs : Option Addr) (ccs : Nat) (hrcs : Rd w w.heap.size Acs (bytes cs)) (hbcs : ∀ z ∈ cs, 0 ≤ z ∧ z ≤ 255) (hlcs : cs.length ≤ ccs ∧ ccs ≤ maxLen) :
    Calls Try.prog 5 #[.slice Acs cs.length ccs] w fun e w' => e = .returned (.bool true) ∧ Below w.heap.size w w' := by
  by_cases hn : cs.length ≤ 1048576
  · go_enter Try.func5, Try.ntmps5
    go_wp2_with fail
    refine (dLateBy _ _ _ _ hrcs hbcs hlcs.1 hlcs.2).mono ?_
    rintro e w1 ⟨ks, Ak, ck, st, os, Ao, co, rfl, ⟨hkl, hkc, hkm, hrk⟩, ⟨hol, hoc, hom, hro⟩, hst, b1⟩
    obtain ⟨i0, hi, hz0, hz1, hz2⟩ := info_parts info_cust
    obtain ⟨n, hn0⟩ : ∃ n, ks.length = n := ⟨_, rfl⟩
    rw [hn0] at hkl hkc ⊢
    have HL := Lib.hid hn0
    clear hn0
    have hn1 : n ≤ maxLen := by unfold maxLen; omega
    obtain ⟨m, hm0⟩ : ∃ m, os.length = m := ⟨_, rfl⟩
    rw [hm0] at hol hoc ⊢
    have HLO := Lib.hid hm0
    clear hm0
    have hm1 : m ≤ 1048576 := by omega
    go_wp2_with fail
    refine (iLate_any n m ks HL.out Ak ck hn1 os HLO.out hm1 Ao co w1 hrk hro st).mono ?_
    rintro e w2 ⟨rfl, b2⟩
    have z2 := b2.size
    have bl2 : Below w1.heap.size w1 w2 := (Below.refl w1.heap.size w1).trans (b2.mono (Nat.le_refl _))
    clear b2
    go_wp2_with fail
    refine (sLate_any n m ks HL.out Ak ck hn1 os HLO.out hm1 Ao co ⟨hoc, hom⟩ w2 ((hrk.below bl2).more bl2.size) ((hro.below bl2).more bl2.size) st).mono ?_
    rintro e w3 ⟨rfl, b3⟩
    have z3 := b3.size
    have bl3 : Below w1.heap.size w1 w3 := bl2.trans (b3.mono bl2.size)
    clear bl2 b3
    cases hv : rndB ks st os
    · have e0 := lateT_no hv
      have HS := Lib.hid (fun w hr hro => sLate_any n m ks HL.out Ak ck hn1 os HLO.out hm1 Ao co ⟨hoc, hom⟩ w hr hro st)
      rw [e0] at HS ⊢
      clear e0 hv
      go_wp2_with fail
      refine (HS.out w3 ((hrk.below bl3).more bl3.size) ((hro.below bl3).more bl3.size)).mono ?_
      rintro e w4 ⟨rfl, b4⟩
      have z4 := b4.size
      have bl4 : Below w1.heap.size w1 w4 := bl3.trans (b4.mono bl3.size)
      clear bl3 b4
      go_wp2
      go_ret
      exact ⟨rfl, b1.trans (bl4.mono b1.size)⟩
    · have e0 := lateT_ok hv
      have hP := rndP hv
      rw [HL.out] at hP
      have hmn : n = m := by rw [← HLO.out]; exact hP.olen.symm
      subst hmn
      have hlb := hP.late (k := n) (Nat.le_refl _)
      rw [show os.take n = os by rw [← HLO.out, List.take_length]] at hlb
      obtain ⟨lb1, lb2⟩ := hlb
      have HVT : Hid (visT ks st os = tmL st 0 (pick ks os)) := Lib.hid (visT_ok hv)
      have HP := Lib.hid hP
      have HLL := Lib.hid (late_later hv)
      rw [HL.out] at HLL
      have hng : ¬ latR st 0 (pick ks os) < 0 := by omega
      rw [e0]
      clear e0 hv hP
      go_wp2_with fail
      refine (iVis_any n n ks HL.out Ak ck hn1 os HLO.out hm1 Ao co w3 ((hrk.below bl3).more bl3.size) ((hro.below bl3).more bl3.size) st).mono ?_
      rintro e w4 ⟨AT, cT, rfl, oT4, b4⟩
      have z4 := b4.size
      have bl4 : Below w1.heap.size w1 w4 := bl3.trans (b4.mono bl3.size)
      have HIT := Lib.hid (owz_in oT4)
      clear bl3 b4
      rw [HVT.out] at oT4 HIT ⊢
      rw [tmL_len, pick_len, HLO.out] at oT4 HIT ⊢
      have hrr := ((hrk.below bl4).more bl4.size)
      have hror := ((hro.below bl4).more bl4.size)
      have HBL := Lib.hid bl4
      have HOT := Lib.hid oT4
      clear bl4 oT4
      obtain ⟨wz, hwz⟩ : ∃ wz, wz = w4 := ⟨_, rfl⟩
      rw [← hwz] at hrr hror HBL HOT ⊢
      clear hwz
      go_wp2_with (at_builtin; refine push_anyK rfl _ _ 23 rfl wz.heap.size 33 i0 (.agg #[.int .i64 0, .int .i64 0, .int .i64 0]) 24 Try.underlying23 hi hz0 hz1 hz2 rfl _ _ _ rfl (owz_empty wz 33 3) _ _ _ wz.heap.size (custV ks) rfl ((hrr.alloc (Nat.le_refl _) _)) (by rw [custV_len, HL.out]) oneCell_cust (by unfold maxLen; omega) (by omega) (by simp) ?_)
      intro v9 w9 own9 grow9
      have hb9 : Below wz.heap.size wz w9 := ((Below.refl _ _).alloc (Nat.le_refl _) (.cells #[] 33)).grown grow9 (by simp) (owz_block (owz_empty wz 33 3))
      have own9' : w9.ownsRow wz.heap.size 33 3 v9 n (custV (laterF ks 0)) := by rw [laterF_zero]; simpa using own9
      obtain ⟨A9, c9, rfl⟩ := owz_form own9'
      have HST := Lib.hid (And.intro own9' hb9)
      have HFF : Hid (∀ k, 0 ≤ latR st 0 (pick ks (os.take k))) := Lib.hid fun k => latR_ge _ _ _
      clear own9 own9' hb9 grow9
      go_wp2
      go_loopw [8, 10] (fun f i wr => ∃ k : Nat, k ≤ n ∧ i = .int .i64 k ∧ f = .bool (decide (latR st 0 (pick ks (os.take k)) = 0)) ∧ wr.ownsRow wz.heap.size 33 3 (.slice A9 n c9) n (custV (laterF ks k)) ∧ Below wz.heap.size wz wr) (fun _ i _ => n - (intOf i).toNat)
      case atStart => exact ⟨0, Nat.zero_le _, rfl, rfl, HST.out.1, HST.out.2⟩
      case round =>
        obtain ⟨k, hk, rfl, rfl, hown, hbel⟩ := hrel
        have hrw := (hrr.below hbel).more hbel.size
        have how := (hror.below hbel).more hbel.size
        have htw := Rd.ownz (owz_below HOT.out hbel)
        by_cases hlt : k < n
        · obtain ⟨b4, off4, y, hA4, hb4, hy, hcy⟩ := htw.int_ (k := k) (by rw [tmL_len, pick_len, HLO.out]; exact hlt)
          obtain ⟨b3, off3, z, hA3, hb3, hz, hcz⟩ := how.int_ (k := k) (by rw [HLO.out]; exact hlt)
          obtain ⟨t, rfl, htm⟩ := HP.out.at_ hlt hz.out
          obtain ⟨bb, off, x, d, v, hAk, hbb, hzc, q0, q1, q2⟩ := hrw.cust_ (k := t) (by rw [HL.out]; exact htm)
          obtain rfl : y = endT st (pick ks (os.take (k + 1))) := by have h1 := hy.out; rw [tm_at (by rw [HLO.out]; exact hlt)] at h1; injection h1 with h1; exact h1.symm
          have hnx := late_next (cs := ks) (st := st) hz.out hzc.out
          have hl0 := HFF.out k
          have hdec : decide (latR st 0 (pick ks (os.take (k + 1))) = 0) = (decide (latR st 0 (pick ks (os.take k)) = 0) && decide (endT st (pick ks (os.take (k + 1))) ≤ d)) := by
            rw [hnx, ← Bool.decide_and]
            refine decide_eq_decide.2 ?_
            have hp := pos0_ge (endT st (pick ks (os.take (k + 1))) - d)
            have hp0 := pos0_zero (x := endT st (pick ks (os.take (k + 1))) - d)
            omega
          have HDEC := Lib.hid hdec
          -- the store
          obtain ⟨gL, rfl, hgL, hgLl, _, _⟩ := owz_some (by omega) hown (by omega)
          obtain ⟨⟨xk, dk, vk⟩, hck⟩ : ∃ c, cuA ks k = c := ⟨_, rfl⟩
          have hlk : (laterF ks k)[k]? = some (xk, dk, vk) := by rw [laterF_get (by rw [HL.out]; exact hlt), if_neg (by omega), hck]
          have hset := custV_set1 (e := 2000) hlk
          rw [laterF_set (by rw [HL.out]; exact hlt) hck] at hset
          have k1 := owz_cell hown (custV_at hlk).2.1
          have f1 := owz_frozen hown (k * 3 + 1)
          subst hA4 hA3 hAk
          have HTT := Lib.hid (HP.out.time (show k + 1 ≤ n by omega))
          generalize endT st (pick ks (os.take (k + 1))) = T at *
          clear hnx hdec hy hz hzc hlk hck htw how hrw
          have HOW := Lib.hid hown
          have HBE := Lib.hid hbel
          generalize hfl : decide (latR st 0 (pick ks (os.take k)) = 0) = fl at *
          have HFL := Lib.hid hfl
          have fin9 : ∀ nq : Nat, (((wr.drewN nq).setCell ⟨gL, k * 3 + 1, none⟩ (.int .i64 2000)).ownsRow wz.heap.size 33 3 (.slice (some ⟨gL, 0, none⟩) n c9) n (custV (laterF ks (k + 1)))) ∧ Below wz.heap.size wz ((wr.drewN nq).setCell ⟨gL, k * 3 + 1, none⟩ (.int .i64 2000)) := fun nq => by
            have h1 := owz_put (owz_drewN HOW.out nq) (k * 3 + 1) (.int .i64 2000)
            rw [hset] at h1
            exact ⟨h1, (below_drewN HBE.out nq).setCell hgL _⟩
          have HFIN := Lib.hid fin9
          clear hown hbel fin9 hset hfl
          cases fl
          · rw [Bool.false_and] at HDEC
            go_wp2
            refine wp_region_quiet_lit (by kernel_rfl) (by kernel_rfl) ?_
            repeat (go_big_quiet_step (fail))
            refine wpQuiet_nil ?_
            intro _ hw'
            obtain ⟨nq, hw''⟩ := hw'
            subst hw''
            have k2 : (wr.drewN nq).cell? ⟨gL, k * 3 + 1, none⟩ = some (.int .i64 dk) := k1
            have f2 : (wr.drewN nq).frozen? ⟨gL, k * 3 + 1, none⟩ = false := f1
            have HF2 := Lib.hid (HFIN.out nq)
            go_wp2
            go_roundw
            case rel => exact ⟨k + 1, by omega, by go_num, by first | (rw [HDEC.out]; done) | (rw [HDEC.out]; simp; omega) | (rw [HDEC.out]; simp [*]), HF2.out.1, HF2.out.2⟩
            case measure => simp [intOf]; omega
          · rw [Bool.true_and] at HDEC
            by_cases hTd : T ≤ d
            · rw [decide_eq_true hTd] at HDEC
              go_wp2
              refine wp_region_quiet_lit (by kernel_rfl) (by kernel_rfl) ?_
              repeat (go_big_quiet_step (fail))
              refine wpQuiet_nil ?_
              intro _ hw'
              obtain ⟨nq, hw''⟩ := hw'
              subst hw''
              have k2 : (wr.drewN nq).cell? ⟨gL, k * 3 + 1, none⟩ = some (.int .i64 dk) := k1
              have f2 : (wr.drewN nq).frozen? ⟨gL, k * 3 + 1, none⟩ = false := f1
              have HF2 := Lib.hid (HFIN.out nq)
              go_wp2
              go_roundw
              case rel => exact ⟨k + 1, by omega, by go_num, by first | (rw [HDEC.out]; done) | (rw [HDEC.out]; simp; omega) | (rw [HDEC.out]; simp [*]), HF2.out.1, HF2.out.2⟩
              case measure => simp [intOf]; omega
            · rw [decide_eq_false hTd] at HDEC
              have hTd2 : d < T := by omega
              go_wp2
              refine wp_region_quiet_lit (by kernel_rfl) (by kernel_rfl) ?_
              repeat (go_big_quiet_step (fail))
              refine wpQuiet_nil ?_
              intro _ hw'
              obtain ⟨nq, hw''⟩ := hw'
              subst hw''
              have k2 : (wr.drewN nq).cell? ⟨gL, k * 3 + 1, none⟩ = some (.int .i64 dk) := k1
              have f2 : (wr.drewN nq).frozen? ⟨gL, k * 3 + 1, none⟩ = false := f1
              have HF2 := Lib.hid (HFIN.out nq)
              go_wp2
              go_roundw
              case rel => exact ⟨k + 1, by omega, by go_num, by first | (rw [HDEC.out]; done) | (rw [HDEC.out]; simp; omega) | (rw [HDEC.out]; simp [*]), HF2.out.1, HF2.out.2⟩
              case measure => simp [intOf]; omega
        · have hkn : n = k := by omega
          subst hkn
          have cL := iLate_any n n (laterF ks n) (by rw [laterF_len, HL.out]) A9 c9 hn1 os HLO.out hm1 Ao co wr (Rd.ownz hown) how st
          rw [HLL.out] at cL
          have CL := Lib.hid cL
          have HB := Lib.hid (HBL.out.trans (hbel.mono HBL.out.size))
          rw [show os.take n = os by rw [← HLO.out, List.take_length]]
          clear hown hbel hrw how htw cL
          generalize latR st 0 (pick ks os) = V at *
          by_cases hV0 : V = 0
          · subst hV0
            go_wp2_with fail
            refine (CL.out).mono ?_
            rintro e w10 ⟨rfl, b10⟩
            have HB10 := Lib.hid (HB.out.trans (b10.mono HB.out.size))
            clear b10
            go_wp2
            go_ret
            exact ⟨rfl, b1.trans (HB10.out.mono b1.size)⟩
          · have hVb : (V == 0) = false := beq_eq_false_iff_ne.2 hV0
            have hVd : decide (V = 0) = false := decide_eq_false hV0
            rw [hVd]
            go_wp2_with fail
            refine (CL.out).mono ?_
            rintro e w10 ⟨rfl, b10⟩
            have HB10 := Lib.hid (HB.out.trans (b10.mono HB.out.size))
            clear b10
            go_wp2
            go_ret
            exact ⟨rfl, b1.trans (HB10.out.mono b1.size)⟩
  · have hn' : 1048576 < cs.length := by omega
    go_enter Try.func5, Try.ntmps5
    go_wp2
    go_ret
    exact ⟨rfl, Below.refl _ _⟩

set_option maxRecDepth 100000 in
theorem lifted (os : Os) (started : os.Started) (H : Type) (enc : TypeId × Value → H) :
    ReturnsInHanded {} Try.checked os 5 .any (Rows.fnLateBySpec.pre6 enc Try.prog Try.f5 Rows.fnLateByRow.domain false) (Rows.fnLateBySpec.post enc Try.prog Try.f5 false true false false) := by
  refine returnsInHanded_of_change (C := Try.checked) ownNone started (by kernel_rfl) Try.func5
    (ChangeSpec.witness6 (enc := enc) (C := Try.checked) false ⟨#[], #[.slice none 0 0], []⟩ 8 (by kernel_rfl) (by kernel_rfl) (by kernel_rfl) (by kernel_rfl)) ?_
  intro W base args ds gs before hval0 hW hcnd _
  have hval : ∀ (j : Nat) t v, Try.f5.params[j]? = some t → args[j]? = some v → Value.okWide Try.prog W .any base t v := hval0
  have hW' := hW
  obtain ⟨p, q, hA0, hV, rfl, _, _⟩ := hW
  have hA : DataW.TrodAll enc Try.prog W 0 (fun _ => true) true Try.f5.params.toList args.toList ds p := hA0
  rw [Try.params5] at hA hval
  obtain ⟨v0, vs0, d0, ds0, p0, q0, hargs, rfl, rfl, h0, r0⟩ := trodAll_cons hA
  obtain ⟨rfl, rfl, rfl⟩ := trodAll_nil r0
  obtain rfl : args = #[v0] := by cases args; simp_all
  obtain ⟨rfl, rfl⟩ := trodVars_none hV
  obtain ⟨Acs, ccs, cs, rfl, hrcs, hlcs, hqcs⟩ := open_rd Try.underlying22 Try.underlying5 cellsByte (hval 0 22 v0 rfl rfl) h0
  have hbcs := byte_bounds hqcs
  clear hA0 hval0
  refine (walk W cs Acs ccs hrcs hbcs hlcs).mono fun e W' ⟨he, hg⟩ => ?_
  subst he
  exact ⟨_, rfl, law_post laidOut (by kernel_rfl) rfl rfl rfl rfl rfl Try.underlying4 hW' hg⟩

/-- The statement. -/
theorem proved : Rows.FnLateBySaid :=
  OpenClaim.holds_of_wide 5 Try.f5 rfl rfl rfl rfl rfl rfl rfl ⟨rfl, rfl, rfl, rfl, rfl⟩ rfl rfl rfl rfl rfl (by kernel_rfl) Try.func5 (by kernel_rfl)
    (of_decide_eq_true (by kernel_rfl)) (by unfold Func.isWrapper; first | (rw [if_pos (by decide +kernel)]; kernel_rfl) | (rw [if_neg (by decide +kernel)]; exact ⟨rfl, rfl⟩))
    (fun os started H enc _ => lifted os started H enc)
#print axioms proved
end fnLateBy

end Go.Proofs.Ytjjddamblijffaa

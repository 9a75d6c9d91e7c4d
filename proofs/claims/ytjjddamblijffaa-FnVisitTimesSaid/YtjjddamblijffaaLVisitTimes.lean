/- The law FnVisitTimes: for every code it answers true, and the code reads as it read before. No condition. -/
import Derived.Test.YtjjddamblijffaaKLaw
import Derived.Test.YtjjddamblijffaaKHelp
import Derived.Test.YtjjddamblijffaaKLawD
import Derived.Test.YtjjddamblijffaaLaw
namespace Go.Proofs.Ytjjddamblijffaa
open Go.RowKit
set_option linter.unusedVariables false
set_option linter.unusedSimpArgs false

namespace fnVisitTimes
open Go.ChangeShapes Go.WideShapes Go.ChangeAt Go.RowKit
set_option maxRecDepth 100000 in
set_option maxHeartbeats 800000 in
set_option maxRecDepth 100000 in
set_option maxRecDepth 100000 in
set_option maxHeartbeats 8000000 in
theorem walk (w : World) (cs : List Int) (Acs : Option Addr) (ccs : Nat) (hrcs : Rd w w.heap.size Acs (bytes cs)) (hbcs : ∀ z ∈ cs, 0 ≤ z ∧ z ≤ 255) (hlcs : cs.length ≤ ccs ∧ ccs ≤ maxLen) :
    Calls Try.prog 4 #[.slice Acs cs.length ccs] w fun e w' => e = .returned (.bool true) ∧ Below w.heap.size w w' := by
  by_cases hn : cs.length ≤ 1048576
  · go_enter Try.func4, Try.ntmps4
    go_wp2_with fail
    refine (dVisitTimes _ _ _ _ hrcs hbcs hlcs.1 hlcs.2).mono ?_
    rintro e w1 ⟨ks, Ak, ck, st, os, Ao, co, rfl, ⟨hkl, hkc, hkm, hrk⟩, ⟨hol, hoc, hom, hro⟩, hst, b1⟩
    obtain ⟨n, hn0⟩ : ∃ n, ks.length = n := ⟨_, rfl⟩
    rw [hn0] at hkl hkc ⊢
    have HL := Lib.hid hn0
    clear hn0
    have hn1 : n ≤ maxLen := by unfold maxLen; omega
    obtain ⟨m, hm0⟩ : ∃ m, os.length = m := ⟨_, rfl⟩
    rw [hm0] at hol hoc ⊢
    have HLO := Lib.hid hm0
    clear hm0
    have hm1 : m ≤ 1048576 := by omega
    have HSM : Hid (∀ w, Rd w w.heap.size Ak (custV ks) → Rd w w.heap.size Ao (ints os) → Calls Try.prog 21 #[.slice Ak n ck, .int .i64 st, .slice Ao m co] w (OutI (visT ks st os) w)) := Lib.hid fun w hr hro => sVis_any n m ks HL.out Ak ck hn1 os HLO.out hm1 Ao co ⟨hoc, hom⟩ w hr hro st
    have HIM : Hid (∀ w, Rd w w.heap.size Ak (custV ks) → Rd w w.heap.size Ao (ints os) → Calls Try.prog 19 #[.slice Ak n ck, .int .i64 st, .slice Ao m co] w (OutI (visT ks st os) w)) := Lib.hid fun w hr hro => iVis_any n m ks HL.out Ak ck hn1 os HLO.out hm1 Ao co w hr hro st
    obtain ⟨ts, hts⟩ : ∃ ts, ts = visT ks st os := ⟨_, rfl⟩
    have htl8 : ts.length ≤ 8 := by rw [hts]; exact visT_le _ _ _
    have htl : ts.length ≤ 1048576 := by omega
    have HTS := Lib.hid hts
    clear hts
    rw [← HTS.out] at HIM HSM
    go_wp2_with fail
    refine (HIM.out w1 hrk hro).mono ?_
    rintro e w2 ⟨AT, cT, rfl, oT2, b2⟩
    have z2 := b2.size
    have bl2 : Below w1.heap.size w1 w2 := (Below.refl w1.heap.size w1).trans (b2.mono (Nat.le_refl _))
    have HIT := Lib.hid (owz_in oT2)
    clear b2
    go_wp2_with fail
    refine (HSM.out w2 ((hrk.below bl2).more bl2.size) ((hro.below bl2).more bl2.size)).mono ?_
    rintro e w3 ⟨AS, cS, rfl, oS3, b3⟩
    have z3 := b3.size
    have bl3 : Below w1.heap.size w1 w3 := bl2.trans (b3.mono bl2.size)
    have oT3 := owz_below oT2 b3
    have HIS := Lib.hid (owz_in oS3)
    clear oT2 bl2 b3
    go_wp2_with fail
    refine (eqT_k ts _ _ _ _ w3 w3.heap.size (Rd.ownz oT3) (Rd.ownz oS3) htl).mono ?_
    rintro e w4 ⟨rfl, b4⟩
    have z4 := b4.size
    have bl4 : Below w1.heap.size w1 w4 := bl3.trans (b4.mono bl3.size)
    have oT4 := owz_below oT3 b4
    have oS4 := owz_below oS3 b4
    clear oT3 oS3 bl3 b4
    clear oS4
    by_cases h0 : ts.length = 0
    · obtain ⟨l, hl⟩ : ∃ l, l = ts.length := ⟨_, rfl⟩
      have hlb : ((ts.length : Int) == 0) = true := beq_iff_eq.2 (by omega)
      clear h0 hl
      go_wp2_with fail
      refine (HSM.out w4 ((hrk.below bl4).more bl4.size) ((hro.below bl4).more bl4.size)).mono ?_
      rintro e w5 ⟨AS2, cS2, rfl, oS5, b5⟩
      have z5 := b5.size
      have bl5 : Below w1.heap.size w1 w5 := bl4.trans (b5.mono bl4.size)
      have oT5 := owz_below oT4 b5
      have HIS := Lib.hid (owz_in oS5)
      clear oT4 bl4 b5
      go_wp2_with fail
      refine (eqT_k ts _ _ _ _ w5 w5.heap.size (Rd.ownz oT5) (Rd.ownz oS5) htl).mono ?_
      rintro e w6 ⟨rfl, b6⟩
      have z6 := b6.size
      have bl6 : Below w1.heap.size w1 w6 := bl5.trans (b6.mono bl5.size)
      have oT6 := owz_below oT5 b6
      have oS6 := owz_below oS5 b6
      clear oT5 oS5 bl5 b6
      go_wp2
      go_ret
      exact ⟨rfl, b1.trans (bl6.mono b1.size)⟩
    · have h0i : ((ts.length : Int) == 0) = false := beq_eq_false_iff_ne.2 (by omega)
      have h0n : ¬ (ts.length : Int) = 0 := by omega
      have hrn := visT_pos (cs := ks) (st := st) (os := os) (by rw [← HTS.out]; omega)
      have hP := rndP hrn
      rw [HL.out] at hP
      have hmn : n = m := by rw [← HLO.out]; exact hP.olen.symm
      subst hmn
      have hln : ts.length = n := by rw [HTS.out, visT_some hrn]; exact HLO.out
      have htt : ts = tmL st 0 (pick ks os) := by rw [HTS.out]; exact visT_ok hrn
      obtain ⟨s1, s2⟩ := And.intro hP.s1 hP.s2
      have HP := Lib.hid hP
      have hn0 : 0 < n := by omega
      have HSR := Lib.hid (srF_le hP hn0)
      have CSR := Lib.hid (fun w hr => iShort_any n ks HL.out Ak ck hn1 w hr st)
      rw [srT_ok (rndB_t hrn).1 (by exact inB_mk (rndB_t hrn).2.1)] at CSR
      rw [hln] at h0i h0n oT4 ⊢
      rw [htt] at oT4
      have HTE := Lib.hid htt
      have hrr := ((hrk.below bl4).more bl4.size)
      have hror := ((hro.below bl4).more bl4.size)
      have hrt := Rd.ownz oT4
      have HBL := Lib.hid bl4
      clear hrn hP htt hln h0 oT4 bl4 htl htl8 HSM HIM
      obtain ⟨wz, hwz⟩ : ∃ wz, wz = w4 := ⟨_, rfl⟩
      rw [← hwz] at hrr hror hrt HBL ⊢
      clear hwz
      go_wp2
      go_loop [7, 8, 9] (fun a u i => ∃ k : Nat, k ≤ n ∧ i = .int .i64 k ∧ a = .int .i64 (endP st (pick ks (os.take k))) ∧ u = .int .i64 (endT st (pick ks (os.take k)))) (fun _ _ i => n - (intOf i).toNat)
      case atStart => exact ⟨0, Nat.zero_le _, rfl, rfl, rfl⟩
      case round =>
        obtain ⟨k, hk, rfl, rfl, rfl⟩ := hrel
        by_cases hlt : k < n
        · obtain ⟨b4, off4, y, hA4, hb4, hy, hcy⟩ := hrt.int_ (k := k) (by rw [tmL_len, pick_len, HLO.out]; exact hlt)
          obtain ⟨b3, off3, z, hA3, hb3, hz, hcz⟩ := hror.int_ (k := k) (by rw [HLO.out]; exact hlt)
          obtain ⟨t, rfl, htm⟩ := HP.out.at_ hlt hz.out
          obtain ⟨bb, off, x, d, v, hAk, hbb, hzc, hc0, hc1, hc2⟩ := hrr.cust_ (k := t) (by rw [HL.out]; exact htm)
          obtain rfl : y = endT st (pick ks (os.take (k + 1))) := by have h1 := hy.out; rw [tm_at (by rw [HLO.out]; exact hlt)] at h1; injection h1 with h1; exact h1.symm
          obtain ⟨⟨x1, x2⟩, _⟩ := HP.out.cu htm hzc.out
          obtain ⟨p1, p2⟩ := HP.out.pos k
          obtain ⟨t1, t2⟩ := HP.out.time hk
          have hnx := HP.out.next hz.out hzc.out
          have hge := endT_mem (a := st) (mem_pick (ks := ks) hz.out)
          rw [hzc.out] at hge
          simp only at hge
          have HNX := Lib.hid hnx
          rw [hnx.2] at hcy hge
          clear hnx hz hzc hy
          subst hA4 hA3 hAk
          have HD : Hid (∀ a b : Int, dst a b = if a < b then b - a else a - b) := Lib.hid fun a b => rfl
          generalize endT st (pick ks (os.take k)) = T at *
          generalize endP st (pick ks (os.take k)) = Q at *
          rcases Int.lt_trichotomy Q x with c1 | c1 | c1
          · have e1 : dst Q x = x - Q := by rw [HD.out, if_pos c1]
            rw [e1] at hcy hge HNX
            clear e1
            have m1 : ¬ (x - Q < Q - x) := by omega
            rcases Int.lt_trichotomy st x with c2 | c2 | c2
            · have e2 : dst st x = x - st := by rw [HD.out, if_pos c2]
              rw [e2] at hge
              clear e2
              have m2 : ¬ (x - st < st - x) := by omega
              go_wp2
              go_round
              case rel => exact ⟨k + 1, by omega, by go_num, by first | (rw [HNX.out.1]; done) | (rw [HNX.out.1]; congr 1; omega), by first | (rw [HNX.out.2]; done) | (rw [HNX.out.2]; congr 1; omega)⟩
              case measure => simp [intOf]; omega
            · have e2 : dst st x = 0 := by rw [c2, dst_self]
              rw [e2] at hge
              clear e2
              have m2 : x - st = 0 := by omega
              have n2 : st - x = 0 := by omega
              clear c2
              go_wp2
              go_round
              case rel => exact ⟨k + 1, by omega, by go_num, by first | (rw [HNX.out.1]; done) | (rw [HNX.out.1]; congr 1; omega), by first | (rw [HNX.out.2]; done) | (rw [HNX.out.2]; congr 1; omega)⟩
              case measure => simp [intOf]; omega
            · have e2 : dst st x = st - x := by rw [HD.out, if_neg (by omega)]
              rw [e2] at hge
              clear e2
              have m2 : x - st < st - x := by omega
              go_wp2
              go_round
              case rel => exact ⟨k + 1, by omega, by go_num, by first | (rw [HNX.out.1]; done) | (rw [HNX.out.1]; congr 1; omega), by first | (rw [HNX.out.2]; done) | (rw [HNX.out.2]; congr 1; omega)⟩
              case measure => simp [intOf]; omega
          · have e1 : dst Q x = 0 := by rw [c1, dst_self]
            rw [e1, Int.add_zero] at hcy hge HNX
            clear e1
            have m1 : x - Q = 0 := by omega
            have n1 : Q - x = 0 := by omega
            clear c1
            rcases Int.lt_trichotomy st x with c2 | c2 | c2
            · have e2 : dst st x = x - st := by rw [HD.out, if_pos c2]
              rw [e2] at hge
              clear e2
              have m2 : ¬ (x - st < st - x) := by omega
              go_wp2
              go_round
              case rel => exact ⟨k + 1, by omega, by go_num, by first | (rw [HNX.out.1]; done) | (rw [HNX.out.1]; congr 1; omega), by first | (rw [HNX.out.2]; done) | (rw [HNX.out.2]; congr 1; omega)⟩
              case measure => simp [intOf]; omega
            · have e2 : dst st x = 0 := by rw [c2, dst_self]
              rw [e2] at hge
              clear e2
              have m2 : x - st = 0 := by omega
              have n2 : st - x = 0 := by omega
              clear c2
              go_wp2
              go_round
              case rel => exact ⟨k + 1, by omega, by go_num, by first | (rw [HNX.out.1]; done) | (rw [HNX.out.1]; congr 1; omega), by first | (rw [HNX.out.2]; done) | (rw [HNX.out.2]; congr 1; omega)⟩
              case measure => simp [intOf]; omega
            · have e2 : dst st x = st - x := by rw [HD.out, if_neg (by omega)]
              rw [e2] at hge
              clear e2
              have m2 : x - st < st - x := by omega
              go_wp2
              go_round
              case rel => exact ⟨k + 1, by omega, by go_num, by first | (rw [HNX.out.1]; done) | (rw [HNX.out.1]; congr 1; omega), by first | (rw [HNX.out.2]; done) | (rw [HNX.out.2]; congr 1; omega)⟩
              case measure => simp [intOf]; omega
          · have e1 : dst Q x = Q - x := by rw [HD.out, if_neg (by omega)]
            rw [e1] at hcy hge HNX
            clear e1
            have m1 : x - Q < Q - x := by omega
            rcases Int.lt_trichotomy st x with c2 | c2 | c2
            · have e2 : dst st x = x - st := by rw [HD.out, if_pos c2]
              rw [e2] at hge
              clear e2
              have m2 : ¬ (x - st < st - x) := by omega
              go_wp2
              go_round
              case rel => exact ⟨k + 1, by omega, by go_num, by first | (rw [HNX.out.1]; done) | (rw [HNX.out.1]; congr 1; omega), by first | (rw [HNX.out.2]; done) | (rw [HNX.out.2]; congr 1; omega)⟩
              case measure => simp [intOf]; omega
            · have e2 : dst st x = 0 := by rw [c2, dst_self]
              rw [e2] at hge
              clear e2
              have m2 : x - st = 0 := by omega
              have n2 : st - x = 0 := by omega
              clear c2
              go_wp2
              go_round
              case rel => exact ⟨k + 1, by omega, by go_num, by first | (rw [HNX.out.1]; done) | (rw [HNX.out.1]; congr 1; omega), by first | (rw [HNX.out.2]; done) | (rw [HNX.out.2]; congr 1; omega)⟩
              case measure => simp [intOf]; omega
            · have e2 : dst st x = st - x := by rw [HD.out, if_neg (by omega)]
              rw [e2] at hge
              clear e2
              have m2 : x - st < st - x := by omega
              go_wp2
              go_round
              case rel => exact ⟨k + 1, by omega, by go_num, by first | (rw [HNX.out.1]; done) | (rw [HNX.out.1]; congr 1; omega), by first | (rw [HNX.out.2]; done) | (rw [HNX.out.2]; congr 1; omega)⟩
              case measure => simp [intOf]; omega
        · have hkn : n = k := by omega
          subst hkn
          obtain ⟨b4, off4, y, hA4, hb4, hy, hcy⟩ := hrt.int_ (k := n - 1) (by rw [tmL_len, pick_len, HLO.out]; omega)
          obtain rfl : y = endT st (pick ks os) := by
            have h1 := hy.out
            rw [tm_at (by rw [HLO.out]; omega), show n - 1 + 1 = n by omega, show os.take n = os by rw [← HLO.out, List.take_length]] at h1
            injection h1 with h1; exact h1.symm
          subst hA4
          have hn1i : (n : Int) - 1 = ((n - 1 : Nat) : Int) := by omega
          obtain ⟨l1, hl1⟩ : ∃ l1, l1 = n - 1 := ⟨_, rfl⟩
          rw [← hl1] at hcy hn1i
          have hl1b : l1 < n := by omega
          have k1 := cell_regrown hcy
          have hrw : ∀ dd oo, Rd (Go.Sort.grow (redrawn wz dd) oo) (Go.Sort.grow (redrawn wz dd) oo).heap.size Ak (custV ks) := fun dd oo => (hrr.below (below_regrown wz dd oo)).more (below_regrown wz dd oo).size
          have cq : ∀ dd oo, Calls Try.prog 22 #[.slice Ak n ck, .int .i64 st] (Go.Sort.grow (redrawn wz dd) oo) fun e w'' => e = .returned (.int .i64 (srF ks st)) ∧ ∃ p : Regrown, w'' = Go.Sort.grow (redrawn wz p.d) p.os := fun dd oo => Calls.regrown_of (CSR.out _ (hrw dd oo))
          have hle := HSR.out
          clear hl1 hy hrr hror hrt hrw CSR
          generalize endT st (pick ks os) = T at *
          generalize srF ks st = Z at *
          have hw1 : IntKind.i64.wrap (l1 : Int) = (l1 : Int) := IntWalk.i64_in _ (by omega)
          go_wp2
          refine wp_region_quiet_below (by kernel_rfl) (by kernel_rfl) ?_
          repeat (go_big_quiet_step (first | exact cq _ _))
          refine wpQuiet_nil ?_
          intro w9 hw'
          have HBw9 : Below wz.heap.size wz w9 := by obtain ⟨⟨dq, osq⟩, hq⟩ := hw'; rw [hq]; exact below_regrown _ _ _
          clear hw'
          have HB9 := Lib.hid (HBL.out.trans (HBw9.mono HBL.out.size))
          clear HBw9 cq k1
          go_wp2
          go_ret
          exact ⟨rfl, b1.trans (HB9.out.mono b1.size)⟩
  · have hn' : 1048576 < cs.length := by omega
    go_enter Try.func4, Try.ntmps4
    go_wp2
    go_ret
    exact ⟨rfl, Below.refl _ _⟩

set_option maxRecDepth 100000 in
theorem lifted (os : Os) (started : os.Started) (H : Type) (enc : TypeId × Value → H) :
    ReturnsInHanded {} Try.checked os 4 .any (Rows.fnVisitTimesSpec.pre6 enc Try.prog Try.f4 Rows.fnVisitTimesRow.domain false) (Rows.fnVisitTimesSpec.post enc Try.prog Try.f4 false true false false) := by
  refine returnsInHanded_of_change (C := Try.checked) ownNone started (by kernel_rfl) Try.func4
    (ChangeSpec.witness6 (enc := enc) (C := Try.checked) false ⟨#[], #[.slice none 0 0], []⟩ 8 (by kernel_rfl) (by kernel_rfl) (by kernel_rfl) (by kernel_rfl)) ?_
  intro W base args ds gs before hval0 hW hcnd _
  have hval : ∀ (j : Nat) t v, Try.f4.params[j]? = some t → args[j]? = some v → Value.okWide Try.prog W .any base t v := hval0
  have hW' := hW
  obtain ⟨p, q, hA0, hV, rfl, _, _⟩ := hW
  have hA : DataW.TrodAll enc Try.prog W 0 (fun _ => true) true Try.f4.params.toList args.toList ds p := hA0
  rw [Try.params4] at hA hval
  obtain ⟨v0, vs0, d0, ds0, p0, q0, hargs, rfl, rfl, h0, r0⟩ := trodAll_cons hA
  obtain ⟨rfl, rfl, rfl⟩ := trodAll_nil r0
  obtain rfl : args = #[v0] := by cases args; simp_all
  obtain ⟨rfl, rfl⟩ := trodVars_none hV
  obtain ⟨Acs, ccs, cs, rfl, hrcs, hlcs, hqcs⟩ := open_rd Try.underlying22 Try.underlying5 cellsByte (hval 0 22 v0 rfl rfl) h0
  have hbcs := byte_bounds hqcs
  clear hA0 hval0
  refine (walk W cs Acs ccs hrcs hbcs hlcs).mono fun e W' ⟨he, hg⟩ => ?_
  subst he
  exact ⟨_, rfl, law_post laidOut (by kernel_rfl) rfl rfl rfl rfl rfl Try.underlying4 hW' hg⟩

/-- The statement. -/
theorem proved : Rows.FnVisitTimesSaid :=
  OpenClaim.holds_of_wide 4 Try.f4 rfl rfl rfl rfl rfl rfl rfl ⟨rfl, rfl, rfl, rfl, rfl⟩ rfl rfl rfl rfl rfl (by kernel_rfl) Try.func4 (by kernel_rfl)
    (of_decide_eq_true (by kernel_rfl)) (by unfold Func.isWrapper; first | (rw [if_pos (by decide +kernel)]; kernel_rfl) | (rw [if_neg (by decide +kernel)]; exact ⟨rfl, rfl⟩))
    (fun os started H enc _ => lifted os started H enc)
#print axioms proved
end fnVisitTimes

end Go.Proofs.Ytjjddamblijffaa

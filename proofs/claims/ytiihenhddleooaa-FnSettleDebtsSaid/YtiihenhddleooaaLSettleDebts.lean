/- The law FnSettleDebts: for every code it answers true, and the code reads as it read before. No condition. -/
import Derived.Test.YtiihenhddleooaaTLawF
import Derived.Test.YtiihenhddleooaaTLawD
import Derived.Test.YtiihenhddleooaaLaw
namespace Go.Proofs.Ytiihenhddleooaa
open Go.RowKit
set_option linter.unusedVariables false
set_option linter.unusedSimpArgs false

namespace fnSettleDebts
open Go.ChangeShapes Go.WideShapes Go.ChangeAt Go.RowKit
set_option maxRecDepth 100000 in
set_option maxHeartbeats 800000 in
set_option maxRecDepth 100000 in
set_option maxRecDepth 100000 in
set_option maxHeartbeats 8000000 in
theorem walk (w : World) (cs : List Int) (Acs : Option Addr) (ccs : Nat) (hrcs : Rd w w.heap.size Acs (bytes cs)) (hbcs : ∀ z ∈ cs, 0 ≤ z ∧ z ≤ 255) (hlcs : cs.length ≤ ccs ∧ ccs ≤ maxLen) :
    Calls Try.prog 5 #[.slice Acs cs.length ccs] w fun e w' => e = .returned (.bool true) ∧ Below w.heap.size w w' := by
  by_cases hn : cs.length ≤ 1048576
  · go_enter Try.func5, Try.ntmps5
    go_wp2_with fail
    refine (dSettleDebts _ _ _ _ hrcs hbcs hlcs.1 hlcs.2).mono ?_
    rintro e w1 ⟨ks, Ak, ck, rfl, ⟨hkl, hkc, hkm, hrk⟩, b1⟩
    obtain ⟨n, hn0⟩ : ∃ n, ks.length = n := ⟨_, rfl⟩
    rw [hn0] at hkl hkc ⊢
    have HL := Lib.hid hn0
    clear hn0
    have hn1 : n ≤ maxLen := by unfold maxLen; omega
    obtain ⟨ts, hts⟩ : ∃ ts, ts = setT ks := ⟨_, rfl⟩
    have htl : ts.length ≤ 1048576 := by rw [hts]; exact Nat.le_trans (setT_le _) (by omega)
    have HTS := Lib.hid hts
    clear hts
    have HI : Hid (∀ w, Rd w w.heap.size Ak (custV ks) → Calls Try.prog 24 #[.slice Ak n ck] w (OutT 31 ts w)) := Lib.hid fun w hr => by rw [HTS.out]; exact iSet_any n ks HL.out Ak ck hn1 w hr
    have HS : Hid (∀ w, Rd w w.heap.size Ak (custV ks) → Calls Try.prog 26 #[.slice Ak n ck] w (OutT 31 ts w)) := Lib.hid fun w hr => by rw [HTS.out]; exact sSet_any n ks HL.out Ak ck hn1 w hr
    go_wp2_with fail
    refine (HI.out w1 hrk).mono ?_
    rintro e w2 ⟨AG, cG, rfl, oG2, b2⟩
    have z2 := b2.size
    have bl2 : Below w1.heap.size w1 w2 := (Below.refl w1.heap.size w1).trans (b2.mono (Nat.le_refl _))
    have HIG := Lib.hid (owz_in oG2)
    clear b2
    go_wp2_with fail
    refine (HS.out w2 ((hrk.below bl2).more bl2.size)).mono ?_
    rintro e w3 ⟨AS, cS, rfl, oS3, b3⟩
    have z3 := b3.size
    have bl3 : Below w1.heap.size w1 w3 := bl2.trans (b3.mono bl2.size)
    have oG3 := owz_below oG2 b3
    have HIS := Lib.hid (owz_in oS3)
    clear oG2 bl2 b3
    go_wp2_with fail
    refine (eqDb_k _ ts rfl _ _ _ _ w3 w3.heap.size (Rd.ownz oG3) (Rd.ownz oS3) htl).mono ?_
    rintro e w4 ⟨rfl, b4⟩
    have z4 := b4.size
    have bl4 : Below w1.heap.size w1 w4 := bl3.trans (b4.mono bl3.size)
    have oG4 := owz_below oG3 b4
    have oS4 := owz_below oS3 b4
    clear oG3 oS3 bl3 b4
    clear oS4
    by_cases h0 : ts.length = 0
    · obtain ⟨l, hl⟩ : ∃ l, l = ts.length := ⟨_, rfl⟩
      have hlb : ((ts.length : Int) == 0) = true := beq_iff_eq.2 (by omega)
      clear h0 hl
      go_wp2_with fail
      refine (HS.out w4 ((hrk.below bl4).more bl4.size)).mono ?_
      rintro e w5 ⟨AS2, cS2, rfl, oS5, b5⟩
      have z5 := b5.size
      have bl5 : Below w1.heap.size w1 w5 := bl4.trans (b5.mono bl4.size)
      have oG5 := owz_below oG4 b5
      have HIS := Lib.hid (owz_in oS5)
      clear oG4 bl4 b5
      go_wp2_with fail
      refine (eqDb_k _ ts rfl _ _ _ _ w5 w5.heap.size (Rd.ownz oG5) (Rd.ownz oS5) htl).mono ?_
      rintro e w6 ⟨rfl, b6⟩
      have z6 := b6.size
      have bl6 : Below w1.heap.size w1 w6 := bl5.trans (b6.mono bl5.size)
      have oG6 := owz_below oG5 b6
      have oS6 := owz_below oS5 b6
      clear oG5 oS5 bl5 b6
      go_wp2
      go_ret
      exact ⟨rfl, b1.trans (bl6.mono b1.size)⟩
    · have hv : okV dbV ks = true := by
        cases h : okV dbV ks
        · exfalso
          apply h0
          rw [HTS.out, setT_no h]; rfl
        · rfl
      have h0i : ((ts.length : Int) == 0) = false := beq_eq_false_iff_ne.2 (by omega)
      have h0n : ¬ (ts.length : Int) = 0 := by omega
      have hstl := stl_of hv (by rw [← HTS.out]; omega)
      rw [← HTS.out] at hstl
      obtain ⟨L, hL⟩ : ∃ L, L = ts.length := ⟨_, rfl⟩
      rw [← hL] at hstl h0i h0n oG4 ⊢
      have HSTL := Lib.hid hstl
      have hL8 := hstl.le
      have HLT := Lib.hid hL.symm
      have HBI : Hid (∀ w, Rd w w.heap.size Ak (custV ks) → Calls Try.prog 19 #[.slice Ak n ck] w (OutI (balL ks) w)) := Lib.hid fun w hr => by rw [← balT_ok hv]; exact iBal_any n ks HL.out Ak ck hn1 w hr
      have HBL8 := Lib.hid (balL_len ks)
      generalize balL ks = B at *
      clear hstl hL hv HI HS h0 htl HTS
      go_wp2_with fail
      refine (HBI.out w4 ((hrk.below bl4).more bl4.size)).mono ?_
      rintro e w5 ⟨AW, cW, rfl, oW5, b5⟩
      have z5 := b5.size
      have bl5 : Below w1.heap.size w1 w5 := bl4.trans (b5.mono bl4.size)
      have oG5 := owz_below oG4 b5
      have HIW := Lib.hid (owz_in oW5)
      clear oG4 bl4 b5
      rw [HBL8.out] at oW5 ⊢
      obtain ⟨wz, hwz⟩ : ∃ wz, wz = w5 := ⟨_, rfl⟩
      have HBL := Lib.hid bl5
      rw [← hwz] at oW5 oG5 HBL ⊢
      have hrW := Rd.own oW5
      have hrG := Rd.ownz oG5
      clear oW5 oG5 bl5 hwz HBI hrk
      have hmk := run_make_row' (P := Try.prog) 27 3 (.int .i64 0) 8 Try.underlying27 info_int rfl .i64 .i64 8 (by omega) (by omega)
      rw [show ((8 : Nat) : Int) = 8 from rfl] at hmk
      have HS : Hid (∀ (p : Int) (k : Nat), k < L → balR p (ts.take (k + 1)) = balR p (ts.take k) + ((if (cuA ts k).2.1 = p then (cuA ts k).2.2 else 0) - (if (cuA ts k).1 = p then (cuA ts k).2.2 else 0))) := Lib.hid fun p k hk => balR_step p (by rw [HLT.out]; exact hk)
      go_wp2
      go_loopw [7] (fun i wr => ∃ k : Nat, k ≤ L ∧ i = .int .i64 k ∧ wr.rowIs wz.heap.size 3 8 (fun p => .int .i64 (balR (p : Int) (ts.take k))) ∧ Below wz.heap.size wz wr ∧ wz.heap.size < wr.heap.size) (fun i _ => L - (intOf i).toNat)
      case atStart => exact ⟨0, Nat.zero_le _, rfl, World.rowIs_made wz (.int .i64 0) 8 3, (Below.refl _ _).alloc (Nat.le_refl _) _, by simp⟩
      case round =>
        obtain ⟨k, hk, rfl, hrow, hbel, hsz⟩ := hrel
        by_cases hlt : k < L
        · obtain ⟨b2, off, x, d, v, rfl, hb2, hz, hc0, hc1, hc2⟩ := (hrG.below hbel).cust_ (k := k) (by rw [HLT.out]; exact hlt)
          obtain ⟨p, q, a, hpa, hp, hq, hpq, hwf, hwt, v1, v2⟩ := HSTL.out.one k hlt
          rw [hz.out] at hpa
          obtain ⟨rfl, rfl, rfl⟩ : x = (p : Int) ∧ d = (q : Int) ∧ v = a := by injection hpa with h1 h2; injection h2 with h2 h3; exact ⟨h1, h2, h3⟩
          obtain ⟨b5, off5, yf, rfl, hb5, hyf, hcf⟩ := (hrW.below hbel).int_ (k := p) (by rw [HBL8.out]; exact hp)
          obtain ⟨b6, off6, yt, e7, hb6, hyt, hct⟩ := (hrW.below hbel).int_ (k := q) (by rw [HBL8.out]; exact hq)
          injection e7 with e7
          injection e7 with e8 e9
          subst e8 e9
          rw [at_of hyf.out] at hwf
          rw [at_of hyt.out] at hwt
          have g1 : decide (yf ≥ 0) = false := decide_eq_false (by omega)
          have g2 : decide (yt ≤ 0) = false := decide_eq_false (by omega)
          have g3 : decide (v < 1) = false := decide_eq_false (by omega)
          have hqp : ¬ q = p := fun e => hpq e.symm
          have bp := HSTL.out.bd (p : Int) k hk
          have bq := HSTL.out.bd (q : Int) k hk
          have k1 := hrow.cell hp
          have f1 := hrow.frozen p
          have hs1 := (hrow.set p (.int .i64 (balR (p : Int) (ts.take k) - v))).congr (g := fun i : Nat => .int .i64 (balR (i : Int) (ts.take k) - (if i = p then v else 0))) fun i hi => by
            by_cases e : i = p
            · subst e; simp
            · simp [e]
          have k2 := hs1.cell hq
          rw [if_neg hqp, Int.sub_zero] at k2
          have f2 := hs1.frozen q
          have hs2 := (hs1.set q (.int .i64 (balR (q : Int) (ts.take k) + v))).congr (g := fun i : Nat => .int .i64 (balR (i : Int) (ts.take (k + 1)))) fun i hi => by
            have hst := HS.out (i : Int) k hlt
            rw [hz.out] at hst
            simp only at hst
            rw [hst]
            have e1 : (if (q : Int) = (i : Int) then v else 0) = if i = q then v else 0 := by
              by_cases e : i = q
              · rw [if_pos e, if_pos (by omega)]
              · rw [if_neg e, if_neg (by omega)]
            have e2 : (if (p : Int) = (i : Int) then v else 0) = if i = p then v else 0 := by
              by_cases e : i = p
              · rw [if_pos e, if_pos (by omega)]
              · rw [if_neg e, if_neg (by omega)]
            rw [e1, e2]
            by_cases e : i = q
            · subst e
              simp [hqp]
            · by_cases e2 : i = p
              · subst e2
                simp [hpq]
                omega
              · simp [e, e2]
          have hbs := (hbel.setCell (p := ⟨wz.heap.size, p, none⟩) (Nat.le_refl _) (.int .i64 (balR (p : Int) (ts.take k) - v))).setCell (p := ⟨wz.heap.size, q, none⟩) (Nat.le_refl _) (.int .i64 (balR (q : Int) (ts.take k) + v))
          have HST := Lib.hid (And.intro hs2 hbs)
          obtain ⟨bp1, bp2⟩ := bp
          obtain ⟨bq1, bq2⟩ := bq
          generalize balR (p : Int) (ts.take k) = P at *
          generalize balR (q : Int) (ts.take k) = Q at *
          have hne : ¬ wz.heap.size = b2 := by omega
          have hne2 : ¬ b2 = wz.heap.size := by omega
          have hne5 : ¬ wz.heap.size = b5 := by omega
          have hne6 : ¬ b5 = wz.heap.size := by omega
          clear hs1 hs2 hrow hbel hbs hz hyf hyt hpa
          go_wp2
          go_region
          go_wp2
          go_region
          go_wp2
          go_roundw
          case rel => exact ⟨k + 1, by omega, by go_num, HST.out.1, below_drewN HST.out.2 2, by simp; omega⟩
          case measure => first | (simp [intOf]; omega) | simp [intOf]
        · obtain rfl : k = L := by omega
          have hoN := own_of_row hrow (xs := ints B) (by rw [ints_length, HBL8.out]) (fun i hi => by
            have : ts.take k = ts := by rw [← HLT.out, List.take_length]
            rw [this, HSTL.out.bal i hi, ints, List.getElem?_map, of_at (by rw [HBL8.out]; exact hi)]; rfl) (Nat.le_refl _) (by unfold maxLen; omega)
          have hrW2 := (hrW.below hbel).more hbel.size
          have hrN := Rd.own hoN
          have HB2 := Lib.hid (HBL.out.trans (hbel.mono HBL.out.size))
          have HFEW := Lib.hid HSTL.out.few
          have hnz := nzF_le B
          rw [HBL8.out] at hnz
          have HALL : Hid (nzF (B.take 8) = nzF B) := Lib.hid (by rw [← HBL8.out, List.take_length])
          obtain ⟨wy, hwy⟩ : ∃ wy, wy = wr := ⟨_, rfl⟩
          rw [← hwy] at hrW2 hrN HB2 ⊢
          clear hwy hrow hbel hoN hrW hrG HS HSTL HLT
          go_wp2
          go_loop [8, 9] (fun s i => ∃ j m : Nat, j ≤ 8 ∧ i = .int .i64 j ∧ s = .int .i64 m ∧ m = nzF (B.take j)) (fun _ i => 8 - (intOf i).toNat)
          case atStart => exact ⟨0, 0, by omega, rfl, rfl, rfl⟩
          case round =>
            obtain ⟨j, m, hj, rfl, rfl, hm⟩ := hrel
            by_cases hj8 : j < 8
            · obtain ⟨b7, off7, y, rfl, hb7, hy, hcy⟩ := hrW2.int_ (k := j) (by rw [HBL8.out]; exact hj8)
              have hst := nzF_snoc B hy.out
              rw [← hm] at hst
              have hmj : m ≤ j := by rw [hm]; exact Nat.le_trans (nzF_le _) (by rw [List.length_take]; omega)
              clear hm hy
              by_cases hy0 : y = 0
              · subst hy0
                have HM : Hid (m = nzF (B.take (j + 1))) := Lib.hid (by rw [hst]; simp)
                clear hst
                go_wp2
                go_round
                case rel => exact ⟨j + 1, m, by omega, by go_num, rfl, HM.out⟩
                case measure => first | (simp [intOf]; omega) | simp [intOf]
              · have hyb : (y == 0) = false := beq_eq_false_iff_ne.2 hy0
                obtain ⟨m1, hm1⟩ : ∃ m1, m1 = m + 1 := ⟨_, rfl⟩
                have e1 : (m : Int) + 1 = (m1 : Int) := by omega
                have HM : Hid (m1 = nzF (B.take (j + 1))) := Lib.hid (by rw [hst, if_neg hy0, hm1])
                clear hst hm1
                go_wp2
                go_round
                case rel => exact ⟨j + 1, m1, by omega, by go_num, by go_num, HM.out⟩
                case measure => first | (simp [intOf]; omega) | simp [intOf]
            · obtain rfl : j = 8 := by omega
              rw [HALL.out] at hm
              have hfew := HFEW.out
              rw [← hm] at hfew
              have hfi : decide ((k : Int) < (m : Int)) = true := decide_eq_true (by omega)
              have CE := eqT_k B (some ⟨wz.heap.size, 0, none⟩) AW 8 cW wy _ hrN hrW2 (by rw [HBL8.out]; omega)
              rw [HBL8.out] at CE
              have CE := Lib.hid CE
              clear hm hrN hrW2
              go_wp2_with fail
              refine (CE.out).mono ?_
              rintro e w9 ⟨rfl, b9⟩
              have HB9 := Lib.hid (HB2.out.trans (b9.mono HB2.out.size))
              clear b9
              go_wp2
              go_ret
              exact ⟨rfl, b1.trans (HB9.out.mono b1.size)⟩
  · have hn' : 1048576 < cs.length := by omega
    go_enter Try.func5, Try.ntmps5
    go_wp2
    go_ret
    exact ⟨rfl, Below.refl _ _⟩

set_option maxRecDepth 100000 in
theorem lifted (os : Os) (started : os.Started) (H : Type) (enc : TypeId × Value → H) :
    ReturnsInHanded {} Try.checked os 5 .any (Rows.fnSettleDebtsSpec.pre6 enc Try.prog Try.f5 Rows.fnSettleDebtsRow.domain false) (Rows.fnSettleDebtsSpec.post enc Try.prog Try.f5 false true false false) := by
  refine returnsInHanded_of_change (C := Try.checked) ownNone started (by kernel_rfl) Try.func5
    (ChangeSpec.witness6 (enc := enc) (C := Try.checked) false ⟨#[], #[.slice none 0 0], []⟩ 8 (by kernel_rfl) (by kernel_rfl) (by kernel_rfl) (by kernel_rfl)) ?_
  intro W base args ds gs before hval0 hW hcnd _
  have hval : ∀ (j : Nat) t v, Try.f5.params[j]? = some t → args[j]? = some v → Value.okWide Try.prog W .any base t v := hval0
  have hW' := hW
  obtain ⟨p, q, hA0, hV, rfl, _, _⟩ := hW
  have hA : DataW.TrodAll enc Try.prog W 0 (fun _ => true) true Try.f5.params.toList args.toList ds p := hA0
  rw [Try.params5] at hA hval
  obtain ⟨v0, vs0, d0, ds0, p0, q0, hargs, rfl, rfl, h0, r0⟩ := trodAll_cons hA
  obtain ⟨rfl, rfl, rfl⟩ := trodAll_nil r0
  obtain rfl : args = #[v0] := by cases args; simp_all
  obtain ⟨rfl, rfl⟩ := trodVars_none hV
  obtain ⟨Acs, ccs, cs, rfl, hrcs, hlcs, hqcs⟩ := open_rd Try.underlying22 Try.underlying5 cellsByte (hval 0 22 v0 rfl rfl) h0
  have hbcs := byte_bounds hqcs
  clear hA0 hval0
  refine (walk W cs Acs ccs hrcs hbcs hlcs).mono fun e W' ⟨he, hg⟩ => ?_
  subst he
  exact ⟨_, rfl, law_post laidOut (by kernel_rfl) rfl rfl rfl rfl rfl Try.underlying4 hW' hg⟩

/-- The statement. -/
theorem proved : Rows.FnSettleDebtsSaid :=
  OpenClaim.holds_of_wide 5 Try.f5 rfl rfl rfl rfl rfl rfl rfl ⟨rfl, rfl, rfl, rfl, rfl⟩ rfl rfl rfl rfl rfl (by kernel_rfl) Try.func5 (by kernel_rfl)
    (of_decide_eq_true (by kernel_rfl)) (by unfold Func.isWrapper; first | (rw [if_pos (by decide +kernel)]; kernel_rfl) | (rw [if_neg (by decide +kernel)]; exact ⟨rfl, rfl⟩))
    (fun os started H enc _ => lifted os started H enc)
#print axioms proved
end fnSettleDebts

end Go.Proofs.Ytiihenhddleooaa

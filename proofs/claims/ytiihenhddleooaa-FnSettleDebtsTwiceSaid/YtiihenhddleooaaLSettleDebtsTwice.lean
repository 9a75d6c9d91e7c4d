/- The law FnSettleDebtsTwice: for every code it answers true, and the code reads as it read before. No condition. -/
import Derived.Test.YtiihenhddleooaaTLawS
import Derived.Test.YtiihenhddleooaaTLawD
import Derived.Test.YtiihenhddleooaaLaw
namespace Go.Proofs.Ytiihenhddleooaa
open Go.RowKit
set_option linter.unusedVariables false
set_option linter.unusedSimpArgs false

namespace fnSettleDebtsTwice
open Go.ChangeShapes Go.WideShapes Go.ChangeAt Go.RowKit
set_option maxRecDepth 100000 in
set_option maxHeartbeats 800000 in
set_option maxRecDepth 100000 in
set_option maxRecDepth 100000 in
set_option maxHeartbeats 8000000 in
theorem walk (w : World) (cs : List Int) (Acs : Option Addr) (ccs : Nat) (hrcs : Rd w w.heap.size Acs (bytes cs)) (hbcs : ∀ z ∈ cs, 0 ≤ z ∧ z ≤ 255) (hlcs : cs.length ≤ ccs ∧ ccs ≤ maxLen) :
    Calls Try.prog 6 #[.slice Acs cs.length ccs] w fun e w' => e = .returned (.bool true) ∧ Below w.heap.size w w' := by
  by_cases hn : cs.length ≤ 1048576
  · go_enter Try.func6, Try.ntmps6
    go_wp2_with fail
    refine (dSettleDebts _ _ _ _ hrcs hbcs hlcs.1 hlcs.2).mono ?_
    rintro e w1 ⟨ks, Ak, ck, rfl, ⟨hkl, hkc, hkm, hrk⟩, b1⟩
    obtain ⟨n, hn0⟩ : ∃ n, ks.length = n := ⟨_, rfl⟩
    rw [hn0] at hkl hkc ⊢
    have HL := Lib.hid hn0
    clear hn0
    have hn1 : n ≤ maxLen := by unfold maxLen; omega
    obtain ⟨ts, hts⟩ : ∃ ts, ts = setT ks := ⟨_, rfl⟩
    have htl : ts.length ≤ 1048576 := by rw [hts]; exact Nat.le_trans (setT_le _) (by omega)
    have HTS := Lib.hid hts
    clear hts
    have HI : Hid (∀ w, Rd w w.heap.size Ak (custV ks) → Calls Try.prog 24 #[.slice Ak n ck] w (OutT 31 ts w)) := Lib.hid fun w hr => by rw [HTS.out]; exact iSet_any n ks HL.out Ak ck hn1 w hr
    have HS : Hid (∀ w, Rd w w.heap.size Ak (custV ks) → Calls Try.prog 26 #[.slice Ak n ck] w (OutT 31 ts w)) := Lib.hid fun w hr => by rw [HTS.out]; exact sSet_any n ks HL.out Ak ck hn1 w hr
    go_wp2_with fail
    refine (HI.out w1 hrk).mono ?_
    rintro e w2 ⟨AG, cG, rfl, oG2, b2⟩
    have z2 := b2.size
    have bl2 : Below w1.heap.size w1 w2 := (Below.refl w1.heap.size w1).trans (b2.mono (Nat.le_refl _))
    have HIG := Lib.hid (owz_in oG2)
    clear b2
    go_wp2_with fail
    refine (HS.out w2 ((hrk.below bl2).more bl2.size)).mono ?_
    rintro e w3 ⟨AS, cS, rfl, oS3, b3⟩
    have z3 := b3.size
    have bl3 : Below w1.heap.size w1 w3 := bl2.trans (b3.mono bl2.size)
    have oG3 := owz_below oG2 b3
    have HIS := Lib.hid (owz_in oS3)
    clear oG2 bl2 b3
    go_wp2_with fail
    refine (eqDb_k _ ts rfl _ _ _ _ w3 w3.heap.size (Rd.ownz oG3) (Rd.ownz oS3) htl).mono ?_
    rintro e w4 ⟨rfl, b4⟩
    have z4 := b4.size
    have bl4 : Below w1.heap.size w1 w4 := bl3.trans (b4.mono bl3.size)
    have oG4 := owz_below oG3 b4
    have oS4 := owz_below oS3 b4
    clear oG3 oS3 bl3 b4
    clear oS4
    have HV : Hid (∀ w, Rd w w.heap.size Ak (custV ks) → Calls Try.prog 16 #[.slice Ak n ck] w fun e w' => e = .returned (.bool (okV dbV ks)) ∧ Below w.heap.size w w') := Lib.hid fun w hr => iVDb_any n ks HL.out Ak ck hn1 w hr
    cases hv : okV dbV ks
    · rw [hv] at HV
      go_wp2_with fail
      refine (HV.out w4 ((hrk.below bl4).more bl4.size)).mono ?_
      rintro e w5 ⟨rfl, b5⟩
      have z5 := b5.size
      have bl5 : Below w1.heap.size w1 w5 := bl4.trans (b5.mono bl4.size)
      have oG5 := owz_below oG4 b5
      clear oG4 bl4 b5
      go_wp2_with fail
      refine (HS.out w5 ((hrk.below bl5).more bl5.size)).mono ?_
      rintro e w6 ⟨AS2, cS2, rfl, oS6, b6⟩
      have z6 := b6.size
      have bl6 : Below w1.heap.size w1 w6 := bl5.trans (b6.mono bl5.size)
      have oG6 := owz_below oG5 b6
      have HIS := Lib.hid (owz_in oS6)
      clear oG5 bl5 b6
      go_wp2_with fail
      refine (eqDb_k _ ts rfl _ _ _ _ w6 w6.heap.size (Rd.ownz oG6) (Rd.ownz oS6) htl).mono ?_
      rintro e w7 ⟨rfl, b7⟩
      have z7 := b7.size
      have bl7 : Below w1.heap.size w1 w7 := bl6.trans (b7.mono bl6.size)
      have oG7 := owz_below oG6 b7
      have oS7 := owz_below oS6 b7
      clear oG6 oS6 bl6 b7
      go_wp2
      go_ret
      exact ⟨rfl, b1.trans (bl7.mono b1.size)⟩
    · rw [hv] at HV
      go_wp2_with fail
      refine (HV.out w4 ((hrk.below bl4).more bl4.size)).mono ?_
      rintro e w5 ⟨rfl, b5⟩
      have z5 := b5.size
      have bl5 : Below w1.heap.size w1 w5 := bl4.trans (b5.mono bl4.size)
      have oG5 := owz_below oG4 b5
      clear oG4 bl4 b5
      have HTW : Hid (okV dbV ts = true → setT ts = ts) := Lib.hid fun h => by rw [HTS.out] at h ⊢; exact setT_twice hv h
      have htl8 : ts.length ≤ 8 := by rw [HTS.out]; exact setT_le _
      obtain ⟨L, hL⟩ : ∃ L, L = ts.length := ⟨_, rfl⟩
      rw [← hL] at oG5 htl8 ⊢
      have HLT := Lib.hid hL.symm
      have hLm : L ≤ maxLen := by unfold maxLen; omega
      obtain ⟨wz, hwz⟩ : ∃ wz, wz = w5 := ⟨_, rfl⟩
      have HBL := Lib.hid bl5
      rw [← hwz] at oG5 HBL ⊢
      have HG := Lib.hid oG5
      clear oG5 bl5 hwz HI HS HV hrk hv hL htl
      obtain ⟨wr, hwr⟩ : ∃ wr, wr = wz.alloc (.cells (custV ringL).toArray 31) := ⟨_, rfl⟩
      have hrr : Rd wr wr.heap.size (some ⟨wz.heap.size, 0, none⟩) (custV ringL) := by rw [hwr]; exact rd_newT (alloc_at rfl)
      have hbr : Below wz.heap.size wz wr := by rw [hwr]; exact (Below.refl _ _).alloc (Nat.le_refl _) _
      have HG2 := Lib.hid (owz_below HG.out hbr)
      have CV := Lib.hid (iVDb_any L ts HLT.out AG cG hLm wr (Rd.ownz HG2.out))
      have HWR : Hid (wz.alloc (.cells #[.int .i64 0, .int .i64 1, .int .i64 7, .int .i64 1, .int .i64 2, .int .i64 7, .int .i64 2, .int .i64 0, .int .i64 7] 31) = wr) := Lib.hid (by rw [hwr]; rfl)
      clear hwr
      go_wp2_with fail
      rw [HWR.out]
      refine CV.out.mono ?_
      rintro e w5 ⟨rfl, b5⟩
      have hb5 := hbr.trans (b5.mono hbr.size)
      have hrr5 := (hrr.below b5).more b5.size
      have HG5 := Lib.hid (owz_below HG2.out b5)
      clear b5 hrr
      have CR : Hid (∀ w, Rd w w.heap.size (some ⟨wz.heap.size, 0, none⟩) (custV ringL) → Calls Try.prog 24 #[.slice (some ⟨wz.heap.size, 0, none⟩) 3 3] w (OutT 31 [] w)) := Lib.hid fun w hr => by rw [← ring_set]; exact iSet_any 3 ringL rfl _ 3 (by unfold maxLen; omega) w hr
      cases hq : okV dbV ts
      · have CR2 := Lib.hid (CR.out w5 hrr5)
        rw [hq] at CV
        go_wp2_with fail
        refine (CR2.out).mono ?_
        rintro e w6 ⟨A6, c6, rfl, o6, b6⟩
        have HB6 := Lib.hid (HBL.out.trans ((hb5.trans (b6.mono hb5.size)).mono HBL.out.size))
        clear o6 b6
        go_wp2
        go_ret
        exact ⟨rfl, b1.trans (HB6.out.mono b1.size)⟩
      · have CS : Hid (Calls Try.prog 24 #[.slice AG L cG] w5 (OutT 31 ts w5)) := Lib.hid (by
          have := iSet_any L ts HLT.out AG cG hLm w5 (Rd.ownz HG5.out)
          rwa [HTW.out hq] at this)
        clear hq
        go_wp2_with fail
        refine (CS.out).mono ?_
        rintro e w6 ⟨A6, c6, rfl, o6, b6⟩
        rw [HLT.out] at o6 ⊢
        have hG6 := owz_below HG5.out b6
        have CE := Lib.hid (eqDb_k L ts HLT.out A6 AG c6 cG w6 _ (Rd.ownz o6) (Rd.ownz hG6) (by omega))
        have hrr6 := (hrr5.below b6).more b6.size
        have hb6 := hb5.trans (b6.mono hb5.size)
        clear o6 b6 hG6
        go_wp2_with fail
        refine (CE.out).mono ?_
        rintro e w7 ⟨rfl, b7⟩
        have hrr7 := (hrr6.below b7).more b7.size
        have hb7 := hb6.trans (b7.mono hb6.size)
        clear b7
        have CR2 := Lib.hid (CR.out w7 hrr7)
        go_wp2_with fail
        refine (CR2.out).mono ?_
        rintro e w8 ⟨A8, c8, rfl, o8, b8⟩
        have HB8 := Lib.hid (HBL.out.trans ((hb7.trans (b8.mono hb7.size)).mono HBL.out.size))
        clear o8 b8
        go_wp2
        go_ret
        exact ⟨rfl, b1.trans (HB8.out.mono b1.size)⟩
  · have hn' : 1048576 < cs.length := by omega
    go_enter Try.func6, Try.ntmps6
    go_wp2
    go_ret
    exact ⟨rfl, Below.refl _ _⟩

set_option maxRecDepth 100000 in
theorem lifted (os : Os) (started : os.Started) (H : Type) (enc : TypeId × Value → H) :
    ReturnsInHanded {} Try.checked os 6 .any (Rows.fnSettleDebtsTwiceSpec.pre6 enc Try.prog Try.f6 Rows.fnSettleDebtsTwiceRow.domain false) (Rows.fnSettleDebtsTwiceSpec.post enc Try.prog Try.f6 false true false false) := by
  refine returnsInHanded_of_change (C := Try.checked) ownNone started (by kernel_rfl) Try.func6
    (ChangeSpec.witness6 (enc := enc) (C := Try.checked) false ⟨#[], #[.slice none 0 0], []⟩ 8 (by kernel_rfl) (by kernel_rfl) (by kernel_rfl) (by kernel_rfl)) ?_
  intro W base args ds gs before hval0 hW hcnd _
  have hval : ∀ (j : Nat) t v, Try.f6.params[j]? = some t → args[j]? = some v → Value.okWide Try.prog W .any base t v := hval0
  have hW' := hW
  obtain ⟨p, q, hA0, hV, rfl, _, _⟩ := hW
  have hA : DataW.TrodAll enc Try.prog W 0 (fun _ => true) true Try.f6.params.toList args.toList ds p := hA0
  rw [Try.params6] at hA hval
  obtain ⟨v0, vs0, d0, ds0, p0, q0, hargs, rfl, rfl, h0, r0⟩ := trodAll_cons hA
  obtain ⟨rfl, rfl, rfl⟩ := trodAll_nil r0
  obtain rfl : args = #[v0] := by cases args; simp_all
  obtain ⟨rfl, rfl⟩ := trodVars_none hV
  obtain ⟨Acs, ccs, cs, rfl, hrcs, hlcs, hqcs⟩ := open_rd Try.underlying22 Try.underlying5 cellsByte (hval 0 22 v0 rfl rfl) h0
  have hbcs := byte_bounds hqcs
  clear hA0 hval0
  refine (walk W cs Acs ccs hrcs hbcs hlcs).mono fun e W' ⟨he, hg⟩ => ?_
  subst he
  exact ⟨_, rfl, law_post laidOut (by kernel_rfl) rfl rfl rfl rfl rfl Try.underlying4 hW' hg⟩

/-- The statement. -/
theorem proved : Rows.FnSettleDebtsTwiceSaid :=
  OpenClaim.holds_of_wide 6 Try.f6 rfl rfl rfl rfl rfl rfl rfl ⟨rfl, rfl, rfl, rfl, rfl⟩ rfl rfl rfl rfl rfl (by kernel_rfl) Try.func6 (by kernel_rfl)
    (of_decide_eq_true (by kernel_rfl)) (by unfold Func.isWrapper; first | (rw [if_pos (by decide +kernel)]; kernel_rfl) | (rw [if_neg (by decide +kernel)]; exact ⟨rfl, rfl⟩))
    (fun os started H enc _ => lifted os started H enc)
#print axioms proved
end fnSettleDebtsTwice

end Go.Proofs.Ytiihenhddleooaa

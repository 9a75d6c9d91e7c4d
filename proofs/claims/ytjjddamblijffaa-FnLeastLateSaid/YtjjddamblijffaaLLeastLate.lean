/- The law FnLeastLate: for every code it answers true, and the code reads as it read before. No condition. -/
import Derived.Test.YtjjddamblijffaaKLaw
import Derived.Test.YtjjddamblijffaaKHelp
import Derived.Test.YtjjddamblijffaaKSwap
import Derived.Test.YtjjddamblijffaaKLawD
import Derived.Test.YtjjddamblijffaaLaw
namespace Go.Proofs.Ytjjddamblijffaa
open Go.RowKit
set_option linter.unusedVariables false
set_option linter.unusedSimpArgs false

namespace fnLeastLate
open Go.ChangeShapes Go.WideShapes Go.ChangeAt Go.RowKit
set_option maxRecDepth 100000 in
set_option maxHeartbeats 800000 in
set_option maxRecDepth 100000 in
set_option maxRecDepth 100000 in
set_option maxHeartbeats 8000000 in
theorem walk (w : World) (cs : List Int) (Acs : Option Addr) (ccs : Nat) (hrcs : Rd w w.heap.size Acs (bytes cs)) (hbcs : ∀ z ∈ cs, 0 ≤ z ∧ z ≤ 255) (hlcs : cs.length ≤ ccs ∧ ccs ≤ maxLen) :
    Calls Try.prog 6 #[.slice Acs cs.length ccs] w fun e w' => e = .returned (.bool true) ∧ Below w.heap.size w w' := by
  by_cases hn : cs.length ≤ 1048576
  · go_enter Try.func6, Try.ntmps6
    go_wp2_with fail
    refine (dLeastLate _ _ _ _ hrcs hbcs hlcs.1 hlcs.2).mono ?_
    rintro e w1 ⟨ks, Ak, ck, st, rfl, ⟨hkl, hkc, hkm, hrk⟩, hst, b1⟩
    obtain ⟨i0, hi, hz0, hz1, hz2⟩ := info_parts info_int
    obtain ⟨n, hn0⟩ : ∃ n, ks.length = n := ⟨_, rfl⟩
    rw [hn0] at hkl hkc ⊢
    have HL := Lib.hid hn0
    clear hn0
    have hn1 : n ≤ maxLen := by unfold maxLen; omega
    have HSM : Hid (∀ w, Rd w w.heap.size Ak (custV ks) → Calls Try.prog 28 #[.slice Ak n ck, .int .i64 st] w (OutI (leastT ks st) w)) := Lib.hid fun w hr => sLeast_any n ks HL.out Ak ck hn1 w hr st
    have HIM : Hid (∀ w, Rd w w.heap.size Ak (custV ks) → Calls Try.prog 27 #[.slice Ak n ck, .int .i64 st] w (OutI (leastT ks st) w)) := Lib.hid fun w hr => iLeast_any n ks HL.out Ak ck hn1 w hr st
    obtain ⟨ts, hts⟩ : ∃ ts, ts = leastT ks st := ⟨_, rfl⟩
    have htl8 : ts.length ≤ 8 := by rw [hts]; exact (Nat.le_trans (leastT_le _ _) (by omega))
    have htl : ts.length ≤ 1048576 := by omega
    have HTS := Lib.hid hts
    clear hts
    rw [← HTS.out] at HIM HSM
    go_wp2_with fail
    refine (HIM.out w1 hrk).mono ?_
    rintro e w2 ⟨AT, cT, rfl, oT2, b2⟩
    have z2 := b2.size
    have bl2 : Below w1.heap.size w1 w2 := (Below.refl w1.heap.size w1).trans (b2.mono (Nat.le_refl _))
    have HIT := Lib.hid (owz_in oT2)
    clear b2
    go_wp2_with fail
    refine (HSM.out w2 ((hrk.below bl2).more bl2.size)).mono ?_
    rintro e w3 ⟨AS, cS, rfl, oS3, b3⟩
    have z3 := b3.size
    have bl3 : Below w1.heap.size w1 w3 := bl2.trans (b3.mono bl2.size)
    have oT3 := owz_below oT2 b3
    have HIS := Lib.hid (owz_in oS3)
    clear oT2 bl2 b3
    go_wp2_with fail
    refine (eqT_k ts _ _ _ _ w3 w3.heap.size (Rd.ownz oT3) (Rd.ownz oS3) htl).mono ?_
    rintro e w4 ⟨rfl, b4⟩
    have z4 := b4.size
    have bl4 : Below w1.heap.size w1 w4 := bl3.trans (b4.mono bl3.size)
    have oT4 := owz_below oT3 b4
    have oS4 := owz_below oS3 b4
    clear oT3 oS3 bl3 b4
    clear oS4
    by_cases h0 : ts.length = 0
    · have hlb : ((ts.length : Int) == 0) = true := beq_iff_eq.2 (by omega)
      clear h0
      go_wp2_with fail
      refine (HSM.out w4 ((hrk.below bl4).more bl4.size)).mono ?_
      rintro e w5 ⟨AS2, cS2, rfl, oS5, b5⟩
      have z5 := b5.size
      have bl5 : Below w1.heap.size w1 w5 := bl4.trans (b5.mono bl4.size)
      have oT5 := owz_below oT4 b5
      have HIS := Lib.hid (owz_in oS5)
      clear oT4 bl4 b5
      go_wp2_with fail
      refine (eqT_k ts _ _ _ _ w5 w5.heap.size (Rd.ownz oT5) (Rd.ownz oS5) htl).mono ?_
      rintro e w6 ⟨rfl, b6⟩
      have z6 := b6.size
      have bl6 : Below w1.heap.size w1 w6 := bl5.trans (b6.mono bl5.size)
      have oT6 := owz_below oT5 b6
      have oS6 := owz_below oS5 b6
      clear oT5 oS5 bl5 b6
      go_wp2
      go_ret
      exact ⟨rfl, b1.trans (bl6.mono b1.size)⟩
    · have h0i : ((ts.length : Int) == 0) = false := beq_eq_false_iff_ne.2 (by omega)
      have h0n : ¬ (ts.length : Int) = 0 := by omega
      have hq := leastT_pos (ks := ks) (st := st) (by rw [← HTS.out]; omega)
      have hq2 := hq
      rw [Bool.and_eq_true, decide_eq_true_eq, HL.out] at hq2
      obtain ⟨hvi, h6⟩ := hq2
      have hvi2 := hvi
      rw [Bool.and_eq_true] at hvi2
      obtain ⟨hvc, hin⟩ := hvi2
      have htt : ts = bst ks st n [] := by rw [HTS.out, leastT_ok hq, HL.out]
      have hto : ordB n ts = true := by have := least_ord (cs := ks) (st := st); rw [HL.out] at this; rw [htt]; exact this
      have hln := (ordB_t hto).1
      have HMIN : Hid (∀ os, ordB n os = true → lateT ks st ts ≤ lateT ks st os ∧ 0 ≤ lateT ks st os) := Lib.hid fun os ho => by
        have r1 : rndB ks st ts = true := by unfold rndB; rw [hvi, HL.out, hto]; rfl
        have r2 : rndB ks st os = true := by unfold rndB; rw [hvi, HL.out, ho]; rfl
        rw [lateT_ok r1, lateT_ok r2]
        have := least_le (cs := ks) (st := st) (os := os) (by rw [HL.out]; exact ho)
        rw [HL.out, ← htt] at this
        exact ⟨this, latR_ge _ _ _⟩
      have HTO := Lib.hid hto
      have HLT := Lib.hid hln
      have HSW := Lib.hid (fun w hr => iSweep_any n ks HL.out Ak ck hn1 w hr)
      rw [show swT ks = nats (ordS ks n) by rw [swT_ok hvc, HL.out]] at HSW
      have HSO := Lib.hid (ordS_ord ks n)
      have hub := late_least_bd (ks := ks) (st := st) ts
      have hge := (HMIN.out ts hto).2
      rw [hln] at h0i h0n oT4 ⊢
      have HIT2 := Lib.hid (owz_in oT4)
      have hrr := ((hrk.below bl4).more bl4.size)
      have HOT := Lib.hid oT4
      have hrt := Rd.ownz oT4
      have HBL := Lib.hid bl4
      clear hq hvi hvc hin htt hto h0 oT4 bl4 htl htl8 HSM HIM hln
      obtain ⟨wz, hwz⟩ : ∃ wz, wz = w4 := ⟨_, rfl⟩
      rw [← hwz] at hrr hrt HBL HOT ⊢
      clear hwz
      have cL := iLate_any n n ks HL.out Ak ck hn1 ts HLT.out (by omega) AT cT wz hrr hrt st
      have HLL := Lib.hid (fun (os : List Int) (ho : ordB n os = true) (A : Option Addr) (c : Nat) (w : World) (hr : Rd w w.heap.size Ak (custV ks)) (hro : Rd w w.heap.size A (ints os)) => iLate_any n n ks HL.out Ak ck hn1 os (ordB_t ho).1 (by omega) A c w hr hro st)
      generalize hV : lateT ks st ts = V at *
      have CL := Lib.hid cL
      clear cL hV
      go_wp2_with fail
      refine (CL.out).mono ?_
      rintro e wa ⟨rfl, ba⟩
      have hra := (hrr.below ba).more ba.size
      go_wp2_with fail
      refine (HSW.out wa hra).mono ?_
      rintro e wb ⟨AW, cW, rfl, oW, bb⟩
      rw [nats_length, (ordS_ok ks n).len] at oW ⊢
      have hab := ba.trans (bb.mono ba.size)
      have hrb := (hra.below bb).more bb.size
      have htb := (hrt.below hab).more hab.size
      have HOW := Lib.hid oW
      have hwb := Rd.own oW
      have HBL2 := Lib.hid (HBL.out.trans (hab.mono HBL.out.size))
      clear ba bb hab hra oW hrr hrt HOT
      go_wp2
      go_loopw [8] (fun i wr => ∃ p : Nat, p ≤ n ∧ i = .int .i64 p ∧ Below wb.heap.size wb wr) (fun i _ => n - (intOf i).toNat)
      case atStart => exact ⟨0, Nat.zero_le _, rfl, Below.refl _ _⟩
      case round =>
        obtain ⟨p, hp, rfl, hbel⟩ := hrel
        by_cases hlt : p < n
        · have HBE := Lib.hid hbel
          clear hbel
          go_wp2
          go_loopw [9] (fun i wr => ∃ q : Nat, q ≤ p ∧ i = .int .i64 q ∧ Below wb.heap.size wb wr) (fun i _ => p - (intOf i).toNat)
          case atStart => exact ⟨0, Nat.zero_le _, rfl, HBE.out⟩
          case round =>
            clear HBE
            obtain ⟨q, hq, rfl, hbel⟩ := hrel
            have HBE := Lib.hid hbel
            by_cases hqt : q < p
            · have hqn : q < n := by omega
              obtain ⟨x, hx⟩ : ∃ x, ts[p]? = some x := ⟨_, List.getElem?_eq_getElem (by rw [HLT.out]; exact hlt)⟩
              obtain ⟨y, hy⟩ : ∃ y, ts[q]? = some y := ⟨_, List.getElem?_eq_getElem (by rw [HLT.out]; exact hqn)⟩
              have hso := swap_ord HTO.out hx hy
              have hmin := HMIN.out _ hso
              have htr := (htb.below hbel).more hbel.size
              have hrr := (hrb.below hbel).more hbel.size
              have HX := Lib.hid hx
              have HY := Lib.hid hy
              have HTR := Lib.hid htr
              have HRR := Lib.hid hrr
              have HSO2 := Lib.hid hso
              have hszw := hbel.size
              go_wp2_with (at_builtin; refine push_any rfl _ _ 27 rfl wr.heap.size 3 i0 (.int .i64 0) 8 Try.underlying27 hi hz0 hz1 hz2 rfl _ _ _ rfl (own_empty wr 3) _ _ _ wr.heap.size (ints ts) rfl ((htr.alloc (Nat.le_refl _) _)) (by rw [ints_length, HLT.out]) oneCell_ints2 (by unfold maxLen; omega) (by omega) (by simp) ?_)
              intro v9 w9 own9 grow9
              have hb9 : Below wr.heap.size wr w9 := ((Below.refl _ _).alloc (Nat.le_refl _) (.cells #[] 3)).grown grow9 (by simp) (own_block (own_empty wr 3))
              have own9' : w9.ownsRow wr.heap.size 3 1 v9 n (ints ts) := by simpa using own9
              obtain ⟨A9, c9, rfl⟩ := own_form own9'
              obtain ⟨g9, rfl, hg9, hg9l, _, _⟩ := own_some own9' (by omega)
              have ht9 := (htr.below hb9).more hb9.size
              obtain ⟨b4, off4, hA4, hb4, hcx⟩ := ht9.at_ (k := p) (x := .int .i64 x) (by rw [ints, List.getElem?_map, hx]; rfl)
              obtain ⟨b5, off5, hA5, hb5, hcy⟩ := ht9.at_ (k := q) (x := .int .i64 y) (by rw [ints, List.getElem?_map, hy]; rfl)
              obtain ⟨b6, off6, hA6, hb6, hc6⟩ := htr.at_ (k := p) (x := .int .i64 x) (by rw [ints, List.getElem?_map, hx]; rfl)
              subst hA4
              injection hA5 with hA5
              injection hA5 with g1 g2
              subst g1 g2
              injection hA6 with hA6
              injection hA6 with g1 g2
              subst g1 g2
              have c1 := own_cell own9' (k := p) (x := .int .i64 x) (by rw [ints, List.getElem?_map, hx]; rfl)
              have f1 := own_frozen own9' p
              have o1 := own_put own9' p (.int .i64 y)
              have c2 := own_cell o1 (k := q) (x := .int .i64 y) (by rw [List.getElem?_set_ne (by omega), ints, List.getElem?_map, hy]; rfl)
              have f2 := own_frozen o1 q
              have m1 : (w9.setCell ⟨g9, p, none⟩ (.int .i64 y)).cell? ⟨b4, off4 + p, none⟩ = some (.int .i64 x) := (World.cell?_of_block (Below.heap_setCell w9 ⟨g9, p, none⟩ (.int .i64 y) b4 (fun e => by have e' : b4 = g9 := e; omega))).trans hcx
              have o2 := own_put o1 q (.int .i64 x)
              rw [show ((ints ts).set p (.int .i64 y)).set q (.int .i64 x) = ints ((ts.set p y).set q x) by rw [ints, ints, List.map_set, List.map_set]] at o2
              have hb10 : Below wr.heap.size wr ((w9.setCell ⟨g9, p, none⟩ (.int .i64 y)).setCell ⟨g9, q, none⟩ (.int .i64 x)) := (hb9.setCell hg9 _).setCell hg9 _
              have hr10 := (hrr.below hb10).more hb10.size
              have cLL := HLL.out _ HSO2.out (some ⟨g9, 0, none⟩) c9 _ hr10 (Rd.own o2)
              have HB10 := Lib.hid hb10
              obtain ⟨hm1, hm2⟩ := hmin
              generalize lateT ks st ((ts.set p y).set q x) = Z at *
              have CLL := Lib.hid cLL
              clear own9 own9' grow9 hb9 ht9 htr hrr o1 o2 hr10 cLL hb10 hbel hx hy hso hc6
              go_wp2_with fail
              refine CLL.out.mono ?_
              rintro e w12 ⟨rfl, b12⟩
              have HB12 := Lib.hid (HBE.out.trans ((HB10.out.trans (b12.mono HB10.out.size)).mono hszw))
              clear b12 m1 c1 c2 f1 f2 hcx hcy
              go_wp2
              go_roundw
              case rel => exact ⟨q + 1, by omega, by go_num, HB12.out⟩
              case measure => simp [intOf]; omega
            · obtain rfl : q = p := by omega
              clear hbel
              go_wp2
              go_roundw
              case rel => exact ⟨q + 1, by omega, by go_num, HBE.out⟩
              case measure => simp [intOf]; omega
        · have hkn : n = p := by omega
          subst hkn
          have HBE := Lib.hid hbel
          have hrr := (hrb.below hbel).more hbel.size
          have hww := (hwb.below hbel).more hbel.size
          have hm1 := HMIN.out _ HSO.out
          have hm2 := HMIN.out _ (ordB_rev HSO.out)
          have c1 := HLL.out _ HSO.out AW cW wr hrr hww
          have HC2 := HLL
          clear hbel
          generalize lateT ks st (nats (ordS ks n)) = Z1 at *
          obtain ⟨p1, p2⟩ := hm1
          obtain ⟨p3, p4⟩ := hm2
          go_wp2_with fail
          refine (c1).mono ?_
          rintro e wc ⟨rfl, bc⟩
          have hrc := (hrr.below bc).more bc.size
          have hwc := (hww.below bc).more bc.size
          have HBC := Lib.hid (HBE.out.trans (bc.mono HBE.out.size))
          clear bc c1
          go_wp2_with fail
          refine (backwards_any n (nats (ordS ks n)) (ordS_len ks n) AW cW wc hwc (by omega)).mono ?_
          rintro e wd ⟨AR, cR, rfl, oR, bd⟩
          rw [List.length_reverse, ordS_len] at oR ⊢
          have hrd := (hrc.below bd).more bd.size
          have HBD := Lib.hid (HBC.out.trans (bd.mono HBC.out.size))
          have c2 := HC2.out _ (ordB_rev HSO.out) AR cR wd hrd (Rd.own oR)
          generalize lateT ks st (nats (ordS ks n)).reverse = Z2 at *
          clear oR bd hrc hwc hrr hww
          go_wp2_with fail
          refine (c2).mono ?_
          rintro e we ⟨rfl, be⟩
          have HBF := Lib.hid (HBL2.out.trans ((HBD.out.trans (be.mono HBD.out.size)).mono HBL2.out.size))
          clear be c2
          go_wp2
          go_ret
          exact ⟨rfl, b1.trans (HBF.out.mono b1.size)⟩
  · have hn' : 1048576 < cs.length := by omega
    go_enter Try.func6, Try.ntmps6
    go_wp2
    go_ret
    exact ⟨rfl, Below.refl _ _⟩

set_option maxRecDepth 100000 in
theorem lifted (os : Os) (started : os.Started) (H : Type) (enc : TypeId × Value → H) :
    ReturnsInHanded {} Try.checked os 6 .any (Rows.fnLeastLateSpec.pre6 enc Try.prog Try.f6 Rows.fnLeastLateRow.domain false) (Rows.fnLeastLateSpec.post enc Try.prog Try.f6 false true false false) := by
  refine returnsInHanded_of_change (C := Try.checked) ownNone started (by kernel_rfl) Try.func6
    (ChangeSpec.witness6 (enc := enc) (C := Try.checked) false ⟨#[], #[.slice none 0 0], []⟩ 8 (by kernel_rfl) (by kernel_rfl) (by kernel_rfl) (by kernel_rfl)) ?_
  intro W base args ds gs before hval0 hW hcnd _
  have hval : ∀ (j : Nat) t v, Try.f6.params[j]? = some t → args[j]? = some v → Value.okWide Try.prog W .any base t v := hval0
  have hW' := hW
  obtain ⟨p, q, hA0, hV, rfl, _, _⟩ := hW
  have hA : DataW.TrodAll enc Try.prog W 0 (fun _ => true) true Try.f6.params.toList args.toList ds p := hA0
  rw [Try.params6] at hA hval
  obtain ⟨v0, vs0, d0, ds0, p0, q0, hargs, rfl, rfl, h0, r0⟩ := trodAll_cons hA
  obtain ⟨rfl, rfl, rfl⟩ := trodAll_nil r0
  obtain rfl : args = #[v0] := by cases args; simp_all
  obtain ⟨rfl, rfl⟩ := trodVars_none hV
  obtain ⟨Acs, ccs, cs, rfl, hrcs, hlcs, hqcs⟩ := open_rd Try.underlying22 Try.underlying5 cellsByte (hval 0 22 v0 rfl rfl) h0
  have hbcs := byte_bounds hqcs
  clear hA0 hval0
  refine (walk W cs Acs ccs hrcs hbcs hlcs).mono fun e W' ⟨he, hg⟩ => ?_
  subst he
  exact ⟨_, rfl, law_post laidOut (by kernel_rfl) rfl rfl rfl rfl rfl Try.underlying4 hW' hg⟩

/-- The statement. -/
theorem proved : Rows.FnLeastLateSaid :=
  OpenClaim.holds_of_wide 6 Try.f6 rfl rfl rfl rfl rfl rfl rfl ⟨rfl, rfl, rfl, rfl, rfl⟩ rfl rfl rfl rfl rfl (by kernel_rfl) Try.func6 (by kernel_rfl)
    (of_decide_eq_true (by kernel_rfl)) (by unfold Func.isWrapper; first | (rw [if_pos (by decide +kernel)]; kernel_rfl) | (rw [if_neg (by decide +kernel)]; exact ⟨rfl, rfl⟩))
    (fun os started H enc _ => lifted os started H enc)
#print axioms proved
end fnLeastLate

end Go.Proofs.Ytjjddamblijffaa

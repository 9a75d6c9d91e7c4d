/- The law FnExactGrowPond: for every argument the program answers as its model, in memory of its own; the arguments read as they read before. No condition. -/
import Derived.Test.YtbnggakfogcalabGExactG
import Derived.Test.YtbnggakfogcalabLaw
namespace Go.Proofs.Ytbnggakfogcalab
open Go.RowKit
set_option linter.unusedVariables false
set_option linter.unusedSimpArgs false

namespace fnExactGrowPond
open Go.ChangeShapes Go.WideShapes Go.ChangeAt Go.RowKit
set_option maxRecDepth 100000 in
set_option maxHeartbeats 800000 in
set_option maxRecDepth 100000 in
set_option maxRecDepth 100000 in
set_option maxHeartbeats 8000000 in
theorem walk (w : World) (pp : List (List Int)) (App : Option Addr) (cpp : Nat) (hgpp : RdG w w.heap.size App pp) (hlpp : pp.length ≤ cpp ∧ cpp ≤ maxLen) (zs : List Int) (Azs : Option Addr) (czs : Nat) (hrzs : Rd w w.heap.size Azs (ints zs)) :
    Calls Try.prog 13 #[.slice App pp.length cpp, .slice Azs zs.length czs] w fun e w' => e = .returned (.bool true) ∧ Below w.heap.size w w' := by
  have hn0 : pp.length ≤ maxLen := Nat.le_trans hlpp.1 hlpp.2
  by_cases hnz : zs.length ≤ 1048576
  · go_enter Try.func13, Try.ntmps13
    go_wp2_with fail
    refine (szIntSS_any pp _ _ _ _ hgpp hn0).mono ?_
    rintro e w' ⟨⟨z0, rfl, hz⟩, rfl⟩
    rcases hz with rfl | ⟨hz0, hsz⟩
    · go_wp2
      go_ret
      exact ⟨rfl, Below.refl _ _⟩
    · skip
      have hz1 : ¬ z0 < 0 := by omega
      have hpl : pp.length ≤ 1048576 := by unfold sizes at hsz; omega
      have htt : tot pp ≤ 1048576 := by unfold sizes at hsz; unfold tot; omega
      obtain ⟨ts, hts⟩ : ∃ ts, ts = growT pp zs := ⟨_, rfl⟩
      have hst : sizes ts ≤ 1048576 := by rw [hts]; exact sizes_grow hsz
      have htq : tot ts ≤ 1048576 := by unfold sizes at hst; unfold tot; omega
      have HTS := Lib.hid hts
      have HST := Lib.hid hst
      clear hts hst
      go_wp2_with fail
      refine (toIntSS_any pp _ _ _ hgpp hsz).mono ?_
      rintro e w1 ⟨A1, c1, xs1, rfl, o1, b1⟩
      have z1 := b1.size
      go_wp2_with fail
      refine (toIntS_any zs _ _ _ ((hrzs.below b1).more b1.size) hnz).mono ?_
      rintro e w2 ⟨A2, c2, rfl, o2, b2⟩
      have z2 := b2.size
      have bl2 := b1.trans (b2.mono b1.size)
      go_wp2_with fail
      refine (sGrow_b pp zs A1 A2 c1 c2 w2 (o1.below (Nat.le_refl _) b2).rd hpl (Rd.own o2) HTS).mono ?_
      rintro e w3 ⟨A3, c3, xs3, rfl, o3, b3⟩
      have z3 := b3.size
      have bl3 := bl2.trans (b3.mono bl2.size)
      clear o1 o2 b1 b2 b3 bl2
      go_wp2_with fail
      refine (toIntSS_any pp _ _ _ ((hgpp.below bl3).more bl3.size) hsz).mono ?_
      rintro e w4 ⟨A4, c4, xs4, rfl, o4, b4⟩
      have z4 := b4.size
      have bl4 := bl3.trans (b4.mono bl3.size)
      go_wp2_with fail
      refine (toIntS_any zs _ _ _ ((hrzs.below bl4).more bl4.size) hnz).mono ?_
      rintro e w5 ⟨A5, c5, rfl, o5, b5⟩
      have z5 := b5.size
      have bl5 := bl4.trans (b5.mono bl4.size)
      have HO5 : Hid (∀ k, (Value.slice A5 zs.length c5).ownBlock = some k → k < w5.heap.size) := Lib.hid (own_lt o5)
      go_wp2_with fail
      refine (iGrow_b pp zs A4 A5 c4 c5 w5 (o4.below (Nat.le_refl _) b5).rd (Rd.own o5) HTS).mono ?_
      rintro e w6 ⟨A6, c6, xs6, rfl, o6, b6⟩
      have z6 := b6.size
      have bl6 := bl5.trans (b6.mono bl5.size)
      have b56 := b5.trans (b6.mono b5.size)
      have b46 := b4.trans (b56.mono b4.size)
      have o36 := o3.below (Nat.le_refl _) b46
      have o46 := o4.below (Nat.le_refl _) b56
      have o56 := own_below o5 b6
      clear o3 o4 o5 b4 b5 b6 b46 b56 bl3 bl4 bl5
      go_wp2_with fail
      refine (eqG_b ts _ _ _ _ w6 _ o6.rd o36.rd HST.out).mono ?_
      rintro e w7 ⟨rfl, b7⟩
      have z7 := b7.size
      have bl7 := bl6.trans (b7.mono bl6.size)
      go_wp2_with fail
      refine (toIntSS_any pp _ _ _ ((hgpp.below bl7).more bl7.size) hsz).mono ?_
      rintro e w8 ⟨A8, c8, xs8, rfl, o8, b8⟩
      have z8 := b8.size
      have b78 := b7.trans (b8.mono b7.size)
      have o48 := o46.below (by omega) b78
      go_wp2_with fail
      refine (eqG_b pp _ _ _ _ w8 _ o48.rd o8.rd hsz).mono ?_
      rintro e w9 ⟨rfl, b9⟩
      have z9 := b9.size
      have b79 := b78.trans (b9.mono b78.size)
      have bl9 := bl6.trans (b79.mono bl6.size)
      clear o8 o48 b7 b8 b9 b78 bl7
      go_wp2_with fail
      refine (toIntS_any zs _ _ _ ((hrzs.below bl9).more bl9.size) hnz).mono ?_
      rintro e w10 ⟨A10, c10, rfl, o10, b10⟩
      have z10 := b10.size
      have b710 := b79.trans (b10.mono b79.size)
      have o510 := own_below o56 b710
      go_wp2_with fail
      refine (eqZ_b zs _ _ _ _ w10 _ (Rd.own o510) (Rd.own o10) hnz).mono ?_
      rintro e w11 ⟨rfl, b11⟩
      have z11 := b11.size
      have b711 := b710.trans (b11.mono b710.size)
      have bl11 := bl6.trans (b711.mono bl6.size)
      have o3a := o36.below (by omega) b711
      have o4a := o46.below (by omega) b711
      have o5a := own_below o56 b711
      have o6a := o6.below (Nat.le_refl _) b711
      clear o10 o510 b710 b79 bl9 b711 o36 o46 o56 o6 b10 b11 bl6
      go_wp2_with fail
      refine (markIntSS_any pp pp.length A4 c4 xs4 w11 w3.heap.size w4.heap.size o4a 1 (by omega) (by omega) hsz).mono ?_
      intro e w12 hmark
      have bl12 := mark_below hmark bl11 (by omega) (by have := bl11.size; exact this)
      obtain ⟨rfl, o412, s12, os12, tp12, ou12, fr12⟩ := hmark
      have s12' : w11.heap.size ≤ w12.heap.size := s12
      have FR : Hid (∀ q, q < w11.heap.size → (q < w3.heap.size ∨ w4.heap.size ≤ q) → w12.heap[q]? = w11.heap[q]?) := Lib.hid fr12
      clear fr12 os12 tp12 ou12 o412 s12 o4a bl11
      have o312 := o3a.far (fun k hk hk2 => FR.out k (by omega) (.inl (by omega)))
      have o512 := own_far (g := 0) o5a (fun k hk hk2 => FR.out k (by omega) (.inr hk))
      have o612 := o6a.far (fun k hk hk2 => FR.out k (by omega) (.inr (by omega)))
      clear o3a o5a o6a FR
      go_wp2_with fail
      refine (markIntS_any _ _ A5 c5 w12 w4.heap.size o512 ((1 : Int) + ((tot pp : Nat) : Int)) (by omega) (by omega) hnz).mono ?_
      rintro e w13 ⟨rfl, o513, g13⟩
      have bl13 := below_row bl12 g13 (by omega) (fun k hk => by have := own_block o512 k hk; omega)
      have s13 := g13.size
      have FR5 := Lib.hid (fr_row o512 HO5.out g13)
      have s13' : w12.heap.size ≤ w13.heap.size := s13
      have k1 : ¬ ((1 : Int) + ((tot pp : Nat) : Int) + ((zs.length : Nat) : Int)) < 0 := by omega
      clear g13 o513 bl12 s13
      have o313 := o312.far (fun k hk hk2 => FR5.out k (by omega) (.inl (by omega)))
      have o613 := o612.far (fun k hk hk2 => FR5.out k (by omega) (.inr (by omega)))
      clear o312 o512 o612 FR5
      go_wp2_with fail
      refine (eqG_b ts _ _ _ _ w13 _ o613.rd o313.rd HST.out).mono ?_
      rintro e w14 ⟨rfl, b14⟩
      have z14 := b14.size
      have bl14 := bl13.trans (b14.mono bl13.size)
      have o314 := o313.below (by omega) b14
      have o614 := o613.below (by omega) b14
      clear o313 o613 b14 bl13
      go_wp2_with fail
      refine (markIntSS_any ts ts.length A6 c6 xs6 w14 w5.heap.size w6.heap.size o614 1 (by omega) (by omega) HST.out).mono ?_
      intro e w15 hmark
      have bl15 := mark_below hmark bl14 (by omega) (by have := bl14.size; exact this)
      obtain ⟨rfl, o615, s15, os15, tp15, ou15, fr15⟩ := hmark
      have s15' : w14.heap.size ≤ w15.heap.size := s15
      have FR2 : Hid (∀ q, q < w14.heap.size → (q < w5.heap.size ∨ w6.heap.size ≤ q) → w15.heap[q]? = w14.heap[q]?) := Lib.hid fr15
      clear fr15 os15 tp15 ou15 o614 s15 bl14
      have o315 := o314.far (fun k hk hk2 => FR2.out k (by omega) (.inl (by omega)))
      clear o314 FR2
      go_wp2_with fail
      refine (heldIntSS_any ts ts.length rfl _ _ _ _ 1 o615.rd (by omega) (by omega) HST.out).mono ?_
      rintro e w' ⟨rfl, rfl⟩
      go_wp2_with fail
      refine (toIntSS_any pp _ _ _ ((hgpp.below bl15).more bl15.size) hsz).mono ?_
      rintro e w16 ⟨A16, c16, xs16, rfl, o16, b16⟩
      have z16 := b16.size
      have bl16 := bl15.trans (b16.mono bl15.size)
      go_wp2_with fail
      refine (toIntS_any zs _ _ _ ((hrzs.below bl16).more bl16.size) hnz).mono ?_
      rintro e w17 ⟨A17, c17, rfl, o17, b17⟩
      have z17 := b17.size
      go_wp2_with fail
      refine (iGrow_b pp zs A16 A17 c16 c17 w17 (o16.below (Nat.le_refl _) b17).rd (Rd.own o17) HTS).mono ?_
      rintro e w18 ⟨A18, c18, xs18, rfl, o18, b18⟩
      have z18 := b18.size
      have b1718 := b17.trans (b18.mono b17.size)
      have b1618 := b16.trans (b1718.mono b16.size)
      have bl18 := bl15.trans (b1618.mono bl15.size)
      have o318 := o315.below (by omega) b1618
      have o618 := o615.below (by omega) b1618
      clear o16 o17 b16 b17 b18 b1718 b1618 bl16 o315 o615 bl15
      go_wp2_with fail
      refine (eqG_b ts _ _ _ _ w18 _ o18.rd o318.rd HST.out).mono ?_
      rintro e w19 ⟨rfl, b19⟩
      have z19 := b19.size
      have o619 := o618.below (by omega) b19
      have bl19 := bl18.trans (b19.mono bl18.size)
      have k3 : ¬ ((1 : Int) + ((tot ts : Nat) : Int)) < 0 := by omega
      clear o618 o318 o18 b19 bl18
      go_wp2_with fail
      refine (heldIntSS_any ts ts.length rfl _ _ _ _ 1 o619.rd (by omega) (by omega) HST.out).mono ?_
      rintro e w' ⟨rfl, rfl⟩
      go_wp2
      go_ret
      exact ⟨rfl, bl19⟩
  · have hnz' : 1048576 < zs.length := by omega
    go_enter Try.func13, Try.ntmps13
    go_wp2
    go_ret
    exact ⟨rfl, Below.refl _ _⟩

set_option maxRecDepth 100000 in
theorem lifted (os : Os) (started : os.Started) (H : Type) (enc : TypeId × Value → H) :
    ReturnsInHanded {} Try.checked os 13 .any (Rows.fnExactGrowPondSpec.pre6 enc Try.prog Try.f13 Rows.fnExactGrowPondRow.domain false) (Rows.fnExactGrowPondSpec.post enc Try.prog Try.f13 false true false false) := by
  refine returnsInHanded_of_change (C := Try.checked) ownNone started (by kernel_rfl) Try.func13
    (ChangeSpec.witness6 (enc := enc) (C := Try.checked) false ⟨#[], #[.slice none 0 0, .slice none 0 0], []⟩ 8 (by kernel_rfl) (by kernel_rfl) (by kernel_rfl) (by kernel_rfl)) ?_
  intro W base args ds gs before hval0 hW hcnd _
  have hval : ∀ (j : Nat) t v, Try.f13.params[j]? = some t → args[j]? = some v → Value.okWide Try.prog W .any base t v := hval0
  have hW' := hW
  obtain ⟨p, q, hA0, hV, rfl, _, _⟩ := hW
  have hA : DataW.TrodAll enc Try.prog W 0 (fun _ => true) true Try.f13.params.toList args.toList ds p := hA0
  rw [Try.params13] at hA hval
  obtain ⟨v0, vs0, d0, ds0, p0, q0, hargs, rfl, rfl, h0, r0⟩ := trodAll_cons hA
  obtain ⟨v1, vs1, d1, ds1, p1, q1, rfl, rfl, rfl, h1, r1⟩ := trodAll_cons r0
  obtain ⟨rfl, rfl, rfl⟩ := trodAll_nil r1
  obtain rfl : args = #[v0, v1] := by cases args; simp_all
  obtain ⟨rfl, rfl⟩ := trodVars_none hV
  obtain ⟨App, cpp, pp, rfl, hgpp, hlpp⟩ := Opn.open_rdG Try.underlying22 Try.underlying35 Try.underlying3 cellsInts cellsInt (hval 0 22 v0 rfl rfl) h0
  obtain ⟨Azs, czs, zs, rfl, hrzs, _, _⟩ := open_rd Try.underlying35 Try.underlying3 cellsInt (hval 1 35 v1 rfl rfl) h1
  clear hA0 hval0
  refine (walk W pp App cpp hgpp hlpp zs Azs czs hrzs).mono fun e W' ⟨he, hg⟩ => ?_
  subst he
  exact ⟨_, rfl, law_post laidOut (by kernel_rfl) rfl rfl rfl rfl rfl Try.underlying4 hW' hg⟩

/-- The statement. -/
theorem proved : Rows.FnExactGrowPondSaid :=
  OpenClaim.holds_of_wide 13 Try.f13 rfl rfl rfl rfl rfl rfl rfl ⟨rfl, rfl, rfl, rfl, rfl⟩ rfl rfl rfl rfl rfl (by kernel_rfl) Try.func13 (by kernel_rfl)
    (of_decide_eq_true (by kernel_rfl)) (by unfold Func.isWrapper; first | (rw [if_pos (by decide +kernel)]; kernel_rfl) | (rw [if_neg (by decide +kernel)]; exact ⟨rfl, rfl⟩))
    (fun os started H enc _ => lifted os started H enc)
#print axioms proved
end fnExactGrowPond

end Go.Proofs.Ytbnggakfogcalab

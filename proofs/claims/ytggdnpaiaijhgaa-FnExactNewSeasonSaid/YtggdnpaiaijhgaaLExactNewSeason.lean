/- The law FnExactNewSeason: for every argument the program answers as its model, in memory of its own; the arguments read as they read before. No condition. -/
import Derived.Test.YtggdnpaiaijhgaaBNew
import Derived.Test.YtggdnpaiaijhgaaGExact
import Derived.Test.YtggdnpaiaijhgaaLaw
namespace Go.Proofs.Ytggdnpaiaijhgaa
open Go.RowKit
set_option linter.unusedVariables false
set_option linter.unusedSimpArgs false

namespace fnExactNewSeason
open Go.ChangeShapes Go.WideShapes Go.ChangeAt Go.RowKit
set_option maxRecDepth 100000 in
set_option maxHeartbeats 800000 in
set_option maxRecDepth 100000 in
set_option maxRecDepth 100000 in
set_option maxHeartbeats 8000000 in
theorem walk (w : World) (pp : List (List Int)) (App : Option Addr) (cpp : Nat) (hgpp : RdG w w.heap.size App pp) (hlpp : pp.length ≤ cpp ∧ cpp ≤ maxLen) (a : Int) (d : Int) :
    Calls Try.prog 4 #[.slice App pp.length cpp, .int .i64 a, .int .i64 d] w fun e w' => e = .returned (.bool true) ∧ Below w.heap.size w w' := by
  have hn0 : pp.length ≤ maxLen := Nat.le_trans hlpp.1 hlpp.2
  obtain ⟨t, ht⟩ : ∃ t, newT pp a d = t := ⟨_, rfl⟩
  have hss : sizes t.pp ≤ sizes pp := by rw [← ht]; exact sizes_new
  have cS := fun (A : Option Addr) (c : Nat) (w : World) (hg : RdG w w.heap.size A pp) (hn : pp.length ≤ 1048576) => sNew_any pp a d A c w hg hn
  have cI := fun (A : Option Addr) (c : Nat) (w : World) (hg : RdG w w.heap.size A pp) (hn : pp.length ≤ 1048576) => iNew_any pp a d A c w hg hn
  rw [ht] at cS cI
  clear ht
  obtain ⟨tp, tW, tD, tst, tso, tlo, tcu, tmo⟩ := t
  unfold SeOwn seaV at cS cI
  simp only at cS cI hss
  have HS0 := Lib.hid cS
  have HI0 := Lib.hid cI
  clear cS cI
  go_enter Try.func4, Try.ntmps4
  go_wp2_with fail
  refine (szIntSS_any pp _ _ _ _ hgpp hn0).mono ?_
  rintro e w' ⟨⟨z0, rfl, hz⟩, rfl⟩
  rcases hz with rfl | ⟨hz0, hsz⟩
  · skip
    go_wp2
    go_ret
    exact ⟨rfl, Below.refl _ _⟩
  · have hz1 : ¬ z0 < 0 := by omega
    have hst : sizes tp ≤ 1048576 := by omega
    have hn9 : pp.length ≤ 1048576 := by unfold sizes at hsz; omega
    have htq : tot tp ≤ 1048576 := by unfold sizes at hst; unfold tot; omega
    have HS := Lib.hid (fun A c w hg => HS0.out A c w hg hn9)
    have HI := Lib.hid (fun A c w hg => HI0.out A c w hg hn9)
    clear HS0 HI0 hss
    go_wp2_with fail
    refine (toIntSS_any pp _ _ w hgpp hsz).mono ?_
    rintro e w1 ⟨AC, cC, xsC, rfl, oC1, b1⟩
    have z1 := b1.size
    have bl1 : Below w.heap.size w w1 := (Below.refl w.heap.size w).trans (b1.mono (Nat.le_refl _))
    clear b1
    go_wp2_with fail
    refine (HS.out AC cC w1 oC1.rd).mono ?_
    rintro e w2 ⟨AW, cW, xsW, rfl, oW2, b2⟩
    have z2 := b2.size
    have bl2 : Below w.heap.size w w2 := bl1.trans (b2.mono bl1.size)
    have oC2 := oC1.far (fun k h1 h2 => b2.block k (by omega))
    clear oC1 bl1 b2
    clear oC2
    have aW2 := fun o => oW2.far (fun k h1 h2 => Below.heap_alloc w2 o k (by omega))
    go_wp2_with fail
    refine (toIntSS_any pp _ _ (w2.alloc _) ((hgpp.below (bl2.alloc (Nat.le_trans (Nat.le_refl _) bl2.size) _)).more (bl2.alloc (Nat.le_trans (Nat.le_refl _) bl2.size) _).size) hsz).mono ?_
    rintro e w3 ⟨AD, cD, xsD, rfl, oD3, b3⟩
    have z3 := b3.size
    rw [World.size_alloc] at z3
    rw [World.size_alloc] at oD3
    have oQ3 := (Box8.alloc_ w2 27 (v0 := .slice AW tp.length cW) (v1 := .int .i64 tW) (v2 := .int .i64 tD) (v3 := .int .i64 tst) (v4 := .int .i64 tso) (v5 := .int .i64 tlo) (v6 := .int .i64 tcu) (v7 := .int .i64 tmo)).below b3 (by simp)
    have b3x := (below1 _).trans (b3.mono (below1 _).size)
    clear b3
    have bl3 : Below w.heap.size w w3 := bl2.trans (b3x.mono bl2.size)
    have oW3 := oW2.far (fun k h1 h2 => b3x.block k (by omega))
    clear aW2 oW2 bl2 b3x
    go_wp2_with fail
    refine (HI.out AD cD w3 oD3.rd).mono ?_
    rintro e w4 ⟨AG, cG, xsG, rfl, oG4, b4⟩
    have z4 := b4.size
    have bl4 : Below w.heap.size w w4 := bl3.trans (b4.mono bl3.size)
    have oW4 := oW3.far (fun k h1 h2 => b4.block k (by omega))
    have oD4 := oD3.far (fun k h1 h2 => b4.block k (by omega))
    have oQ4 := oQ3.far (b4.block _ (by omega)) (by omega)
    clear oW3 oD3 oQ3 bl3 b4
    have aW4 := fun o => oW4.far (fun k h1 h2 => Below.heap_alloc w4 o k (by omega))
    have aD4 := fun o => oD4.far (fun k h1 h2 => Below.heap_alloc w4 o k (by omega))
    have aG4 := fun o => oG4.far (fun k h1 h2 => Below.heap_alloc w4 o k (by omega))
    obtain ⟨pQ0, pQ1, pQ2, pQ3, pQ4, pQ5, pQ6, pQ7, pfQ, _⟩ := id oQ4
    go_wp2_with fail
    refine (eqSea_same ⟨tp, tW, tD, tst, tso, tlo, tcu, tmo⟩ AG AW cG cW (w4.alloc _) (aG4 _).rd (aW4 _).rd hst).mono ?_
    rintro e w5 ⟨rfl, b5⟩
    clear pQ0 pQ1 pQ2 pQ3 pQ4 pQ5 pQ6 pQ7 pfQ
    have z5 := b5.size
    rw [World.size_alloc] at z5
    have oR5 := (Box8.alloc_ w4 27 (v0 := .slice AG tp.length cG) (v1 := .int .i64 tW) (v2 := .int .i64 tD) (v3 := .int .i64 tst) (v4 := .int .i64 tso) (v5 := .int .i64 tlo) (v6 := .int .i64 tcu) (v7 := .int .i64 tmo)).below b5 (by simp)
    have b5x := (below1 _).trans (b5.mono (below1 _).size)
    clear b5
    have bl5 : Below w.heap.size w w5 := bl4.trans (b5x.mono bl4.size)
    have oW5 := oW4.far (fun k h1 h2 => b5x.block k (by omega))
    have oD5 := oD4.far (fun k h1 h2 => b5x.block k (by omega))
    have oG5 := oG4.far (fun k h1 h2 => b5x.block k (by omega))
    have oQ5 := oQ4.far (b5x.block _ (by omega)) (by omega)
    clear aW4 aD4 aG4 oW4 oD4 oG4 oQ4 bl4 b5x
    go_wp2_with fail
    refine (toIntSS_any pp _ _ w5 ((hgpp.below bl5).more bl5.size) hsz).mono ?_
    rintro e w6 ⟨AE, cE, xsE, rfl, oE6, b6⟩
    have z6 := b6.size
    have bl6 : Below w.heap.size w w6 := bl5.trans (b6.mono bl5.size)
    have oW6 := oW5.far (fun k h1 h2 => b6.block k (by omega))
    have oD6 := oD5.far (fun k h1 h2 => b6.block k (by omega))
    have oG6 := oG5.far (fun k h1 h2 => b6.block k (by omega))
    have oQ6 := oQ5.far (b6.block _ (by omega)) (by omega)
    have oR6 := oR5.far (b6.block _ (by omega)) (by omega)
    clear oW5 oD5 oG5 oQ5 oR5 bl5 b6
    go_wp2_with fail
    refine (eqG_s pp _ _ _ _ w6 oD6.rd oE6.rd hsz).mono ?_
    rintro e w7 ⟨rfl, b7⟩
    have z7 := b7.size
    have bl7 : Below w.heap.size w w7 := bl6.trans (b7.mono bl6.size)
    have oW7 := oW6.far (fun k h1 h2 => b7.block k (by omega))
    have oD7 := oD6.far (fun k h1 h2 => b7.block k (by omega))
    have oG7 := oG6.far (fun k h1 h2 => b7.block k (by omega))
    have oE7 := oE6.far (fun k h1 h2 => b7.block k (by omega))
    have oQ7 := oQ6.far (b7.block _ (by omega)) (by omega)
    have oR7 := oR6.far (b7.block _ (by omega)) (by omega)
    clear oW6 oD6 oG6 oE6 oQ6 oR6 bl6 b7
    clear oE7
    go_wp2_with fail
    refine (markG_s pp _ rfl AD cD xsD w7 _ _ oD7 1 (by omega) (by omega) hsz).mono ?_
    rintro e w8 ⟨rfl, oD8, u8⟩
    have z8 := u8.size
    have bl8 : Below w.heap.size w w8 := u8.below bl7 (by omega) (Nat.le_refl _)
    have oW8 := oW7.far (fun k h1 h2 => u8.block k (by omega) (by omega))
    have oG8 := oG7.far (fun k h1 h2 => u8.block k (by omega) (by omega))
    have oQ8 := oQ7.far (u8.block _ (by omega) (by omega)) (by omega)
    have oR8 := oR7.far (u8.block _ (by omega) (by omega)) (by omega)
    clear oD7 oW7 oG7 oQ7 oR7 bl7 u8
    have kk : ¬ (1 + ((tot pp : Nat) : Int)) < 0 := by omega
    obtain ⟨pQ0, pQ1, pQ2, pQ3, pQ4, pQ5, pQ6, pQ7, pfQ, _⟩ := id oQ8
    obtain ⟨pR0, pR1, pR2, pR3, pR4, pR5, pR6, pR7, pfR, _⟩ := id oR8
    go_wp2_with fail
    refine (eqSea_same ⟨tp, tW, tD, tst, tso, tlo, tcu, tmo⟩ AG AW cG cW w8 oG8.rd oW8.rd hst).mono ?_
    rintro e w9 ⟨rfl, b9⟩
    clear pQ0 pQ1 pQ2 pQ3 pQ4 pQ5 pQ6 pQ7 pfQ pR0 pR1 pR2 pR3 pR4 pR5 pR6 pR7 pfR
    have z9 := b9.size
    have bl9 : Below w.heap.size w w9 := bl8.trans (b9.mono bl8.size)
    have oW9 := oW8.far (fun k h1 h2 => b9.block k (by omega))
    have oD9 := oD8.far (fun k h1 h2 => b9.block k (by omega))
    have oG9 := oG8.far (fun k h1 h2 => b9.block k (by omega))
    have oQ9 := oQ8.far (b9.block _ (by omega)) (by omega)
    have oR9 := oR8.far (b9.block _ (by omega)) (by omega)
    clear oW8 oD8 oG8 oQ8 oR8 bl8 b9
    clear oD9
    obtain ⟨pR0, pR1, pR2, pR3, pR4, pR5, pR6, pR7, pfR, _⟩ := id oR9
    go_wp2_with fail
    refine (markSea_any ⟨tp, tW, tD, tst, tso, tlo, tcu, tmo⟩ _ rfl AG cG xsG w9 _ _ (by omega) oG9 1 (by omega) (by omega) hst).mono ?_
    rintro e w10 ⟨rfl, oG10, u10⟩
    clear pR0 pR1 pR2 pR3 pR4 pR5 pR6 pR7 pfR
    have z10 := u10.size
    have bl10 : Below w.heap.size w w10 := u10.below bl9 (by omega) (Nat.le_refl _)
    have oW10 := oW9.far (fun k h1 h2 => u10.block k (by omega) (by omega))
    have oQ10 := oQ9.far (u10.block _ (by omega) (by omega)) (by omega)
    have oR10 := oR9.far (u10.block _ (by omega) (by omega)) (by omega)
    clear oG9 oW9 oQ9 oR9 bl9 u10
    obtain ⟨pR0, pR1, pR2, pR3, pR4, pR5, pR6, pR7, pfR, _⟩ := id oR10
    go_wp2_with fail
    refine (heldSea_any ⟨tp, tW, tD, tst, tso, tlo, tcu, tmo⟩ _ rfl AG cG w10 1 oG10.rd (by omega) (by omega) hst).mono ?_
    rintro e w11 ⟨rfl, b11⟩
    clear pR0 pR1 pR2 pR3 pR4 pR5 pR6 pR7 pfR
    have z11 := b11.size
    have bl11 : Below w.heap.size w w11 := bl10.trans (b11.mono bl10.size)
    have oW11 := oW10.far (fun k h1 h2 => b11.block k (by omega))
    have oG11 := oG10.far (fun k h1 h2 => b11.block k (by omega))
    have oQ11 := oQ10.far (b11.block _ (by omega)) (by omega)
    have oR11 := oR10.far (b11.block _ (by omega)) (by omega)
    clear oW10 oG10 oQ10 oR10 bl10 b11
    have kk2 : ¬ (1 + ((tot tp : Nat) : Int)) < 0 := by omega
    go_wp2_with fail
    refine (toIntSS_any pp _ _ w11 ((hgpp.below bl11).more bl11.size) hsz).mono ?_
    rintro e w12 ⟨AF, cF, xsF, rfl, oF12, b12⟩
    have z12 := b12.size
    have bl12 : Below w.heap.size w w12 := bl11.trans (b12.mono bl11.size)
    have oW12 := oW11.far (fun k h1 h2 => b12.block k (by omega))
    have oG12 := oG11.far (fun k h1 h2 => b12.block k (by omega))
    have oQ12 := oQ11.far (b12.block _ (by omega)) (by omega)
    have oR12 := oR11.far (b12.block _ (by omega)) (by omega)
    clear oW11 oG11 oQ11 oR11 bl11 b12
    go_wp2_with fail
    refine (HI.out AF cF w12 oF12.rd).mono ?_
    rintro e w13 ⟨AH, cH, xsH, rfl, oH13, b13⟩
    have z13 := b13.size
    have bl13 : Below w.heap.size w w13 := bl12.trans (b13.mono bl12.size)
    have oW13 := oW12.far (fun k h1 h2 => b13.block k (by omega))
    have oG13 := oG12.far (fun k h1 h2 => b13.block k (by omega))
    have oF13 := oF12.far (fun k h1 h2 => b13.block k (by omega))
    have oQ13 := oQ12.far (b13.block _ (by omega)) (by omega)
    have oR13 := oR12.far (b13.block _ (by omega)) (by omega)
    clear oW12 oG12 oF12 oQ12 oR12 bl12 b13
    clear oF13
    have aW13 := fun o => oW13.far (fun k h1 h2 => Below.heap_alloc w13 o k (by omega))
    have aG13 := fun o => oG13.far (fun k h1 h2 => Below.heap_alloc w13 o k (by omega))
    have aH13 := fun o => oH13.far (fun k h1 h2 => Below.heap_alloc w13 o k (by omega))
    obtain ⟨pQ0, pQ1, pQ2, pQ3, pQ4, pQ5, pQ6, pQ7, pfQ, _⟩ := id oQ13
    go_wp2_with fail
    refine (eqSea_same ⟨tp, tW, tD, tst, tso, tlo, tcu, tmo⟩ AH AW cH cW (w13.alloc _) (aH13 _).rd (aW13 _).rd hst).mono ?_
    rintro e w14 ⟨rfl, b14⟩
    clear pQ0 pQ1 pQ2 pQ3 pQ4 pQ5 pQ6 pQ7 pfQ
    have z14 := b14.size
    rw [World.size_alloc] at z14
    have oS14 := (Box8.alloc_ w13 27 (v0 := .slice AH tp.length cH) (v1 := .int .i64 tW) (v2 := .int .i64 tD) (v3 := .int .i64 tst) (v4 := .int .i64 tso) (v5 := .int .i64 tlo) (v6 := .int .i64 tcu) (v7 := .int .i64 tmo)).below b14 (by simp)
    have b14x := (below1 _).trans (b14.mono (below1 _).size)
    clear b14
    have bl14 : Below w.heap.size w w14 := bl13.trans (b14x.mono bl13.size)
    have oW14 := oW13.far (fun k h1 h2 => b14x.block k (by omega))
    have oG14 := oG13.far (fun k h1 h2 => b14x.block k (by omega))
    have oH14 := oH13.far (fun k h1 h2 => b14x.block k (by omega))
    have oQ14 := oQ13.far (b14x.block _ (by omega)) (by omega)
    have oR14 := oR13.far (b14x.block _ (by omega)) (by omega)
    clear aW13 aG13 aH13 oW13 oG13 oH13 oQ13 oR13 bl13 b14x
    clear oH14
    clear oS14
    obtain ⟨pR0, pR1, pR2, pR3, pR4, pR5, pR6, pR7, pfR, _⟩ := id oR14
    go_wp2_with fail
    refine (heldSea_any ⟨tp, tW, tD, tst, tso, tlo, tcu, tmo⟩ _ rfl AG cG w14 1 oG14.rd (by omega) (by omega) hst).mono ?_
    rintro e w15 ⟨rfl, b15⟩
    clear pR0 pR1 pR2 pR3 pR4 pR5 pR6 pR7 pfR
    have z15 := b15.size
    have bl15 : Below w.heap.size w w15 := bl14.trans (b15.mono bl14.size)
    have oW15 := oW14.far (fun k h1 h2 => b15.block k (by omega))
    have oG15 := oG14.far (fun k h1 h2 => b15.block k (by omega))
    have oQ15 := oQ14.far (b15.block _ (by omega)) (by omega)
    have oR15 := oR14.far (b15.block _ (by omega)) (by omega)
    clear oW14 oG14 oQ14 oR14 bl14 b15
    clear oG15
    clear oW15
    go_wp2
    go_ret
    exact ⟨rfl, bl15⟩

set_option maxRecDepth 100000 in
theorem lifted (os : Os) (started : os.Started) (H : Type) (enc : TypeId × Value → H) :
    ReturnsInHanded {} Try.checked os 4 .any (Rows.fnExactNewSeasonSpec.pre6 enc Try.prog Try.f4 Rows.fnExactNewSeasonRow.domain false) (Rows.fnExactNewSeasonSpec.post enc Try.prog Try.f4 false true false false) := by
  refine returnsInHanded_of_change (C := Try.checked) ownNone started (by kernel_rfl) Try.func4
    (ChangeSpec.witness6 (enc := enc) (C := Try.checked) false ⟨#[], #[.slice none 0 0, .int .i64 0, .int .i64 0], []⟩ 8 (by kernel_rfl) (by kernel_rfl) (by kernel_rfl) (by kernel_rfl)) ?_
  intro W base args ds gs before hval0 hW hcnd _
  have hval : ∀ (j : Nat) t v, Try.f4.params[j]? = some t → args[j]? = some v → Value.okWide Try.prog W .any base t v := hval0
  have hW' := hW
  obtain ⟨p, q, hA0, hV, rfl, _, _⟩ := hW
  have hA : DataW.TrodAll enc Try.prog W 0 (fun _ => true) true Try.f4.params.toList args.toList ds p := hA0
  rw [Try.params4] at hA hval
  obtain ⟨v0, vs0, d0, ds0, p0, q0, hargs, rfl, rfl, h0, r0⟩ := trodAll_cons hA
  obtain ⟨v1, vs1, d1, ds1, p1, q1, rfl, rfl, rfl, h1, r1⟩ := trodAll_cons r0
  obtain ⟨v2, vs2, d2, ds2, p2, q2, rfl, rfl, rfl, h2, r2⟩ := trodAll_cons r1
  obtain ⟨rfl, rfl, rfl⟩ := trodAll_nil r2
  obtain rfl : args = #[v0, v1, v2] := by cases args; simp_all
  obtain ⟨rfl, rfl⟩ := trodVars_none hV
  obtain ⟨App, cpp, pp, rfl, hgpp, hlpp⟩ := Opn.open_rdG Try.underlying22 Try.underlying37 Try.underlying3 cellsInts cellsInt (hval 0 22 v0 rfl rfl) h0
  obtain ⟨a, rfl, rfl, rfl, w1⟩ := open_int Try.underlying3 (hval 1 3 v1 rfl rfl) h1
  obtain ⟨d, rfl, rfl, rfl, w2⟩ := open_int Try.underlying3 (hval 2 3 v2 rfl rfl) h2
  clear hA0 hval0
  refine (walk W pp App cpp hgpp hlpp a d).mono fun e W' ⟨he, hg⟩ => ?_
  subst he
  exact ⟨_, rfl, law_post laidOut (by kernel_rfl) rfl rfl rfl rfl rfl Try.underlying4 hW' hg⟩

/-- The statement. -/
theorem proved : Rows.FnExactNewSeasonSaid :=
  OpenClaim.holds_of_wide 4 Try.f4 rfl rfl rfl rfl rfl rfl rfl ⟨rfl, rfl, rfl, rfl, rfl⟩ rfl rfl rfl rfl rfl (by kernel_rfl) Try.func4 (by kernel_rfl)
    (of_decide_eq_true (by kernel_rfl)) (by unfold Func.isWrapper; first | (rw [if_pos (by decide +kernel)]; kernel_rfl) | (rw [if_neg (by decide +kernel)]; exact ⟨rfl, rfl⟩))
    (fun os started H enc _ => lifted os started H enc)
#print axioms proved
end fnExactNewSeason

end Go.Proofs.Ytggdnpaiaijhgaa

/- The law FnExactFloatOrder: for every argument the program answers as its model, in memory of its own; the arguments read as they read before. No condition. -/
import Derived.Test.YtcjcdlhmhhbkgabCExactO
import Derived.Test.YtcjcdlhmhhbkgabLaw
namespace Go.Proofs.Ytcjcdlhmhhbkgab
open Go.RowKit
set_option linter.unusedVariables false
set_option linter.unusedSimpArgs false

namespace fnExactFloatOrder
open Go.ChangeShapes Go.WideShapes Go.ChangeAt Go.RowKit
set_option maxRecDepth 100000 in
set_option maxHeartbeats 800000 in
set_option maxRecDepth 100000 in
set_option maxRecDepth 100000 in
set_option maxHeartbeats 8000000 in
theorem walk (w : World) (cs : List (Int × Int)) (Acs : Option Addr) (ccs : Nat) (hrcs : Rd w w.heap.size Acs (cakeV cs)) (hlcs : cs.length ≤ ccs ∧ ccs ≤ maxLen) (a : Int) (h : Int) :
    Calls Try.prog 14 #[.slice Acs cs.length ccs, .int .i64 a, .int .i64 h] w fun e w' => e = .returned (.bool true) ∧ Below w.heap.size w w' := by
  have hn0 : cs.length ≤ maxLen := Nat.le_trans hlcs.1 hlcs.2
  go_enter Try.func14, Try.ntmps14
  go_wp2_with fail
  refine (szCakeS_any _ _ _ hn0 _).mono ?_
  rintro e w' ⟨⟨z, rfl, hz⟩, rfl⟩
  rcases hz with rfl | ⟨hz0, hsz⟩
  · go_wp2
    go_ret
    exact ⟨rfl, Below.refl _ _⟩
  · skip
    obtain ⟨ts, hts⟩ : ∃ ts, ts = floatT a h cs := ⟨_, rfl⟩
    have htl : ts.length ≤ 1048576 := by rw [hts]; exact floatT_len hsz
    have HTS := Lib.hid hts
    clear hts
    have hz1 : ¬ z < 0 := by omega
    have hn : cs.length ≤ 1048576 := hsz
    go_wp2_with fail
    refine (toCakeS_any _ cs rfl _ _ w hrcs hsz).mono ?_
    rintro e w1 ⟨A1, c1, rfl, o1, b1⟩
    have hg1 := (hrcs.below b1).more b1.size
    go_wp2_with fail
    refine (sOrder_b cs hsz A1 c1 w1 (Rd.ownz o1) a h HTS).mono ?_
    rintro e w2 ⟨A2, c2, rfl, o2, b2⟩
    have r2 := Rd.ownz o2
    have hg2 := (hg1.below b2).more b2.size
    clear o1
    go_wp2_with fail
    refine (toCakeS_any _ cs rfl _ _ w2 hg2 hsz).mono ?_
    rintro e w3 ⟨A3, c3, rfl, o3, b3⟩
    have hg3 := (hg2.below b3).more b3.size
    have r23 := r2.below b3
    go_wp2_with fail
    refine (iOrder_b cs hsz A3 c3 (by first | exact owz_capz o11 | exact owz_capz o3) w3 (Rd.ownz o3) a h HTS).mono ?_
    rintro e w4 ⟨A4, c4, rfl, o4, b4⟩
    have hg4 := (hg3.below b4).more b4.size
    have z1 := b1.size
    have z2 := b2.size
    have z3 := b3.size
    have z4 := b4.size
    have r24 := r23.below (b4.mono b3.size)
    have o34 := owz_below o3 b4
    have bl4 : Below w.heap.size w w4 := ((b1.trans (b2.mono b1.size)).trans (b3.mono (by omega))).trans (b4.mono (by omega))
    clear hg1 hg2 hg3 r2 r23
    go_wp2_with fail
    refine (eqI_b ts _ _ _ _ w4 w4.heap.size (Rd.ownz o4) (r24.more (by omega)) htl).mono ?_
    rintro e w5 ⟨rfl, b5⟩
    have z5 := b5.size
    have hg5 := (hg4.below b5).more b5.size
    have o45 := owz_below o4 b5
    have r25 := r24.below (b5.mono (by omega))
    have o35 := owz_below o34 b5
    have bl5 := bl4.trans (b5.mono (by omega))
    clear hg4 o4 r24 o34 bl4
    go_wp2_with fail
    refine (toCakeS_any _ cs rfl _ _ w5 hg5 hsz).mono ?_
    rintro e w6 ⟨A6, c6, rfl, o6, b6⟩
    have z6 := b6.size
    have o46 := owz_below o45 b6
    have r26 := r25.below (b6.mono (by omega))
    have o36 := owz_below o35 b6
    have bl6 := bl5.trans (b6.mono (by omega))
    clear hg5 o45 r25 o35 bl5
    go_wp2_with fail
    refine (eqCakeS_same _ cs rfl _ _ _ _ w6 _ (Nat.le_refl _) (Rd.ownz o36) (Rd.ownz o6) hsz).mono ?_
    rintro e w7 ⟨rfl, b7⟩
    have z7 := b7.size
    have o47 := owz_below o46 b7
    have r27 := r26.below (b7.mono (by omega))
    have o37 := owz_below o36 b7
    have bl7 := bl6.trans (b7.mono (by omega))
    clear o46 r26 o36 bl6 o6
    have HO3 := Lib.hid (owz_lt o3)
    go_wp2_with fail
    refine (markCakeS_any _ cs rfl A3 c3 w7 w2.heap.size o37 1 (by omega) (by omega) hsz).mono ?_
    rintro e w8 ⟨rfl, o38, g8⟩
    have bl8 := only_below bl7 g8 (by omega) (fun k hk => by have := owz_block o37 k hk; omega)
    have s8 := g8.size
    have FR := Lib.hid (fr_of_grown o37 HO3.out g8)
    have k1 : ¬ ((1 : Int) + 2 * ((cs.length : Nat) : Int)) < 0 := by omega
    have k2 : (1 : Int) + 2 * ((cs.length : Nat) : Int) ≤ 3000000 := by omega
    clear g8 o38
    have z8 : w7.heap.size ≤ w8.heap.size := s8
    have o48 := owz_far (w' := w8) o47 (fun k hk hk2 => FR.out k hk2 (.inr hk))
    have r28 : Rd w8 w2.heap.size A2 (ints ts) := r27.keep fun p hp => World.cell?_of_block (FR.out p.block (by omega) (.inl hp))
    clear o47 r27 o37
    go_wp2_with fail
    refine (eqI_b ts _ _ _ _ w8 w8.heap.size (Rd.ownz o48) (r28.more (by omega)) htl).mono ?_
    rintro e w9 ⟨rfl, b9⟩
    have z9 := b9.size
    have o49 := owz_below o48 b9
    have r29 := r28.below (b9.mono (by omega))
    have bl9 := bl8.trans (b9.mono (by omega))
    clear o48 r28 bl8
    go_wp2_with fail
    refine (markIntS_any _ _ _ _ w9 w3.heap.size o49 1 (by omega) (by omega) htl).mono ?_
    rintro e w10 ⟨rfl, o410, g10⟩
    go_wp2_with fail
    refine (heldIntS_any _ _ _ _ _ 1 (Rd.ownz o410) (by omega) (by omega) htl).mono ?_
    rintro e w' ⟨rfl, rfl⟩
    have z10 := g10.size
    have LW : Hid (∀ k, k < w2.heap.size → w10.heap[k]? = w9.heap[k]?) := Lib.hid (fun k hk => g10.block k (by omega) (fun e => by have := owz_block o49 k e.symm; omega))
    have r210 : Rd w10 w2.heap.size A2 (ints ts) := r29.keep fun p hp => World.cell?_of_block (LW.out _ hp)
    have bl10 : Below w.heap.size w w10 := only_below bl9 g10 (by omega) (fun k hk => by have := owz_block o49 k hk; omega)
    have hg10 := (hrcs.below bl10).more bl10.size
    clear r29 o49 bl9 g10
    go_wp2_with fail
    refine (toCakeS_any _ cs rfl _ _ w10 hg10 hsz).mono ?_
    rintro e w11 ⟨A11, c11, rfl, o11, b11⟩
    go_wp2_with fail
    refine (iOrder_b cs hsz A11 c11 (by first | exact owz_capz o11 | exact owz_capz o3) w11 (Rd.ownz o11) a h HTS).mono ?_
    rintro e w12 ⟨A12, c12, rfl, o12, b12⟩
    have z11 := b11.size
    have z12 := b12.size
    have b112 := b11.trans (b12.mono b11.size)
    have r212 : Rd w12 w2.heap.size A2 (ints ts) := r210.below (b112.mono (by omega))
    have o412 := owz_below o410 b112
    have bl12 := bl10.trans (b112.mono (by omega))
    clear r210 o410 bl10 b112
    go_wp2_with fail
    refine (eqI_b ts _ _ _ _ w12 w12.heap.size (Rd.ownz o12) (r212.more (by omega)) htl).mono ?_
    rintro e w13 ⟨rfl, b13⟩
    have o413 := owz_below o412 b13
    have bl13 := bl12.trans (b13.mono (by omega))
    clear o412 r212 bl12 o12
    go_wp2_with fail
    refine (heldIntS_any _ _ _ _ _ 1 (Rd.ownz o413) (by omega) (by omega) htl).mono ?_
    rintro e w' ⟨rfl, rfl⟩
    go_wp2
    go_ret
    exact ⟨rfl, bl13⟩

set_option maxRecDepth 100000 in
theorem lifted (os : Os) (started : os.Started) (H : Type) (enc : TypeId × Value → H) :
    ReturnsInHanded {} Try.checked os 14 .any (Rows.fnExactFloatOrderSpec.pre6 enc Try.prog Try.f14 Rows.fnExactFloatOrderRow.domain false) (Rows.fnExactFloatOrderSpec.post enc Try.prog Try.f14 false true false false) := by
  refine returnsInHanded_of_change (C := Try.checked) ownNone started (by kernel_rfl) Try.func14
    (ChangeSpec.witness6 (enc := enc) (C := Try.checked) false ⟨#[], #[.slice none 0 0, .int .i64 0, .int .i64 0], []⟩ 8 (by kernel_rfl) (by kernel_rfl) (by kernel_rfl) (by kernel_rfl)) ?_
  intro W base args ds gs before hval0 hW hcnd _
  have hval : ∀ (j : Nat) t v, Try.f14.params[j]? = some t → args[j]? = some v → Value.okWide Try.prog W .any base t v := hval0
  have hW' := hW
  obtain ⟨p, q, hA0, hV, rfl, _, _⟩ := hW
  have hA : DataW.TrodAll enc Try.prog W 0 (fun _ => true) true Try.f14.params.toList args.toList ds p := hA0
  rw [Try.params14] at hA hval
  obtain ⟨v0, vs0, d0, ds0, p0, q0, hargs, rfl, rfl, h0, r0⟩ := trodAll_cons hA
  obtain ⟨v1, vs1, d1, ds1, p1, q1, rfl, rfl, rfl, h1, r1⟩ := trodAll_cons r0
  obtain ⟨v2, vs2, d2, ds2, p2, q2, rfl, rfl, rfl, h2, r2⟩ := trodAll_cons r1
  obtain ⟨rfl, rfl, rfl⟩ := trodAll_nil r2
  obtain rfl : args = #[v0, v1, v2] := by cases args; simp_all
  obtain ⟨rfl, rfl⟩ := trodVars_none hV
  obtain ⟨Acs, ccs, cs, rfl, hrcs, hlcs⟩ := Opn.open_rdC Try.underlying40 (hval 0 40 v0 rfl rfl) h0
  obtain ⟨a, rfl, rfl, rfl, w1⟩ := open_int Try.underlying3 (hval 1 3 v1 rfl rfl) h1
  obtain ⟨h, rfl, rfl, rfl, w2⟩ := open_int Try.underlying3 (hval 2 3 v2 rfl rfl) h2
  clear hA0 hval0
  refine (walk W cs Acs ccs hrcs hlcs a h).mono fun e W' ⟨he, hg⟩ => ?_
  subst he
  exact ⟨_, rfl, law_post laidOut (by kernel_rfl) rfl rfl rfl rfl rfl Try.underlying4 hW' hg⟩

/-- The statement. -/
theorem proved : Rows.FnExactFloatOrderSaid :=
  OpenClaim.holds_of_wide 14 Try.f14 rfl rfl rfl rfl rfl rfl rfl ⟨rfl, rfl, rfl, rfl, rfl⟩ rfl rfl rfl rfl rfl (by kernel_rfl) Try.func14 (by kernel_rfl)
    (of_decide_eq_true (by kernel_rfl)) (by unfold Func.isWrapper; first | (rw [if_pos (by decide +kernel)]; kernel_rfl) | (rw [if_neg (by decide +kernel)]; exact ⟨rfl, rfl⟩))
    (fun os started H enc _ => lifted os started H enc)
#print axioms proved
end fnExactFloatOrder

end Go.Proofs.Ytcjcdlhmhhbkgab

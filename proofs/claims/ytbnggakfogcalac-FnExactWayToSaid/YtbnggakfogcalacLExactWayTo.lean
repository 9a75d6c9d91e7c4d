/- The law FnExactWayTo: for every argument the program answers as its model, in memory of its own; the arguments read as they read before. No condition. -/
import Derived.Test.YtbnggakfogcalacExactW
import Derived.Test.YtbnggakfogcalacLaw
namespace Go.Proofs.Ytbnggakfogcalac
open Go.RowKit
set_option linter.unusedVariables false
set_option linter.unusedSimpArgs false

namespace fnExactWayTo
open Go.ChangeShapes Go.WideShapes Go.ChangeAt Go.RowKit
set_option maxRecDepth 100000 in
set_option maxHeartbeats 800000 in
theorem walk (w : World) (pp : List (List Int)) (App : Option Addr) (cpp : Nat) (hgpp : RdG w w.heap.size App pp) (hlpp : pp.length ≤ cpp ∧ cpp ≤ maxLen) (load : Int) (f : Int) (t : Int) :
    Calls Try.prog 8 #[.slice App pp.length cpp, .int .i64 load, .int .i64 f, .int .i64 t] w fun e w' => e = .returned (.bool true) ∧ Below w.heap.size w w' := by
  have hn0 : pp.length ≤ maxLen := Nat.le_trans hlpp.1 hlpp.2
  go_enter Try.func8, Try.ntmps8
  go_wp2_with fail
  refine (szIntSS_any pp _ _ _ _ hgpp hn0).mono ?_
  rintro e w' ⟨⟨z, rfl, hz⟩, rfl⟩
  rcases hz with rfl | ⟨hz0, hsz⟩
  · go_wp2
    go_ret
    exact ⟨rfl, Below.refl _ _⟩
  · skip
    have hz1 : ¬ z < 0 := by omega
    have hn : pp.length ≤ 1048576 := by unfold sizes at hsz; omega
    have htt : tot pp ≤ 1048576 := by unfold sizes at hsz; unfold tot; omega
    go_wp2_with fail
    refine (toIntSS_any pp _ _ _ hgpp hsz).mono ?_
    rintro e w1 ⟨A1, c1, xs1, rfl, o1, b1⟩
    have hg1 := (hgpp.below b1).more b1.size
    go_wp2_with fail
    refine (sWay_ans pp A1 c1 w1 load f t o1.rd hn).mono ?_
    rintro e w2 ⟨ts, hts, htl, A2, c2, rfl, o2, b2⟩
    have HTS := Lib.hid hts
    have r2 := Rd.own o2
    have hg2 := (hg1.below b2).more b2.size
    clear hts o1
    go_wp2_with fail
    refine (toIntSS_any pp _ _ _ hg2 hsz).mono ?_
    rintro e w3 ⟨A3, c3, xs3, rfl, o3, b3⟩
    have hg3 := (hg2.below b3).more b3.size
    have r23 := r2.below b3
    go_wp2_with fail
    refine (iWay_ans pp A3 c3 w3 load f t o3.rd).mono ?_
    rintro e w4 ⟨gs, hgs, hgl, A4, c4, rfl, o4, b4⟩
    obtain rfl : ts = gs := WayRel.uniq HTS.out hgs
    clear hgs hgl
    have r4 := Rd.own o4
    have hg4 := (hg3.below b4).more b4.size
    have r24 := r23.below (b4.mono b3.size)
    have o34 := o3.below (Nat.le_refl _) b4
    have z1 := b1.size
    have z2 := b2.size
    have z3 := b3.size
    have z4 := b4.size
    clear o3 hg1 hg2 hg3 r2 r23
    go_wp2_with fail
    refine (eqIntS_same ts _ _ _ _ _ _ r4 (r24.more (by omega)) htl).mono ?_
    rintro e w' ⟨rfl, n5, rfl⟩
    go_wp2_with fail
    refine (toIntSS_any pp _ _ (w4.drewN n5) hg4 hsz).mono ?_
    rintro e w6 ⟨A6, c6, xs6, rfl, o6, b6⟩
    have b6' : Below w4.heap.size w4 w6 := (below_drewN (Below.refl w4.heap.size w4) n5).trans b6
    have z6 := b6'.size
    have hg6 := (hg4.below b6').more b6'.size
    have r26 := r24.below (b6'.mono (by omega))
    have o36 := o34.below (by omega) b6'
    have o46 := own_below o4 b6'
    clear o34 o4 r24 r4
    go_wp2_with fail
    refine (eqIntSS_same pp _ _ _ _ _ _ o36.rd o6.rd hsz).mono ?_
    rintro e w' ⟨rfl, n7, rfl⟩
    have o36d : OwnG (w6.drewN n7) w2.heap.size w3.heap.size A3 pp.length c3 xs3 pp := o36.far (fun _ _ _ => rfl)
    go_wp2_with fail
    refine (markIntSS_any pp pp.length A3 c3 xs3 (w6.drewN n7) w2.heap.size w3.heap.size o36d 1 (by omega) (by omega) hsz).mono ?_
    intro e w8 hmark
    have bl6 : Below w.heap.size w w6 := ((b1.trans (b2.mono b1.size)).trans (b3.mono (by omega))).trans ((b4.mono (by omega)).trans (b6'.mono (by omega)))
    have bl8 := mark_below hmark (below_drewN bl6 n7) (by omega) (by have := bl6.size; exact this)
    obtain ⟨rfl, o38, s8, os8, tp8, ou8, fr8⟩ := hmark
    have s8' : w6.heap.size ≤ w8.heap.size := s8
    have FR := Lib.hid fr8
    clear fr8 os8 tp8 ou8 o38 o36 o36d o6 s8
    have o48 := own_far (g := 0) (w' := w8) o46 (fun k hk hk2 => FR.out k hk2 (.inr hk))
    have r28 : Rd w8 w2.heap.size A2 (ints ts) := r26.keep fun p hp => World.cell?_of_block (FR.out p.block (by show p.block < w6.heap.size; omega) (.inl hp))
    have hg8 : RdG w8 w8.heap.size App pp := ((hgpp.below bl8).more bl8.size)
    have k1 : ¬ ((1 : Int) + ((tot pp : Nat) : Int)) < 0 := by omega
    have k2 : (1 : Int) + ((tot pp : Nat) : Int) ≤ 2000000 := by omega
    clear o46 r26 hg4 hg6
    go_wp2_with fail
    refine (eqIntS_same ts _ _ _ _ _ _ (Rd.own o48) (r28.more (by omega)) htl).mono ?_
    rintro e w' ⟨rfl, n9, rfl⟩
    go_wp2_with fail
    refine (markIntS_any _ _ _ _ (w8.drewN n9) w3.heap.size (own_drewN o48 n9) 1 (by omega) (by omega) htl).mono ?_
    rintro e w10 ⟨rfl, o410, g10⟩
    go_wp2_with fail
    refine (heldIntS_any _ _ _ _ _ 1 (Rd.own o410) (by omega) (by omega) htl).mono ?_
    rintro e w' ⟨rfl, rfl⟩
    have low10 : ∀ k, k < w2.heap.size → w10.heap[k]? = w8.heap[k]? := fun k hk => g10.block k (by show k < w8.heap.size; omega) (fun e => by have := own_block o48 k e.symm; omega)
    have LW := Lib.hid low10
    have size10 : w8.heap.size ≤ w10.heap.size := g10.size
    have r210 : Rd w10 w2.heap.size A2 (ints ts) := r28.keep fun p hp => World.cell?_of_block (LW.out _ hp)
    have bl10 : Below w.heap.size w w10 := (below_drewN bl8 n9).grown g10 (by have := bl8.size; exact this) (fun k hk => by have := own_block o48 k hk; omega)
    have hg10 : RdG w10 w10.heap.size App pp := ((hgpp.below bl10).more bl10.size)
    clear low10 r28 hg8 o48
    go_wp2_with fail
    refine (toIntSS_any pp _ _ _ hg10 hsz).mono ?_
    rintro e w11 ⟨A11, c11, xs11, rfl, o11, b11⟩
    go_wp2_with fail
    refine (iWay_ans pp A11 c11 w11 load f t o11.rd).mono ?_
    rintro e w12 ⟨hs, hhs, hhl, A12, c12, rfl, o12, b12⟩
    obtain rfl : ts = hs := WayRel.uniq HTS.out hhs
    clear hhs hhl
    have z11 := b11.size
    have z12 := b12.size
    have r212 : Rd w12 w2.heap.size A2 (ints ts) := r210.below ((b11.mono (by omega)).trans (b12.mono (by omega)))
    have o412 := own_below o410 (b11.trans (b12.mono b11.size))
    have bl12 : Below w.heap.size w w12 := bl10.trans ((b11.trans (b12.mono b11.size)).mono (by have := bl10.size; exact this))
    go_wp2_with fail
    refine (eqIntS_same ts _ _ _ _ _ _ (Rd.own o12) (r212.more (by omega)) htl).mono ?_
    rintro e w' ⟨rfl, n13, rfl⟩
    go_wp2_with fail
    refine (heldIntS_any _ _ _ _ _ 1 (Rd.own (own_drewN o412 n13)) (by omega) (by omega) htl).mono ?_
    rintro e w' ⟨rfl, rfl⟩
    go_wp2
    go_ret
    exact ⟨rfl, below_drewN bl12 n13⟩

set_option maxRecDepth 100000 in
theorem lifted (os : Os) (started : os.Started) (H : Type) (enc : TypeId × Value → H) :
    ReturnsInHanded {} Try.checked os 8 .any (Rows.fnExactWayToSpec.pre6 enc Try.prog Try.f8 Rows.fnExactWayToRow.domain false) (Rows.fnExactWayToSpec.post enc Try.prog Try.f8 false true false false) := by
  refine returnsInHanded_of_change (C := Try.checked) ownNone started (by kernel_rfl) Try.func8
    (ChangeSpec.witness6 (enc := enc) (C := Try.checked) false ⟨#[], #[.slice none 0 0, .int .i64 0, .int .i64 0, .int .i64 0], []⟩ 8 (by kernel_rfl) (by kernel_rfl) (by kernel_rfl) (by kernel_rfl)) ?_
  intro W base args ds gs before hval0 hW hcnd _
  have hval : ∀ (j : Nat) t v, Try.f8.params[j]? = some t → args[j]? = some v → Value.okWide Try.prog W .any base t v := hval0
  have hW' := hW
  obtain ⟨p, q, hA0, hV, rfl, _, _⟩ := hW
  have hA : DataW.TrodAll enc Try.prog W 0 (fun _ => true) true Try.f8.params.toList args.toList ds p := hA0
  rw [Try.params8] at hA hval
  obtain ⟨v0, vs0, d0, ds0, p0, q0, hargs, rfl, rfl, h0, r0⟩ := trodAll_cons hA
  obtain ⟨v1, vs1, d1, ds1, p1, q1, rfl, rfl, rfl, h1, r1⟩ := trodAll_cons r0
  obtain ⟨v2, vs2, d2, ds2, p2, q2, rfl, rfl, rfl, h2, r2⟩ := trodAll_cons r1
  obtain ⟨v3, vs3, d3, ds3, p3, q3, rfl, rfl, rfl, h3, r3⟩ := trodAll_cons r2
  obtain ⟨rfl, rfl, rfl⟩ := trodAll_nil r3
  obtain rfl : args = #[v0, v1, v2, v3] := by cases args; simp_all
  obtain ⟨rfl, rfl⟩ := trodVars_none hV
  obtain ⟨App, cpp, pp, rfl, hgpp, hlpp⟩ := Opn.open_rdG Try.underlying22 Try.underlying31 Try.underlying3 cellsInts cellsInt (hval 0 22 v0 rfl rfl) h0
  obtain ⟨load, rfl, rfl, rfl, w1⟩ := open_int Try.underlying3 (hval 1 3 v1 rfl rfl) h1
  obtain ⟨f, rfl, rfl, rfl, w2⟩ := open_int Try.underlying3 (hval 2 3 v2 rfl rfl) h2
  obtain ⟨t, rfl, rfl, rfl, w3⟩ := open_int Try.underlying3 (hval 3 3 v3 rfl rfl) h3
  clear hA0 hval0
  refine (walk W pp App cpp hgpp hlpp load f t).mono fun e W' ⟨he, hg⟩ => ?_
  subst he
  exact ⟨_, rfl, law_post laidOut (by kernel_rfl) rfl rfl rfl rfl rfl Try.underlying4 hW' hg⟩

/-- The statement. -/
theorem proved : Rows.FnExactWayToSaid :=
  OpenClaim.holds_of_wide 8 Try.f8 rfl rfl rfl rfl rfl rfl rfl ⟨rfl, rfl, rfl, rfl, rfl⟩ rfl rfl rfl rfl rfl (by kernel_rfl) Try.func8 (by kernel_rfl)
    (of_decide_eq_true (by kernel_rfl)) (by unfold Func.isWrapper; first | (rw [if_pos (by decide +kernel)]; kernel_rfl) | (rw [if_neg (by decide +kernel)]; exact ⟨rfl, rfl⟩))
    (fun os started H enc _ => lifted os started H enc)
#print axioms proved
end fnExactWayTo

end Go.Proofs.Ytbnggakfogcalac

/- The law FnExactCutCell: for every argument the program answers as its model, in memory of its own; the arguments read as they read before. No condition. -/
import Derived.Test.YtbnggakfogcalabGExact
import Derived.Test.YtbnggakfogcalabLaw
namespace Go.Proofs.Ytbnggakfogcalab
open Go.RowKit
set_option linter.unusedVariables false
set_option linter.unusedSimpArgs false

namespace fnExactCutCell
open Go.ChangeShapes Go.WideShapes Go.ChangeAt Go.RowKit
set_option maxRecDepth 100000 in
set_option maxHeartbeats 800000 in
set_option maxRecDepth 100000 in
set_option maxRecDepth 100000 in
set_option maxHeartbeats 8000000 in
theorem walk (w : World) (pp : List (List Int)) (App : Option Addr) (cpp : Nat) (hgpp : RdG w w.heap.size App pp) (hlpp : pp.length ≤ cpp ∧ cpp ≤ maxLen) (z : Int) :
    Calls Try.prog 12 #[.slice App pp.length cpp, .int .i64 z] w fun e w' => e = .returned (.bool true) ∧ Below w.heap.size w w' := by
  have hn0 : pp.length ≤ maxLen := Nat.le_trans hlpp.1 hlpp.2
  go_enter Try.func12, Try.ntmps12
  go_wp2_with fail
  refine (szIntSS_any pp _ _ _ _ hgpp hn0).mono ?_
  rintro e w' ⟨⟨z0, rfl, hz⟩, rfl⟩
  rcases hz with rfl | ⟨hz0, hsz⟩
  · go_wp2
    go_ret
    exact ⟨rfl, Below.refl _ _⟩
  · skip
    have hz1 : ¬ z0 < 0 := by omega
    have hn : pp.length ≤ 1048576 := by unfold sizes at hsz; omega
    have htt : tot pp ≤ 1048576 := by unfold sizes at hsz; unfold tot; omega
    obtain ⟨ts, hts⟩ : ∃ ts, ts = cutT pp z := ⟨_, rfl⟩
    have hst : sizes ts ≤ 1048576 := by rw [hts]; exact sizes_cut hsz
    have htq : tot ts ≤ 1048576 := by unfold sizes at hst; unfold tot; omega
    have HTS := Lib.hid hts
    have HST := Lib.hid hst
    clear hts hst
    go_wp2_with fail
    refine (toIntSS_any pp _ _ _ hgpp hsz).mono ?_
    rintro e w1 ⟨A1, c1, xs1, rfl, o1, b1⟩
    have hg1 := (hgpp.below b1).more b1.size
    go_wp2_with fail
    refine (sCut_b pp A1 c1 w1 o1.rd hn z HTS).mono ?_
    rintro e w2 ⟨A2, c2, xs2, rfl, o2, b2⟩
    have hg2 := (hg1.below b2).more b2.size
    clear o1
    go_wp2_with fail
    refine (toIntSS_any pp _ _ _ hg2 hsz).mono ?_
    rintro e w3 ⟨A3, c3, xs3, rfl, o3, b3⟩
    have hg3 := (hg2.below b3).more b3.size
    have o23 := o2.below (Nat.le_refl _) b3
    go_wp2_with fail
    refine (iCut_b pp A3 c3 w3 o3.rd z HTS).mono ?_
    rintro e w4 ⟨A4, c4, xs4, rfl, o4, b4⟩
    have hg4 := (hg3.below b4).more b4.size
    have z1 := b1.size
    have z2 := b2.size
    have z3 := b3.size
    have z4 := b4.size
    have o24 := o23.below z3 b4
    have o34 := o3.below (Nat.le_refl _) b4
    have bl4 : Below w.heap.size w w4 := ((b1.trans (b2.mono b1.size)).trans (b3.mono (by omega))).trans (b4.mono (by omega))
    clear o3 o2 o23 hg1 hg2 hg3
    go_wp2_with fail
    refine (eqIntSS_same ts _ _ _ _ w4 _ o4.rd o24.rd HST.out).mono ?_
    rintro e w' ⟨rfl, n5, rfl⟩
    go_wp2_with fail
    refine (toIntSS_any pp _ _ (w4.drewN n5) (hg4.drewN n5) hsz).mono ?_
    rintro e w6 ⟨A6, c6, xs6, rfl, o6, b6⟩
    have b6' : Below w4.heap.size w4 w6 := (below_drewN (Below.refl w4.heap.size w4) n5).trans b6
    have z6 := b6'.size
    have o46 := o4.below (Nat.le_refl _) b6'
    have o26 := o24.below (by omega) b6'
    have o36 := o34.below (by omega) b6'
    have bl6 := bl4.trans (b6'.mono (by omega))
    clear o4 o24 o34 hg4 bl4
    go_wp2_with fail
    refine (eqIntSS_same pp _ _ _ _ _ _ o36.rd o6.rd hsz).mono ?_
    rintro e w' ⟨rfl, n7, rfl⟩
    have o36d : OwnG (w6.drewN n7) w2.heap.size w3.heap.size A3 pp.length c3 xs3 pp := o36.far (fun _ _ _ => rfl)
    go_wp2_with fail
    refine (markIntSS_any pp pp.length A3 c3 xs3 (w6.drewN n7) w2.heap.size w3.heap.size o36d 1 (by omega) (by omega) hsz).mono ?_
    intro e w8 hmark
    have bl8 := mark_below hmark (below_drewN bl6 n7) (by omega) (by have := bl6.size; exact this)
    obtain ⟨rfl, o38, s8, os8, tp8, ou8, fr8⟩ := hmark
    have s8' : w6.heap.size ≤ w8.heap.size := s8
    have FR : Hid (∀ q, q < w6.heap.size → (q < w2.heap.size ∨ w3.heap.size ≤ q) → w8.heap[q]? = w6.heap[q]?) := Lib.hid fr8
    clear fr8 os8 tp8 ou8 o38 o36 o36d o6 s8
    have o48 : OwnG w8 w3.heap.size w4.heap.size A4 ts.length c4 xs4 ts := o46.far (fun k hk hk2 => FR.out k (by omega) (.inr hk))
    have o28 : OwnG w8 w1.heap.size w2.heap.size A2 ts.length c2 xs2 ts := o26.far (fun k hk hk2 => FR.out k (by omega) (.inl hk2))
    have k1 : ¬ ((1 : Int) + ((tot pp : Nat) : Int)) < 0 := by omega
    have k2 : (1 : Int) + ((tot pp : Nat) : Int) ≤ 2000000 := by omega
    clear o46 o26
    go_wp2_with fail
    refine (eqIntSS_same ts _ _ _ _ w8 _ o48.rd o28.rd HST.out).mono ?_
    rintro e w' ⟨rfl, n9, rfl⟩
    have o49 : OwnG (w8.drewN n9) w3.heap.size w4.heap.size A4 ts.length c4 xs4 ts := o48.far (fun _ _ _ => rfl)
    go_wp2_with fail
    refine (markIntSS_any ts ts.length A4 c4 xs4 (w8.drewN n9) w3.heap.size w4.heap.size o49 1 (by omega) (by omega) HST.out).mono ?_
    intro e w10 hmark
    have bl10 := mark_below hmark (below_drewN bl8 n9) (by omega) (by have := bl8.size; exact this)
    obtain ⟨rfl, o410, s10, os10, tp10, ou10, fr10⟩ := hmark
    have s10' : w8.heap.size ≤ w10.heap.size := s10
    have FR2 : Hid (∀ q, q < w8.heap.size → (q < w3.heap.size ∨ w4.heap.size ≤ q) → w10.heap[q]? = w8.heap[q]?) := Lib.hid fr10
    clear fr10 os10 tp10 ou10 o48 o49 s10
    have o210 : OwnG w10 w1.heap.size w2.heap.size A2 ts.length c2 xs2 ts := o28.far (fun k hk hk2 => FR2.out k (by omega) (.inl (by omega)))
    clear o28
    go_wp2_with fail
    refine (heldIntSS_any ts ts.length rfl _ _ _ _ 1 o410.rd (by omega) (by omega) HST.out).mono ?_
    rintro e w' ⟨rfl, rfl⟩
    have hg10 : RdG w10 w10.heap.size App pp := ((hgpp.below bl10).more bl10.size)
    go_wp2_with fail
    refine (toIntSS_any pp _ _ _ hg10 hsz).mono ?_
    rintro e w11 ⟨A11, c11, xs11, rfl, o11, b11⟩
    go_wp2_with fail
    refine (iCut_b pp A11 c11 w11 o11.rd z HTS).mono ?_
    rintro e w12 ⟨A12, c12, xs12, rfl, o12, b12⟩
    have z11 := b11.size
    have z12 := b12.size
    have b112 := b11.trans (b12.mono b11.size)
    have o212 := o210.below (by omega) b112
    have o412 := o410.below (by omega) b112
    have bl12 := bl10.trans (b112.mono (by have := bl10.size; exact this))
    clear o210 o410 o11
    go_wp2_with fail
    refine (eqIntSS_same ts _ _ _ _ w12 _ o12.rd o212.rd HST.out).mono ?_
    rintro e w' ⟨rfl, n13, rfl⟩
    have o413 : OwnG (w12.drewN n13) w3.heap.size w4.heap.size A4 ts.length c4 xs4 (mkG 1 ts) := o412.far (fun _ _ _ => rfl)
    have k3 : ¬ ((1 : Int) + ((tot ts : Nat) : Int)) < 0 := by omega
    go_wp2_with fail
    refine (heldIntSS_any ts ts.length rfl _ _ _ _ 1 o413.rd (by omega) (by omega) HST.out).mono ?_
    rintro e w' ⟨rfl, rfl⟩
    go_wp2
    go_ret
    exact ⟨rfl, below_drewN bl12 n13⟩

set_option maxRecDepth 100000 in
theorem lifted (os : Os) (started : os.Started) (H : Type) (enc : TypeId × Value → H) :
    ReturnsInHanded {} Try.checked os 12 .any (Rows.fnExactCutCellSpec.pre6 enc Try.prog Try.f12 Rows.fnExactCutCellRow.domain false) (Rows.fnExactCutCellSpec.post enc Try.prog Try.f12 false true false false) := by
  refine returnsInHanded_of_change (C := Try.checked) ownNone started (by kernel_rfl) Try.func12
    (ChangeSpec.witness6 (enc := enc) (C := Try.checked) false ⟨#[], #[.slice none 0 0, .int .i64 0], []⟩ 8 (by kernel_rfl) (by kernel_rfl) (by kernel_rfl) (by kernel_rfl)) ?_
  intro W base args ds gs before hval0 hW hcnd _
  have hval : ∀ (j : Nat) t v, Try.f12.params[j]? = some t → args[j]? = some v → Value.okWide Try.prog W .any base t v := hval0
  have hW' := hW
  obtain ⟨p, q, hA0, hV, rfl, _, _⟩ := hW
  have hA : DataW.TrodAll enc Try.prog W 0 (fun _ => true) true Try.f12.params.toList args.toList ds p := hA0
  rw [Try.params12] at hA hval
  obtain ⟨v0, vs0, d0, ds0, p0, q0, hargs, rfl, rfl, h0, r0⟩ := trodAll_cons hA
  obtain ⟨v1, vs1, d1, ds1, p1, q1, rfl, rfl, rfl, h1, r1⟩ := trodAll_cons r0
  obtain ⟨rfl, rfl, rfl⟩ := trodAll_nil r1
  obtain rfl : args = #[v0, v1] := by cases args; simp_all
  obtain ⟨rfl, rfl⟩ := trodVars_none hV
  obtain ⟨App, cpp, pp, rfl, hgpp, hlpp⟩ := Opn.open_rdG Try.underlying22 Try.underlying35 Try.underlying3 cellsInts cellsInt (hval 0 22 v0 rfl rfl) h0
  obtain ⟨z, rfl, rfl, rfl, w1⟩ := open_int Try.underlying3 (hval 1 3 v1 rfl rfl) h1
  clear hA0 hval0
  refine (walk W pp App cpp hgpp hlpp z).mono fun e W' ⟨he, hg⟩ => ?_
  subst he
  exact ⟨_, rfl, law_post laidOut (by kernel_rfl) rfl rfl rfl rfl rfl Try.underlying4 hW' hg⟩

/-- The statement. -/
theorem proved : Rows.FnExactCutCellSaid :=
  OpenClaim.holds_of_wide 12 Try.f12 rfl rfl rfl rfl rfl rfl rfl ⟨rfl, rfl, rfl, rfl, rfl⟩ rfl rfl rfl rfl rfl (by kernel_rfl) Try.func12 (by kernel_rfl)
    (of_decide_eq_true (by kernel_rfl)) (by unfold Func.isWrapper; first | (rw [if_pos (by decide +kernel)]; kernel_rfl) | (rw [if_neg (by decide +kernel)]; exact ⟨rfl, rfl⟩))
    (fun os started H enc _ => lifted os started H enc)
#print axioms proved
end fnExactCutCell

end Go.Proofs.Ytbnggakfogcalab

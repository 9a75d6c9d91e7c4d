/- The law FnTakeCake: for every code it answers true, and the code reads as it read before. No condition. -/
import Derived.Test.YtbnggakfogcalaaHLaw
import Derived.Test.YtbnggakfogcalaaHDraws
import Derived.Test.YtbnggakfogcalaaLaw
namespace Go.Proofs.Ytbnggakfogcalaa
open Go.RowKit
set_option linter.unusedVariables false
set_option linter.unusedSimpArgs false

namespace fnTakeCake
open Go.ChangeShapes Go.WideShapes Go.ChangeAt Go.RowKit
set_option maxRecDepth 100000 in
set_option maxHeartbeats 800000 in
set_option maxRecDepth 100000 in
set_option maxRecDepth 100000 in
set_option maxHeartbeats 8000000 in
theorem walk (w : World) (cs : List Int) (Acs : Option Addr) (ccs : Nat) (hrcs : Rd w w.heap.size Acs (bytes cs)) (hbcs : ∀ z ∈ cs, 0 ≤ z ∧ z ≤ 255) (hlcs : cs.length ≤ ccs ∧ ccs ≤ maxLen) :
    Calls Try.prog 7 #[.slice Acs cs.length ccs] w fun e w' => e = .returned (.bool true) ∧ Below w.heap.size w w' := by
  by_cases hn : cs.length ≤ 1048576
  · go_enter Try.func7, Try.ntmps7
    go_wp2_with fail
    refine (dTakeCake _ _ _ _ hrcs hbcs hlcs.1 hlcs.2).mono ?_
    rintro e w1 ⟨pp, Ap, cp, t, rfl, ⟨hpl, hpc, hcm, hg⟩, hbt, b1⟩
    have hn1 : pp.length ≤ 1048576 := by omega
    obtain ⟨ts, hts⟩ : ∃ ts, ts = takeT pp t := ⟨_, rfl⟩
    have hrw := rows_or (pp := ts) (by rw [hts]; exact takeT_heap)
    have hql := hrw.1
    have HQR := hrw.2
    have HTS := Lib.hid hts
    clear hts hrw
    go_wp2_with fail
    refine (iTake_b pp Ap cp w1 hg t HTS).mono ?_
    rintro e w2 ⟨A2, c2, xs2, rfl, o2, b2⟩
    have hg2 := hg.up b2
    go_wp2_with fail
    refine (sTake_b pp Ap cp w2 hg2 hn1 t HTS).mono ?_
    rintro e w3 ⟨A3, c3, xs3, rfl, o3, b3⟩
    have hg3 := hg2.up b3
    have r23 := o2.rd.up b3
    have bl3 : Below w.heap.size w w3 := (b1.trans (b2.mono b1.size)).trans (b3.mono (by have := b1.size; have := b2.size; omega))
    go_wp2_with fail
    refine (eqH_b ts A2 A3 c2 c3 w3 w3.heap.size r23 o3.rd hql HQR).mono ?_
    rintro e w4 ⟨rfl, b4⟩
    have hg4 := hg3.up b4
    have r24 := r23.up b4
    have bl4 := bl3.trans (b4.mono bl3.size)
    have o24 : OwnG w4 w1.heap.size w2.heap.size A2 ts.length c2 xs2 ts := (o2.below (Nat.le_refl _) b3).below b3.size b4
    clear o2 o3 b1 b2 b3 b4 hg hg2 hg3 r23 bl3
    by_cases h0 : ts.length = 0
    · have hz0 : ((ts.length : Int) == 0) = true := beq_iff_eq.2 (by omega)
      have HZ0 := Lib.hid h0
      clear h0 o24
      go_wp2_with fail
      refine (sTake_b pp Ap cp w4 hg4 hn1 t HTS).mono ?_
      rintro e w5 ⟨A5, c5, xs5, rfl, o5, b5⟩
      go_wp2_with fail
      refine (eqH_b ts A2 A5 c2 c5 w5 w5.heap.size (r24.up b5) o5.rd hql HQR).mono ?_
      rintro e w6 ⟨rfl, b6⟩
      have bl6 := bl4.trans ((b5.trans (b6.mono b5.size)).mono bl4.size)
      clear o5 b5 b6
      go_wp2
      go_ret
      exact ⟨rfl, bl6⟩
    · have hz0 : ((ts.length : Int) == 0) = false := beq_eq_false_iff_ne.2 (by omega)
      have hz1 : ¬ (ts.length : Int) = 0 := by omega
      rcases takeT_some (pp := pp) (z := t) with h | ⟨k, rfl, hv, hk, h12, hts⟩
      · have := HTS.out
        rw [h] at this
        subst this
        exact absurd rfl h0
      rw [← HTS.out] at hts
      have hcb := cakes_bd hv
      have hcd : cakesF (addF pp k (-1)) = cakesF pp - 1 := by rw [cakes_add hv hk]; omega
      have ht := heap_thk hv hk
      have hv2 : heapB ts = true := by rw [hts]; exact addF_heap hv (by omega)
      have HA : Hid (addT ts (k : Int) = pp) := Lib.hid (by
        rw [hts, addT_ok (by rw [← hts]; exact hv2) (by rw [addF_cnt]; exact hk) (by
          have h3 : thk (addF pp k (-1)) k = thk pp k + -1 := by unfold addF; rw [set_thk (heap_pond hv) hk hk, if_pos rfl]
          rw [h3]; omega)]
        exact addF_back (a := -1) (heap_pond hv) hk)
      have hrp := rows_or (pp := pp) (.inr hv)
      have HRP := hrp.2
      have HC1 := Lib.hid (fun (w' : World) (h : Below w4.heap.size w4 w') => iCakesH_any ts A2 c2 w' _ (r24.up h))
      rw [cakesHT_ok hv2, hts, hcd, ← hts] at HC1
      have HC2 := Lib.hid (fun (w' : World) (h : Below w4.heap.size w4 w') => iCakesH_any pp Ap cp w' _ (hg4.up h))
      rw [cakesHT_ok hv] at HC2
      have HAD := Lib.hid (iAdd_b (ts := pp) ts A2 c2 w4 r24 (k : Int) (Lib.hid HA.out.symm))
      have HG4 := Lib.hid hg4
      have j6 : IntKind.i64.wrap (cakesF pp - 1) = cakesF pp - 1 := IntWalk.i64_in _ (by omega)
      clear h12 hcd ht hts hrp h0 o24 hv2 hv hg4 r24
      generalize cakesF pp = q at *
      go_wp2_with fail
      refine (HAD.out).mono ?_
      rintro e w5 ⟨A5, c5, xs5, rfl, o5, b5⟩
      go_wp2_with fail
      refine (eqH_b pp A5 Ap c5 cp w5 w5.heap.size o5.rd (HG4.out.up b5) hn1 HRP).mono ?_
      rintro e w6 ⟨rfl, b6⟩
      have b46 := b5.trans (b6.mono b5.size)
      have H1 := Lib.hid (HC1.out w6 b46)
      have H2 := Lib.hid (HC2.out w6 b46)
      have bl6 := bl4.trans (b46.mono bl4.size)
      clear o5 b5 b6 b46
      go_wp2_with fail
      refine (H1.out).mono ?_
      rintro e w' ⟨rfl, rfl⟩
      go_wp2_with fail
      refine (H2.out).mono ?_
      rintro e w' ⟨rfl, rfl⟩
      go_wp2
      go_ret
      exact ⟨rfl, bl6⟩
  · have hn' : 1048576 < cs.length := by omega
    go_enter Try.func7, Try.ntmps7
    go_wp2
    go_ret
    exact ⟨rfl, Below.refl _ _⟩

set_option maxRecDepth 100000 in
theorem lifted (os : Os) (started : os.Started) (H : Type) (enc : TypeId × Value → H) :
    ReturnsInHanded {} Try.checked os 7 .any (Rows.fnTakeCakeSpec.pre6 enc Try.prog Try.f7 Rows.fnTakeCakeRow.domain false) (Rows.fnTakeCakeSpec.post enc Try.prog Try.f7 false true false false) := by
  refine returnsInHanded_of_change (C := Try.checked) ownNone started (by kernel_rfl) Try.func7
    (ChangeSpec.witness6 (enc := enc) (C := Try.checked) false ⟨#[], #[.slice none 0 0], []⟩ 8 (by kernel_rfl) (by kernel_rfl) (by kernel_rfl) (by kernel_rfl)) ?_
  intro W base args ds gs before hval0 hW hcnd _
  have hval : ∀ (j : Nat) t v, Try.f7.params[j]? = some t → args[j]? = some v → Value.okWide Try.prog W .any base t v := hval0
  have hW' := hW
  obtain ⟨p, q, hA0, hV, rfl, _, _⟩ := hW
  have hA : DataW.TrodAll enc Try.prog W 0 (fun _ => true) true Try.f7.params.toList args.toList ds p := hA0
  rw [Try.params7] at hA hval
  obtain ⟨v0, vs0, d0, ds0, p0, q0, hargs, rfl, rfl, h0, r0⟩ := trodAll_cons hA
  obtain ⟨rfl, rfl, rfl⟩ := trodAll_nil r0
  obtain rfl : args = #[v0] := by cases args; simp_all
  obtain ⟨rfl, rfl⟩ := trodVars_none hV
  obtain ⟨Acs, ccs, cs, rfl, hrcs, hlcs, hqcs⟩ := open_rd Try.underlying22 Try.underlying5 cellsByte (hval 0 22 v0 rfl rfl) h0
  have hbcs := byte_bounds hqcs
  clear hA0 hval0
  refine (walk W cs Acs ccs hrcs hbcs hlcs).mono fun e W' ⟨he, hg⟩ => ?_
  subst he
  exact ⟨_, rfl, law_post laidOut (by kernel_rfl) rfl rfl rfl rfl rfl Try.underlying4 hW' hg⟩

/-- The statement. -/
theorem proved : Rows.FnTakeCakeSaid :=
  OpenClaim.holds_of_wide 7 Try.f7 rfl rfl rfl rfl rfl rfl rfl ⟨rfl, rfl, rfl, rfl, rfl⟩ rfl rfl rfl rfl rfl (by kernel_rfl) Try.func7 (by kernel_rfl)
    (of_decide_eq_true (by kernel_rfl)) (by unfold Func.isWrapper; first | (rw [if_pos (by decide +kernel)]; kernel_rfl) | (rw [if_neg (by decide +kernel)]; exact ⟨rfl, rfl⟩))
    (fun os started H enc _ => lifted os started H enc)
#print axioms proved
end fnTakeCake

end Go.Proofs.Ytbnggakfogcalaa

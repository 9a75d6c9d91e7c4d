/- The law FnValidHeap: for every code it answers true, and the code reads as it read before. No condition. -/
import Derived.Test.YtbnggakfogcalaaHLaw
import Derived.Test.YtbnggakfogcalaaHZero
import Derived.Test.YtbnggakfogcalaaHDraws
import Derived.Test.YtbnggakfogcalaaLaw
namespace Go.Proofs.Ytbnggakfogcalaa
open Go.RowKit
set_option linter.unusedVariables false
set_option linter.unusedSimpArgs false

namespace fnValidHeap
open Go.ChangeShapes Go.WideShapes Go.ChangeAt Go.RowKit
set_option maxRecDepth 100000 in
set_option maxHeartbeats 800000 in
set_option maxRecDepth 100000 in
set_option maxRecDepth 100000 in
set_option maxHeartbeats 8000000 in
theorem walk (w : World) (cs : List Int) (Acs : Option Addr) (ccs : Nat) (hrcs : Rd w w.heap.size Acs (bytes cs)) (hbcs : ∀ z ∈ cs, 0 ≤ z ∧ z ≤ 255) (hlcs : cs.length ≤ ccs ∧ ccs ≤ maxLen) :
    Calls Try.prog 3 #[.slice Acs cs.length ccs] w fun e w' => e = .returned (.bool true) ∧ Below w.heap.size w w' := by
  by_cases hn : cs.length ≤ 1048576
  · go_enter Try.func3, Try.ntmps3
    go_wp2_with fail
    refine (dValidHeap _ _ _ _ hrcs hbcs hlcs.1 hlcs.2).mono ?_
    rintro e w1 ⟨pp, Ap, cp, rfl, ⟨hpl, hpc, hcm, hg⟩, b1⟩
    have hn1 : pp.length ≤ 1048576 := by omega
    go_wp2_with fail
    refine (iHeap_b pp Ap cp w1 hg).mono ?_
    rintro e w2 ⟨rfl, b2⟩
    have hg2 := hg.up b2
    go_wp2_with fail
    refine (sHeap_b pp Ap cp w2 hg2 hn1).mono ?_
    rintro e w3 ⟨rfl, b3⟩
    have hg3 := hg2.up b3
    have bl3 : Below w.heap.size w w3 := (b1.trans (b2.mono b1.size)).trans (b3.mono (by have := b1.size; have := b2.size; omega))
    clear b1 b2 b3 hg hg2
    cases hv : heapB pp
    · have HS := Lib.hid (sHeap_b pp Ap cp w3 hg3 hn1)
      rw [hv] at HS
      clear hv
      go_wp2_with fail
      refine (HS.out).mono ?_
      rintro e w4 ⟨rfl, b4⟩
      have bl4 := bl3.trans (b4.mono bl3.size)
      clear b4
      go_wp2
      go_ret
      exact ⟨rfl, bl4⟩
    · obtain ⟨j0, hj, hy0, hy1, hy2⟩ := info_parts info_ints
      have hl := grid_len hv
      have hwd := pond_wide (heap_pond hv)
      obtain ⟨qq, hqq⟩ : ∃ qq, qq = zeroF pp := ⟨_, rfl⟩
      have hz := zero_heap hv
      have hzf := zero_faces hv
      rw [← hqq] at hz hzf
      have HZL : Hid (qq.length = pp.length) := Lib.hid (by rw [hqq]; exact zero_len pp)
      have HZA : Hid (∀ k, k < pp.length → qq[k]? = some (List.replicate (wide pp) 0)) := Lib.hid fun k hk => by rw [hqq]; exact zero_at hv hk
      have HIV : Hid (∀ A' c' w', RdG w' w'.heap.size A' qq → Calls Try.prog 16 #[.slice A' pp.length c'] w' fun e w'' => e = .returned (.bool true) ∧ w' = w'') := Lib.hid fun A' c' w' h => by
        have h2 := iHeap_any qq A' c' w' _ h
        rw [hz, HZL.out] at h2
        exact h2
      have HIF : Hid (∀ A' c' w', RdG w' w'.heap.size A' qq → Calls Try.prog 18 #[.slice A' pp.length c'] w' fun e w'' => e = .returned (.int .i64 0) ∧ w' = w'') := Lib.hid fun A' c' w' h => by
        have h2 := iFaces_any qq A' c' w' _ h
        rw [facesT_ok hz, hzf, HZL.out] at h2
        exact h2
      have HT1 : Hid (∀ w', Below w3.heap.size w3 w' → Calls Try.prog 19 #[.slice Ap pp.length cp] w' fun e w'' => ∃ A' c', e = .returned (.slice A' (tpF pp).length c') ∧ RdG w'' w''.heap.size A' (tpF pp) ∧ Below w'.heap.size w' w'') := Lib.hid fun w' hb => tpH_any pp hv (Lib.hid rfl) Ap cp w' (hg3.up hb)
      have HTV : Hid (∀ A' c' w', RdG w' w'.heap.size A' (tpF pp) → Calls Try.prog 16 #[.slice A' (tpF pp).length c'] w' fun e w'' => e = .returned (.bool true) ∧ w' = w'') := Lib.hid fun A' c' w' h => by
        have h2 := iHeap_any (tpF pp) A' c' w' _ h
        rw [heap_turned hv] at h2
        exact h2
      have HROW : Hid (∀ (k : Nat) (r : List Int), pp[k]? = some r → r.length = wide pp) := Lib.hid fun k r h => (grid_row hv h).1
      have HBL := Lib.hid bl3
      have HGG := Lib.hid hg3
      have hmk2 := run_make_row' (P := Try.prog) 26 3 (.int .i64 0) 8 Try.underlying26 info_int rfl .i64 .i64 (wide pp) (by omega) (by omega)
      clear hv hz hzf hqq bl3
      generalize (tpF pp).length = T at *
      go_wp2
      go_loopw [5, 6] (fun v i wr => ∃ (y : Nat) (xs : List Value), y ≤ pp.length ∧ i = .int .i64 y ∧ PG wr w3.heap.size v y xs (qq.take y) ∧ Below w3.heap.size w3 wr) (fun _ i _ => pp.length - (intOf i).toNat)
      case atStart => exact ⟨0, [], Nat.zero_le _, rfl, ⟨own_empty w3 _, rfl, fun k r hr => by simp at hr, fun i j u v b hu => by simp at hu, fun i u b hu => by simp at hu⟩, (Below.refl _ _).alloc (Nat.le_refl _) _⟩
      case round =>
        obtain ⟨y, xs, hyl, rfl, hpg, hbel⟩ := hrel
        have hsz := hbel.size
        by_cases hlt : y < pp.length
        · obtain ⟨b, off, row, A', c', rfl, hb, hrow, hc, hrc, hcm', hr⟩ := (hg3.below hbel).row_ hlt
          have hrl := HROW.out y row hrow.out
          rw [hrl] at hc hrc
          have HS := Lib.hid (take_snoc (HZA.out y hlt))
          have hrow3 : (wr.alloc (.cells (madeCells #[.int .i64 0] (wide pp)) 3)).ownsRow wr.heap.size 3 1 (.slice (some ⟨wr.heap.size, 0, none⟩) (wide pp) (wide pp)) (wide pp) (ints (List.replicate (wide pp) 0)) := by
            rw [ints, List.map_replicate]
            exact own_made wr (.int .i64 0) (wide pp) 3 (by unfold maxLen; omega)
          have hpg2 := hpg.below ((Below.refl _ _).alloc (Nat.le_refl _) (.cells (madeCells #[.int .i64 0] (wide pp)) 3))
          have hout3 := hpg2.out
          have HPG := Lib.hid hpg
          clear hr hrow hpg hrl
          go_wp2_with (at_builtin; refine wpList_append_own _ rfl _ _ 23 rfl (w3.heap.size) 26 j0 (.slice none 0 0) 1 24 Try.underlying23 hj hy0 hy1 hy2 rfl (by decide) _ _ _ rfl (hout3.alloc _) ⟨wr.heap.size + 1, 0, none⟩ 1 1 [.slice (some ⟨wr.heap.size, 0, none⟩) (wide pp) (wide pp)] rfl rfl ?c1 ?c2 ?c3 ?c4 ?c5 ?_)
          first | (case c1 => first | exact one_new _ _ _ _ rfl | exact one_new _ _ _ _ (by simp)) | skip
          case c2 => first | rfl | (intro u hu; simp at hu; subst hu; rfl)
          case c3 => unfold maxLen; omega
          case c4 => omega
          case c5 => first | omega | (simp; omega)
          · intro v' w5 hown' hgrow _
            have hob := own_block hout3
            have hpg5 := (hpg2.below ((Below.refl _ _).alloc (Nat.le_refl _) (.cells #[.slice (some ⟨wr.heap.size, 0, none⟩) (wide pp) (wide pp)] 26))).push (r := List.replicate (wide pp) 0) (by rw [List.length_replicate]; exact own_alloc hrow3 _) hsz HPG.out.hi_ hgrow (by rw [List.length_replicate]; exact hown')
            rw [← HS.out] at hpg5
            have hb5 : Below w3.heap.size w3 w5 := ((hbel.alloc (by omega) _).alloc (by simp; omega) (.cells #[.slice (some ⟨wr.heap.size, 0, none⟩) (wide pp) (wide pp)] 26)).grown hgrow (by simp; omega) hob
            have HP := Lib.hid (And.intro hpg5 hb5)
            clear hown' hgrow hpg5 hb5 hpg2 hout3 hrow3 hbel
            go_wp2
            go_roundw
            case rel => exact ⟨y + 1, _, by omega, by go_num, HP.out.1, HP.out.2⟩
            case measure => simp [intOf]; omega
        · obtain rfl : y = pp.length := by omega
          obtain ⟨A6, c6, rfl⟩ := own_form hpg.out
          rw [List.take_of_length_le (by rw [HZL.out]; exact Nat.le_refl _)] at hpg
          have hrq := hpg.rd
          have H1 := Lib.hid (HIV.out A6 c6 wr hrq)
          have H2 := Lib.hid (HIF.out A6 c6 wr hrq)
          have H3 := Lib.hid (HT1.out wr hbel)
          have bl4 : Below w.heap.size w wr := HBL.out.trans (hbel.mono HBL.out.size)
          clear hpg hrq hbel
          go_wp2_with fail
          refine (H1.out).mono ?_
          rintro e w' ⟨rfl, rfl⟩
          go_wp2_with fail
          refine (H2.out).mono ?_
          rintro e w' ⟨rfl, rfl⟩
          go_wp2_with fail
          refine (H3.out).mono ?_
          rintro e w5 ⟨A5, c5, rfl, g5, b5⟩
          have H4 := Lib.hid (HTV.out A5 c5 w5 g5)
          have bl5 := bl4.trans (b5.mono bl4.size)
          clear g5 b5
          go_wp2_with fail
          refine (H4.out).mono ?_
          rintro e w' ⟨rfl, rfl⟩
          go_wp2
          go_ret
          exact ⟨rfl, bl5⟩
  · have hn' : 1048576 < cs.length := by omega
    go_enter Try.func3, Try.ntmps3
    go_wp2
    go_ret
    exact ⟨rfl, Below.refl _ _⟩

set_option maxRecDepth 100000 in
theorem lifted (os : Os) (started : os.Started) (H : Type) (enc : TypeId × Value → H) :
    ReturnsInHanded {} Try.checked os 3 .any (Rows.fnValidHeapSpec.pre6 enc Try.prog Try.f3 Rows.fnValidHeapRow.domain false) (Rows.fnValidHeapSpec.post enc Try.prog Try.f3 false true false false) := by
  refine returnsInHanded_of_change (C := Try.checked) ownNone started (by kernel_rfl) Try.func3
    (ChangeSpec.witness6 (enc := enc) (C := Try.checked) false ⟨#[], #[.slice none 0 0], []⟩ 8 (by kernel_rfl) (by kernel_rfl) (by kernel_rfl) (by kernel_rfl)) ?_
  intro W base args ds gs before hval0 hW hcnd _
  have hval : ∀ (j : Nat) t v, Try.f3.params[j]? = some t → args[j]? = some v → Value.okWide Try.prog W .any base t v := hval0
  have hW' := hW
  obtain ⟨p, q, hA0, hV, rfl, _, _⟩ := hW
  have hA : DataW.TrodAll enc Try.prog W 0 (fun _ => true) true Try.f3.params.toList args.toList ds p := hA0
  rw [Try.params3] at hA hval
  obtain ⟨v0, vs0, d0, ds0, p0, q0, hargs, rfl, rfl, h0, r0⟩ := trodAll_cons hA
  obtain ⟨rfl, rfl, rfl⟩ := trodAll_nil r0
  obtain rfl : args = #[v0] := by cases args; simp_all
  obtain ⟨rfl, rfl⟩ := trodVars_none hV
  obtain ⟨Acs, ccs, cs, rfl, hrcs, hlcs, hqcs⟩ := open_rd Try.underlying22 Try.underlying5 cellsByte (hval 0 22 v0 rfl rfl) h0
  have hbcs := byte_bounds hqcs
  clear hA0 hval0
  refine (walk W cs Acs ccs hrcs hbcs hlcs).mono fun e W' ⟨he, hg⟩ => ?_
  subst he
  exact ⟨_, rfl, law_post laidOut (by kernel_rfl) rfl rfl rfl rfl rfl Try.underlying4 hW' hg⟩

/-- The statement. -/
theorem proved : Rows.FnValidHeapSaid :=
  OpenClaim.holds_of_wide 3 Try.f3 rfl rfl rfl rfl rfl rfl rfl ⟨rfl, rfl, rfl, rfl, rfl⟩ rfl rfl rfl rfl rfl (by kernel_rfl) Try.func3 (by kernel_rfl)
    (of_decide_eq_true (by kernel_rfl)) (by unfold Func.isWrapper; first | (rw [if_pos (by decide +kernel)]; kernel_rfl) | (rw [if_neg (by decide +kernel)]; exact ⟨rfl, rfl⟩))
    (fun os started H enc _ => lifted os started H enc)
#print axioms proved
end fnValidHeap

end Go.Proofs.Ytbnggakfogcalaa

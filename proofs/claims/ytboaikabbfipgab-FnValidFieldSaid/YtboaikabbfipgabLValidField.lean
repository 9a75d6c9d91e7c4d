/- The law FnValidField: for every code it answers true, and the code reads as it read before. No condition. -/
import Derived.Test.YtboaikabbfipgabFNone
import Derived.Test.YtboaikabbfipgabFDraws
import Derived.Test.YtboaikabbfipgabLaw
namespace Go.Proofs.Ytboaikabbfipgab
open Go.RowKit
set_option linter.unusedVariables false
set_option linter.unusedSimpArgs false

namespace fnValidField
open Go.ChangeShapes Go.WideShapes Go.ChangeAt Go.RowKit
set_option maxHeartbeats 800000 in
set_option maxRecDepth 100000 in
set_option maxHeartbeats 8000000 in
theorem walk (w : World) (cs : List Int) (Acs : Option Addr) (ccs : Nat) (hrcs : Rd w w.heap.size Acs (bytes cs)) (hbcs : ∀ z ∈ cs, 0 ≤ z ∧ z ≤ 255) (hlcs : cs.length ≤ ccs ∧ ccs ≤ maxLen) :
    Calls Try.prog 3 #[.slice Acs cs.length ccs] w fun e w' => e = .returned (.bool true) ∧ Below w.heap.size w w' := by
  by_cases hn : cs.length ≤ 1048576
  · go_enter Try.func3, Try.ntmps3
    go_wp2_with fail
    refine (dValidField _ _ _ _ hrcs hbcs hlcs.1 hlcs.2).mono ?_
    rintro e w1 ⟨ff, Af, cf, rfl, ⟨hpl, hpc, hcm, hg⟩, b1⟩
    have hn1 : ff.length ≤ 1048576 := by omega
    cases hv : fieldB ff
    · have cI := iVF_is ff Af cf w1 _ hg hv
      have CS := Lib.hid (fun w hg => sVF_any ff Af cf w w1.heap.size hg hn1)
      have CS2 : Hid (∀ w, RdF w w1.heap.size Af ff → Calls Try.prog 17 #[.slice Af ff.length cf] w fun e w' => e = .returned (.bool false) ∧ ∃ n, w' = w.drewN n) := Lib.hid fun w hg => by
        have := CS.out w hg
        rw [hv] at this
        exact this
      clear hv CS
      go_wp2_with fail
      refine (cI).mono ?_
      rintro e w' ⟨rfl, rfl⟩
      go_wp2_with fail
      refine (CS2.out _ hg).mono ?_
      rintro e w' ⟨rfl, n2, rfl⟩
      go_wp2_with fail
      refine (CS2.out _ (hg.drewN n2)).mono ?_
      rintro e w' ⟨rfl, n3, rfl⟩
      clear cI
      go_wp2
      go_ret
      exact ⟨rfl, below_drewN b1 _⟩
    · have cI := iVF_is ff Af cf w1 _ hg hv
      have hS : Calls Try.prog 17 #[.slice Af ff.length cf] w1 fun e w' => e = .returned (.bool true) ∧ ∃ n, w' = w1.drewN n := by
        have := sVF_any ff Af cf w1 _ hg hn1
        rw [hv] at this
        exact this
      have hf : Fld w1 w1.heap.size Af ff := ⟨hv, hg⟩
      have hl := field_len hv
      have hwd := field_wide hv
      have HN1 := Lib.hid (noneF_ok hv)
      have HN2 := Lib.hid (noneF_areaT hv)
      have HROW : Hid (∀ k, k < ff.length → ff[k]? = some (ff.getD k [])) := Lib.hid fun k hk => by rw [List.getD_eq_getElem?_getD, List.getElem?_eq_getElem hk]; rfl
      have HNL := Lib.hid (noneF_len ff)
      clear hv
      go_wp2_with fail
      refine (cI).mono ?_
      rintro e w' ⟨rfl, rfl⟩
      go_wp2_with fail
      refine (hS).mono ?_
      rintro e w' ⟨rfl, n2, rfl⟩
      obtain ⟨w3, hw3⟩ : ∃ w3, w3 = w1.drewN n2 := ⟨_, rfl⟩
      have hf3 : Fld w3 w3.heap.size Af ff := by rw [hw3]; exact hf.drewN n2
      have bl3 : Below w.heap.size w w3 := by rw [hw3]; exact below_drewN b1 _
      rw [← hw3]
      clear cI hS hf hg b1 hw3
      generalize hWW : wideB ff = W at *
      have HWW := Lib.hid hWW
      clear hWW
      obtain ⟨i0, hi, hz0, hz1, hz2⟩ := info_parts info_boolss
      have hmk := run_make_row' (P := Try.prog) 26 4 (.bool false) 1 Try.underlying26 info_bool rfl .i64 .i64 W (by omega) (by omega)
      go_wp2
      go_loopw [5, 6] (fun v i wr => ∃ (k : Nat) (xs : List Value), k ≤ ff.length ∧ i = .int .i64 k ∧ PF wr w3.heap.size v k xs (noneF (ff.take k)) ∧ Below w3.heap.size w3 wr) (fun _ i _ => ff.length - (intOf i).toNat)
      case atStart => exact ⟨0, [], Nat.zero_le _, rfl, ⟨own_empty w3 _, rfl, fun k r hr => by simp [noneF] at hr, fun i j u v b hu => by simp at hu, fun i u b hu => by simp at hu⟩, (Below.refl _ _).alloc (Nat.le_refl _) _⟩
      case round =>
        obtain ⟨k, xs, hk, rfl, hpf, hbel⟩ := hrel
        have HBEL := Lib.hid hbel
        have hsz := hbel.size
        have HPF := Lib.hid hpf
        by_cases hlt : k < ff.length
        · have hfr := hf3.up hbel
          obtain ⟨b, off, A', c', rfl, hb, hc, hc1, hc2, hr, hrl⟩ := hfr.rowk hlt
          rw [HWW.out] at hc
          have hrow := HROW.out k hlt
          have hrl2 : (ff.getD k []).length = W := by rw [hrl.out, HWW.out]
          have HS := Lib.hid (noneF_snoc hrow)
          rw [hrl2] at HS
          have hout3 : ((wr.alloc (.cells (madeCells #[.bool false] W) 4))).ownsRow w3.heap.size 26 1 u5 k xs := own_alloc hpf.out _
          have hrow3 : ((wr.alloc (.cells (madeCells #[.bool false] W) 4))).ownsRow wr.heap.size 4 1 (.slice (some ⟨wr.heap.size, 0, none⟩) W W) W (bools (List.replicate W false)) := by
            have := own_made wr (.bool false) W 4 (by unfold maxLen; omega)
            simpa [bools] using this
          have hrow4 : ((wr.alloc (.cells (madeCells #[.bool false] W) 4))).ownsRow wr.heap.size 4 1 (.slice (some ⟨wr.heap.size, 0, none⟩) (List.replicate W false).length W) (List.replicate W false).length (bools (List.replicate W false)) := by rw [List.length_replicate]; exact hrow3
          have HR4 := Lib.hid hrow4
          clear hrow hrl hrl2 hr hrow3 hrow4 hpf hfr
          go_wp2_with (at_builtin; refine wpList_append_own _ rfl _ _ 23 rfl (w3.heap.size) 26 i0 (.slice none 0 0) 1 24 Try.underlying23 hi hz0 hz1 hz2 rfl (by decide) _ _ _ rfl (hout3.alloc _) ⟨wr.heap.size + 1, 0, none⟩ 1 1 [.slice (some ⟨wr.heap.size, 0, none⟩) W W] rfl rfl ?c1 ?c2 ?c3 ?c4 ?c5 ?_)
          case c1 => first | exact one_new _ _ _ _ rfl | exact one_new _ _ _ _ (by simp)
          case c2 => first | rfl | (intro u hu; simp at hu; subst hu; rfl)
          case c3 => unfold maxLen; omega
          case c4 => omega
          case c5 => simp; omega
          · intro v' w5 hown' hgrow _
            have hob := own_block hout3
            have hown2 : w5.ownsRow w3.heap.size 26 1 v' (k + 1) (xs ++ [.slice (some ⟨wr.heap.size, 0, none⟩) (List.replicate W false).length W]) := by rw [List.length_replicate]; exact hown'
            have hpg5 := ((HPF.out.below ((Below.refl _ _).alloc (Nat.le_refl _) (.cells (madeCells #[.bool false] W) 4))).below ((Below.refl _ _).alloc (Nat.le_refl _) (.cells #[.slice (some ⟨wr.heap.size, 0, none⟩) W W] 26))).push (r := List.replicate W false) (own_alloc HR4.out _) (by omega) HPF.out.hi_ hgrow hown2
            rw [← HS.out] at hpg5
            have hb5 : Below w3.heap.size w3 w5 := ((HBEL.out.alloc (by omega) (.cells (madeCells #[.bool false] W) 4)).alloc (by simp; omega) (.cells #[.slice (some ⟨wr.heap.size, 0, none⟩) W W] 26)).grown hgrow (by simp; omega) hob
            have HP5 := Lib.hid (And.intro hpg5 hb5)
            clear hown' hgrow hpg5 hb5 hown2 hout3
            go_wp2
            go_roundw
            case rel => exact ⟨k + 1, _, by omega, by go_num, HP5.out.1, HP5.out.2⟩
            case measure => simp [intOf]; omega
        · obtain rfl : k = ff.length := by omega
          obtain ⟨A5, c5, rfl⟩ := own_form hpf.out
          have hrd := hpf.rd
          rw [List.take_length] at hrd
          have cV := iVF_is (noneF ff) A5 c5 wr _ hrd HN1.out
          have cA := iArea_any (noneF ff) A5 c5 wr _ hrd
          rw [HN2.out, HNL.out] at cA
          rw [HNL.out] at cV
          clear hpf hrd
          go_wp2_with fail
          refine (cV).mono ?_
          rintro e w' ⟨rfl, rfl⟩
          go_wp2_with fail
          refine (cA).mono ?_
          rintro e w' ⟨rfl, rfl⟩
          go_wp2
          go_ret
          exact ⟨rfl, bl3.trans (HBEL.out.mono bl3.size)⟩
  · have hn' : 1048576 < cs.length := by omega
    go_enter Try.func3, Try.ntmps3
    go_wp2
    go_ret
    exact ⟨rfl, Below.refl _ _⟩

set_option maxRecDepth 100000 in
theorem lifted (os : Os) (started : os.Started) (H : Type) (enc : TypeId × Value → H) :
    ReturnsInHanded {} Try.checked os 3 .any (Rows.fnValidFieldSpec.pre6 enc Try.prog Try.f3 Rows.fnValidFieldRow.domain false) (Rows.fnValidFieldSpec.post enc Try.prog Try.f3 false true false false) := by
  refine returnsInHanded_of_change (C := Try.checked) ownNone started (by kernel_rfl) Try.func3
    (ChangeSpec.witness6 (enc := enc) (C := Try.checked) false ⟨#[], #[.slice none 0 0], []⟩ 8 (by kernel_rfl) (by kernel_rfl) (by kernel_rfl) (by kernel_rfl)) ?_
  intro W base args ds gs before hval0 hW hcnd _
  have hval : ∀ (j : Nat) t v, Try.f3.params[j]? = some t → args[j]? = some v → Value.okWide Try.prog W .any base t v := hval0
  have hW' := hW
  obtain ⟨p, q, hA0, hV, rfl, _, _⟩ := hW
  have hA : DataW.TrodAll enc Try.prog W 0 (fun _ => true) true Try.f3.params.toList args.toList ds p := hA0
  rw [Try.params3] at hA hval
  obtain ⟨v0, vs0, d0, ds0, p0, q0, hargs, rfl, rfl, h0, r0⟩ := trodAll_cons hA
  obtain ⟨rfl, rfl, rfl⟩ := trodAll_nil r0
  obtain rfl : args = #[v0] := by cases args; simp_all
  obtain ⟨rfl, rfl⟩ := trodVars_none hV
  obtain ⟨Acs, ccs, cs, rfl, hrcs, hlcs, hqcs⟩ := open_rd Try.underlying22 Try.underlying5 cellsByte (hval 0 22 v0 rfl rfl) h0
  have hbcs := byte_bounds hqcs
  clear hA0 hval0
  refine (walk W cs Acs ccs hrcs hbcs hlcs).mono fun e W' ⟨he, hg⟩ => ?_
  subst he
  exact ⟨_, rfl, law_post laidOut (by kernel_rfl) rfl rfl rfl rfl rfl Try.underlying4 hW' hg⟩

/-- The statement. -/
theorem proved : Rows.FnValidFieldSaid :=
  OpenClaim.holds_of_wide 3 Try.f3 rfl rfl rfl rfl rfl rfl rfl ⟨rfl, rfl, rfl, rfl, rfl⟩ rfl rfl rfl rfl rfl (by kernel_rfl) Try.func3 (by kernel_rfl)
    (of_decide_eq_true (by kernel_rfl)) (by unfold Func.isWrapper; first | (rw [if_pos (by decide +kernel)]; kernel_rfl) | (rw [if_neg (by decide +kernel)]; exact ⟨rfl, rfl⟩))
    (fun os started H enc _ => lifted os started H enc)
#print axioms proved
end fnValidField

end Go.Proofs.Ytboaikabbfipgab

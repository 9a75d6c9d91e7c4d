/- The law FnAreaOf: for every code it answers true, and the code reads as it read before. No condition. -/
import Derived.Test.YtboaikabbfipgabFMath
import Derived.Test.YtboaikabbfipgabFDraws
import Derived.Test.YtboaikabbfipgabLaw
namespace Go.Proofs.Ytboaikabbfipgab
open Go.RowKit
set_option linter.unusedVariables false
set_option linter.unusedSimpArgs false

namespace fnAreaOf
open Go.ChangeShapes Go.WideShapes Go.ChangeAt Go.RowKit
set_option maxHeartbeats 800000 in
set_option maxRecDepth 100000 in
set_option maxHeartbeats 8000000 in
theorem walk (w : World) (cs : List Int) (Acs : Option Addr) (ccs : Nat) (hrcs : Rd w w.heap.size Acs (bytes cs)) (hbcs : ∀ z ∈ cs, 0 ≤ z ∧ z ≤ 255) (hlcs : cs.length ≤ ccs ∧ ccs ≤ maxLen) :
    Calls Try.prog 4 #[.slice Acs cs.length ccs] w fun e w' => e = .returned (.bool true) ∧ Below w.heap.size w w' := by
  by_cases hn : cs.length ≤ 1048576
  · go_enter Try.func4, Try.ntmps4
    go_wp2_with fail
    refine (dAreaOf _ _ _ _ hrcs hbcs hlcs.1 hlcs.2).mono ?_
    rintro e w1 ⟨ff, Af, cf, rfl, ⟨hpl, hpc, hcm, hg⟩, b1⟩
    have hn1 : ff.length ≤ 1048576 := by omega
    obtain ⟨q, hq⟩ : ∃ q, q = areaT ff := ⟨_, rfl⟩
    have cI := iArea_any ff Af cf w1 _ hg
    have cS := fun w hg => sArea_any ff Af cf w w1.heap.size hg hn1
    rw [← hq] at cI
    simp only [← hq] at cS
    have HQ := Lib.hid hq
    have CS := Lib.hid cS
    clear hq cS
    go_wp2_with fail
    refine (cI).mono ?_
    rintro e w' ⟨rfl, rfl⟩
    go_wp2_with fail
    refine (CS.out _ hg).mono ?_
    rintro e w' ⟨rfl, n2, rfl⟩
    clear cI
    cases hv : fieldB ff
    · obtain rfl : q = -1 := by rw [HQ.out]; exact areaT_no hv
      have HV := Lib.hid hv
      clear hv
      go_wp2_with fail
      refine (CS.out _ (hg.drewN n2)).mono ?_
      rintro e w' ⟨rfl, n3, rfl⟩
      go_wp2
      go_ret
      exact ⟨rfl, below_drewN b1 _⟩
    · have hqa : q = (areaN ff : Nat) := by rw [HQ.out]; exact areaT_ok hv
      have hac := area_cakes hv
      have hal := area_le hv
      have hb := area_bd hv
      have hl := field_len hv
      have hwd := field_wide hv
      have hf : Fld w1 w1.heap.size Af ff := ⟨hv, hg⟩
      have HC : Hid (∀ w', Below w1.heap.size w1 w' → Calls Try.prog 21 #[.slice Af ff.length cf, .int .i64 1, .int .i64 1, .int .i64 0, .int .i64 0] w' (OutC (gridF ff 1 1 0 0) w')) := Lib.hid fun w' hb => iCakesOk_any ff Af cf ⟨hpc, hcm⟩ w' ((hg.below hb).more hb.size) 1 1 0 0 hv rfl (by omega) (by omega)
      clear hv
      subst hqa
      have q0 : 0 ≤ ((areaN ff : Nat) : Int) := by omega
      have bd : Below w1.heap.size w1 (w1.drewN n2) := below_drewN (Below.refl _ _) _
      go_wp2_with fail
      refine (HC.out _ bd).mono ?_
      rintro e w5 ⟨A5, c5, rfl, o5, b5⟩
      have bl5 := b1.trans ((bd.trans (b5.mono (by exact Nat.le_refl _))).mono b1.size)
      have hf5 := hf.up (bd.trans b5)
      clear o5 b5
      rw [hac]
      generalize areaN ff = an at *
      obtain ⟨bq, off, A0, c0, rfl, hbq, h0⟩ := hf5.row0
      have m1 : ((ff.length : Nat) : Int) * ((wideB ff : Nat) : Int) = ((ff.length * wideB ff : Nat) : Int) := by rw [Int.natCast_mul]
      have m2 : ff.length * wideB ff ≤ 81 := Nat.mul_le_mul hl.2 hwd.2
      have m4 : 0 ≤ ((ff.length : Nat) : Int) * ((wideB ff : Nat) : Int) := by rw [m1]; omega
      have m5 : ((ff.length : Nat) : Int) * ((wideB ff : Nat) : Int) ≤ 81 := by rw [m1]; omega
      have m3 : (an : Int) ≤ ((ff.length : Nat) : Int) * ((wideB ff : Nat) : Int) := by rw [m1]; omega
      have BL := Lib.hid bl5
      clear m1 m2 hal hf hf5 bl5 HQ CS HC
      go_wp2
      go_ret
      exact ⟨ret_bool (by simp; try omega), BL.out⟩
  · have hn' : 1048576 < cs.length := by omega
    go_enter Try.func4, Try.ntmps4
    go_wp2
    go_ret
    exact ⟨rfl, Below.refl _ _⟩

set_option maxRecDepth 100000 in
theorem lifted (os : Os) (started : os.Started) (H : Type) (enc : TypeId × Value → H) :
    ReturnsInHanded {} Try.checked os 4 .any (Rows.fnAreaOfSpec.pre6 enc Try.prog Try.f4 Rows.fnAreaOfRow.domain false) (Rows.fnAreaOfSpec.post enc Try.prog Try.f4 false true false false) := by
  refine returnsInHanded_of_change (C := Try.checked) ownNone started (by kernel_rfl) Try.func4
    (ChangeSpec.witness6 (enc := enc) (C := Try.checked) false ⟨#[], #[.slice none 0 0], []⟩ 8 (by kernel_rfl) (by kernel_rfl) (by kernel_rfl) (by kernel_rfl)) ?_
  intro W base args ds gs before hval0 hW hcnd _
  have hval : ∀ (j : Nat) t v, Try.f4.params[j]? = some t → args[j]? = some v → Value.okWide Try.prog W .any base t v := hval0
  have hW' := hW
  obtain ⟨p, q, hA0, hV, rfl, _, _⟩ := hW
  have hA : DataW.TrodAll enc Try.prog W 0 (fun _ => true) true Try.f4.params.toList args.toList ds p := hA0
  rw [Try.params4] at hA hval
  obtain ⟨v0, vs0, d0, ds0, p0, q0, hargs, rfl, rfl, h0, r0⟩ := trodAll_cons hA
  obtain ⟨rfl, rfl, rfl⟩ := trodAll_nil r0
  obtain rfl : args = #[v0] := by cases args; simp_all
  obtain ⟨rfl, rfl⟩ := trodVars_none hV
  obtain ⟨Acs, ccs, cs, rfl, hrcs, hlcs, hqcs⟩ := open_rd Try.underlying22 Try.underlying5 cellsByte (hval 0 22 v0 rfl rfl) h0
  have hbcs := byte_bounds hqcs
  clear hA0 hval0
  refine (walk W cs Acs ccs hrcs hbcs hlcs).mono fun e W' ⟨he, hg⟩ => ?_
  subst he
  exact ⟨_, rfl, law_post laidOut (by kernel_rfl) rfl rfl rfl rfl rfl Try.underlying4 hW' hg⟩

/-- The statement. -/
theorem proved : Rows.FnAreaOfSaid :=
  OpenClaim.holds_of_wide 4 Try.f4 rfl rfl rfl rfl rfl rfl rfl ⟨rfl, rfl, rfl, rfl, rfl⟩ rfl rfl rfl rfl rfl (by kernel_rfl) Try.func4 (by kernel_rfl)
    (of_decide_eq_true (by kernel_rfl)) (by unfold Func.isWrapper; first | (rw [if_pos (by decide +kernel)]; kernel_rfl) | (rw [if_neg (by decide +kernel)]; exact ⟨rfl, rfl⟩))
    (fun os started H enc _ => lifted os started H enc)
#print axioms proved
end fnAreaOf

end Go.Proofs.Ytboaikabbfipgab

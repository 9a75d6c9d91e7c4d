/- The law FnRunIce: for every code it answers true, and the code reads as it read before. No condition. -/
import Derived.Test.YthccmpbklhlohaaRuns
import Derived.Test.YthccmpbklhlohaaDraws
import Derived.Test.YthccmpbklhlohaaLaw
namespace Go.Proofs.Ythccmpbklhlohaa
open Go.RowKit
set_option linter.unusedVariables false
set_option linter.unusedSimpArgs false

namespace fnRunIce
open Go.ChangeShapes Go.WideShapes Go.ChangeAt Go.RowKit
set_option maxHeartbeats 800000 in
theorem walk (w : World) (cs : List Int) (Acs : Option Addr) (ccs : Nat) (hrcs : Rd w w.heap.size Acs (bytes cs)) (hbcs : ∀ z ∈ cs, 0 ≤ z ∧ z ≤ 255) (hlcs : cs.length ≤ ccs ∧ ccs ≤ maxLen) :
    Calls Try.prog 5 #[.slice Acs cs.length ccs] w fun e w' => e = .returned (.bool true) ∧ Below w.heap.size w w' := by
  by_cases hn : cs.length ≤ 1048576
  · go_enter Try.func5, Try.ntmps5
    go_wp2_with fail
    refine (dRunIce _ _ _ _ hrcs hbcs hlcs.1 hlcs.2).mono ?_
    rintro e w1 ⟨m, zs, Az, cz, rfl, hm, hd, b1⟩
    obtain ⟨l12, _, hrz, lc, lm⟩ := hd
    unfold maxLen at lm
    by_cases h : inB m 0 998001 = true ∧ tempsB zs = true
    · have e : runT m zs = runF m zs := runT_ok h.1 h.2
      have rg := inB_t h.1
      have q0 := runF_range m rg.1 rg.2 zs
      rw [← e] at q0
      have E := Lib.hid e
      clear e
      obtain ⟨j, hj⟩ : ∃ j, j = zs.length / 2 := ⟨_, rfl⟩
      have hj1 : (zs.length : Int) / 2 = (j : Int) := by omega
      have hj2 : j ≤ zs.length := by omega
      have hj3 : j ≤ cz := by omega
      have hj4 : (j : Int) ≤ (zs.length : Int) := by omega
      have hj5 : (j : Int) ≤ (cz : Int) := by omega
      have hj6 : (zs.length : Int) ≤ (cz : Int) := by omega
      clear hj
      have lT : (zs.take j).length = j := by rw [List.length_take]; omega
      have lD : (zs.drop j).length = zs.length - j := by rw [List.length_drop]
      have hT : Rd w1 w1.heap.size Az (ints (zs.take j)) := by rw [ints, List.map_take]; exact hrz.take j
      have hD : Rd w1 w1.heap.size (Az.map (·.add j)) (ints (zs.drop j)) := by rw [ints, List.map_drop]; exact hrz.drop j
      have f1 : (runT (runT m (zs.take j)) (zs.drop j) == runT m zs) = true := by
        have t1 := tempsB_sub (ys := zs.take j) h.2 (by omega) (fun y hy => List.mem_of_mem_take hy)
        have t2 := tempsB_sub (ys := zs.drop j) h.2 (by omega) (fun y hy => List.mem_of_mem_drop hy)
        have r1 := runF_range m rg.1 rg.2 (zs.take j)
        rw [runT_ok h.1 t1, runT_ok (inB_mk r1) t2, E.out, ← runF_append, List.take_append_drop]
        exact beq_self_eq_true _
      have f2 : (runT m [] == m) = true := by rw [runT_ok h.1 rfl]; exact beq_self_eq_true _
      by_cases hc : cz = j
      · have hz : zs = [] := List.eq_nil_of_length_eq_zero (by omega)
        obtain rfl : j = 0 := by omega
        subst hz
        subst hc
        have f3 : (runT (runT m []) [] == runT m []) = true := f1
        clear f1
        go_wp2_with (first | (go_at_call 22; refine (iRunIce_any _ _ _ _ _ hrz _).mono ?_; rintro e w' ⟨rfl, rfl⟩) | (go_at_call 23; refine (sRunIce_any _ _ _ _ _ hrz _).mono ?_; rintro e w' ⟨rfl, rfl⟩))
        refine wp_region_quiet_lit (by kernel_rfl) (by kernel_rfl) ?_
        repeat (quiet_step (fail))
        refine wpQuiet_step (fun K hK => ?_)
        go_simp
        apply Exists.intro
        refine ⟨fun _ => ?_, hK _ ?_⟩
        · go_at_call 22; exact quiet_same (iRun_n 0 [] rfl _ _ _ w1.heap.size (rd_nil _ _ _) _)
        clear hK K
        repeat (quiet_step (fail))
        refine wpQuiet_step (fun K hK => ?_)
        go_simp
        apply Exists.intro
        refine ⟨fun _ => ?_, hK _ ?_⟩
        · go_at_call 22; exact quiet_same (iRun_n 0 [] rfl _ _ _ w1.heap.size (rd_nil _ _ _) _)
        clear hK K
        repeat (quiet_step (fail))
        refine wpQuiet_step (fun K hK => ?_)
        go_simp
        apply Exists.intro
        refine ⟨fun _ => ?_, hK _ ?_⟩
        · go_at_call 22; exact quiet_same (iRun_n 0 [] rfl _ _ _ w1.heap.size (rd_nil _ _ _) _)
        clear hK K
        repeat (quiet_step (fail))
        refine wpQuiet_nil ?_
        intro _ hw'
        obtain ⟨nq, hw''⟩ := hw'
        subst hw''
        go_wp2
        go_ret
        exact ⟨rfl, below_drewN b1 _⟩
      · go_wp2_with (first | (go_at_call 22; refine (iRunIce_any _ _ _ _ _ hrz _).mono ?_; rintro e w' ⟨rfl, rfl⟩) | (go_at_call 23; refine (sRunIce_any _ _ _ _ _ hrz _).mono ?_; rintro e w' ⟨rfl, rfl⟩))
        refine wp_region_quiet_lit (by kernel_rfl) (by kernel_rfl) ?_
        repeat (quiet_step (fail))
        refine wpQuiet_step (fun K hK => ?_)
        go_simp
        apply Exists.intro
        refine ⟨fun _ => ?_, hK _ ?_⟩
        · go_at_call 22; exact quiet_same (iRun_n j _ lT _ _ _ _ (hT.drewN _) _)
        clear hK K
        repeat (quiet_step (fail))
        refine wpQuiet_step (fun K hK => ?_)
        go_simp
        apply Exists.intro
        refine ⟨fun _ => ?_, hK _ ?_⟩
        · go_at_call 22; exact quiet_same (iRun_n _ _ lD _ _ _ _ (hD.drewN _) _)
        clear hK K
        repeat (quiet_step (fail))
        refine wpQuiet_step (fun K hK => ?_)
        go_simp
        apply Exists.intro
        refine ⟨fun _ => ?_, hK _ ?_⟩
        · go_at_call 22; exact quiet_same (iRun_n 0 [] rfl _ _ _ w1.heap.size (rd_nil _ _ _) _)
        clear hK K
        repeat (quiet_step (fail))
        refine wpQuiet_nil ?_
        intro _ hw'
        obtain ⟨nq, hw''⟩ := hw'
        subst hw''
        go_wp2
        go_ret
        exact ⟨rfl, below_drewN b1 _⟩
    · have e : runT m zs = -1 := runT_neg h
      have q0 : runT m zs < 0 := by omega
      have H := Lib.hid e
      clear e h
      go_wp2_with (first | (go_at_call 22; refine (iRunIce_any _ _ _ _ _ hrz _).mono ?_; rintro e w' ⟨rfl, rfl⟩) | (go_at_call 23; refine (sRunIce_any _ _ _ _ _ hrz _).mono ?_; rintro e w' ⟨rfl, rfl⟩))
      go_ret
      exact ⟨rfl, b1⟩
  · have hn' : 1048576 < cs.length := by omega
    go_enter Try.func5, Try.ntmps5
    go_wp2
    go_ret
    exact ⟨rfl, Below.refl _ _⟩

set_option maxRecDepth 100000 in
theorem lifted (os : Os) (started : os.Started) (H : Type) (enc : TypeId × Value → H) :
    ReturnsInHanded {} Try.checked os 5 .any (Rows.fnRunIceSpec.pre6 enc Try.prog Try.f5 Rows.fnRunIceRow.domain false) (Rows.fnRunIceSpec.post enc Try.prog Try.f5 false true false false) := by
  refine returnsInHanded_of_change (C := Try.checked) ownNone started (by kernel_rfl) Try.func5
    (ChangeSpec.witness6 (enc := enc) (C := Try.checked) false ⟨#[], #[.slice none 0 0], []⟩ 8 (by kernel_rfl) (by kernel_rfl) (by kernel_rfl) (by kernel_rfl)) ?_
  intro W base args ds gs before hval0 hW hcnd _
  have hval : ∀ (j : Nat) t v, Try.f5.params[j]? = some t → args[j]? = some v → Value.okWide Try.prog W .any base t v := hval0
  have hW' := hW
  obtain ⟨p, q, hA0, hV, rfl, _, _⟩ := hW
  have hA : DataW.TrodAll enc Try.prog W 0 (fun _ => true) true Try.f5.params.toList args.toList ds p := hA0
  rw [Try.params5] at hA hval
  obtain ⟨v0, vs0, d0, ds0, p0, q0, hargs, rfl, rfl, h0, r0⟩ := trodAll_cons hA
  obtain ⟨rfl, rfl, rfl⟩ := trodAll_nil r0
  obtain rfl : args = #[v0] := by cases args; simp_all
  obtain ⟨rfl, rfl⟩ := trodVars_none hV
  obtain ⟨Acs, ccs, cs, rfl, hrcs, hlcs, hqcs⟩ := open_rd Try.underlying22 Try.underlying5 cellsByte (hval 0 22 v0 rfl rfl) h0
  have hbcs := byte_bounds hqcs
  clear hA0 hval0
  refine (walk W cs Acs ccs hrcs hbcs hlcs).mono fun e W' ⟨he, hg⟩ => ?_
  subst he
  exact ⟨_, rfl, law_post laidOut (by kernel_rfl) rfl rfl rfl rfl rfl Try.underlying4 hW' hg⟩

/-- The statement. -/
theorem proved : Rows.FnRunIceSaid :=
  OpenClaim.holds_of_wide 5 Try.f5 rfl rfl rfl rfl rfl rfl rfl ⟨rfl, rfl, rfl, rfl, rfl⟩ rfl rfl rfl rfl rfl (by kernel_rfl) Try.func5 (by kernel_rfl)
    (of_decide_eq_true (by kernel_rfl)) (by unfold Func.isWrapper; first | (rw [if_pos (by decide +kernel)]; kernel_rfl) | (rw [if_neg (by decide +kernel)]; exact ⟨rfl, rfl⟩))
    (fun os started H enc _ => lifted os started H enc)
#print axioms proved
end fnRunIce

end Go.Proofs.Ythccmpbklhlohaa

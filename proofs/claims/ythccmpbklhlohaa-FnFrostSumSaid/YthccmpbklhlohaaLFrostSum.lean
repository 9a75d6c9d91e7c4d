/- The law FnFrostSum: for every code it answers true, and the code reads as it read before. No condition. -/
import Derived.Test.YthccmpbklhlohaaFrosts
import Derived.Test.YthccmpbklhlohaaDraws
import Derived.Test.YthccmpbklhlohaaLaw
namespace Go.Proofs.Ythccmpbklhlohaa
open Go.RowKit
set_option linter.unusedVariables false
set_option linter.unusedSimpArgs false

namespace fnFrostSum
open Go.ChangeShapes Go.WideShapes Go.ChangeAt Go.RowKit
set_option maxHeartbeats 800000 in
theorem walk (w : World) (cs : List Int) (Acs : Option Addr) (ccs : Nat) (hrcs : Rd w w.heap.size Acs (bytes cs)) (hbcs : ∀ z ∈ cs, 0 ≤ z ∧ z ≤ 255) (hlcs : cs.length ≤ ccs ∧ ccs ≤ maxLen) :
    Calls Try.prog 9 #[.slice Acs cs.length ccs] w fun e w' => e = .returned (.bool true) ∧ Below w.heap.size w w' := by
  by_cases hn : cs.length ≤ 1048576
  · go_enter Try.func9, Try.ntmps9
    go_wp2_with fail
    refine (dFrostSum _ _ _ _ hrcs hbcs hlcs.1 hlcs.2).mono ?_
    rintro e w1 ⟨zs, Az, cz, rfl, hd, b1⟩
    obtain ⟨l12, hzb, hrz, lc, lm⟩ := hd
    unfold maxLen at lm
    by_cases h : tempsB zs = true
    · obtain ⟨i0, hi, hz0, hz1, hz2⟩ := info_parts info_int
      have q0 := frostT_range h
      obtain ⟨j, hj⟩ : ∃ j, j = zs.length / 2 := ⟨_, rfl⟩
      have hj1 : (zs.length : Int) / 2 = (j : Int) := by omega
      have hj2 : j ≤ zs.length := by omega
      have hj3 : j ≤ cz := by omega
      have hj4 : (j : Int) ≤ (zs.length : Int) := by omega
      have hj5 : (j : Int) ≤ (cz : Int) := by omega
      have hj6 : (zs.length : Int) ≤ (cz : Int) := by omega
      clear hj
      have lT : (zs.take j).length = j := by rw [List.length_take]; omega
      have lD : (zs.drop j).length = zs.length - j := by rw [List.length_drop]
      have hT : Rd w1 w1.heap.size Az (ints (zs.take j)) := by rw [ints, List.map_take]; exact hrz.take j
      have hD : Rd w1 w1.heap.size (Az.map (·.add j)) (ints (zs.drop j)) := by rw [ints, List.map_drop]; exact hrz.drop j
      have t1 := tempsB_sub (ys := zs.take j) h (by omega) (fun y hy => List.mem_of_mem_take hy)
      have t2 := tempsB_sub (ys := zs.drop j) h (by omega) (fun y hy => List.mem_of_mem_drop hy)
      have t3 := tempsB_warm h
      have q1 := frostT_range t1
      have q2 := frostT_range t2
      have q3 := frostT_range t3
      have q4 := sum_bound zs hzb
      have f1 : (frostT (zs.take j) + frostT (zs.drop j) == frostT zs) = true := by
        rw [frostT_ok t1, frostT_ok t2, frostT_ok h, ← frostF_append, List.take_append_drop]
        exact beq_self_eq_true _
      have f2 : (frostT (zs.map (fun z => -z)) - frostT zs == zs.sum) = true := by
        rw [frostT_ok t3, frostT_ok h, frostF_warm]
        exact beq_self_eq_true _
      clear t1 t2 t3 h
      by_cases hc : cz = j
      · have hz : zs = [] := List.eq_nil_of_length_eq_zero (by omega)
        obtain rfl : j = 0 := by omega
        subst hz
        subst hc
        have f3 : (frostT [] + frostT [] == frostT []) = true := f1
        have f4 : (frostT [] - frostT [] == 0) = true := f2
        clear f1 f2
        go_wp2_with (first | (go_at_call 24; refine (iFrost_any _ _ _ _ _ hrz).mono ?_; rintro e w' ⟨rfl, rfl⟩) | (go_at_call 31; refine (sFrost_any _ _ _ _ _ hrz).mono ?_; rintro e w' ⟨rfl, rfl⟩))
        go_loopw [6, 7] (fun v i wr => ∃ k : Nat, k ≤ 0 ∧ i = .int .i64 k ∧ wr.ownsRow w1.heap.size 3 1 v k (ints (([].take k).map (fun z => -z))) ∧ Below w1.heap.size w1 wr) (fun _ i _ => 0 - (intOf i).toNat)
        case atStart => exact ⟨0, Nat.zero_le _, rfl, own_empty _ _, (Below.refl _ _).alloc (Nat.le_refl _) _⟩
        case round =>
          obtain ⟨k, hk, rfl, hown, hbel⟩ := hrel
          by_cases hlt : k < 0
          · omega
          · obtain rfl : k = 0 := by omega
            obtain ⟨A', c', rfl⟩ := own_form hown
            rw [List.take_of_length_le (by simp)] at hown
            have hrz2 := (hrz.below hbel).more hbel.size
            have hwm := Rd.own hown
            have hT2 := (hT.below hbel).more hbel.size
            have hD2 := (hD.below hbel).more hbel.size
            have lW : ([].map (fun z => -z)).length = 0 := by simp
            go_wp2
            have wr1 : IntKind.i64.wrap (frostT [] + frostT []) = frostT [] := by rfl
            have wr2 : IntKind.i64.wrap (frostT [] - frostT []) = 0 := by rfl
            clear f3 f4
            refine wp_region_quiet_lit (by kernel_rfl) (by kernel_rfl) ?_
            repeat (quiet_step (fail))
            refine wpQuiet_step (fun K hK => ?_)
            go_simp
            apply Exists.intro
            refine ⟨fun _ => ?_, hK _ ?_⟩
            · go_at_call 24; exact quiet_same (iFrost_n 0 [] rfl _ _ _ w1.heap.size (rd_nil _ _ _))
            clear hK K
            repeat (quiet_step (fail))
            refine wpQuiet_step (fun K hK => ?_)
            go_simp
            apply Exists.intro
            refine ⟨fun _ => ?_, hK _ ?_⟩
            · go_at_call 24; exact quiet_same (iFrost_n 0 [] rfl _ _ _ w1.heap.size (rd_nil _ _ _))
            clear hK K
            repeat (quiet_step (fail))
            refine wpQuiet_step (fun K hK => ?_)
            go_simp
            apply Exists.intro
            refine ⟨fun _ => ?_, hK _ ?_⟩
            · go_at_call 24; exact quiet_same (iFrost_n 0 [] rfl _ _ _ w1.heap.size (rd_nil _ _ _))
            clear hK K
            repeat (quiet_step (fail))
            refine wpQuiet_step (fun K hK => ?_)
            go_simp
            apply Exists.intro
            refine ⟨fun _ => ?_, hK _ ?_⟩
            · go_at_call 32; exact quiet_same (total_any 0 [] rfl _ _ _ w1.heap.size (rd_nil _ _ _) (by simp) (by omega))
            clear hK K
            repeat (quiet_step (fail))
            refine wpQuiet_nil ?_
            intro _ hw'
            obtain ⟨nq, hw''⟩ := hw'
            subst hw''
            go_wp2
            go_ret
            exact ⟨rfl, below_drewN (b1.trans (hbel.mono b1.size)) _⟩
      · have hc' := hc
        go_wp2_with (first | (go_at_call 24; refine (iFrost_any _ _ _ _ _ hrz).mono ?_; rintro e w' ⟨rfl, rfl⟩) | (go_at_call 31; refine (sFrost_any _ _ _ _ _ hrz).mono ?_; rintro e w' ⟨rfl, rfl⟩))
        go_loopw [6, 7] (fun v i wr => ∃ k : Nat, k ≤ zs.length ∧ i = .int .i64 k ∧ wr.ownsRow w1.heap.size 3 1 v k (ints ((zs.take k).map (fun z => -z))) ∧ Below w1.heap.size w1 wr) (fun _ i _ => zs.length - (intOf i).toNat)
        case atStart => exact ⟨0, Nat.zero_le _, rfl, own_empty _ _, (Below.refl _ _).alloc (Nat.le_refl _) _⟩
        case round =>
          obtain ⟨k, hk, rfl, hown, hbel⟩ := hrel
          by_cases hlt : k < zs.length
          · obtain ⟨b, off, z, rfl, hb, hz, hc⟩ := (hrz.below hbel).int_ hlt
            have hz1000 := hzb z (List.mem_of_getElem? hz.out)
            go_wp2_with (at_builtin; refine wpList_append_own _ rfl _ _ 29 rfl (w1.heap.size) 3 i0 (.int .i64 0) 1 8 Try.underlying29 hi hz0 hz1 hz2 rfl (by decide) _ _ _ rfl (hown.alloc _) ⟨wr.heap.size, 0, none⟩ 1 1 [.int .i64 (-z)] rfl rfl ?c1 ?c2 ?c3 ?c4 ?c5 ?_)
            case c1 =>
              intro j u hj
              match j, hj with
              | 0, hj => simp at hj; subst hj; simp [Addr.add]
            case c2 => first | rfl | (intro u hu; simp at hu; subst hu; rfl)
            case c3 => unfold maxLen; omega
            case c4 => omega
            case c5 => have := hbel.size; simp; omega
            · intro v' w2 hown' hgrow _
              have R : w2.ownsRow w1.heap.size 3 1 v' (k + 1) (ints ((zs.take (k + 1)).map (fun z => -z))) := by
                rw [map_snoc _ hz.out]; simpa [ints] using hown'
              have hb1 : Below w1.heap.size w1 w2 := (hbel.alloc hbel.size _).grown hgrow (by have := hbel.size; simp; omega) (own_block hown)
              clear hown' hgrow hown hbel
              go_wp2
              go_roundw
              case rel => exact ⟨k + 1, by omega, by go_num, R, hb1⟩
              case measure => simp [intOf]; omega
          · obtain rfl : k = zs.length := by omega
            obtain ⟨A', c', rfl⟩ := own_form hown
            rw [List.take_of_length_le (by simp)] at hown
            have hrz2 := (hrz.below hbel).more hbel.size
            have hwm := Rd.own hown
            have hT2 := (hT.below hbel).more hbel.size
            have hD2 := (hD.below hbel).more hbel.size
            have lW : (zs.map (fun z => -z)).length = zs.length := by simp
            go_wp2
            have wr1 : IntKind.i64.wrap (frostT (zs.take j) + frostT (zs.drop j)) = frostT zs := by rw [IntWalk.i64_in _ ⟨by omega, by omega⟩]; exact beq_iff_eq.1 f1
            have wr2 : IntKind.i64.wrap (frostT (zs.map (fun z => -z)) - frostT zs) = zs.sum := by rw [IntWalk.i64_in _ ⟨by omega, by omega⟩]; exact beq_iff_eq.1 f2
            clear f1 f2
            refine wp_region_quiet_lit (by kernel_rfl) (by kernel_rfl) ?_
            repeat (quiet_step (fail))
            refine wpQuiet_step (fun K hK => ?_)
            go_simp
            apply Exists.intro
            refine ⟨fun _ => ?_, hK _ ?_⟩
            · go_at_call 24; exact quiet_same (iFrost_n j _ lT _ _ _ _ (hT2.drewN _))
            clear hK K
            repeat (quiet_step (fail))
            refine wpQuiet_step (fun K hK => ?_)
            go_simp
            apply Exists.intro
            refine ⟨fun _ => ?_, hK _ ?_⟩
            · go_at_call 24; exact quiet_same (iFrost_n _ _ lD _ _ _ _ (hD2.drewN _))
            clear hK K
            repeat (quiet_step (fail))
            refine wpQuiet_step (fun K hK => ?_)
            go_simp
            apply Exists.intro
            refine ⟨fun _ => ?_, hK _ ?_⟩
            · go_at_call 24; exact quiet_same (iFrost_n _ _ lW _ _ _ _ (hwm.drewN _))
            clear hK K
            repeat (quiet_step (fail))
            refine wpQuiet_step (fun K hK => ?_)
            go_simp
            apply Exists.intro
            refine ⟨fun _ => ?_, hK _ ?_⟩
            · go_at_call 32; exact quiet_same (total_any _ zs rfl _ _ _ _ (hrz2.drewN _) hzb (by omega))
            clear hK K
            repeat (quiet_step (fail))
            refine wpQuiet_nil ?_
            intro _ hw'
            obtain ⟨nq, hw''⟩ := hw'
            subst hw''
            go_wp2
            go_ret
            exact ⟨rfl, below_drewN (b1.trans (hbel.mono b1.size)) _⟩
    · have e : frostT zs = -1 := frostT_neg h
      have q0 : frostT zs < 0 := by omega
      have H := Lib.hid e
      clear e h
      go_wp2_with (first | (go_at_call 24; refine (iFrost_any _ _ _ _ _ hrz).mono ?_; rintro e w' ⟨rfl, rfl⟩) | (go_at_call 31; refine (sFrost_any _ _ _ _ _ hrz).mono ?_; rintro e w' ⟨rfl, rfl⟩))
      go_ret
      exact ⟨rfl, b1⟩
  · have hn' : 1048576 < cs.length := by omega
    go_enter Try.func9, Try.ntmps9
    go_wp2
    go_ret
    exact ⟨rfl, Below.refl _ _⟩

set_option maxRecDepth 100000 in
theorem lifted (os : Os) (started : os.Started) (H : Type) (enc : TypeId × Value → H) :
    ReturnsInHanded {} Try.checked os 9 .any (Rows.fnFrostSumSpec.pre6 enc Try.prog Try.f9 Rows.fnFrostSumRow.domain false) (Rows.fnFrostSumSpec.post enc Try.prog Try.f9 false true false false) := by
  refine returnsInHanded_of_change (C := Try.checked) ownNone started (by kernel_rfl) Try.func9
    (ChangeSpec.witness6 (enc := enc) (C := Try.checked) false ⟨#[], #[.slice none 0 0], []⟩ 8 (by kernel_rfl) (by kernel_rfl) (by kernel_rfl) (by kernel_rfl)) ?_
  intro W base args ds gs before hval0 hW hcnd _
  have hval : ∀ (j : Nat) t v, Try.f9.params[j]? = some t → args[j]? = some v → Value.okWide Try.prog W .any base t v := hval0
  have hW' := hW
  obtain ⟨p, q, hA0, hV, rfl, _, _⟩ := hW
  have hA : DataW.TrodAll enc Try.prog W 0 (fun _ => true) true Try.f9.params.toList args.toList ds p := hA0
  rw [Try.params9] at hA hval
  obtain ⟨v0, vs0, d0, ds0, p0, q0, hargs, rfl, rfl, h0, r0⟩ := trodAll_cons hA
  obtain ⟨rfl, rfl, rfl⟩ := trodAll_nil r0
  obtain rfl : args = #[v0] := by cases args; simp_all
  obtain ⟨rfl, rfl⟩ := trodVars_none hV
  obtain ⟨Acs, ccs, cs, rfl, hrcs, hlcs, hqcs⟩ := open_rd Try.underlying22 Try.underlying5 cellsByte (hval 0 22 v0 rfl rfl) h0
  have hbcs := byte_bounds hqcs
  clear hA0 hval0
  refine (walk W cs Acs ccs hrcs hbcs hlcs).mono fun e W' ⟨he, hg⟩ => ?_
  subst he
  exact ⟨_, rfl, law_post laidOut (by kernel_rfl) rfl rfl rfl rfl rfl Try.underlying4 hW' hg⟩

/-- The statement. -/
theorem proved : Rows.FnFrostSumSaid :=
  OpenClaim.holds_of_wide 9 Try.f9 rfl rfl rfl rfl rfl rfl rfl ⟨rfl, rfl, rfl, rfl, rfl⟩ rfl rfl rfl rfl rfl (by kernel_rfl) Try.func9 (by kernel_rfl)
    (of_decide_eq_true (by kernel_rfl)) (by unfold Func.isWrapper; first | (rw [if_pos (by decide +kernel)]; kernel_rfl) | (rw [if_neg (by decide +kernel)]; exact ⟨rfl, rfl⟩))
    (fun os started H enc _ => lifted os started H enc)
#print axioms proved
end fnFrostSum

end Go.Proofs.Ythccmpbklhlohaa

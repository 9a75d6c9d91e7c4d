/- The law FnThicksOf: for every code it answers true, and the code reads as it read before. No condition. -/
import Derived.Test.YthccmpbklhlohaaThks
import Derived.Test.YthccmpbklhlohaaDraws
import Derived.Test.YthccmpbklhlohaaLaw
namespace Go.Proofs.Ythccmpbklhlohaa
open Go.RowKit
set_option linter.unusedVariables false
set_option linter.unusedSimpArgs false

namespace fnThicksOf
open Go.ChangeShapes Go.WideShapes Go.ChangeAt Go.RowKit
set_option maxHeartbeats 800000 in
theorem walk (w : World) (cs : List Int) (Acs : Option Addr) (ccs : Nat) (hrcs : Rd w w.heap.size Acs (bytes cs)) (hbcs : ∀ z ∈ cs, 0 ≤ z ∧ z ≤ 255) (hlcs : cs.length ≤ ccs ∧ ccs ≤ maxLen) :
    Calls Try.prog 8 #[.slice Acs cs.length ccs] w fun e w' => e = .returned (.bool true) ∧ Below w.heap.size w w' := by
  by_cases hn : cs.length ≤ 1048576
  · go_enter Try.func8, Try.ntmps8
    go_wp2_with fail
    refine (dThicksOf _ _ _ _ hrcs hbcs hlcs.1 hlcs.2).mono ?_
    rintro e w1 ⟨m, zs, Az, cz, rfl, hm, hd, b1⟩
    obtain ⟨l12, hzb, hrz, lc, lm⟩ := hd
    unfold maxLen at lm
    by_cases h : (inB m 0 998001 = true ∧ tempsB zs = true) ∧ zs ≠ []
    · have ht : thicksT m zs = thicksF m zs := thicksT_ok h.1.1 h.1.2
      have hlen := thicksF_length m zs
      have hpos : 0 < zs.length := List.length_pos_iff.2 h.2
      have hz0 : ((zs.length : Int) == 0) = false := beq_eq_false_iff_ne.2 (by omega)
      have rg := inB_t h.1.1
      have key : ∀ k, k < zs.length → runT m (zs.take (k + 1)) = runF m (zs.take (k + 1)) := fun k hk =>
        runT_ok h.1.1 (tempsB_sub h.1.2 (by rw [List.length_take]; omega) (fun y hy => List.mem_of_mem_take hy))
      have K := Lib.hid key
      clear key h
      have Ht := Lib.hid ht
      have Hl := Lib.hid hlen
      clear ht hlen
      go_wp2_with fail
      refine (iThicks_n _ _ _ Ht.out _ Hl.out _ _ _ hrz).mono ?_
      rintro e w2 ⟨A2, c2, rfl, o2, b2⟩
      have r2 := Rd.own o2
      have hrz2 := (hrz.below b2).more b2.size
      go_wp2_with fail
      refine (sThicks_n _ _ _ Ht.out _ Hl.out _ _ _ hrz2).mono ?_
      rintro e w3 ⟨A3, c3, rfl, o3, b3⟩
      have r3 := Rd.own o3
      have r23 := (r2.below b3).more b3.size
      have hrz3 := (hrz2.below b3).more b3.size
      go_wp2_with fail
      refine (equalInts_n _ _ Hl.out _ _ _ _ _ _ r23 r3 (by omega)).mono ?_
      rintro e w' ⟨rfl, n, rfl⟩
      clear o2 o3 r2 r3
      go_wp2
      go_loopw [6] (fun i wr => ∃ k : Nat, k ≤ zs.length ∧ i = .int .i64 k ∧ ∃ q, wr = w3.drewN q) (fun i _ => zs.length - (intOf i).toNat)
      case atStart => exact ⟨0, Nat.zero_le _, rfl, n, rfl⟩
      case round =>
        obtain ⟨k, hk, rfl, q, hq⟩ := hrel
        have Hq := Lib.hid hq
        clear hq
        have r23' : Rd wr w3.heap.size A2 (ints (thicksF m zs)) := by rw [Hq.out]; exact r23
        have hrz3' : Rd wr w3.heap.size Az (ints zs) := by rw [Hq.out]; exact hrz3
        by_cases hlt : k < zs.length
        · obtain ⟨b, off, z, rfl, hb, hz, hc⟩ := r23'.int_ (k := k) (by have := Hl.out; omega)
          obtain rfl : rt (runT m (zs.take (k + 1))) = z := by
            have := hz.out
            rw [thicksF_at hlt, thickAt, ← K.out k hlt] at this
            injection this
          have rb := runF_range m rg.1 rg.2 (zs.take (k + 1))
          rw [← K.out k hlt] at rb
          obtain ⟨rb0, rb1⟩ := rb
          have lT : (zs.take (k + 1)).length = k + 1 := by rw [List.length_take]; omega
          have hT : Rd wr w3.heap.size Az (ints (zs.take (k + 1))) := by rw [ints, List.map_take]; exact hrz3'.take _
          have wk : IntKind.i64.wrap ((k : Int) + 1) = (k : Int) + 1 := IntWalk.i64_in _ ⟨by omega, by omega⟩
          have tk : ((k : Int) + 1).toNat = k + 1 := by omega
          have k0 : 0 ≤ (k : Int) + 1 := by omega
          have k1 : (k : Int) + 1 ≤ (cz : Int) := by omega
          have k2 : k + 1 ≤ cz := by omega
          go_wp2
          refine wp_region_quiet_lit (by kernel_rfl) (by kernel_rfl) ?_
          repeat (quiet_step (fail))
          refine wpQuiet_step (fun K hK => ?_)
          go_simp
          apply Exists.intro
          refine ⟨fun _ => ?_, hK _ ?_⟩
          · go_at_call 22; exact quiet_same (iRun_n (k + 1) _ lT _ _ _ _ (hT.drewN _) _)
          clear hK K
          repeat (quiet_step (fail))
          refine wpQuiet_step (fun K hK => ?_)
          go_simp
          apply Exists.intro
          refine ⟨fun _ => ?_, hK _ ?_⟩
          · go_at_call 16; exact quiet_same (iThickOf_any _ rb0 rb1 _)
          clear hK K
          repeat (quiet_step (fail))
          refine wpQuiet_nil ?_
          intro _ hw'
          obtain ⟨nq, hw''⟩ := hw'
          subst hw''
          clear wk tk
          go_wp2
          go_roundw
          case rel => exact ⟨k + 1, by omega, by go_num, q + nq, by rw [Hq.out, World.drewN_drewN]⟩
          case measure => simp [intOf]; omega
        · obtain rfl : k = zs.length := by omega
          go_wp2
          go_ret
          rw [Hq.out]
          exact ⟨rfl, below_drewN (b1.trans ((b2.trans (b3.mono b2.size)).mono b1.size)) _⟩
    · have ht : thicksT m zs = [] := by
        by_cases h1 : inB m 0 998001 = true ∧ tempsB zs = true
        · have hz : zs = [] := by
            by_cases hz : zs = []
            · exact hz
            · exact absurd ⟨h1, hz⟩ h
          rw [thicksT_ok h1.1 h1.2, hz]; rfl
        · exact thicksT_nil h1
      have Ht := Lib.hid ht
      clear ht h
      go_wp2_with fail
      refine (iThicks_n _ _ _ Ht.out 0 rfl _ _ _ hrz).mono ?_
      rintro e w2 ⟨A2, c2, rfl, o2, b2⟩
      have r2 := Rd.own o2
      have hrz2 := (hrz.below b2).more b2.size
      go_wp2_with fail
      refine (sThicks_n _ _ _ Ht.out 0 rfl _ _ _ hrz2).mono ?_
      rintro e w3 ⟨A3, c3, rfl, o3, b3⟩
      have r3 := Rd.own o3
      have r23 := (r2.below b3).more b3.size
      have hrz3 := (hrz2.below b3).more b3.size
      go_wp2_with fail
      refine (equalInts_n 0 [] rfl _ _ _ _ _ _ r23 r3 (by omega)).mono ?_
      rintro e w' ⟨rfl, n, rfl⟩
      go_wp2_with fail
      refine (sThicks_n _ _ _ Ht.out 0 rfl _ _ _ (hrz3.drewN n)).mono ?_
      rintro e w4 ⟨A4, c4, rfl, o4, b4⟩
      go_wp2_with fail
      refine (equalInts_n 0 [] rfl _ _ _ _ _ w4.heap.size (rd_nil _ _ _) (rd_nil _ _ _) (by omega)).mono ?_
      rintro e w' ⟨rfl, n2, rfl⟩
      go_wp2
      go_ret
      exact ⟨rfl, below_drewN ((below_drewN (b1.trans ((b2.trans (b3.mono b2.size)).mono b1.size)) n).trans (b4.mono (Nat.le_trans b1.size (Nat.le_trans b2.size b3.size)))) n2⟩
  · have hn' : 1048576 < cs.length := by omega
    go_enter Try.func8, Try.ntmps8
    go_wp2
    go_ret
    exact ⟨rfl, Below.refl _ _⟩

set_option maxRecDepth 100000 in
theorem lifted (os : Os) (started : os.Started) (H : Type) (enc : TypeId × Value → H) :
    ReturnsInHanded {} Try.checked os 8 .any (Rows.fnThicksOfSpec.pre6 enc Try.prog Try.f8 Rows.fnThicksOfRow.domain false) (Rows.fnThicksOfSpec.post enc Try.prog Try.f8 false true false false) := by
  refine returnsInHanded_of_change (C := Try.checked) ownNone started (by kernel_rfl) Try.func8
    (ChangeSpec.witness6 (enc := enc) (C := Try.checked) false ⟨#[], #[.slice none 0 0], []⟩ 8 (by kernel_rfl) (by kernel_rfl) (by kernel_rfl) (by kernel_rfl)) ?_
  intro W base args ds gs before hval0 hW hcnd _
  have hval : ∀ (j : Nat) t v, Try.f8.params[j]? = some t → args[j]? = some v → Value.okWide Try.prog W .any base t v := hval0
  have hW' := hW
  obtain ⟨p, q, hA0, hV, rfl, _, _⟩ := hW
  have hA : DataW.TrodAll enc Try.prog W 0 (fun _ => true) true Try.f8.params.toList args.toList ds p := hA0
  rw [Try.params8] at hA hval
  obtain ⟨v0, vs0, d0, ds0, p0, q0, hargs, rfl, rfl, h0, r0⟩ := trodAll_cons hA
  obtain ⟨rfl, rfl, rfl⟩ := trodAll_nil r0
  obtain rfl : args = #[v0] := by cases args; simp_all
  obtain ⟨rfl, rfl⟩ := trodVars_none hV
  obtain ⟨Acs, ccs, cs, rfl, hrcs, hlcs, hqcs⟩ := open_rd Try.underlying22 Try.underlying5 cellsByte (hval 0 22 v0 rfl rfl) h0
  have hbcs := byte_bounds hqcs
  clear hA0 hval0
  refine (walk W cs Acs ccs hrcs hbcs hlcs).mono fun e W' ⟨he, hg⟩ => ?_
  subst he
  exact ⟨_, rfl, law_post laidOut (by kernel_rfl) rfl rfl rfl rfl rfl Try.underlying4 hW' hg⟩

/-- The statement. -/
theorem proved : Rows.FnThicksOfSaid :=
  OpenClaim.holds_of_wide 8 Try.f8 rfl rfl rfl rfl rfl rfl rfl ⟨rfl, rfl, rfl, rfl, rfl⟩ rfl rfl rfl rfl rfl (by kernel_rfl) Try.func8 (by kernel_rfl)
    (of_decide_eq_true (by kernel_rfl)) (by unfold Func.isWrapper; first | (rw [if_pos (by decide +kernel)]; kernel_rfl) | (rw [if_neg (by decide +kernel)]; exact ⟨rfl, rfl⟩))
    (fun os started H enc _ => lifted os started H enc)
#print axioms proved
end fnThicksOf

end Go.Proofs.Ythccmpbklhlohaa

/- The law FnCakesAt: for every code it answers true, and the code reads as it read before. No condition. -/
import Derived.Test.YtbnggakfogcaladGCakT
import Derived.Test.YtbnggakfogcaladGCakT
import Derived.Test.YtbnggakfogcaladLaw
namespace Go.Proofs.Ytbnggakfogcalad
open Go.RowKit
set_option linter.unusedVariables false
set_option linter.unusedSimpArgs false

namespace fnCakesAt
open Go.ChangeShapes Go.WideShapes Go.ChangeAt Go.RowKit
set_option maxRecDepth 100000 in
set_option maxHeartbeats 800000 in
set_option maxRecDepth 100000 in
set_option maxRecDepth 100000 in
set_option maxHeartbeats 8000000 in
theorem walk (w : World) (cs : List Int) (Acs : Option Addr) (ccs : Nat) (hrcs : Rd w w.heap.size Acs (bytes cs)) (hbcs : ∀ z ∈ cs, 0 ≤ z ∧ z ≤ 255) (hlcs : cs.length ≤ ccs ∧ ccs ≤ maxLen) :
    Calls Try.prog 12 #[.slice Acs cs.length ccs] w fun e w' => e = .returned (.bool true) ∧ Below w.heap.size w w' := by
  by_cases hn : cs.length ≤ 1048576
  · go_enter Try.func12, Try.ntmps12
    go_wp2_with fail
    refine (dCakesAt _ _ _ _ hrcs hbcs hlcs.1 hlcs.2).mono ?_
    rintro e w1 ⟨ff, Af, cf, a, b, x, y, rfl, ⟨hpl, hpc, hcm, hg⟩, b1⟩
    have hn1 : ff.length ≤ 1048576 := by omega
    obtain ⟨ts, hts⟩ : ∃ ts, ts = cakesT ff a b x y := ⟨_, rfl⟩
    have cI := iCakes_any ff Af cf ⟨hpc, hcm⟩ w1 hg a b x y
    have cS := fun w hg => sCakes_any ff Af cf w hg hn1 a b x y
    have htl := cakesT_len ff a b x y
    rw [← hts] at cI htl
    simp only [← hts] at cS
    have CS := Lib.hid cS
    have HTS := Lib.hid hts
    clear hts cS
    generalize hn0 : ts.length = n at *
    have HN := Lib.hid hn0
    clear hn0
    go_wp2_with fail
    refine cI.mono ?_
    rintro e w2 ⟨A2, c2, rfl, o2, b2⟩
    have hg2 := (hg.below b2).more b2.size
    have bl2 := b1.trans (b2.mono b1.size)
    have hcp2 := owz_capsG o2
    rw [HN.out] at o2 hcp2
    clear cI b1 b2 hg
    go_wp2_with fail
    refine (CS.out w2 hg2).mono ?_
    rintro e w3 ⟨A3, c3, rfl, o3, b3⟩
    rw [HN.out] at o3 ⊢
    have hg3 := (hg2.below b3).more b3.size
    have r23 := ((Rd.ownz o2).below b3).more b3.size
    have bl3 := bl2.trans (b3.mono bl2.size)
    clear b3 hg2 o2 bl2
    go_wp2_with fail
    refine (equalCakes_same ts n HN.out A2 A3 c2 c3 w3 _ r23 (Rd.ownz o3) (by omega)).mono ?_
    rintro e w4 ⟨rfl, n4, h4⟩
    have hg4 : RdF w4 w4.heap.size Af ff := by rw [h4]; exact hg3.drewN n4
    have r24 : Rd w4 w4.heap.size A2 (cakeV ts) := by rw [h4]; exact r23.drewN n4
    have bl4 : Below w.heap.size w w4 := by rw [h4]; exact below_drewN bl3 n4
    clear h4 hg3 r23 bl3 o3
    by_cases h0 : n = 0
    · have hkb : ((n : Int) == 0) = true := beq_iff_eq.2 (by omega)
      clear h0
      go_wp2_with fail
      refine (CS.out w4 hg4).mono ?_
      rintro e w5 ⟨A5, c5, rfl, o5, b5⟩
      rw [HN.out] at o5 ⊢
      have r25 := (r24.below b5).more b5.size
      have bl5 := bl4.trans (b5.mono bl4.size)
      clear b5
      go_wp2_with fail
      refine (equalCakes_same ts n HN.out A2 A5 c2 c5 w5 _ r25 (Rd.ownz o5) (by omega)).mono ?_
      rintro e w6 ⟨rfl, n6, h6⟩
      have bl6 : Below w.heap.size w w6 := by rw [h6]; exact below_drewN bl5 n6
      clear h6
      go_wp2
      go_ret
      exact ⟨rfl, bl6⟩
    · have hkb : ((n : Int) == 0) = false := beq_eq_false_iff_ne.2 (by omega)
      obtain ⟨hv, hs, a', b', x', y', rfl, rfl, rfl, rfl, hxa, hyb, hgr⟩ := cakesT_some (ff := ff) (a := a) (b := b) (x := x) (y := y) (by rw [← HTS.out, HN.out]; exact h0)
      have hsb := sidesB_t hs
      have hval : cakesB (a' : Int) (b' : Int) ts = true := by rw [HTS.out, hgr]; exact grid_valid hv hs
      have hare : n * a' * b' ≤ areaN ff := by
        have := grid_area (ff := ff) (w := a') (h := b') (dx := x') (dy := y') hv
        rw [← hgr, ← HTS.out, HN.out] at this
        exact this
      have HM : Hid (∀ (k : Nat) (u v : Int), ts[k]? = some (u, v) → ∃ p q : Nat, u = (p : Int) ∧ v = (q : Int) ∧ p % a' = x' ∧ q % b' = y') := Lib.hid fun k u v hk => by
        have hm := List.mem_of_getElem? hk
        rw [HTS.out, hgr] at hm
        obtain ⟨p, q, e, hq, hp, _⟩ := grid_mem hm
        injection e with e1 e2
        exact ⟨p, q, e1, e2, hp, hq⟩
      have HV : Hid (Calls Try.prog 51 #[.slice A2 n c2, .int .i64 (a' : Int), .int .i64 (b' : Int)] w4 fun e w' => e = .returned (.bool true) ∧ Below w4.heap.size w4 w') := Lib.hid (by
        have := iVC_any n (by omega) ts HN.out A2 c2 hcp2 w4 r24 (a' : Int) (b' : Int)
        rw [hval] at this
        exact this)
      have HA : Hid (∀ w', Below w4.heap.size w4 w' → Calls Try.prog 52 #[.slice Af ff.length cf] w' fun e w'' => e = .returned (.int .i64 (areaN ff : Nat)) ∧ w' = w'') := Lib.hid fun w' hb => by
        have := iArea_any ff Af cf w' _ ((hg4.below hb).more hb.size)
        rw [areaT_ok hv] at this
        exact this
      have hab := area_bd hv
      obtain ⟨P1, hP1⟩ : ∃ P1, P1 = n * a' := ⟨_, rfl⟩
      obtain ⟨P2, hP2⟩ : ∃ P2, P2 = P1 * b' := ⟨_, rfl⟩
      have m1 : P1 ≤ 81 * 4 := by rw [hP1]; exact Nat.mul_le_mul htl (by omega)
      have m2 : P2 ≤ 324 * 4 := by rw [hP2]; exact Nat.mul_le_mul m1 (by omega)
      have q1 : (n : Int) * (a' : Int) = (P1 : Int) := by rw [hP1, Int.natCast_mul]
      have q2 : (P1 : Int) * (b' : Int) = (P2 : Int) := by rw [hP2, Int.natCast_mul]
      have q3 : IntKind.i64.wrap ((n : Int) * (a' : Int)) = (P1 : Int) := by rw [q1]; exact IntWalk.i64_in _ (by omega)
      have q4 : IntKind.i64.wrap ((P1 : Int) * (b' : Int)) = (P2 : Int) := by rw [q2]; exact IntWalk.i64_in _ (by omega)
      have hle : P2 ≤ areaN ff := by rw [hP2, hP1]; exact hare
      have hleI : (P2 : Int) ≤ ((areaN ff : Nat) : Int) := by omega
      have HRR := Lib.hid r24
      have za : ((a' : Int) == 0) = false := beq_eq_false_iff_ne.2 (by omega)
      have zb : ((b' : Int) == 0) = false := beq_eq_false_iff_ne.2 (by omega)
      have za2 : ¬ (a' : Int) = 0 := by omega
      have zb2 : ¬ (b' : Int) = 0 := by omega
      clear hare hval hgr hv hs hg4 r24 CS hP1 hP2 q1 q2 h0 HTS
      generalize areaN ff = an at *
      go_wp2
      go_loopw [9] (fun i wr => ∃ k : Nat, k ≤ n ∧ i = .int .i64 k ∧ wr = w4) (fun i _ => n - (intOf i).toNat)
      case atStart => exact ⟨0, Nat.zero_le _, rfl, rfl⟩
      case round =>
        obtain ⟨k, hk, rfl, rfl⟩ := hrel
        by_cases hlt : k < n
        · obtain ⟨bb, off, u, v, rfl, hb, hz, hc1, hc2⟩ := HRR.out.cake_ (k := k) (by rw [HN.out]; exact hlt)
          obtain ⟨p, q, rfl, rfl, hp, hq⟩ := HM.out k u v hz.out
          have t1 := (cast_mod p a' (by omega)).1
          have t2 := (cast_mod p a' (by omega)).2
          have t3 := (cast_mod q b' (by omega)).1
          have t4 := (cast_mod q b' (by omega)).2
          rw [hp] at t1 t2
          rw [hq] at t3 t4
          clear hz hp hq
          go_wp2
          go_roundw
          case rel => exact ⟨k + 1, by omega, by go_num, by first | trivial | rfl⟩
          case measure => simp [intOf]; omega
        · obtain rfl : k = n := by omega
          go_wp2_with fail
          refine (HV.out).mono ?_
          rintro e w5 ⟨rfl, b5⟩
          go_wp2_with fail
          refine (HA.out w5 b5).mono ?_
          rintro e w6 ⟨rfl, rfl⟩
          have bl5 := bl4.trans (b5.mono bl4.size)
          clear b5
          go_wp2
          go_ret
          exact ⟨rfl, bl5⟩
  · have hn' : 1048576 < cs.length := by omega
    go_enter Try.func12, Try.ntmps12
    go_wp2
    go_ret
    exact ⟨rfl, Below.refl _ _⟩

set_option maxRecDepth 100000 in
theorem lifted (os : Os) (started : os.Started) (H : Type) (enc : TypeId × Value → H) :
    ReturnsInHanded {} Try.checked os 12 .any (Rows.fnCakesAtSpec.pre6 enc Try.prog Try.f12 Rows.fnCakesAtRow.domain false) (Rows.fnCakesAtSpec.post enc Try.prog Try.f12 false true false false) := by
  refine returnsInHanded_of_change (C := Try.checked) ownNone started (by kernel_rfl) Try.func12
    (ChangeSpec.witness6 (enc := enc) (C := Try.checked) false ⟨#[], #[.slice none 0 0], []⟩ 8 (by kernel_rfl) (by kernel_rfl) (by kernel_rfl) (by kernel_rfl)) ?_
  intro W base args ds gs before hval0 hW hcnd _
  have hval : ∀ (j : Nat) t v, Try.f12.params[j]? = some t → args[j]? = some v → Value.okWide Try.prog W .any base t v := hval0
  have hW' := hW
  obtain ⟨p, q, hA0, hV, rfl, _, _⟩ := hW
  have hA : DataW.TrodAll enc Try.prog W 0 (fun _ => true) true Try.f12.params.toList args.toList ds p := hA0
  rw [Try.params12] at hA hval
  obtain ⟨v0, vs0, d0, ds0, p0, q0, hargs, rfl, rfl, h0, r0⟩ := trodAll_cons hA
  obtain ⟨rfl, rfl, rfl⟩ := trodAll_nil r0
  obtain rfl : args = #[v0] := by cases args; simp_all
  obtain ⟨rfl, rfl⟩ := trodVars_none hV
  obtain ⟨Acs, ccs, cs, rfl, hrcs, hlcs, hqcs⟩ := open_rd Try.underlying22 Try.underlying5 cellsByte (hval 0 22 v0 rfl rfl) h0
  have hbcs := byte_bounds hqcs
  clear hA0 hval0
  refine (walk W cs Acs ccs hrcs hbcs hlcs).mono fun e W' ⟨he, hg⟩ => ?_
  subst he
  exact ⟨_, rfl, law_post laidOut (by kernel_rfl) rfl rfl rfl rfl rfl Try.underlying4 hW' hg⟩

/-- The statement. -/
theorem proved : Rows.FnCakesAtSaid :=
  OpenClaim.holds_of_wide 12 Try.f12 rfl rfl rfl rfl rfl rfl rfl ⟨rfl, rfl, rfl, rfl, rfl⟩ rfl rfl rfl rfl rfl (by kernel_rfl) Try.func12 (by kernel_rfl)
    (of_decide_eq_true (by kernel_rfl)) (by unfold Func.isWrapper; first | (rw [if_pos (by decide +kernel)]; kernel_rfl) | (rw [if_neg (by decide +kernel)]; exact ⟨rfl, rfl⟩))
    (fun os started H enc _ => lifted os started H enc)
#print axioms proved
end fnCakesAt

end Go.Proofs.Ytbnggakfogcalad

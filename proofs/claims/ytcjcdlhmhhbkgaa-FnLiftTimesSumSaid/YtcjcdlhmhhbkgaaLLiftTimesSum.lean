/- The law FnLiftTimesSum: for every code it answers true, and the code reads as it read before. No condition. -/
import Derived.Test.YtcjcdlhmhhbkgaaLLaw
import Derived.Test.YtcjcdlhmhhbkgaaLDrawsB
import Derived.Test.YtcjcdlhmhhbkgaaLaw
namespace Go.Proofs.Ytcjcdlhmhhbkgaa
open Go.RowKit
set_option linter.unusedVariables false
set_option linter.unusedSimpArgs false

namespace fnLiftTimesSum
open Go.ChangeShapes Go.WideShapes Go.ChangeAt Go.RowKit
set_option maxHeartbeats 800000 in
set_option maxRecDepth 100000 in
set_option maxHeartbeats 8000000 in
theorem walk (w : World) (cs : List Int) (Acs : Option Addr) (ccs : Nat) (hrcs : Rd w w.heap.size Acs (bytes cs)) (hbcs : ∀ z ∈ cs, 0 ≤ z ∧ z ≤ 255) (hlcs : cs.length ≤ ccs ∧ ccs ≤ maxLen) :
    Calls Try.prog 6 #[.slice Acs cs.length ccs] w fun e w' => e = .returned (.bool true) ∧ Below w.heap.size w w' := by
  by_cases hn : cs.length ≤ 1048576
  · go_enter Try.func6, Try.ntmps6
    go_wp2_with fail
    refine (dLiftTimes _ _ _ _ hrcs hbcs hlcs.1 hlcs.2).mono ?_
    rintro e w1 ⟨zs, Azs, czs, a, b, rfl, ⟨hlzs, hrzs, hczs, hmzs⟩, ⟨loa, hia⟩, ⟨lob, hib⟩, b1⟩
    have hn1 : zs.length ≤ 1048576 := by omega
    obtain ⟨ts, hts⟩ : ∃ ts, ts = liftT zs a b := ⟨_, rfl⟩
    have htl : ts.length ≤ 1048576 := by rw [hts]; exact Nat.le_trans (liftT_le _ _ _) (by omega)
    have HTS := Lib.hid hts
    clear hts
    go_wp2_with fail
    refine (iLift_is zs Azs czs w1 hrzs a b HTS.out).mono ?_
    rintro e w2 ⟨A2, c2, rfl, o2, b2⟩
    have hr2 := hrzs.up b2
    go_wp2_with fail
    refine (sLift_is zs Azs czs w2 hr2 hn1 a b HTS.out).mono ?_
    rintro e w3 ⟨A3, c3, rfl, o3, b3⟩
    have hr3 := hr2.up b3
    have r23 := (Rd.own o2).up b3
    have o23 := own_below o2 b3
    have bl3 : Below w.heap.size w w3 := (b1.trans (b2.mono b1.size)).trans (b3.mono (by have := b1.size; have := b2.size; omega))
    go_wp2_with fail
    refine (eqT_b ts A2 A3 c2 c3 w3 w3.heap.size r23 (Rd.own o3) htl).mono ?_
    rintro e w4 ⟨rfl, b4⟩
    have hr4 := hr3.up b4
    have r24 := r23.up b4
    have o24 := own_below o23 b4
    have bl4 := bl3.trans (b4.mono bl3.size)
    clear o2 o3 b1 b2 b3 b4 hrzs hr2 hr3 r23 o23 bl3
    by_cases h0 : ts.length = 0
    · have hz0 : ((ts.length : Int) == 0) = true := beq_iff_eq.2 (by omega)
      clear h0
      go_wp2_with fail
      refine (sLift_is zs Azs czs w4 hr4 hn1 a b HTS.out).mono ?_
      rintro e w5 ⟨A5, c5, rfl, o5, b5⟩
      go_wp2_with fail
      refine (eqT_b ts A2 A5 c2 c5 w5 w5.heap.size (r24.up b5) (Rd.own o5) htl).mono ?_
      rintro e w6 ⟨rfl, b6⟩
      have bl6 := bl4.trans ((b5.trans (b6.mono b5.size)).mono bl4.size)
      clear o5 b5 b6 r24 o24 hr4 bl4
      go_wp2
      go_ret
      exact ⟨rfl, bl6⟩
    · have hz0 : ((ts.length : Int) == 0) = false := beq_eq_false_iff_ne.2 (by omega)
      have hlv := lift_some HTS.out h0
      obtain ⟨hT, hg, m, hbm, hm0, hm8⟩ := lvB_t hlv
      subst hbm
      have e : ts = liftF zs a m := by rw [HTS.out, liftT_ok hlv]
      have hN : ts.length = zs.length := by rw [e, liftF_len]
      have HE := Lib.hid e
      have HT := Lib.hid hT
      clear hlv hT e h0 htl
      generalize hgen : ts.length = N at *
      subst hN
      clear hgen
      have cL : Calls Try.prog 20 #[.slice Azs zs.length czs, .int .i64 a, .int .i64 1] w4 (OutI (liftF zs a 1) w4) := iLift_is zs Azs czs w4 hr4 a ((1 : Nat) : Int) (lift_of HT.out hg (by omega))
      go_wp2_with fail
      refine cL.mono ?_
      rintro e w5 ⟨A5, c5, rfl, o5, b5⟩
      rw [liftF_len] at o5 ⊢
      have hpos : 0 < zs.length := by
        have := beq_eq_false_iff_ne.1 hz0
        omega
      obtain ⟨g5, rfl, hg5, hgl5, _, _⟩ := own_some o5 hpos
      have HC : Hid (∀ k, k < zs.length → w5.cell? ⟨g5, k, none⟩ = some (.int .i64 (la zs a 1 k))) := Lib.hid fun k hk => by
        have := own_cell o5 (ints_el (zs := liftF zs a 1) (k := k) (by rw [liftF_len]; exact hk))
        rwa [liftF_at hk] at this
      have hr5 := hr4.up b5
      have bl5 := bl4.trans (b5.mono bl4.size)
      clear o5 b5 o24 r24 hr4 bl4 cL
      go_wp2
      go_loop [8] (fun i => ∃ k : Nat, k ≤ zs.length ∧ i = .int .i64 k) (fun i => zs.length - (intOf i).toNat)
      case atStart => exact ⟨0, Nat.zero_le _, rfl⟩
      case round =>
        obtain ⟨i, hi, rfl⟩ := hrel
        by_cases hlt : i < zs.length
        · have HL : Hid (lateF zs a i (i + 1) = la zs a 1 i) := Lib.hid (late_la (fun k hk => (HT.out.bd k hk).1) (by omega) hlt)
          have hci := HC.out i hlt
          go_wp2
          go_loop [9, 10] (fun v q => ∃ k : Nat, k ≤ i + 1 ∧ q = .int .i64 k ∧ v = .int .i64 (lateF zs a i k)) (fun _ q => i + 1 - (intOf q).toNat)
          case atStart => exact ⟨0, Nat.zero_le _, rfl, rfl⟩
          case round =>
            obtain ⟨k, hk, rfl, rfl⟩ := hrel
            by_cases hkl : k ≤ i
            · obtain ⟨b, off, rfl, hb, hc⟩ := hr5.el_ (k := k) (by omega)
              have hz := HT.out.bd k (by omega)
              have HS := Lib.hid (lateF_succ zs a i k)
              have p1 : 0 ≤ a * ((i : Int) - (k : Int)) := Int.mul_nonneg (by omega) (by omega)
              have p2 : a * ((i : Int) - (k : Int)) ≤ 60 * 40 := Int.mul_le_mul (by omega) (by omega) (by omega) (by omega)
              generalize hP : a * ((i : Int) - (k : Int)) = P at *
              have HP := Lib.hid hP
              generalize lateF zs a i k = L at *
              by_cases hq : L < el zs k + P
              · have e : lateF zs a i (k + 1) = el zs k + P := by rw [HS.out, mx_lt hq]
                have HE2 := Lib.hid e
                clear e
                go_wp2
                go_round
                case rel => exact ⟨k + 1, by omega, by go_num, by rw [HE2.out]⟩
                case measure => simp [intOf]; omega
              · have e : lateF zs a i (k + 1) = L := by rw [HS.out, mx_ge hq]
                have HE2 := Lib.hid e
                clear e
                go_wp2
                go_round
                case rel => exact ⟨k + 1, by omega, by go_num, by rw [HE2.out]⟩
                case measure => simp [intOf]; omega
            · obtain rfl : k = i + 1 := by omega
              have hci2 := hci
              rw [HL.out]
              generalize hiq : i + 1 = q at *
              have HIQ := Lib.hid hiq
              clear hiq
              go_wp2
              go_round
              case rel => exact ⟨q, by have := HIQ.out; omega, by have := HIQ.out; first | go_num | (congr 1; omega)⟩
              case measure => have := HIQ.out; simp [intOf]; omega
        · obtain rfl : i = zs.length := by omega
          go_wp2
          go_ret
          exact ⟨rfl, bl5⟩
  · have hn' : 1048576 < cs.length := by omega
    go_enter Try.func6, Try.ntmps6
    go_wp2
    go_ret
    exact ⟨rfl, Below.refl _ _⟩

set_option maxRecDepth 100000 in
theorem lifted (os : Os) (started : os.Started) (H : Type) (enc : TypeId × Value → H) :
    ReturnsInHanded {} Try.checked os 6 .any (Rows.fnLiftTimesSumSpec.pre6 enc Try.prog Try.f6 Rows.fnLiftTimesSumRow.domain false) (Rows.fnLiftTimesSumSpec.post enc Try.prog Try.f6 false true false false) := by
  refine returnsInHanded_of_change (C := Try.checked) ownNone started (by kernel_rfl) Try.func6
    (ChangeSpec.witness6 (enc := enc) (C := Try.checked) false ⟨#[], #[.slice none 0 0], []⟩ 8 (by kernel_rfl) (by kernel_rfl) (by kernel_rfl) (by kernel_rfl)) ?_
  intro W base args ds gs before hval0 hW hcnd _
  have hval : ∀ (j : Nat) t v, Try.f6.params[j]? = some t → args[j]? = some v → Value.okWide Try.prog W .any base t v := hval0
  have hW' := hW
  obtain ⟨p, q, hA0, hV, rfl, _, _⟩ := hW
  have hA : DataW.TrodAll enc Try.prog W 0 (fun _ => true) true Try.f6.params.toList args.toList ds p := hA0
  rw [Try.params6] at hA hval
  obtain ⟨v0, vs0, d0, ds0, p0, q0, hargs, rfl, rfl, h0, r0⟩ := trodAll_cons hA
  obtain ⟨rfl, rfl, rfl⟩ := trodAll_nil r0
  obtain rfl : args = #[v0] := by cases args; simp_all
  obtain ⟨rfl, rfl⟩ := trodVars_none hV
  obtain ⟨Acs, ccs, cs, rfl, hrcs, hlcs, hqcs⟩ := open_rd Try.underlying22 Try.underlying5 cellsByte (hval 0 22 v0 rfl rfl) h0
  have hbcs := byte_bounds hqcs
  clear hA0 hval0
  refine (walk W cs Acs ccs hrcs hbcs hlcs).mono fun e W' ⟨he, hg⟩ => ?_
  subst he
  exact ⟨_, rfl, law_post laidOut (by kernel_rfl) rfl rfl rfl rfl rfl Try.underlying4 hW' hg⟩

/-- The statement. -/
theorem proved : Rows.FnLiftTimesSumSaid :=
  OpenClaim.holds_of_wide 6 Try.f6 rfl rfl rfl rfl rfl rfl rfl ⟨rfl, rfl, rfl, rfl, rfl⟩ rfl rfl rfl rfl rfl (by kernel_rfl) Try.func6 (by kernel_rfl)
    (of_decide_eq_true (by kernel_rfl)) (by unfold Func.isWrapper; first | (rw [if_pos (by decide +kernel)]; kernel_rfl) | (rw [if_neg (by decide +kernel)]; exact ⟨rfl, rfl⟩))
    (fun os started H enc _ => lifted os started H enc)
#print axioms proved
end fnLiftTimesSum

end Go.Proofs.Ytcjcdlhmhhbkgaa

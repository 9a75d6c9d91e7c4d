/- The law FnBestBox: for every code it answers true, and the code reads as it read before. No condition. -/
import Derived.Test.YtbnggakfogcalaaHLaw
import Derived.Test.YtbnggakfogcalaaHDraws
import Derived.Test.YtbnggakfogcalaaLaw
namespace Go.Proofs.Ytbnggakfogcalaa
open Go.RowKit
set_option linter.unusedVariables false
set_option linter.unusedSimpArgs false

namespace fnBestBox
open Go.ChangeShapes Go.WideShapes Go.ChangeAt Go.RowKit
set_option maxRecDepth 100000 in
set_option maxHeartbeats 800000 in
set_option maxRecDepth 100000 in
set_option maxRecDepth 100000 in
set_option maxHeartbeats 8000000 in
theorem walk (w : World) (cs : List Int) (Acs : Option Addr) (ccs : Nat) (hrcs : Rd w w.heap.size Acs (bytes cs)) (hbcs : ∀ z ∈ cs, 0 ≤ z ∧ z ≤ 255) (hlcs : cs.length ≤ ccs ∧ ccs ≤ maxLen) :
    Calls Try.prog 9 #[.slice Acs cs.length ccs] w fun e w' => e = .returned (.bool true) ∧ Below w.heap.size w w' := by
  by_cases hn : cs.length ≤ 1048576
  · go_enter Try.func9, Try.ntmps9
    go_wp2_with fail
    refine (dBestBox _ _ _ _ hrcs hbcs hlcs.1 hlcs.2).mono ?_
    rintro e w1 ⟨n, rfl, hbn, b1⟩
    have hn0 : n ≤ 9223372036854775807 := by omega
    have CI := Lib.hid (iBest_any n hn0 w1)
    have CS := Lib.hid (fun w' => sBest_any n hn0 w')
    have HOK : BxOk n (bestF n) := bxOut_ok 9 (Nat.le_refl _)
    have HLE : Hid (∀ w d, 1 ≤ w → w ≤ 9 → 1 ≤ d → d ≤ 9 → okBx n w d = true → (bestF n).f ≤ bxG n w d) := Lib.hid fun w d h1 h2 h3 h4 h5 => (bxOut_le 9 (Nat.le_refl _) w d h1 h2 h3 h4 h5).2
    generalize bestF n = s at *
    go_wp2_with fail
    refine (CI.out).mono ?_
    rintro e w2 ⟨rfl, b2⟩
    go_wp2_with fail
    refine (CS.out w2).mono ?_
    rintro e w' ⟨rfl, rfl⟩
    have bl2 := b1.trans (b2.mono b1.size)
    by_cases hw0 : s.w = 0
    · have hwb : (s.w == 0) = true := beq_iff_eq.2 hw0
      clear HOK b1 b2
      go_wp2
      go_ret
      exact ⟨rfl, bl2⟩
    · have hwb : (s.w == 0) = false := beq_eq_false_iff_ne.2 hw0
      obtain ⟨W, D, w1', w2', w3, w4, w5, w6, w7, w8, w9⟩ := HOK.yes (fun h => hw0 (HOK.no h).1)
      obtain ⟨k, k1, k2, hnk, hqk⟩ := okBx_nat w3 w5 w7
      rw [hqk] at w8
      obtain ⟨n', hn'⟩ : ∃ n', n' = W * D * k := ⟨_, rfl⟩
      rw [← hn'] at hnk
      have hM1 : 1 * 1 ≤ W * D := Nat.mul_le_mul w3 w5
      have hM2 : W * D ≤ 9 * 9 := Nat.mul_le_mul w4 w6
      have hpos : 1 ≤ n' := by
        have : 1 * 1 ≤ W * D * k := Nat.mul_le_mul (by omega) k1
        omega
      have hn2 : n' ≤ 972 := by omega
      have HFF : Hid (∀ i j : Nat, 1 ≤ i → i ≤ 9 → 1 ≤ j → j ≤ 9 → okBx n i j = true → ∃ L : List (List Int), (∀ w' : World, Calls Try.prog 33 #[.int .i64 (i : Nat), .int .i64 (j : Nat), .int .i64 n] w' (OutGr L w')) ∧ ∀ A' c' w', RdG w' w'.heap.size A' L → Calls Try.prog 18 #[.slice A' L.length c'] w' fun e w'' => e = .returned (.int .i64 (bxG n i j)) ∧ w' = w'') := Lib.hid fun i j h1 h2 h3 h4 hok => by
        obtain ⟨r, r1, r2, hr, _⟩ := okBx_nat h1 h3 hok
        have hle : i * j * r ≤ i * j * 12 := Nat.mul_le_mul_left _ r2
        have hbf := bx_faces h1 h3 hok
        refine ⟨layF i j (i * j * r), fun w' => ?_, fun A' c' w' hg' => ?_⟩
        · have h := iFill_any (i : Int) (j : Int) ((i * j * r : Nat) : Int) w'
          rw [fillT_ok ⟨h1, h2⟩ ⟨h3, h4⟩ hle, ← hr] at h
          exact h
        · have h := iFaces_any (layF i j (i * j * r)) A' c' w' _ hg'
          rw [hr, Int.toNat_natCast] at hbf
          rw [facesT_ok (lay_heap ⟨h1, h2⟩ ⟨h3, h4⟩ hle), hbf, ← hr] at h
          exact h
      obtain ⟨L0, HF0, HF0b⟩ := HFF.out W D w3 w4 w5 w6 w7
      have H0 := Lib.hid HF0
      have H0b := Lib.hid HF0b
      rw [← w9] at H0b
      have hsf : s.f = (W : Int) * D + 2 * k * (W + D) := by rw [w9, bxG_ok w7, hqk]
      have e2 := natW (a := W) (b := D) (by omega)
      have e3 : IntKind.i64.wrap (((W * D : Nat) : Int) * (k : Int)) = (n' : Int) := by rw [natW (by omega), ← hn']
      have h2' : 2 * k * (W + D) ≤ 2 * 12 * (9 + 9) := Nat.mul_le_mul (by omega) (by omega)
      have e4 : IntKind.i64.wrap (2 * (k : Int) * ((W : Int) + (D : Int))) = ((2 * k * (W + D) : Nat) : Int) := by
        have h3 : 2 * (k : Int) * ((W : Int) + (D : Int)) = ((2 * k * (W + D) : Nat) : Int) := by simp
        rw [h3]; exact IntWalk.i64_in _ (by omega)
      have hsf2 : s.f = ((W * D : Nat) : Int) + ((2 * k * (W + D) : Nat) : Int) := by rw [hsf]; simp
      have hW0 : ((W : Int) == 0) = false := beq_eq_false_iff_ne.2 (by omega)
      have hW1 : ¬ (W : Int) = 0 := by omega
      have HOKB : Hid (∀ i j : Nat, 1 ≤ i → 1 ≤ j → okBx n i j = false → n' % (i * j) ≠ 0 ∨ 12 < n' / (i * j)) := Lib.hid fun i j h1 h3 hok => by
        by_cases hz : n' % (i * j) = 0
        · refine .inr ?_
          false_or_by_contra
          unfold okBx at hok
          have q2 : n / ((i * j : Nat) : Int) = ((n' / (i * j) : Nat) : Int) := by rw [hnk]; exact (Int.natCast_ediv _ _).symm
          have r2 : n % ((i * j : Nat) : Int) = ((n' % (i * j) : Nat) : Int) := by rw [hnk]; exact (Int.natCast_emod _ _).symm
          rw [q2, r2, decide_eq_true (show (1 : Int) ≤ n by omega), decide_eq_true (show ((n' % (i * j) : Nat) : Int) = 0 by omega), decide_eq_true (show ((n' / (i * j) : Nat) : Int) ≤ 12 by omega)] at hok
          cases hok
        · exact .inl hz
      have HOKT : Hid (∀ i j : Nat, 1 ≤ i → 1 ≤ j → okBx n i j = true → n' % (i * j) = 0 ∧ n' / (i * j) ≤ 12) := Lib.hid fun i j h1 h3 hok => by
        unfold okBx at hok
        have q2 : n / ((i * j : Nat) : Int) = ((n' / (i * j) : Nat) : Int) := by rw [hnk]; exact (Int.natCast_ediv _ _).symm
        have r2 : n % ((i * j : Nat) : Int) = ((n' % (i * j) : Nat) : Int) := by rw [hnk]; exact (Int.natCast_emod _ _).symm
        rw [q2, r2] at hok
        simp only [Bool.and_eq_true, decide_eq_true_eq] at hok
        omega
      rw [w1', w2', w8]
      subst hnk
      have hn0' : 0 ≤ s.f := by rw [hsf2]; omega
      have HSF := Lib.hid hsf2
      clear HOK b1 b2 hwb hw0 w1' w2' w8 w9 hn' hqk HF0 HF0b CI CS hsf hsf2
      generalize s.f = G at *
      generalize W * D = p at *
      generalize 2 * k * (W + D) = q at *
      go_wp2_with fail
      refine (H0.out w2).mono ?_
      rintro e w5 ⟨A5, c5, xs5, rfl, o5, b5⟩
      have HC0 := Lib.hid (H0b.out A5 c5 w5 o5.rd)
      have bl5 : Below w.heap.size w w5 := bl2.trans (b5.mono bl2.size)
      have HBL5 := Lib.hid bl5
      clear o5 b5 bl2 bl5 H0 H0b
      generalize L0.length = T at *
      go_wp2_with fail
      refine (HC0.out).mono ?_
      rintro e w' ⟨rfl, rfl⟩
      go_wp2
      go_loopw [11] (fun i wr => ∃ u : Nat, 1 ≤ u ∧ u ≤ 10 ∧ i = .int .i64 u ∧ Below w.heap.size w wr) (fun i _ => 10 - (intOf i).toNat)
      case atStart => exact ⟨1, Nat.le_refl _, by omega, rfl, HBL5.out⟩
      case round =>
        obtain ⟨u, hu1, hu, rfl, hbel⟩ := hrel
        have HB := Lib.hid hbel
        clear hbel
        by_cases hul : u ≤ 9
        · have hulI : (u : Int) ≤ 9 := by omega
          go_wp2
          go_loopw [12] (fun j wi => ∃ v : Nat, 1 ≤ v ∧ v ≤ 10 ∧ j = .int .i64 v ∧ Below w.heap.size w wi) (fun j _ => 10 - (intOf j).toNat)
          case atStart => exact ⟨1, Nat.le_refl _, by omega, rfl, HB.out⟩
          case round =>
            obtain ⟨v, hv1, hv, rfl, hbi⟩ := hrel
            by_cases hvl : v ≤ 9
            · have hvlI : (v : Int) ≤ 9 := by omega
              have m1 : 1 * 1 ≤ u * v := Nat.mul_le_mul hu1 hv1
              have m2 : u * v ≤ 9 * 9 := Nat.mul_le_mul hul hvl
              have e5 := natW (a := u) (b := v) (by omega)
              have q2 : (n' : Int) / ((u * v : Nat) : Int) = ((n' / (u * v) : Nat) : Int) := (Int.natCast_ediv _ _).symm
              have q3 : (n' : Int).tdiv ((u * v : Nat) : Int) = ((n' / (u * v) : Nat) : Int) := by rw [Int.tdiv_eq_ediv_of_nonneg (by omega)]; exact q2
              have r2 : (n' : Int) % ((u * v : Nat) : Int) = ((n' % (u * v) : Nat) : Int) := (Int.natCast_emod _ _).symm
              have r3 : (n' : Int).tmod ((u * v : Nat) : Int) = ((n' % (u * v) : Nat) : Int) := by rw [Int.tmod_eq_emod_of_nonneg (by omega)]; exact r2
              have hqq : n' / (u * v) ≤ n' := Nat.div_le_self _ _
              have i1 : (((u * v : Nat) : Int) == 0) = false := beq_eq_false_iff_ne.2 (by omega)
              have i2 : ¬ u * v = 0 := by omega
              have i3 : ¬ ((u * v : Nat) : Int) = 0 := by omega
              cases hok : okBx (n' : Int) u v
              · have hor := HOKB.out u v hu1 hv1 hok
                have HBI := Lib.hid hbi
                clear hok hbi
                generalize n' / (u * v) = Q at *
                generalize n' % (u * v) = R at *
                generalize hMM : u * v = M at *
                clear hMM
                by_cases hr0 : R = 0
                · have hQ : 12 < Q := by rcases hor with h | h; exact absurd hr0 h; exact h
                  subst hr0
                  have hQI : ¬ (Q : Int) ≤ 12 := by omega
                  have hQd : decide ((Q : Int) ≤ 12) = false := decide_eq_false hQI
                  clear hor
                  go_wp2
                  go_roundw
                  case rel => exact ⟨v + 1, by omega, by omega, by go_num, HBI.out⟩
                  case measure => simp [intOf]; omega
                · have hrb : ((R : Int) == 0) = false := beq_eq_false_iff_ne.2 (by omega)
                  have hrI : ¬ (R : Int) = 0 := by omega
                  clear hor
                  go_wp2
                  go_roundw
                  case rel => exact ⟨v + 1, by omega, by omega, by go_num, HBI.out⟩
                  case measure => simp [intOf]; omega
              · have hor := HOKT.out u v hu1 hv1 hok
                have hge := HLE.out u v hu1 hul hv1 hvl hok
                obtain ⟨L, HL1, HL2⟩ := HFF.out u v hu1 hul hv1 hvl hok
                have H1 := Lib.hid HL1
                have H2 := Lib.hid HL2
                have HBI := Lib.hid hbi
                clear hok hbi HL1 HL2
                generalize bxG (n' : Int) u v = X at *
                generalize n' / (u * v) = Q at *
                generalize n' % (u * v) = R at *
                generalize hMM : u * v = M at *
                clear hMM
                obtain ⟨hr0, hQ⟩ := hor
                subst hr0
                have hQI : (Q : Int) ≤ 12 := by omega
                have hQd : decide ((Q : Int) ≤ 12) = true := decide_eq_true hQI
                have hnl : ¬ X < G := by omega
                go_wp2_with fail
                refine (H1.out wr).mono ?_
                rintro e w7 ⟨A7, c7, xs7, rfl, o7, b7⟩
                have HC7 := Lib.hid (H2.out A7 c7 w7 o7.rd)
                have HB7 : Hid (Below w.heap.size w w7) := Lib.hid (HBI.out.trans (b7.mono HBI.out.size))
                clear o7 b7
                go_wp2_with fail
                refine (HC7.out).mono ?_
                rintro e w' ⟨rfl, rfl⟩
                go_wp2
                go_roundw
                case rel => exact ⟨v + 1, by omega, by omega, by go_num, HB7.out⟩
                case measure => simp [intOf]; omega
            · obtain rfl : v = 10 := by omega
              have HBI := Lib.hid hbi
              clear hbi
              go_wp2
              go_roundw
              case rel => exact ⟨u + 1, by omega, by omega, by go_num, HBI.out⟩
              case measure => simp [intOf]; omega
        · obtain rfl : u = 10 := by omega
          have hGq : G = (p : Int) + (q : Int) := HSF.out
          subst hGq
          go_wp2
          go_ret
          exact ⟨rfl, HB.out⟩
  · have hn' : 1048576 < cs.length := by omega
    go_enter Try.func9, Try.ntmps9
    go_wp2
    go_ret
    exact ⟨rfl, Below.refl _ _⟩

set_option maxRecDepth 100000 in
theorem lifted (os : Os) (started : os.Started) (H : Type) (enc : TypeId × Value → H) :
    ReturnsInHanded {} Try.checked os 9 .any (Rows.fnBestBoxSpec.pre6 enc Try.prog Try.f9 Rows.fnBestBoxRow.domain false) (Rows.fnBestBoxSpec.post enc Try.prog Try.f9 false true false false) := by
  refine returnsInHanded_of_change (C := Try.checked) ownNone started (by kernel_rfl) Try.func9
    (ChangeSpec.witness6 (enc := enc) (C := Try.checked) false ⟨#[], #[.slice none 0 0], []⟩ 8 (by kernel_rfl) (by kernel_rfl) (by kernel_rfl) (by kernel_rfl)) ?_
  intro W base args ds gs before hval0 hW hcnd _
  have hval : ∀ (j : Nat) t v, Try.f9.params[j]? = some t → args[j]? = some v → Value.okWide Try.prog W .any base t v := hval0
  have hW' := hW
  obtain ⟨p, q, hA0, hV, rfl, _, _⟩ := hW
  have hA : DataW.TrodAll enc Try.prog W 0 (fun _ => true) true Try.f9.params.toList args.toList ds p := hA0
  rw [Try.params9] at hA hval
  obtain ⟨v0, vs0, d0, ds0, p0, q0, hargs, rfl, rfl, h0, r0⟩ := trodAll_cons hA
  obtain ⟨rfl, rfl, rfl⟩ := trodAll_nil r0
  obtain rfl : args = #[v0] := by cases args; simp_all
  obtain ⟨rfl, rfl⟩ := trodVars_none hV
  obtain ⟨Acs, ccs, cs, rfl, hrcs, hlcs, hqcs⟩ := open_rd Try.underlying22 Try.underlying5 cellsByte (hval 0 22 v0 rfl rfl) h0
  have hbcs := byte_bounds hqcs
  clear hA0 hval0
  refine (walk W cs Acs ccs hrcs hbcs hlcs).mono fun e W' ⟨he, hg⟩ => ?_
  subst he
  exact ⟨_, rfl, law_post laidOut (by kernel_rfl) rfl rfl rfl rfl rfl Try.underlying4 hW' hg⟩

/-- The statement. -/
theorem proved : Rows.FnBestBoxSaid :=
  OpenClaim.holds_of_wide 9 Try.f9 rfl rfl rfl rfl rfl rfl rfl ⟨rfl, rfl, rfl, rfl, rfl⟩ rfl rfl rfl rfl rfl (by kernel_rfl) Try.func9 (by kernel_rfl)
    (of_decide_eq_true (by kernel_rfl)) (by unfold Func.isWrapper; first | (rw [if_pos (by decide +kernel)]; kernel_rfl) | (rw [if_neg (by decide +kernel)]; exact ⟨rfl, rfl⟩))
    (fun os started H enc _ => lifted os started H enc)
#print axioms proved
end fnBestBox

end Go.Proofs.Ytbnggakfogcalaa

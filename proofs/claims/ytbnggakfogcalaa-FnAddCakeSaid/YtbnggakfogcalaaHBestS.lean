/- Contracts of chapter 5's model: the best box. -/
import Derived.Test.YtbnggakfogcalaaHBoxS
namespace Go.Proofs.Ytbnggakfogcalaa
open Go.RowKit
set_option linter.unusedVariables false
set_option linter.unusedSimpArgs false
set_option maxHeartbeats 400000 in
theorem sBoxF_any (W D K : Nat) (hW : W ≤ 9) (hD : D ≤ 9) (hK : K ≤ 12) (w : World) :
    Calls Try.prog 69 #[.int .i64 (W : Nat), .int .i64 (D : Nat), .int .i64 (K : Nat)] w fun e w' => e = .returned (.int .i64 ((W : Int) * D + 2 * K * (W + D))) ∧ w = w' := by
  have h1 : W * D ≤ 9 * 9 := Nat.mul_le_mul hW hD
  have h2 : 2 * K * (W + D) ≤ 2 * 12 * (9 + 9) := Nat.mul_le_mul (by omega) (by omega)
  have e1 := natW (a := W) (b := D) (by omega)
  have e2 : IntKind.i64.wrap (2 * (K : Int) * ((W : Int) + (D : Int))) = ((2 * K * (W + D) : Nat) : Int) := by
    have h3 : 2 * (K : Int) * ((W : Int) + (D : Int)) = ((2 * K * (W + D) : Nat) : Int) := by simp
    rw [h3]; exact IntWalk.i64_in _ (by omega)
  have HE : Hid ((W : Int) * D + 2 * K * (W + D) = ((W * D : Nat) : Int) + ((2 * K * (W + D) : Nat) : Int)) := Lib.hid (by simp)
  rw [HE.out]
  generalize W * D = p at *
  generalize 2 * K * (W + D) = q at *
  go_enter Try.func69, Try.ntmps69
  go_wp2
  go_ret
  exact ⟨rfl, rfl⟩
theorem bx_zero {n : Int} {s : Bx} (h : BxOk n s) : s.w = 0 ↔ s.f = 0 := by
  constructor
  · intro hw
    false_or_by_contra
    rename_i hf
    obtain ⟨W, D, h1, _, h2, _⟩ := h.yes hf
    omega
  · intro hf
    exact (h.no hf).1
set_option maxHeartbeats 2000000 in
theorem sBest_any (n : Int) (hn : n ≤ 9223372036854775807) (w : World) :
    Calls Try.prog 37 #[.int .i64 n] w fun e w' => e = .returned (.tuple #[.int .i64 (bestF n).w, .int .i64 (bestF n).d, .int .i64 (bestF n).h]) ∧ w = w' := by
  have HE : Hid (bestF n = bxOut n 9) := Lib.hid rfl
  rw [HE.out]
  go_enter Try.func37, Try.ntmps37
  go_wp2
  go_loop [5, 6, 7, 8] (fun bw bd bh i => ∃ (q : Nat) (s : Bx), 1 ≤ q ∧ q ≤ 10 ∧ i = .int .i64 q ∧ bw = .int .i64 s.w ∧ bd = .int .i64 s.d ∧ bh = .int .i64 s.h ∧ s = bxOut n (q - 1)) (fun _ _ _ i => 10 - (intOf i).toNat)
  case atStart => exact ⟨1, _, Nat.le_refl _, by omega, rfl, rfl, rfl, rfl, rfl⟩
  case round =>
    obtain ⟨q, s, hq1, hq, rfl, rfl, rfl, rfl, hs⟩ := hrel
    have HS := Lib.hid hs
    clear hs
    by_cases hlt : q ≤ 9
    · have H0 : Hid (s = bxIn n q s 0) := Lib.hid rfl
      have HSO : Hid (BxOk n s) := Lib.hid (by rw [HS.out]; exact bxOut_ok _ (by omega))
      have hltI : (q : Int) ≤ 9 := by omega
      go_wp2
      go_loop [5, 6, 7, 9] (fun bw bd bh i => ∃ (d : Nat) (t : Bx), 1 ≤ d ∧ d ≤ 10 ∧ i = .int .i64 d ∧ bw = .int .i64 t.w ∧ bd = .int .i64 t.d ∧ bh = .int .i64 t.h ∧ t = bxIn n q s (d - 1)) (fun _ _ _ i => 10 - (intOf i).toNat)
      case atStart => exact ⟨1, s, Nat.le_refl _, by omega, rfl, rfl, rfl, rfl, H0.out⟩
      case round =>
        obtain ⟨d, t, hd1, hd, rfl, rfl, rfl, rfl, ht⟩ := hrel
        by_cases hdt : d ≤ 9
        · have hdtI : (d : Int) ≤ 9 := by omega
          have HTO : BxOk n t := by rw [ht]; exact bxIn_ok ⟨hq1, hlt⟩ HSO.out _ (by omega)
          have HT : Hid (bxIn n q s d = bxStep n q d t) := Lib.hid (by rw [bxIn_succ n q s d hd1, ← ht])
          clear ht
          have hM1 : 1 * 1 ≤ q * d := Nat.mul_le_mul hq1 hd1
          have hM2 : q * d ≤ 9 * 9 := Nat.mul_le_mul hlt hdt
          have e2 := natW (a := q) (b := d) (by omega)
          have i1 : (((q * d : Nat) : Int) == 0) = false := beq_eq_false_iff_ne.2 (by omega)
          have i2 : ¬ q * d = 0 := by omega
          have i3 : ¬ ((q * d : Nat) : Int) = 0 := by omega
          cases hok : okBx n q d
          · have HN : Hid (bxIn n q s d = t) := Lib.hid (by rw [HT.out, bxStep_no (by rw [hok]; simp)])
            clear HTO
            by_cases h1 : n < 1
            · clear hok
              go_wp2
              go_round
              case rel => exact ⟨d + 1, t, by omega, by omega, by go_num, rfl, rfl, rfl, by rw [Nat.add_sub_cancel]; exact HN.out.symm⟩
              case measure => simp [intOf]; omega
            obtain ⟨n', rfl⟩ := Int.eq_ofNat_of_zero_le (show 0 ≤ n by omega)
            have q2 : (n' : Int) / ((q * d : Nat) : Int) = ((n' / (q * d) : Nat) : Int) := (Int.natCast_ediv _ _).symm
            have q3 : (n' : Int).tdiv ((q * d : Nat) : Int) = ((n' / (q * d) : Nat) : Int) := by rw [Int.tdiv_eq_ediv_of_nonneg (by omega)]; exact q2
            have r2 : (n' : Int) % ((q * d : Nat) : Int) = ((n' % (q * d) : Nat) : Int) := (Int.natCast_emod _ _).symm
            have r3 : (n' : Int).tmod ((q * d : Nat) : Int) = ((n' % (q * d) : Nat) : Int) := by rw [Int.tmod_eq_emod_of_nonneg (by omega)]; exact r2
            have hqq : n' / (q * d) ≤ n' := Nat.div_le_self _ _
            have q1 : IntKind.i64.wrap ((n' / (q * d) : Nat) : Int) = ((n' / (q * d) : Nat) : Int) := by
              clear q2 q3 r2 r3
              generalize n' / (q * d) = Q at *
              exact IntWalk.i64_in _ (by omega)
            by_cases h2 : n' % (q * d) = 0
            · have h3 : 12 < n' / (q * d) := by
                false_or_by_contra
                unfold okBx at hok
                rw [q2, r2, decide_eq_true (show (1 : Int) ≤ (n' : Int) by omega), decide_eq_true (show ((n' % (q * d) : Nat) : Int) = 0 by omega), decide_eq_true (show ((n' / (q * d) : Nat) : Int) ≤ 12 by omega)] at hok
                cases hok
              have hr0 : (((n' % (q * d) : Nat) : Int) != 0) = false := by rw [h2]; rfl
              have hr1 : ((n' % (q * d) : Nat) : Int) = 0 := by omega
              have h4 : (12 : Int) < ((n' / (q * d) : Nat) : Int) := by omega
              clear h2 hok
              generalize n' / (q * d) = Q at *
              generalize n' % (q * d) = R at *
              generalize hMM : q * d = M at *
              clear hMM
              go_wp2
              go_round
              case rel => exact ⟨d + 1, t, by omega, by omega, by go_num, rfl, rfl, rfl, by rw [Nat.add_sub_cancel]; exact HN.out.symm⟩
              case measure => simp [intOf]; omega
            · have hr0 : (((n' % (q * d) : Nat) : Int) != 0) = true := bne_iff_ne.2 (by omega)
              have hr1 : ¬ ((n' % (q * d) : Nat) : Int) = 0 := by omega
              clear h2 hok
              generalize n' / (q * d) = Q at *
              generalize n' % (q * d) = R at *
              generalize hMM : q * d = M at *
              clear hMM
              go_wp2
              go_round
              case rel => exact ⟨d + 1, t, by omega, by omega, by go_num, rfl, rfl, rfl, by rw [Nat.add_sub_cancel]; exact HN.out.symm⟩
              case measure => simp [intOf]; omega
          · have hg := bxG_bd ⟨hq1, hlt⟩ ⟨hd1, hdt⟩ hok
            obtain ⟨k, k1, k2, hnk, hqk⟩ := okBx_nat hq1 hd1 hok
            have hn1 : ¬ n < 1 := by
              have : 1 * 1 ≤ q * d * k := Nat.mul_le_mul (by omega) k1
              omega
            have e3 : n.tdiv ((q * d : Nat) : Int) = (k : Int) := by rw [Int.tdiv_eq_ediv_of_nonneg (by omega)]; exact hqk
            have e4 : IntKind.i64.wrap (k : Int) = (k : Int) := IntWalk.i64_in _ (by omega)
            have hmod : n % ((q * d : Nat) : Int) = 0 := by
              unfold okBx at hok
              simp only [Bool.and_eq_true, decide_eq_true_eq] at hok
              exact hok.2.1
            have e5 : n.tmod ((q * d : Nat) : Int) = 0 := by rw [Int.tmod_eq_emod_of_nonneg (by omega)]; exact hmod
            have HG := Lib.hid (bxG_ok hok)
            rw [hqk] at HG
            have C1 := Lib.hid (sBoxF_any q d k hlt hdt k2 w)
            rw [← HG.out] at C1
            by_cases hf0 : t.f = 0
            · have HN : Hid (bxIn n q s d = ⟨q, d, (k : Int), bxG n q d⟩) := Lib.hid (by rw [HT.out, bxStep_yes hok (.inl hf0), hqk])
              have ht0 : t.w = 0 := (bx_zero HTO).2 hf0
              have hfb : (t.w == 0) = true := beq_iff_eq.2 ht0
              clear hok hnk HTO hf0 hqk hmod
              generalize bxG n q d = G at *
              generalize hMM : q * d = M at *
              clear hMM
              go_wp2
              go_round
              case rel => exact ⟨d + 1, ⟨q, d, (k : Int), G⟩, by omega, by omega, by go_num, rfl, rfl, rfl, by rw [Nat.add_sub_cancel]; exact HN.out.symm⟩
              case measure => simp [intOf]; omega
            · obtain ⟨W2, D2, w1, w2, w3, w4, w5, w6, w7, w8, w9⟩ := HTO.yes hf0
              obtain ⟨k', k1', k2', hnk', hqk'⟩ := okBx_nat w3 w5 w7
              rw [hqk'] at w8
              have C2 := Lib.hid (sBoxF_any W2 D2 k' w4 w6 k2' w)
              have hgg : t.f = (W2 : Int) * D2 + 2 * k' * (W2 + D2) := by rw [w9, bxG_ok w7, hqk']
              rw [← hgg] at C2
              have ht0 : ¬ t.w = 0 := fun h => hf0 ((bx_zero HTO).1 h)
              have hfb : (t.w == 0) = false := beq_eq_false_iff_ne.2 ht0
              have HNy : Hid (bxG n q d < t.f → bxIn n q s d = ⟨q, d, (k : Int), bxG n q d⟩) := Lib.hid fun h => by rw [HT.out, bxStep_yes hok (.inr h), hqk]
              have HNn : Hid (¬ bxG n q d < t.f → bxIn n q s d = t) := Lib.hid fun h => by rw [HT.out, bxStep_no fun h2 => by rcases h2.2 with h3 | h3; exact hf0 h3; exact h h3]
              rw [← w1, ← w2, ← w8] at C2
              clear hok hnk HTO hqk hmod w1 w2 w3 w4 w5 w6 w7 w8 w9 hgg hnk' hqk' hf0
              generalize bxG n q d = G at *
              generalize hMM : q * d = M at *
              clear hMM
              by_cases hlt2 : G < t.f
              · skip
                go_wp2_with fail
                refine (C1.out).mono ?_
                rintro e w' ⟨rfl, rfl⟩
                go_wp2_with fail
                refine (C2.out).mono ?_
                rintro e w' ⟨rfl, rfl⟩
                go_wp2
                go_round
                case rel => exact ⟨d + 1, ⟨q, d, (k : Int), G⟩, by omega, by omega, by go_num, rfl, rfl, rfl, by rw [Nat.add_sub_cancel]; exact (HNy.out hlt2).symm⟩
                case measure => simp [intOf]; omega
              · skip
                go_wp2_with fail
                refine (C1.out).mono ?_
                rintro e w' ⟨rfl, rfl⟩
                go_wp2_with fail
                refine (C2.out).mono ?_
                rintro e w' ⟨rfl, rfl⟩
                go_wp2
                go_round
                case rel => exact ⟨d + 1, t, by omega, by omega, by go_num, rfl, rfl, rfl, by rw [Nat.add_sub_cancel]; exact (HNn.out hlt2).symm⟩
                case measure => simp [intOf]; omega
        · obtain rfl : d = 10 := by omega
          have HN : Hid (t = bxOut n q) := Lib.hid (by rw [ht, bxOut_succ n q hq1, ← HS.out])
          clear ht
          go_wp2
          go_round
          case rel => exact ⟨q + 1, t, by omega, by omega, by go_num, rfl, rfl, rfl, by rw [Nat.add_sub_cancel]; exact HN.out⟩
          case measure => simp [intOf]; omega
    · obtain rfl : q = 10 := by omega
      have HN : Hid (s = bxOut n 9) := Lib.hid HS.out
      go_wp2
      go_ret3
      exact ⟨by rw [HN.out]; rfl, rfl⟩

end Go.Proofs.Ytbnggakfogcalaa

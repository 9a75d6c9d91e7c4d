/- Contracts of chapter 5: the best box, the program. -/
import Derived.Test.YtbnggakfogcalaaHBoxI
namespace Go.Proofs.Ytbnggakfogcalaa
open Go.RowKit
set_option linter.unusedVariables false
set_option linter.unusedSimpArgs false
theorem bxIn_succ (n : Int) (w : Nat) (s : Bx) (q : Nat) (hq : 1 ≤ q) : bxIn n w s q = bxStep n w q (bxIn n w s (q - 1)) := by
  obtain ⟨k, rfl⟩ : ∃ k, q = k + 1 := ⟨q - 1, by omega⟩
  rfl
theorem bxOut_succ (n : Int) (q : Nat) (hq : 1 ≤ q) : bxOut n q = bxIn n q (bxOut n (q - 1)) 9 := by
  obtain ⟨k, rfl⟩ : ∃ k, q = k + 1 := ⟨q - 1, by omega⟩
  rfl
theorem bxStep_yes {n : Int} {w d : Nat} {s : Bx} (h : okBx n w d = true) (h2 : s.f = 0 ∨ bxG n w d < s.f) : bxStep n w d s = ⟨w, d, n / ((w * d : Nat) : Int), bxG n w d⟩ := by unfold bxStep; rw [if_pos ⟨h, h2⟩]
theorem bxStep_no {n : Int} {w d : Nat} {s : Bx} (h : ¬(okBx n w d = true ∧ (s.f = 0 ∨ bxG n w d < s.f))) : bxStep n w d s = s := by unfold bxStep; rw [if_neg h]
set_option maxHeartbeats 2000000 in
theorem iBest_any (n : Int) (hn : n ≤ 9223372036854775807) (w : World) :
    Calls Try.prog 36 #[.int .i64 n] w fun e w' => e = .returned (.tuple #[.int .i64 (bestF n).w, .int .i64 (bestF n).d, .int .i64 (bestF n).h]) ∧ Below w.heap.size w w' := by
  have HE : Hid (bestF n = bxOut n 9) := Lib.hid rfl
  rw [HE.out]
  go_enter Try.func36, Try.ntmps36
  go_wp2
  go_loopw [5, 6, 7, 8, 9] (fun bw bd bh bf i wr => ∃ (q : Nat) (s : Bx), 1 ≤ q ∧ q ≤ 10 ∧ i = .int .i64 q ∧ bw = .int .i64 s.w ∧ bd = .int .i64 s.d ∧ bh = .int .i64 s.h ∧ bf = .int .i64 s.f ∧ s = bxOut n (q - 1) ∧ Below w.heap.size w wr) (fun _ _ _ _ i _ => 10 - (intOf i).toNat)
  case atStart => exact ⟨1, _, Nat.le_refl _, by omega, rfl, rfl, rfl, rfl, rfl, rfl, Below.refl _ _⟩
  case round =>
    obtain ⟨q, s, hq1, hq, rfl, rfl, rfl, rfl, rfl, hs, hbel⟩ := hrel
    have HS := Lib.hid hs
    clear hs
    have HBel := Lib.hid hbel
    clear hbel
    by_cases hlt : q ≤ 9
    · obtain ⟨wo, rfl⟩ : ∃ wo, wo = wr := ⟨wr, rfl⟩
      have H0 : Hid (s = bxIn n q s 0) := Lib.hid rfl
      have hltI : (q : Int) ≤ 9 := by omega
      go_wp2
      go_loopw [5, 6, 7, 8, 10] (fun bw bd bh bf i wi => ∃ (d : Nat) (t : Bx), 1 ≤ d ∧ d ≤ 10 ∧ i = .int .i64 d ∧ bw = .int .i64 t.w ∧ bd = .int .i64 t.d ∧ bh = .int .i64 t.h ∧ bf = .int .i64 t.f ∧ t = bxIn n q s (d - 1) ∧ Below wo.heap.size wo wi) (fun _ _ _ _ i _ => 10 - (intOf i).toNat)
      case atStart => exact ⟨1, s, Nat.le_refl _, by omega, rfl, rfl, rfl, rfl, rfl, H0.out, Below.refl _ _⟩
      case round =>
        obtain ⟨d, t, hd1, hd, rfl, rfl, rfl, rfl, rfl, ht, hbi⟩ := hrel
        by_cases hdt : d ≤ 9
        · have HC := Lib.hid (iBoxF_any q d ⟨hq1, hlt⟩ ⟨hd1, hdt⟩ n hn wr)
          have hsz := hbi.size
          have hdtI : (d : Int) ≤ 9 := by omega
          have HT : Hid (bxIn n q s d = bxStep n q d t) := Lib.hid (by rw [bxIn_succ n q s d hd1, ← ht])
          have HBi := Lib.hid hbi
          clear ht hbi
          have hM1 : 1 * 1 ≤ q * d := Nat.mul_le_mul hq1 hd1
          have hM2 : q * d ≤ 9 * 9 := Nat.mul_le_mul hlt hdt
          have e2 := natW (a := q) (b := d) (by omega)
          cases hok : okBx n q d
          · rw [bxG_no hok] at HC
            have HN : Hid (bxIn n q s d = t) := Lib.hid (by rw [HT.out, bxStep_no (by rw [hok]; simp)])
            clear hok
            go_wp2_with fail
            refine (HC.out).mono ?_
            rintro e w2 ⟨rfl, b2⟩
            have HB : Hid (Below wo.heap.size wo w2) := Lib.hid (HBi.out.trans (b2.mono hsz))
            clear b2
            go_wp2
            go_roundw
            case rel => exact ⟨d + 1, t, by omega, by omega, by go_num, rfl, rfl, rfl, rfl, by rw [Nat.add_sub_cancel]; exact HN.out.symm, HB.out⟩
            case measure => simp [intOf]; omega
          · have hg := bxG_bd ⟨hq1, hlt⟩ ⟨hd1, hdt⟩ hok
            obtain ⟨k, k1, k2, hnk, hqk⟩ := okBx_nat hq1 hd1 hok
            have e3 : n.tdiv ((q * d : Nat) : Int) = (k : Int) := by rw [Int.tdiv_eq_ediv_of_nonneg (by omega)]; exact hqk
            have e4 : IntKind.i64.wrap (k : Int) = (k : Int) := IntWalk.i64_in _ (by omega)
            have hn0 : 0 ≤ n := by omega
            have HOK := Lib.hid hok
            have HQK := Lib.hid hqk
            have i1 : (((q * d : Nat) : Int) == 0) = false := beq_eq_false_iff_ne.2 (by omega)
            have i2 : ¬ q * d = 0 := by omega
            have i3 : ¬ ((q * d : Nat) : Int) = 0 := by omega
            have hg0 := hg.1
            by_cases hbetter : t.f = 0 ∨ bxG n q d < t.f
            · have HN : Hid (bxIn n q s d = ⟨q, d, (k : Int), bxG n q d⟩) := Lib.hid (by rw [HT.out, bxStep_yes hok hbetter, hqk])
              clear hok hnk
              generalize bxG n q d = G at *
              generalize hMM : q * d = M at *
              clear hMM
              by_cases hf0 : t.f = 0
              · have hfb : (t.f == 0) = true := beq_iff_eq.2 hf0
                clear hbetter
                go_wp2_with fail
                refine (HC.out).mono ?_
                rintro e w2 ⟨rfl, b2⟩
                have HB : Hid (Below wo.heap.size wo w2) := Lib.hid (HBi.out.trans (b2.mono hsz))
                clear b2
                go_wp2
                go_roundw
                case rel => exact ⟨d + 1, ⟨q, d, (k : Int), G⟩, by omega, by omega, by go_num, rfl, rfl, rfl, rfl, by rw [Nat.add_sub_cancel]; exact HN.out.symm, HB.out⟩
                case measure => simp [intOf]; omega
              · have hfb : (t.f == 0) = false := beq_eq_false_iff_ne.2 hf0
                have hlt2 : G < t.f := by omega
                clear hbetter
                go_wp2_with fail
                refine (HC.out).mono ?_
                rintro e w2 ⟨rfl, b2⟩
                have HB : Hid (Below wo.heap.size wo w2) := Lib.hid (HBi.out.trans (b2.mono hsz))
                clear b2
                go_wp2
                go_roundw
                case rel => exact ⟨d + 1, ⟨q, d, (k : Int), G⟩, by omega, by omega, by go_num, rfl, rfl, rfl, rfl, by rw [Nat.add_sub_cancel]; exact HN.out.symm, HB.out⟩
                case measure => simp [intOf]; omega
            · have HN : Hid (bxIn n q s d = t) := Lib.hid (by rw [HT.out, bxStep_no (fun h => hbetter h.2)])
              have hf0 : ¬ t.f = 0 := fun h => hbetter (.inl h)
              have hfb : (t.f == 0) = false := beq_eq_false_iff_ne.2 hf0
              have hlt2 : ¬ bxG n q d < t.f := fun h => hbetter (.inr h)
              clear hok hnk hbetter
              generalize bxG n q d = G at *
              go_wp2_with fail
              refine (HC.out).mono ?_
              rintro e w2 ⟨rfl, b2⟩
              have HB : Hid (Below wo.heap.size wo w2) := Lib.hid (HBi.out.trans (b2.mono hsz))
              clear b2
              go_wp2
              go_roundw
              case rel => exact ⟨d + 1, t, by omega, by omega, by go_num, rfl, rfl, rfl, rfl, by rw [Nat.add_sub_cancel]; exact HN.out.symm, HB.out⟩
              case measure => simp [intOf]; omega
        · obtain rfl : d = 10 := by omega
          have HN : Hid (t = bxOut n q) := Lib.hid (by rw [ht, bxOut_succ n q hq1, ← HS.out])
          have HB : Hid (Below w.heap.size w wr) := Lib.hid (HBel.out.trans (hbi.mono HBel.out.size))
          clear ht hbi
          go_wp2
          go_roundw
          case rel => exact ⟨q + 1, t, by omega, by omega, by go_num, rfl, rfl, rfl, rfl, by rw [Nat.add_sub_cancel]; exact HN.out, HB.out⟩
          case measure => simp [intOf]; omega
    · obtain rfl : q = 10 := by omega
      have HN : Hid (s = bxOut n 9) := Lib.hid HS.out
      go_wp2
      go_ret3
      exact ⟨by rw [HN.out]; rfl, HBel.out⟩

end Go.Proofs.Ytbnggakfogcalaa

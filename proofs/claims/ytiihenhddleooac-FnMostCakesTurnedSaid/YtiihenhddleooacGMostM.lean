/- Most cakes: what the law of it compares. -/
import Derived.Test.YtiihenhddleooacCMostA
import Derived.Test.YtiihenhddleooacGMost
import Derived.Test.YtiihenhddleooacFMath
namespace Go.Proofs.Ytiihenhddleooac
open Go.RowKit
set_option linter.unusedVariables false
set_option linter.unusedSimpArgs false
theorem most_sum {ff : List (List Bool)} {a h : Int} (hm : smallB ff a h = true) : ∃ cw ch bx b2 M N : Nat, a = cw ∧ h = ch ∧ mostT ff a h = M ∧ bestT ff a h = ((bx : Int), (b2 : Int)) ∧ bx < cw ∧ b2 < ch ∧ areaT ff = N ∧ fieldB ff = true ∧ sidesB (cw : Int) (ch : Int) = true ∧ (1 ≤ cw ∧ cw ≤ 4) ∧ (1 ≤ ch ∧ ch ≤ 4) ∧ (gridF ff cw ch bx b2).length ≤ M ∧ M ≤ 81 ∧ M * cw ≤ 81 ∧ M * cw * ch ≤ N ∧ N ≤ 81 := by
  have hm' := hm
  unfold smallB at hm'
  rw [Bool.and_eq_true, Bool.and_eq_true, Bool.and_eq_true, Bool.and_eq_true, decide_eq_true_eq, decide_eq_true_eq] at hm'
  obtain ⟨⟨hv, h5, w5⟩, hs, h1⟩ := hm'
  obtain ⟨⟨s1, s2⟩, s3, s4⟩ := sidesB_t hs
  obtain ⟨⟨x, y⟩, hp⟩ : ∃ p, p = bestT ff a h := ⟨_, rfl⟩
  have hx : 0 ≤ x := by
    unfold bestT at hp
    rw [hv, hs] at hp
    have := congrArg Prod.fst hp
    simp at this
    omega
  obtain ⟨cw, ch, bx, b2, rfl, rfl, rfl, rfl, -, -, hbx, hby, -⟩ := best_some hp.symm hx
  have hl := field_len hv
  have hwd := field_wide hv
  have e : mostT ff (cw : Int) (ch : Int) = mostG cw ch ff (ff.length * wideB ff) 0 := by
    rw [mostG_all hv ⟨by omega, h5⟩ ⟨by omega, w5⟩ (by omega) (by omega)]
    unfold mostT
    rw [hm]
    rfl
  have hg := most_grid (dx := bx) (dy := b2) (w := cw) (h := ch) hv h5 w5 (by omega) (by omega)
  have ha := most_area (w := cw) (h := ch) hv h5 w5
  have hb := area_bd hv
  rw [← e] at hg ha
  obtain ⟨M, hM⟩ := Int.eq_ofNat_of_zero_le (show 0 ≤ mostT ff (cw : Int) (ch : Int) by omega)
  rw [hM] at hg ha
  have ha2 : M * (ch * cw) ≤ areaN ff := by
    have : (((M * (ch * cw) : Nat)) : Int) ≤ (areaN ff : Int) := by rw [Int.natCast_mul, Int.natCast_mul]; exact ha
    omega
  have hc : M * (ch * cw) = M * cw * ch := by rw [Nat.mul_comm ch cw, Nat.mul_assoc]
  have h2 : M * cw ≤ M * cw * ch := Nat.le_mul_of_pos_right _ (by omega)
  have h3 : M ≤ M * cw := Nat.le_mul_of_pos_right _ (by omega)
  exact ⟨cw, ch, bx, b2, M, areaN ff, rfl, rfl, hM, hp.symm, hbx, hby, areaT_ok hv, hv, hs, by omega, by omega, by omega, by omega, by omega, by omega, by omega⟩

end Go.Proofs.Ytiihenhddleooac

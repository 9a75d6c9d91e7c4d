/- The law FnColdestSpell: for every code it answers true, and the code reads as it read before. No condition. -/
import Derived.Test.YthccmpbklhlohabSpellMath
import Derived.Test.YthccmpbklhlohabSpellDraw
import Derived.Test.YthccmpbklhlohabLaw
namespace Go.Proofs.Ythccmpbklhlohab
open Go.RowKit
set_option linter.unusedVariables false
set_option linter.unusedSimpArgs false

namespace fnColdestSpell
open Go.ChangeShapes Go.WideShapes Go.ChangeAt Go.RowKit
set_option maxHeartbeats 800000 in
theorem walk (w : World) (cs : List Int) (Acs : Option Addr) (ccs : Nat) (hrcs : Rd w w.heap.size Acs (bytes cs)) (hbcs : ∀ z ∈ cs, 0 ≤ z ∧ z ≤ 255) (hlcs : cs.length ≤ ccs ∧ ccs ≤ maxLen) :
    Calls Try.prog 3 #[.slice Acs cs.length ccs] w fun e w' => e = .returned (.bool true) ∧ Below w.heap.size w w' := by
  by_cases hn : cs.length ≤ 1048576
  · go_enter Try.func3, Try.ntmps3
    go_wp2_with fail
    refine (dColdest _ _ _ _ hrcs hbcs hlcs.1 hlcs.2).mono ?_
    rintro e w1 ⟨zs, Az, cz, rfl, hd, b1⟩
    obtain ⟨l12, hzb, hrz, lc, lm⟩ := hd
    unfold maxLen at lm
    have cI := iSpell_any zs Az cz w1 _ hrz
    have cS := sSpell_any zs Az cz w1 _ hrz
    by_cases h : zs ≠ [] ∧ tempsB zs = true
    · rw [spellF_ok h.1 h.2, spellL_ok h.1 h.2] at cI cS
      obtain ⟨⟨a, b, ha, hb, hab, hbn, hle⟩, hlow⟩ := spell_good h.1
      rw [ha, hb] at cI cS
      rw [hle] at hlow
      clear ha hb hle h
      have LT : ∀ i k, i ≤ k → k < zs.length → ((zs.drop i).take (k + 1 - i)).length = k + 1 - i := fun i k h1 h2 => by rw [List.length_take, List.length_drop]; omega
      have RT : ∀ i k, Rd w1 w1.heap.size (Az.map (·.add i)) (ints ((zs.drop i).take (k + 1 - i))) := fun i k => by
        rw [ints, List.map_take, List.map_drop]; exact (hrz.drop i).take _
      have BT : ∀ i k, ∀ z ∈ (zs.drop i).take (k + 1 - i), -1000 ≤ z ∧ z ≤ 1000 := fun i k z hz => hzb z (List.mem_of_mem_drop (List.mem_of_mem_take hz))
      have cT : ∀ i k, i ≤ k → k < zs.length → Calls Try.prog 18 #[.slice (Az.map (·.add i)) (k + 1 - i) (cz - i)] w1 fun e w' => e = .returned (.int .i64 (part zs i (k + 1))) ∧ w1 = w' :=
        fun i k h1 h2 => total_any _ _ (LT i k h1 h2) _ _ _ _ (RT i k) (BT i k) (by omega)
      have CT := Lib.hid cT
      have LOW := Lib.hid hlow
      have hbn' : (b : Int) < (zs.length : Int) := by omega
      have hab' : (a : Int) ≤ (b : Int) := by omega
      have a1 : ¬ cz = a := by omega
      have a2 : (a : Int) ≤ (b : Int) + 1 := by omega
      have a3 : (b : Int) + 1 ≤ (cz : Int) := by omega
      have a4 : a ≤ b + 1 := by omega
      have a5 : b + 1 ≤ cz := by omega
      clear LT RT BT cT hlow
      go_wp2_with fail
      refine cI.mono ?_
      rintro e w' ⟨rfl, rfl⟩
      go_wp2_with fail
      refine cS.mono ?_
      rintro e w' ⟨rfl, rfl⟩
      clear cI cS
      go_wp2_with fail
      refine (CT.out a b hab hbn).mono ?_
      rintro e w' ⟨rfl, rfl⟩
      go_wp2
      go_loop [9, 10] (fun i j => ∃ k : Nat, k ≤ zs.length ∧ i = .int .i64 k) (fun i _ => zs.length - (intOf i).toNat)
      case atStart => exact ⟨0, Nat.zero_le _, rfl⟩
      case round =>
        obtain ⟨i, hi, rfl⟩ := hrel
        by_cases hlt : i < zs.length
        · go_wp2
          go_loop [10] (fun j => ∃ k : Nat, i ≤ k ∧ k ≤ zs.length ∧ j = .int .i64 k) (fun j => zs.length - (intOf j).toNat)
          case atStart => exact ⟨i, Nat.le_refl _, hi, rfl⟩
          case round =>
            obtain ⟨k, hik, hk, rfl⟩ := hrel
            by_cases hkl : k < zs.length
            · have low := LOW.out i k trivial hik hkl
              have e1 : ¬ cz = i := by omega
              have e2 : (i : Int) ≤ (k : Int) + 1 := by omega
              have e3 : (k : Int) + 1 ≤ (cz : Int) := by omega
              have e4 : i ≤ k + 1 := by omega
              have e5 : k + 1 ≤ cz := by omega
              go_wp2_with fail
              refine (CT.out i k hik hkl).mono ?_
              rintro e w' ⟨rfl, rfl⟩
              go_wp2
              go_round
              case rel => exact ⟨k + 1, by omega, by omega, by go_num⟩
              case measure => simp [intOf]; omega
            · go_wp2
              go_round
              case rel => exact ⟨i + 1, by omega, by go_num⟩
              case measure => simp [intOf]; omega
        · go_wp2
          go_ret
          exact ⟨rfl, b1⟩
    · have hn : zs = [] ∨ tempsB zs = false := by
        by_cases hz : zs = []
        · exact .inl hz
        · refine .inr ?_
          cases ht : tempsB zs
          · rfl
          · exact absurd ⟨hz, ht⟩ h
      rw [spellF_no hn, spellL_no hn] at cI cS
      clear h hn
      go_wp2_with fail
      refine cI.mono ?_
      rintro e w' ⟨rfl, rfl⟩
      go_wp2_with fail
      refine cS.mono ?_
      rintro e w' ⟨rfl, rfl⟩
      clear cI cS
      go_wp2
      go_ret
      exact ⟨rfl, b1⟩
  · have hn' : 1048576 < cs.length := by omega
    go_enter Try.func3, Try.ntmps3
    go_wp2
    go_ret
    exact ⟨rfl, Below.refl _ _⟩

set_option maxRecDepth 100000 in
theorem lifted (os : Os) (started : os.Started) (H : Type) (enc : TypeId × Value → H) :
    ReturnsInHanded {} Try.checked os 3 .any (Rows.fnColdestSpellSpec.pre6 enc Try.prog Try.f3 Rows.fnColdestSpellRow.domain false) (Rows.fnColdestSpellSpec.post enc Try.prog Try.f3 false true false false) := by
  refine returnsInHanded_of_change (C := Try.checked) ownNone started (by kernel_rfl) Try.func3
    (ChangeSpec.witness6 (enc := enc) (C := Try.checked) false ⟨#[], #[.slice none 0 0], []⟩ 8 (by kernel_rfl) (by kernel_rfl) (by kernel_rfl) (by kernel_rfl)) ?_
  intro W base args ds gs before hval0 hW hcnd _
  have hval : ∀ (j : Nat) t v, Try.f3.params[j]? = some t → args[j]? = some v → Value.okWide Try.prog W .any base t v := hval0
  have hW' := hW
  obtain ⟨p, q, hA0, hV, rfl, _, _⟩ := hW
  have hA : DataW.TrodAll enc Try.prog W 0 (fun _ => true) true Try.f3.params.toList args.toList ds p := hA0
  rw [Try.params3] at hA hval
  obtain ⟨v0, vs0, d0, ds0, p0, q0, hargs, rfl, rfl, h0, r0⟩ := trodAll_cons hA
  obtain ⟨rfl, rfl, rfl⟩ := trodAll_nil r0
  obtain rfl : args = #[v0] := by cases args; simp_all
  obtain ⟨rfl, rfl⟩ := trodVars_none hV
  obtain ⟨Acs, ccs, cs, rfl, hrcs, hlcs, hqcs⟩ := open_rd Try.underlying22 Try.underlying5 cellsByte (hval 0 22 v0 rfl rfl) h0
  have hbcs := byte_bounds hqcs
  clear hA0 hval0
  refine (walk W cs Acs ccs hrcs hbcs hlcs).mono fun e W' ⟨he, hg⟩ => ?_
  subst he
  exact ⟨_, rfl, law_post laidOut (by kernel_rfl) rfl rfl rfl rfl rfl Try.underlying4 hW' hg⟩

/-- The statement. -/
theorem proved : Rows.FnColdestSpellSaid :=
  OpenClaim.holds_of_wide 3 Try.f3 rfl rfl rfl rfl rfl rfl rfl ⟨rfl, rfl, rfl, rfl, rfl⟩ rfl rfl rfl rfl rfl (by kernel_rfl) Try.func3 (by kernel_rfl)
    (of_decide_eq_true (by kernel_rfl)) (by unfold Func.isWrapper; first | (rw [if_pos (by decide +kernel)]; kernel_rfl) | (rw [if_neg (by decide +kernel)]; exact ⟨rfl, rfl⟩))
    (fun os started H enc _ => lifted os started H enc)
#print axioms proved
end fnColdestSpell

end Go.Proofs.Ythccmpbklhlohab

/- The law FnCountFloatsGrid: for every code it answers true, and the code reads as it read before. No condition. -/
import Derived.Test.YtboaikabbfipgabCDraws
import Derived.Test.YtboaikabbfipgabLaw
namespace Go.Proofs.Ytboaikabbfipgab
open Go.RowKit
set_option linter.unusedVariables false
set_option linter.unusedSimpArgs false

namespace fnCountFloatsGrid
open Go.ChangeShapes Go.WideShapes Go.ChangeAt Go.RowKit
set_option maxHeartbeats 800000 in
set_option maxRecDepth 100000 in
set_option maxHeartbeats 8000000 in
theorem walk (w : World) (cs : List Int) (Acs : Option Addr) (ccs : Nat) (hrcs : Rd w w.heap.size Acs (bytes cs)) (hbcs : ∀ z ∈ cs, 0 ≤ z ∧ z ≤ 255) (hlcs : cs.length ≤ ccs ∧ ccs ≤ maxLen) :
    Calls Try.prog 13 #[.slice Acs cs.length ccs] w fun e w' => e = .returned (.bool true) ∧ Below w.heap.size w w' := by
  by_cases hn : cs.length ≤ 1048576
  · go_enter Try.func13, Try.ntmps13
    go_wp2_with fail
    refine (dCountFloats _ _ _ _ hrcs hbcs hlcs.1 hlcs.2).mono ?_
    rintro e w1 ⟨ks, Ak, ck, a, h, rfl, ⟨hkl, hkc, hkm, hrk⟩, ha, hh, b1⟩
    have hln : ks.length ≤ 1048576 := by omega
    obtain ⟨q, hq⟩ : ∃ q, q = countT a h ks := ⟨_, rfl⟩
    have cI := iCount_any _ hln ks rfl Ak ck ⟨hkc, hkm⟩ w1 hrk a h
    have cS := fun w hr => sCount_any _ hln ks rfl Ak ck w hr a h
    rw [← hq] at cI
    simp only [← hq] at cS
    have CS := Lib.hid cS
    clear hq cS
    go_wp2_with fail
    refine (cI).mono ?_
    rintro e w2 ⟨rfl, b2⟩
    have hr2 := (hrk.below b2).more b2.size
    go_wp2_with fail
    refine (CS.out w2 hr2).mono ?_
    rintro e w3 ⟨rfl, b3⟩
    have hr3 := (hr2.below b3).more b3.size
    have bl3 : Below w.heap.size w w3 := (b1.trans (b2.mono b1.size)).trans (b3.mono (by have := b1.size; have := b2.size; omega))
    clear cI b1 b2 b3 hrk hr2
    by_cases hq0 : q < 0
    · skip
      go_wp2_with fail
      refine (CS.out w3 hr3).mono ?_
      rintro e w4 ⟨rfl, b4⟩
      have bl4 := bl3.trans (b4.mono bl3.size)
      clear b4 hr3 bl3
      go_wp2
      go_ret
      exact ⟨rfl, bl4⟩
    · have HT := Lib.hid (rows_ten ha hh)
      have HC : Hid (∀ w', Rd w' w'.heap.size (some ⟨w3.heap.size, 0, none⟩) (cakeV [(0, 0), (a, 0), (2 * a, 0), (0, h), (a, h)]) → Calls Try.prog 42 #[.slice (some ⟨w3.heap.size, 0, none⟩) 5 5, .int .i64 a, .int .i64 h] w' fun e w'' => e = .returned (.int .i64 10) ∧ Below w'.heap.size w' w'') := Lib.hid fun w' hr => by
        have := iCount_any 5 (by omega) _ rfl (some ⟨w3.heap.size, 0, none⟩) 5 ⟨Nat.le_refl _, by unfold maxLen; omega⟩ w' hr a h
        rw [HT.out.1] at this
        exact this
      have HC2 : Hid (∀ w', Rd w' w'.heap.size (some ⟨w3.heap.size + 1, 0, none⟩) (cakeV [(a, 0), (0, 0), (2 * a, 0)]) → Calls Try.prog 42 #[.slice (some ⟨w3.heap.size + 1, 0, none⟩) 3 3, .int .i64 a, .int .i64 h] w' fun e w'' => e = .returned (.int .i64 1) ∧ Below w'.heap.size w' w'') := Lib.hid fun w' hr => by
        have := iCount_any 3 (by omega) _ rfl (some ⟨w3.heap.size + 1, 0, none⟩) 3 ⟨by omega, by unfold maxLen; omega⟩ w' hr a h
        rw [HT.out.2] at this
        exact this
      obtain ⟨X, hX⟩ : ∃ X : Obj, X = .cells (cakeV [(0, 0), (a, 0), (2 * a, 0), (0, h), (a, h)]).toArray 35 := ⟨_, rfl⟩
      obtain ⟨Y, hY⟩ : ∃ Y : Obj, Y = .cells (cakeV [(a, 0), (0, 0), (2 * a, 0)]).toArray 35 := ⟨_, rfl⟩
      have hR0 : Rd (w3.alloc X) (w3.alloc X).heap.size (some ⟨w3.heap.size, 0, none⟩) (cakeV [(0, 0), (a, 0), (2 * a, 0), (0, h), (a, h)]) := rd_lit (by rw [hX]; exact alloc_at rfl)
      have hRX : Rd ((w3.alloc X).alloc Y) ((w3.alloc X).alloc Y).heap.size (some ⟨w3.heap.size, 0, none⟩) (cakeV [(0, 0), (a, 0), (2 * a, 0), (0, h), (a, h)]) := (hR0.alloc (Nat.le_refl _) Y).more (by simp)
      have hRY : Rd ((w3.alloc X).alloc Y) ((w3.alloc X).alloc Y).heap.size (some ⟨w3.heap.size + 1, 0, none⟩) (cakeV [(a, 0), (0, 0), (2 * a, 0)]) := rd_lit (by rw [hY]; exact alloc_at (by simp))
      have HRX := Lib.hid hRX
      have HRY := Lib.hid hRY
      have HB : Hid (Below w.heap.size w ((w3.alloc X).alloc Y)) := Lib.hid ((bl3.alloc bl3.size X).alloc (by have := bl3.size; simp; omega) Y)
      have HXY := Lib.hid (And.intro hX hY)
      clear hR0 hRX hRY hX hY bl3 hr3 CS
      go_wp2_with fail
      have hc1 := HC.out _ HRX.out
      rw [HXY.out.1, HXY.out.2] at hc1
      refine hc1.mono ?_
      rintro e w5 ⟨rfl, b5⟩
      rw [← HXY.out.1, ← HXY.out.2] at b5
      clear hc1
      have hr5 := (HRY.out.below b5).more b5.size
      have hc2 := HC2.out w5 hr5
      go_wp2_with fail
      refine hc2.mono ?_
      rintro e w6 ⟨rfl, b6⟩
      have bl6 := (HB.out.trans (b5.mono HB.out.size)).trans (b6.mono (by have := HB.out.size; have := b5.size; omega))
      have BL := Lib.hid bl6
      clear bl6 b5 b6 hc2 hr5
      go_wp2
      go_ret
      exact ⟨rfl, BL.out⟩
  · have hn' : 1048576 < cs.length := by omega
    go_enter Try.func13, Try.ntmps13
    go_wp2
    go_ret
    exact ⟨rfl, Below.refl _ _⟩

set_option maxRecDepth 100000 in
theorem lifted (os : Os) (started : os.Started) (H : Type) (enc : TypeId × Value → H) :
    ReturnsInHanded {} Try.checked os 13 .any (Rows.fnCountFloatsGridSpec.pre6 enc Try.prog Try.f13 Rows.fnCountFloatsGridRow.domain false) (Rows.fnCountFloatsGridSpec.post enc Try.prog Try.f13 false true false false) := by
  refine returnsInHanded_of_change (C := Try.checked) ownNone started (by kernel_rfl) Try.func13
    (ChangeSpec.witness6 (enc := enc) (C := Try.checked) false ⟨#[], #[.slice none 0 0], []⟩ 8 (by kernel_rfl) (by kernel_rfl) (by kernel_rfl) (by kernel_rfl)) ?_
  intro W base args ds gs before hval0 hW hcnd _
  have hval : ∀ (j : Nat) t v, Try.f13.params[j]? = some t → args[j]? = some v → Value.okWide Try.prog W .any base t v := hval0
  have hW' := hW
  obtain ⟨p, q, hA0, hV, rfl, _, _⟩ := hW
  have hA : DataW.TrodAll enc Try.prog W 0 (fun _ => true) true Try.f13.params.toList args.toList ds p := hA0
  rw [Try.params13] at hA hval
  obtain ⟨v0, vs0, d0, ds0, p0, q0, hargs, rfl, rfl, h0, r0⟩ := trodAll_cons hA
  obtain ⟨rfl, rfl, rfl⟩ := trodAll_nil r0
  obtain rfl : args = #[v0] := by cases args; simp_all
  obtain ⟨rfl, rfl⟩ := trodVars_none hV
  obtain ⟨Acs, ccs, cs, rfl, hrcs, hlcs, hqcs⟩ := open_rd Try.underlying22 Try.underlying5 cellsByte (hval 0 22 v0 rfl rfl) h0
  have hbcs := byte_bounds hqcs
  clear hA0 hval0
  refine (walk W cs Acs ccs hrcs hbcs hlcs).mono fun e W' ⟨he, hg⟩ => ?_
  subst he
  exact ⟨_, rfl, law_post laidOut (by kernel_rfl) rfl rfl rfl rfl rfl Try.underlying4 hW' hg⟩

/-- The statement. -/
theorem proved : Rows.FnCountFloatsGridSaid :=
  OpenClaim.holds_of_wide 13 Try.f13 rfl rfl rfl rfl rfl rfl rfl ⟨rfl, rfl, rfl, rfl, rfl⟩ rfl rfl rfl rfl rfl (by kernel_rfl) Try.func13 (by kernel_rfl)
    (of_decide_eq_true (by kernel_rfl)) (by unfold Func.isWrapper; first | (rw [if_pos (by decide +kernel)]; kernel_rfl) | (rw [if_neg (by decide +kernel)]; exact ⟨rfl, rfl⟩))
    (fun os started H enc _ => lifted os started H enc)
#print axioms proved
end fnCountFloatsGrid

end Go.Proofs.Ytboaikabbfipgab

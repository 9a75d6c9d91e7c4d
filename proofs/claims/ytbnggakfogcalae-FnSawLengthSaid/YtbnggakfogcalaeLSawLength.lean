/- The law FnSawLength: for every code it answers true, and the code reads as it read before. No condition. -/
import Derived.Test.YtbnggakfogcalaeSawL
import Derived.Test.YtbnggakfogcalaeSawL
import Derived.Test.YtbnggakfogcalaeLaw
namespace Go.Proofs.Ytbnggakfogcalae
open Go.RowKit
set_option linter.unusedVariables false
set_option linter.unusedSimpArgs false

namespace fnSawLength
open Go.ChangeShapes Go.WideShapes Go.ChangeAt Go.RowKit
set_option maxRecDepth 100000 in
set_option maxHeartbeats 800000 in
set_option maxRecDepth 100000 in
set_option maxRecDepth 100000 in
set_option maxHeartbeats 8000000 in
theorem walk (w : World) (cs : List Int) (Acs : Option Addr) (ccs : Nat) (hrcs : Rd w w.heap.size Acs (bytes cs)) (hbcs : ∀ z ∈ cs, 0 ≤ z ∧ z ≤ 255) (hlcs : cs.length ≤ ccs ∧ ccs ≤ maxLen) :
    Calls Try.prog 8 #[.slice Acs cs.length ccs] w fun e w' => e = .returned (.bool true) ∧ Below w.heap.size w w' := by
  by_cases hn : cs.length ≤ 1048576
  · go_enter Try.func8, Try.ntmps8
    go_wp2_with fail
    refine (dSawLength _ _ _ _ hrcs hbcs hlcs.1 hlcs.2).mono ?_
    rintro e w1 ⟨ks, Ak, ck, a, h, rfl, ⟨hkl, hkc, hkm, hrk⟩, ha, hh, b1⟩
    have hln : ks.length ≤ 1048576 := by omega
    obtain ⟨q, hq⟩ : ∃ q, q = sawT a h ks := ⟨_, rfl⟩
    have cI := iSaw_any _ hln ks rfl Ak ck ⟨hkc, hkm⟩ w1 hrk a h
    have cS := fun w hr => sSaw_any _ hln ks rfl Ak ck w hr a h
    rw [← hq] at cI
    simp only [← hq] at cS
    have CS := Lib.hid cS
    have HQ := Lib.hid hq
    clear hq cS
    go_wp2_with fail
    refine (cI).mono ?_
    rintro e w2 ⟨rfl, b2⟩
    have hr2 := (hrk.below b2).more b2.size
    go_wp2_with fail
    refine (CS.out w2 hr2).mono ?_
    rintro e w3 ⟨rfl, b3⟩
    have hr3 := (hr2.below b3).more b3.size
    have bl3 : Below w.heap.size w w3 := (b1.trans (b2.mono b1.size)).trans (b3.mono (by have := b1.size; have := b2.size; omega))
    clear cI b1 b2 b3 hrk hr2
    by_cases hq0 : q < 0
    · skip
      go_wp2_with fail
      refine (CS.out w3 hr3).mono ?_
      rintro e w4 ⟨rfl, b4⟩
      have bl4 := bl3.trans (b4.mono bl3.size)
      clear b4 hr3 bl3
      go_wp2
      go_ret
      exact ⟨rfl, bl4⟩
    · have hv : cakesB a h ks = true := by
        cases hc : cakesB a h ks
        · have := HQ.out
          rw [sawT_no hc] at this
          omega
        · rfl
      obtain ⟨P, hP⟩ : ∃ P, P = 2 * (a + h) * (ks.length : Int) := ⟨_, rfl⟩
      have hsaw := saw_half hv
      have hqe : q = P - shAll a h ks ks.length := by rw [HQ.out, sawT_ok hv, hP]; rfl
      have hPe : P = 2 * ((a + h) * (ks.length : Int)) := by rw [hP, Int.mul_assoc]
      have hP0 : 0 ≤ P := by omega
      have hP1 : P ≤ 972 := by
        have h1 : (a + h) * (ks.length : Int) ≤ 6 * 81 := Int.mul_le_mul (by omega) (by omega) (by omega) (by omega)
        omega
      have eP : IntKind.i64.wrap (2 * (a + h) * (ks.length : Int)) = P := by rw [← hP]; exact IntWalk.i64_in _ (by omega)
      have hq1 : q ≤ P := by omega
      have hq2 : P ≤ 2 * q := by omega
      by_cases hk0 : ks.length = 0
      · have hkb : ((ks.length : Int) == 0) = true := beq_iff_eq.2 (by omega)
        clear hsaw hqe hPe hP hk0 hr3 hv
        generalize ks.length = L at *
        go_wp2
        go_ret
        exact ⟨rfl, bl3⟩
      · have hkb : ((ks.length : Int) == 0) = false := beq_eq_false_iff_ne.2 (by omega)
        have hkI : (1 : Int) ≤ (ks.length : Int) := by omega
        have hcI : (1 : Int) ≤ (ck : Int) := by omega
        have hkn : 1 ≤ ks.length := by omega
        have hcn : 1 ≤ ck := by omega
        obtain ⟨c0, rest, hks⟩ : ∃ c0 rest, ks = c0 :: rest := by
          cases ks with
          | nil => exact absurd rfl hk0
          | cons c0 rest => exact ⟨c0, rest, rfl⟩
        have HC : Hid (Calls Try.prog 28 #[.slice Ak 1 ck, .int .i64 a, .int .i64 h] w3 fun e w'' => e = .returned (.int .i64 (2 * (a + h))) ∧ Below w3.heap.size w3 w'') := Lib.hid (by
          have hr4 : Rd w3 w3.heap.size Ak (cakeV [c0]) := by
            rw [hks] at hr3
            have := hr3.take 2
            rw [cakeV_head] at this
            exact this
          have := iSaw_any 1 (by omega) [c0] rfl Ak ck ⟨hcn, hkm⟩ w3 hr4 a h
          rw [saw_one (by rw [← hks]; exact hv)] at this
          exact this)
        clear hsaw hqe hPe hP hk0 hr3 hv hks
        generalize ks.length = L at *
        go_wp2_with fail
        refine (HC.out).mono ?_
        rintro e w4 ⟨rfl, b4⟩
        have bl4 := bl3.trans (b4.mono bl3.size)
        clear b4 bl3
        go_wp2
        go_ret
        exact ⟨rfl, bl4⟩
  · have hn' : 1048576 < cs.length := by omega
    go_enter Try.func8, Try.ntmps8
    go_wp2
    go_ret
    exact ⟨rfl, Below.refl _ _⟩

set_option maxRecDepth 100000 in
theorem lifted (os : Os) (started : os.Started) (H : Type) (enc : TypeId × Value → H) :
    ReturnsInHanded {} Try.checked os 8 .any (Rows.fnSawLengthSpec.pre6 enc Try.prog Try.f8 Rows.fnSawLengthRow.domain false) (Rows.fnSawLengthSpec.post enc Try.prog Try.f8 false true false false) := by
  refine returnsInHanded_of_change (C := Try.checked) ownNone started (by kernel_rfl) Try.func8
    (ChangeSpec.witness6 (enc := enc) (C := Try.checked) false ⟨#[], #[.slice none 0 0], []⟩ 8 (by kernel_rfl) (by kernel_rfl) (by kernel_rfl) (by kernel_rfl)) ?_
  intro W base args ds gs before hval0 hW hcnd _
  have hval : ∀ (j : Nat) t v, Try.f8.params[j]? = some t → args[j]? = some v → Value.okWide Try.prog W .any base t v := hval0
  have hW' := hW
  obtain ⟨p, q, hA0, hV, rfl, _, _⟩ := hW
  have hA : DataW.TrodAll enc Try.prog W 0 (fun _ => true) true Try.f8.params.toList args.toList ds p := hA0
  rw [Try.params8] at hA hval
  obtain ⟨v0, vs0, d0, ds0, p0, q0, hargs, rfl, rfl, h0, r0⟩ := trodAll_cons hA
  obtain ⟨rfl, rfl, rfl⟩ := trodAll_nil r0
  obtain rfl : args = #[v0] := by cases args; simp_all
  obtain ⟨rfl, rfl⟩ := trodVars_none hV
  obtain ⟨Acs, ccs, cs, rfl, hrcs, hlcs, hqcs⟩ := open_rd Try.underlying28 Try.underlying5 cellsByte (hval 0 28 v0 rfl rfl) h0
  have hbcs := byte_bounds hqcs
  clear hA0 hval0
  refine (walk W cs Acs ccs hrcs hbcs hlcs).mono fun e W' ⟨he, hg⟩ => ?_
  subst he
  exact ⟨_, rfl, law_post laidOut (by kernel_rfl) rfl rfl rfl rfl rfl Try.underlying4 hW' hg⟩

/-- The statement. -/
theorem proved : Rows.FnSawLengthSaid :=
  OpenClaim.holds_of_wide 8 Try.f8 rfl rfl rfl rfl rfl rfl rfl ⟨rfl, rfl, rfl, rfl, rfl⟩ rfl rfl rfl rfl rfl (by kernel_rfl) Try.func8 (by kernel_rfl)
    (of_decide_eq_true (by kernel_rfl)) (by unfold Func.isWrapper; first | (rw [if_pos (by decide +kernel)]; kernel_rfl) | (rw [if_neg (by decide +kernel)]; exact ⟨rfl, rfl⟩))
    (fun os started H enc _ => lifted os started H enc)
#print axioms proved
end fnSawLength

end Go.Proofs.Ytbnggakfogcalae

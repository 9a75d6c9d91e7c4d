/- The law FnFloatOrder: for every code it answers true, and the code reads as it read before. No condition. -/
import Derived.Test.YtjjddamblijffabCFLaw
import Derived.Test.YtjjddamblijffabCFLaw
import Derived.Test.YtjjddamblijffabLaw
namespace Go.Proofs.Ytjjddamblijffab
open Go.RowKit
set_option linter.unusedVariables false
set_option linter.unusedSimpArgs false

namespace fnFloatOrder
open Go.ChangeShapes Go.WideShapes Go.ChangeAt Go.RowKit
set_option maxRecDepth 100000 in
set_option maxHeartbeats 800000 in
set_option maxRecDepth 100000 in
set_option maxRecDepth 100000 in
set_option maxHeartbeats 8000000 in
theorem walk (w : World) (cs : List Int) (Acs : Option Addr) (ccs : Nat) (hrcs : Rd w w.heap.size Acs (bytes cs)) (hbcs : ∀ z ∈ cs, 0 ≤ z ∧ z ≤ 255) (hlcs : cs.length ≤ ccs ∧ ccs ≤ maxLen) :
    Calls Try.prog 11 #[.slice Acs cs.length ccs] w fun e w' => e = .returned (.bool true) ∧ Below w.heap.size w w' := by
  by_cases hn : cs.length ≤ 1048576
  · go_enter Try.func11, Try.ntmps11
    go_wp2_with fail
    refine (dFloatOrder _ _ _ _ hrcs hbcs hlcs.1 hlcs.2).mono ?_
    rintro e w1 ⟨ks, Ak, ck, a, h, rfl, ⟨hkl, hkc, hkm, hrk⟩, ha, hh, b1⟩
    have hln : ks.length ≤ 1048576 := by omega
    obtain ⟨ts, hts⟩ : ∃ ts, ts = floatT a h ks := ⟨_, rfl⟩
    have htl : ts.length ≤ ks.length := by rw [hts]; exact float_le a h ks
    have htl2 : ts.length ≤ 1048576 := by omega
    have cI := iOrder_any _ hln ks rfl Ak ck ⟨hkc, hkm⟩ w1 hrk a h
    have cS := fun w hr => sOrder_any _ hln ks rfl Ak ck w hr a h
    have HV := Lib.hid (fun w hr => iVC_any _ hln ks rfl Ak ck ⟨hkc, hkm⟩ w hr a h)
    have HF := Lib.hid (fun (A' : Option Addr) (c' : Nat) w hr hro => iFloat_any _ ts.length hln htl2 ks ts rfl rfl Ak A' ck c' ⟨hkc, hkm⟩ w hr hro a h)
    have HVF : Hid (cakesB a h ks = true → vfT a h ks ts = true ∧ ts.length = ks.length) := Lib.hid fun hc => by rw [hts]; exact ⟨vfT_float hc, float_len hc⟩
    rw [← hts] at cI
    simp only [← hts] at cS
    have CS := Lib.hid cS
    clear hts cS
    go_wp2_with fail
    refine cI.mono ?_
    rintro e w2 ⟨A2, c2, rfl, o2, b2⟩
    have hr2 := (hrk.below b2).more b2.size
    go_wp2_with fail
    refine (CS.out w2 hr2).mono ?_
    rintro e w3 ⟨A3, c3, rfl, o3, b3⟩
    have hr3 := (hr2.below b3).more b3.size
    have r23 := ((Rd.own o2).below b3).more b3.size
    have bl3 : Below w.heap.size w w3 := (b1.trans (b2.mono b1.size)).trans (b3.mono (by have := b1.size; have := b2.size; omega))
    go_wp2_with fail
    refine (eqI_b2 ts A2 A3 c2 c3 w3 w3.heap.size r23 (Rd.own o3) htl2).mono ?_
    rintro e w4 ⟨rfl, b4⟩
    have hr4 := (hr3.below b4).more b4.size
    have r24 := (r23.below b4).more b4.size
    have bl4 := bl3.trans (b4.mono bl3.size)
    have HV4 := Lib.hid (HV.out w4 hr4)
    clear cI b1 b2 b3 b4 o2 o3 hrk hr2 hr3 r23 bl3
    generalize hq : cakesB a h ks = q at *
    have HQ := Lib.hid hq
    clear hq
    go_wp2_with fail
    refine (HV4.out).mono ?_
    rintro e w5 ⟨rfl, b5⟩
    have hr5 := (hr4.below b5).more b5.size
    have r25 := (r24.below b5).more b5.size
    have bl5 := bl4.trans (b5.mono bl4.size)
    clear b5 hr4 r24 bl4
    cases q
    · go_wp2_with fail
      refine (CS.out w5 hr5).mono ?_
      rintro e w6 ⟨A6, c6, rfl, o6, b6⟩
      go_wp2_with fail
      refine (eqI_b2 ts A2 A6 c2 c6 w6 w6.heap.size ((r25.below b6).more b6.size) (Rd.own o6) htl2).mono ?_
      rintro e w7 ⟨rfl, b7⟩
      have bl7 := bl5.trans ((b6.trans (b7.mono b6.size)).mono bl5.size)
      clear o6 b6 b7
      go_wp2
      go_ret
      exact ⟨rfl, bl7⟩
    · obtain ⟨hvf, hle⟩ := HVF.out rfl
      have HF5 := Lib.hid (HF.out A2 c2 w5 hr5 r25)
      rw [hvf] at HF5
      have hlb : ((ts.length : Int) == (ks.length : Int)) = true := beq_iff_eq.2 (by omega)
      clear hr5 r25 hvf hle
      go_wp2_with fail
      refine (HF5.out).mono ?_
      rintro e w6 ⟨rfl, b6⟩
      have bl6 := bl5.trans (b6.mono bl5.size)
      clear b6
      go_wp2
      go_ret
      exact ⟨rfl, bl6⟩
  · have hn' : 1048576 < cs.length := by omega
    go_enter Try.func11, Try.ntmps11
    go_wp2
    go_ret
    exact ⟨rfl, Below.refl _ _⟩

set_option maxRecDepth 100000 in
theorem lifted (os : Os) (started : os.Started) (H : Type) (enc : TypeId × Value → H) :
    ReturnsInHanded {} Try.checked os 11 .any (Rows.fnFloatOrderSpec.pre6 enc Try.prog Try.f11 Rows.fnFloatOrderRow.domain false) (Rows.fnFloatOrderSpec.post enc Try.prog Try.f11 false true false false) := by
  refine returnsInHanded_of_change (C := Try.checked) ownNone started (by kernel_rfl) Try.func11
    (ChangeSpec.witness6 (enc := enc) (C := Try.checked) false ⟨#[], #[.slice none 0 0], []⟩ 8 (by kernel_rfl) (by kernel_rfl) (by kernel_rfl) (by kernel_rfl)) ?_
  intro W base args ds gs before hval0 hW hcnd _
  have hval : ∀ (j : Nat) t v, Try.f11.params[j]? = some t → args[j]? = some v → Value.okWide Try.prog W .any base t v := hval0
  have hW' := hW
  obtain ⟨p, q, hA0, hV, rfl, _, _⟩ := hW
  have hA : DataW.TrodAll enc Try.prog W 0 (fun _ => true) true Try.f11.params.toList args.toList ds p := hA0
  rw [Try.params11] at hA hval
  obtain ⟨v0, vs0, d0, ds0, p0, q0, hargs, rfl, rfl, h0, r0⟩ := trodAll_cons hA
  obtain ⟨rfl, rfl, rfl⟩ := trodAll_nil r0
  obtain rfl : args = #[v0] := by cases args; simp_all
  obtain ⟨rfl, rfl⟩ := trodVars_none hV
  obtain ⟨Acs, ccs, cs, rfl, hrcs, hlcs, hqcs⟩ := open_rd Try.underlying47 Try.underlying5 cellsByte (hval 0 47 v0 rfl rfl) h0
  have hbcs := byte_bounds hqcs
  clear hA0 hval0
  refine (walk W cs Acs ccs hrcs hbcs hlcs).mono fun e W' ⟨he, hg⟩ => ?_
  subst he
  exact ⟨_, rfl, law_post laidOut (by kernel_rfl) rfl rfl rfl rfl rfl Try.underlying4 hW' hg⟩

/-- The statement. -/
theorem proved : Rows.FnFloatOrderSaid :=
  OpenClaim.holds_of_wide 11 Try.f11 rfl rfl rfl rfl rfl rfl rfl ⟨rfl, rfl, rfl, rfl, rfl⟩ rfl rfl rfl rfl rfl (by kernel_rfl) Try.func11 (by kernel_rfl)
    (of_decide_eq_true (by kernel_rfl)) (by unfold Func.isWrapper; first | (rw [if_pos (by decide +kernel)]; kernel_rfl) | (rw [if_neg (by decide +kernel)]; exact ⟨rfl, rfl⟩))
    (fun os started H enc _ => lifted os started H enc)
#print axioms proved
end fnFloatOrder

end Go.Proofs.Ytjjddamblijffab

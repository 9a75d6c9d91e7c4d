/- The law FnCanServe: for every code it answers true, and the code reads as it read before. No condition. -/
import Derived.Test.YtjjddamblijffaaKLaw
import Derived.Test.YtjjddamblijffaaKHelp
import Derived.Test.YtjjddamblijffaaKLawE
import Derived.Test.YtjjddamblijffaaKLawD
import Derived.Test.YtjjddamblijffaaLaw
namespace Go.Proofs.Ytjjddamblijffaa
open Go.RowKit
set_option linter.unusedVariables false
set_option linter.unusedSimpArgs false

namespace fnCanServe
open Go.ChangeShapes Go.WideShapes Go.ChangeAt Go.RowKit
set_option maxRecDepth 100000 in
set_option maxHeartbeats 800000 in
set_option maxRecDepth 100000 in
set_option maxRecDepth 100000 in
set_option maxHeartbeats 8000000 in
theorem walk (w : World) (cs : List Int) (Acs : Option Addr) (ccs : Nat) (hrcs : Rd w w.heap.size Acs (bytes cs)) (hbcs : ∀ z ∈ cs, 0 ≤ z ∧ z ≤ 255) (hlcs : cs.length ≤ ccs ∧ ccs ≤ maxLen) :
    Calls Try.prog 7 #[.slice Acs cs.length ccs] w fun e w' => e = .returned (.bool true) ∧ Below w.heap.size w w' := by
  by_cases hn : cs.length ≤ 1048576
  · go_enter Try.func7, Try.ntmps7
    go_wp2_with fail
    refine (dCanServe _ _ _ _ hrcs hbcs hlcs.1 hlcs.2).mono ?_
    rintro e w1 ⟨ks, Ak, ck, st, rfl, ⟨hkl, hkc, hkm, hrk⟩, hst, b1⟩
    obtain ⟨n, hn0⟩ : ∃ n, ks.length = n := ⟨_, rfl⟩
    rw [hn0] at hkl hkc ⊢
    have HL := Lib.hid hn0
    clear hn0
    have hn1 : n ≤ maxLen := by unfold maxLen; omega
    have HI := Lib.hid (fun w hr => iServe_any n ks HL.out Ak ck hn1 w hr st)
    have HS := Lib.hid (fun w hr => sServe_any n ks HL.out Ak ck hn1 w hr st)
    have HSL : Hid ((vcB ks && inB st (-100) 100) = true → n ≤ 6 → csvT ks st = decide (lateT ks st (leastT ks st) = 0)) := Lib.hid fun h h6 => serve_least h (by rw [HL.out]; exact h6)
    have HNUM : Hid (lateT ks st (nats (List.range n)) = if vcB ks && inB st (-100) 100 then latR st 0 ks else -1) := Lib.hid (by rw [← HL.out]; exact late_nums)
    have hng := latR_ge st 0 ks
    have hub := late_least_bd (ks := ks) (st := st) (nats (List.range n))
    generalize csvT ks st = q at *
    go_wp2_with fail
    refine (HI.out w1 hrk).mono ?_
    rintro e w2 ⟨rfl, b2⟩
    have z2 := b2.size
    have bl2 : Below w1.heap.size w1 w2 := (Below.refl w1.heap.size w1).trans (b2.mono (Nat.le_refl _))
    clear b2
    go_wp2_with fail
    refine (HS.out w2 ((hrk.below bl2).more bl2.size)).mono ?_
    rintro e w3 ⟨rfl, b3⟩
    have z3 := b3.size
    have bl3 : Below w1.heap.size w1 w3 := bl2.trans (b3.mono bl2.size)
    clear bl2 b3
    by_cases h6 : n ≤ 6
    case neg =>
      have h6i : (6 : Int) < (n : Int) := by omega
      clear hng hub h6
      cases q
      all_goals
        skip
        go_wp2_with fail
        refine (HS.out w3 ((hrk.below bl3).more bl3.size)).mono ?_
        rintro e w4 ⟨rfl, b4⟩
        have z4 := b4.size
        have bl4 : Below w1.heap.size w1 w4 := bl3.trans (b4.mono bl3.size)
        clear bl3 b4
        go_wp2
        go_ret
        exact ⟨rfl, b1.trans (bl4.mono b1.size)⟩
    have h6i : ¬ (6 : Int) < (n : Int) := by omega
    cases hv : (vcB ks && inB st (-100) 100)
    · rw [hv] at HNUM
      clear hng hv
      cases q
      all_goals
        skip
        go_wp2_with fail
        refine (numbers_any n (by omega) w3).mono ?_
        rintro e w4 ⟨AN, cN, rfl, oN4, b4⟩
        have z4 := b4.size
        have bl4 : Below w1.heap.size w1 w4 := bl3.trans (b4.mono bl3.size)
        have HIN := Lib.hid (owz_in oN4)
        clear bl3 b4
        rw [show (nats (List.range n)).length = n by rw [nats_length]; simp] at oN4 HIN ⊢
        go_wp2_with fail
        refine (iLate_any n n ks HL.out Ak ck hn1 (nats (List.range n)) (by rw [nats_length]; simp) (by omega) AN cN w4 ((hrk.below bl4).more bl4.size) (Rd.ownz oN4) st).mono ?_
        rintro e w5 ⟨rfl, b5⟩
        have z5 := b5.size
        have bl5 : Below w1.heap.size w1 w5 := bl4.trans (b5.mono bl4.size)
        have oN5 := owz_below oN4 b5
        clear oN4 bl4 b5
        clear oN5
        rw [HNUM.out]
        go_wp2_with fail
        refine (HS.out w5 ((hrk.below bl5).more bl5.size)).mono ?_
        rintro e w6 ⟨rfl, b6⟩
        have z6 := b6.size
        have bl6 : Below w1.heap.size w1 w6 := bl5.trans (b6.mono bl5.size)
        clear bl5 b6
        go_wp2
        go_ret
        exact ⟨rfl, b1.trans (bl6.mono b1.size)⟩
    · have HSQ := Lib.hid (HSL.out hv h6)
      rw [hv] at HNUM
      have hg0 : ¬ lateT ks st (nats (List.range n)) < 0 := by rw [HNUM.out]; show ¬ latR st 0 ks < 0; omega
      clear hng hv
      have hbl := late_least_bd (ks := ks) (st := st) (leastT ks st)
      by_cases hz : lateT ks st (leastT ks st) = 0
      · have hqt : q = true := by rw [HSQ.out, decide_eq_true hz]
        have HZ := Lib.hid hz
        subst hqt
        clear hz
        go_wp2_with fail
        refine (numbers_any n (by omega) w3).mono ?_
        rintro e w4 ⟨AN, cN, rfl, oN4, b4⟩
        have z4 := b4.size
        have bl4 : Below w1.heap.size w1 w4 := bl3.trans (b4.mono bl3.size)
        have HIN := Lib.hid (owz_in oN4)
        clear bl3 b4
        rw [show (nats (List.range n)).length = n by rw [nats_length]; simp] at oN4 HIN ⊢
        go_wp2_with fail
        refine (iLate_any n n ks HL.out Ak ck hn1 (nats (List.range n)) (by rw [nats_length]; simp) (by omega) AN cN w4 ((hrk.below bl4).more bl4.size) (Rd.ownz oN4) st).mono ?_
        rintro e w5 ⟨rfl, b5⟩
        have z5 := b5.size
        have bl5 : Below w1.heap.size w1 w5 := bl4.trans (b5.mono bl4.size)
        have oN5 := owz_below oN4 b5
        clear oN4 bl4 b5
        clear oN5
        go_wp2_with fail
        refine (iLeast_any n ks HL.out Ak ck hn1 w5 ((hrk.below bl5).more bl5.size) st).mono ?_
        rintro e w6 ⟨AB, cB, rfl, oB6, b6⟩
        have z6 := b6.size
        have bl6 : Below w1.heap.size w1 w6 := bl5.trans (b6.mono bl5.size)
        have HIB := Lib.hid (owz_in oB6)
        clear bl5 b6
        have hlb8 := leastT_le ks st
        go_wp2_with fail
        refine (iLate_any n _ ks HL.out Ak ck hn1 (leastT ks st) rfl (by omega) AB cB w6 ((hrk.below bl6).more bl6.size) (Rd.ownz oB6) st).mono ?_
        rintro e w7 ⟨rfl, b7⟩
        have z7 := b7.size
        have bl7 : Below w1.heap.size w1 w7 := bl6.trans (b7.mono bl6.size)
        have oB7 := owz_below oB6 b7
        clear oB6 bl6 b7
        clear oB7
        rw [HZ.out]
        go_wp2
        go_ret
        exact ⟨rfl, b1.trans (bl7.mono b1.size)⟩
      · have hqf : q = false := by rw [HSQ.out, decide_eq_false hz]
        have HZ := Lib.hid hz
        subst hqf
        clear hz

        go_wp2_with fail
        refine (numbers_any n (by omega) w3).mono ?_
        rintro e w4 ⟨AN, cN, rfl, oN4, b4⟩
        have z4 := b4.size
        have bl4 : Below w1.heap.size w1 w4 := bl3.trans (b4.mono bl3.size)
        have HIN := Lib.hid (owz_in oN4)
        clear bl3 b4
        rw [show (nats (List.range n)).length = n by rw [nats_length]; simp] at oN4 HIN ⊢
        go_wp2_with fail
        refine (iLate_any n n ks HL.out Ak ck hn1 (nats (List.range n)) (by rw [nats_length]; simp) (by omega) AN cN w4 ((hrk.below bl4).more bl4.size) (Rd.ownz oN4) st).mono ?_
        rintro e w5 ⟨rfl, b5⟩
        have z5 := b5.size
        have bl5 : Below w1.heap.size w1 w5 := bl4.trans (b5.mono bl4.size)
        have oN5 := owz_below oN4 b5
        clear oN4 bl4 b5
        clear oN5
        go_wp2_with fail
        refine (iLeast_any n ks HL.out Ak ck hn1 w5 ((hrk.below bl5).more bl5.size) st).mono ?_
        rintro e w6 ⟨AB, cB, rfl, oB6, b6⟩
        have z6 := b6.size
        have bl6 : Below w1.heap.size w1 w6 := bl5.trans (b6.mono bl5.size)
        have HIB := Lib.hid (owz_in oB6)
        clear bl5 b6
        have hlb8 := leastT_le ks st
        go_wp2_with fail
        refine (iLate_any n _ ks HL.out Ak ck hn1 (leastT ks st) rfl (by omega) AB cB w6 ((hrk.below bl6).more bl6.size) (Rd.ownz oB6) st).mono ?_
        rintro e w7 ⟨rfl, b7⟩
        have z7 := b7.size
        have bl7 : Below w1.heap.size w1 w7 := bl6.trans (b7.mono bl6.size)
        have oB7 := owz_below oB6 b7
        clear oB6 bl6 b7
        clear oB7
        have HZ2 := HZ.out
        generalize lateT ks st (leastT ks st) = v at *
        have hvb : (v == 0) = false := beq_eq_false_iff_ne.2 HZ2
        go_wp2
        go_ret
        exact ⟨rfl, b1.trans (bl7.mono b1.size)⟩
  · have hn' : 1048576 < cs.length := by omega
    go_enter Try.func7, Try.ntmps7
    go_wp2
    go_ret
    exact ⟨rfl, Below.refl _ _⟩

set_option maxRecDepth 100000 in
theorem lifted (os : Os) (started : os.Started) (H : Type) (enc : TypeId × Value → H) :
    ReturnsInHanded {} Try.checked os 7 .any (Rows.fnCanServeSpec.pre6 enc Try.prog Try.f7 Rows.fnCanServeRow.domain false) (Rows.fnCanServeSpec.post enc Try.prog Try.f7 false true false false) := by
  refine returnsInHanded_of_change (C := Try.checked) ownNone started (by kernel_rfl) Try.func7
    (ChangeSpec.witness6 (enc := enc) (C := Try.checked) false ⟨#[], #[.slice none 0 0], []⟩ 8 (by kernel_rfl) (by kernel_rfl) (by kernel_rfl) (by kernel_rfl)) ?_
  intro W base args ds gs before hval0 hW hcnd _
  have hval : ∀ (j : Nat) t v, Try.f7.params[j]? = some t → args[j]? = some v → Value.okWide Try.prog W .any base t v := hval0
  have hW' := hW
  obtain ⟨p, q, hA0, hV, rfl, _, _⟩ := hW
  have hA : DataW.TrodAll enc Try.prog W 0 (fun _ => true) true Try.f7.params.toList args.toList ds p := hA0
  rw [Try.params7] at hA hval
  obtain ⟨v0, vs0, d0, ds0, p0, q0, hargs, rfl, rfl, h0, r0⟩ := trodAll_cons hA
  obtain ⟨rfl, rfl, rfl⟩ := trodAll_nil r0
  obtain rfl : args = #[v0] := by cases args; simp_all
  obtain ⟨rfl, rfl⟩ := trodVars_none hV
  obtain ⟨Acs, ccs, cs, rfl, hrcs, hlcs, hqcs⟩ := open_rd Try.underlying22 Try.underlying5 cellsByte (hval 0 22 v0 rfl rfl) h0
  have hbcs := byte_bounds hqcs
  clear hA0 hval0
  refine (walk W cs Acs ccs hrcs hbcs hlcs).mono fun e W' ⟨he, hg⟩ => ?_
  subst he
  exact ⟨_, rfl, law_post laidOut (by kernel_rfl) rfl rfl rfl rfl rfl Try.underlying4 hW' hg⟩

/-- The statement. -/
theorem proved : Rows.FnCanServeSaid :=
  OpenClaim.holds_of_wide 7 Try.f7 rfl rfl rfl rfl rfl rfl rfl ⟨rfl, rfl, rfl, rfl, rfl⟩ rfl rfl rfl rfl rfl (by kernel_rfl) Try.func7 (by kernel_rfl)
    (of_decide_eq_true (by kernel_rfl)) (by unfold Func.isWrapper; first | (rw [if_pos (by decide +kernel)]; kernel_rfl) | (rw [if_neg (by decide +kernel)]; exact ⟨rfl, rfl⟩))
    (fun os started H enc _ => lifted os started H enc)
#print axioms proved
end fnCanServe

end Go.Proofs.Ytjjddamblijffaa

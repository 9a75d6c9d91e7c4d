/- The law FnHoursTo: for every code it answers true, and the code reads as it read before. No condition. -/
import Derived.Test.YthccmpbklhlohaaPureB
import Derived.Test.YthccmpbklhlohaaRuns
import Derived.Test.YthccmpbklhlohaaHelps
import Derived.Test.YthccmpbklhlohaaDraws
import Derived.Test.YthccmpbklhlohaaLaw
namespace Go.Proofs.Ythccmpbklhlohaa
open Go.RowKit
set_option linter.unusedVariables false
set_option linter.unusedSimpArgs false

theorem steady_at (t n : Int) (k : Nat) (h : n = (k : Int)) (hk : k ≤ 200) (w : World) :
    Calls Try.prog 45 #[.int .i64 t, .int .i64 n] w fun e w' => ∃ A' c', e = .returned (.slice A' (List.replicate k t).length c') ∧ w'.ownsRow w.heap.size 3 1 (.slice A' (List.replicate k t).length c') (List.replicate k t).length (ints (List.replicate k t)) ∧ Below w.heap.size w w' := by
  subst h
  exact steady_any t k hk w
theorem temps_same (f : Int) (k : Nat) (h : -400 ≤ f ∧ f ≤ 400) (hk : k ≤ 200) : tempsB (List.replicate k (-f)) = true := by
  unfold tempsB
  simp only [Bool.and_eq_true, decide_eq_true_eq, List.all_eq_true, List.length_replicate, List.mem_replicate]
  exact ⟨hk, fun z hz => by rw [hz.2]; exact inB_mk ⟨by omega, by omega⟩⟩
theorem runF_same (m f : Int) (k : Nat) (h0 : 0 ≤ m) (h1 : m ≤ 998001) (hf : 1 ≤ f) : runF m (List.replicate k (-f)) = if m + 5 * (f * (k : Int)) ≤ 998001 then m + 5 * (f * (k : Int)) else 998001 := by
  induction k with
  | zero => simp [runF, h1]
  | succ k ih =>
    have p := Int.mul_nonneg (show 0 ≤ f by omega) (show (0 : Int) ≤ (k : Int) by omega)
    have e : f * ((k + 1 : Nat) : Int) = f * (k : Int) + f := by rw [Int.natCast_succ, Int.mul_add, Int.mul_one]
    rw [List.replicate_succ', runF_snoc, ih, e, hourF_cold (by omega)]
    generalize f * (k : Int) = q at *
    split <;> split <;> split <;> omega
theorem rt_ge (x n : Int) (h0 : 0 ≤ n) (h1 : n ≤ 999) (h : n * n ≤ x) (hx : x ≤ 998001) : n ≤ rt x := by
  have := rt_mono (n * n) x (sq_nonneg n) h hx
  rwa [rt_of_sq n h0 h1] at this
theorem rt_less (x n : Int) (hx : 0 ≤ x) (h0 : 0 ≤ n) (h : x < n * n) : rt x < n := by
  have a := rt_sq x hx
  have r := rt_range x
  generalize rt x = q at *
  false_or_by_contra
  have := sq_mono (a := n) (b := q) h0 (by omega)
  omega
theorem hours_spec (m f n : Int) (m0 : 0 ≤ m) (hf : 1 ≤ f) (n0 : 0 ≤ n) :
    ∃ k : Nat, hoursF m f n = k ∧ n * n ≤ m + 5 * (f * (k : Int)) ∧ (∀ j : Nat, k = j + 1 → m + 5 * (f * (j : Int)) < n * n) := by
  unfold hoursF
  split
  · next h => exact ⟨0, rfl, by simp; omega, fun j hj => by omega⟩
  · next h =>
    have hd : 0 < 5 * f := by omega
    have hn : 0 ≤ (n * n - m + 5 * f - 1) / (5 * f) := Int.ediv_nonneg (by omega) (by omega)
    obtain ⟨k, hk⟩ := Int.eq_ofNat_of_zero_le hn
    have a := Int.mul_ediv_self_le (x := n * n - m + 5 * f - 1) (k := 5 * f) (by omega)
    have b := Int.lt_mul_ediv_self_add (x := n * n - m + 5 * f - 1) (k := 5 * f) hd
    rw [hk] at a b
    have e : 5 * f * (k : Int) = 5 * (f * (k : Int)) := Int.mul_assoc ..
    rw [e] at a b
    refine ⟨k, hk, by omega, fun j hj => ?_⟩
    subst hj
    have e2 : f * ((j + 1 : Nat) : Int) = f * (j : Int) + f := by rw [Int.natCast_succ, Int.mul_add, Int.mul_one]
    rw [e2] at a
    omega

namespace fnHoursTo
open Go.ChangeShapes Go.WideShapes Go.ChangeAt Go.RowKit
set_option maxHeartbeats 800000 in
theorem walk (w : World) (cs : List Int) (Acs : Option Addr) (ccs : Nat) (hrcs : Rd w w.heap.size Acs (bytes cs)) (hbcs : ∀ z ∈ cs, 0 ≤ z ∧ z ≤ 255) (hlcs : cs.length ≤ ccs ∧ ccs ≤ maxLen) :
    Calls Try.prog 13 #[.slice Acs cs.length ccs] w fun e w' => e = .returned (.bool true) ∧ Below w.heap.size w w' := by
  by_cases hn : cs.length ≤ 1048576
  · go_enter Try.func13, Try.ntmps13
    go_wp2_with fail
    refine (dHoursTo _ _ _ _ hrcs hbcs hlcs.1 hlcs.2).mono ?_
    rintro e w1 ⟨m, f, n, rfl, hm, hf, hnn, b1⟩
    have cI := iHours_any m f n w1
    have cS := sHours_any m f n w1
    by_cases h : (0 ≤ m ∧ m ≤ 998001) ∧ (1 ≤ f ∧ f ≤ 400) ∧ (0 ≤ n ∧ n ≤ 999)
    · have e : hoursT m f n = hoursF m f n := hoursT_ok h.1 h.2.1 h.2.2
      obtain ⟨⟨m0, m1⟩, ⟨f0, f1⟩, n0, n1⟩ := h
      obtain ⟨k, hk, ha, hb⟩ := hours_spec m f n m0 (by omega) n0
      rw [e, hk] at cI cS
      clear e
      by_cases hbig : 200 < k
      · have hbig' : (200 : Int) < (k : Int) := by omega
        have Hk := Lib.hid hk
        clear hk ha hb
        go_wp2_with fail
        refine cI.mono ?_
        rintro e w' ⟨rfl, rfl⟩
        go_wp2_with fail
        refine cS.mono ?_
        rintro e w' ⟨rfl, rfl⟩
        clear cI cS
        go_wp2
        go_ret
        exact ⟨rfl, b1⟩
      · have hk200 : k ≤ 200 := by omega
        have t1 : runT m (List.replicate k (-f)) = runF m (List.replicate k (-f)) := runT_ok (inB_mk ⟨m0, m1⟩) (temps_same f k ⟨by omega, f1⟩ hk200)
        have rg1 := runF_range m m0 m1 (List.replicate k (-f))
        have ge1 : n ≤ rt (runF m (List.replicate k (-f))) := by
          rw [runF_same m f k m0 m1 f0]
          have q := sq_mono (a := n) (b := 999) n0 n1
          have p := Int.mul_nonneg (show 0 ≤ f by omega) (show (0 : Int) ≤ (k : Int) by omega)
          split
          · exact rt_ge _ n n0 n1 ha (by omega)
          · exact rt_ge _ n n0 n1 (by omega) (by omega)
        rw [← t1] at rg1 ge1
        have T1 := Lib.hid t1
        clear t1
        by_cases hz : k = 0
        · subst hz
          have Hk := Lib.hid hk
          clear hk ha hb
          go_wp2_with fail
          refine cI.mono ?_
          rintro e w' ⟨rfl, rfl⟩
          go_wp2_with fail
          refine cS.mono ?_
          rintro e w' ⟨rfl, rfl⟩
          clear cI cS
          go_wp2_with fail
          refine (steady_at _ _ 0 (by omega) (by omega) _).mono ?_
          rintro e w2 ⟨A2, c2, rfl, o2, b2⟩
          go_wp2_with fail
          refine (iRun_n 0 (List.replicate 0 (-f)) rfl _ _ _ _ (Rd.own o2) _).mono ?_
          rintro e w' ⟨rfl, rfl⟩
          go_wp2_with fail
          refine (iThickOf_any _ rg1.1 rg1.2 _).mono ?_
          rintro e w' ⟨rfl, rfl⟩
          go_wp2
          go_ret
          exact ⟨rfl, b1.trans (b2.mono b1.size)⟩
        · obtain ⟨j, hj⟩ : ∃ j, k = j + 1 := ⟨k - 1, by omega⟩
          have t2 : runT m (List.replicate j (-f)) = runF m (List.replicate j (-f)) := runT_ok (inB_mk ⟨m0, m1⟩) (temps_same f j ⟨by omega, f1⟩ (by omega))
          have rg2 := runF_range m m0 m1 (List.replicate j (-f))
          have lt2 : rt (runF m (List.replicate j (-f))) < n := by
            rw [runF_same m f j m0 m1 f0]
            have q := sq_mono (a := n) (b := 999) n0 n1
            have p := Int.mul_nonneg (show 0 ≤ f by omega) (show (0 : Int) ≤ (j : Int) by omega)
            have hb' := hb j hj
            rw [if_pos (by omega)]
            exact rt_less _ n (by omega) n0 hb'
          rw [← t2] at rg2 lt2
          have T2 := Lib.hid t2
          clear t2
          have Hk := Lib.hid hk
          clear hk ha hb hz
          have hz0 : ((k : Int) == 0) = false := beq_eq_false_iff_ne.2 (by omega)
          have hz1 : 1 ≤ k := by omega
          have hj200 : j ≤ 200 := by omega
          have HJ := Lib.hid hj
          clear hj
          go_wp2_with fail
          refine cI.mono ?_
          rintro e w' ⟨rfl, rfl⟩
          go_wp2_with fail
          refine cS.mono ?_
          rintro e w' ⟨rfl, rfl⟩
          clear cI cS
          go_wp2_with fail
          refine (steady_at _ _ k (by omega) (by omega) _).mono ?_
          rintro e w2 ⟨A2, c2, rfl, o2, b2⟩
          go_wp2_with fail
          refine (iRun_n _ (List.replicate k (-f)) (by simp) _ _ _ _ (Rd.own o2) _).mono ?_
          rintro e w' ⟨rfl, rfl⟩
          go_wp2_with fail
          refine (iThickOf_any _ rg1.1 rg1.2 _).mono ?_
          rintro e w' ⟨rfl, rfl⟩
          go_wp2_with fail
          refine (steady_at _ _ j (by have := HJ.out; omega) (by omega) _).mono ?_
          rintro e w3 ⟨A3, c3, rfl, o3, b3⟩
          go_wp2_with fail
          refine (iRun_n _ (List.replicate j (-f)) (by simp) _ _ _ _ (Rd.own o3) _).mono ?_
          rintro e w' ⟨rfl, rfl⟩
          go_wp2_with fail
          refine (iThickOf_any _ rg2.1 rg2.2 _).mono ?_
          rintro e w' ⟨rfl, rfl⟩
          go_wp2
          go_ret
          exact ⟨rfl, b1.trans ((b2.trans (b3.mono b2.size)).mono b1.size)⟩
    · have e : hoursT m f n = -1 := hoursT_no h
      rw [e] at cI cS
      clear e h
      go_wp2_with fail
      refine cI.mono ?_
      rintro e w' ⟨rfl, rfl⟩
      go_wp2_with fail
      refine cS.mono ?_
      rintro e w' ⟨rfl, rfl⟩
      go_wp2_with fail
      refine cS.mono ?_
      rintro e w' ⟨rfl, rfl⟩
      clear cI cS
      go_wp2
      go_ret
      exact ⟨rfl, b1⟩
  · have hn' : 1048576 < cs.length := by omega
    go_enter Try.func13, Try.ntmps13
    go_wp2
    go_ret
    exact ⟨rfl, Below.refl _ _⟩

set_option maxRecDepth 100000 in
theorem lifted (os : Os) (started : os.Started) (H : Type) (enc : TypeId × Value → H) :
    ReturnsInHanded {} Try.checked os 13 .any (Rows.fnHoursToSpec.pre6 enc Try.prog Try.f13 Rows.fnHoursToRow.domain false) (Rows.fnHoursToSpec.post enc Try.prog Try.f13 false true false false) := by
  refine returnsInHanded_of_change (C := Try.checked) ownNone started (by kernel_rfl) Try.func13
    (ChangeSpec.witness6 (enc := enc) (C := Try.checked) false ⟨#[], #[.slice none 0 0], []⟩ 8 (by kernel_rfl) (by kernel_rfl) (by kernel_rfl) (by kernel_rfl)) ?_
  intro W base args ds gs before hval0 hW hcnd _
  have hval : ∀ (j : Nat) t v, Try.f13.params[j]? = some t → args[j]? = some v → Value.okWide Try.prog W .any base t v := hval0
  have hW' := hW
  obtain ⟨p, q, hA0, hV, rfl, _, _⟩ := hW
  have hA : DataW.TrodAll enc Try.prog W 0 (fun _ => true) true Try.f13.params.toList args.toList ds p := hA0
  rw [Try.params13] at hA hval
  obtain ⟨v0, vs0, d0, ds0, p0, q0, hargs, rfl, rfl, h0, r0⟩ := trodAll_cons hA
  obtain ⟨rfl, rfl, rfl⟩ := trodAll_nil r0
  obtain rfl : args = #[v0] := by cases args; simp_all
  obtain ⟨rfl, rfl⟩ := trodVars_none hV
  obtain ⟨Acs, ccs, cs, rfl, hrcs, hlcs, hqcs⟩ := open_rd Try.underlying22 Try.underlying5 cellsByte (hval 0 22 v0 rfl rfl) h0
  have hbcs := byte_bounds hqcs
  clear hA0 hval0
  refine (walk W cs Acs ccs hrcs hbcs hlcs).mono fun e W' ⟨he, hg⟩ => ?_
  subst he
  exact ⟨_, rfl, law_post laidOut (by kernel_rfl) rfl rfl rfl rfl rfl Try.underlying4 hW' hg⟩

/-- The statement. -/
theorem proved : Rows.FnHoursToSaid :=
  OpenClaim.holds_of_wide 13 Try.f13 rfl rfl rfl rfl rfl rfl rfl ⟨rfl, rfl, rfl, rfl, rfl⟩ rfl rfl rfl rfl rfl (by kernel_rfl) Try.func13 (by kernel_rfl)
    (of_decide_eq_true (by kernel_rfl)) (by unfold Func.isWrapper; first | (rw [if_pos (by decide +kernel)]; kernel_rfl) | (rw [if_neg (by decide +kernel)]; exact ⟨rfl, rfl⟩))
    (fun os started H enc _ => lifted os started H enc)
#print axioms proved
end fnHoursTo

end Go.Proofs.Ythccmpbklhlohaa

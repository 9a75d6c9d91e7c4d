/- The law FnRunIceMore: for every code it answers true, and the code reads as it read before. No condition. -/
import Derived.Test.YthccmpbklhlohaaRuns
import Derived.Test.YthccmpbklhlohaaDraws
import Derived.Test.YthccmpbklhlohaaLaw
namespace Go.Proofs.Ythccmpbklhlohaa
open Go.RowKit
set_option linter.unusedVariables false
set_option linter.unusedSimpArgs false

theorem hourF_mono (m n t : Int) (h0 : 0 ≤ m) (h : m ≤ n) (h1 : n ≤ 998001) : hourF m t ≤ hourF n t := by
  have r := rt_mono m n h0 h h1
  have rm := rt_range m
  have rn := rt_range n
  by_cases hc : t < 0
  · rw [hourF_cold hc, hourF_cold hc]; split <;> split <;> omega
  · by_cases h2 : t / 20 = 0
    · rw [hourF_stay hc h2, hourF_stay hc h2]; omega
    · by_cases h3 : rt m < t / 20
      · rw [hourF_gone hc h2 h3]; exact (hourF_range n t (by omega) h1).1
      · rw [hourF_thaw hc h2 h3, hourF_thaw hc h2 (by omega)]
        exact sq_mono (by omega) (by omega)
theorem runF_mono (zs : List Int) (ht : tempsB zs = true) (m n : Int) (h0 : 0 ≤ m) (h : m ≤ n) (h1 : n ≤ 998001) : runF m zs ≤ runF n zs := by
  clear ht
  induction zs generalizing m n with
  | nil => exact h
  | cons z zs ih =>
    have a := hourF_range m z h0 (by omega)
    have b := hourF_range n z (by omega) h1
    exact ih _ _ a.1 (hourF_mono m n z h0 h h1) b.2

namespace fnRunIceMore
open Go.ChangeShapes Go.WideShapes Go.ChangeAt Go.RowKit
set_option maxHeartbeats 800000 in
theorem walk (w : World) (cs : List Int) (Acs : Option Addr) (ccs : Nat) (hrcs : Rd w w.heap.size Acs (bytes cs)) (hbcs : ∀ z ∈ cs, 0 ≤ z ∧ z ≤ 255) (hlcs : cs.length ≤ ccs ∧ ccs ≤ maxLen) :
    Calls Try.prog 7 #[.slice Acs cs.length ccs] w fun e w' => e = .returned (.bool true) ∧ Below w.heap.size w w' := by
  by_cases hn : cs.length ≤ 1048576
  · go_enter Try.func7, Try.ntmps7
    go_wp2_with fail
    refine (dRunIce _ _ _ _ hrcs hbcs hlcs.1 hlcs.2).mono ?_
    rintro e w1 ⟨m, zs, Az, cz, rfl, hm, hd, b1⟩
    obtain ⟨l12, _, hrz, lc, lm⟩ := hd
    unfold maxLen at lm
    by_cases h : inB m 0 998001 = true ∧ tempsB zs = true
    · have e : runT m zs = runF m zs := runT_ok h.1 h.2
      have rg := inB_t h.1
      have q0 := runF_range m rg.1 rg.2 zs
      rw [← e] at q0
      have E := Lib.hid e
      clear e
      have key : ∀ k : Int, 0 ≤ k → m + k ≤ 998001 → runT m zs ≤ runT (m + k) zs := fun k hk hk2 => by
        rw [E.out, runT_ok (inB_mk ⟨by omega, hk2⟩) h.2]
        exact runF_mono zs h.2 m (m + k) rg.1 (by omega) hk2
      have K := Lib.hid key
      clear key
      have hrz' : Rd (w1.alloc (.cells #[.int .i64 1, .int .i64 50, .int .i64 1000] 3)) _ Az (ints zs) := hrz.alloc (Nat.le_refl _) _
      have hL : Rd (w1.alloc (.cells #[.int .i64 1, .int .i64 50, .int .i64 1000] 3)) _ _ (ints [1, 50, 1000]) := rd_new w1 3 [1, 50, 1000]
      go_wp2_with (first | (go_at_call 22; refine (iRunIce_any _ _ _ _ _ hrz _).mono ?_; rintro e w' ⟨rfl, rfl⟩) | (go_at_call 23; refine (sRunIce_any _ _ _ _ _ hrz _).mono ?_; rintro e w' ⟨rfl, rfl⟩))
      go_loop [35] (fun i => ∃ k : Nat, k ≤ 3 ∧ i = .int .i64 k) (fun i => 3 - (intOf i).toNat)
      case atStart => exact ⟨0, by omega, rfl⟩
      case round =>
        obtain ⟨k, hk, rfl⟩ := hrel
        by_cases hlt : k < 3
        · obtain ⟨z, hz, hmz, hc⟩ := hL.some_ (k := k) hlt
          rw [Nat.zero_add] at hc
          have hzb : 0 ≤ z ∧ z ≤ 1000 := by simp only [List.mem_cons, List.not_mem_nil, or_false] at hmz; omega
          clear hmz
          have hlt' : (k : Int) < 3 := by omega
          by_cases hle : m + z ≤ 998001
          · have hgood := K.out z hzb.1 hle
            go_wp2_with (go_at_call 22; refine (iRunIce_any _ _ _ _ _ hrz' _).mono ?_; rintro e w' ⟨rfl, rfl⟩)
            go_round
            case rel => exact ⟨k + 1, by omega, by go_num⟩
            case measure => simp [intOf]; omega
          · go_wp2
            go_round
            case rel => exact ⟨k + 1, by omega, by go_num⟩
            case measure => simp [intOf]; omega
        · obtain rfl : k = 3 := by omega
          go_wp2
          go_ret
          exact ⟨rfl, b1.alloc b1.size _⟩
    · have e : runT m zs = -1 := runT_neg h
      have q0 : runT m zs < 0 := by omega
      have H := Lib.hid e
      clear e h
      go_wp2_with (first | (go_at_call 22; refine (iRunIce_any _ _ _ _ _ hrz _).mono ?_; rintro e w' ⟨rfl, rfl⟩) | (go_at_call 23; refine (sRunIce_any _ _ _ _ _ hrz _).mono ?_; rintro e w' ⟨rfl, rfl⟩))
      go_ret
      exact ⟨rfl, b1⟩
  · have hn' : 1048576 < cs.length := by omega
    go_enter Try.func7, Try.ntmps7
    go_wp2
    go_ret
    exact ⟨rfl, Below.refl _ _⟩

set_option maxRecDepth 100000 in
theorem lifted (os : Os) (started : os.Started) (H : Type) (enc : TypeId × Value → H) :
    ReturnsInHanded {} Try.checked os 7 .any (Rows.fnRunIceMoreSpec.pre6 enc Try.prog Try.f7 Rows.fnRunIceMoreRow.domain false) (Rows.fnRunIceMoreSpec.post enc Try.prog Try.f7 false true false false) := by
  refine returnsInHanded_of_change (C := Try.checked) ownNone started (by kernel_rfl) Try.func7
    (ChangeSpec.witness6 (enc := enc) (C := Try.checked) false ⟨#[], #[.slice none 0 0], []⟩ 8 (by kernel_rfl) (by kernel_rfl) (by kernel_rfl) (by kernel_rfl)) ?_
  intro W base args ds gs before hval0 hW hcnd _
  have hval : ∀ (j : Nat) t v, Try.f7.params[j]? = some t → args[j]? = some v → Value.okWide Try.prog W .any base t v := hval0
  have hW' := hW
  obtain ⟨p, q, hA0, hV, rfl, _, _⟩ := hW
  have hA : DataW.TrodAll enc Try.prog W 0 (fun _ => true) true Try.f7.params.toList args.toList ds p := hA0
  rw [Try.params7] at hA hval
  obtain ⟨v0, vs0, d0, ds0, p0, q0, hargs, rfl, rfl, h0, r0⟩ := trodAll_cons hA
  obtain ⟨rfl, rfl, rfl⟩ := trodAll_nil r0
  obtain rfl : args = #[v0] := by cases args; simp_all
  obtain ⟨rfl, rfl⟩ := trodVars_none hV
  obtain ⟨Acs, ccs, cs, rfl, hrcs, hlcs, hqcs⟩ := open_rd Try.underlying22 Try.underlying5 cellsByte (hval 0 22 v0 rfl rfl) h0
  have hbcs := byte_bounds hqcs
  clear hA0 hval0
  refine (walk W cs Acs ccs hrcs hbcs hlcs).mono fun e W' ⟨he, hg⟩ => ?_
  subst he
  exact ⟨_, rfl, law_post laidOut (by kernel_rfl) rfl rfl rfl rfl rfl Try.underlying4 hW' hg⟩

/-- The statement. -/
theorem proved : Rows.FnRunIceMoreSaid :=
  OpenClaim.holds_of_wide 7 Try.f7 rfl rfl rfl rfl rfl rfl rfl ⟨rfl, rfl, rfl, rfl, rfl⟩ rfl rfl rfl rfl rfl (by kernel_rfl) Try.func7 (by kernel_rfl)
    (of_decide_eq_true (by kernel_rfl)) (by unfold Func.isWrapper; first | (rw [if_pos (by decide +kernel)]; kernel_rfl) | (rw [if_neg (by decide +kernel)]; exact ⟨rfl, rfl⟩))
    (fun os started H enc _ => lifted os started H enc)
#print axioms proved
end fnRunIceMore

end Go.Proofs.Ythccmpbklhlohaa

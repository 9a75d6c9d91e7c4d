/- The law FnBestGrid: for every code it answers true, and the code reads as it read before. No condition. -/
import Derived.Test.YtboaikabbfipgabFMath
import Derived.Test.YtboaikabbfipgabFDraws
import Derived.Test.YtboaikabbfipgabLaw
namespace Go.Proofs.Ytboaikabbfipgab
open Go.RowKit
set_option linter.unusedVariables false
set_option linter.unusedSimpArgs false

namespace fnBestGrid
open Go.ChangeShapes Go.WideShapes Go.ChangeAt Go.RowKit
set_option maxHeartbeats 800000 in
set_option maxRecDepth 100000 in
set_option maxHeartbeats 8000000 in
theorem walk (w : World) (cs : List Int) (Acs : Option Addr) (ccs : Nat) (hrcs : Rd w w.heap.size Acs (bytes cs)) (hbcs : ∀ z ∈ cs, 0 ≤ z ∧ z ≤ 255) (hlcs : cs.length ≤ ccs ∧ ccs ≤ maxLen) :
    Calls Try.prog 6 #[.slice Acs cs.length ccs] w fun e w' => e = .returned (.bool true) ∧ Below w.heap.size w w' := by
  by_cases hn : cs.length ≤ 1048576
  · go_enter Try.func6, Try.ntmps6
    go_wp2_with fail
    refine (dBestGrid _ _ _ _ hrcs hbcs hlcs.1 hlcs.2).mono ?_
    rintro e w1 ⟨ff, Af, cf, a, h, rfl, ⟨hpl, hpc, hcm, hg⟩, hba, hbh, b1⟩
    have hn1 : ff.length ≤ 1048576 := by omega
    obtain ⟨⟨x, y⟩, hp⟩ : ∃ p, p = bestT ff a h := ⟨_, rfl⟩
    have cI : Calls Try.prog 27 #[.slice Af ff.length cf, .int .i64 a, .int .i64 h] w1 (fun e w' => e = .returned (.tuple #[.int .i64 x, .int .i64 y]) ∧ Below w1.heap.size w1 w') := by
      have := iBest_any ff Af cf ⟨hpc, hcm⟩ w1 hg a h
      rw [← hp] at this
      exact this
    go_wp2_with fail
    refine (cI).mono ?_
    rintro e w2 ⟨rfl, b2⟩
    have hg2 := (hg.below b2).more b2.size
    have cS : Calls Try.prog 28 #[.slice Af ff.length cf, .int .i64 a, .int .i64 h] w2 (fun e w' => e = .returned (.tuple #[.int .i64 x, .int .i64 y]) ∧ Below w2.heap.size w2 w') := by
      have := sBest_any ff Af cf w2 hg2 hn1 a h
      rw [← hp] at this
      exact this
    go_wp2_with fail
    refine (cS).mono ?_
    rintro e w3 ⟨rfl, b3⟩
    have hg3 := (hg2.below b3).more b3.size
    have bl3 : Below w.heap.size w w3 := (b1.trans (b2.mono b1.size)).trans (b3.mono (by have := b1.size; have := b2.size; omega))
    by_cases hx : 0 ≤ x
    · obtain ⟨cw, ch, bx, b2', rfl, rfl, rfl, rfl, hv, hs, hbx, hby, hmax⟩ := best_some hp.symm hx
      have HC : Hid (∀ (wr : World) (x y : Nat), Below w3.heap.size w3 wr → x < cw → y < ch → Calls Try.prog 21 #[.slice Af ff.length cf, .int .i64 (cw : Nat), .int .i64 (ch : Nat), .int .i64 (x : Nat), .int .i64 (y : Nat)] wr (OutC (gridF ff cw ch x y) wr)) :=
        Lib.hid fun wr x y hb hx hy => iCakesOk_any ff Af cf ⟨hpc, hcm⟩ wr ((hg3.below hb).more hb.size) cw ch x y hv hs hx hy
      have HM : Hid (∀ i k, i < cw → k < ch → (gridF ff cw ch i k).length ≤ (gridF ff cw ch bx b2').length) := Lib.hid hmax
      have hle := gridF_len (w := cw) (h := ch) (dx := bx) (dy := b2') hv
      have hc3 := HC.out w3 bx b2' (Below.refl _ _) hbx hby
      clear hp cI cS hmax b1 b2 b3 hg hg2 hg3 hv hs
      go_wp2_with fail
      refine hc3.mono ?_
      rintro e w5 ⟨A5, c5, rfl, o5, b5⟩
      have HB5 := Lib.hid b5
      clear o5 b5 hc3
      generalize (gridF ff cw ch bx b2').length = M at *
      go_wp2
      go_loopw [11] (fun i wr => ∃ k : Nat, k ≤ cw ∧ i = .int .i64 k ∧ Below w3.heap.size w3 wr) (fun i _ => cw - (intOf i).toNat)
      case atStart => exact ⟨0, Nat.zero_le _, rfl, HB5.out⟩
      case round =>
        obtain ⟨i, hi, rfl, hbel⟩ := hrel
        have HBEL := Lib.hid hbel
        clear hbel
        by_cases hlt : i < cw
        · go_wp2
          go_loopw [12] (fun q wr => ∃ k : Nat, k ≤ ch ∧ q = .int .i64 k ∧ Below w3.heap.size w3 wr) (fun q _ => ch - (intOf q).toNat)
          case atStart => exact ⟨0, Nat.zero_le _, rfl, HBEL.out⟩
          case round =>
            clear HBEL
            obtain ⟨k, hk, rfl, hbel⟩ := hrel
            by_cases hkt : k < ch
            · have hcal := HC.out wr i k hbel hlt hkt
              have hmm := HM.out i k hlt hkt
              go_wp2_with fail
              refine hcal.mono ?_
              rintro e w6 ⟨A6, c6, rfl, o6, b6⟩
              have hb6 := hbel.trans (b6.mono hbel.size)
              have HB6 := Lib.hid hb6
              clear o6 b6 hb6 hbel hcal
              generalize (gridF ff cw ch i k).length = K at *
              go_wp2
              go_roundw
              case rel => exact ⟨k + 1, by omega, by go_num, HB6.out⟩
              case measure => simp [intOf]; omega
            · obtain rfl : k = ch := by omega
              have HB6 := Lib.hid hbel
              clear hbel
              go_wp2
              go_roundw
              case rel => exact ⟨i + 1, by omega, by go_num, HB6.out⟩
              case measure => simp [intOf]; omega
        · obtain rfl : i = cw := by omega
          go_wp2
          go_ret
          exact ⟨rfl, bl3.trans (HBEL.out.mono bl3.size)⟩
    · obtain ⟨rfl, rfl⟩ := best_none hp.symm hx
      clear hp cI cS hx
      go_wp2
      go_ret
      exact ⟨rfl, bl3⟩
  · have hn' : 1048576 < cs.length := by omega
    go_enter Try.func6, Try.ntmps6
    go_wp2
    go_ret
    exact ⟨rfl, Below.refl _ _⟩

set_option maxRecDepth 100000 in
theorem lifted (os : Os) (started : os.Started) (H : Type) (enc : TypeId × Value → H) :
    ReturnsInHanded {} Try.checked os 6 .any (Rows.fnBestGridSpec.pre6 enc Try.prog Try.f6 Rows.fnBestGridRow.domain false) (Rows.fnBestGridSpec.post enc Try.prog Try.f6 false true false false) := by
  refine returnsInHanded_of_change (C := Try.checked) ownNone started (by kernel_rfl) Try.func6
    (ChangeSpec.witness6 (enc := enc) (C := Try.checked) false ⟨#[], #[.slice none 0 0], []⟩ 8 (by kernel_rfl) (by kernel_rfl) (by kernel_rfl) (by kernel_rfl)) ?_
  intro W base args ds gs before hval0 hW hcnd _
  have hval : ∀ (j : Nat) t v, Try.f6.params[j]? = some t → args[j]? = some v → Value.okWide Try.prog W .any base t v := hval0
  have hW' := hW
  obtain ⟨p, q, hA0, hV, rfl, _, _⟩ := hW
  have hA : DataW.TrodAll enc Try.prog W 0 (fun _ => true) true Try.f6.params.toList args.toList ds p := hA0
  rw [Try.params6] at hA hval
  obtain ⟨v0, vs0, d0, ds0, p0, q0, hargs, rfl, rfl, h0, r0⟩ := trodAll_cons hA
  obtain ⟨rfl, rfl, rfl⟩ := trodAll_nil r0
  obtain rfl : args = #[v0] := by cases args; simp_all
  obtain ⟨rfl, rfl⟩ := trodVars_none hV
  obtain ⟨Acs, ccs, cs, rfl, hrcs, hlcs, hqcs⟩ := open_rd Try.underlying22 Try.underlying5 cellsByte (hval 0 22 v0 rfl rfl) h0
  have hbcs := byte_bounds hqcs
  clear hA0 hval0
  refine (walk W cs Acs ccs hrcs hbcs hlcs).mono fun e W' ⟨he, hg⟩ => ?_
  subst he
  exact ⟨_, rfl, law_post laidOut (by kernel_rfl) rfl rfl rfl rfl rfl Try.underlying4 hW' hg⟩

/-- The statement. -/
theorem proved : Rows.FnBestGridSaid :=
  OpenClaim.holds_of_wide 6 Try.f6 rfl rfl rfl rfl rfl rfl rfl ⟨rfl, rfl, rfl, rfl, rfl⟩ rfl rfl rfl rfl rfl (by kernel_rfl) Try.func6 (by kernel_rfl)
    (of_decide_eq_true (by kernel_rfl)) (by unfold Func.isWrapper; first | (rw [if_pos (by decide +kernel)]; kernel_rfl) | (rw [if_neg (by decide +kernel)]; exact ⟨rfl, rfl⟩))
    (fun os started H enc _ => lifted os started H enc)
#print axioms proved
end fnBestGrid

end Go.Proofs.Ytboaikabbfipgab

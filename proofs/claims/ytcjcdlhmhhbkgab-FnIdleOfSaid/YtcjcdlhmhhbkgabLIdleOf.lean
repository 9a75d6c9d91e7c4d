/- The law FnIdleOf: for every code it answers true, and the code reads as it read before. No condition. -/
import Derived.Test.YtcjcdlhmhhbkgabLLawI
import Derived.Test.YtcjcdlhmhhbkgabLDrawsB
import Derived.Test.YtcjcdlhmhhbkgabLaw
namespace Go.Proofs.Ytcjcdlhmhhbkgab
open Go.RowKit
set_option linter.unusedVariables false
set_option linter.unusedSimpArgs false

namespace fnIdleOf
open Go.ChangeShapes Go.WideShapes Go.ChangeAt Go.RowKit
set_option maxHeartbeats 800000 in
set_option maxRecDepth 100000 in
set_option maxHeartbeats 8000000 in
theorem walk (w : World) (cs : List Int) (Acs : Option Addr) (ccs : Nat) (hrcs : Rd w w.heap.size Acs (bytes cs)) (hbcs : ∀ z ∈ cs, 0 ≤ z ∧ z ≤ 255) (hlcs : cs.length ≤ ccs ∧ ccs ≤ maxLen) :
    Calls Try.prog 3 #[.slice Acs cs.length ccs] w fun e w' => e = .returned (.bool true) ∧ Below w.heap.size w w' := by
  by_cases hn : cs.length ≤ 1048576
  · go_enter Try.func3, Try.ntmps3
    go_wp2_with fail
    refine (dIdleOf _ _ _ _ hrcs hbcs hlcs.1 hlcs.2).mono ?_
    rintro e w1 ⟨zs, Azs, czs, a, rfl, ⟨hlzs, hrzs, hczs, hmzs⟩, ⟨loa, hia⟩, b1⟩
    have hn1 : zs.length ≤ 1048576 := by omega
    obtain ⟨x, hx⟩ : ∃ x, x = idleT zs a := ⟨_, rfl⟩
    have HX := Lib.hid hx
    clear hx
    have CS : Hid (∀ w' : World, Rd w' w'.heap.size Azs (ints zs) → Calls Try.prog 17 #[.slice Azs zs.length czs, .int .i64 a] w' fun e w'' => e = .returned (.int .i64 x) ∧ Below w'.heap.size w' w'') := Lib.hid fun w' h => by
      rw [HX.out]; exact sIdle_any zs Azs czs w' h hn1 a
    have CI : Calls Try.prog 16 #[.slice Azs zs.length czs, .int .i64 a] w1 fun e w'' => e = .returned (.int .i64 x) ∧ Below w1.heap.size w1 w'' := by
      rw [HX.out]; exact iIdle_any zs Azs czs w1 hrzs a
    go_wp2_with fail
    refine (CI).mono ?_
    rintro e w2 ⟨rfl, b2⟩
    have hr2 := hrzs.up b2
    go_wp2_with fail
    refine (CS.out w2 hr2).mono ?_
    rintro e w3 ⟨rfl, b3⟩
    have hr3 := hr2.up b3
    have bl3 : Below w.heap.size w w3 := (b1.trans (b2.mono b1.size)).trans (b3.mono (by have := b1.size; have := b2.size; omega))
    clear b1 b2 b3 hrzs hr2 CI
    by_cases h0 : x < 0
    · skip
      go_wp2_with fail
      refine (CS.out w3 hr3).mono ?_
      rintro e w4 ⟨rfl, b4⟩
      have bl4 := bl3.trans (b4.mono bl3.size)
      clear b4 bl3 hr3 CS
      go_wp2
      go_ret
      exact ⟨rfl, bl4⟩
    · by_cases hz : zs.length = 0
      · have hz0 : ((zs.length : Int) == 0) = true := beq_iff_eq.2 (by omega)
        clear hz
        go_wp2_with fail
        refine (CS.out w3 hr3).mono ?_
        rintro e w4 ⟨rfl, b4⟩
        have bl4 := bl3.trans (b4.mono bl3.size)
        clear b4 bl3 hr3 CS
        go_wp2
        go_ret
        exact ⟨rfl, bl4⟩
      · have hz0 : ((zs.length : Int) == 0) = false := beq_eq_false_iff_ne.2 (by omega)
        obtain ⟨q, hq, hT, hg, hx1, hx2, ht1, ht2, hst⟩ := idle_some HX.out (by omega) hz
        obtain ⟨b, off, rfl, hb, hc0⟩ := hr3.el_ (k := 0) (by omega)
        have hcq := hr3.els (k := q) (by omega)
        rw [Nat.add_zero] at hc0
        have i1 : (zs.length : Int) - 1 = (q : Int) := by omega
        have i2 : IntKind.i64.wrap (q : Int) = (q : Int) := IntWalk.i64_in _ (by omega)
        have hql : q < zs.length := by omega
        have hln : (List.replicate zs.length (el zs 0)).length = zs.length := List.length_replicate
        have HI : Hid (∀ (A' : Option Addr) (c' : Nat) (w' : World), Rd w' w'.heap.size A' (ints (List.replicate zs.length (el zs 0))) → Calls Try.prog 16 #[.slice A' zs.length c', .int .i64 a] w' fun e w'' => e = .returned (.int .i64 (el zs 0)) ∧ Below w'.heap.size w' w'') := Lib.hid fun A' c' w' h => by
          have := iIdle_any _ A' c' w' h a
          rwa [hln, hst] at this
        have HST : Hid (∀ w' : World, Calls Try.prog 18 #[.int .i64 (el zs 0), .int .i64 zs.length] w' fun e w'' => ∃ A' c', e = .returned (.slice A' zs.length c') ∧ Rd w'' w''.heap.size A' (ints (List.replicate zs.length (el zs 0))) ∧ Below w'.heap.size w' w'') := Lib.hid fun w' => by
          have := steady_any (el zs 0) zs.length (by omega) w'
          rw [hln] at this
          exact this.mono fun e w'' ⟨A', c', h1, h2, h3⟩ => ⟨A', c', h1, Rd.own h2, h3⟩
        have d1 : decide (el zs 0 ≤ x) = true := decide_eq_true hx1
        have d2 : decide (x ≤ el zs q) = true := decide_eq_true hx2
        clear hr3 CS hz hq hT hst hln HX
        have hn0 : 0 < zs.length := by omega
        have i3 : IntKind.i64.wrap (zs.length : Int) = (zs.length : Int) := IntWalk.i64_in _ (by omega)
        generalize el zs 0 = t at *
        generalize el zs q = u at *
        generalize zs.length = N at *
        go_wp2
        go_region_held3 (fun w' => w'.cell? ⟨b, off, none⟩ = some (.int .i64 t) ∧ w'.cell? ⟨b, off + q, none⟩ = some (.int .i64 u)) (go_keep) (first
          | (go_at_call 18; refine (HST.out _).mono ?_; rintro e w5 ⟨A5, c5, rfl, r5, b5⟩; have hb5 : Below w3.heap.size w3 w5 := (below_drewN (Below.refl w3.heap.size w3) 1).trans b5; have k1 := (hb5.cell (World.block_lt_of_cell? _ _ hc0)).trans hc0; have k2 := (hb5.cell (World.block_lt_of_cell? _ _ hcq)).trans hcq)
          | (go_at_call 16; refine (HI.out _ _ _ r5).mono ?_; rintro e w6 ⟨rfl, b6⟩; have hb6 : Below w3.heap.size w3 w6 := hb5.trans (b6.mono hb5.size); have k3 := (hb6.cell (World.block_lt_of_cell? _ _ hc0)).trans hc0; have k4 := (hb6.cell (World.block_lt_of_cell? _ _ hcq)).trans hcq))
        have bl6 := bl3.trans (hb6.mono bl3.size)
        go_wp2
        go_ret
        exact ⟨rfl, bl6⟩
  · have hn' : 1048576 < cs.length := by omega
    go_enter Try.func3, Try.ntmps3
    go_wp2
    go_ret
    exact ⟨rfl, Below.refl _ _⟩

set_option maxRecDepth 100000 in
theorem lifted (os : Os) (started : os.Started) (H : Type) (enc : TypeId × Value → H) :
    ReturnsInHanded {} Try.checked os 3 .any (Rows.fnIdleOfSpec.pre6 enc Try.prog Try.f3 Rows.fnIdleOfRow.domain false) (Rows.fnIdleOfSpec.post enc Try.prog Try.f3 false true false false) := by
  refine returnsInHanded_of_change (C := Try.checked) ownNone started (by kernel_rfl) Try.func3
    (ChangeSpec.witness6 (enc := enc) (C := Try.checked) false ⟨#[], #[.slice none 0 0], []⟩ 8 (by kernel_rfl) (by kernel_rfl) (by kernel_rfl) (by kernel_rfl)) ?_
  intro W base args ds gs before hval0 hW hcnd _
  have hval : ∀ (j : Nat) t v, Try.f3.params[j]? = some t → args[j]? = some v → Value.okWide Try.prog W .any base t v := hval0
  have hW' := hW
  obtain ⟨p, q, hA0, hV, rfl, _, _⟩ := hW
  have hA : DataW.TrodAll enc Try.prog W 0 (fun _ => true) true Try.f3.params.toList args.toList ds p := hA0
  rw [Try.params3] at hA hval
  obtain ⟨v0, vs0, d0, ds0, p0, q0, hargs, rfl, rfl, h0, r0⟩ := trodAll_cons hA
  obtain ⟨rfl, rfl, rfl⟩ := trodAll_nil r0
  obtain rfl : args = #[v0] := by cases args; simp_all
  obtain ⟨rfl, rfl⟩ := trodVars_none hV
  obtain ⟨Acs, ccs, cs, rfl, hrcs, hlcs, hqcs⟩ := open_rd Try.underlying22 Try.underlying5 cellsByte (hval 0 22 v0 rfl rfl) h0
  have hbcs := byte_bounds hqcs
  clear hA0 hval0
  refine (walk W cs Acs ccs hrcs hbcs hlcs).mono fun e W' ⟨he, hg⟩ => ?_
  subst he
  exact ⟨_, rfl, law_post laidOut (by kernel_rfl) rfl rfl rfl rfl rfl Try.underlying4 hW' hg⟩

/-- The statement. -/
theorem proved : Rows.FnIdleOfSaid :=
  OpenClaim.holds_of_wide 3 Try.f3 rfl rfl rfl rfl rfl rfl rfl ⟨rfl, rfl, rfl, rfl, rfl⟩ rfl rfl rfl rfl rfl (by kernel_rfl) Try.func3 (by kernel_rfl)
    (of_decide_eq_true (by kernel_rfl)) (by unfold Func.isWrapper; first | (rw [if_pos (by decide +kernel)]; kernel_rfl) | (rw [if_neg (by decide +kernel)]; exact ⟨rfl, rfl⟩))
    (fun os started H enc _ => lifted os started H enc)
#print axioms proved
end fnIdleOf

end Go.Proofs.Ytcjcdlhmhhbkgab

/- The law FnExactMergeTimes: for every argument the program answers as its model, in memory of its own; the arguments read as they read before. No condition. -/
import Derived.Test.YtcjcdlhmhhbkgabLExact
import Derived.Test.YtcjcdlhmhhbkgabLMerge
import Derived.Test.YtcjcdlhmhhbkgabLaw
namespace Go.Proofs.Ytcjcdlhmhhbkgab
open Go.RowKit
set_option linter.unusedVariables false
set_option linter.unusedSimpArgs false

namespace fnExactMergeTimes
open Go.ChangeShapes Go.WideShapes Go.ChangeAt Go.RowKit
set_option maxHeartbeats 800000 in
set_option maxRecDepth 100000 in
set_option maxHeartbeats 8000000 in
theorem walk (w : World) (zs : List Int) (Azs : Option Addr) (czs : Nat) (hrzs : Rd w w.heap.size Azs (ints zs)) (ys : List Int) (Ays : Option Addr) (cys : Nat) (hrys : Rd w w.heap.size Ays (ints ys)) :
    Calls Try.prog 11 #[.slice Azs zs.length czs, .slice Ays ys.length cys] w fun e w' => e = .returned (.bool true) ∧ Below w.heap.size w w' := by
  by_cases hnzs : zs.length ≤ 1048576
  · by_cases hnys : ys.length ≤ 1048576
    · obtain ⟨ts, hts⟩ : ∃ ts, ts = mergeT zs ys := ⟨_, rfl⟩
      have htl : ts.length ≤ 1048576 := by rw [hts]; exact Nat.le_trans (mergeT_le _ _) (by omega)
      obtain ⟨q, hq⟩ : ∃ q, q = mergeB zs ys := ⟨_, rfl⟩
      have CSP : Hid (∀ (A' A'' : Option Addr) (c' c'' : Nat) (w' : World), Rd w' w'.heap.size A' (ints zs) → Rd w' w'.heap.size A'' (ints ys) → Calls Try.prog 37 #[.slice A' zs.length c', .slice A'' ys.length c''] w' (fun e w'' => ∃ A3 c3, e = .returned (.tuple #[.slice A3 ts.length c3, .bool q]) ∧ w''.ownsRow w'.heap.size 3 1 (.slice A3 ts.length c3) ts.length (ints ts) ∧ Below w'.heap.size w' w'')) := Lib.hid fun A' A'' c' c'' w' h1 h2 => by
        rw [hts, hq]; exact sMerge_any zs ys A' A'' c' c'' w' h1 h2 hnzs hnys
      have CIM : Hid (∀ (A' A'' : Option Addr) (c' c'' : Nat) (w' : World), Rd w' w'.heap.size A' (ints zs) → Rd w' w'.heap.size A'' (ints ys) → ys.length ≤ c'' ∧ c'' ≤ maxLen → Calls Try.prog 38 #[.slice A' zs.length c', .slice A'' ys.length c''] w' (fun e w'' => ∃ A3 c3, e = .returned (.tuple #[.slice A3 ts.length c3, .bool q]) ∧ w''.ownsRow w'.heap.size 3 1 (.slice A3 ts.length c3) ts.length (ints ts) ∧ Below w'.heap.size w' w'')) := Lib.hid fun A' A'' c' c'' w' h1 h2 h3 => by
        rw [hts, hq]; exact iMerge_any zs ys A' A'' c' c'' w' h1 h2 h3
      clear hts hq
      go_enter Try.func11, Try.ntmps11
      go_wp2_with fail
      refine (toIntS_any zs _ _ w hrzs hnzs).mono ?_
      rintro e w1 ⟨A1, c1, rfl, o1, b1⟩
      have z1 := b1.size
      have hz1 := hrzs.up b1
      have hy1 := hrys.up b1
      go_wp2_with fail
      refine (toIntS_any ys _ _ w1 hy1 hnys).mono ?_
      rintro e w2 ⟨A2, c2, rfl, o2, b2⟩
      have z2 := b2.size
      have bl2 := b1.trans (b2.mono (by omega))
      have hz2 := hz1.up b2
      have hy2 := hy1.up b2
      have cS := CSP.out A1 A2 c1 c2 w2 ((Rd.ownz o1).up b2) (Rd.ownz o2)
      clear hz1 hy1 b1 b2
      go_wp2_with fail
      refine cS.mono ?_
      rintro e w3 ⟨A3, c3, rfl, o3, b3⟩
      have z3 := b3.size
      have bl3 := bl2.trans (b3.mono (by omega))
      have hz3 := hz2.up b3
      have hy3 := hy2.up b3
      have r3 := Rd.ownz o3
      clear cS o1 o2 hz2 hy2 b3 bl2 o3
      go_wp2_with fail
      refine (toIntS_any zs _ _ w3 hz3 hnzs).mono ?_
      rintro e w4 ⟨A4, c4, rfl, o4, b4⟩
      have z4 := b4.size
      have bl4 := bl3.trans (b4.mono (by omega))
      have hz4 := hz3.up b4
      have hy4 := hy3.up b4
      have r34 := r3.below b4
      clear hz3 hy3 b4 bl3 r3
      go_wp2_with fail
      refine (toIntS_any ys _ _ w4 hy4 hnys).mono ?_
      rintro e w5 ⟨A5, c5, rfl, o5, b5⟩
      have z5 := b5.size
      have bl5 := bl4.trans (b5.mono (by omega))
      have hz5 := hz4.up b5
      have hy5 := hy4.up b5
      have r35 := r34.below (b5.mono (by omega))
      have o45 := owz_below o4 b5
      have HO4 := Lib.hid (owz_lt o4)
      have HO5 := Lib.hid (owz_lt o5)
      have cI := CIM.out A4 A5 c4 c5 w5 (Rd.ownz o45) (Rd.ownz o5) (owz_cap o5)
      clear hz4 hy4 b5 bl4 r34 o4
      go_wp2_with fail
      refine cI.mono ?_
      rintro e w6 ⟨A6, c6, rfl, o6, b6⟩
      have z6 := b6.size
      have bl6 := bl5.trans (b6.mono (by omega))
      have hz6 := hz5.up b6
      have hy6 := hy5.up b6
      have r36 := r35.below (b6.mono (by omega))
      have o46 := owz_below o45 b6
      have o56 := owz_below o5 b6
      clear cI hz5 hy5 b6 bl5 r35 o45
      go_wp2_with fail
      refine (eqI_b ts _ _ _ _ w6 w6.heap.size (Rd.ownz o6) (r36.more (by omega)) htl).mono ?_
      rintro e w7 ⟨rfl, b7⟩
      have z7 := b7.size
      have bl7 := bl6.trans (b7.mono (by omega))
      have hz7 := hz6.up b7
      have hy7 := hy6.up b7
      have r37 := r36.below (b7.mono (by omega))
      have o47 := owz_below o46 b7
      have o57 := owz_below o56 b7
      have o67 := owz_below o6 b7
      clear hz6 hy6 b7 bl6 r36 o46 o56 o6
      go_wp2_with fail
      refine (toIntS_any zs _ _ w7 hz7 hnzs).mono ?_
      rintro e w8 ⟨A8, c8, rfl, o8, b8⟩
      have z8 := b8.size
      have bl8 := bl7.trans (b8.mono (by omega))
      have hz8 := hz7.up b8
      have hy8 := hy7.up b8
      have r38 := r37.below (b8.mono (by omega))
      have o48 := owz_below o47 b8
      have o58 := owz_below o57 b8
      have o68 := owz_below o67 b8
      clear hz7 hy7 b8 bl7 r37 o47 o57 o67
      go_wp2_with fail
      refine (eqI_b zs _ _ _ _ w8 _ (Rd.ownz o48) (Rd.ownz o8) hnzs).mono ?_
      rintro e w9 ⟨rfl, b9⟩
      have z9 := b9.size
      have bl9 := bl8.trans (b9.mono (by omega))
      have hz9 := hz8.up b9
      have hy9 := hy8.up b9
      have r39 := r38.below (b9.mono (by omega))
      have o49 := owz_below o48 b9
      have o59 := owz_below o58 b9
      have o69 := owz_below o68 b9
      clear hz8 hy8 b9 bl8 r38 o48 o58 o68 o8
      go_wp2_with fail
      refine (toIntS_any ys _ _ w9 hy9 hnys).mono ?_
      rintro e w10 ⟨A10, c10, rfl, o10, b10⟩
      have z10 := b10.size
      have bl10 := bl9.trans (b10.mono (by omega))
      have hz10 := hz9.up b10
      have hy10 := hy9.up b10
      have r310 := r39.below (b10.mono (by omega))
      have o410 := owz_below o49 b10
      have o510 := owz_below o59 b10
      have o610 := owz_below o69 b10
      clear hz9 hy9 b10 bl9 r39 o49 o59 o69
      go_wp2_with fail
      refine (eqI_b ys _ _ _ _ w10 _ (Rd.ownz o510) (Rd.ownz o10) hnys).mono ?_
      rintro e w11 ⟨rfl, b11⟩
      have z11 := b11.size
      have bl11 := bl10.trans (b11.mono (by omega))
      have r311 := r310.below (b11.mono (by omega))
      have o411 := owz_below o410 b11
      have o511 := owz_below o510 b11
      have o611 := owz_below o610 b11
      clear hz10 hy10 b11 bl10 r310 o410 o510 o610 o10
      go_wp2_with fail
      refine (markIntS_any _ _ A4 c4 w11 w3.heap.size o411 1 (by omega) (by omega) hnzs).mono ?_
      rintro e w12 ⟨rfl, o412, g12⟩
      have bl12 := only_below bl11 g12 (by omega) (fun k hk => by have := owz_block o411 k hk; omega)
      have z12 := g12.size
      have F12 := Lib.hid (fr_of_grown o411 HO4.out g12)
      have r312 : Rd w12 w3.heap.size A3 (ints ts) := r311.keep fun p hp => World.cell?_of_block (F12.out p.block (by omega) (.inl hp))
      have o512 := owz_far (w' := w12) o511 (fun k hk hk2 => F12.out k hk2 (.inr (by omega)))
      have o612 := owz_far (w' := w12) o611 (fun k hk hk2 => F12.out k hk2 (.inr (by omega)))
      clear g12 o412 o411 bl11 r311 o511 o611
      have k1 : 0 ≤ (1 : Int) + ((zs.length : Nat) : Int) := by omega
      have k2 : (1 : Int) + ((zs.length : Nat) : Int) ≤ 100000000 := by omega
      go_wp2_with fail
      refine (markIntS_any _ _ A5 c5 w12 w4.heap.size o512 (1 + (zs.length : Int)) k1 k2 hnys).mono ?_
      rintro e w13 ⟨rfl, o513, g13⟩
      have bl13 := only_below bl12 g13 (by omega) (fun k hk => by have := owz_block o512 k hk; omega)
      have z13 := g13.size
      have F13 := Lib.hid (fr_of_grown o512 HO5.out g13)
      have r313 : Rd w13 w3.heap.size A3 (ints ts) := r312.keep fun p hp => World.cell?_of_block (F13.out p.block (by omega) (.inl (by omega)))
      have o613 := owz_far (w' := w13) o612 (fun k hk hk2 => F13.out k hk2 (.inr (by omega)))
      have k3 : ¬ ((1 : Int) + ((zs.length : Nat) : Int) + ((ys.length : Nat) : Int)) < 0 := by omega
      clear g13 o513 o512 bl12 r312 o612
      go_wp2_with fail
      refine (eqI_b ts _ _ _ _ w13 w13.heap.size (Rd.ownz o613) (r313.more (by omega)) htl).mono ?_
      rintro e w14 ⟨rfl, b14⟩
      have z14 := b14.size
      have bl14 := bl13.trans (b14.mono (by omega))
      have r314 := r313.below (b14.mono (by omega))
      have o614 := owz_below o613 b14
      clear b14 bl13 r313 o613
      go_wp2_with fail
      refine (markIntS_any _ _ _ _ w14 w5.heap.size o614 1 (by omega) (by omega) htl).mono ?_
      rintro e w15 ⟨rfl, o615, g15⟩
      go_wp2_with fail
      refine (heldIntS_any _ _ _ _ _ 1 (Rd.ownz o615) (by omega) (by omega) htl).mono ?_
      rintro e w' ⟨rfl, rfl⟩
      have z15 := g15.size
      have bl15 := only_below bl14 g15 (by omega) (fun k hk => by have := owz_block o614 k hk; omega)
      have LW : Hid (∀ k, k < w3.heap.size → w15.heap[k]? = w14.heap[k]?) := Lib.hid (fun k hk => g15.block k (by omega) (fun e => by have := owz_block o614 k e.symm; omega))
      have r315 : Rd w15 w3.heap.size A3 (ints ts) := r314.keep fun p hp => World.cell?_of_block (LW.out _ hp)
      have hz15 := hrzs.up bl15
      have hy15 := hrys.up bl15
      clear r314 o614 bl14 g15
      go_wp2_with fail
      refine (toIntS_any zs _ _ w15 hz15 hnzs).mono ?_
      rintro e w16 ⟨A16, c16, rfl, o16, b16⟩
      have z16 := b16.size
      have bl16 := bl15.trans (b16.mono (by omega))
      have hz16 := hz15.up b16
      have hy16 := hy15.up b16
      have r316 := r315.below (b16.mono (by omega))
      have o616 := owz_below o615 b16
      clear hz15 hy15 b16 bl15 r315 o615
      go_wp2_with fail
      refine (toIntS_any ys _ _ w16 hy16 hnys).mono ?_
      rintro e w17 ⟨A17, c17, rfl, o17, b17⟩
      have z17 := b17.size
      have bl17 := bl16.trans (b17.mono (by omega))
      have r317 := r316.below (b17.mono (by omega))
      have o617 := owz_below o616 b17
      have cJ := CIM.out A16 A17 c16 c17 w17 (Rd.ownz (owz_below o16 b17)) (Rd.ownz o17) (owz_cap o17)
      clear hz16 hy16 b17 bl16 r316 o616 o16
      go_wp2_with fail
      refine cJ.mono ?_
      rintro e w18 ⟨A18, c18, rfl, o18, b18⟩
      have z18 := b18.size
      have bl18 := bl17.trans (b18.mono (by omega))
      have r318 := r317.below (b18.mono (by omega))
      have o618 := owz_below o617 b18
      clear cJ b18 bl17 r317 o617 o17
      go_wp2_with fail
      refine (eqI_b ts _ _ _ _ w18 w18.heap.size (Rd.ownz o18) (r318.more (by omega)) htl).mono ?_
      rintro e w19 ⟨rfl, b19⟩
      have o619 := owz_below o618 b19
      have bl19 := bl18.trans (b19.mono (by omega))
      clear o618 r318 bl18 o18 b19
      go_wp2_with fail
      refine (heldIntS_any _ _ _ _ _ 1 (Rd.ownz o619) (by omega) (by omega) htl).mono ?_
      rintro e w' ⟨rfl, rfl⟩
      cases q
      all_goals
        go_wp2
        go_ret
        exact ⟨rfl, bl19⟩
    · have hn' : 1048576 < ys.length := by omega
      go_enter Try.func11, Try.ntmps11
      go_wp2
      go_ret
      exact ⟨rfl, Below.refl _ _⟩
  · have hn' : 1048576 < zs.length := by omega
    go_enter Try.func11, Try.ntmps11
    go_wp2
    go_ret
    exact ⟨rfl, Below.refl _ _⟩

set_option maxRecDepth 100000 in
theorem lifted (os : Os) (started : os.Started) (H : Type) (enc : TypeId × Value → H) :
    ReturnsInHanded {} Try.checked os 11 .any (Rows.fnExactMergeTimesSpec.pre6 enc Try.prog Try.f11 Rows.fnExactMergeTimesRow.domain false) (Rows.fnExactMergeTimesSpec.post enc Try.prog Try.f11 false true false false) := by
  refine returnsInHanded_of_change (C := Try.checked) ownNone started (by kernel_rfl) Try.func11
    (ChangeSpec.witness6 (enc := enc) (C := Try.checked) false ⟨#[], #[.slice none 0 0, .slice none 0 0], []⟩ 8 (by kernel_rfl) (by kernel_rfl) (by kernel_rfl) (by kernel_rfl)) ?_
  intro W base args ds gs before hval0 hW hcnd _
  have hval : ∀ (j : Nat) t v, Try.f11.params[j]? = some t → args[j]? = some v → Value.okWide Try.prog W .any base t v := hval0
  have hW' := hW
  obtain ⟨p, q, hA0, hV, rfl, _, _⟩ := hW
  have hA : DataW.TrodAll enc Try.prog W 0 (fun _ => true) true Try.f11.params.toList args.toList ds p := hA0
  rw [Try.params11] at hA hval
  obtain ⟨v0, vs0, d0, ds0, p0, q0, hargs, rfl, rfl, h0, r0⟩ := trodAll_cons hA
  obtain ⟨v1, vs1, d1, ds1, p1, q1, rfl, rfl, rfl, h1, r1⟩ := trodAll_cons r0
  obtain ⟨rfl, rfl, rfl⟩ := trodAll_nil r1
  obtain rfl : args = #[v0, v1] := by cases args; simp_all
  obtain ⟨rfl, rfl⟩ := trodVars_none hV
  obtain ⟨Azs, czs, zs, rfl, hrzs, _, _⟩ := open_rd Try.underlying23 Try.underlying3 cellsInt (hval 0 23 v0 rfl rfl) h0
  obtain ⟨Ays, cys, ys, rfl, hrys, _, _⟩ := open_rd Try.underlying23 Try.underlying3 cellsInt (hval 1 23 v1 rfl rfl) h1
  clear hA0 hval0
  refine (walk W zs Azs czs hrzs ys Ays cys hrys).mono fun e W' ⟨he, hg⟩ => ?_
  subst he
  exact ⟨_, rfl, law_post laidOut (by kernel_rfl) rfl rfl rfl rfl rfl Try.underlying4 hW' hg⟩

/-- The statement. -/
theorem proved : Rows.FnExactMergeTimesSaid :=
  OpenClaim.holds_of_wide 11 Try.f11 rfl rfl rfl rfl rfl rfl rfl ⟨rfl, rfl, rfl, rfl, rfl⟩ rfl rfl rfl rfl rfl (by kernel_rfl) Try.func11 (by kernel_rfl)
    (of_decide_eq_true (by kernel_rfl)) (by unfold Func.isWrapper; first | (rw [if_pos (by decide +kernel)]; kernel_rfl) | (rw [if_neg (by decide +kernel)]; exact ⟨rfl, rfl⟩))
    (fun os started H enc _ => lifted os started H enc)
#print axioms proved
end fnExactMergeTimes

end Go.Proofs.Ytcjcdlhmhhbkgab

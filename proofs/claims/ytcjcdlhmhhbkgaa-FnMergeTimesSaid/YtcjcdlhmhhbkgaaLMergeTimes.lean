/- The law FnMergeTimes: for every code it answers true, and the code reads as it read before. No condition. -/
import Derived.Test.YtcjcdlhmhhbkgaaLLaw
import Derived.Test.YtcjcdlhmhhbkgaaLMerge
import Derived.Test.YtcjcdlhmhhbkgaaLDrawsB
import Derived.Test.YtcjcdlhmhhbkgaaLaw
namespace Go.Proofs.Ytcjcdlhmhhbkgaa
open Go.RowKit
set_option linter.unusedVariables false
set_option linter.unusedSimpArgs false

namespace fnMergeTimes
open Go.ChangeShapes Go.WideShapes Go.ChangeAt Go.RowKit
set_option maxHeartbeats 800000 in
set_option maxRecDepth 100000 in
set_option maxHeartbeats 8000000 in
theorem walk (w : World) (cs : List Int) (Acs : Option Addr) (ccs : Nat) (hrcs : Rd w w.heap.size Acs (bytes cs)) (hbcs : ∀ z ∈ cs, 0 ≤ z ∧ z ≤ 255) (hlcs : cs.length ≤ ccs ∧ ccs ≤ maxLen) :
    Calls Try.prog 12 #[.slice Acs cs.length ccs] w fun e w' => e = .returned (.bool true) ∧ Below w.heap.size w w' := by
  by_cases hn : cs.length ≤ 1048576
  · go_enter Try.func12, Try.ntmps12
    go_wp2_with fail
    refine (dMergeTimes _ _ _ _ hrcs hbcs hlcs.1 hlcs.2).mono ?_
    rintro e w1 ⟨zs, Azs, czs, ys, Ays, cys, rfl, ⟨hlzs, hrzs, hczs, hmzs⟩, ⟨hlys, hrys, hcys, hmys⟩, b1⟩
    have hn1 : zs.length ≤ 1048576 := by omega
    have hn2 : ys.length ≤ 1048576 := by omega
    obtain ⟨ts, hts⟩ : ∃ ts, ts = mergeT zs ys := ⟨_, rfl⟩
    have htl : ts.length ≤ 1048576 := by rw [hts]; exact Nat.le_trans (mergeT_le _ _) (by omega)
    obtain ⟨q, hq⟩ : ∃ q, q = mergeB zs ys := ⟨_, rfl⟩
    have HTS := Lib.hid hts
    have HQ := Lib.hid hq
    clear hts hq
    have cI : Calls Try.prog 42 #[.slice Azs zs.length czs, .slice Ays ys.length cys] w1 (fun e w' => ∃ A' c', e = .returned (.tuple #[.slice A' ts.length c', .bool q]) ∧ w'.ownsRow w1.heap.size 3 1 (.slice A' ts.length c') ts.length (ints ts) ∧ Below w1.heap.size w1 w') := by
      rw [HTS.out, HQ.out]; exact iMerge_any zs ys Azs Ays czs cys w1 hrzs hrys ⟨hcys, hmys⟩
    go_wp2_with fail
    refine (cI).mono ?_
    rintro e w2 ⟨A2, c2, rfl, o2, b2⟩
    have hrz2 := hrzs.up b2
    have hry2 := hrys.up b2
    have cS : Calls Try.prog 43 #[.slice Azs zs.length czs, .slice Ays ys.length cys] w2 (fun e w' => ∃ A' c', e = .returned (.tuple #[.slice A' ts.length c', .bool q]) ∧ w'.ownsRow w2.heap.size 3 1 (.slice A' ts.length c') ts.length (ints ts) ∧ Below w2.heap.size w2 w') := by
      rw [HTS.out, HQ.out]; exact sMerge_any zs ys Azs Ays czs cys w2 hrz2 hry2 hn1 hn2
    clear cI
    go_wp2_with fail
    refine (cS).mono ?_
    rintro e w3 ⟨A3, c3, rfl, o3, b3⟩
    have hrz3 := hrz2.up b3
    have hry3 := hry2.up b3
    have r23 := (Rd.own o2).up b3
    have r33 := Rd.own o3
    have bl3 : Below w.heap.size w w3 := (b1.trans (b2.mono b1.size)).trans (b3.mono (by have := b1.size; have := b2.size; omega))
    clear cS
    have hc2 := own_cap o2
    go_wp2_with fail
    refine (eqT_b ts A2 A3 c2 c3 w3 w3.heap.size r23 r33 htl).mono ?_
    rintro e w4 ⟨rfl, b4⟩
    have hrz4 := hrz3.up b4
    have hry4 := hry3.up b4
    have r24 := r23.up b4
    have r34 := r33.up b4
    have bl4 := bl3.trans (b4.mono bl3.size)
    clear o2 o3 b1 b2 b3 b4 hrzs hrys hrz2 hry2 hrz3 hry3 r23 r33 bl3
    cases q
    · skip
      go_wp2_with fail
      refine (eqT_b ts A2 A3 c2 c3 w4 w4.heap.size r24 r34 htl).mono ?_
      rintro e w5 ⟨rfl, b5⟩
      have bl5 := bl4.trans (b5.mono bl4.size)
      clear b5 r24 r34 hrz4 hry4 bl4
      go_wp2
      go_ret
      exact ⟨rfl, bl5⟩
    · obtain ⟨hTa, hTb, hlen⟩ := mergeB_t HQ.out.symm
      have e : ts = mg zs ys := by rw [HTS.out, mergeT_ok HQ.out.symm]
      have HE := Lib.hid e
      have HTA := Lib.hid hTa
      have HTB := Lib.hid hTb
      have HTT : Hid (TimesP ts) := Lib.hid (by rw [HE.out]; exact mg_times hTa hTb hlen)
      have htl2 : ts.length = zs.length + ys.length := by rw [e, mg_length]
      have HL := Lib.hid htl2
      clear e hTa hTb htl2
      have HC : Hid (mergeT ys zs = ts ∧ mergeB ys zs = true) := Lib.hid (by
        have h : mergeB ys zs = true := by unfold mergeB; rw [timesB_mk HTB.out, timesB_mk HTA.out, decide_eq_true (show ys.length + zs.length ≤ 40 by omega)]; rfl
        exact ⟨by rw [mergeT_ok h, HE.out, mg_comm HTA.out HTB.out], h⟩)
      have cO : Calls Try.prog 42 #[.slice Ays ys.length cys, .slice Azs zs.length czs] w4 (fun e w' => ∃ A' c', e = .returned (.tuple #[.slice A' ts.length c', .bool true]) ∧ w'.ownsRow w4.heap.size 3 1 (.slice A' ts.length c') ts.length (ints ts) ∧ Below w4.heap.size w4 w') := by
        rw [← HC.out.1, ← HC.out.2]; exact iMerge_any ys zs Ays Azs cys czs w4 hry4 hrz4 ⟨hczs, hmzs⟩
      go_wp2_with fail
      refine (cO).mono ?_
      rintro e w5 ⟨A5, c5, rfl, o5, b5⟩
      have hrz5 := hrz4.up b5
      have hry5 := hry4.up b5
      have r25 := r24.up b5
      have r55 := Rd.own o5
      have bl5 := bl4.trans (b5.mono bl4.size)
      clear cO o5 b5 r24 r34 hrz4 hry4 bl4
      go_wp2_with fail
      refine (eqT_b ts A5 A2 c5 c2 w5 w5.heap.size r55 r25 htl).mono ?_
      rintro e w6 ⟨rfl, b6⟩
      have hrz6 := hrz5.up b6
      have hry6 := hry5.up b6
      have r26 := r25.up b6
      have bl6 := bl5.trans (b6.mono bl5.size)
      clear b6 r25 r55 hrz5 hry5 bl5
      go_wp2_with fail
      refine (iVT_ok ts ts.length rfl A2 c2 _ _ r26 HTT.out).mono ?_
      rintro e w' ⟨rfl, rfl⟩
      have h40 := HTT.out.len
      have s1 := times_sum HTT.out
      have s2 := times_sum HTA.out
      have s3 := times_sum HTB.out
      have HS : Hid (ts.sum = zs.sum + ys.sum) := Lib.hid (by rw [HE.out, mg_sum])
      have cT1 := totalB_any ts.length ts rfl A2 c2 w6 _ r26 (fun k hk => by have := HTT.out.bd k hk; omega) (by omega)
      have cT2 := totalB_any zs.length zs rfl Azs czs w6 _ hrz6 (fun k hk => by have := HTA.out.bd k hk; omega) (by omega)
      have cT3 := totalB_any ys.length ys rfl Ays cys w6 _ hry6 (fun k hk => by have := HTB.out.bd k hk; omega) (by omega)
      rw [HS.out] at cT1 s1
      generalize zs.sum = S1 at *
      generalize ys.sum = S2 at *
      have hle : ((ts.length : Nat) : Int) = (zs.length : Int) + (ys.length : Int) := by have := HL.out; omega
      have hlb : (((ts.length : Nat) : Int) == (zs.length : Int) + (ys.length : Int)) = true := beq_iff_eq.2 hle
      clear hle
      go_wp2_with fail
      refine (cT1).mono ?_
      rintro e w' ⟨rfl, rfl⟩
      go_wp2_with fail
      refine (cT2).mono ?_
      rintro e w' ⟨rfl, rfl⟩
      go_wp2_with fail
      refine (cT3).mono ?_
      rintro e w' ⟨rfl, rfl⟩
      clear cT1 cT2 cT3
      go_wp2
      go_ret
      exact ⟨rfl, bl6⟩
  · have hn' : 1048576 < cs.length := by omega
    go_enter Try.func12, Try.ntmps12
    go_wp2
    go_ret
    exact ⟨rfl, Below.refl _ _⟩

set_option maxRecDepth 100000 in
theorem lifted (os : Os) (started : os.Started) (H : Type) (enc : TypeId × Value → H) :
    ReturnsInHanded {} Try.checked os 12 .any (Rows.fnMergeTimesSpec.pre6 enc Try.prog Try.f12 Rows.fnMergeTimesRow.domain false) (Rows.fnMergeTimesSpec.post enc Try.prog Try.f12 false true false false) := by
  refine returnsInHanded_of_change (C := Try.checked) ownNone started (by kernel_rfl) Try.func12
    (ChangeSpec.witness6 (enc := enc) (C := Try.checked) false ⟨#[], #[.slice none 0 0], []⟩ 8 (by kernel_rfl) (by kernel_rfl) (by kernel_rfl) (by kernel_rfl)) ?_
  intro W base args ds gs before hval0 hW hcnd _
  have hval : ∀ (j : Nat) t v, Try.f12.params[j]? = some t → args[j]? = some v → Value.okWide Try.prog W .any base t v := hval0
  have hW' := hW
  obtain ⟨p, q, hA0, hV, rfl, _, _⟩ := hW
  have hA : DataW.TrodAll enc Try.prog W 0 (fun _ => true) true Try.f12.params.toList args.toList ds p := hA0
  rw [Try.params12] at hA hval
  obtain ⟨v0, vs0, d0, ds0, p0, q0, hargs, rfl, rfl, h0, r0⟩ := trodAll_cons hA
  obtain ⟨rfl, rfl, rfl⟩ := trodAll_nil r0
  obtain rfl : args = #[v0] := by cases args; simp_all
  obtain ⟨rfl, rfl⟩ := trodVars_none hV
  obtain ⟨Acs, ccs, cs, rfl, hrcs, hlcs, hqcs⟩ := open_rd Try.underlying22 Try.underlying5 cellsByte (hval 0 22 v0 rfl rfl) h0
  have hbcs := byte_bounds hqcs
  clear hA0 hval0
  refine (walk W cs Acs ccs hrcs hbcs hlcs).mono fun e W' ⟨he, hg⟩ => ?_
  subst he
  exact ⟨_, rfl, law_post laidOut (by kernel_rfl) rfl rfl rfl rfl rfl Try.underlying4 hW' hg⟩

/-- The statement. -/
theorem proved : Rows.FnMergeTimesSaid :=
  OpenClaim.holds_of_wide 12 Try.f12 rfl rfl rfl rfl rfl rfl rfl ⟨rfl, rfl, rfl, rfl, rfl⟩ rfl rfl rfl rfl rfl (by kernel_rfl) Try.func12 (by kernel_rfl)
    (of_decide_eq_true (by kernel_rfl)) (by unfold Func.isWrapper; first | (rw [if_pos (by decide +kernel)]; kernel_rfl) | (rw [if_neg (by decide +kernel)]; exact ⟨rfl, rfl⟩))
    (fun os started H enc _ => lifted os started H enc)
#print axioms proved
end fnMergeTimes

end Go.Proofs.Ytcjcdlhmhhbkgaa

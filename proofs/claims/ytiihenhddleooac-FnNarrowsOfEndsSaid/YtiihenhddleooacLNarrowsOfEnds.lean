/- The law FnNarrowsOfEnds: for every code it answers true, and the code reads as it read before. No condition. -/
import Derived.Test.YtiihenhddleooacLawM
import Derived.Test.YtiihenhddleooacHelps
import Derived.Test.YtiihenhddleooacNIsIn
import Derived.Test.YtiihenhddleooacGEnds
import Derived.Test.YtiihenhddleooacPDraws
import Derived.Test.YtiihenhddleooacLaw
namespace Go.Proofs.Ytiihenhddleooac
open Go.RowKit
set_option linter.unusedVariables false
set_option linter.unusedSimpArgs false

namespace fnNarrowsOfEnds
open Go.ChangeShapes Go.WideShapes Go.ChangeAt Go.RowKit
set_option maxRecDepth 100000 in
set_option maxHeartbeats 800000 in
set_option maxRecDepth 100000 in
set_option maxRecDepth 100000 in
set_option maxHeartbeats 8000000 in
theorem walk (w : World) (cs : List Int) (Acs : Option Addr) (ccs : Nat) (hrcs : Rd w w.heap.size Acs (bytes cs)) (hbcs : ∀ z ∈ cs, 0 ≤ z ∧ z ≤ 255) (hlcs : cs.length ≤ ccs ∧ ccs ≤ maxLen) :
    Calls Try.prog 6 #[.slice Acs cs.length ccs] w fun e w' => e = .returned (.bool true) ∧ Below w.heap.size w w' := by
  by_cases hn : cs.length ≤ 1048576
  · go_enter Try.func6, Try.ntmps6
    go_wp2_with fail
    refine (dNarrowsOf _ _ _ _ hrcs hbcs hlcs.1 hlcs.2).mono ?_
    rintro e w1 ⟨pp, Ap, cp, load, rfl, ⟨hpl, hpc, hcm, hg⟩, hbload, b1⟩
    have hn1 : pp.length ≤ 1048576 := by omega
    go_wp2_with fail
    refine (iNar_ans pp Ap cp w1 load hg).mono ?_
    rintro e w2 ⟨ts, hts, htl, A2, c2, rfl, o2, b2⟩
    have hg2 := (hg.below b2).more b2.size
    go_wp2_with fail
    refine (sNar_ans pp Ap cp w2 load hg2 hn1).mono ?_
    rintro e w3 ⟨us, hus, hul, A3, c3, rfl, o3, b3⟩
    obtain rfl : ts = us := NarR.uniq hts hus
    have HTS := Lib.hid hts
    have hg3 := (hg2.below b3).more b3.size
    have r23 := ((Rd.own o2).below b3).more b3.size
    have o23 := own_below o2 b3
    have bl3 : Below w.heap.size w w3 := (b1.trans (b2.mono b1.size)).trans (b3.mono (by have := b1.size; have := b2.size; omega))
    go_wp2_with fail
    refine (equalInts_same ts A2 A3 c2 c3 w3 w3.heap.size r23 (Rd.own o3) htl).mono ?_
    rintro e w' ⟨rfl, n4, rfl⟩
    have hg4 : RdG (w3.drewN n4) (w3.drewN n4).heap.size Ap pp := hg3.drewN n4
    have bl4 : Below w.heap.size w (w3.drewN n4) := below_drewN bl3 n4
    have r24 : Rd (w3.drewN n4) (w3.drewN n4).heap.size A2 (ints ts) := r23
    have o24 : (w3.drewN n4).ownsRow w1.heap.size 3 1 (.slice A2 ts.length c2) ts.length (ints ts) := o23
    clear hus hul hts o2 o3 b1 b2 b3 hg hg2 r23 o23
    cases hv : pondB pp
    · have cv := iVal_is pp Ap cp (w3.drewN n4) _ hg4 hv
      clear hv
      go_wp2_with fail
      refine (cv).mono ?_
      rintro e w' ⟨rfl, rfl⟩
      clear cv
      go_wp2_with fail
      refine (sNar_ans pp Ap cp (w3.drewN n4) load hg4 hn1).mono ?_
      rintro e w5 ⟨us, hus, hul, A5, c5, rfl, o5, b5⟩
      obtain rfl : ts = us := NarR.uniq HTS.out hus
      go_wp2_with fail
      refine (equalInts_same ts A2 A5 c2 c5 w5 w5.heap.size ((r24.below b5).more b5.size) (Rd.own o5) htl).mono ?_
      rintro e w' ⟨rfl, n6, rfl⟩
      have bl5 := below_drewN (bl4.trans (b5.mono bl4.size)) n6
      clear hus o5 b5
      go_wp2
      go_ret
      exact ⟨rfl, bl5⟩
    · have cv := iVal_is pp Ap cp (w3.drewN n4) _ hg4 hv
      go_wp2_with fail
      refine (cv).mono ?_
      rintro e w' ⟨rfl, rfl⟩
      clear cv
      have hc := pond_cnt hv
      have hl := pond_len hv
      have HV := Lib.hid hv
      clear hv
      go_wp2_with fail
      refine (iFields_ans pp Ap cp (w3.drewN n4) load hg4).mono ?_
      intro e w5 h5
      obtain ⟨fs, A5, c5, hlab, rfl, o5, b5⟩ := fields_out h5 HV.out
      obtain ⟨g5, rfl, hg5a, hg5b, _, _⟩ := own_some o5 (by omega)
      have hfl := hlab.len
      have HLB := Lib.hid hlab
      have hg5 := (hg4.below b5).more b5.size
      go_wp2_with fail
      refine (iSizes_ans pp Ap cp w5 load hg5).mono ?_
      rintro e w6 ⟨ss, hss, hsl, A6, c6, rfl, o6, b6⟩
      have HSS := Lib.hid hss
      have b56 : Below (w3.drewN n4).heap.size (w3.drewN n4) w6 := b5.trans (b6.mono b5.size)
      have r26 := (r24.below b56).more b56.size
      have BL6 := Lib.hid (bl4.trans (b56.mono bl4.size))
      have HCF : Hid (∀ wr, Below w6.heap.size w6 wr → ∀ k, k < cnt pp → wr.cell? ⟨g5, k, none⟩ = some (.int .i64 (at_ fs k))) := Lib.hid fun wr hb k hk => by
        have := own_cell o5 (ints_at' (zs := fs) (k := k) (by rw [hfl]; exact hk))
        exact ((b6.trans (hb.mono b6.size)).cell (p := ⟨g5, k, none⟩) (by exact hg5b)).trans this
      have HRS : Hid (∀ wr, Below w6.heap.size w6 wr → Rd wr wr.heap.size A6 (ints ss)) := Lib.hid fun wr hb => ((Rd.own o6).below hb).more hb.size
      have HR : Hid (∀ wr, Below w6.heap.size w6 wr → Rd wr wr.heap.size A2 (ints ts)) := Lib.hid fun wr hb => (r26.below hb).more hb.size
      clear h5 o5 o6 b5 b6 b56 r26 hg5 hss hg3 hg4 bl3 bl4 r24 o24 hlab
      obtain ⟨N, hN⟩ : ∃ N, N = ss.length := ⟨_, rfl⟩
      have HN := Lib.hid hN
      rw [← hN] at hsl ⊢
      clear hN
      go_wp2
      go_loopw [8] (fun i wr => ∃ k : Nat, k ≤ N ∧ i = .int .i64 k ∧ Below w6.heap.size w6 wr) (fun i _ => N - (intOf i).toNat)
      case atStart => exact ⟨0, Nat.zero_le _, rfl, Below.refl _ _⟩
      case round =>
        obtain ⟨k, hk, rfl, hbel⟩ := hrel
        have HB := Lib.hid hbel
        clear hbel
        by_cases hlt : k < N
        · go_wp2
          go_loopw [9, 10] (fun n i wr => ∃ j : Nat, j ≤ cnt pp ∧ n = .int .i64 (cntP (endP fs ts k) j : Nat) ∧ i = .int .i64 j ∧ Below w6.heap.size w6 wr) (fun _ i _ => cnt pp - (intOf i).toNat)
          case atStart => exact ⟨0, Nat.zero_le _, rfl, rfl, HB.out⟩
          case round =>
            obtain ⟨j, hj, rfl, rfl, hbel⟩ := hrel
            have HB2 := Lib.hid hbel
            clear hbel
            have hcl := cntP_le (endP fs ts k) j
            by_cases hjt : j < cnt pp
            · have hcell := HCF.out wr HB2.out j hjt
              have hnx := cntP_succ (endP fs ts k) j
              have hE : endP fs ts k j = (decide (at_ fs j = (k : Int)) && !memB ts (j : Int)) := rfl
              generalize at_ fs j = x at *
              by_cases he : x = (k : Int)
              · have heq : (x == (k : Int)) = true := beq_iff_eq.2 he
                rw [decide_eq_true he, Bool.true_and] at hE
                have cIn := isIn_any ts.length htl ts rfl A2 c2 wr _ (HR.out wr HB2.out) (j : Int)
                cases hm : memB ts (j : Int)
                · rw [hm] at hE cIn
                  rw [hE] at hnx
                  have HNX := Lib.hid hnx
                  clear hnx hE hm
                  generalize cntP (endP fs ts k) j = q at *
                  go_wp2_with fail
                  refine (cIn).mono ?_
                  rintro e w' ⟨rfl, rfl⟩
                  clear cIn
                  go_wp2
                  go_roundw
                  case rel => exact ⟨j + 1, by omega, by rw [HNX.out]; go_num, by go_num, HB2.out⟩
                  case measure => simp [intOf]; omega
                · rw [hm] at hE cIn
                  rw [hE] at hnx
                  have HNX := Lib.hid hnx
                  clear hnx hE hm
                  generalize cntP (endP fs ts k) j = q at *
                  go_wp2_with fail
                  refine (cIn).mono ?_
                  rintro e w' ⟨rfl, rfl⟩
                  clear cIn
                  go_wp2
                  go_roundw
                  case rel => exact ⟨j + 1, by omega, by rw [HNX.out]; rfl, by go_num, HB2.out⟩
                  case measure => simp [intOf]; omega
              · have heq : (x == (k : Int)) = false := beq_eq_false_iff_ne.2 he
                rw [decide_eq_false he, Bool.false_and] at hE
                rw [hE] at hnx
                have HNX := Lib.hid hnx
                clear hnx hE
                generalize cntP (endP fs ts k) j = q at *
                go_wp2
                go_roundw
                case rel => exact ⟨j + 1, by omega, by rw [HNX.out]; rfl, by go_num, HB2.out⟩
                case measure => simp [intOf]; omega
            · obtain rfl : j = cnt pp := by omega
              have hen := ends_enough HV.out HTS.out HSS.out HLB.out (c := k) (by rw [← HN.out]; exact hlt)
              obtain ⟨b, off, s, rfl, _, hs, hcs⟩ := (HRS.out wr HB2.out).int_ (k := k) (by rw [← HN.out]; exact hlt)
              rw [at_of hs.out] at hen
              generalize cntP (endP fs ts k) (cnt pp) = q at *
              have hmin : decide ((q : Int) < min 2 s) = false := decide_eq_false (by omega)
              go_wp2
              go_roundw
              case rel => exact ⟨k + 1, by omega, by go_num, HB2.out⟩
              case measure => simp [intOf]; omega
        · obtain rfl : k = N := by omega
          go_wp2
          go_ret
          exact ⟨rfl, BL6.out.trans (HB.out.mono BL6.out.size)⟩
  · have hn' : 1048576 < cs.length := by omega
    go_enter Try.func6, Try.ntmps6
    go_wp2
    go_ret
    exact ⟨rfl, Below.refl _ _⟩

set_option maxRecDepth 100000 in
theorem lifted (os : Os) (started : os.Started) (H : Type) (enc : TypeId × Value → H) :
    ReturnsInHanded {} Try.checked os 6 .any (Rows.fnNarrowsOfEndsSpec.pre6 enc Try.prog Try.f6 Rows.fnNarrowsOfEndsRow.domain false) (Rows.fnNarrowsOfEndsSpec.post enc Try.prog Try.f6 false true false false) := by
  refine returnsInHanded_of_change (C := Try.checked) ownNone started (by kernel_rfl) Try.func6
    (ChangeSpec.witness6 (enc := enc) (C := Try.checked) false ⟨#[], #[.slice none 0 0], []⟩ 8 (by kernel_rfl) (by kernel_rfl) (by kernel_rfl) (by kernel_rfl)) ?_
  intro W base args ds gs before hval0 hW hcnd _
  have hval : ∀ (j : Nat) t v, Try.f6.params[j]? = some t → args[j]? = some v → Value.okWide Try.prog W .any base t v := hval0
  have hW' := hW
  obtain ⟨p, q, hA0, hV, rfl, _, _⟩ := hW
  have hA : DataW.TrodAll enc Try.prog W 0 (fun _ => true) true Try.f6.params.toList args.toList ds p := hA0
  rw [Try.params6] at hA hval
  obtain ⟨v0, vs0, d0, ds0, p0, q0, hargs, rfl, rfl, h0, r0⟩ := trodAll_cons hA
  obtain ⟨rfl, rfl, rfl⟩ := trodAll_nil r0
  obtain rfl : args = #[v0] := by cases args; simp_all
  obtain ⟨rfl, rfl⟩ := trodVars_none hV
  obtain ⟨Acs, ccs, cs, rfl, hrcs, hlcs, hqcs⟩ := open_rd Try.underlying22 Try.underlying5 cellsByte (hval 0 22 v0 rfl rfl) h0
  have hbcs := byte_bounds hqcs
  clear hA0 hval0
  refine (walk W cs Acs ccs hrcs hbcs hlcs).mono fun e W' ⟨he, hg⟩ => ?_
  subst he
  exact ⟨_, rfl, law_post laidOut (by kernel_rfl) rfl rfl rfl rfl rfl Try.underlying4 hW' hg⟩

/-- The statement. -/
theorem proved : Rows.FnNarrowsOfEndsSaid :=
  OpenClaim.holds_of_wide 6 Try.f6 rfl rfl rfl rfl rfl rfl rfl ⟨rfl, rfl, rfl, rfl, rfl⟩ rfl rfl rfl rfl rfl (by kernel_rfl) Try.func6 (by kernel_rfl)
    (of_decide_eq_true (by kernel_rfl)) (by unfold Func.isWrapper; first | (rw [if_pos (by decide +kernel)]; kernel_rfl) | (rw [if_neg (by decide +kernel)]; exact ⟨rfl, rfl⟩))
    (fun os started H enc _ => lifted os started H enc)
#print axioms proved
end fnNarrowsOfEnds

end Go.Proofs.Ytiihenhddleooac

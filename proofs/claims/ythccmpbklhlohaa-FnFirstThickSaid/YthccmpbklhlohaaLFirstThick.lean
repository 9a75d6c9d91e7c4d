/- The law FnFirstThick: for every code it answers true, and the code reads as it read before. No condition. -/
import Derived.Test.YthccmpbklhlohaaThks
import Derived.Test.YthccmpbklhlohaaDraws
import Derived.Test.YthccmpbklhlohaaLaw
namespace Go.Proofs.Ythccmpbklhlohaa
open Go.RowKit
set_option linter.unusedVariables false
set_option linter.unusedSimpArgs false

theorem firstGe_cases (need : Int) (l : List Int) (i : Nat) :
    firstGe need l i = -1 ∨ ∃ (k : Nat) (t : Int), firstGe need l i = ((i + k : Nat) : Int) ∧ l[k]? = some t ∧ need ≤ t ∧ ∀ u ∈ l.take k, u < need := by
  induction l generalizing i with
  | nil => exact .inl rfl
  | cons x l ih =>
    by_cases hx : need ≤ x
    · exact .inr ⟨0, x, if_pos hx, rfl, hx, by simp⟩
    · have e : firstGe need (x :: l) i = firstGe need l (i + 1) := if_neg hx
      rw [e]
      rcases ih (i + 1) with h | ⟨k, t, h, ht, hn, hall⟩
      · exact .inl h
      · refine .inr ⟨k + 1, t, by rw [h]; congr 1; omega, by simpa using ht, hn, ?_⟩
        intro u hu
        rw [List.take_succ_cons, List.mem_cons] at hu
        rcases hu with hu | hu
        · omega
        · exact hall u hu

namespace fnFirstThick
open Go.ChangeShapes Go.WideShapes Go.ChangeAt Go.RowKit
set_option maxHeartbeats 800000 in
theorem walk (w : World) (cs : List Int) (Acs : Option Addr) (ccs : Nat) (hrcs : Rd w w.heap.size Acs (bytes cs)) (hbcs : ∀ z ∈ cs, 0 ≤ z ∧ z ≤ 255) (hlcs : cs.length ≤ ccs ∧ ccs ≤ maxLen) :
    Calls Try.prog 10 #[.slice Acs cs.length ccs] w fun e w' => e = .returned (.bool true) ∧ Below w.heap.size w w' := by
  by_cases hn : cs.length ≤ 1048576
  · go_enter Try.func10, Try.ntmps10
    go_wp2_with fail
    refine (dFirstThick _ _ _ _ hrcs hbcs hlcs.1 hlcs.2).mono ?_
    rintro e w1 ⟨m, zs, Az, cz, n, rfl, hm, hnn, hd, b1⟩
    obtain ⟨l12, hzb, hrz, lc, lm⟩ := hd
    have cI := iFirst_any zs Az cz w1 hrz m n
    have hF := firstGe_cases n (thicksT m zs) 0
    rw [show firstGe n (thicksT m zs) 0 = firstT m zs n from rfl] at hF
    rcases hF with hF | ⟨k, t, hF, ht, hge, hall⟩
    · rw [hF] at cI
      go_wp2_with fail
      refine cI.mono ?_
      clear cI
      rintro e w2 ⟨rfl, b2⟩
      have hrz2 := (hrz.below b2).more b2.size
      have cS := sFirst_any zs Az cz w2 _ hrz2 m n
      rw [hF] at cS
      have HF := Lib.hid hF
      clear hF
      go_wp2_with fail
      refine cS.mono ?_
      rintro e w' ⟨rfl, rfl⟩
      go_wp2_with fail
      refine cS.mono ?_
      rintro e w' ⟨rfl, rfl⟩
      clear cS
      go_wp2
      go_ret
      exact ⟨rfl, b1.trans (b2.mono b1.size)⟩
    · rw [Nat.zero_add] at hF
      have hts : (thicksT m zs).length = (thicksT m zs).length := rfl
      generalize hT : thicksT m zs = ts at *
      have HT := Lib.hid hT
      clear hT hts
      obtain ⟨hk, _⟩ := List.getElem?_eq_some_iff.1 ht
      have hlen : ts.length ≤ 200 := by have := thicksT_len m zs; rw [HT.out] at this; exact this
      have hk' : (k : Int) < (ts.length : Int) := by omega
      have Ht := Lib.hid ht
      have Hall := Lib.hid hall
      clear ht hall
      rw [hF] at cI
      go_wp2_with fail
      refine cI.mono ?_
      clear cI
      rintro e w2 ⟨rfl, b2⟩
      have hrz2 := (hrz.below b2).more b2.size
      have cS := sFirst_any zs Az cz w2 _ hrz2 m n
      rw [hF] at cS
      have HF := Lib.hid hF
      clear hF
      go_wp2_with fail
      refine cS.mono ?_
      rintro e w' ⟨rfl, rfl⟩
      clear cS
      go_wp2_with fail
      refine (iThicks_n _ _ _ HT.out _ rfl _ _ _ hrz2).mono ?_
      rintro e w3 ⟨A3, c3, rfl, o3, b3⟩
      have r3 := Rd.own o3
      clear o3
      go_wp2
      go_loop [8] (fun i => ∃ j : Nat, j ≤ k ∧ i = .int .i64 j) (fun i => k - (intOf i).toNat)
      case atStart => exact ⟨0, Nat.zero_le _, rfl⟩
      case round =>
        obtain ⟨j, hj, rfl⟩ := hrel
        by_cases hlt : j < k
        · obtain ⟨b, off, z, rfl, hb, hz, hc⟩ := r3.int_ (k := j) (by omega)
          have hless : z < n := Hall.out z (List.mem_of_getElem? (i := j) (by rw [List.getElem?_take_of_lt hlt]; exact hz.out))
          go_wp2
          go_round
          case rel => exact ⟨j + 1, by omega, by go_num⟩
          case measure => simp [intOf]; omega
        · obtain rfl : j = k := by omega
          obtain ⟨b, off, z, rfl, hb, hz, hc⟩ := r3.int_ (k := j) hk
          obtain rfl : z = t := by have h1 := hz.out; rw [Ht.out] at h1; injection h1 with h1; exact h1.symm
          go_wp2
          go_ret
          exact ⟨rfl, b1.trans ((b2.trans (b3.mono b2.size)).mono b1.size)⟩
  · have hn' : 1048576 < cs.length := by omega
    go_enter Try.func10, Try.ntmps10
    go_wp2
    go_ret
    exact ⟨rfl, Below.refl _ _⟩

set_option maxRecDepth 100000 in
theorem lifted (os : Os) (started : os.Started) (H : Type) (enc : TypeId × Value → H) :
    ReturnsInHanded {} Try.checked os 10 .any (Rows.fnFirstThickSpec.pre6 enc Try.prog Try.f10 Rows.fnFirstThickRow.domain false) (Rows.fnFirstThickSpec.post enc Try.prog Try.f10 false true false false) := by
  refine returnsInHanded_of_change (C := Try.checked) ownNone started (by kernel_rfl) Try.func10
    (ChangeSpec.witness6 (enc := enc) (C := Try.checked) false ⟨#[], #[.slice none 0 0], []⟩ 8 (by kernel_rfl) (by kernel_rfl) (by kernel_rfl) (by kernel_rfl)) ?_
  intro W base args ds gs before hval0 hW hcnd _
  have hval : ∀ (j : Nat) t v, Try.f10.params[j]? = some t → args[j]? = some v → Value.okWide Try.prog W .any base t v := hval0
  have hW' := hW
  obtain ⟨p, q, hA0, hV, rfl, _, _⟩ := hW
  have hA : DataW.TrodAll enc Try.prog W 0 (fun _ => true) true Try.f10.params.toList args.toList ds p := hA0
  rw [Try.params10] at hA hval
  obtain ⟨v0, vs0, d0, ds0, p0, q0, hargs, rfl, rfl, h0, r0⟩ := trodAll_cons hA
  obtain ⟨rfl, rfl, rfl⟩ := trodAll_nil r0
  obtain rfl : args = #[v0] := by cases args; simp_all
  obtain ⟨rfl, rfl⟩ := trodVars_none hV
  obtain ⟨Acs, ccs, cs, rfl, hrcs, hlcs, hqcs⟩ := open_rd Try.underlying22 Try.underlying5 cellsByte (hval 0 22 v0 rfl rfl) h0
  have hbcs := byte_bounds hqcs
  clear hA0 hval0
  refine (walk W cs Acs ccs hrcs hbcs hlcs).mono fun e W' ⟨he, hg⟩ => ?_
  subst he
  exact ⟨_, rfl, law_post laidOut (by kernel_rfl) rfl rfl rfl rfl rfl Try.underlying4 hW' hg⟩

/-- The statement. -/
theorem proved : Rows.FnFirstThickSaid :=
  OpenClaim.holds_of_wide 10 Try.f10 rfl rfl rfl rfl rfl rfl rfl ⟨rfl, rfl, rfl, rfl, rfl⟩ rfl rfl rfl rfl rfl (by kernel_rfl) Try.func10 (by kernel_rfl)
    (of_decide_eq_true (by kernel_rfl)) (by unfold Func.isWrapper; first | (rw [if_pos (by decide +kernel)]; kernel_rfl) | (rw [if_neg (by decide +kernel)]; exact ⟨rfl, rfl⟩))
    (fun os started H enc _ => lifted os started H enc)
#print axioms proved
end fnFirstThick

end Go.Proofs.Ythccmpbklhlohaa

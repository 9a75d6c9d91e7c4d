/- The law FnExactParseEvent: for every text the program answers as its model, in memory of its own. No condition. -/
import Derived.Test.YtggdnpaiaijhgaaBFmtL
import Derived.Test.YtggdnpaiaijhgaaLaw
namespace Go.Proofs.Ytggdnpaiaijhgaa
open Go.RowKit
set_option linter.unusedVariables false
set_option linter.unusedSimpArgs false

namespace fnExactParseEvent
open Go.ChangeShapes Go.WideShapes Go.ChangeAt Go.RowKit
set_option maxRecDepth 100000 in
set_option maxHeartbeats 800000 in
set_option maxRecDepth 100000 in
set_option maxRecDepth 100000 in
set_option maxHeartbeats 8000000 in
theorem walk (w : World) (l : List UInt8) (hll : l.length ≤ maxLen) :
    Calls Try.prog 10 #[str l] w fun e w' => e = .returned (.bool true) ∧ Below w.heap.size w w' := by
  by_cases hl0 : l.length ≤ 1048576
  · obtain ⟨e, q, HP⟩ : ∃ e q, Hid (parE l = e ∧ parB l = q) := ⟨_, _, rfl, rfl⟩
    have hno : e.ts.length ≤ 1048576 := by rw [← HP.out.1]; exact parE_len l hl0
    have cI := fun w => iPar_b l HP hl0 w
    have cS := fun w => sPar_b l HP hl0 w
    obtain ⟨ek, ts, ex, en, ep⟩ := e
    unfold PaOwn evV at cI cS
    simp only at cI cS hno
    unfold str
    have hsz : (⟨l.toArray⟩ : ByteArray).size = l.length := by simp [ByteArray.size]
    generalize (⟨l.toArray⟩ : ByteArray) = s at *
    have HI := Lib.hid cI
    have HS := Lib.hid cS
    clear cI cS HP
    cases q
    all_goals
      go_enter Try.func10, Try.ntmps10
      go_wp2_with fail
      refine (HS.out w).mono ?_
      rintro e w1 ⟨AW, cW, rfl, oW1, b1⟩
      have z1 := b1.size
      have bl1 : Below w.heap.size w w1 := (Below.refl w.heap.size w).trans (b1.mono (Nat.le_refl _))
      clear b1
      have aW1 := fun o => oW1.far (fun k h1 h2 => Below.heap_alloc w1 o k (by omega))
      go_wp2_with fail
      refine (HI.out (w1.alloc _)).mono ?_
      rintro e w2 ⟨AG, cG, rfl, oG2, b2⟩
      have z2 := b2.size
      rw [World.size_alloc] at z2
      rw [World.size_alloc] at oG2
      have oP2 := (Box5.alloc_ w1 43 (v0 := .int .i64 ek) (v1 := .slice AW ts.length cW) (v2 := .int .i64 ex) (v3 := .int .i64 en) (v4 := .int .i64 ep)).below b2 (by simp)
      have b2x := (below1 _).trans (b2.mono (below1 _).size)
      clear b2
      have bl2 : Below w.heap.size w w2 := bl1.trans (b2x.mono bl1.size)
      have oW2 := oW1.far (fun k h1 h2 => b2x.block k (by omega))
      clear aW1 oW1 bl1 b2x
      have aW2 := fun o => oW2.far (fun k h1 h2 => Below.heap_alloc w2 o k (by omega))
      have aG2 := fun o => oG2.far (fun k h1 h2 => Below.heap_alloc w2 o k (by omega))
      obtain ⟨pP0, pP1, pP2, pP3, pP4, pfP, _⟩ := id oP2
      go_wp2_with fail
      refine (eqEv_same ⟨ek, ts, ex, en, ep⟩ AG AW cG cW (w2.alloc _) (aG2 _).rd (aW2 _).rd hno).mono ?_
      rintro e w3 ⟨rfl, b3⟩
      clear pP0 pP1 pP2 pP3 pP4 pfP
      have z3 := b3.size
      rw [World.size_alloc] at z3
      have oQ3 := (Box5.alloc_ w2 43 (v0 := .int .i64 ek) (v1 := .slice AG ts.length cG) (v2 := .int .i64 ex) (v3 := .int .i64 en) (v4 := .int .i64 ep)).below b3 (by simp)
      have b3x := (below1 _).trans (b3.mono (below1 _).size)
      clear b3
      have bl3 : Below w.heap.size w w3 := bl2.trans (b3x.mono bl2.size)
      have oW3 := oW2.far (fun k h1 h2 => b3x.block k (by omega))
      have oG3 := oG2.far (fun k h1 h2 => b3x.block k (by omega))
      have oP3 := oP2.far (b3x.block _ (by omega)) (by omega)
      clear aW2 aG2 oW2 oG2 oP2 bl2 b3x
      obtain ⟨pQ0, pQ1, pQ2, pQ3, pQ4, pfQ, _⟩ := id oQ3
      go_wp2_with fail
      refine (markEv_any ⟨ek, ts, ex, en, ep⟩ _ rfl AG cG w3 _ _ (by omega) oG3 1 (by omega) (by omega) hno).mono ?_
      rintro e w4 ⟨rfl, oG4, u4⟩
      clear pQ0 pQ1 pQ2 pQ3 pQ4 pfQ
      have z4 := u4.size
      have bl4 : Below w.heap.size w w4 := u4.below bl3 (by omega) (Nat.le_refl _)
      have oW4 := oW3.far (fun k h1 h2 => u4.block k (by omega) (by omega))
      have oP4 := oP3.far (u4.block _ (by omega) (by omega)) (by omega)
      have oQ4 := oQ3.far (u4.block _ (by omega) (by omega)) (by omega)
      clear oG3 oW3 oP3 oQ3 bl3 u4
      obtain ⟨pQ0, pQ1, pQ2, pQ3, pQ4, pfQ, _⟩ := id oQ4
      go_wp2_with fail
      refine (heldEv_any ⟨ek, ts, ex, en, ep⟩ _ rfl AG cG w4 1 oG4.rd (by omega) (by omega) hno).mono ?_
      rintro e w5 ⟨rfl, b5⟩
      clear pQ0 pQ1 pQ2 pQ3 pQ4 pfQ
      have z5 := b5.size
      have bl5 : Below w.heap.size w w5 := bl4.trans (b5.mono bl4.size)
      have oW5 := oW4.far (fun k h1 h2 => b5.block k (by omega))
      have oG5 := oG4.far (fun k h1 h2 => b5.block k (by omega))
      have oP5 := oP4.far (b5.block _ (by omega)) (by omega)
      have oQ5 := oQ4.far (b5.block _ (by omega)) (by omega)
      clear oW4 oG4 oP4 oQ4 bl4 b5
      have kk : ¬ (1 + ((ts.length : Nat) : Int)) < 0 := by omega
      go_wp2_with fail
      refine (HI.out w5).mono ?_
      rintro e w6 ⟨AH, cH, rfl, oH6, b6⟩
      have z6 := b6.size
      have bl6 : Below w.heap.size w w6 := bl5.trans (b6.mono bl5.size)
      have oW6 := oW5.far (fun k h1 h2 => b6.block k (by omega))
      have oG6 := oG5.far (fun k h1 h2 => b6.block k (by omega))
      have oP6 := oP5.far (b6.block _ (by omega)) (by omega)
      have oQ6 := oQ5.far (b6.block _ (by omega)) (by omega)
      clear oW5 oG5 oP5 oQ5 bl5 b6
      have aW6 := fun o => oW6.far (fun k h1 h2 => Below.heap_alloc w6 o k (by omega))
      have aG6 := fun o => oG6.far (fun k h1 h2 => Below.heap_alloc w6 o k (by omega))
      have aH6 := fun o => oH6.far (fun k h1 h2 => Below.heap_alloc w6 o k (by omega))
      obtain ⟨pP0, pP1, pP2, pP3, pP4, pfP, _⟩ := id oP6
      go_wp2_with fail
      refine (eqEv_same ⟨ek, ts, ex, en, ep⟩ AH AW cH cW (w6.alloc _) (aH6 _).rd (aW6 _).rd hno).mono ?_
      rintro e w7 ⟨rfl, b7⟩
      clear pP0 pP1 pP2 pP3 pP4 pfP
      have z7 := b7.size
      rw [World.size_alloc] at z7
      have oR7 := (Box5.alloc_ w6 43 (v0 := .int .i64 ek) (v1 := .slice AH ts.length cH) (v2 := .int .i64 ex) (v3 := .int .i64 en) (v4 := .int .i64 ep)).below b7 (by simp)
      have b7x := (below1 _).trans (b7.mono (below1 _).size)
      clear b7
      have bl7 : Below w.heap.size w w7 := bl6.trans (b7x.mono bl6.size)
      have oW7 := oW6.far (fun k h1 h2 => b7x.block k (by omega))
      have oG7 := oG6.far (fun k h1 h2 => b7x.block k (by omega))
      have oH7 := oH6.far (fun k h1 h2 => b7x.block k (by omega))
      have oP7 := oP6.far (b7x.block _ (by omega)) (by omega)
      have oQ7 := oQ6.far (b7x.block _ (by omega)) (by omega)
      clear aW6 aG6 aH6 oW6 oG6 oH6 oP6 oQ6 bl6 b7x
      clear oH7
      clear oR7
      obtain ⟨pQ0, pQ1, pQ2, pQ3, pQ4, pfQ, _⟩ := id oQ7
      go_wp2_with fail
      refine (heldEv_any ⟨ek, ts, ex, en, ep⟩ _ rfl AG cG w7 1 oG7.rd (by omega) (by omega) hno).mono ?_
      rintro e w8 ⟨rfl, b8⟩
      clear pQ0 pQ1 pQ2 pQ3 pQ4 pfQ
      have z8 := b8.size
      have bl8 : Below w.heap.size w w8 := bl7.trans (b8.mono bl7.size)
      have oW8 := oW7.far (fun k h1 h2 => b8.block k (by omega))
      have oG8 := oG7.far (fun k h1 h2 => b8.block k (by omega))
      have oP8 := oP7.far (b8.block _ (by omega)) (by omega)
      have oQ8 := oQ7.far (b8.block _ (by omega)) (by omega)
      clear oW7 oG7 oP7 oQ7 bl7 b8
      clear oG8
      clear oW8
      go_wp2
      go_ret
      exact ⟨rfl, bl8⟩
  · have hl1 : 1048576 < l.length := by omega
    unfold str
    have hsz : (⟨l.toArray⟩ : ByteArray).size = l.length := by simp [ByteArray.size]
    generalize (⟨l.toArray⟩ : ByteArray) = s at *
    go_enter Try.func10, Try.ntmps10
    go_wp2
    go_ret
    exact ⟨rfl, Below.refl _ _⟩

set_option maxRecDepth 100000 in
theorem lifted (os : Os) (started : os.Started) (H : Type) (enc : TypeId × Value → H) :
    ReturnsInHanded {} Try.checked os 10 .any (Rows.fnExactParseEventSpec.pre6 enc Try.prog Try.f10 Rows.fnExactParseEventRow.domain false) (Rows.fnExactParseEventSpec.post enc Try.prog Try.f10 false true false false) := by
  refine returnsInHanded_of_change (C := Try.checked) ownNone started (by kernel_rfl) Try.func10
    (ChangeSpec.witness6 (enc := enc) (C := Try.checked) false ⟨#[], #[.string ⟨#[]⟩], []⟩ 8 (by kernel_rfl) (by kernel_rfl) (by kernel_rfl) (by kernel_rfl)) ?_
  intro W base args ds gs before hval0 hW hcnd _
  have hval : ∀ (j : Nat) t v, Try.f10.params[j]? = some t → args[j]? = some v → Value.okWide Try.prog W .any base t v := hval0
  have hW' := hW
  obtain ⟨p, q, hA0, hV, rfl, _, _⟩ := hW
  have hA : DataW.TrodAll enc Try.prog W 0 (fun _ => true) true Try.f10.params.toList args.toList ds p := hA0
  rw [Try.params10] at hA hval
  obtain ⟨v0, vs0, d0, ds0, p0, q0, hargs, rfl, rfl, h0, r0⟩ := trodAll_cons hA
  obtain ⟨rfl, rfl, rfl⟩ := trodAll_nil r0
  obtain rfl : args = #[v0] := by cases args; simp_all
  obtain ⟨rfl, rfl⟩ := trodVars_none hV
  obtain ⟨l, rfl, hll⟩ := Opn.open_str (hval 0 9 v0 rfl rfl) h0
  clear hA0 hval0
  refine (walk W l hll).mono fun e W' ⟨he, hg⟩ => ?_
  subst he
  exact ⟨_, rfl, law_post laidOut (by kernel_rfl) rfl rfl rfl rfl rfl Try.underlying4 hW' hg⟩

/-- The statement. -/
theorem proved : Rows.FnExactParseEventSaid :=
  OpenClaim.holds_of_wide 10 Try.f10 rfl rfl rfl rfl rfl rfl rfl ⟨rfl, rfl, rfl, rfl, rfl⟩ rfl rfl rfl rfl rfl (by kernel_rfl) Try.func10 (by kernel_rfl)
    (of_decide_eq_true (by kernel_rfl)) (by unfold Func.isWrapper; first | (rw [if_pos (by decide +kernel)]; kernel_rfl) | (rw [if_neg (by decide +kernel)]; exact ⟨rfl, rfl⟩))
    (fun os started H enc _ => lifted os started H enc)
#print axioms proved
end fnExactParseEvent

end Go.Proofs.Ytggdnpaiaijhgaa

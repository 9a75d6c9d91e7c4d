/- The law FnExactFillHouse: for every argument the program answers as its model, in memory of its own. No condition. -/
import Derived.Test.YtbnggakfogcalabHExact
import Derived.Test.YtbnggakfogcalabLaw
namespace Go.Proofs.Ytbnggakfogcalab
open Go.RowKit
set_option linter.unusedVariables false
set_option linter.unusedSimpArgs false

namespace fnExactFillHouse
open Go.ChangeShapes Go.WideShapes Go.ChangeAt Go.RowKit
set_option maxRecDepth 100000 in
set_option maxHeartbeats 800000 in
set_option maxRecDepth 100000 in
set_option maxRecDepth 100000 in
set_option maxHeartbeats 8000000 in
theorem walk (w : World) (a : Int) (b : Int) (z : Int) :
    Calls Try.prog 7 #[.int .i64 a, .int .i64 b, .int .i64 z] w fun e w' => e = .returned (.bool true) ∧ Below w.heap.size w w' := by
  obtain ⟨ts, hts⟩ : ∃ ts, ts = fillT a b z := ⟨_, rfl⟩
  have hst : sizes ts ≤ 1048576 := by rw [hts]; exact sizes_or fillT_heap
  have htq : tot ts ≤ 1048576 := by unfold sizes at hst; unfold tot; omega
  have HTS := Lib.hid hts
  have HST := Lib.hid hst
  clear hts hst
  go_enter Try.func7, Try.ntmps7
  go_wp2_with fail
  refine (sFill_b a b z w HTS).mono ?_
  rintro e w2 ⟨A2, c2, xs2, rfl, o2, b2⟩
  go_wp2_with fail
  refine (iFill_b a b z w2 HTS).mono ?_
  rintro e w4 ⟨A4, c4, xs4, rfl, o4, b4⟩
  have z2 := b2.size
  have z4 := b4.size
  have o24 := o2.below (Nat.le_refl _) b4
  have bl4 : Below w.heap.size w w4 := b2.trans (b4.mono b2.size)
  clear o2 b2 b4
  go_wp2_with fail
  refine (eqIntSS_same ts _ _ _ _ w4 _ o4.rd o24.rd HST.out).mono ?_
  rintro e w' ⟨rfl, n5, rfl⟩
  have o45 : OwnG (w4.drewN n5) w2.heap.size w4.heap.size A4 ts.length c4 xs4 ts := o4.far (fun _ _ _ => rfl)
  go_wp2_with fail
  refine (markIntSS_any ts ts.length A4 c4 xs4 (w4.drewN n5) w2.heap.size w4.heap.size o45 1 (by omega) (by omega) HST.out).mono ?_
  intro e w10 hmark
  have bl10 := mark_below hmark (below_drewN bl4 n5) (by omega) (by have := bl4.size; exact this)
  obtain ⟨rfl, o410, s10, os10, tp10, ou10, fr10⟩ := hmark
  have s10' : w4.heap.size ≤ w10.heap.size := s10
  have FR2 : Hid (∀ q, q < w4.heap.size → (q < w2.heap.size ∨ w4.heap.size ≤ q) → w10.heap[q]? = w4.heap[q]?) := Lib.hid fr10
  clear fr10 os10 tp10 ou10 o45 o4 s10
  have o210 : OwnG w10 w.heap.size w2.heap.size A2 ts.length c2 xs2 ts := o24.far (fun k hk hk2 => FR2.out k (by omega) (.inl (by omega)))
  clear o24
  go_wp2_with fail
  refine (heldIntSS_any ts ts.length rfl _ _ _ _ 1 o410.rd (by omega) (by omega) HST.out).mono ?_
  rintro e w' ⟨rfl, rfl⟩
  have k3 : ¬ ((1 : Int) + ((tot ts : Nat) : Int)) < 0 := by omega
  go_wp2_with fail
  refine (iFill_b a b z w10 HTS).mono ?_
  rintro e w12 ⟨A12, c12, xs12, rfl, o12, b12⟩
  have z12 := b12.size
  have o212 := o210.below (by omega) b12
  have o412 := o410.below (by omega) b12
  have bl12 := bl10.trans (b12.mono (by have := bl10.size; exact this))
  clear o210 o410
  go_wp2_with fail
  refine (eqIntSS_same ts _ _ _ _ w12 _ o12.rd o212.rd HST.out).mono ?_
  rintro e w' ⟨rfl, n13, rfl⟩
  have o413 : OwnG (w12.drewN n13) w2.heap.size w4.heap.size A4 ts.length c4 xs4 (mkG 1 ts) := o412.far (fun _ _ _ => rfl)
  go_wp2_with fail
  refine (heldIntSS_any ts ts.length rfl _ _ _ _ 1 o413.rd (by omega) (by omega) HST.out).mono ?_
  rintro e w' ⟨rfl, rfl⟩
  go_wp2
  go_ret
  exact ⟨rfl, below_drewN bl12 n13⟩

set_option maxRecDepth 100000 in
theorem lifted (os : Os) (started : os.Started) (H : Type) (enc : TypeId × Value → H) :
    ReturnsInHanded {} Try.checked os 7 .any (Rows.fnExactFillHouseSpec.pre6 enc Try.prog Try.f7 Rows.fnExactFillHouseRow.domain false) (Rows.fnExactFillHouseSpec.post enc Try.prog Try.f7 false true false false) := by
  refine returnsInHanded_of_change (C := Try.checked) ownNone started (by kernel_rfl) Try.func7
    (ChangeSpec.witness6 (enc := enc) (C := Try.checked) false ⟨#[], #[.int .i64 0, .int .i64 0, .int .i64 0], []⟩ 8 (by kernel_rfl) (by kernel_rfl) (by kernel_rfl) (by kernel_rfl)) ?_
  intro W base args ds gs before hval0 hW hcnd _
  have hval : ∀ (j : Nat) t v, Try.f7.params[j]? = some t → args[j]? = some v → Value.okWide Try.prog W .any base t v := hval0
  have hW' := hW
  obtain ⟨p, q, hA0, hV, rfl, _, _⟩ := hW
  have hA : DataW.TrodAll enc Try.prog W 0 (fun _ => true) true Try.f7.params.toList args.toList ds p := hA0
  rw [Try.params7] at hA hval
  obtain ⟨v0, vs0, d0, ds0, p0, q0, hargs, rfl, rfl, h0, r0⟩ := trodAll_cons hA
  obtain ⟨v1, vs1, d1, ds1, p1, q1, rfl, rfl, rfl, h1, r1⟩ := trodAll_cons r0
  obtain ⟨v2, vs2, d2, ds2, p2, q2, rfl, rfl, rfl, h2, r2⟩ := trodAll_cons r1
  obtain ⟨rfl, rfl, rfl⟩ := trodAll_nil r2
  obtain rfl : args = #[v0, v1, v2] := by cases args; simp_all
  obtain ⟨rfl, rfl⟩ := trodVars_none hV
  obtain ⟨a, rfl, rfl, rfl, w0⟩ := open_int Try.underlying3 (hval 0 3 v0 rfl rfl) h0
  obtain ⟨b, rfl, rfl, rfl, w1⟩ := open_int Try.underlying3 (hval 1 3 v1 rfl rfl) h1
  obtain ⟨z, rfl, rfl, rfl, w2⟩ := open_int Try.underlying3 (hval 2 3 v2 rfl rfl) h2
  clear hA0 hval0
  refine (walk W a b z).mono fun e W' ⟨he, hg⟩ => ?_
  subst he
  exact ⟨_, rfl, law_post laidOut (by kernel_rfl) rfl rfl rfl rfl rfl Try.underlying4 hW' hg⟩

/-- The statement. -/
theorem proved : Rows.FnExactFillHouseSaid :=
  OpenClaim.holds_of_wide 7 Try.f7 rfl rfl rfl rfl rfl rfl rfl ⟨rfl, rfl, rfl, rfl, rfl⟩ rfl rfl rfl rfl rfl (by kernel_rfl) Try.func7 (by kernel_rfl)
    (of_decide_eq_true (by kernel_rfl)) (by unfold Func.isWrapper; first | (rw [if_pos (by decide +kernel)]; kernel_rfl) | (rw [if_neg (by decide +kernel)]; exact ⟨rfl, rfl⟩))
    (fun os started H enc _ => lifted os started H enc)
#print axioms proved
end fnExactFillHouse

end Go.Proofs.Ytbnggakfogcalab

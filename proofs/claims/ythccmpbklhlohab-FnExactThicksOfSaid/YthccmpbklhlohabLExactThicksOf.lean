/- The law FnExactThicksOf: for every argument the program answers as its model, in memory of its own; the arguments read as they read before. No condition. -/
import Derived.Test.YthccmpbklhlohabThicks
import Derived.Test.YthccmpbklhlohabLaw
namespace Go.Proofs.Ythccmpbklhlohab
open Go.RowKit
set_option linter.unusedVariables false
set_option linter.unusedSimpArgs false

namespace fnExactThicksOf
open Go.ChangeShapes Go.WideShapes Go.ChangeAt Go.RowKit
set_option maxHeartbeats 800000 in
theorem walk (w : World) (m : Int) (zs : List Int) (Azs : Option Addr) (czs : Nat) (hr : Rd w w.heap.size Azs (ints zs)) :
    Calls Try.prog 7 #[.int .i64 m, .slice Azs zs.length czs] w fun e w' => e = .returned (.bool true) ∧ Below w.heap.size w w' := by
  by_cases hn : zs.length ≤ 1048576
  · have hl := thicksT_len m zs
    go_enter Try.func7, Try.ntmps7
    go_wp2_with fail
    refine (toIntS_any zs _ _ _ hr hn).mono ?_
    rintro e w1 ⟨A1, c1, rfl, o1, b1⟩
    have r1 := Rd.own o1
    have hr1 := (hr.below b1).more b1.size
    go_wp2_with fail
    refine (sThicks_any zs _ _ _ r1 m).mono ?_
    rintro e w2 ⟨A2, c2, rfl, o2, b2⟩
    have r2 := Rd.own o2
    have hr2 := (hr1.below b2).more b2.size
    go_wp2_with fail
    refine (toIntS_any zs _ _ _ hr2 hn).mono ?_
    rintro e w3 ⟨A3, c3, rfl, o3, b3⟩
    have r3 := Rd.own o3
    have hr3 := (hr2.below b3).more b3.size
    have r23 := r2.below b3
    go_wp2_with fail
    refine (iThicks_any zs _ _ _ r3 m).mono ?_
    rintro e w4 ⟨A4, c4, rfl, o4, b4⟩
    have r4 := Rd.own o4
    have hr4 := (hr3.below b4).more b4.size
    have r24 := r23.below (b4.mono b3.size)
    have r34 := r3.below b4
    have o34 := own_below o3 b4
    generalize hts : thicksT m zs = ts at *
    have Hts := Lib.hid hts
    clear hts
    go_wp2_with fail
    refine (eqIntS_same ts _ _ _ _ _ _ r4 (r24.more (by have := b3.size; have := b4.size; omega)) (by omega)).mono ?_
    rintro e w' ⟨rfl, n5, rfl⟩
    go_wp2_with fail
    refine (toIntS_any zs _ _ (w4.drewN n5) hr4 hn).mono ?_
    rintro e w6 ⟨A6, c6, rfl, o6, b6⟩
    have r6 := Rd.own o6
    have b6' : Below w4.heap.size w4 w6 := (below_drewN (Below.refl w4.heap.size w4) n5).trans b6
    have hr6 := (hr4.below b6').more b6'.size
    have r26 := r24.below (b6'.mono (by have := b3.size; have := b4.size; omega))
    have r36 := (r34.more b4.size).below b6'
    have o36 := own_below o34 b6'
    have o46 := own_below o4 b6'
    go_wp2_with fail
    refine (eqIntS_same zs _ _ _ _ _ _ (r36.more b6'.size) r6 hn).mono ?_
    rintro e w' ⟨rfl, n7, rfl⟩
    go_wp2_with fail
    refine (markIntS_any _ _ _ _ (w6.drewN n7) w2.heap.size o36 1 (by omega) (by omega) hn).mono ?_
    rintro e w8 ⟨rfl, o38, g8⟩
    have low8 : ∀ k, k < w2.heap.size → w8.heap[k]? = w6.heap[k]? := fun k hk => g8.block k (by have := b3.size; have := b4.size; have := b6'.size; simp; omega) (fun e => by have := own_block o36 k e.symm; omega)
    have high8 : ∀ k, w3.heap.size ≤ k → k < w6.heap.size → w8.heap[k]? = w6.heap[k]? := fun k hk hk2 => g8.block k hk2 (fun e => by have := own_lt o3 k e.symm; omega)
    have size8 : w6.heap.size ≤ w8.heap.size := g8.size
    have o48 := own_far (g := 0) o46 high8
    have r28 : Rd w8 w2.heap.size A2 (ints ts) := r26.keep fun p hp => World.cell?_of_block (low8 _ hp)
    have hr8 : Rd w8 w.heap.size Azs (ints zs) := (hr.below (((b1.trans (b2.mono b1.size)).trans (b3.mono (by have := b1.size; have := b2.size; omega))).trans ((b4.mono (by have := b1.size; have := b2.size; have := b3.size; omega)).trans (b6'.mono (by have := b1.size; have := b2.size; have := b3.size; have := b4.size; omega))))).keep fun p hp => World.cell?_of_block (low8 _ (by have := b1.size; have := b2.size; omega))
    have k1 : ¬ ((1 : Int) + (zs.length : Int)) < 0 := by omega
    go_wp2_with fail
    refine (eqIntS_same ts _ _ _ _ _ _ (Rd.own o48) (r28.more (by have := b3.size; have := b4.size; have := b6'.size; omega)) (by omega)).mono ?_
    rintro e w' ⟨rfl, n9, rfl⟩
    go_wp2_with fail
    refine (markIntS_any _ _ _ _ (w8.drewN n9) w3.heap.size (own_drewN o48 n9) 1 (by omega) (by omega) (by omega)).mono ?_
    rintro e w10 ⟨rfl, o410, g10⟩
    go_wp2_with fail
    refine (heldIntS_any _ _ _ _ _ 1 (Rd.own o410) (by omega) (by omega) (by omega)).mono ?_
    rintro e w' ⟨rfl, rfl⟩
    have low10 : ∀ k, k < w2.heap.size → w10.heap[k]? = w8.heap[k]? := fun k hk => g10.block k (by have := b3.size; have := b4.size; have := b6'.size; simp; omega) (fun e => by have := own_block o48 k e.symm; have := b3.size; omega)
    have size10 : w8.heap.size ≤ w10.heap.size := g10.size
    have r210 : Rd w10 w2.heap.size A2 (ints ts) := r28.keep fun p hp => World.cell?_of_block (low10 _ hp)
    have hr10 : Rd w10 w10.heap.size Azs (ints zs) := (hr8.keep fun p hp => World.cell?_of_block (low10 _ (by have := b1.size; have := b2.size; omega))).more (by have := b1.size; have := b2.size; have := b3.size; have := b4.size; have := b6'.size; omega)
    have bl6 : Below w.heap.size w w6 := ((b1.trans (b2.mono b1.size)).trans (b3.mono (by have := b1.size; have := b2.size; omega))).trans ((b4.mono (by have := b1.size; have := b2.size; have := b3.size; omega)).trans (b6'.mono (by have := b1.size; have := b2.size; have := b3.size; have := b4.size; omega)))
    have bl8 : Below w.heap.size w w8 := (below_drewN bl6 n7).grown g8 (by have := bl6.size; exact this) (fun k hk => by have := own_block o36 k hk; have := b1.size; have := b2.size; omega)
    have bl10 : Below w.heap.size w w10 := (below_drewN bl8 n9).grown g10 (by have := bl8.size; exact this) (fun k hk => by have := own_block o48 k hk; have := b1.size; have := b2.size; have := b3.size; omega)
    go_wp2_with fail
    refine (toIntS_any zs _ _ _ hr10 hn).mono ?_
    rintro e w11 ⟨A11, c11, rfl, o11, b11⟩
    have r11 := Rd.own o11
    have cT := iThicks_any zs _ c11 _ r11 m
    rw [Hts.out] at cT
    go_wp2_with fail
    refine cT.mono ?_
    clear cT
    rintro e w12 ⟨A12, c12, rfl, o12, b12⟩
    have r212 : Rd w12 w2.heap.size A2 (ints ts) := r210.below ((b11.mono (by have := b3.size; have := b4.size; have := b6'.size; omega)).trans (b12.mono (by have := b3.size; have := b4.size; have := b6'.size; have := b11.size; omega)))
    have o412 := own_below o410 (b11.trans (b12.mono b11.size))
    have bl12 : Below w.heap.size w w12 := bl10.trans ((b11.trans (b12.mono b11.size)).mono (by have := bl10.size; exact this))
    go_wp2_with fail
    refine (eqIntS_same ts _ _ _ _ _ _ (Rd.own o12) (r212.more (by have := b3.size; have := b4.size; have := b6'.size; have := b11.size; have := b12.size; omega)) (by omega)).mono ?_
    rintro e w' ⟨rfl, n13, rfl⟩
    go_wp2_with fail
    refine (heldIntS_any _ _ _ _ _ 1 (Rd.own (own_drewN o412 n13)) (by omega) (by omega) (by omega)).mono ?_
    rintro e w' ⟨rfl, rfl⟩
    go_wp2
    go_ret
    exact ⟨rfl, below_drewN bl12 n13⟩
  · have hn' : 1048576 < zs.length := by omega
    go_enter Try.func7, Try.ntmps7
    go_wp2
    go_ret
    exact ⟨rfl, Below.refl _ _⟩

set_option maxRecDepth 100000 in
theorem lifted (os : Os) (started : os.Started) (H : Type) (enc : TypeId × Value → H) :
    ReturnsInHanded {} Try.checked os 7 .any (Rows.fnExactThicksOfSpec.pre6 enc Try.prog Try.f7 Rows.fnExactThicksOfRow.domain false) (Rows.fnExactThicksOfSpec.post enc Try.prog Try.f7 false true false false) := by
  refine returnsInHanded_of_change (C := Try.checked) ownNone started (by kernel_rfl) Try.func7
    (ChangeSpec.witness6 (enc := enc) (C := Try.checked) false ⟨#[], #[.int .i64 0, .slice none 0 0], []⟩ 8 (by kernel_rfl) (by kernel_rfl) (by kernel_rfl) (by kernel_rfl)) ?_
  intro W base args ds gs before hval0 hW hcnd _
  have hval : ∀ (j : Nat) t v, Try.f7.params[j]? = some t → args[j]? = some v → Value.okWide Try.prog W .any base t v := hval0
  have hW' := hW
  obtain ⟨p, q, hA0, hV, rfl, _, _⟩ := hW
  have hA : DataW.TrodAll enc Try.prog W 0 (fun _ => true) true Try.f7.params.toList args.toList ds p := hA0
  rw [Try.params7] at hA hval
  obtain ⟨v0, vs0, d0, ds0, p0, q0, hargs, rfl, rfl, h0, r0⟩ := trodAll_cons hA
  obtain ⟨v1, vs1, d1, ds1, p1, q1, rfl, rfl, rfl, h1, r1⟩ := trodAll_cons r0
  obtain ⟨rfl, rfl, rfl⟩ := trodAll_nil r1
  obtain rfl : args = #[v0, v1] := by cases args; simp_all
  obtain ⟨rfl, rfl⟩ := trodVars_none hV
  obtain ⟨m, rfl, rfl, rfl, w0⟩ := open_int Try.underlying3 (hval 0 3 v0 rfl rfl) h0
  obtain ⟨Azs, czs, zs, rfl, hrzs, _, _⟩ := open_rd Try.underlying23 Try.underlying3 cellsInt (hval 1 23 v1 rfl rfl) h1
  clear hA0 hval0
  refine (walk W m zs Azs czs hrzs).mono fun e W' ⟨he, hg⟩ => ?_
  subst he
  exact ⟨_, rfl, law_post laidOut (by kernel_rfl) rfl rfl rfl rfl rfl Try.underlying4 hW' hg⟩

/-- The statement. -/
theorem proved : Rows.FnExactThicksOfSaid :=
  OpenClaim.holds_of_wide 7 Try.f7 rfl rfl rfl rfl rfl rfl rfl ⟨rfl, rfl, rfl, rfl, rfl⟩ rfl rfl rfl rfl rfl (by kernel_rfl) Try.func7 (by kernel_rfl)
    (of_decide_eq_true (by kernel_rfl)) (by unfold Func.isWrapper; first | (rw [if_pos (by decide +kernel)]; kernel_rfl) | (rw [if_neg (by decide +kernel)]; exact ⟨rfl, rfl⟩))
    (fun os started H enc _ => lifted os started H enc)
#print axioms proved
end fnExactThicksOf

end Go.Proofs.Ythccmpbklhlohab

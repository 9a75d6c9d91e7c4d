/- Chapter 8: the event of a text, of the model. -/
import Derived.Test.YtggdnpaiaijhgaaBParI
import Derived.Test.YtggdnpaiaijhgaaBShow
namespace Go.Proofs.Ytggdnpaiaijhgaa
open Go.RowKit
set_option linter.unusedVariables false
set_option linter.unusedSimpArgs false
theorem ints_snoc' (zs : List Int) (z : Int) : ints (zs ++ [z]) = ints zs ++ [.int .i64 z] := by simp [ints]
theorem evOf_cons (l0 : List UInt8) (ls : List (List UInt8)) : evOf (l0 :: ls) = if l0 = coldL then ⟨0, ls.map numW, 0, 0, 0⟩ else if l0 = cutL ∧ ls.length = 1 then ⟨1, [], at_ (ls.map numW) 0, 0, 0⟩ else if l0 = sellL ∧ ls.length = 2 then ⟨2, [], 0, at_ (ls.map numW) 0, at_ (ls.map numW) 1⟩ else ⟨3, [], 0, 0, 0⟩ := by
  unfold evOf
  simp only [List.head?_cons, List.tail_cons, Option.some.injEq]
theorem Box5.drew_ {w : World} {g : Nat} {v0 v1 v2 v3 v4 : Value} (h : Box5 w g v0 v1 v2 v3 v4) : Box5 w.drew g v0 v1 v2 v3 v4 := ⟨h.c0, h.c1, h.c2, h.c3, h.c4, h.fr, h.lt⟩
theorem evOf_cut {α : Type} {n : Nat} {a b c : α} (h : n = 1) : (if [99, 117, 116] = coldL then a else if [99, 117, 116] = cutL ∧ n = 1 then b else c) = b := by
  rw [if_neg (by decide), if_pos ⟨rfl, h⟩]
theorem evOf_sell {α : Type} {n : Nat} {a b c d : α} (h : n = 2) : (if [115, 101, 108, 108] = coldL then a else if [115, 101, 108, 108] = cutL ∧ n = 1 then b else if [115, 101, 108, 108] = sellL ∧ n = 2 then c else d) = c := by
  rw [if_neg (by decide), if_neg (fun g => absurd g.1 (by decide)), if_pos ⟨rfl, h⟩]
theorem evOf_melt {α : Type} {n : Nat} {a b c d : α} (_ : List Int) : (if [109, 101, 108, 116] = coldL then a else if [109, 101, 108, 116] = cutL ∧ n = 1 then b else if [109, 101, 108, 116] = sellL ∧ n = 2 then c else d) = d := by
  rw [if_neg (by decide), if_neg (fun h => absurd h.1 (by decide)), if_neg (fun h => absurd h.1 (by decide))]
/-- the numbers of words, so far -/
def PsRel (w1 : World) (ls : List (List UInt8)) (nw : Nat) (v i : Value) (wr : World) : Prop :=
  ∃ (k : Nat) (zs : List Int), k ≤ nw ∧ i = .int .i64 ((k + 1 : Nat) : Int) ∧ zs.length = k ∧ okTs zs = true ∧ ls.take k = zs.map sgnL ∧ wr.ownsRow w1.heap.size 3 1 v k (ints zs) ∧ Below w1.heap.size w1 wr
set_option maxRecDepth 100000 in
set_option maxHeartbeats 2000000 in
theorem sPar_coldT (l : List UInt8) (s : ByteArray) (hs : s = ⟨l.toArray⟩) (l0 : List UInt8) (ls : List (List UInt8)) (hws : splitL 32 l = l0 :: ls) (hl : l.length ≤ 1048576) (ev : Ev) (hev : evL l = ev) (h0 : l0 = [99, 111, 108, 100]) (hq : parB l = true) (w : World) :
    Calls Try.prog 80 #[.string s] w (PaPost ev true w) := by
  obtain ⟨i0, hi, hz0, hz1, hz2⟩ := info_parts info_int
  have cW := fun w => splitAt_any l (by omega) s hs 32 w
  have hsl : s.toList = l := by rw [hs, ByteArray.toList_eq]
  rw [hws] at cW
  obtain ⟨nw, hnw⟩ : ∃ nw, ls.length = nw := ⟨_, rfl⟩
  have hnl : nw ≤ 1048576 := by have := (splitL_len 32 l).2; rw [hws] at this; simp at this; omega
  have HLEN : Hid (∀ p ∈ ls, p.length ≤ 4000000) := Lib.hid fun p hp => by have := splitL_mem (c := 32) l p (by rw [hws]; exact List.mem_cons_of_mem _ hp); omega
  have HBAD : Hid (∀ p ∈ ls, (∀ y : Int, -999999 ≤ y → y ≤ 999999 → p ≠ sgnL y) → parB l = false) := Lib.hid fun p hp h => par_bad (by rw [hws]; exact hp) h
  have HQ := Lib.hid hq
  have HWS := Lib.hid hws
  have HNW := Lib.hid hnw
  unfold OutS at cW
  simp only [List.length_cons, hnw] at cW
  have ha : ∀ o, Below w.heap.size w (w.alloc o) := fun o => (Below.refl _ _).alloc (Nat.le_refl _) o
  have HL0 := Lib.hid h0
  have HEV := Lib.hid hev
  clear h0 hev
  clear hws hnw hs hl hq
  go_enter Try.func80, Try.ntmps80
  go_wp2_with fail
  refine (cW _).mono ?_
  rintro e w1 ⟨A1, c1, rfl, o1, b1⟩
  have HB1 := Lib.hid ((ha _).trans (b1.mono (ha _).size))
  have HX1 := Lib.hid ((Box5.alloc_ w 43).below b1 (by simp))
  have z1 : w.heap.size < w1.heap.size := by have := b1.size; simp at this; omega
  have hr1 : Rd w1 w1.heap.size A1 (strs (l0 :: ls)) := Rd.own o1
  clear o1 b1 cW ha
  obtain ⟨b, off, x, rfl, hb, hz, hc0⟩ := hr1.str_ (k := 0) (by simp)
  obtain rfl : l0 = x := by have := hz.out; simpa using this
  rw [Nat.add_zero] at hc0
  have hrt := Rd.tail_ hr1
  have HR1 := Lib.hid hrt
  have HC0 := Lib.hid hc0
  clear hr1 hrt hz hc0
  go_wp2
  go_loopw [5, 6] (fun v i wr => PsRel w1 ls nw v i wr) (fun _ i _ => nw + 1 - (intOf i).toNat)
  case atStart => exact ⟨0, [], Nat.zero_le _, rfl, rfl, rfl, by simp, own_empty w1 _, (Below.refl _ _).alloc (Nat.le_refl _) _⟩
  case round =>
    obtain ⟨k, zs, hk, rfl, hzl, hzo, hzt, hown, hbel⟩ := hrel
    by_cases hlt : k < nw
    · obtain ⟨b', off', p, hA', hb', hz, hcp⟩ := (HR1.out.below hbel).str_ (k := k) (by rw [HNW.out]; exact hlt)
      obtain ⟨rfl, rfl⟩ : b = b' ∧ off + 1 = off' := by simpa using hA'
      rw [show off + 1 + k = off + (k + 1) by omega] at hcp
      have hmem := List.mem_of_getElem? hz.out
      have cR := fun w => readSigned_any p (HLEN.out p hmem) ⟨p.toArray⟩ rfl w
      have HO := Lib.hid (And.intro hown hbel)
      have HZ := Lib.hid (And.intro hzl (And.intro hzo hzt))
      have HM := Lib.hid hmem
      have z2 := hbel.size
      have hbo := own_block hown
      have HBO := Lib.hid hbo
      clear hown hbel hzl hzo hzt hA' hb' hmem hbo
      go_wp2_with fail
      refine (cR _).mono ?_
      rintro e w' ⟨z, q, hR, rfl, rfl⟩
      have HR := Lib.hid hR
      clear hR cR
      cases q
      · exact absurd (HBAD.out p HM.out (HR.out.2 rfl)) (by rw [HQ.out]; decide)
      · have hzr := (HR.out.1 rfl).2
        go_wp2_with (at_builtin; refine wpList_append_own _ rfl _ _ 37 rfl (w1.heap.size) 3 i0 (.int .i64 0) 1 8 Try.underlying37 hi hz0 hz1 hz2 rfl (by decide) _ _ _ rfl (HO.out.1.alloc _) ⟨wr.heap.size, 0, none⟩ 1 1 [.int .i64 z] rfl rfl ?c1 ?c2 ?c3 ?c4 ?c5 ?_)
        case c1 => first | exact one_new _ _ _ _ rfl | exact one_new _ _ _ _ (by simp)
        case c2 => first | rfl | (intro u hu; simp at hu; subst hu; rfl)
        case c3 => unfold maxLen; omega
        case c4 => omega
        case c5 => simp; omega
        · intro v' w5 hown' hgrow _
          have hb5 : Below w1.heap.size w1 w5 := (HO.out.2.alloc z2 _).grown hgrow (by simp; omega) HBO.out
          have R : PsRel w1 ls nw v' (.int .i64 ((k + 1 + 1 : Nat) : Int)) w5 := ⟨k + 1, zs ++ [z], hlt, rfl, by rw [List.length_append, HZ.out.1]; rfl, by have := HZ.out.2.1; unfold okTs at this ⊢; rw [List.all_append, this]; simp [inB_mk hzr], by rw [take_snoc hz.out, HZ.out.2.2, (HR.out.1 rfl).1, List.map_append]; rfl, by rw [ints_snoc']; exact hown', hb5⟩
          have HP := Lib.hid R
          clear R hb5 hown' hgrow
          go_wp2
          go_roundw
          case rel => first | exact HP.out | (have := HP.out; simpa using this)
          case measure => simp [intOf]; omega
    · obtain rfl : k = nw := by omega
      rw [List.take_of_length_le (by rw [HNW.out]; exact Nat.le_refl _)] at hzt
      have HZ := Lib.hid (And.intro hzl (And.intro hzo hzt))
      have HB2 := Lib.hid (HB1.out.trans (hbel.mono HB1.out.size))
      have HX2 := Lib.hid (HX1.out.below hbel z1)
      have kw : ∀ o, (wr.alloc o).cell? ⟨b, off, none⟩ = some (.string ⟨#[99, 111, 108, 100]⟩) := fun o => by rw [World.cell?_alloc_lt wr o _ (by have := hbel.size; show b < _; omega), hbel.cell (p := ⟨b, off, none⟩) hb, HC0.out, HL0.out]
      have z2 := hbel.size
      obtain ⟨A5, c5, rfl⟩ := own_form hown
      have HO := Lib.hid hown
      clear hzl hzo hzt hown hbel
      have hal := fun o => ((Below.refl wr.heap.size wr).alloc (Nat.le_refl _) o)
      have hE : evL l = ⟨0, zs, 0, 0, 0⟩ := by
        unfold evL
        rw [HWS.out, evOf_cons, HL0.out]
        have hmap : ls.map numW = zs := by rw [HZ.out.2.2]; exact numW_map HZ.out.2.1
        rw [hmap]
        rfl
      have hqq : (showL ⟨0, zs, 0, 0, 0⟩ == l) = true := by
        have := HQ.out
        unfold parB at this
        rw [hE] at this
        exact beq_iff_eq.2 (of_decide_eq_true this)
      have HE := Lib.hid (HEV.out.symm.trans hE)
      have cS := fun o => sShow_any ⟨0, zs, 0, 0, 0⟩ A5 c5 (wr.alloc o) (((Rd.own HO.out).below (hal o)).more (hal o).size) (by simp only; rw [HZ.out.1]; exact hnl)
      unfold evV FmPost str at cS
      simp only [HZ.out.1] at cS
      generalize showL ⟨0, zs, 0, 0, 0⟩ = t at *
      clear hE
      skip
      have HCS := Lib.hid cS
      have HAL := Lib.hid hal
      clear cS hal
      go_wp2_with fail
      refine (HCS.out _).mono ?_
      rintro e w3 ⟨rfl, b3⟩
      have HB3 := Lib.hid ((HB2.out.trans ((HAL.out _).mono HB2.out.size)).trans (b3.mono (Nat.le_trans HB2.out.size (HAL.out _).size)))
      have HX3 := Lib.hid ((HX2.out.below (HAL.out _) (by omega)).below b3 (by have := (HAL.out (.cells #[.int .i64 0, .slice A5 k c5, .int .i64 0, .int .i64 0, .int .i64 0] 43)).size; omega))
      have HY3 := Lib.hid (((Box5.alloc_ wr 43 (v0 := .int .i64 0) (v1 := .slice A5 k c5) (v2 := .int .i64 0) (v3 := .int .i64 0) (v4 := .int .i64 0))).below b3 (by simp))
      have HO3 := Lib.hid (own_below (own_below HO.out (HAL.out _)) b3)
      obtain ⟨k0, k1, k2, k3, k4, kf, _⟩ := HX3.out
      obtain ⟨j0, j1, j2, j3, j4, _, _⟩ := HY3.out
      clear b3 HCS HAL
      go_wp2
      exact bodyPost_ret (v := .tuple #[.agg #[.int .i64 0, .slice A5 k c5, .int .i64 0, .int .i64 0, .int .i64 0], .bool true]) (by simp [results, Try.results80, go_sem, k0, k1, k2, k3, k4]) rfl (paPost_mk (e := ev) (n := k) (A := A5) (c := c5) (by rw [HE.out]; exact HZ.out.1) (by rw [HE.out]) (by rw [HE.out]; exact own_five (own_base HO3.out (show w.heap.size ≤ w1.heap.size by omega)) (own_apart HO3.out z1)) (HB3.out.trans (five_below _ (Nat.le_refl _) _ _ _ _ _)))
set_option maxRecDepth 100000 in
set_option maxHeartbeats 2000000 in
theorem sPar_cutT (l : List UInt8) (s : ByteArray) (hs : s = ⟨l.toArray⟩) (l0 : List UInt8) (ls : List (List UInt8)) (hws : splitL 32 l = l0 :: ls) (hl : l.length ≤ 1048576) (ev : Ev) (hev : evL l = ev) (h0 : l0 = [99, 117, 116]) (hn1 : ls.length = 1) (hq : parB l = true) (w : World) :
    Calls Try.prog 80 #[.string s] w (PaPost ev true w) := by
  obtain ⟨i0, hi, hz0, hz1, hz2⟩ := info_parts info_int
  have cW := fun w => splitAt_any l (by omega) s hs 32 w
  have hsl : s.toList = l := by rw [hs, ByteArray.toList_eq]
  rw [hws] at cW
  obtain ⟨nw, hnw⟩ : ∃ nw, ls.length = nw := ⟨_, rfl⟩
  have hnl : nw ≤ 1048576 := by have := (splitL_len 32 l).2; rw [hws] at this; simp at this; omega
  have HLEN : Hid (∀ p ∈ ls, p.length ≤ 4000000) := Lib.hid fun p hp => by have := splitL_mem (c := 32) l p (by rw [hws]; exact List.mem_cons_of_mem _ hp); omega
  have HBAD : Hid (∀ p ∈ ls, (∀ y : Int, -999999 ≤ y → y ≤ 999999 → p ≠ sgnL y) → parB l = false) := Lib.hid fun p hp h => par_bad (by rw [hws]; exact hp) h
  have HQ := Lib.hid hq
  have HWS := Lib.hid hws
  have hn2 := hn1
  rw [hnw] at hn2
  clear hn1
  have HNW := Lib.hid hnw
  unfold OutS at cW
  simp only [List.length_cons, hnw] at cW
  have ha : ∀ o, Below w.heap.size w (w.alloc o) := fun o => (Below.refl _ _).alloc (Nat.le_refl _) o
  have HL0 := Lib.hid h0
  have HEV := Lib.hid hev
  clear h0 hev
  clear hws hnw hs hl hq
  go_enter Try.func80, Try.ntmps80
  go_wp2_with fail
  refine (cW _).mono ?_
  rintro e w1 ⟨A1, c1, rfl, o1, b1⟩
  have HB1 := Lib.hid ((ha _).trans (b1.mono (ha _).size))
  have HX1 := Lib.hid ((Box5.alloc_ w 43).below b1 (by simp))
  have z1 : w.heap.size < w1.heap.size := by have := b1.size; simp at this; omega
  have hr1 : Rd w1 w1.heap.size A1 (strs (l0 :: ls)) := Rd.own o1
  clear o1 b1 cW ha
  obtain ⟨b, off, x, rfl, hb, hz, hc0⟩ := hr1.str_ (k := 0) (by simp)
  obtain rfl : l0 = x := by have := hz.out; simpa using this
  rw [Nat.add_zero] at hc0
  have hrt := Rd.tail_ hr1
  have HR1 := Lib.hid hrt
  have HC0 := Lib.hid hc0
  clear hr1 hrt hz hc0
  go_wp2
  go_loopw [5, 6] (fun v i wr => PsRel w1 ls nw v i wr) (fun _ i _ => nw + 1 - (intOf i).toNat)
  case atStart => exact ⟨0, [], Nat.zero_le _, rfl, rfl, rfl, by simp, own_empty w1 _, (Below.refl _ _).alloc (Nat.le_refl _) _⟩
  case round =>
    obtain ⟨k, zs, hk, rfl, hzl, hzo, hzt, hown, hbel⟩ := hrel
    by_cases hlt : k < nw
    · obtain ⟨b', off', p, hA', hb', hz, hcp⟩ := (HR1.out.below hbel).str_ (k := k) (by rw [HNW.out]; exact hlt)
      obtain ⟨rfl, rfl⟩ : b = b' ∧ off + 1 = off' := by simpa using hA'
      rw [show off + 1 + k = off + (k + 1) by omega] at hcp
      have hmem := List.mem_of_getElem? hz.out
      have cR := fun w => readSigned_any p (HLEN.out p hmem) ⟨p.toArray⟩ rfl w
      have HO := Lib.hid (And.intro hown hbel)
      have HZ := Lib.hid (And.intro hzl (And.intro hzo hzt))
      have HM := Lib.hid hmem
      have z2 := hbel.size
      have hbo := own_block hown
      have HBO := Lib.hid hbo
      clear hown hbel hzl hzo hzt hA' hb' hmem hbo
      go_wp2_with fail
      refine (cR _).mono ?_
      rintro e w' ⟨z, q, hR, rfl, rfl⟩
      have HR := Lib.hid hR
      clear hR cR
      cases q
      · exact absurd (HBAD.out p HM.out (HR.out.2 rfl)) (by rw [HQ.out]; decide)
      · have hzr := (HR.out.1 rfl).2
        go_wp2_with (at_builtin; refine wpList_append_own _ rfl _ _ 37 rfl (w1.heap.size) 3 i0 (.int .i64 0) 1 8 Try.underlying37 hi hz0 hz1 hz2 rfl (by decide) _ _ _ rfl (HO.out.1.alloc _) ⟨wr.heap.size, 0, none⟩ 1 1 [.int .i64 z] rfl rfl ?c1 ?c2 ?c3 ?c4 ?c5 ?_)
        case c1 => first | exact one_new _ _ _ _ rfl | exact one_new _ _ _ _ (by simp)
        case c2 => first | rfl | (intro u hu; simp at hu; subst hu; rfl)
        case c3 => unfold maxLen; omega
        case c4 => omega
        case c5 => simp; omega
        · intro v' w5 hown' hgrow _
          have hb5 : Below w1.heap.size w1 w5 := (HO.out.2.alloc z2 _).grown hgrow (by simp; omega) HBO.out
          have R : PsRel w1 ls nw v' (.int .i64 ((k + 1 + 1 : Nat) : Int)) w5 := ⟨k + 1, zs ++ [z], hlt, rfl, by rw [List.length_append, HZ.out.1]; rfl, by have := HZ.out.2.1; unfold okTs at this ⊢; rw [List.all_append, this]; simp [inB_mk hzr], by rw [take_snoc hz.out, HZ.out.2.2, (HR.out.1 rfl).1, List.map_append]; rfl, by rw [ints_snoc']; exact hown', hb5⟩
          have HP := Lib.hid R
          clear R hb5 hown' hgrow
          go_wp2
          go_roundw
          case rel => first | exact HP.out | (have := HP.out; simpa using this)
          case measure => simp [intOf]; omega
    · obtain rfl : k = nw := by omega
      rw [List.take_of_length_le (by rw [HNW.out]; exact Nat.le_refl _)] at hzt
      have HZ := Lib.hid (And.intro hzl (And.intro hzo hzt))
      have HB2 := Lib.hid (HB1.out.trans (hbel.mono HB1.out.size))
      have HX2 := Lib.hid (HX1.out.below hbel z1)
      have kw : ∀ o, (wr.alloc o).cell? ⟨b, off, none⟩ = some (.string ⟨#[99, 117, 116]⟩) := fun o => by rw [World.cell?_alloc_lt wr o _ (by have := hbel.size; show b < _; omega), hbel.cell (p := ⟨b, off, none⟩) hb, HC0.out, HL0.out]
      have z2 := hbel.size
      obtain ⟨A5, c5, rfl⟩ := own_form hown
      have HO := Lib.hid hown
      clear hzl hzo hzt hown hbel
      have hal := fun o => ((Below.refl wr.heap.size wr).alloc (Nat.le_refl _) o)
      have hE : evL l = ⟨1, [], (at_ zs 0), 0, 0⟩ := by
        unfold evL
        rw [HWS.out, evOf_cons, HL0.out]
        have hmap : ls.map numW = zs := by rw [HZ.out.2.2]; exact numW_map HZ.out.2.1
        rw [hmap]
        exact evOf_cut (by rw [HNW.out]; exact hn2)
      have hqq : (showL ⟨1, [], (at_ zs 0), 0, 0⟩ == l) = true := by
        have := HQ.out
        unfold parB at this
        rw [hE] at this
        exact beq_iff_eq.2 (of_decide_eq_true this)
      have HE := Lib.hid (HEV.out.symm.trans hE)
      have cS := fun o => sShow_any ⟨1, [], (at_ zs 0), 0, 0⟩ none 0 (wr.alloc o) (Rd.nil_) (by simp only; simp)
      unfold evV FmPost str at cS
      simp only [List.length_nil] at cS
      generalize showL ⟨1, [], (at_ zs 0), 0, 0⟩ = t at *
      clear hE
      obtain ⟨g, hA, hg, hgl, _, _⟩ := own_some HO.out (by omega)
      subst hA
      have kz0 : ∀ o, (wr.alloc o).cell? ⟨g, 0, none⟩ = some (.int .i64 (at_ zs 0)) := fun o => by rw [World.cell?_alloc_lt wr o _ hgl]; exact own_cell HO.out (ints_at' (zs := zs) (k := 0) (by have := HZ.out.1; omega))
      clear hg hgl
      have HCS := Lib.hid cS
      have HAL := Lib.hid hal
      clear cS hal
      go_wp2_with fail
      refine (HCS.out _).mono ?_
      rintro e w3 ⟨rfl, b3⟩
      have HB3 := Lib.hid ((HB2.out.trans ((HAL.out _).mono HB2.out.size)).trans (b3.mono (Nat.le_trans HB2.out.size (HAL.out _).size)))
      have HX3 := Lib.hid ((HX2.out.below (HAL.out _) (by omega)).below b3 (by have := (HAL.out (.cells #[.int .i64 1, .slice none 0 0, .int .i64 (at_ zs 0), .int .i64 0, .int .i64 0] 43)).size; omega))
      have HY3 := Lib.hid (((Box5.alloc_ wr 43 (v0 := .int .i64 1) (v1 := .slice none 0 0) (v2 := .int .i64 (at_ zs 0)) (v3 := .int .i64 0) (v4 := .int .i64 0))).below b3 (by simp))
      have HO3 := Lib.hid (own_below (own_below HO.out (HAL.out _)) b3)
      obtain ⟨k0, k1, k2, k3, k4, kf, _⟩ := HX3.out
      obtain ⟨j0, j1, j2, j3, j4, _, _⟩ := HY3.out
      clear b3 HCS HAL
      go_wp2
      exact bodyPost_ret (v := .tuple #[.agg #[.int .i64 1, .slice none 0 0, .int .i64 (at_ zs 0), .int .i64 0, .int .i64 0], .bool true]) (by simp [results, Try.results80, go_sem, k0, k1, k2, k3, k4]) rfl (paPost_mk (e := ev) (n := 0) (A := none) (c := 0) (by rw [HE.out]; rfl) (by rw [HE.out]) (⟨by rw [HE.out]; simp [ints], .inl ⟨rfl, rfl⟩⟩) (HB3.out.trans (five_below _ (Nat.le_refl _) _ _ _ _ _)))
set_option maxRecDepth 100000 in
set_option maxHeartbeats 2000000 in
theorem sPar_meltT (l : List UInt8) (s : ByteArray) (hs : s = ⟨l.toArray⟩) (l0 : List UInt8) (ls : List (List UInt8)) (hws : splitL 32 l = l0 :: ls) (hl : l.length ≤ 1048576) (ev : Ev) (hev : evL l = ev) (h0 : l0 = [109, 101, 108, 116]) (hn1 : ls.length = 0) (hq : parB l = true) (w : World) :
    Calls Try.prog 80 #[.string s] w (PaPost ev true w) := by
  obtain ⟨i0, hi, hz0, hz1, hz2⟩ := info_parts info_int
  have cW := fun w => splitAt_any l (by omega) s hs 32 w
  have hsl : s.toList = l := by rw [hs, ByteArray.toList_eq]
  rw [hws] at cW
  obtain ⟨nw, hnw⟩ : ∃ nw, ls.length = nw := ⟨_, rfl⟩
  have hnl : nw ≤ 1048576 := by have := (splitL_len 32 l).2; rw [hws] at this; simp at this; omega
  have HLEN : Hid (∀ p ∈ ls, p.length ≤ 4000000) := Lib.hid fun p hp => by have := splitL_mem (c := 32) l p (by rw [hws]; exact List.mem_cons_of_mem _ hp); omega
  have HBAD : Hid (∀ p ∈ ls, (∀ y : Int, -999999 ≤ y → y ≤ 999999 → p ≠ sgnL y) → parB l = false) := Lib.hid fun p hp h => par_bad (by rw [hws]; exact hp) h
  have HQ := Lib.hid hq
  have HWS := Lib.hid hws
  have hn2 := hn1
  rw [hnw] at hn2
  clear hn1
  have HNW := Lib.hid hnw
  unfold OutS at cW
  simp only [List.length_cons, hnw] at cW
  have ha : ∀ o, Below w.heap.size w (w.alloc o) := fun o => (Below.refl _ _).alloc (Nat.le_refl _) o
  have HL0 := Lib.hid h0
  have HEV := Lib.hid hev
  clear h0 hev
  clear hws hnw hs hl hq
  go_enter Try.func80, Try.ntmps80
  go_wp2_with fail
  refine (cW _).mono ?_
  rintro e w1 ⟨A1, c1, rfl, o1, b1⟩
  have HB1 := Lib.hid ((ha _).trans (b1.mono (ha _).size))
  have HX1 := Lib.hid ((Box5.alloc_ w 43).below b1 (by simp))
  have z1 : w.heap.size < w1.heap.size := by have := b1.size; simp at this; omega
  have hr1 : Rd w1 w1.heap.size A1 (strs (l0 :: ls)) := Rd.own o1
  clear o1 b1 cW ha
  obtain ⟨b, off, x, rfl, hb, hz, hc0⟩ := hr1.str_ (k := 0) (by simp)
  obtain rfl : l0 = x := by have := hz.out; simpa using this
  rw [Nat.add_zero] at hc0
  have hrt := Rd.tail_ hr1
  have HR1 := Lib.hid hrt
  have HC0 := Lib.hid hc0
  clear hr1 hrt hz hc0
  go_wp2
  go_loopw [5, 6] (fun v i wr => PsRel w1 ls nw v i wr) (fun _ i _ => nw + 1 - (intOf i).toNat)
  case atStart => exact ⟨0, [], Nat.zero_le _, rfl, rfl, rfl, by simp, own_empty w1 _, (Below.refl _ _).alloc (Nat.le_refl _) _⟩
  case round =>
    obtain ⟨k, zs, hk, rfl, hzl, hzo, hzt, hown, hbel⟩ := hrel
    by_cases hlt : k < nw
    · exact absurd hlt (by omega)
    · obtain rfl : k = nw := by omega
      rw [List.take_of_length_le (by rw [HNW.out]; exact Nat.le_refl _)] at hzt
      have HZ := Lib.hid (And.intro hzl (And.intro hzo hzt))
      have HB2 := Lib.hid (HB1.out.trans (hbel.mono HB1.out.size))
      have HX2 := Lib.hid (HX1.out.below hbel z1)
      have kw : ∀ o, (wr.alloc o).cell? ⟨b, off, none⟩ = some (.string ⟨#[109, 101, 108, 116]⟩) := fun o => by rw [World.cell?_alloc_lt wr o _ (by have := hbel.size; show b < _; omega), hbel.cell (p := ⟨b, off, none⟩) hb, HC0.out, HL0.out]
      have z2 := hbel.size
      obtain ⟨A5, c5, rfl⟩ := own_form hown
      have HO := Lib.hid hown
      clear hzl hzo hzt hown hbel
      have hal := fun o => ((Below.refl wr.heap.size wr).alloc (Nat.le_refl _) o)
      have hE : evL l = ⟨3, [], 0, 0, 0⟩ := by
        unfold evL
        rw [HWS.out, evOf_cons, HL0.out]
        have hmap : ls.map numW = zs := by rw [HZ.out.2.2]; exact numW_map HZ.out.2.1
        rw [hmap]
        exact evOf_melt zs
      have hqq : (showL ⟨3, [], 0, 0, 0⟩ == l) = true := by
        have := HQ.out
        unfold parB at this
        rw [hE] at this
        exact beq_iff_eq.2 (of_decide_eq_true this)
      have HE := Lib.hid (HEV.out.symm.trans hE)
      have cS := fun o => sShow_any ⟨3, [], 0, 0, 0⟩ none 0 (wr.alloc o) (Rd.nil_) (by simp only; simp)
      unfold evV FmPost str at cS
      simp only [List.length_nil] at cS
      generalize showL ⟨3, [], 0, 0, 0⟩ = t at *
      clear hE
      skip
      have HCS := Lib.hid cS
      have HAL := Lib.hid hal
      clear cS hal
      go_wp2_with fail
      refine (HCS.out _).mono ?_
      rintro e w3 ⟨rfl, b3⟩
      have HB3 := Lib.hid ((HB2.out.trans ((HAL.out _).mono HB2.out.size)).trans (b3.mono (Nat.le_trans HB2.out.size (HAL.out _).size)))
      have HX3 := Lib.hid ((HX2.out.below (HAL.out _) (by omega)).below b3 (by have := (HAL.out (.cells #[.int .i64 3, .slice none 0 0, .int .i64 0, .int .i64 0, .int .i64 0] 43)).size; omega))
      have HY3 := Lib.hid (((Box5.alloc_ wr 43 (v0 := .int .i64 3) (v1 := .slice none 0 0) (v2 := .int .i64 0) (v3 := .int .i64 0) (v4 := .int .i64 0))).below b3 (by simp))
      have HO3 := Lib.hid (own_below (own_below HO.out (HAL.out _)) b3)
      obtain ⟨k0, k1, k2, k3, k4, kf, _⟩ := HX3.out
      obtain ⟨j0, j1, j2, j3, j4, _, _⟩ := HY3.out
      clear b3 HCS HAL
      go_wp2
      exact bodyPost_ret (v := .tuple #[.agg #[.int .i64 3, .slice none 0 0, .int .i64 0, .int .i64 0, .int .i64 0], .bool true]) (by simp [results, Try.results80, go_sem, k0, k1, k2, k3, k4]) rfl (paPost_mk (e := ev) (n := 0) (A := none) (c := 0) (by rw [HE.out]; rfl) (by rw [HE.out]) (⟨by rw [HE.out]; simp [ints], .inl ⟨rfl, rfl⟩⟩) (HB3.out.trans (five_below _ (Nat.le_refl _) _ _ _ _ _)))
set_option maxRecDepth 100000 in
set_option maxHeartbeats 2000000 in
theorem sPar_sellT (l : List UInt8) (s : ByteArray) (hs : s = ⟨l.toArray⟩) (l0 : List UInt8) (ls : List (List UInt8)) (hws : splitL 32 l = l0 :: ls) (hl : l.length ≤ 1048576) (ev : Ev) (hev : evL l = ev) (h0 : l0 = [115, 101, 108, 108]) (hn1 : ls.length = 2) (hq : parB l = true) (w : World) :
    Calls Try.prog 80 #[.string s] w (PaPost ev true w) := by
  obtain ⟨i0, hi, hz0, hz1, hz2⟩ := info_parts info_int
  have cW := fun w => splitAt_any l (by omega) s hs 32 w
  have hsl : s.toList = l := by rw [hs, ByteArray.toList_eq]
  rw [hws] at cW
  obtain ⟨nw, hnw⟩ : ∃ nw, ls.length = nw := ⟨_, rfl⟩
  have hnl : nw ≤ 1048576 := by have := (splitL_len 32 l).2; rw [hws] at this; simp at this; omega
  have HLEN : Hid (∀ p ∈ ls, p.length ≤ 4000000) := Lib.hid fun p hp => by have := splitL_mem (c := 32) l p (by rw [hws]; exact List.mem_cons_of_mem _ hp); omega
  have HBAD : Hid (∀ p ∈ ls, (∀ y : Int, -999999 ≤ y → y ≤ 999999 → p ≠ sgnL y) → parB l = false) := Lib.hid fun p hp h => par_bad (by rw [hws]; exact hp) h
  have HQ := Lib.hid hq
  have HWS := Lib.hid hws
  have hn2 := hn1
  rw [hnw] at hn2
  clear hn1
  have HNW := Lib.hid hnw
  unfold OutS at cW
  simp only [List.length_cons, hnw] at cW
  have ha : ∀ o, Below w.heap.size w (w.alloc o) := fun o => (Below.refl _ _).alloc (Nat.le_refl _) o
  have HL0 := Lib.hid h0
  have HEV := Lib.hid hev
  clear h0 hev
  clear hws hnw hs hl hq
  go_enter Try.func80, Try.ntmps80
  go_wp2_with fail
  refine (cW _).mono ?_
  rintro e w1 ⟨A1, c1, rfl, o1, b1⟩
  have HB1 := Lib.hid ((ha _).trans (b1.mono (ha _).size))
  have HX1 := Lib.hid ((Box5.alloc_ w 43).below b1 (by simp))
  have z1 : w.heap.size < w1.heap.size := by have := b1.size; simp at this; omega
  have hr1 : Rd w1 w1.heap.size A1 (strs (l0 :: ls)) := Rd.own o1
  clear o1 b1 cW ha
  obtain ⟨b, off, x, rfl, hb, hz, hc0⟩ := hr1.str_ (k := 0) (by simp)
  obtain rfl : l0 = x := by have := hz.out; simpa using this
  rw [Nat.add_zero] at hc0
  have hrt := Rd.tail_ hr1
  have HR1 := Lib.hid hrt
  have HC0 := Lib.hid hc0
  clear hr1 hrt hz hc0
  go_wp2
  go_loopw [5, 6] (fun v i wr => PsRel w1 ls nw v i wr) (fun _ i _ => nw + 1 - (intOf i).toNat)
  case atStart => exact ⟨0, [], Nat.zero_le _, rfl, rfl, rfl, by simp, own_empty w1 _, (Below.refl _ _).alloc (Nat.le_refl _) _⟩
  case round =>
    obtain ⟨k, zs, hk, rfl, hzl, hzo, hzt, hown, hbel⟩ := hrel
    by_cases hlt : k < nw
    · obtain ⟨b', off', p, hA', hb', hz, hcp⟩ := (HR1.out.below hbel).str_ (k := k) (by rw [HNW.out]; exact hlt)
      obtain ⟨rfl, rfl⟩ : b = b' ∧ off + 1 = off' := by simpa using hA'
      rw [show off + 1 + k = off + (k + 1) by omega] at hcp
      have hmem := List.mem_of_getElem? hz.out
      have cR := fun w => readSigned_any p (HLEN.out p hmem) ⟨p.toArray⟩ rfl w
      have HO := Lib.hid (And.intro hown hbel)
      have HZ := Lib.hid (And.intro hzl (And.intro hzo hzt))
      have HM := Lib.hid hmem
      have z2 := hbel.size
      have hbo := own_block hown
      have HBO := Lib.hid hbo
      clear hown hbel hzl hzo hzt hA' hb' hmem hbo
      go_wp2_with fail
      refine (cR _).mono ?_
      rintro e w' ⟨z, q, hR, rfl, rfl⟩
      have HR := Lib.hid hR
      clear hR cR
      cases q
      · exact absurd (HBAD.out p HM.out (HR.out.2 rfl)) (by rw [HQ.out]; decide)
      · have hzr := (HR.out.1 rfl).2
        go_wp2_with (at_builtin; refine wpList_append_own _ rfl _ _ 37 rfl (w1.heap.size) 3 i0 (.int .i64 0) 1 8 Try.underlying37 hi hz0 hz1 hz2 rfl (by decide) _ _ _ rfl (HO.out.1.alloc _) ⟨wr.heap.size, 0, none⟩ 1 1 [.int .i64 z] rfl rfl ?c1 ?c2 ?c3 ?c4 ?c5 ?_)
        case c1 => first | exact one_new _ _ _ _ rfl | exact one_new _ _ _ _ (by simp)
        case c2 => first | rfl | (intro u hu; simp at hu; subst hu; rfl)
        case c3 => unfold maxLen; omega
        case c4 => omega
        case c5 => simp; omega
        · intro v' w5 hown' hgrow _
          have hb5 : Below w1.heap.size w1 w5 := (HO.out.2.alloc z2 _).grown hgrow (by simp; omega) HBO.out
          have R : PsRel w1 ls nw v' (.int .i64 ((k + 1 + 1 : Nat) : Int)) w5 := ⟨k + 1, zs ++ [z], hlt, rfl, by rw [List.length_append, HZ.out.1]; rfl, by have := HZ.out.2.1; unfold okTs at this ⊢; rw [List.all_append, this]; simp [inB_mk hzr], by rw [take_snoc hz.out, HZ.out.2.2, (HR.out.1 rfl).1, List.map_append]; rfl, by rw [ints_snoc']; exact hown', hb5⟩
          have HP := Lib.hid R
          clear R hb5 hown' hgrow
          go_wp2
          go_roundw
          case rel => first | exact HP.out | (have := HP.out; simpa using this)
          case measure => simp [intOf]; omega
    · obtain rfl : k = nw := by omega
      rw [List.take_of_length_le (by rw [HNW.out]; exact Nat.le_refl _)] at hzt
      have HZ := Lib.hid (And.intro hzl (And.intro hzo hzt))
      have HB2 := Lib.hid (HB1.out.trans (hbel.mono HB1.out.size))
      have HX2 := Lib.hid (HX1.out.below hbel z1)
      have kw : ∀ o, (wr.alloc o).cell? ⟨b, off, none⟩ = some (.string ⟨#[115, 101, 108, 108]⟩) := fun o => by rw [World.cell?_alloc_lt wr o _ (by have := hbel.size; show b < _; omega), hbel.cell (p := ⟨b, off, none⟩) hb, HC0.out, HL0.out]
      have z2 := hbel.size
      obtain ⟨A5, c5, rfl⟩ := own_form hown
      have HO := Lib.hid hown
      clear hzl hzo hzt hown hbel
      have hal := fun o => ((Below.refl wr.heap.size wr).alloc (Nat.le_refl _) o).drew
      have hE : evL l = ⟨2, [], 0, (at_ zs 0), (at_ zs 1)⟩ := by
        unfold evL
        rw [HWS.out, evOf_cons, HL0.out]
        have hmap : ls.map numW = zs := by rw [HZ.out.2.2]; exact numW_map HZ.out.2.1
        rw [hmap]
        exact evOf_sell (by rw [HNW.out]; exact hn2)
      have hqq : (showL ⟨2, [], 0, (at_ zs 0), (at_ zs 1)⟩ == l) = true := by
        have := HQ.out
        unfold parB at this
        rw [hE] at this
        exact beq_iff_eq.2 (of_decide_eq_true this)
      have HE := Lib.hid (HEV.out.symm.trans hE)
      have cS := fun o => sShow_any ⟨2, [], 0, (at_ zs 0), (at_ zs 1)⟩ none 0 (wr.alloc o).drew (Rd.nil_) (by simp only; simp)
      unfold evV FmPost str at cS
      simp only [List.length_nil] at cS
      generalize showL ⟨2, [], 0, (at_ zs 0), (at_ zs 1)⟩ = t at *
      clear hE
      obtain ⟨g, hA, hg, hgl, _, _⟩ := own_some HO.out (by omega)
      subst hA
      have kz0 : ∀ o, (wr.alloc o).cell? ⟨g, 0, none⟩ = some (.int .i64 (at_ zs 0)) := fun o => by rw [World.cell?_alloc_lt wr o _ hgl]; exact own_cell HO.out (ints_at' (zs := zs) (k := 0) (by have := HZ.out.1; omega))
      have kz1 : ∀ o, (wr.alloc o).cell? ⟨g, 1, none⟩ = some (.int .i64 (at_ zs 1)) := fun o => by rw [World.cell?_alloc_lt wr o _ hgl]; exact own_cell HO.out (ints_at' (zs := zs) (k := 1) (by have := HZ.out.1; omega))
      clear hg hgl
      have HCS := Lib.hid cS
      have HAL := Lib.hid hal
      clear cS hal
      go_wp2
      go_region
      go_wp2_with fail
      refine (HCS.out _).mono ?_
      rintro e w3 ⟨rfl, b3⟩
      have HB3 := Lib.hid ((HB2.out.trans ((HAL.out _).mono HB2.out.size)).trans (b3.mono (Nat.le_trans HB2.out.size (HAL.out _).size)))
      have HX3 := Lib.hid ((HX2.out.below (HAL.out _) (by omega)).below b3 (by have := (HAL.out (.cells #[.int .i64 2, .slice none 0 0, .int .i64 0, .int .i64 (at_ zs 0), .int .i64 (at_ zs 1)] 43)).size; omega))
      have HY3 := Lib.hid (((Box5.alloc_ wr 43 (v0 := .int .i64 2) (v1 := .slice none 0 0) (v2 := .int .i64 0) (v3 := .int .i64 (at_ zs 0)) (v4 := .int .i64 (at_ zs 1))).drew_).below b3 (by simp))
      have HO3 := Lib.hid (own_below (own_below HO.out (HAL.out _)) b3)
      obtain ⟨k0, k1, k2, k3, k4, kf, _⟩ := HX3.out
      obtain ⟨j0, j1, j2, j3, j4, _, _⟩ := HY3.out
      clear b3 HCS HAL
      go_wp2
      exact bodyPost_ret (v := .tuple #[.agg #[.int .i64 2, .slice none 0 0, .int .i64 0, .int .i64 (at_ zs 0), .int .i64 (at_ zs 1)], .bool true]) (by simp [results, Try.results80, go_sem, k0, k1, k2, k3, k4]) rfl (paPost_mk (e := ev) (n := 0) (A := none) (c := 0) (by rw [HE.out]; rfl) (by rw [HE.out]) (⟨by rw [HE.out]; simp [ints], .inl ⟨rfl, rfl⟩⟩) (HB3.out.trans (five_below _ (Nat.le_refl _) _ _ _ _ _)))
set_option maxRecDepth 100000 in
set_option maxHeartbeats 2000000 in
theorem sPar_coldF (l : List UInt8) (s : ByteArray) (hs : s = ⟨l.toArray⟩) (l0 : List UInt8) (ls : List (List UInt8)) (hws : splitL 32 l = l0 :: ls) (hl : l.length ≤ 1048576) (ev : Ev) (hev : evL l = ev) (h0 : l0 = [99, 111, 108, 100]) (hq : parB l = false) (w : World) :
    Calls Try.prog 80 #[.string s] w (PaPost evZ false w) := by
  obtain ⟨i0, hi, hz0, hz1, hz2⟩ := info_parts info_int
  have cW := fun w => splitAt_any l (by omega) s hs 32 w
  have hsl : s.toList = l := by rw [hs, ByteArray.toList_eq]
  rw [hws] at cW
  obtain ⟨nw, hnw⟩ : ∃ nw, ls.length = nw := ⟨_, rfl⟩
  have hnl : nw ≤ 1048576 := by have := (splitL_len 32 l).2; rw [hws] at this; simp at this; omega
  have HLEN : Hid (∀ p ∈ ls, p.length ≤ 4000000) := Lib.hid fun p hp => by have := splitL_mem (c := 32) l p (by rw [hws]; exact List.mem_cons_of_mem _ hp); omega
  have HBAD : Hid (∀ p ∈ ls, (∀ y : Int, -999999 ≤ y → y ≤ 999999 → p ≠ sgnL y) → parB l = false) := Lib.hid fun p hp h => par_bad (by rw [hws]; exact hp) h
  have HQ := Lib.hid hq
  have HWS := Lib.hid hws
  have HNW := Lib.hid hnw
  unfold OutS at cW
  simp only [List.length_cons, hnw] at cW
  have ha : ∀ o, Below w.heap.size w (w.alloc o) := fun o => (Below.refl _ _).alloc (Nat.le_refl _) o
  have HL0 := Lib.hid h0
  have HEV := Lib.hid hev
  clear h0 hev
  clear hws hnw hs hl hq
  go_enter Try.func80, Try.ntmps80
  go_wp2_with fail
  refine (cW _).mono ?_
  rintro e w1 ⟨A1, c1, rfl, o1, b1⟩
  have HB1 := Lib.hid ((ha _).trans (b1.mono (ha _).size))
  have HX1 := Lib.hid ((Box5.alloc_ w 43).below b1 (by simp))
  have z1 : w.heap.size < w1.heap.size := by have := b1.size; simp at this; omega
  have hr1 : Rd w1 w1.heap.size A1 (strs (l0 :: ls)) := Rd.own o1
  clear o1 b1 cW ha
  obtain ⟨b, off, x, rfl, hb, hz, hc0⟩ := hr1.str_ (k := 0) (by simp)
  obtain rfl : l0 = x := by have := hz.out; simpa using this
  rw [Nat.add_zero] at hc0
  have hrt := Rd.tail_ hr1
  have HR1 := Lib.hid hrt
  have HC0 := Lib.hid hc0
  clear hr1 hrt hz hc0
  go_wp2
  go_loopw [5, 6] (fun v i wr => PsRel w1 ls nw v i wr) (fun _ i _ => nw + 1 - (intOf i).toNat)
  case atStart => exact ⟨0, [], Nat.zero_le _, rfl, rfl, rfl, by simp, own_empty w1 _, (Below.refl _ _).alloc (Nat.le_refl _) _⟩
  case round =>
    obtain ⟨k, zs, hk, rfl, hzl, hzo, hzt, hown, hbel⟩ := hrel
    by_cases hlt : k < nw
    · obtain ⟨b', off', p, hA', hb', hz, hcp⟩ := (HR1.out.below hbel).str_ (k := k) (by rw [HNW.out]; exact hlt)
      obtain ⟨rfl, rfl⟩ : b = b' ∧ off + 1 = off' := by simpa using hA'
      rw [show off + 1 + k = off + (k + 1) by omega] at hcp
      have hmem := List.mem_of_getElem? hz.out
      have cR := fun w => readSigned_any p (HLEN.out p hmem) ⟨p.toArray⟩ rfl w
      have HO := Lib.hid (And.intro hown hbel)
      have HZ := Lib.hid (And.intro hzl (And.intro hzo hzt))
      have HM := Lib.hid hmem
      have z2 := hbel.size
      have hbo := own_block hown
      have HBO := Lib.hid hbo
      clear hown hbel hzl hzo hzt hA' hb' hmem hbo
      go_wp2_with fail
      refine (cR _).mono ?_
      rintro e w' ⟨z, q, hR, rfl, rfl⟩
      have HR := Lib.hid hR
      clear hR cR
      cases q
      · have HF := Lib.hid (HX1.out.below HO.out.2 z1)
        have HB := Lib.hid (HB1.out.trans (HO.out.2.mono HB1.out.size))
        obtain ⟨k0, k1, k2, k3, k4, kf, _⟩ := HF.out
        go_wp2
        exact bodyPost_ret (v := .tuple #[.agg #[.int .i64 0, .slice none 0 0, .int .i64 0, .int .i64 0, .int .i64 0], .bool false]) (by simp [results, Try.results80, go_sem, k0, k1, k2, k3, k4]) rfl (paPost_mk (e := evZ) rfl rfl ⟨by simp [ints, evZ], .inl ⟨rfl, rfl⟩⟩ (HB.out.trans (five_below _ (Nat.le_refl _) _ _ _ _ _)))
      · have hzr := (HR.out.1 rfl).2
        go_wp2_with (at_builtin; refine wpList_append_own _ rfl _ _ 37 rfl (w1.heap.size) 3 i0 (.int .i64 0) 1 8 Try.underlying37 hi hz0 hz1 hz2 rfl (by decide) _ _ _ rfl (HO.out.1.alloc _) ⟨wr.heap.size, 0, none⟩ 1 1 [.int .i64 z] rfl rfl ?c1 ?c2 ?c3 ?c4 ?c5 ?_)
        case c1 => first | exact one_new _ _ _ _ rfl | exact one_new _ _ _ _ (by simp)
        case c2 => first | rfl | (intro u hu; simp at hu; subst hu; rfl)
        case c3 => unfold maxLen; omega
        case c4 => omega
        case c5 => simp; omega
        · intro v' w5 hown' hgrow _
          have hb5 : Below w1.heap.size w1 w5 := (HO.out.2.alloc z2 _).grown hgrow (by simp; omega) HBO.out
          have R : PsRel w1 ls nw v' (.int .i64 ((k + 1 + 1 : Nat) : Int)) w5 := ⟨k + 1, zs ++ [z], hlt, rfl, by rw [List.length_append, HZ.out.1]; rfl, by have := HZ.out.2.1; unfold okTs at this ⊢; rw [List.all_append, this]; simp [inB_mk hzr], by rw [take_snoc hz.out, HZ.out.2.2, (HR.out.1 rfl).1, List.map_append]; rfl, by rw [ints_snoc']; exact hown', hb5⟩
          have HP := Lib.hid R
          clear R hb5 hown' hgrow
          go_wp2
          go_roundw
          case rel => first | exact HP.out | (have := HP.out; simpa using this)
          case measure => simp [intOf]; omega
    · obtain rfl : k = nw := by omega
      rw [List.take_of_length_le (by rw [HNW.out]; exact Nat.le_refl _)] at hzt
      have HZ := Lib.hid (And.intro hzl (And.intro hzo hzt))
      have HB2 := Lib.hid (HB1.out.trans (hbel.mono HB1.out.size))
      have HX2 := Lib.hid (HX1.out.below hbel z1)
      have kw : ∀ o, (wr.alloc o).cell? ⟨b, off, none⟩ = some (.string ⟨#[99, 111, 108, 100]⟩) := fun o => by rw [World.cell?_alloc_lt wr o _ (by have := hbel.size; show b < _; omega), hbel.cell (p := ⟨b, off, none⟩) hb, HC0.out, HL0.out]
      have z2 := hbel.size
      obtain ⟨A5, c5, rfl⟩ := own_form hown
      have HO := Lib.hid hown
      clear hzl hzo hzt hown hbel
      have hal := fun o => ((Below.refl wr.heap.size wr).alloc (Nat.le_refl _) o)
      have hE : evL l = ⟨0, zs, 0, 0, 0⟩ := by
        unfold evL
        rw [HWS.out, evOf_cons, HL0.out]
        have hmap : ls.map numW = zs := by rw [HZ.out.2.2]; exact numW_map HZ.out.2.1
        rw [hmap]
        rfl
      have hqq : (showL ⟨0, zs, 0, 0, 0⟩ == l) = false := by
        have := HQ.out
        unfold parB at this
        rw [hE] at this
        exact beq_eq_false_iff_ne.2 (of_decide_eq_false this)
      have HE := Lib.hid (HEV.out.symm.trans hE)
      have cS := fun o => sShow_any ⟨0, zs, 0, 0, 0⟩ A5 c5 (wr.alloc o) (((Rd.own HO.out).below (hal o)).more (hal o).size) (by simp only; rw [HZ.out.1]; exact hnl)
      unfold evV FmPost str at cS
      simp only [HZ.out.1] at cS
      generalize showL ⟨0, zs, 0, 0, 0⟩ = t at *
      clear hE
      skip
      have HCS := Lib.hid cS
      have HAL := Lib.hid hal
      clear cS hal
      go_wp2_with fail
      refine (HCS.out _).mono ?_
      rintro e w3 ⟨rfl, b3⟩
      have HB3 := Lib.hid ((HB2.out.trans ((HAL.out _).mono HB2.out.size)).trans (b3.mono (Nat.le_trans HB2.out.size (HAL.out _).size)))
      have HX3 := Lib.hid ((HX2.out.below (HAL.out _) (by omega)).below b3 (by have := (HAL.out (.cells #[.int .i64 0, .slice A5 k c5, .int .i64 0, .int .i64 0, .int .i64 0] 43)).size; omega))
      have HY3 := Lib.hid (((Box5.alloc_ wr 43 (v0 := .int .i64 0) (v1 := .slice A5 k c5) (v2 := .int .i64 0) (v3 := .int .i64 0) (v4 := .int .i64 0))).below b3 (by simp))
      have HO3 := Lib.hid (own_below (own_below HO.out (HAL.out _)) b3)
      obtain ⟨k0, k1, k2, k3, k4, kf, _⟩ := HX3.out
      obtain ⟨j0, j1, j2, j3, j4, _, _⟩ := HY3.out
      clear b3 HCS HAL
      go_wp2
      exact bodyPost_ret (v := .tuple #[.agg #[.int .i64 0, .slice none 0 0, .int .i64 0, .int .i64 0, .int .i64 0], .bool false]) (by simp [results, Try.results80, go_sem, k0, k1, k2, k3, k4]) rfl (paPost_mk (e := evZ) rfl rfl ⟨by simp [ints, evZ], .inl ⟨rfl, rfl⟩⟩ (HB3.out.trans (five_below _ (Nat.le_refl _) _ _ _ _ _)))
set_option maxRecDepth 100000 in
set_option maxHeartbeats 2000000 in
theorem sPar_cutF (l : List UInt8) (s : ByteArray) (hs : s = ⟨l.toArray⟩) (l0 : List UInt8) (ls : List (List UInt8)) (hws : splitL 32 l = l0 :: ls) (hl : l.length ≤ 1048576) (ev : Ev) (hev : evL l = ev) (h0 : l0 = [99, 117, 116]) (hn1 : ls.length = 1) (hq : parB l = false) (w : World) :
    Calls Try.prog 80 #[.string s] w (PaPost evZ false w) := by
  obtain ⟨i0, hi, hz0, hz1, hz2⟩ := info_parts info_int
  have cW := fun w => splitAt_any l (by omega) s hs 32 w
  have hsl : s.toList = l := by rw [hs, ByteArray.toList_eq]
  rw [hws] at cW
  obtain ⟨nw, hnw⟩ : ∃ nw, ls.length = nw := ⟨_, rfl⟩
  have hnl : nw ≤ 1048576 := by have := (splitL_len 32 l).2; rw [hws] at this; simp at this; omega
  have HLEN : Hid (∀ p ∈ ls, p.length ≤ 4000000) := Lib.hid fun p hp => by have := splitL_mem (c := 32) l p (by rw [hws]; exact List.mem_cons_of_mem _ hp); omega
  have HBAD : Hid (∀ p ∈ ls, (∀ y : Int, -999999 ≤ y → y ≤ 999999 → p ≠ sgnL y) → parB l = false) := Lib.hid fun p hp h => par_bad (by rw [hws]; exact hp) h
  have HQ := Lib.hid hq
  have HWS := Lib.hid hws
  have hn2 := hn1
  rw [hnw] at hn2
  clear hn1
  have HNW := Lib.hid hnw
  unfold OutS at cW
  simp only [List.length_cons, hnw] at cW
  have ha : ∀ o, Below w.heap.size w (w.alloc o) := fun o => (Below.refl _ _).alloc (Nat.le_refl _) o
  have HL0 := Lib.hid h0
  have HEV := Lib.hid hev
  clear h0 hev
  clear hws hnw hs hl hq
  go_enter Try.func80, Try.ntmps80
  go_wp2_with fail
  refine (cW _).mono ?_
  rintro e w1 ⟨A1, c1, rfl, o1, b1⟩
  have HB1 := Lib.hid ((ha _).trans (b1.mono (ha _).size))
  have HX1 := Lib.hid ((Box5.alloc_ w 43).below b1 (by simp))
  have z1 : w.heap.size < w1.heap.size := by have := b1.size; simp at this; omega
  have hr1 : Rd w1 w1.heap.size A1 (strs (l0 :: ls)) := Rd.own o1
  clear o1 b1 cW ha
  obtain ⟨b, off, x, rfl, hb, hz, hc0⟩ := hr1.str_ (k := 0) (by simp)
  obtain rfl : l0 = x := by have := hz.out; simpa using this
  rw [Nat.add_zero] at hc0
  have hrt := Rd.tail_ hr1
  have HR1 := Lib.hid hrt
  have HC0 := Lib.hid hc0
  clear hr1 hrt hz hc0
  go_wp2
  go_loopw [5, 6] (fun v i wr => PsRel w1 ls nw v i wr) (fun _ i _ => nw + 1 - (intOf i).toNat)
  case atStart => exact ⟨0, [], Nat.zero_le _, rfl, rfl, rfl, by simp, own_empty w1 _, (Below.refl _ _).alloc (Nat.le_refl _) _⟩
  case round =>
    obtain ⟨k, zs, hk, rfl, hzl, hzo, hzt, hown, hbel⟩ := hrel
    by_cases hlt : k < nw
    · obtain ⟨b', off', p, hA', hb', hz, hcp⟩ := (HR1.out.below hbel).str_ (k := k) (by rw [HNW.out]; exact hlt)
      obtain ⟨rfl, rfl⟩ : b = b' ∧ off + 1 = off' := by simpa using hA'
      rw [show off + 1 + k = off + (k + 1) by omega] at hcp
      have hmem := List.mem_of_getElem? hz.out
      have cR := fun w => readSigned_any p (HLEN.out p hmem) ⟨p.toArray⟩ rfl w
      have HO := Lib.hid (And.intro hown hbel)
      have HZ := Lib.hid (And.intro hzl (And.intro hzo hzt))
      have HM := Lib.hid hmem
      have z2 := hbel.size
      have hbo := own_block hown
      have HBO := Lib.hid hbo
      clear hown hbel hzl hzo hzt hA' hb' hmem hbo
      go_wp2_with fail
      refine (cR _).mono ?_
      rintro e w' ⟨z, q, hR, rfl, rfl⟩
      have HR := Lib.hid hR
      clear hR cR
      cases q
      · have HF := Lib.hid (HX1.out.below HO.out.2 z1)
        have HB := Lib.hid (HB1.out.trans (HO.out.2.mono HB1.out.size))
        obtain ⟨k0, k1, k2, k3, k4, kf, _⟩ := HF.out
        go_wp2
        exact bodyPost_ret (v := .tuple #[.agg #[.int .i64 0, .slice none 0 0, .int .i64 0, .int .i64 0, .int .i64 0], .bool false]) (by simp [results, Try.results80, go_sem, k0, k1, k2, k3, k4]) rfl (paPost_mk (e := evZ) rfl rfl ⟨by simp [ints, evZ], .inl ⟨rfl, rfl⟩⟩ (HB.out.trans (five_below _ (Nat.le_refl _) _ _ _ _ _)))
      · have hzr := (HR.out.1 rfl).2
        go_wp2_with (at_builtin; refine wpList_append_own _ rfl _ _ 37 rfl (w1.heap.size) 3 i0 (.int .i64 0) 1 8 Try.underlying37 hi hz0 hz1 hz2 rfl (by decide) _ _ _ rfl (HO.out.1.alloc _) ⟨wr.heap.size, 0, none⟩ 1 1 [.int .i64 z] rfl rfl ?c1 ?c2 ?c3 ?c4 ?c5 ?_)
        case c1 => first | exact one_new _ _ _ _ rfl | exact one_new _ _ _ _ (by simp)
        case c2 => first | rfl | (intro u hu; simp at hu; subst hu; rfl)
        case c3 => unfold maxLen; omega
        case c4 => omega
        case c5 => simp; omega
        · intro v' w5 hown' hgrow _
          have hb5 : Below w1.heap.size w1 w5 := (HO.out.2.alloc z2 _).grown hgrow (by simp; omega) HBO.out
          have R : PsRel w1 ls nw v' (.int .i64 ((k + 1 + 1 : Nat) : Int)) w5 := ⟨k + 1, zs ++ [z], hlt, rfl, by rw [List.length_append, HZ.out.1]; rfl, by have := HZ.out.2.1; unfold okTs at this ⊢; rw [List.all_append, this]; simp [inB_mk hzr], by rw [take_snoc hz.out, HZ.out.2.2, (HR.out.1 rfl).1, List.map_append]; rfl, by rw [ints_snoc']; exact hown', hb5⟩
          have HP := Lib.hid R
          clear R hb5 hown' hgrow
          go_wp2
          go_roundw
          case rel => first | exact HP.out | (have := HP.out; simpa using this)
          case measure => simp [intOf]; omega
    · obtain rfl : k = nw := by omega
      rw [List.take_of_length_le (by rw [HNW.out]; exact Nat.le_refl _)] at hzt
      have HZ := Lib.hid (And.intro hzl (And.intro hzo hzt))
      have HB2 := Lib.hid (HB1.out.trans (hbel.mono HB1.out.size))
      have HX2 := Lib.hid (HX1.out.below hbel z1)
      have kw : ∀ o, (wr.alloc o).cell? ⟨b, off, none⟩ = some (.string ⟨#[99, 117, 116]⟩) := fun o => by rw [World.cell?_alloc_lt wr o _ (by have := hbel.size; show b < _; omega), hbel.cell (p := ⟨b, off, none⟩) hb, HC0.out, HL0.out]
      have z2 := hbel.size
      obtain ⟨A5, c5, rfl⟩ := own_form hown
      have HO := Lib.hid hown
      clear hzl hzo hzt hown hbel
      have hal := fun o => ((Below.refl wr.heap.size wr).alloc (Nat.le_refl _) o)
      have hE : evL l = ⟨1, [], (at_ zs 0), 0, 0⟩ := by
        unfold evL
        rw [HWS.out, evOf_cons, HL0.out]
        have hmap : ls.map numW = zs := by rw [HZ.out.2.2]; exact numW_map HZ.out.2.1
        rw [hmap]
        exact evOf_cut (by rw [HNW.out]; exact hn2)
      have hqq : (showL ⟨1, [], (at_ zs 0), 0, 0⟩ == l) = false := by
        have := HQ.out
        unfold parB at this
        rw [hE] at this
        exact beq_eq_false_iff_ne.2 (of_decide_eq_false this)
      have HE := Lib.hid (HEV.out.symm.trans hE)
      have cS := fun o => sShow_any ⟨1, [], (at_ zs 0), 0, 0⟩ none 0 (wr.alloc o) (Rd.nil_) (by simp only; simp)
      unfold evV FmPost str at cS
      simp only [List.length_nil] at cS
      generalize showL ⟨1, [], (at_ zs 0), 0, 0⟩ = t at *
      clear hE
      obtain ⟨g, hA, hg, hgl, _, _⟩ := own_some HO.out (by omega)
      subst hA
      have kz0 : ∀ o, (wr.alloc o).cell? ⟨g, 0, none⟩ = some (.int .i64 (at_ zs 0)) := fun o => by rw [World.cell?_alloc_lt wr o _ hgl]; exact own_cell HO.out (ints_at' (zs := zs) (k := 0) (by have := HZ.out.1; omega))
      clear hg hgl
      have HCS := Lib.hid cS
      have HAL := Lib.hid hal
      clear cS hal
      go_wp2_with fail
      refine (HCS.out _).mono ?_
      rintro e w3 ⟨rfl, b3⟩
      have HB3 := Lib.hid ((HB2.out.trans ((HAL.out _).mono HB2.out.size)).trans (b3.mono (Nat.le_trans HB2.out.size (HAL.out _).size)))
      have HX3 := Lib.hid ((HX2.out.below (HAL.out _) (by omega)).below b3 (by have := (HAL.out (.cells #[.int .i64 1, .slice none 0 0, .int .i64 (at_ zs 0), .int .i64 0, .int .i64 0] 43)).size; omega))
      have HY3 := Lib.hid (((Box5.alloc_ wr 43 (v0 := .int .i64 1) (v1 := .slice none 0 0) (v2 := .int .i64 (at_ zs 0)) (v3 := .int .i64 0) (v4 := .int .i64 0))).below b3 (by simp))
      have HO3 := Lib.hid (own_below (own_below HO.out (HAL.out _)) b3)
      obtain ⟨k0, k1, k2, k3, k4, kf, _⟩ := HX3.out
      obtain ⟨j0, j1, j2, j3, j4, _, _⟩ := HY3.out
      clear b3 HCS HAL
      go_wp2
      exact bodyPost_ret (v := .tuple #[.agg #[.int .i64 0, .slice none 0 0, .int .i64 0, .int .i64 0, .int .i64 0], .bool false]) (by simp [results, Try.results80, go_sem, k0, k1, k2, k3, k4]) rfl (paPost_mk (e := evZ) rfl rfl ⟨by simp [ints, evZ], .inl ⟨rfl, rfl⟩⟩ (HB3.out.trans (five_below _ (Nat.le_refl _) _ _ _ _ _)))
set_option maxRecDepth 100000 in
set_option maxHeartbeats 2000000 in
theorem sPar_meltF (l : List UInt8) (s : ByteArray) (hs : s = ⟨l.toArray⟩) (l0 : List UInt8) (ls : List (List UInt8)) (hws : splitL 32 l = l0 :: ls) (hl : l.length ≤ 1048576) (ev : Ev) (hev : evL l = ev) (h0 : l0 = [109, 101, 108, 116]) (hn1 : ls.length = 0) (hq : parB l = false) (w : World) :
    Calls Try.prog 80 #[.string s] w (PaPost evZ false w) := by
  obtain ⟨i0, hi, hz0, hz1, hz2⟩ := info_parts info_int
  have cW := fun w => splitAt_any l (by omega) s hs 32 w
  have hsl : s.toList = l := by rw [hs, ByteArray.toList_eq]
  rw [hws] at cW
  obtain ⟨nw, hnw⟩ : ∃ nw, ls.length = nw := ⟨_, rfl⟩
  have hnl : nw ≤ 1048576 := by have := (splitL_len 32 l).2; rw [hws] at this; simp at this; omega
  have HLEN : Hid (∀ p ∈ ls, p.length ≤ 4000000) := Lib.hid fun p hp => by have := splitL_mem (c := 32) l p (by rw [hws]; exact List.mem_cons_of_mem _ hp); omega
  have HBAD : Hid (∀ p ∈ ls, (∀ y : Int, -999999 ≤ y → y ≤ 999999 → p ≠ sgnL y) → parB l = false) := Lib.hid fun p hp h => par_bad (by rw [hws]; exact hp) h
  have HQ := Lib.hid hq
  have HWS := Lib.hid hws
  have hn2 := hn1
  rw [hnw] at hn2
  clear hn1
  have HNW := Lib.hid hnw
  unfold OutS at cW
  simp only [List.length_cons, hnw] at cW
  have ha : ∀ o, Below w.heap.size w (w.alloc o) := fun o => (Below.refl _ _).alloc (Nat.le_refl _) o
  have HL0 := Lib.hid h0
  have HEV := Lib.hid hev
  clear h0 hev
  clear hws hnw hs hl hq
  go_enter Try.func80, Try.ntmps80
  go_wp2_with fail
  refine (cW _).mono ?_
  rintro e w1 ⟨A1, c1, rfl, o1, b1⟩
  have HB1 := Lib.hid ((ha _).trans (b1.mono (ha _).size))
  have HX1 := Lib.hid ((Box5.alloc_ w 43).below b1 (by simp))
  have z1 : w.heap.size < w1.heap.size := by have := b1.size; simp at this; omega
  have hr1 : Rd w1 w1.heap.size A1 (strs (l0 :: ls)) := Rd.own o1
  clear o1 b1 cW ha
  obtain ⟨b, off, x, rfl, hb, hz, hc0⟩ := hr1.str_ (k := 0) (by simp)
  obtain rfl : l0 = x := by have := hz.out; simpa using this
  rw [Nat.add_zero] at hc0
  have hrt := Rd.tail_ hr1
  have HR1 := Lib.hid hrt
  have HC0 := Lib.hid hc0
  clear hr1 hrt hz hc0
  go_wp2
  go_loopw [5, 6] (fun v i wr => PsRel w1 ls nw v i wr) (fun _ i _ => nw + 1 - (intOf i).toNat)
  case atStart => exact ⟨0, [], Nat.zero_le _, rfl, rfl, rfl, by simp, own_empty w1 _, (Below.refl _ _).alloc (Nat.le_refl _) _⟩
  case round =>
    obtain ⟨k, zs, hk, rfl, hzl, hzo, hzt, hown, hbel⟩ := hrel
    by_cases hlt : k < nw
    · exact absurd hlt (by omega)
    · obtain rfl : k = nw := by omega
      rw [List.take_of_length_le (by rw [HNW.out]; exact Nat.le_refl _)] at hzt
      have HZ := Lib.hid (And.intro hzl (And.intro hzo hzt))
      have HB2 := Lib.hid (HB1.out.trans (hbel.mono HB1.out.size))
      have HX2 := Lib.hid (HX1.out.below hbel z1)
      have kw : ∀ o, (wr.alloc o).cell? ⟨b, off, none⟩ = some (.string ⟨#[109, 101, 108, 116]⟩) := fun o => by rw [World.cell?_alloc_lt wr o _ (by have := hbel.size; show b < _; omega), hbel.cell (p := ⟨b, off, none⟩) hb, HC0.out, HL0.out]
      have z2 := hbel.size
      obtain ⟨A5, c5, rfl⟩ := own_form hown
      have HO := Lib.hid hown
      clear hzl hzo hzt hown hbel
      have hal := fun o => ((Below.refl wr.heap.size wr).alloc (Nat.le_refl _) o)
      have hE : evL l = ⟨3, [], 0, 0, 0⟩ := by
        unfold evL
        rw [HWS.out, evOf_cons, HL0.out]
        have hmap : ls.map numW = zs := by rw [HZ.out.2.2]; exact numW_map HZ.out.2.1
        rw [hmap]
        exact evOf_melt zs
      have hqq : (showL ⟨3, [], 0, 0, 0⟩ == l) = false := by
        have := HQ.out
        unfold parB at this
        rw [hE] at this
        exact beq_eq_false_iff_ne.2 (of_decide_eq_false this)
      have HE := Lib.hid (HEV.out.symm.trans hE)
      have cS := fun o => sShow_any ⟨3, [], 0, 0, 0⟩ none 0 (wr.alloc o) (Rd.nil_) (by simp only; simp)
      unfold evV FmPost str at cS
      simp only [List.length_nil] at cS
      generalize showL ⟨3, [], 0, 0, 0⟩ = t at *
      clear hE
      skip
      have HCS := Lib.hid cS
      have HAL := Lib.hid hal
      clear cS hal
      go_wp2_with fail
      refine (HCS.out _).mono ?_
      rintro e w3 ⟨rfl, b3⟩
      have HB3 := Lib.hid ((HB2.out.trans ((HAL.out _).mono HB2.out.size)).trans (b3.mono (Nat.le_trans HB2.out.size (HAL.out _).size)))
      have HX3 := Lib.hid ((HX2.out.below (HAL.out _) (by omega)).below b3 (by have := (HAL.out (.cells #[.int .i64 3, .slice none 0 0, .int .i64 0, .int .i64 0, .int .i64 0] 43)).size; omega))
      have HY3 := Lib.hid (((Box5.alloc_ wr 43 (v0 := .int .i64 3) (v1 := .slice none 0 0) (v2 := .int .i64 0) (v3 := .int .i64 0) (v4 := .int .i64 0))).below b3 (by simp))
      have HO3 := Lib.hid (own_below (own_below HO.out (HAL.out _)) b3)
      obtain ⟨k0, k1, k2, k3, k4, kf, _⟩ := HX3.out
      obtain ⟨j0, j1, j2, j3, j4, _, _⟩ := HY3.out
      clear b3 HCS HAL
      go_wp2
      exact bodyPost_ret (v := .tuple #[.agg #[.int .i64 0, .slice none 0 0, .int .i64 0, .int .i64 0, .int .i64 0], .bool false]) (by simp [results, Try.results80, go_sem, k0, k1, k2, k3, k4]) rfl (paPost_mk (e := evZ) rfl rfl ⟨by simp [ints, evZ], .inl ⟨rfl, rfl⟩⟩ (HB3.out.trans (five_below _ (Nat.le_refl _) _ _ _ _ _)))
set_option maxRecDepth 100000 in
set_option maxHeartbeats 2000000 in
theorem sPar_sellF (l : List UInt8) (s : ByteArray) (hs : s = ⟨l.toArray⟩) (l0 : List UInt8) (ls : List (List UInt8)) (hws : splitL 32 l = l0 :: ls) (hl : l.length ≤ 1048576) (ev : Ev) (hev : evL l = ev) (h0 : l0 = [115, 101, 108, 108]) (hn1 : ls.length = 2) (hq : parB l = false) (w : World) :
    Calls Try.prog 80 #[.string s] w (PaPost evZ false w) := by
  obtain ⟨i0, hi, hz0, hz1, hz2⟩ := info_parts info_int
  have cW := fun w => splitAt_any l (by omega) s hs 32 w
  have hsl : s.toList = l := by rw [hs, ByteArray.toList_eq]
  rw [hws] at cW
  obtain ⟨nw, hnw⟩ : ∃ nw, ls.length = nw := ⟨_, rfl⟩
  have hnl : nw ≤ 1048576 := by have := (splitL_len 32 l).2; rw [hws] at this; simp at this; omega
  have HLEN : Hid (∀ p ∈ ls, p.length ≤ 4000000) := Lib.hid fun p hp => by have := splitL_mem (c := 32) l p (by rw [hws]; exact List.mem_cons_of_mem _ hp); omega
  have HBAD : Hid (∀ p ∈ ls, (∀ y : Int, -999999 ≤ y → y ≤ 999999 → p ≠ sgnL y) → parB l = false) := Lib.hid fun p hp h => par_bad (by rw [hws]; exact hp) h
  have HQ := Lib.hid hq
  have HWS := Lib.hid hws
  have hn2 := hn1
  rw [hnw] at hn2
  clear hn1
  have HNW := Lib.hid hnw
  unfold OutS at cW
  simp only [List.length_cons, hnw] at cW
  have ha : ∀ o, Below w.heap.size w (w.alloc o) := fun o => (Below.refl _ _).alloc (Nat.le_refl _) o
  have HL0 := Lib.hid h0
  have HEV := Lib.hid hev
  clear h0 hev
  clear hws hnw hs hl hq
  go_enter Try.func80, Try.ntmps80
  go_wp2_with fail
  refine (cW _).mono ?_
  rintro e w1 ⟨A1, c1, rfl, o1, b1⟩
  have HB1 := Lib.hid ((ha _).trans (b1.mono (ha _).size))
  have HX1 := Lib.hid ((Box5.alloc_ w 43).below b1 (by simp))
  have z1 : w.heap.size < w1.heap.size := by have := b1.size; simp at this; omega
  have hr1 : Rd w1 w1.heap.size A1 (strs (l0 :: ls)) := Rd.own o1
  clear o1 b1 cW ha
  obtain ⟨b, off, x, rfl, hb, hz, hc0⟩ := hr1.str_ (k := 0) (by simp)
  obtain rfl : l0 = x := by have := hz.out; simpa using this
  rw [Nat.add_zero] at hc0
  have hrt := Rd.tail_ hr1
  have HR1 := Lib.hid hrt
  have HC0 := Lib.hid hc0
  clear hr1 hrt hz hc0
  go_wp2
  go_loopw [5, 6] (fun v i wr => PsRel w1 ls nw v i wr) (fun _ i _ => nw + 1 - (intOf i).toNat)
  case atStart => exact ⟨0, [], Nat.zero_le _, rfl, rfl, rfl, by simp, own_empty w1 _, (Below.refl _ _).alloc (Nat.le_refl _) _⟩
  case round =>
    obtain ⟨k, zs, hk, rfl, hzl, hzo, hzt, hown, hbel⟩ := hrel
    by_cases hlt : k < nw
    · obtain ⟨b', off', p, hA', hb', hz, hcp⟩ := (HR1.out.below hbel).str_ (k := k) (by rw [HNW.out]; exact hlt)
      obtain ⟨rfl, rfl⟩ : b = b' ∧ off + 1 = off' := by simpa using hA'
      rw [show off + 1 + k = off + (k + 1) by omega] at hcp
      have hmem := List.mem_of_getElem? hz.out
      have cR := fun w => readSigned_any p (HLEN.out p hmem) ⟨p.toArray⟩ rfl w
      have HO := Lib.hid (And.intro hown hbel)
      have HZ := Lib.hid (And.intro hzl (And.intro hzo hzt))
      have HM := Lib.hid hmem
      have z2 := hbel.size
      have hbo := own_block hown
      have HBO := Lib.hid hbo
      clear hown hbel hzl hzo hzt hA' hb' hmem hbo
      go_wp2_with fail
      refine (cR _).mono ?_
      rintro e w' ⟨z, q, hR, rfl, rfl⟩
      have HR := Lib.hid hR
      clear hR cR
      cases q
      · have HF := Lib.hid (HX1.out.below HO.out.2 z1)
        have HB := Lib.hid (HB1.out.trans (HO.out.2.mono HB1.out.size))
        obtain ⟨k0, k1, k2, k3, k4, kf, _⟩ := HF.out
        go_wp2
        exact bodyPost_ret (v := .tuple #[.agg #[.int .i64 0, .slice none 0 0, .int .i64 0, .int .i64 0, .int .i64 0], .bool false]) (by simp [results, Try.results80, go_sem, k0, k1, k2, k3, k4]) rfl (paPost_mk (e := evZ) rfl rfl ⟨by simp [ints, evZ], .inl ⟨rfl, rfl⟩⟩ (HB.out.trans (five_below _ (Nat.le_refl _) _ _ _ _ _)))
      · have hzr := (HR.out.1 rfl).2
        go_wp2_with (at_builtin; refine wpList_append_own _ rfl _ _ 37 rfl (w1.heap.size) 3 i0 (.int .i64 0) 1 8 Try.underlying37 hi hz0 hz1 hz2 rfl (by decide) _ _ _ rfl (HO.out.1.alloc _) ⟨wr.heap.size, 0, none⟩ 1 1 [.int .i64 z] rfl rfl ?c1 ?c2 ?c3 ?c4 ?c5 ?_)
        case c1 => first | exact one_new _ _ _ _ rfl | exact one_new _ _ _ _ (by simp)
        case c2 => first | rfl | (intro u hu; simp at hu; subst hu; rfl)
        case c3 => unfold maxLen; omega
        case c4 => omega
        case c5 => simp; omega
        · intro v' w5 hown' hgrow _
          have hb5 : Below w1.heap.size w1 w5 := (HO.out.2.alloc z2 _).grown hgrow (by simp; omega) HBO.out
          have R : PsRel w1 ls nw v' (.int .i64 ((k + 1 + 1 : Nat) : Int)) w5 := ⟨k + 1, zs ++ [z], hlt, rfl, by rw [List.length_append, HZ.out.1]; rfl, by have := HZ.out.2.1; unfold okTs at this ⊢; rw [List.all_append, this]; simp [inB_mk hzr], by rw [take_snoc hz.out, HZ.out.2.2, (HR.out.1 rfl).1, List.map_append]; rfl, by rw [ints_snoc']; exact hown', hb5⟩
          have HP := Lib.hid R
          clear R hb5 hown' hgrow
          go_wp2
          go_roundw
          case rel => first | exact HP.out | (have := HP.out; simpa using this)
          case measure => simp [intOf]; omega
    · obtain rfl : k = nw := by omega
      rw [List.take_of_length_le (by rw [HNW.out]; exact Nat.le_refl _)] at hzt
      have HZ := Lib.hid (And.intro hzl (And.intro hzo hzt))
      have HB2 := Lib.hid (HB1.out.trans (hbel.mono HB1.out.size))
      have HX2 := Lib.hid (HX1.out.below hbel z1)
      have kw : ∀ o, (wr.alloc o).cell? ⟨b, off, none⟩ = some (.string ⟨#[115, 101, 108, 108]⟩) := fun o => by rw [World.cell?_alloc_lt wr o _ (by have := hbel.size; show b < _; omega), hbel.cell (p := ⟨b, off, none⟩) hb, HC0.out, HL0.out]
      have z2 := hbel.size
      obtain ⟨A5, c5, rfl⟩ := own_form hown
      have HO := Lib.hid hown
      clear hzl hzo hzt hown hbel
      have hal := fun o => ((Below.refl wr.heap.size wr).alloc (Nat.le_refl _) o).drew
      have hE : evL l = ⟨2, [], 0, (at_ zs 0), (at_ zs 1)⟩ := by
        unfold evL
        rw [HWS.out, evOf_cons, HL0.out]
        have hmap : ls.map numW = zs := by rw [HZ.out.2.2]; exact numW_map HZ.out.2.1
        rw [hmap]
        exact evOf_sell (by rw [HNW.out]; exact hn2)
      have hqq : (showL ⟨2, [], 0, (at_ zs 0), (at_ zs 1)⟩ == l) = false := by
        have := HQ.out
        unfold parB at this
        rw [hE] at this
        exact beq_eq_false_iff_ne.2 (of_decide_eq_false this)
      have HE := Lib.hid (HEV.out.symm.trans hE)
      have cS := fun o => sShow_any ⟨2, [], 0, (at_ zs 0), (at_ zs 1)⟩ none 0 (wr.alloc o).drew (Rd.nil_) (by simp only; simp)
      unfold evV FmPost str at cS
      simp only [List.length_nil] at cS
      generalize showL ⟨2, [], 0, (at_ zs 0), (at_ zs 1)⟩ = t at *
      clear hE
      obtain ⟨g, hA, hg, hgl, _, _⟩ := own_some HO.out (by omega)
      subst hA
      have kz0 : ∀ o, (wr.alloc o).cell? ⟨g, 0, none⟩ = some (.int .i64 (at_ zs 0)) := fun o => by rw [World.cell?_alloc_lt wr o _ hgl]; exact own_cell HO.out (ints_at' (zs := zs) (k := 0) (by have := HZ.out.1; omega))
      have kz1 : ∀ o, (wr.alloc o).cell? ⟨g, 1, none⟩ = some (.int .i64 (at_ zs 1)) := fun o => by rw [World.cell?_alloc_lt wr o _ hgl]; exact own_cell HO.out (ints_at' (zs := zs) (k := 1) (by have := HZ.out.1; omega))
      clear hg hgl
      have HCS := Lib.hid cS
      have HAL := Lib.hid hal
      clear cS hal
      go_wp2
      go_region
      go_wp2_with fail
      refine (HCS.out _).mono ?_
      rintro e w3 ⟨rfl, b3⟩
      have HB3 := Lib.hid ((HB2.out.trans ((HAL.out _).mono HB2.out.size)).trans (b3.mono (Nat.le_trans HB2.out.size (HAL.out _).size)))
      have HX3 := Lib.hid ((HX2.out.below (HAL.out _) (by omega)).below b3 (by have := (HAL.out (.cells #[.int .i64 2, .slice none 0 0, .int .i64 0, .int .i64 (at_ zs 0), .int .i64 (at_ zs 1)] 43)).size; omega))
      have HY3 := Lib.hid (((Box5.alloc_ wr 43 (v0 := .int .i64 2) (v1 := .slice none 0 0) (v2 := .int .i64 0) (v3 := .int .i64 (at_ zs 0)) (v4 := .int .i64 (at_ zs 1))).drew_).below b3 (by simp))
      have HO3 := Lib.hid (own_below (own_below HO.out (HAL.out _)) b3)
      obtain ⟨k0, k1, k2, k3, k4, kf, _⟩ := HX3.out
      obtain ⟨j0, j1, j2, j3, j4, _, _⟩ := HY3.out
      clear b3 HCS HAL
      go_wp2
      exact bodyPost_ret (v := .tuple #[.agg #[.int .i64 0, .slice none 0 0, .int .i64 0, .int .i64 0, .int .i64 0], .bool false]) (by simp [results, Try.results80, go_sem, k0, k1, k2, k3, k4]) rfl (paPost_mk (e := evZ) rfl rfl ⟨by simp [ints, evZ], .inl ⟨rfl, rfl⟩⟩ (HB3.out.trans (five_below _ (Nat.le_refl _) _ _ _ _ _)))
set_option maxRecDepth 100000 in
set_option maxHeartbeats 2000000 in
theorem sPar_cutN (l : List UInt8) (s : ByteArray) (hs : s = ⟨l.toArray⟩) (l0 : List UInt8) (ls : List (List UInt8)) (hws : splitL 32 l = l0 :: ls) (hl : l.length ≤ 1048576) (h0 : l0 = [99, 117, 116]) (hn1 : ls.length ≠ 1) (hq : parB l = false) (w : World) :
    Calls Try.prog 80 #[.string s] w (PaPost evZ false w) := by
  obtain ⟨i0, hi, hz0, hz1, hz2⟩ := info_parts info_int
  have cW := fun w => splitAt_any l (by omega) s hs 32 w
  have hsl : s.toList = l := by rw [hs, ByteArray.toList_eq]
  rw [hws] at cW
  obtain ⟨nw, hnw⟩ : ∃ nw, ls.length = nw := ⟨_, rfl⟩
  have hnl : nw ≤ 1048576 := by have := (splitL_len 32 l).2; rw [hws] at this; simp at this; omega
  have HLEN : Hid (∀ p ∈ ls, p.length ≤ 4000000) := Lib.hid fun p hp => by have := splitL_mem (c := 32) l p (by rw [hws]; exact List.mem_cons_of_mem _ hp); omega
  have HBAD : Hid (∀ p ∈ ls, (∀ y : Int, -999999 ≤ y → y ≤ 999999 → p ≠ sgnL y) → parB l = false) := Lib.hid fun p hp h => par_bad (by rw [hws]; exact hp) h
  have HQ := Lib.hid hq
  have HWS := Lib.hid hws
  have hn2 := hn1
  rw [hnw] at hn2
  clear hn1
  have HNW := Lib.hid hnw
  unfold OutS at cW
  simp only [List.length_cons, hnw] at cW
  have ha : ∀ o, Below w.heap.size w (w.alloc o) := fun o => (Below.refl _ _).alloc (Nat.le_refl _) o
  have HL0 := Lib.hid h0
  clear h0
  clear hws hnw hs hl hq
  go_enter Try.func80, Try.ntmps80
  go_wp2_with fail
  refine (cW _).mono ?_
  rintro e w1 ⟨A1, c1, rfl, o1, b1⟩
  have HB1 := Lib.hid ((ha _).trans (b1.mono (ha _).size))
  have HX1 := Lib.hid ((Box5.alloc_ w 43).below b1 (by simp))
  have z1 : w.heap.size < w1.heap.size := by have := b1.size; simp at this; omega
  have hr1 : Rd w1 w1.heap.size A1 (strs (l0 :: ls)) := Rd.own o1
  clear o1 b1 cW ha
  obtain ⟨b, off, x, rfl, hb, hz, hc0⟩ := hr1.str_ (k := 0) (by simp)
  obtain rfl : l0 = x := by have := hz.out; simpa using this
  rw [Nat.add_zero] at hc0
  have hrt := Rd.tail_ hr1
  have HR1 := Lib.hid hrt
  have HC0 := Lib.hid hc0
  clear hr1 hrt hz hc0
  go_wp2
  go_loopw [5, 6] (fun v i wr => PsRel w1 ls nw v i wr) (fun _ i _ => nw + 1 - (intOf i).toNat)
  case atStart => exact ⟨0, [], Nat.zero_le _, rfl, rfl, rfl, by simp, own_empty w1 _, (Below.refl _ _).alloc (Nat.le_refl _) _⟩
  case round =>
    obtain ⟨k, zs, hk, rfl, hzl, hzo, hzt, hown, hbel⟩ := hrel
    by_cases hlt : k < nw
    · obtain ⟨b', off', p, hA', hb', hz, hcp⟩ := (HR1.out.below hbel).str_ (k := k) (by rw [HNW.out]; exact hlt)
      obtain ⟨rfl, rfl⟩ : b = b' ∧ off + 1 = off' := by simpa using hA'
      rw [show off + 1 + k = off + (k + 1) by omega] at hcp
      have hmem := List.mem_of_getElem? hz.out
      have cR := fun w => readSigned_any p (HLEN.out p hmem) ⟨p.toArray⟩ rfl w
      have HO := Lib.hid (And.intro hown hbel)
      have HZ := Lib.hid (And.intro hzl (And.intro hzo hzt))
      have HM := Lib.hid hmem
      have z2 := hbel.size
      have hbo := own_block hown
      have HBO := Lib.hid hbo
      clear hown hbel hzl hzo hzt hA' hb' hmem hbo
      go_wp2_with fail
      refine (cR _).mono ?_
      rintro e w' ⟨z, q, hR, rfl, rfl⟩
      have HR := Lib.hid hR
      clear hR cR
      cases q
      · have HF := Lib.hid (HX1.out.below HO.out.2 z1)
        have HB := Lib.hid (HB1.out.trans (HO.out.2.mono HB1.out.size))
        obtain ⟨k0, k1, k2, k3, k4, kf, _⟩ := HF.out
        go_wp2
        exact bodyPost_ret (v := .tuple #[.agg #[.int .i64 0, .slice none 0 0, .int .i64 0, .int .i64 0, .int .i64 0], .bool false]) (by simp [results, Try.results80, go_sem, k0, k1, k2, k3, k4]) rfl (paPost_mk (e := evZ) rfl rfl ⟨by simp [ints, evZ], .inl ⟨rfl, rfl⟩⟩ (HB.out.trans (five_below _ (Nat.le_refl _) _ _ _ _ _)))
      · have hzr := (HR.out.1 rfl).2
        go_wp2_with (at_builtin; refine wpList_append_own _ rfl _ _ 37 rfl (w1.heap.size) 3 i0 (.int .i64 0) 1 8 Try.underlying37 hi hz0 hz1 hz2 rfl (by decide) _ _ _ rfl (HO.out.1.alloc _) ⟨wr.heap.size, 0, none⟩ 1 1 [.int .i64 z] rfl rfl ?c1 ?c2 ?c3 ?c4 ?c5 ?_)
        case c1 => first | exact one_new _ _ _ _ rfl | exact one_new _ _ _ _ (by simp)
        case c2 => first | rfl | (intro u hu; simp at hu; subst hu; rfl)
        case c3 => unfold maxLen; omega
        case c4 => omega
        case c5 => simp; omega
        · intro v' w5 hown' hgrow _
          have hb5 : Below w1.heap.size w1 w5 := (HO.out.2.alloc z2 _).grown hgrow (by simp; omega) HBO.out
          have R : PsRel w1 ls nw v' (.int .i64 ((k + 1 + 1 : Nat) : Int)) w5 := ⟨k + 1, zs ++ [z], hlt, rfl, by rw [List.length_append, HZ.out.1]; rfl, by have := HZ.out.2.1; unfold okTs at this ⊢; rw [List.all_append, this]; simp [inB_mk hzr], by rw [take_snoc hz.out, HZ.out.2.2, (HR.out.1 rfl).1, List.map_append]; rfl, by rw [ints_snoc']; exact hown', hb5⟩
          have HP := Lib.hid R
          clear R hb5 hown' hgrow
          go_wp2
          go_roundw
          case rel => first | exact HP.out | (have := HP.out; simpa using this)
          case measure => simp [intOf]; omega
    · obtain rfl : k = nw := by omega
      rw [List.take_of_length_le (by rw [HNW.out]; exact Nat.le_refl _)] at hzt
      have HZ := Lib.hid (And.intro hzl (And.intro hzo hzt))
      have HB2 := Lib.hid (HB1.out.trans (hbel.mono HB1.out.size))
      have HX2 := Lib.hid (HX1.out.below hbel z1)
      have kw : ∀ o, (wr.alloc o).cell? ⟨b, off, none⟩ = some (.string ⟨#[99, 117, 116]⟩) := fun o => by rw [World.cell?_alloc_lt wr o _ (by have := hbel.size; show b < _; omega), hbel.cell (p := ⟨b, off, none⟩) hb, HC0.out, HL0.out]
      have z2 := hbel.size
      obtain ⟨A5, c5, rfl⟩ := own_form hown
      have HO := Lib.hid hown
      clear hzl hzo hzt hown hbel
      have HX3 := Lib.hid (HX2.out.below ((Below.refl wr.heap.size wr).alloc (Nat.le_refl _) (.cells #[.int .i64 0, .slice none 0 0, .int .i64 0, .int .i64 0, .int .i64 0] 43)) (by omega))
      have HB3 := Lib.hid (HB2.out.alloc HB2.out.size (.cells #[.int .i64 0, .slice none 0 0, .int .i64 0, .int .i64 0, .int .i64 0] 43))
      obtain ⟨k0, k1, k2, k3, k4, kf, _⟩ := HX3.out
      have hn3 : ((k : Int) == 1) = false := beq_eq_false_iff_ne.2 (by omega)
      go_wp2
      exact bodyPost_ret (v := .tuple #[.agg #[.int .i64 0, .slice none 0 0, .int .i64 0, .int .i64 0, .int .i64 0], .bool false]) (by simp [results, Try.results80, go_sem, k0, k1, k2, k3, k4]) rfl (paPost_mk (e := evZ) rfl rfl ⟨by simp [ints, evZ], .inl ⟨rfl, rfl⟩⟩ (HB3.out.trans (five_below _ (Nat.le_refl _) _ _ _ _ _)))
set_option maxRecDepth 100000 in
set_option maxHeartbeats 2000000 in
theorem sPar_sellN (l : List UInt8) (s : ByteArray) (hs : s = ⟨l.toArray⟩) (l0 : List UInt8) (ls : List (List UInt8)) (hws : splitL 32 l = l0 :: ls) (hl : l.length ≤ 1048576) (h0 : l0 = [115, 101, 108, 108]) (hn1 : ls.length ≠ 2) (hq : parB l = false) (w : World) :
    Calls Try.prog 80 #[.string s] w (PaPost evZ false w) := by
  obtain ⟨i0, hi, hz0, hz1, hz2⟩ := info_parts info_int
  have cW := fun w => splitAt_any l (by omega) s hs 32 w
  have hsl : s.toList = l := by rw [hs, ByteArray.toList_eq]
  rw [hws] at cW
  obtain ⟨nw, hnw⟩ : ∃ nw, ls.length = nw := ⟨_, rfl⟩
  have hnl : nw ≤ 1048576 := by have := (splitL_len 32 l).2; rw [hws] at this; simp at this; omega
  have HLEN : Hid (∀ p ∈ ls, p.length ≤ 4000000) := Lib.hid fun p hp => by have := splitL_mem (c := 32) l p (by rw [hws]; exact List.mem_cons_of_mem _ hp); omega
  have HBAD : Hid (∀ p ∈ ls, (∀ y : Int, -999999 ≤ y → y ≤ 999999 → p ≠ sgnL y) → parB l = false) := Lib.hid fun p hp h => par_bad (by rw [hws]; exact hp) h
  have HQ := Lib.hid hq
  have HWS := Lib.hid hws
  have hn2 := hn1
  rw [hnw] at hn2
  clear hn1
  have HNW := Lib.hid hnw
  unfold OutS at cW
  simp only [List.length_cons, hnw] at cW
  have ha : ∀ o, Below w.heap.size w (w.alloc o) := fun o => (Below.refl _ _).alloc (Nat.le_refl _) o
  have HL0 := Lib.hid h0
  clear h0
  clear hws hnw hs hl hq
  go_enter Try.func80, Try.ntmps80
  go_wp2_with fail
  refine (cW _).mono ?_
  rintro e w1 ⟨A1, c1, rfl, o1, b1⟩
  have HB1 := Lib.hid ((ha _).trans (b1.mono (ha _).size))
  have HX1 := Lib.hid ((Box5.alloc_ w 43).below b1 (by simp))
  have z1 : w.heap.size < w1.heap.size := by have := b1.size; simp at this; omega
  have hr1 : Rd w1 w1.heap.size A1 (strs (l0 :: ls)) := Rd.own o1
  clear o1 b1 cW ha
  obtain ⟨b, off, x, rfl, hb, hz, hc0⟩ := hr1.str_ (k := 0) (by simp)
  obtain rfl : l0 = x := by have := hz.out; simpa using this
  rw [Nat.add_zero] at hc0
  have hrt := Rd.tail_ hr1
  have HR1 := Lib.hid hrt
  have HC0 := Lib.hid hc0
  clear hr1 hrt hz hc0
  go_wp2
  go_loopw [5, 6] (fun v i wr => PsRel w1 ls nw v i wr) (fun _ i _ => nw + 1 - (intOf i).toNat)
  case atStart => exact ⟨0, [], Nat.zero_le _, rfl, rfl, rfl, by simp, own_empty w1 _, (Below.refl _ _).alloc (Nat.le_refl _) _⟩
  case round =>
    obtain ⟨k, zs, hk, rfl, hzl, hzo, hzt, hown, hbel⟩ := hrel
    by_cases hlt : k < nw
    · obtain ⟨b', off', p, hA', hb', hz, hcp⟩ := (HR1.out.below hbel).str_ (k := k) (by rw [HNW.out]; exact hlt)
      obtain ⟨rfl, rfl⟩ : b = b' ∧ off + 1 = off' := by simpa using hA'
      rw [show off + 1 + k = off + (k + 1) by omega] at hcp
      have hmem := List.mem_of_getElem? hz.out
      have cR := fun w => readSigned_any p (HLEN.out p hmem) ⟨p.toArray⟩ rfl w
      have HO := Lib.hid (And.intro hown hbel)
      have HZ := Lib.hid (And.intro hzl (And.intro hzo hzt))
      have HM := Lib.hid hmem
      have z2 := hbel.size
      have hbo := own_block hown
      have HBO := Lib.hid hbo
      clear hown hbel hzl hzo hzt hA' hb' hmem hbo
      go_wp2_with fail
      refine (cR _).mono ?_
      rintro e w' ⟨z, q, hR, rfl, rfl⟩
      have HR := Lib.hid hR
      clear hR cR
      cases q
      · have HF := Lib.hid (HX1.out.below HO.out.2 z1)
        have HB := Lib.hid (HB1.out.trans (HO.out.2.mono HB1.out.size))
        obtain ⟨k0, k1, k2, k3, k4, kf, _⟩ := HF.out
        go_wp2
        exact bodyPost_ret (v := .tuple #[.agg #[.int .i64 0, .slice none 0 0, .int .i64 0, .int .i64 0, .int .i64 0], .bool false]) (by simp [results, Try.results80, go_sem, k0, k1, k2, k3, k4]) rfl (paPost_mk (e := evZ) rfl rfl ⟨by simp [ints, evZ], .inl ⟨rfl, rfl⟩⟩ (HB.out.trans (five_below _ (Nat.le_refl _) _ _ _ _ _)))
      · have hzr := (HR.out.1 rfl).2
        go_wp2_with (at_builtin; refine wpList_append_own _ rfl _ _ 37 rfl (w1.heap.size) 3 i0 (.int .i64 0) 1 8 Try.underlying37 hi hz0 hz1 hz2 rfl (by decide) _ _ _ rfl (HO.out.1.alloc _) ⟨wr.heap.size, 0, none⟩ 1 1 [.int .i64 z] rfl rfl ?c1 ?c2 ?c3 ?c4 ?c5 ?_)
        case c1 => first | exact one_new _ _ _ _ rfl | exact one_new _ _ _ _ (by simp)
        case c2 => first | rfl | (intro u hu; simp at hu; subst hu; rfl)
        case c3 => unfold maxLen; omega
        case c4 => omega
        case c5 => simp; omega
        · intro v' w5 hown' hgrow _
          have hb5 : Below w1.heap.size w1 w5 := (HO.out.2.alloc z2 _).grown hgrow (by simp; omega) HBO.out
          have R : PsRel w1 ls nw v' (.int .i64 ((k + 1 + 1 : Nat) : Int)) w5 := ⟨k + 1, zs ++ [z], hlt, rfl, by rw [List.length_append, HZ.out.1]; rfl, by have := HZ.out.2.1; unfold okTs at this ⊢; rw [List.all_append, this]; simp [inB_mk hzr], by rw [take_snoc hz.out, HZ.out.2.2, (HR.out.1 rfl).1, List.map_append]; rfl, by rw [ints_snoc']; exact hown', hb5⟩
          have HP := Lib.hid R
          clear R hb5 hown' hgrow
          go_wp2
          go_roundw
          case rel => first | exact HP.out | (have := HP.out; simpa using this)
          case measure => simp [intOf]; omega
    · obtain rfl : k = nw := by omega
      rw [List.take_of_length_le (by rw [HNW.out]; exact Nat.le_refl _)] at hzt
      have HZ := Lib.hid (And.intro hzl (And.intro hzo hzt))
      have HB2 := Lib.hid (HB1.out.trans (hbel.mono HB1.out.size))
      have HX2 := Lib.hid (HX1.out.below hbel z1)
      have kw : ∀ o, (wr.alloc o).cell? ⟨b, off, none⟩ = some (.string ⟨#[115, 101, 108, 108]⟩) := fun o => by rw [World.cell?_alloc_lt wr o _ (by have := hbel.size; show b < _; omega), hbel.cell (p := ⟨b, off, none⟩) hb, HC0.out, HL0.out]
      have z2 := hbel.size
      obtain ⟨A5, c5, rfl⟩ := own_form hown
      have HO := Lib.hid hown
      clear hzl hzo hzt hown hbel
      have HX3 := Lib.hid (HX2.out.below ((Below.refl wr.heap.size wr).alloc (Nat.le_refl _) (.cells #[.int .i64 0, .slice none 0 0, .int .i64 0, .int .i64 0, .int .i64 0] 43)) (by omega))
      have HB3 := Lib.hid (HB2.out.alloc HB2.out.size (.cells #[.int .i64 0, .slice none 0 0, .int .i64 0, .int .i64 0, .int .i64 0] 43))
      obtain ⟨k0, k1, k2, k3, k4, kf, _⟩ := HX3.out
      have hn3 : ((k : Int) == 2) = false := beq_eq_false_iff_ne.2 (by omega)
      go_wp2
      exact bodyPost_ret (v := .tuple #[.agg #[.int .i64 0, .slice none 0 0, .int .i64 0, .int .i64 0, .int .i64 0], .bool false]) (by simp [results, Try.results80, go_sem, k0, k1, k2, k3, k4]) rfl (paPost_mk (e := evZ) rfl rfl ⟨by simp [ints, evZ], .inl ⟨rfl, rfl⟩⟩ (HB3.out.trans (five_below _ (Nat.le_refl _) _ _ _ _ _)))
set_option maxRecDepth 100000 in
set_option maxHeartbeats 2000000 in
theorem sPar_meltN (l : List UInt8) (s : ByteArray) (hs : s = ⟨l.toArray⟩) (l0 : List UInt8) (ls : List (List UInt8)) (hws : splitL 32 l = l0 :: ls) (hl : l.length ≤ 1048576) (h0 : l0 = [109, 101, 108, 116]) (hn1 : ls.length ≠ 0) (hq : parB l = false) (w : World) :
    Calls Try.prog 80 #[.string s] w (PaPost evZ false w) := by
  obtain ⟨i0, hi, hz0, hz1, hz2⟩ := info_parts info_int
  have cW := fun w => splitAt_any l (by omega) s hs 32 w
  have hsl : s.toList = l := by rw [hs, ByteArray.toList_eq]
  rw [hws] at cW
  obtain ⟨nw, hnw⟩ : ∃ nw, ls.length = nw := ⟨_, rfl⟩
  have hnl : nw ≤ 1048576 := by have := (splitL_len 32 l).2; rw [hws] at this; simp at this; omega
  have HLEN : Hid (∀ p ∈ ls, p.length ≤ 4000000) := Lib.hid fun p hp => by have := splitL_mem (c := 32) l p (by rw [hws]; exact List.mem_cons_of_mem _ hp); omega
  have HBAD : Hid (∀ p ∈ ls, (∀ y : Int, -999999 ≤ y → y ≤ 999999 → p ≠ sgnL y) → parB l = false) := Lib.hid fun p hp h => par_bad (by rw [hws]; exact hp) h
  have HQ := Lib.hid hq
  have HWS := Lib.hid hws
  have hn2 := hn1
  rw [hnw] at hn2
  clear hn1
  have HNW := Lib.hid hnw
  unfold OutS at cW
  simp only [List.length_cons, hnw] at cW
  have ha : ∀ o, Below w.heap.size w (w.alloc o) := fun o => (Below.refl _ _).alloc (Nat.le_refl _) o
  have HL0 := Lib.hid h0
  clear h0
  clear hws hnw hs hl hq
  go_enter Try.func80, Try.ntmps80
  go_wp2_with fail
  refine (cW _).mono ?_
  rintro e w1 ⟨A1, c1, rfl, o1, b1⟩
  have HB1 := Lib.hid ((ha _).trans (b1.mono (ha _).size))
  have HX1 := Lib.hid ((Box5.alloc_ w 43).below b1 (by simp))
  have z1 : w.heap.size < w1.heap.size := by have := b1.size; simp at this; omega
  have hr1 : Rd w1 w1.heap.size A1 (strs (l0 :: ls)) := Rd.own o1
  clear o1 b1 cW ha
  obtain ⟨b, off, x, rfl, hb, hz, hc0⟩ := hr1.str_ (k := 0) (by simp)
  obtain rfl : l0 = x := by have := hz.out; simpa using this
  rw [Nat.add_zero] at hc0
  have hrt := Rd.tail_ hr1
  have HR1 := Lib.hid hrt
  have HC0 := Lib.hid hc0
  clear hr1 hrt hz hc0
  go_wp2
  go_loopw [5, 6] (fun v i wr => PsRel w1 ls nw v i wr) (fun _ i _ => nw + 1 - (intOf i).toNat)
  case atStart => exact ⟨0, [], Nat.zero_le _, rfl, rfl, rfl, by simp, own_empty w1 _, (Below.refl _ _).alloc (Nat.le_refl _) _⟩
  case round =>
    obtain ⟨k, zs, hk, rfl, hzl, hzo, hzt, hown, hbel⟩ := hrel
    by_cases hlt : k < nw
    · obtain ⟨b', off', p, hA', hb', hz, hcp⟩ := (HR1.out.below hbel).str_ (k := k) (by rw [HNW.out]; exact hlt)
      obtain ⟨rfl, rfl⟩ : b = b' ∧ off + 1 = off' := by simpa using hA'
      rw [show off + 1 + k = off + (k + 1) by omega] at hcp
      have hmem := List.mem_of_getElem? hz.out
      have cR := fun w => readSigned_any p (HLEN.out p hmem) ⟨p.toArray⟩ rfl w
      have HO := Lib.hid (And.intro hown hbel)
      have HZ := Lib.hid (And.intro hzl (And.intro hzo hzt))
      have HM := Lib.hid hmem
      have z2 := hbel.size
      have hbo := own_block hown
      have HBO := Lib.hid hbo
      clear hown hbel hzl hzo hzt hA' hb' hmem hbo
      go_wp2_with fail
      refine (cR _).mono ?_
      rintro e w' ⟨z, q, hR, rfl, rfl⟩
      have HR := Lib.hid hR
      clear hR cR
      cases q
      · have HF := Lib.hid (HX1.out.below HO.out.2 z1)
        have HB := Lib.hid (HB1.out.trans (HO.out.2.mono HB1.out.size))
        obtain ⟨k0, k1, k2, k3, k4, kf, _⟩ := HF.out
        go_wp2
        exact bodyPost_ret (v := .tuple #[.agg #[.int .i64 0, .slice none 0 0, .int .i64 0, .int .i64 0, .int .i64 0], .bool false]) (by simp [results, Try.results80, go_sem, k0, k1, k2, k3, k4]) rfl (paPost_mk (e := evZ) rfl rfl ⟨by simp [ints, evZ], .inl ⟨rfl, rfl⟩⟩ (HB.out.trans (five_below _ (Nat.le_refl _) _ _ _ _ _)))
      · have hzr := (HR.out.1 rfl).2
        go_wp2_with (at_builtin; refine wpList_append_own _ rfl _ _ 37 rfl (w1.heap.size) 3 i0 (.int .i64 0) 1 8 Try.underlying37 hi hz0 hz1 hz2 rfl (by decide) _ _ _ rfl (HO.out.1.alloc _) ⟨wr.heap.size, 0, none⟩ 1 1 [.int .i64 z] rfl rfl ?c1 ?c2 ?c3 ?c4 ?c5 ?_)
        case c1 => first | exact one_new _ _ _ _ rfl | exact one_new _ _ _ _ (by simp)
        case c2 => first | rfl | (intro u hu; simp at hu; subst hu; rfl)
        case c3 => unfold maxLen; omega
        case c4 => omega
        case c5 => simp; omega
        · intro v' w5 hown' hgrow _
          have hb5 : Below w1.heap.size w1 w5 := (HO.out.2.alloc z2 _).grown hgrow (by simp; omega) HBO.out
          have R : PsRel w1 ls nw v' (.int .i64 ((k + 1 + 1 : Nat) : Int)) w5 := ⟨k + 1, zs ++ [z], hlt, rfl, by rw [List.length_append, HZ.out.1]; rfl, by have := HZ.out.2.1; unfold okTs at this ⊢; rw [List.all_append, this]; simp [inB_mk hzr], by rw [take_snoc hz.out, HZ.out.2.2, (HR.out.1 rfl).1, List.map_append]; rfl, by rw [ints_snoc']; exact hown', hb5⟩
          have HP := Lib.hid R
          clear R hb5 hown' hgrow
          go_wp2
          go_roundw
          case rel => first | exact HP.out | (have := HP.out; simpa using this)
          case measure => simp [intOf]; omega
    · obtain rfl : k = nw := by omega
      rw [List.take_of_length_le (by rw [HNW.out]; exact Nat.le_refl _)] at hzt
      have HZ := Lib.hid (And.intro hzl (And.intro hzo hzt))
      have HB2 := Lib.hid (HB1.out.trans (hbel.mono HB1.out.size))
      have HX2 := Lib.hid (HX1.out.below hbel z1)
      have kw : ∀ o, (wr.alloc o).cell? ⟨b, off, none⟩ = some (.string ⟨#[109, 101, 108, 116]⟩) := fun o => by rw [World.cell?_alloc_lt wr o _ (by have := hbel.size; show b < _; omega), hbel.cell (p := ⟨b, off, none⟩) hb, HC0.out, HL0.out]
      have z2 := hbel.size
      obtain ⟨A5, c5, rfl⟩ := own_form hown
      have HO := Lib.hid hown
      clear hzl hzo hzt hown hbel
      have HX3 := Lib.hid (HX2.out.below ((Below.refl wr.heap.size wr).alloc (Nat.le_refl _) (.cells #[.int .i64 0, .slice none 0 0, .int .i64 0, .int .i64 0, .int .i64 0] 43)) (by omega))
      have HB3 := Lib.hid (HB2.out.alloc HB2.out.size (.cells #[.int .i64 0, .slice none 0 0, .int .i64 0, .int .i64 0, .int .i64 0] 43))
      obtain ⟨k0, k1, k2, k3, k4, kf, _⟩ := HX3.out
      have hn3 : ((k : Int) == 0) = false := beq_eq_false_iff_ne.2 (by omega)
      go_wp2
      exact bodyPost_ret (v := .tuple #[.agg #[.int .i64 0, .slice none 0 0, .int .i64 0, .int .i64 0, .int .i64 0], .bool false]) (by simp [results, Try.results80, go_sem, k0, k1, k2, k3, k4]) rfl (paPost_mk (e := evZ) rfl rfl ⟨by simp [ints, evZ], .inl ⟨rfl, rfl⟩⟩ (HB3.out.trans (five_below _ (Nat.le_refl _) _ _ _ _ _)))
set_option maxRecDepth 100000 in
set_option maxHeartbeats 2000000 in
theorem sPar_no (l : List UInt8) (s : ByteArray) (hs : s = ⟨l.toArray⟩) (l0 : List UInt8) (ls : List (List UInt8)) (hws : splitL 32 l = l0 :: ls) (hl : l.length ≤ 1048576) (h0 : l0 ≠ [99, 111, 108, 100]) (h1 : l0 ≠ [99, 117, 116]) (h2 : l0 ≠ [115, 101, 108, 108]) (h3 : l0 ≠ [109, 101, 108, 116]) (hq : parB l = false) (w : World) :
    Calls Try.prog 80 #[.string s] w (PaPost evZ false w) := by
  obtain ⟨i0, hi, hz0, hz1, hz2⟩ := info_parts info_int
  have cW := fun w => splitAt_any l (by omega) s hs 32 w
  have hsl : s.toList = l := by rw [hs, ByteArray.toList_eq]
  rw [hws] at cW
  obtain ⟨nw, hnw⟩ : ∃ nw, ls.length = nw := ⟨_, rfl⟩
  have hnl : nw ≤ 1048576 := by have := (splitL_len 32 l).2; rw [hws] at this; simp at this; omega
  have HLEN : Hid (∀ p ∈ ls, p.length ≤ 4000000) := Lib.hid fun p hp => by have := splitL_mem (c := 32) l p (by rw [hws]; exact List.mem_cons_of_mem _ hp); omega
  have HBAD : Hid (∀ p ∈ ls, (∀ y : Int, -999999 ≤ y → y ≤ 999999 → p ≠ sgnL y) → parB l = false) := Lib.hid fun p hp h => par_bad (by rw [hws]; exact hp) h
  have HQ := Lib.hid hq
  have HWS := Lib.hid hws
  have HNW := Lib.hid hnw
  unfold OutS at cW
  simp only [List.length_cons, hnw] at cW
  have ha : ∀ o, Below w.heap.size w (w.alloc o) := fun o => (Below.refl _ _).alloc (Nat.le_refl _) o
  have q1 : (l0 == [99, 111, 108, 100]) = false := beq_eq_false_iff_ne.2 h0
  have q2 : (l0 == [99, 117, 116]) = false := beq_eq_false_iff_ne.2 h1
  have q3 : (l0 == [115, 101, 108, 108]) = false := beq_eq_false_iff_ne.2 h2
  have q4 : (l0 == [109, 101, 108, 116]) = false := beq_eq_false_iff_ne.2 h3
  clear h0 h1 h2 h3
  clear hws hnw hs hl hq
  go_enter Try.func80, Try.ntmps80
  go_wp2_with fail
  refine (cW _).mono ?_
  rintro e w1 ⟨A1, c1, rfl, o1, b1⟩
  have HB1 := Lib.hid ((ha _).trans (b1.mono (ha _).size))
  have HX1 := Lib.hid ((Box5.alloc_ w 43).below b1 (by simp))
  have z1 : w.heap.size < w1.heap.size := by have := b1.size; simp at this; omega
  have hr1 : Rd w1 w1.heap.size A1 (strs (l0 :: ls)) := Rd.own o1
  clear o1 b1 cW ha
  obtain ⟨b, off, x, rfl, hb, hz, hc0⟩ := hr1.str_ (k := 0) (by simp)
  obtain rfl : l0 = x := by have := hz.out; simpa using this
  rw [Nat.add_zero] at hc0
  have hrt := Rd.tail_ hr1
  have HR1 := Lib.hid hrt
  have HC0 := Lib.hid hc0
  clear hr1 hrt hz hc0
  go_wp2
  go_loopw [5, 6] (fun v i wr => PsRel w1 ls nw v i wr) (fun _ i _ => nw + 1 - (intOf i).toNat)
  case atStart => exact ⟨0, [], Nat.zero_le _, rfl, rfl, rfl, by simp, own_empty w1 _, (Below.refl _ _).alloc (Nat.le_refl _) _⟩
  case round =>
    obtain ⟨k, zs, hk, rfl, hzl, hzo, hzt, hown, hbel⟩ := hrel
    by_cases hlt : k < nw
    · obtain ⟨b', off', p, hA', hb', hz, hcp⟩ := (HR1.out.below hbel).str_ (k := k) (by rw [HNW.out]; exact hlt)
      obtain ⟨rfl, rfl⟩ : b = b' ∧ off + 1 = off' := by simpa using hA'
      rw [show off + 1 + k = off + (k + 1) by omega] at hcp
      have hmem := List.mem_of_getElem? hz.out
      have cR := fun w => readSigned_any p (HLEN.out p hmem) ⟨p.toArray⟩ rfl w
      have HO := Lib.hid (And.intro hown hbel)
      have HZ := Lib.hid (And.intro hzl (And.intro hzo hzt))
      have HM := Lib.hid hmem
      have z2 := hbel.size
      have hbo := own_block hown
      have HBO := Lib.hid hbo
      clear hown hbel hzl hzo hzt hA' hb' hmem hbo
      go_wp2_with fail
      refine (cR _).mono ?_
      rintro e w' ⟨z, q, hR, rfl, rfl⟩
      have HR := Lib.hid hR
      clear hR cR
      cases q
      · have HF := Lib.hid (HX1.out.below HO.out.2 z1)
        have HB := Lib.hid (HB1.out.trans (HO.out.2.mono HB1.out.size))
        obtain ⟨k0, k1, k2, k3, k4, kf, _⟩ := HF.out
        go_wp2
        exact bodyPost_ret (v := .tuple #[.agg #[.int .i64 0, .slice none 0 0, .int .i64 0, .int .i64 0, .int .i64 0], .bool false]) (by simp [results, Try.results80, go_sem, k0, k1, k2, k3, k4]) rfl (paPost_mk (e := evZ) rfl rfl ⟨by simp [ints, evZ], .inl ⟨rfl, rfl⟩⟩ (HB.out.trans (five_below _ (Nat.le_refl _) _ _ _ _ _)))
      · have hzr := (HR.out.1 rfl).2
        go_wp2_with (at_builtin; refine wpList_append_own _ rfl _ _ 37 rfl (w1.heap.size) 3 i0 (.int .i64 0) 1 8 Try.underlying37 hi hz0 hz1 hz2 rfl (by decide) _ _ _ rfl (HO.out.1.alloc _) ⟨wr.heap.size, 0, none⟩ 1 1 [.int .i64 z] rfl rfl ?c1 ?c2 ?c3 ?c4 ?c5 ?_)
        case c1 => first | exact one_new _ _ _ _ rfl | exact one_new _ _ _ _ (by simp)
        case c2 => first | rfl | (intro u hu; simp at hu; subst hu; rfl)
        case c3 => unfold maxLen; omega
        case c4 => omega
        case c5 => simp; omega
        · intro v' w5 hown' hgrow _
          have hb5 : Below w1.heap.size w1 w5 := (HO.out.2.alloc z2 _).grown hgrow (by simp; omega) HBO.out
          have R : PsRel w1 ls nw v' (.int .i64 ((k + 1 + 1 : Nat) : Int)) w5 := ⟨k + 1, zs ++ [z], hlt, rfl, by rw [List.length_append, HZ.out.1]; rfl, by have := HZ.out.2.1; unfold okTs at this ⊢; rw [List.all_append, this]; simp [inB_mk hzr], by rw [take_snoc hz.out, HZ.out.2.2, (HR.out.1 rfl).1, List.map_append]; rfl, by rw [ints_snoc']; exact hown', hb5⟩
          have HP := Lib.hid R
          clear R hb5 hown' hgrow
          go_wp2
          go_roundw
          case rel => first | exact HP.out | (have := HP.out; simpa using this)
          case measure => simp [intOf]; omega
    · obtain rfl : k = nw := by omega
      rw [List.take_of_length_le (by rw [HNW.out]; exact Nat.le_refl _)] at hzt
      have HZ := Lib.hid (And.intro hzl (And.intro hzo hzt))
      have HB2 := Lib.hid (HB1.out.trans (hbel.mono HB1.out.size))
      have HX2 := Lib.hid (HX1.out.below hbel z1)
      have kw : ∀ o, (wr.alloc o).cell? ⟨b, off, none⟩ = some (.string ⟨l0.toArray⟩) := fun o => by rw [World.cell?_alloc_lt wr o _ (by have := hbel.size; show b < _; omega), hbel.cell (p := ⟨b, off, none⟩) hb, HC0.out]
      have z2 := hbel.size
      obtain ⟨A5, c5, rfl⟩ := own_form hown
      have HO := Lib.hid hown
      clear hzl hzo hzt hown hbel
      have HX3 := Lib.hid (HX2.out.below ((Below.refl wr.heap.size wr).alloc (Nat.le_refl _) (.cells #[.int .i64 0, .slice none 0 0, .int .i64 0, .int .i64 0, .int .i64 0] 43)) (by omega))
      have HB3 := Lib.hid (HB2.out.alloc HB2.out.size (.cells #[.int .i64 0, .slice none 0 0, .int .i64 0, .int .i64 0, .int .i64 0] 43))
      obtain ⟨k0, k1, k2, k3, k4, kf, _⟩ := HX3.out
      go_wp2
      exact bodyPost_ret (v := .tuple #[.agg #[.int .i64 0, .slice none 0 0, .int .i64 0, .int .i64 0, .int .i64 0], .bool false]) (by simp [results, Try.results80, go_sem, k0, k1, k2, k3, k4]) rfl (paPost_mk (e := evZ) rfl rfl ⟨by simp [ints, evZ], .inl ⟨rfl, rfl⟩⟩ (HB3.out.trans (five_below _ (Nat.le_refl _) _ _ _ _ _)))

end Go.Proofs.Ytggdnpaiaijhgaa

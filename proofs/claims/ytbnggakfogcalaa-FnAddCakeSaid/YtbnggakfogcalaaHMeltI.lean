/- Contracts of chapter 5: heaps melt, the program. -/
import Derived.Test.YtbnggakfogcalaaHChgI
namespace Go.Proofs.Ytbnggakfogcalaa
open Go.RowKit
set_option linter.unusedVariables false
set_option linter.unusedSimpArgs false
theorem OwnG.lower {w : World} {base b' hi : Nat} {A : Option Addr} {n c : Nat} {xs : List Value} {pp : List (List Int)} (h : OwnG w base hi A n c xs pp) (hb : b' ≤ base) : OwnG w b' hi A n c xs pp :=
  ⟨own_base h.out hb, h.len, fun k r hr => by obtain ⟨A', c', h1, h2⟩ := h.row k r hr; exact ⟨A', c', h1, own_base h2 hb⟩, h.sep, h.top, h.hi_, h.hio⟩
theorem OutGr.lower {ts : List (List Int)} {w w1 w' : World} {e : Ending} (h : OutGr ts w1 e w') (hb : Below w.heap.size w w1) : OutGr ts w e w' := by
  obtain ⟨A, c, xs, h1, h2, h3⟩ := h
  exact ⟨A, c, xs, h1, h2.lower hb.size, hb.trans (h3.mono hb.size)⟩
set_option maxHeartbeats 2000000 in
theorem iMelt_any (pp : List (List Int)) (A : Option Addr) (c : Nat) (w : World) (hg : RdG w w.heap.size A pp) :
    Calls Try.prog 39 #[.slice A pp.length c] w (OutGr (meltT pp) w) := by
  cases hv : heapB pp
  · rw [meltT_no hv]
    have Hv := Lib.hid hv
    clear hv
    go_enter Try.func39, Try.ntmps39
    go_wp2_with (go_at_call 16; refine (iHp_is _ _ _ _ _ hg Hv.out).mono ?_; rintro e w' ⟨rfl, rfl⟩)
    go_ret
    exact outGr_nil w
  rw [meltT_ok hv]
  have hfb := faces_bd hv
  have hcb := cakes_bd hv
  obtain ⟨hgl, hge⟩ := gone_le hv
  have HFa := Lib.hid (iFaces_any pp A c w _ hg)
  have HCa := Lib.hid (iCakesH_any pp A c w _ hg)
  rw [facesT_ok hv] at HFa
  rw [cakesHT_ok hv] at HCa
  have HCo := Lib.hid (iCopy_any pp A c w hg (heap_pond hv))
  have HL : Hid (∀ j : Nat, j ≤ goneF pp → heapB (lessF pp j) = true ∧ (lessF pp j).length = pp.length ∧ wide (lessF pp j) = wide pp ∧ cakesF (lessF pp j) = cakesF pp - j) := Lib.hid fun j hj => less_ok hv j (by omega)
  have HM : Hid ((meltF pp).length = pp.length) := Lib.hid (melt_ok hv).2.1
  have Hv := Lib.hid hv
  clear hv
  obtain ⟨N, hN⟩ : ∃ N, N = (facesF pp + 9) / 10 := ⟨_, rfl⟩
  have e9 : (facesF pp + 10 - 1).tdiv 10 = N := by
    rw [hN, Int.tdiv_eq_ediv_of_nonneg (by omega)]
    congr 1; omega
  rw [← hN] at hge
  by_cases hle : cakesF pp < N
  · rw [if_pos hle] at hge
    have hn0 : 0 ≤ N := by omega
    have hn1 : N ≤ 1000 := by omega
    clear hN
    rw [← hge] at hle HCa hcb hfb
    clear hge hgl
    generalize facesF pp = FF at *
    go_enter Try.func39, Try.ntmps39
    go_wp2_with fail
    refine (iHp_is _ _ _ _ _ hg Hv.out).mono ?_
    rintro e w' ⟨rfl, rfl⟩
    go_wp2_with fail
    refine (HFa.out).mono ?_
    rintro e w' ⟨rfl, rfl⟩
    go_wp2_with fail
    refine (HCa.out).mono ?_
    rintro e w' ⟨rfl, rfl⟩
    go_wp2_with fail
    refine (HCa.out).mono ?_
    rintro e w' ⟨rfl, rfl⟩
    go_wp2_with fail
    refine (HCo.out).mono ?_
    rintro e w2 ⟨A2, c2, xs, rfl, o2, b2⟩
    have HO := Lib.hid o2
    have HB := Lib.hid b2
    clear o2 b2
    go_wp2
    go_loopw [3, 4] (fun g l wr => ∃ (j : Nat) (A' : Option Addr) (c' : Nat) (xs : List Value), j ≤ goneF pp ∧ g = .int .i64 ((goneF pp - j : Nat) : Int) ∧ l = .slice A' pp.length c' ∧ OwnG wr w.heap.size wr.heap.size A' pp.length c' xs (lessF pp j) ∧ Below w.heap.size w wr) (fun g _ _ => (intOf g).toNat)
    case atStart => exact ⟨0, A2, c2, xs, Nat.zero_le _, by simp, rfl, HO.out, HB.out⟩
    case round =>
      obtain ⟨j, A', c', xs', hj, rfl, rfl, ho, hbel⟩ := hrel
      have hbs := hbel.size
      by_cases hlt : j < goneF pp
      · have hz : (0 : Int) < ((goneF pp - j : Nat) : Int) := by omega
        obtain ⟨l1, l2, l3, l4⟩ := HL.out j (by omega)
        have hpj : Pnd wr wr.heap.size A' (lessF pp j) := ⟨heap_pond l1, ho.rd⟩
        have C1 := iHighest_any (lessF pp j) A' c' wr _ hpj
        have C2 : Hid (∀ n : Nat, Calls Try.prog 60 #[.slice A' pp.length c', .int .i64 (hiF (lessF pp j) : Nat), .int .i64 (-1)] (wr.drewN n) (OutGr (lessF pp (j + 1)) (wr.drewN n))) := Lib.hid fun n => by
          have := iChg_any (lessF pp j) A' c' (wr.drewN n) (ho.rd.drewN n) l1 (hiF (lessF pp j)) (hiF_lt (heap_pond l1)) (-1) (by omega) (by omega)
          rw [l2] at this
          exact this
        have HLN : Hid ((lessF pp (j + 1)).length = pp.length) := Lib.hid (HL.out (j + 1) (by omega)).2.1
        rw [l2] at C1
        have HBel := Lib.hid hbel
        clear l1 l3 l4 hpj ho hbel l2
        generalize hiF (lessF pp j) = top at *
        go_wp2_with fail
        refine C1.mono ?_
        rintro e w' ⟨rfl, n, rfl⟩
        go_wp2_with fail
        refine (C2.out n).mono ?_
        intro e w3 hout
        obtain ⟨A3, c3, xs3, he, o3, b3⟩ := hout
        subst he
        have o4 := OwnG.lower o3 (show w.heap.size ≤ (wr.drewN n).heap.size from hbs)
        have b4 : Below w.heap.size w w3 := HBel.out.trans (((below_drewN (Below.refl _ _) n).trans b3).mono hbs)
        rw [HLN.out] at o4 ⊢
        have HP := Lib.hid (And.intro o4 b4)
        clear o3 o4 b3 b4 C1
        go_wp2
        go_roundw
        case rel => exact ⟨j + 1, A3, c3, xs3, by omega, by first | go_num | (congr 1; omega), rfl, HP.out.1, HP.out.2⟩
        case measure => simp [intOf]; omega
      · obtain rfl : j = goneF pp := by omega
        have R : OutGr (meltF pp) w (.returned (.slice A' pp.length c')) wr := ⟨A', c', xs', by rw [HM.out], by rw [HM.out]; exact ho, hbel⟩
        have HR := Lib.hid R
        clear R ho hbel
        have hz : ¬ (0 : Int) < ((goneF pp - goneF pp : Nat) : Int) := by omega
        go_wp2
        go_ret
        exact HR.out
  · rw [if_neg hle] at hge
    have hle2 : ¬ cakesF pp < (goneF pp : Int) := by omega
    clear hN
    subst hge
    clear hle
    generalize facesF pp = FF at *
    generalize cakesF pp = CC at *
    go_enter Try.func39, Try.ntmps39
    go_wp2_with fail
    refine (iHp_is _ _ _ _ _ hg Hv.out).mono ?_
    rintro e w' ⟨rfl, rfl⟩
    go_wp2_with fail
    refine (HFa.out).mono ?_
    rintro e w' ⟨rfl, rfl⟩
    go_wp2_with fail
    refine (HCa.out).mono ?_
    rintro e w' ⟨rfl, rfl⟩
    go_wp2_with fail
    refine (HCo.out).mono ?_
    rintro e w2 ⟨A2, c2, xs, rfl, o2, b2⟩
    have HO := Lib.hid o2
    have HB := Lib.hid b2
    clear o2 b2
    go_wp2
    go_loopw [3, 4] (fun g l wr => ∃ (j : Nat) (A' : Option Addr) (c' : Nat) (xs : List Value), j ≤ goneF pp ∧ g = .int .i64 ((goneF pp - j : Nat) : Int) ∧ l = .slice A' pp.length c' ∧ OwnG wr w.heap.size wr.heap.size A' pp.length c' xs (lessF pp j) ∧ Below w.heap.size w wr) (fun g _ _ => (intOf g).toNat)
    case atStart => exact ⟨0, A2, c2, xs, Nat.zero_le _, by simp, rfl, HO.out, HB.out⟩
    case round =>
      obtain ⟨j, A', c', xs', hj, rfl, rfl, ho, hbel⟩ := hrel
      have hbs := hbel.size
      by_cases hlt : j < goneF pp
      · have hz : (0 : Int) < ((goneF pp - j : Nat) : Int) := by omega
        obtain ⟨l1, l2, l3, l4⟩ := HL.out j (by omega)
        have hpj : Pnd wr wr.heap.size A' (lessF pp j) := ⟨heap_pond l1, ho.rd⟩
        have C1 := iHighest_any (lessF pp j) A' c' wr _ hpj
        have C2 : Hid (∀ n : Nat, Calls Try.prog 60 #[.slice A' pp.length c', .int .i64 (hiF (lessF pp j) : Nat), .int .i64 (-1)] (wr.drewN n) (OutGr (lessF pp (j + 1)) (wr.drewN n))) := Lib.hid fun n => by
          have := iChg_any (lessF pp j) A' c' (wr.drewN n) (ho.rd.drewN n) l1 (hiF (lessF pp j)) (hiF_lt (heap_pond l1)) (-1) (by omega) (by omega)
          rw [l2] at this
          exact this
        have HLN : Hid ((lessF pp (j + 1)).length = pp.length) := Lib.hid (HL.out (j + 1) (by omega)).2.1
        rw [l2] at C1
        have HBel := Lib.hid hbel
        clear l1 l3 l4 hpj ho hbel l2
        generalize hiF (lessF pp j) = top at *
        go_wp2_with fail
        refine C1.mono ?_
        rintro e w' ⟨rfl, n, rfl⟩
        go_wp2_with fail
        refine (C2.out n).mono ?_
        intro e w3 hout
        obtain ⟨A3, c3, xs3, he, o3, b3⟩ := hout
        subst he
        have o4 := OwnG.lower o3 (show w.heap.size ≤ (wr.drewN n).heap.size from hbs)
        have b4 : Below w.heap.size w w3 := HBel.out.trans (((below_drewN (Below.refl _ _) n).trans b3).mono hbs)
        rw [HLN.out] at o4 ⊢
        have HP := Lib.hid (And.intro o4 b4)
        clear o3 o4 b3 b4 C1
        go_wp2
        go_roundw
        case rel => exact ⟨j + 1, A3, c3, xs3, by omega, by first | go_num | (congr 1; omega), rfl, HP.out.1, HP.out.2⟩
        case measure => simp [intOf]; omega
      · obtain rfl : j = goneF pp := by omega
        have R : OutGr (meltF pp) w (.returned (.slice A' pp.length c')) wr := ⟨A', c', xs', by rw [HM.out], by rw [HM.out]; exact ho, hbel⟩
        have HR := Lib.hid R
        clear R ho hbel
        have hz : ¬ (0 : Int) < ((goneF pp - goneF pp : Nat) : Int) := by omega
        go_wp2
        go_ret
        exact HR.out

set_option maxHeartbeats 2000000 in
theorem iMelts_any (pp : List (List Int)) (A : Option Addr) (c : Nat) (w : World) (hg : RdG w w.heap.size A pp) (z : Int) :
    Calls Try.prog 42 #[.slice A pp.length c, .int .i64 z] w (OutGr (daysT pp z) w) := by
  cases hv : heapB pp
  · rw [daysT_no (by rw [hv]; rfl)]
    have Hv := Lib.hid hv
    clear hv
    go_enter Try.func42, Try.ntmps42
    go_wp2_with (go_at_call 16; refine (iHp_is _ _ _ _ _ hg Hv.out).mono ?_; rintro e w' ⟨rfl, rfl⟩)
    go_ret
    exact outGr_nil w
  by_cases hz0 : z < 0
  · rw [daysT_no (by rw [inB_nk (by omega)]; simp)]
    have Hv := Lib.hid hv
    clear hv
    go_enter Try.func42, Try.ntmps42
    go_wp2_with (go_at_call 16; refine (iHp_is _ _ _ _ _ hg Hv.out).mono ?_; rintro e w' ⟨rfl, rfl⟩)
    go_ret
    exact outGr_nil w
  by_cases hz1 : 60 < z
  · rw [daysT_no (by rw [inB_nk (by omega)]; simp)]
    have Hv := Lib.hid hv
    clear hv
    go_enter Try.func42, Try.ntmps42
    go_wp2_with (go_at_call 16; refine (iHp_is _ _ _ _ _ hg Hv.out).mono ?_; rintro e w' ⟨rfl, rfl⟩)
    go_ret
    exact outGr_nil w
  obtain ⟨D, rfl⟩ := Int.eq_ofNat_of_zero_le (show 0 ≤ z by omega)
  have hD : D ≤ 60 := by omega
  rw [daysT_ok hv hD]
  have HCo := Lib.hid (iCopy_any pp A c w hg (heap_pond hv))
  have HL : Hid (∀ j : Nat, heapB (daysF pp j) = true ∧ (daysF pp j).length = pp.length ∧ wide (daysF pp j) = wide pp) := Lib.hid (days_ok hv)
  have Hv := Lib.hid hv
  clear hv
  go_enter Try.func42, Try.ntmps42
  go_wp2_with fail
  refine (iHp_is _ _ _ _ _ hg Hv.out).mono ?_
  rintro e w' ⟨rfl, rfl⟩
  go_wp2_with fail
  refine (HCo.out).mono ?_
  rintro e w2 ⟨A2, c2, xs, rfl, o2, b2⟩
  have HO := Lib.hid o2
  have HB := Lib.hid b2
  clear o2 b2
  go_wp2
  go_loopw [5, 6] (fun l g wr => ∃ (j : Nat) (A' : Option Addr) (c' : Nat) (xs : List Value), j ≤ D ∧ g = .int .i64 (j : Nat) ∧ l = .slice A' pp.length c' ∧ OwnG wr w.heap.size wr.heap.size A' pp.length c' xs (daysF pp j) ∧ Below w.heap.size w wr) (fun _ g _ => D - (intOf g).toNat)
  case atStart => exact ⟨0, A2, c2, xs, Nat.zero_le _, rfl, rfl, HO.out, HB.out⟩
  case round =>
    obtain ⟨j, A', c', xs', hj, rfl, rfl, ho, hbel⟩ := hrel
    have hbs := hbel.size
    by_cases hlt : j < D
    · obtain ⟨l1, l2, l3⟩ := HL.out j
      have C1 := iMelt_any (daysF pp j) A' c' wr ho.rd
      rw [l2, meltT_ok l1] at C1
      have HLN : Hid ((meltF (daysF pp j)).length = pp.length) := Lib.hid (HL.out (j + 1)).2.1
      have HE : Hid (meltF (daysF pp j) = daysF pp (j + 1)) := Lib.hid rfl
      have HBel := Lib.hid hbel
      clear l1 l3 ho hbel l2
      generalize meltF (daysF pp j) = ts at *
      go_wp2_with fail
      refine C1.mono ?_
      intro e w3 hout
      obtain ⟨A3, c3, xs3, he, o3, b3⟩ := hout
      subst he
      have o4 := OwnG.lower o3 hbs
      have b4 : Below w.heap.size w w3 := HBel.out.trans (b3.mono hbs)
      rw [HLN.out] at o4 ⊢
      rw [HE.out] at o4
      have HP := Lib.hid (And.intro o4 b4)
      clear o3 o4 b3 b4 C1
      go_wp2
      go_roundw
      case rel => exact ⟨j + 1, A3, c3, xs3, by omega, by go_num, rfl, HP.out.1, HP.out.2⟩
      case measure => simp [intOf]; omega
    · obtain rfl : j = D := by omega
      have R : OutGr (daysF pp j) w (.returned (.slice A' pp.length c')) wr := ⟨A', c', xs', by rw [(HL.out j).2.1], by rw [(HL.out j).2.1]; exact ho, hbel⟩
      have HR := Lib.hid R
      clear R ho hbel
      go_wp2
      go_ret
      exact HR.out
set_option maxHeartbeats 2000000 in
theorem iLeft_any (pp : List (List Int)) (A : Option Addr) (c : Nat) (w : World) (hg : RdG w w.heap.size A pp) (keep : Int) :
    Calls Try.prog 45 #[.slice A pp.length c, .int .i64 keep] w fun e w' => ∃ x, LeftR pp keep x ∧ e = .returned (.int .i64 x) ∧ Below w.heap.size w w' := by
  cases hv : heapB pp
  · have Hv := Lib.hid hv
    have R : LeftR pp keep (-1) := ⟨fun _ => rfl, fun h => (by rw [hv] at h; cases h), fun h => (by rw [hv] at h; cases h)⟩
    have HR := Lib.hid R
    clear hv R
    go_enter Try.func45, Try.ntmps45
    go_wp2_with (go_at_call 16; refine (iHp_is _ _ _ _ _ hg Hv.out).mono ?_; rintro e w' ⟨rfl, rfl⟩)
    go_ret
    exact ⟨_, HR.out, rfl, Below.refl _ _⟩
  have HL : Hid (∀ j : Nat, heapB (daysF pp j) = true ∧ (daysF pp j).length = pp.length ∧ wide (daysF pp j) = wide pp) := Lib.hid (days_ok hv)
  have Hv := Lib.hid hv
  clear hv
  go_enter Try.func45, Try.ntmps45
  go_wp2_with fail
  refine (iHp_is _ _ _ _ _ hg Hv.out).mono ?_
  rintro e w' ⟨rfl, rfl⟩
  go_wp2
  go_loopw [5, 6] (fun l g wr => ∃ (j : Nat) (A' : Option Addr) (c' : Nat), j ≤ 61 ∧ g = .int .i64 (j : Nat) ∧ l = .slice A' pp.length c' ∧ RdG wr wr.heap.size A' (daysF pp j) ∧ Below w.heap.size w wr ∧ ∀ i, i < j → keep ≤ cakesF (daysF pp i)) (fun _ g _ => 61 - (intOf g).toNat)
  case atStart => exact ⟨0, A, c, Nat.zero_le _, rfl, rfl, hg, Below.refl _ _, fun i hi => by omega⟩
  case round =>
    obtain ⟨j, A', c', hj, rfl, rfl, hgr, hbel, hall⟩ := hrel
    have hbs := hbel.size
    have HAll := Lib.hid hall
    clear hall
    by_cases hlt : j ≤ 60
    · obtain ⟨l1, l2, l3⟩ := HL.out j
      have hcb := cakes_bd l1
      have C1 := iMelt_any (daysF pp j) A' c' wr hgr
      have C2 := iCakesH_any (daysF pp j) A' c' wr _ hgr
      rw [l2, meltT_ok l1] at C1
      rw [l2, cakesHT_ok l1] at C2
      have HLN : Hid ((meltF (daysF pp j)).length = pp.length) := Lib.hid (HL.out (j + 1)).2.1
      have HE : Hid (meltF (daysF pp j) = daysF pp (j + 1)) := Lib.hid rfl
      have HBel := Lib.hid hbel
      have HC : Hid (∀ q, q = cakesF (daysF pp j) → q = cakesF (daysF pp j)) := Lib.hid fun _ h => h
      obtain ⟨q, hq⟩ : ∃ q, q = cakesF (daysF pp j) := ⟨_, rfl⟩
      rw [← hq] at C2 hcb
      have HQ := Lib.hid hq
      clear l1 l3 hgr hbel l2 HC hq
      generalize meltF (daysF pp j) = ts at *
      go_wp2_with fail
      refine C2.mono ?_
      rintro e w' ⟨rfl, rfl⟩
      by_cases hk : q < keep
      · have R : LeftR pp keep ((j : Int) - 1) := by
          refine ⟨fun h => (by rw [Hv.out] at h; cases h), fun _ hfew => ?_, fun _ hk0 => ?_⟩
          · rcases Nat.eq_zero_or_pos j with h0 | h0
            · subst h0; rfl
            · have := HAll.out 0 h0
              have e0 : daysF pp 0 = pp := rfl
              rw [e0] at this
              omega
          · rcases Nat.eq_zero_or_pos j with h0 | h0
            · subst h0
              have e0 : daysF pp 0 = pp := rfl
              have := HQ.out
              rw [e0] at this
              omega
            · refine ⟨j - 1, by omega, by omega, fun i hi => HAll.out i (by omega), fun _ => ?_⟩
              rw [show j - 1 + 1 = j by omega, ← HQ.out]
              exact hk
        have HR := Lib.hid R
        clear R C1 C2
        go_wp2
        go_ret
        exact ⟨_, HR.out, rfl, HBel.out⟩
      · go_wp2_with fail
        refine C1.mono ?_
        intro e w3 hout
        obtain ⟨A3, c3, xs3, he, o3, b3⟩ := hout
        subst he
        have o4 := o3.rd
        have b4 : Below w.heap.size w w3 := HBel.out.trans (b3.mono hbs)
        rw [HE.out] at o4
        rw [HLN.out]
        have hall2 : ∀ i, i < j + 1 → keep ≤ cakesF (daysF pp i) := fun i hi => by
          by_cases e : i = j
          · subst e; rw [← HQ.out]; omega
          · exact HAll.out i (by omega)
        have HP := Lib.hid (And.intro o4 (And.intro b4 hall2))
        clear o3 o4 b3 b4 C1 C2 hall2
        go_wp2
        go_roundw
        case rel => exact ⟨j + 1, A3, c3, by omega, by go_num, rfl, HP.out.1, HP.out.2.1, HP.out.2.2⟩
        case measure => simp [intOf]; omega
    · obtain rfl : j = 61 := by omega
      have R : LeftR pp keep 60 := ⟨fun h => (by rw [Hv.out] at h; cases h), fun _ hfew => (by
          have := HAll.out 0 (by omega)
          have e0 : daysF pp 0 = pp := rfl
          rw [e0] at this
          omega), fun _ _ => ⟨60, rfl, Nat.le_refl _, fun i hi => HAll.out i (by omega), fun h => by omega⟩⟩
      have HR := Lib.hid R
      clear R hgr
      go_wp2
      go_ret
      exact ⟨_, HR.out, rfl, hbel⟩

end Go.Proofs.Ytbnggakfogcalaa

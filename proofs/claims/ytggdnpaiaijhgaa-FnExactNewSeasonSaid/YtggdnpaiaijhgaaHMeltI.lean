/- Contracts of chapter 5: heaps melt, the program. -/
import Derived.Test.YtggdnpaiaijhgaaHChgI
namespace Go.Proofs.Ytggdnpaiaijhgaa
open Go.RowKit
set_option linter.unusedVariables false
set_option linter.unusedSimpArgs false
theorem OwnG.lower {w : World} {base b' hi : Nat} {A : Option Addr} {n c : Nat} {xs : List Value} {pp : List (List Int)} (h : OwnG w base hi A n c xs pp) (hb : b' ≤ base) : OwnG w b' hi A n c xs pp :=
  ⟨own_base h.out hb, h.len, fun k r hr => by obtain ⟨A', c', h1, h2⟩ := h.row k r hr; exact ⟨A', c', h1, own_base h2 hb⟩, h.sep, h.top, h.hi_, h.hio⟩
theorem OutGr.lower {ts : List (List Int)} {w w1 w' : World} {e : Ending} (h : OutGr ts w1 e w') (hb : Below w.heap.size w w1) : OutGr ts w e w' := by
  obtain ⟨A, c, xs, h1, h2, h3⟩ := h
  exact ⟨A, c, xs, h1, h2.lower hb.size, hb.trans (h3.mono hb.size)⟩
set_option maxRecDepth 100000 in
set_option maxHeartbeats 2000000 in
theorem iMelt_any (pp : List (List Int)) (A : Option Addr) (c : Nat) (w : World) (hg : RdG w w.heap.size A pp) :
    Calls Try.prog 101 #[.slice A pp.length c] w (OutGr (meltT pp) w) := by
  cases hv : heapB pp
  · rw [meltT_no hv]
    have Hv := Lib.hid hv
    clear hv
    go_enter Try.func101, Try.ntmps101
    go_wp2_with (go_at_call 126; refine (iHp_is _ _ _ _ _ hg Hv.out).mono ?_; rintro e w' ⟨rfl, rfl⟩)
    go_ret
    exact outGr_nil w
  rw [meltT_ok hv]
  have hfb := faces_bd hv
  have hcb := cakes_bd hv
  obtain ⟨hgl, hge⟩ := gone_le hv
  have HFa := Lib.hid (iFaces_any pp A c w _ hg)
  have HCa := Lib.hid (iCakesH_any pp A c w _ hg)
  rw [facesT_ok hv] at HFa
  rw [cakesHT_ok hv] at HCa
  have HCo := Lib.hid (iCopy_any pp A c w hg (heap_pond hv))
  have HL : Hid (∀ j : Nat, j ≤ goneF pp → heapB (lessF pp j) = true ∧ (lessF pp j).length = pp.length ∧ wide (lessF pp j) = wide pp ∧ cakesF (lessF pp j) = cakesF pp - j) := Lib.hid fun j hj => less_ok hv j (by omega)
  have HM : Hid ((meltF pp).length = pp.length) := Lib.hid (melt_ok hv).2.1
  have Hv := Lib.hid hv
  clear hv
  obtain ⟨N, hN⟩ : ∃ N, N = (facesF pp + 9) / 10 := ⟨_, rfl⟩
  have e9 : (facesF pp + 10 - 1).tdiv 10 = N := by
    rw [hN, Int.tdiv_eq_ediv_of_nonneg (by omega)]
    congr 1; omega
  rw [← hN] at hge
  by_cases hle : cakesF pp < N
  · rw [if_pos hle] at hge
    have hn0 : 0 ≤ N := by omega
    have hn1 : N ≤ 1000 := by omega
    clear hN
    rw [← hge] at hle HCa hcb hfb
    clear hge hgl
    generalize facesF pp = FF at *
    go_enter Try.func101, Try.ntmps101
    go_wp2_with fail
    refine (iHp_is _ _ _ _ _ hg Hv.out).mono ?_
    rintro e w' ⟨rfl, rfl⟩
    go_wp2_with fail
    refine (HFa.out).mono ?_
    rintro e w' ⟨rfl, rfl⟩
    go_wp2_with fail
    refine (HCa.out).mono ?_
    rintro e w' ⟨rfl, rfl⟩
    go_wp2_with fail
    refine (HCa.out).mono ?_
    rintro e w' ⟨rfl, rfl⟩
    go_wp2_with fail
    refine (HCo.out).mono ?_
    rintro e w2 ⟨A2, c2, xs, rfl, o2, b2⟩
    have HO := Lib.hid o2
    have HB := Lib.hid b2
    clear o2 b2
    go_wp2
    go_loopw [3, 4] (fun g l wr => ∃ (j : Nat) (A' : Option Addr) (c' : Nat) (xs : List Value), j ≤ goneF pp ∧ g = .int .i64 ((goneF pp - j : Nat) : Int) ∧ l = .slice A' pp.length c' ∧ OwnG wr w.heap.size wr.heap.size A' pp.length c' xs (lessF pp j) ∧ Below w.heap.size w wr) (fun g _ _ => (intOf g).toNat)
    case atStart => exact ⟨0, A2, c2, xs, Nat.zero_le _, by simp, rfl, HO.out, HB.out⟩
    case round =>
      obtain ⟨j, A', c', xs', hj, rfl, rfl, ho, hbel⟩ := hrel
      have hbs := hbel.size
      by_cases hlt : j < goneF pp
      · have hz : (0 : Int) < ((goneF pp - j : Nat) : Int) := by omega
        obtain ⟨l1, l2, l3, l4⟩ := HL.out j (by omega)
        have hpj : Pnd wr wr.heap.size A' (lessF pp j) := ⟨heap_pond l1, ho.rd⟩
        have C1 := iHighest_any (lessF pp j) A' c' wr _ hpj
        have C2 : Hid (∀ n : Nat, Calls Try.prog 128 #[.slice A' pp.length c', .int .i64 (hiF (lessF pp j) : Nat), .int .i64 (-1)] (wr.drewN n) (OutGr (lessF pp (j + 1)) (wr.drewN n))) := Lib.hid fun n => by
          have := iChg_any (lessF pp j) A' c' (wr.drewN n) (ho.rd.drewN n) l1 (hiF (lessF pp j)) (hiF_lt (heap_pond l1)) (-1) (by omega) (by omega)
          rw [l2] at this
          exact this
        have HLN : Hid ((lessF pp (j + 1)).length = pp.length) := Lib.hid (HL.out (j + 1) (by omega)).2.1
        rw [l2] at C1
        have HBel := Lib.hid hbel
        clear l1 l3 l4 hpj ho hbel l2
        generalize hiF (lessF pp j) = top at *
        go_wp2_with fail
        refine C1.mono ?_
        rintro e w' ⟨rfl, n, rfl⟩
        go_wp2_with fail
        refine (C2.out n).mono ?_
        intro e w3 hout
        obtain ⟨A3, c3, xs3, he, o3, b3⟩ := hout
        subst he
        have o4 := OwnG.lower o3 (show w.heap.size ≤ (wr.drewN n).heap.size from hbs)
        have b4 : Below w.heap.size w w3 := HBel.out.trans (((below_drewN (Below.refl _ _) n).trans b3).mono hbs)
        rw [HLN.out] at o4 ⊢
        have HP := Lib.hid (And.intro o4 b4)
        clear o3 o4 b3 b4 C1
        go_wp2
        go_roundw
        case rel => exact ⟨j + 1, A3, c3, xs3, by omega, by first | go_num | (congr 1; omega), rfl, HP.out.1, HP.out.2⟩
        case measure => simp [intOf]; omega
      · obtain rfl : j = goneF pp := by omega
        have R : OutGr (meltF pp) w (.returned (.slice A' pp.length c')) wr := ⟨A', c', xs', by rw [HM.out], by rw [HM.out]; exact ho, hbel⟩
        have HR := Lib.hid R
        clear R ho hbel
        have hz : ¬ (0 : Int) < ((goneF pp - goneF pp : Nat) : Int) := by omega
        go_wp2
        go_ret
        exact HR.out
  · rw [if_neg hle] at hge
    have hle2 : ¬ cakesF pp < (goneF pp : Int) := by omega
    clear hN
    subst hge
    clear hle
    generalize facesF pp = FF at *
    generalize cakesF pp = CC at *
    go_enter Try.func101, Try.ntmps101
    go_wp2_with fail
    refine (iHp_is _ _ _ _ _ hg Hv.out).mono ?_
    rintro e w' ⟨rfl, rfl⟩
    go_wp2_with fail
    refine (HFa.out).mono ?_
    rintro e w' ⟨rfl, rfl⟩
    go_wp2_with fail
    refine (HCa.out).mono ?_
    rintro e w' ⟨rfl, rfl⟩
    go_wp2_with fail
    refine (HCo.out).mono ?_
    rintro e w2 ⟨A2, c2, xs, rfl, o2, b2⟩
    have HO := Lib.hid o2
    have HB := Lib.hid b2
    clear o2 b2
    go_wp2
    go_loopw [3, 4] (fun g l wr => ∃ (j : Nat) (A' : Option Addr) (c' : Nat) (xs : List Value), j ≤ goneF pp ∧ g = .int .i64 ((goneF pp - j : Nat) : Int) ∧ l = .slice A' pp.length c' ∧ OwnG wr w.heap.size wr.heap.size A' pp.length c' xs (lessF pp j) ∧ Below w.heap.size w wr) (fun g _ _ => (intOf g).toNat)
    case atStart => exact ⟨0, A2, c2, xs, Nat.zero_le _, by simp, rfl, HO.out, HB.out⟩
    case round =>
      obtain ⟨j, A', c', xs', hj, rfl, rfl, ho, hbel⟩ := hrel
      have hbs := hbel.size
      by_cases hlt : j < goneF pp
      · have hz : (0 : Int) < ((goneF pp - j : Nat) : Int) := by omega
        obtain ⟨l1, l2, l3, l4⟩ := HL.out j (by omega)
        have hpj : Pnd wr wr.heap.size A' (lessF pp j) := ⟨heap_pond l1, ho.rd⟩
        have C1 := iHighest_any (lessF pp j) A' c' wr _ hpj
        have C2 : Hid (∀ n : Nat, Calls Try.prog 128 #[.slice A' pp.length c', .int .i64 (hiF (lessF pp j) : Nat), .int .i64 (-1)] (wr.drewN n) (OutGr (lessF pp (j + 1)) (wr.drewN n))) := Lib.hid fun n => by
          have := iChg_any (lessF pp j) A' c' (wr.drewN n) (ho.rd.drewN n) l1 (hiF (lessF pp j)) (hiF_lt (heap_pond l1)) (-1) (by omega) (by omega)
          rw [l2] at this
          exact this
        have HLN : Hid ((lessF pp (j + 1)).length = pp.length) := Lib.hid (HL.out (j + 1) (by omega)).2.1
        rw [l2] at C1
        have HBel := Lib.hid hbel
        clear l1 l3 l4 hpj ho hbel l2
        generalize hiF (lessF pp j) = top at *
        go_wp2_with fail
        refine C1.mono ?_
        rintro e w' ⟨rfl, n, rfl⟩
        go_wp2_with fail
        refine (C2.out n).mono ?_
        intro e w3 hout
        obtain ⟨A3, c3, xs3, he, o3, b3⟩ := hout
        subst he
        have o4 := OwnG.lower o3 (show w.heap.size ≤ (wr.drewN n).heap.size from hbs)
        have b4 : Below w.heap.size w w3 := HBel.out.trans (((below_drewN (Below.refl _ _) n).trans b3).mono hbs)
        rw [HLN.out] at o4 ⊢
        have HP := Lib.hid (And.intro o4 b4)
        clear o3 o4 b3 b4 C1
        go_wp2
        go_roundw
        case rel => exact ⟨j + 1, A3, c3, xs3, by omega, by first | go_num | (congr 1; omega), rfl, HP.out.1, HP.out.2⟩
        case measure => simp [intOf]; omega
      · obtain rfl : j = goneF pp := by omega
        have R : OutGr (meltF pp) w (.returned (.slice A' pp.length c')) wr := ⟨A', c', xs', by rw [HM.out], by rw [HM.out]; exact ho, hbel⟩
        have HR := Lib.hid R
        clear R ho hbel
        have hz : ¬ (0 : Int) < ((goneF pp - goneF pp : Nat) : Int) := by omega
        go_wp2
        go_ret
        exact HR.out

end Go.Proofs.Ytggdnpaiaijhgaa

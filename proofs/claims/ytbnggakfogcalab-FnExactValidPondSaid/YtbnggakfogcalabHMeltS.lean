/- Contracts of chapter 5's model: heaps melt. -/
import Derived.StillTailTactics
import Derived.Deep.RegionWith
import Derived.Test.YtbnggakfogcalabHAddS
import Derived.Test.YtbnggakfogcalabHMeltI
namespace Go.Proofs.Ytbnggakfogcalab
open Go.RowKit
set_option linter.unusedVariables false
set_option linter.unusedSimpArgs false
/-- what melt answers: its argument, or a list of its own -/
def MeltPost (pp : List (List Int)) (A : Option Addr) (c : Nat) (w : World) (e : Ending) (w' : World) : Prop :=
  ∃ (A' : Option Addr) (c' : Nat), e = .returned (.slice A' pp.length c') ∧ RdG w' w'.heap.size A' (meltF pp) ∧ Below w.heap.size w w' ∧ ((goneF pp = 0 ∧ A' = A ∧ c' = c) ∨ ∃ xs, OwnG w' w.heap.size w'.heap.size A' pp.length c' xs (meltF pp))
theorem OwnG.up {w : World} {base hi hi' : Nat} {A : Option Addr} {n c : Nat} {xs : List Value} {pp : List (List Int)} (h : OwnG w base hi A n c xs pp) (hh : hi ≤ hi') : OwnG w base hi' A n c xs pp :=
  ⟨h.out, h.len, h.row, h.sep, h.top, fun i u b hu hb => Nat.lt_of_lt_of_le (h.hi_ i u b hu hb) hh, fun b hb => Nat.lt_of_lt_of_le (h.hio b hb) hh⟩
theorem MeltPost.own {pp : List (List Int)} {A : Option Addr} {b0 c : Nat} {xs : List Value} {w w' : World} {e : Ending} (hm : MeltPost pp A c w e w') (ho : OwnG w b0 w.heap.size A pp.length c xs pp) (hb0 : b0 ≤ w.heap.size) :
    ∃ A' c' xs', e = .returned (.slice A' pp.length c') ∧ OwnG w' b0 w'.heap.size A' pp.length c' xs' (meltF pp) ∧ Below w.heap.size w w' := by
  obtain ⟨A', c', he, hr, hb, hor⟩ := hm
  rcases hor with ⟨h0, rfl, rfl⟩ | ⟨xs', ho'⟩
  · refine ⟨_, _, xs, he, ?_, hb⟩
    have e0 : meltF pp = pp := by unfold meltF; rw [h0]; rfl
    rw [e0]
    exact (ho.below (Nat.le_refl _) hb).up hb.size
  · exact ⟨_, _, xs', he, ho'.lower hb0, hb⟩
set_option maxHeartbeats 2000000 in
theorem sMelt0_any (pp : List (List Int)) (A : Option Addr) (c : Nat) (w : World) (hg : RdG w w.heap.size A pp) (hv : heapB pp = true) :
    Calls Try.prog 63 #[.slice A pp.length c] w (MeltPost pp A c w) := by
  have hfb := faces_bd hv
  have hcb := cakes_bd hv
  obtain ⟨hgl, hge⟩ := gone_le hv
  have hp : Pnd w w.heap.size A pp := ⟨heap_pond hv, hg⟩
  have HFa := Lib.hid (sFaces0_any pp A c w _ hp hv)
  have HCa := Lib.hid (sCakes0_any pp A c w _ hg hv)
  have HL : Hid (∀ j : Nat, j ≤ goneF pp → heapB (lessF pp j) = true ∧ (lessF pp j).length = pp.length ∧ wide (lessF pp j) = wide pp ∧ cakesF (lessF pp j) = cakesF pp - j) := Lib.hid fun j hj => less_ok hv j (by omega)
  have HG0 := Lib.hid hg
  clear hv hp
  obtain ⟨N, hN⟩ : ∃ N, N = (facesF pp + 9) / 10 := ⟨_, rfl⟩
  have e9 : (facesF pp + 10 - 1).tdiv 10 = N := by
    rw [hN, Int.tdiv_eq_ediv_of_nonneg (by omega)]
    congr 1; omega
  rw [← hN] at hge
  have hn0 : 0 ≤ N := by omega
  have hn1 : N ≤ 1000 := by omega
  by_cases hle : cakesF pp < N
  · have hge : (goneF pp : Int) = cakesF pp := by
      split at hge
      · exact hge
      · omega
    clear hN
    rw [← hge] at hle HCa hcb hfb
    clear hge hgl
    generalize facesF pp = FF at *
    go_enter Try.func63, Try.ntmps63
    go_wp2_with fail
    refine (HCa.out).mono ?_
    rintro e w' ⟨rfl, rfl⟩
    go_wp2_with fail
    refine (HFa.out).mono ?_
    rintro e w' ⟨rfl, rfl⟩
    go_wp2
    go_loopw [0, 4] (fun l i wr => ∃ (j : Nat) (A' : Option Addr) (c' : Nat), j ≤ goneF pp ∧ i = .int .i64 (j : Nat) ∧ l = .slice A' pp.length c' ∧ RdG wr wr.heap.size A' (lessF pp j) ∧ Below w.heap.size w wr ∧ ((j = 0 ∧ A' = A ∧ c' = c) ∨ ∃ xs, OwnG wr w.heap.size wr.heap.size A' pp.length c' xs (lessF pp j))) (fun _ i _ => goneF pp - (intOf i).toNat)
    case atStart => exact ⟨0, A, c, Nat.zero_le _, rfl, rfl, HG0.out, Below.refl _ _, .inl ⟨rfl, rfl, rfl⟩⟩
    case round =>
      obtain ⟨j, A', c', hj, rfl, rfl, hgr, hbel, hor⟩ := hrel
      have hbs := hbel.size
      by_cases hlt : j < goneF pp
      · have hltI : (j : Int) < (goneF pp : Int) := by omega
        obtain ⟨l1, l2, l3, l4⟩ := HL.out j (by omega)
        have hpj : Pnd wr wr.heap.size A' (lessF pp j) := ⟨heap_pond l1, hgr⟩
        have C1 := sHighest_any (lessF pp j) A' c' wr _ hpj
        have C2 : Hid (∀ n : Nat, Calls Try.prog 54 #[.slice A' pp.length c', .int .i64 (hiF (lessF pp j) : Nat), .int .i64 (-1)] (wr.drewN n) (OutGr (lessF pp (j + 1)) (wr.drewN n))) := Lib.hid fun n => by
          have := sWith_any (lessF pp j) A' c' (wr.drewN n) (hgr.drewN n) l1 (hiF (lessF pp j)) (hiF_lt (heap_pond l1)) (-1) (by omega) (by omega)
          rw [l2] at this
          exact this
        have HLN : Hid ((lessF pp (j + 1)).length = pp.length) := Lib.hid (HL.out (j + 1) (by omega)).2.1
        rw [l2] at C1
        have HBel := Lib.hid hbel
        clear l1 l3 l4 hpj hgr hbel l2 hor
        generalize hiF (lessF pp j) = top at *
        go_wp2_with fail
        refine C1.mono ?_
        rintro e w' ⟨rfl, n, rfl⟩
        go_wp2_with fail
        refine (C2.out n).mono ?_
        intro e w3 hout
        obtain ⟨A3, c3, xs3, he, o3, b3⟩ := hout
        subst he
        have o4 := OwnG.lower o3 (show w.heap.size ≤ (wr.drewN n).heap.size from hbs)
        have b4 : Below w.heap.size w w3 := HBel.out.trans (((below_drewN (Below.refl _ _) n).trans b3).mono hbs)
        rw [HLN.out] at o4 ⊢
        have HP := Lib.hid (And.intro o4 b4)
        clear o3 o4 b3 b4 C1
        go_wp2
        go_roundw
        case rel => exact ⟨j + 1, A3, c3, by omega, by go_num, rfl, HP.out.1.rd, HP.out.2, .inr ⟨xs3, HP.out.1⟩⟩
        case measure => simp [intOf]; omega
      · obtain rfl : j = goneF pp := by omega
        have R : MeltPost pp A c w (.returned (.slice A' pp.length c')) wr := ⟨A', c', rfl, hgr, hbel, hor⟩
        have HR := Lib.hid R
        clear R hgr hbel hor
        go_wp2
        go_ret
        exact HR.out
  by_cases heq2 : cakesF pp = N
  · have hge : (goneF pp : Int) = cakesF pp := by
      rw [if_neg (by omega)] at hge
      omega
    clear hN
    have heq : N = (goneF pp : Int) := by omega
    rw [← hge] at HCa hcb hfb
    subst heq
    clear hge hgl hle heq2
    generalize facesF pp = FF at *
    go_enter Try.func63, Try.ntmps63
    go_wp2_with fail
    refine (HCa.out).mono ?_
    rintro e w' ⟨rfl, rfl⟩
    go_wp2_with fail
    refine (HFa.out).mono ?_
    rintro e w' ⟨rfl, rfl⟩
    go_wp2
    go_loopw [0, 4] (fun l i wr => ∃ (j : Nat) (A' : Option Addr) (c' : Nat), j ≤ goneF pp ∧ i = .int .i64 (j : Nat) ∧ l = .slice A' pp.length c' ∧ RdG wr wr.heap.size A' (lessF pp j) ∧ Below w.heap.size w wr ∧ ((j = 0 ∧ A' = A ∧ c' = c) ∨ ∃ xs, OwnG wr w.heap.size wr.heap.size A' pp.length c' xs (lessF pp j))) (fun _ i _ => goneF pp - (intOf i).toNat)
    case atStart => exact ⟨0, A, c, Nat.zero_le _, rfl, rfl, HG0.out, Below.refl _ _, .inl ⟨rfl, rfl, rfl⟩⟩
    case round =>
      obtain ⟨j, A', c', hj, rfl, rfl, hgr, hbel, hor⟩ := hrel
      have hbs := hbel.size
      by_cases hlt : j < goneF pp
      · have hltI : (j : Int) < (goneF pp : Int) := by omega
        obtain ⟨l1, l2, l3, l4⟩ := HL.out j (by omega)
        have hpj : Pnd wr wr.heap.size A' (lessF pp j) := ⟨heap_pond l1, hgr⟩
        have C1 := sHighest_any (lessF pp j) A' c' wr _ hpj
        have C2 : Hid (∀ n : Nat, Calls Try.prog 54 #[.slice A' pp.length c', .int .i64 (hiF (lessF pp j) : Nat), .int .i64 (-1)] (wr.drewN n) (OutGr (lessF pp (j + 1)) (wr.drewN n))) := Lib.hid fun n => by
          have := sWith_any (lessF pp j) A' c' (wr.drewN n) (hgr.drewN n) l1 (hiF (lessF pp j)) (hiF_lt (heap_pond l1)) (-1) (by omega) (by omega)
          rw [l2] at this
          exact this
        have HLN : Hid ((lessF pp (j + 1)).length = pp.length) := Lib.hid (HL.out (j + 1) (by omega)).2.1
        rw [l2] at C1
        have HBel := Lib.hid hbel
        clear l1 l3 l4 hpj hgr hbel l2 hor
        generalize hiF (lessF pp j) = top at *
        go_wp2_with fail
        refine C1.mono ?_
        rintro e w' ⟨rfl, n, rfl⟩
        go_wp2_with fail
        refine (C2.out n).mono ?_
        intro e w3 hout
        obtain ⟨A3, c3, xs3, he, o3, b3⟩ := hout
        subst he
        have o4 := OwnG.lower o3 (show w.heap.size ≤ (wr.drewN n).heap.size from hbs)
        have b4 : Below w.heap.size w w3 := HBel.out.trans (((below_drewN (Below.refl _ _) n).trans b3).mono hbs)
        rw [HLN.out] at o4 ⊢
        have HP := Lib.hid (And.intro o4 b4)
        clear o3 o4 b3 b4 C1
        go_wp2
        go_roundw
        case rel => exact ⟨j + 1, A3, c3, by omega, by go_num, rfl, HP.out.1.rd, HP.out.2, .inr ⟨xs3, HP.out.1⟩⟩
        case measure => simp [intOf]; omega
      · obtain rfl : j = goneF pp := by omega
        have R : MeltPost pp A c w (.returned (.slice A' pp.length c')) wr := ⟨A', c', rfl, hgr, hbel, hor⟩
        have HR := Lib.hid R
        clear R hgr hbel hor
        go_wp2
        go_ret
        exact HR.out
  · rw [if_neg (by omega)] at hge
    clear hN
    subst hge
    have hle2 : ((goneF pp : Nat) : Int) < cakesF pp := by omega
    generalize facesF pp = FF at *
    generalize cakesF pp = CC at *
    go_enter Try.func63, Try.ntmps63
    go_wp2_with fail
    refine (HCa.out).mono ?_
    rintro e w' ⟨rfl, rfl⟩
    go_wp2_with fail
    refine (HFa.out).mono ?_
    rintro e w' ⟨rfl, rfl⟩
    go_wp2
    go_loopw [0, 4] (fun l i wr => ∃ (j : Nat) (A' : Option Addr) (c' : Nat), j ≤ goneF pp ∧ i = .int .i64 (j : Nat) ∧ l = .slice A' pp.length c' ∧ RdG wr wr.heap.size A' (lessF pp j) ∧ Below w.heap.size w wr ∧ ((j = 0 ∧ A' = A ∧ c' = c) ∨ ∃ xs, OwnG wr w.heap.size wr.heap.size A' pp.length c' xs (lessF pp j))) (fun _ i _ => goneF pp - (intOf i).toNat)
    case atStart => exact ⟨0, A, c, Nat.zero_le _, rfl, rfl, HG0.out, Below.refl _ _, .inl ⟨rfl, rfl, rfl⟩⟩
    case round =>
      obtain ⟨j, A', c', hj, rfl, rfl, hgr, hbel, hor⟩ := hrel
      have hbs := hbel.size
      by_cases hlt : j < goneF pp
      · have hltI : (j : Int) < (goneF pp : Int) := by omega
        obtain ⟨l1, l2, l3, l4⟩ := HL.out j (by omega)
        have hpj : Pnd wr wr.heap.size A' (lessF pp j) := ⟨heap_pond l1, hgr⟩
        have C1 := sHighest_any (lessF pp j) A' c' wr _ hpj
        have C2 : Hid (∀ n : Nat, Calls Try.prog 54 #[.slice A' pp.length c', .int .i64 (hiF (lessF pp j) : Nat), .int .i64 (-1)] (wr.drewN n) (OutGr (lessF pp (j + 1)) (wr.drewN n))) := Lib.hid fun n => by
          have := sWith_any (lessF pp j) A' c' (wr.drewN n) (hgr.drewN n) l1 (hiF (lessF pp j)) (hiF_lt (heap_pond l1)) (-1) (by omega) (by omega)
          rw [l2] at this
          exact this
        have HLN : Hid ((lessF pp (j + 1)).length = pp.length) := Lib.hid (HL.out (j + 1) (by omega)).2.1
        rw [l2] at C1
        have HBel := Lib.hid hbel
        clear l1 l3 l4 hpj hgr hbel l2 hor
        generalize hiF (lessF pp j) = top at *
        go_wp2_with fail
        refine C1.mono ?_
        rintro e w' ⟨rfl, n, rfl⟩
        go_wp2_with fail
        refine (C2.out n).mono ?_
        intro e w3 hout
        obtain ⟨A3, c3, xs3, he, o3, b3⟩ := hout
        subst he
        have o4 := OwnG.lower o3 (show w.heap.size ≤ (wr.drewN n).heap.size from hbs)
        have b4 : Below w.heap.size w w3 := HBel.out.trans (((below_drewN (Below.refl _ _) n).trans b3).mono hbs)
        rw [HLN.out] at o4 ⊢
        have HP := Lib.hid (And.intro o4 b4)
        clear o3 o4 b3 b4 C1
        go_wp2
        go_roundw
        case rel => exact ⟨j + 1, A3, c3, by omega, by go_num, rfl, HP.out.1.rd, HP.out.2, .inr ⟨xs3, HP.out.1⟩⟩
        case measure => simp [intOf]; omega
      · obtain rfl : j = goneF pp := by omega
        have R : MeltPost pp A c w (.returned (.slice A' pp.length c')) wr := ⟨A', c', rfl, hgr, hbel, hor⟩
        have HR := Lib.hid R
        clear R hgr hbel hor
        go_wp2
        go_ret
        exact HR.out

theorem sWith0_any (pp : List (List Int)) (A : Option Addr) (c : Nat) (w : World) (hg : RdG w w.heap.size A pp) (hv : heapB pp = true) :
    Calls Try.prog 54 #[.slice A pp.length c, .int .i64 0, .int .i64 0] w (OutGr pp w) := by
  have hp := heap_pond hv
  have hc := pond_cnt hp
  have h := sWith_any pp A c w hg hv 0 (by omega) 0 (by omega) (by omega)
  rw [addF_zero hp (by omega)] at h
  exact h
set_option maxHeartbeats 2000000 in
theorem sMelt_any (pp : List (List Int)) (A : Option Addr) (c : Nat) (w : World) (hg : RdG w w.heap.size A pp) (hn : pp.length ≤ 1048576) :
    Calls Try.prog 32 #[.slice A pp.length c] w (OutGr (meltT pp) w) := by
  cases hv : heapB pp
  · rw [meltT_no hv]
    have Hv := Lib.hid hv
    clear hv
    go_enter Try.func32, Try.ntmps32
    go_wp2_with (go_at_call 48; refine (sHp_is _ _ _ _ _ hg hn Hv.out).mono ?_; rintro e w' ⟨rfl, nv, rfl⟩)
    go_ret
    exact outGr_nil' w nv
  rw [meltT_ok hv]
  have HW := Lib.hid (fun n : Nat => sWith0_any pp A c (w.drewN n) (hg.drewN n) hv)
  have HM := Lib.hid (fun (A' : Option Addr) (c' : Nat) (w' : World) (hg' : RdG w' w'.heap.size A' pp) => sMelt0_any pp A' c' w' hg' hv)
  have HLN : Hid ((meltF pp).length = pp.length) := Lib.hid (melt_ok hv).2.1
  have Hv := Lib.hid hv
  clear hv
  go_enter Try.func32, Try.ntmps32
  go_wp2_with fail
  refine (sHp_is _ _ _ _ _ hg hn Hv.out).mono ?_
  rintro e w' ⟨rfl, nv, rfl⟩
  go_wp2_with fail
  refine (HW.out nv).mono ?_
  rintro e w2 ⟨A2, c2, xs2, rfl, o2, b2⟩
  go_wp2_with fail
  refine (HM.out A2 c2 w2 o2.rd).mono ?_
  intro e w3 hm
  obtain ⟨A3, c3, xs3, he, o3, b3⟩ := hm.own o2 b2.size
  subst he
  have R : OutGr (meltF pp) w (.returned (.slice A3 pp.length c3)) w3 := outGr_drew nv ⟨A3, c3, xs3, by rw [HLN.out], by rw [HLN.out]; exact o3, b2.trans (b3.mono b2.size)⟩
  have HR := Lib.hid R
  clear R hm o2 o3 b2 b3
  go_wp2
  go_ret
  exact HR.out
set_option maxHeartbeats 2000000 in
theorem sMelts_any (pp : List (List Int)) (A : Option Addr) (c : Nat) (w : World) (hg : RdG w w.heap.size A pp) (hn : pp.length ≤ 1048576) (z : Int) :
    Calls Try.prog 34 #[.slice A pp.length c, .int .i64 z] w (OutGr (daysT pp z) w) := by
  cases hv : heapB pp
  · rw [daysT_no (by rw [hv]; rfl)]
    have Hv := Lib.hid hv
    clear hv
    go_enter Try.func34, Try.ntmps34
    go_wp2_with (go_at_call 48; refine (sHp_is _ _ _ _ _ hg hn Hv.out).mono ?_; rintro e w' ⟨rfl, nv, rfl⟩)
    go_ret
    exact outGr_nil' w nv
  cases hz : inB z 0 60
  · rw [daysT_no (by rw [hz]; simp)]
    have Hv := Lib.hid hv
    have Hz := Lib.hid hz
    clear hv hz
    go_enter Try.func34, Try.ntmps34
    go_wp2_with fail
    refine (sHp_is _ _ _ _ _ hg hn Hv.out).mono ?_
    rintro e w' ⟨rfl, nv, rfl⟩
    go_wp2_with fail
    refine (inR_is Hz.out _).mono ?_
    rintro e w' ⟨rfl, rfl⟩
    go_wp2
    go_ret
    exact outGr_nil' w nv
  have hz2 := inB_t hz
  have Hz := Lib.hid hz
  clear hz
  obtain ⟨D, rfl⟩ := Int.eq_ofNat_of_zero_le hz2.1
  have hD : D ≤ 60 := by omega
  rw [daysT_ok hv hD]
  have HW := Lib.hid (fun n : Nat => sWith0_any pp A c (w.drewN n) (hg.drewN n) hv)
  have HL : Hid (∀ j : Nat, heapB (daysF pp j) = true ∧ (daysF pp j).length = pp.length ∧ wide (daysF pp j) = wide pp) := Lib.hid (days_ok hv)
  have Hv := Lib.hid hv
  clear hv
  go_enter Try.func34, Try.ntmps34
  go_wp2_with fail
  refine (sHp_is _ _ _ _ _ hg hn Hv.out).mono ?_
  rintro e w' ⟨rfl, nv, rfl⟩
  go_wp2_with fail
  refine (inR_is Hz.out _).mono ?_
  rintro e w' ⟨rfl, rfl⟩
  go_wp2_with fail
  refine (HW.out nv).mono ?_
  rintro e w2 ⟨A2, c2, xs2, rfl, o2, b2⟩
  have HO : Hid (OwnG w2 w.heap.size w2.heap.size A2 pp.length c2 xs2 pp) := Lib.hid o2
  have HB : Hid (Below w.heap.size w w2) := Lib.hid ((below_drewN (Below.refl _ _) nv).trans b2)
  clear o2 b2
  go_wp2
  go_loopw [5, 6] (fun l g wr => ∃ (j : Nat) (A' : Option Addr) (c' : Nat) (xs : List Value), j ≤ D ∧ g = .int .i64 (j : Nat) ∧ l = .slice A' pp.length c' ∧ OwnG wr w.heap.size wr.heap.size A' pp.length c' xs (daysF pp j) ∧ Below w.heap.size w wr) (fun _ g _ => D - (intOf g).toNat)
  case atStart => exact ⟨0, A2, c2, xs2, Nat.zero_le _, rfl, rfl, HO.out, HB.out⟩
  case round =>
    obtain ⟨j, A', c', xs', hj, rfl, rfl, ho, hbel⟩ := hrel
    have hbs := hbel.size
    by_cases hlt : j < D
    · obtain ⟨l1, l2, l3⟩ := HL.out j
      have C1 := sMelt0_any (daysF pp j) A' c' wr ho.rd l1
      rw [l2] at C1
      have HO1 := Lib.hid ho
      have HL2 := Lib.hid l2
      have HE : Hid (meltF (daysF pp j) = daysF pp (j + 1)) := Lib.hid rfl
      have HBel := Lib.hid hbel
      clear l1 l3 ho hbel l2
      go_wp2_with fail
      refine C1.mono ?_
      intro e w3 hm
      obtain ⟨A3, c3, xs3, he, o3, b3⟩ := hm.own (by rw [HL2.out]; exact HO1.out) hbs
      subst he
      have b4 : Below w.heap.size w w3 := HBel.out.trans (b3.mono hbs)
      rw [HL2.out, HE.out] at o3
      rw [HL2.out]
      have HP := Lib.hid (And.intro o3 b4)
      clear o3 b3 b4 C1 hm
      go_wp2
      go_roundw
      case rel => exact ⟨j + 1, A3, c3, xs3, by omega, by go_num, rfl, HP.out.1, HP.out.2⟩
      case measure => simp [intOf]; omega
    · obtain rfl : j = D := by omega
      have R : OutGr (daysF pp j) w (.returned (.slice A' pp.length c')) wr := ⟨A', c', xs', by rw [(HL.out j).2.1], by rw [(HL.out j).2.1]; exact ho, hbel⟩
      have HR := Lib.hid R
      clear R ho hbel
      go_wp2
      go_ret
      exact HR.out
set_option maxHeartbeats 2000000 in
theorem sLeft_any (pp : List (List Int)) (A : Option Addr) (c : Nat) (w : World) (hg : RdG w w.heap.size A pp) (hn : pp.length ≤ 1048576) (keep : Int) :
    Calls Try.prog 36 #[.slice A pp.length c, .int .i64 keep] w fun e w' => ∃ x, LeftR pp keep x ∧ e = .returned (.int .i64 x) ∧ Below w.heap.size w w' := by
  cases hv : heapB pp
  · have Hv := Lib.hid hv
    have R : LeftR pp keep (-1) := ⟨fun _ => rfl, fun h => (by rw [hv] at h; cases h), fun h => (by rw [hv] at h; cases h)⟩
    have HR := Lib.hid R
    clear hv R
    go_enter Try.func36, Try.ntmps36
    go_wp2_with (go_at_call 48; refine (sHp_is _ _ _ _ _ hg hn Hv.out).mono ?_; rintro e w' ⟨rfl, nv, rfl⟩)
    go_ret
    exact ⟨_, HR.out, rfl, below_drewN (Below.refl _ _) _⟩
  have HL : Hid (∀ j : Nat, heapB (daysF pp j) = true ∧ (daysF pp j).length = pp.length ∧ wide (daysF pp j) = wide pp) := Lib.hid (days_ok hv)
  have HC0 := Lib.hid (fun n : Nat => sCakes0_any pp A c (w.drewN n) _ (hg.drewN n) hv)
  have hcb0 := cakes_bd hv
  have Hv := Lib.hid hv
  clear hv
  by_cases hfew : cakesF pp < keep
  · have R : LeftR pp keep (-1) := ⟨fun _ => rfl, fun _ _ => rfl, fun _ h => by omega⟩
    have HR := Lib.hid R
    clear R
    generalize cakesF pp = q0 at *
    go_enter Try.func36, Try.ntmps36
    go_wp2_with fail
    refine (sHp_is _ _ _ _ _ hg hn Hv.out).mono ?_
    rintro e w' ⟨rfl, nv, rfl⟩
    go_wp2_with fail
    refine (HC0.out nv).mono ?_
    rintro e w' ⟨rfl, rfl⟩
    go_wp2
    go_ret
    exact ⟨_, HR.out, rfl, below_drewN (Below.refl _ _) _⟩
  have HK0 : Hid (∀ i, i ≤ 0 → keep ≤ cakesF (daysF pp i)) := Lib.hid fun i hi => by
    obtain rfl : i = 0 := Nat.le_zero.1 hi
    show keep ≤ cakesF pp; omega
  obtain ⟨q0, hq0⟩ : ∃ q, q = cakesF pp := ⟨_, rfl⟩
  rw [← hq0] at hfew HC0 hcb0
  have HQ0 := Lib.hid hq0
  clear hq0
  go_enter Try.func36, Try.ntmps36
  go_wp2_with fail
  refine (sHp_is _ _ _ _ _ hg hn Hv.out).mono ?_
  rintro e w' ⟨rfl, nv, rfl⟩
  go_wp2_with fail
  refine (HC0.out nv).mono ?_
  rintro e w' ⟨rfl, rfl⟩
  go_wp2
  go_loopw [0, 5] (fun l g wr => ∃ (j : Nat) (A' : Option Addr) (c' : Nat), j ≤ 60 ∧ g = .int .i64 (j : Nat) ∧ l = .slice A' pp.length c' ∧ RdG wr wr.heap.size A' (daysF pp j) ∧ Below w.heap.size w wr ∧ ∀ i, i ≤ j → keep ≤ cakesF (daysF pp i)) (fun _ g _ => 60 - (intOf g).toNat)
  case atStart => exact ⟨0, A, c, Nat.zero_le _, rfl, rfl, hg.drewN nv, below_drewN (Below.refl _ _) _, HK0.out⟩
  case round =>
    obtain ⟨j, A', c', hj, rfl, rfl, hgr, hbel, hall⟩ := hrel
    have hbs := hbel.size
    have HAll := Lib.hid hall
    clear hall
    by_cases hlt : j < 60
    · have hltI : (j : Int) < 60 := by omega
      obtain ⟨l1, l2, l3⟩ := HL.out j
      obtain ⟨m1, m2, m3⟩ := HL.out (j + 1)
      have hcb := cakes_bd m1
      have C1 := sMelt0_any (daysF pp j) A' c' wr hgr l1
      rw [l2] at C1
      have HL2 := Lib.hid l2
      have HLN := Lib.hid m2
      have C2 := Lib.hid (fun (A3 : Option Addr) (c3 : Nat) (w3 : World) (h3 : RdG w3 w3.heap.size A3 (daysF pp (j + 1))) => sCakes0_any (daysF pp (j + 1)) A3 c3 w3 _ h3 m1)
      rw [m2] at C2
      have HE : Hid (meltF (daysF pp j) = daysF pp (j + 1)) := Lib.hid rfl
      have HBel := Lib.hid hbel
      obtain ⟨q, hq⟩ : ∃ q, q = cakesF (daysF pp (j + 1)) := ⟨_, rfl⟩
      rw [← hq] at C2 hcb
      have HQ := Lib.hid hq
      clear l1 l3 hgr hbel l2 m1 m2 m3 hq
      go_wp2_with fail
      refine C1.mono ?_
      intro e w3 hm
      obtain ⟨A3, c3, he, h3, b3, _⟩ := hm
      subst he
      have b4 : Below w.heap.size w w3 := HBel.out.trans (b3.mono hbs)
      rw [HE.out] at h3
      rw [HL2.out]
      have CC2 := Lib.hid (C2.out A3 c3 w3 h3)
      have HP := Lib.hid (And.intro h3 b4)
      clear h3 b3 b4 C1 C2
      go_wp2_with fail
      refine (CC2.out).mono ?_
      rintro e w' ⟨rfl, rfl⟩
      by_cases hk : q < keep
      · have R : LeftR pp keep (j : Int) := ⟨fun h => (by rw [Hv.out] at h; cases h), fun _ h => (by have := HQ0.out; omega), fun _ _ => ⟨j, rfl, hj, fun i hi => HAll.out i hi, fun _ => by rw [← HQ.out]; exact hk⟩⟩
        have HR := Lib.hid R
        clear R
        go_wp2
        go_ret
        exact ⟨_, HR.out, rfl, HP.out.2⟩
      · have hall2 : ∀ i, i ≤ j + 1 → keep ≤ cakesF (daysF pp i) := fun i hi => by
          by_cases e : i = j + 1
          · subst e; rw [← HQ.out]; omega
          · exact HAll.out i (by omega)
        have HA2 := Lib.hid hall2
        clear hall2
        go_wp2
        go_roundw
        case rel => exact ⟨j + 1, A3, c3, by omega, by go_num, rfl, HP.out.1, HP.out.2, HA2.out⟩
        case measure => simp [intOf]; omega
    · obtain rfl : j = 60 := by omega
      have R : LeftR pp keep 60 := ⟨fun h => (by rw [Hv.out] at h; cases h), fun _ h => (by have := HQ0.out; omega), fun _ _ => ⟨60, rfl, Nat.le_refl _, fun i hi => HAll.out i hi, fun h => by omega⟩⟩
      have HR := Lib.hid R
      clear R hgr
      go_wp2
      go_ret
      exact ⟨_, HR.out, rfl, hbel⟩

end Go.Proofs.Ytbnggakfogcalab

/- Contracts of RisksFrom, of the program and of the model; of the program's WayTo. -/
import Derived.Test.YtbnggakfogcaladRisksS
namespace Go.Proofs.Ytbnggakfogcalad
open Go.RowKit
set_option linter.unusedVariables false
set_option linter.unusedSimpArgs false
section
variable {w : World} {A : Option Addr} {pp : List (List Int)} {c : Nat}
theorem cell_of {z : Int} (h : inB z 0 ((cnt pp : Nat) - 1) = true) : ∃ a : Nat, z = a ∧ a < cnt pp := by
  have := inB_t h
  obtain ⟨a, rfl⟩ := Int.eq_ofNat_of_zero_le this.1
  exact ⟨a, rfl, by omega⟩
theorem risksOver_safe (hp : Pnd w w.heap.size A pp) (load : Int) (As : Option Addr) (cs0 : Nat) (hs : Rd w w.heap.size As (bools (safeF pp load))) (a : Nat) (ha : okF pp load a = true) :
    Calls Try.prog 77 #[.slice A pp.length c, .slice As (cnt pp) cs0, .int .i64 a] w (OutRisk (cnt pp) (nbP pp) (okF pp load) (rkF pp) a w) := by
  have h := risksOver_any pp A c w hp (safeF pp load) (safeF_len pp load) As cs0 hs a (by rw [safeF_at]; exact ha)
  rw [safeF_at] at h
  exact h
theorem vc_is {q : Bool} (hp : Pnd w w.heap.size A pp) {z : Int} (h : inB z 0 ((cnt pp : Nat) - 1) = q) :
    Calls Try.prog 70 #[.slice A pp.length c, .int .i64 z] w fun e w' => e = .returned (.bool q) ∧ w = w' := by
  have := validCell_any pp A c w _ hp z
  rw [h] at this
  exact this
end
theorem ints_notrange {q : Bool} {n a b : Int} (h : inB n a b = q) (w : World) : Calls Try.prog 78 #[.int .i64 n, .int .i64 a, .int .i64 b] w fun e w' => e = .returned (.bool q) ∧ w = w' := inR_is h w
set_option maxRecDepth 100000 in
set_option maxHeartbeats 800000 in
theorem iRisks_no (pp : List (List Int)) (A : Option Addr) (c : Nat) (w : World) (hg : RdG w w.heap.size A pp) (load f : Int) (hv : pondB pp = false ∨ inB f 0 ((cnt pp : Nat) - 1) = false) :
    Calls Try.prog 34 #[.slice A pp.length c, .int .i64 load, .int .i64 f] w (OutL 0 [] w) := by
  cases hpb : pondB pp
  · have Hv := Lib.hid hpb
    clear hpb hv
    go_enter Try.func34, Try.ntmps34
    go_wp2_with (go_at_call 23; refine (iVal_is _ _ _ _ _ hg Hv.out).mono ?_; rintro e w' ⟨rfl, rfl⟩)
    go_ret
    exact out_n rfl (out_nil w)
  · have Hf : Hid (inB f 0 ((cnt pp : Nat) - 1) = false) := Lib.hid (by rcases hv with h | h; rw [hpb] at h; cases h; exact h)
    have Hv := Lib.hid hpb
    have hp : Pnd w w.heap.size A pp := ⟨hpb, hg⟩
    clear hpb hv
    go_enter Try.func34, Try.ntmps34
    go_wp2_with (first | (go_at_call 23; refine (iVal_is _ _ _ _ _ hg Hv.out).mono ?_; rintro e w' ⟨rfl, rfl⟩) | (go_at_call 70; refine (vc_is hp Hf.out).mono ?_; rintro e w' ⟨rfl, rfl⟩))
    go_ret
    exact out_n rfl (out_nil w)
set_option maxRecDepth 100000 in
set_option maxHeartbeats 800000 in
theorem sRisks_no (pp : List (List Int)) (A : Option Addr) (c : Nat) (w : World) (hg : RdG w w.heap.size A pp) (hn : pp.length ≤ 1048576) (load f : Int) (hv : pondB pp = false ∨ inB f 0 ((cnt pp : Nat) - 1) = false) :
    Calls Try.prog 35 #[.slice A pp.length c, .int .i64 load, .int .i64 f] w (OutL 0 [] w) := by
  have R : ∀ n, OutL 0 [] w (.returned (.slice none 0 0)) (w.drewN n) := fun n => ⟨_, _, rfl, rfl, ⟨rfl, .inl ⟨rfl, rfl⟩⟩, below_drewN (Below.refl _ _) _⟩
  have HR := Lib.hid R
  clear R
  cases hpb : pondB pp
  · have Hv := Lib.hid hpb
    clear hpb hv
    go_enter Try.func35, Try.ntmps35
    go_wp2_with (go_at_call 59; refine (sVal_is _ _ _ _ _ hg hn Hv.out).mono ?_; rintro e w' ⟨rfl, nv, rfl⟩)
    go_ret
    exact HR.out _
  · have Hf : Hid (inB f 0 ((cnt pp : Nat) - 1) = false) := Lib.hid (by rcases hv with h | h; rw [hpb] at h; cases h; exact h)
    have Hv := Lib.hid hpb
    have hc := pond_cnt hpb
    have hp0 : Pnd w w.heap.size A pp := ⟨hpb, hg⟩
    clear hpb hv
    go_enter Try.func35, Try.ntmps35
    go_wp2_with fail
    refine (sVal_is _ _ _ _ _ hg hn Hv.out).mono ?_
    rintro e w' ⟨rfl, nv, rfl⟩
    have hp := hp0.drewN nv
    go_wp2_with (first | (go_at_call 68; refine (sCnt_any _ _ _ _ _ hp).mono ?_; rintro e w' ⟨rfl, rfl⟩) | (go_at_call 78; refine (inR_is Hf.out _).mono ?_; rintro e w' ⟨rfl, rfl⟩))
    go_ret
    exact HR.out _
set_option maxRecDepth 100000 in
set_option maxHeartbeats 800000 in
theorem iRisks_ok (pp : List (List Int)) (A : Option Addr) (c : Nat) (w : World) (hp : Pnd w w.heap.size A pp) (load : Int) (a : Nat) (ha : a < cnt pp) :
    Calls Try.prog 34 #[.slice A pp.length c, .int .i64 load, .int .i64 a] w (OutRisk (cnt pp) (nbP pp) (okF pp load) (rkF pp) a w) := by
  have hg := hp.2
  have Hv := Lib.hid hp.1
  have hc := pond_cnt hp.1
  have Hf : Hid (inB (a : Int) 0 ((cnt pp : Nat) - 1) = true) := Lib.hid (inB_mk (by omega))
  go_enter Try.func34, Try.ntmps34
  go_wp2_with fail
  refine (iVal_is _ _ _ _ _ hg Hv.out).mono ?_
  rintro e w' ⟨rfl, rfl⟩
  go_wp2_with fail
  refine (vc_is hp Hf.out).mono ?_
  rintro e w' ⟨rfl, rfl⟩
  go_wp2_with fail
  refine (iSafe_ok hp load).mono ?_
  rintro e w1 ⟨A1, c1, _, rfl, o1, b1⟩
  obtain ⟨g, rfl, hg1, hgl, _, _⟩ := own_some o1 (by omega)
  have hcs := own_cell o1 (bools_at (bs := safeF pp load) (k := a) (by rw [safeF_len]; exact ha))
  rw [safeF_at] at hcs
  have hp1 := hp.up b1
  have hr1 := Rd.own o1
  cases hq : okF pp load a
  · rw [hq] at hcs
    have Hq := Lib.hid hq
    clear hq o1
    go_wp2_with fail
    refine (noneOf_any (cnt pp) (by omega) _).mono ?_
    intro e w2 h2
    obtain ⟨A2, c2, _, rfl, o2, b2⟩ := out_n (n := cnt pp) (by simp) h2
    have R : OutRisk (cnt pp) (nbP pp) (okF pp load) (rkF pp) a w (.returned (.slice A2 (cnt pp) c2)) w2 := ⟨_, IsRisk.none_ Hq.out, _, _, by simp, rfl, own_base o2 b1.size, b1.trans (b2.mono b1.size)⟩
    clear h2 o2 b2 b1 hr1 hp1
    go_wp2
    go_ret
    exact R
  · rw [hq] at hcs
    have Hq := Lib.hid hq
    clear hq o1
    go_wp2_with fail
    refine (risksOver_safe hp1 load _ _ hr1 a Hq.out).mono ?_
    intro e w2 h2
    have R := outRisk_after b1 h2
    obtain ⟨rs, _, A2, c2, _, rfl, _, _⟩ := h2
    have HR := Lib.hid R
    clear R b1 hr1 hp1
    go_wp2
    go_ret
    exact HR.out
set_option maxRecDepth 100000 in
set_option maxHeartbeats 800000 in
theorem sRisks_ok (pp : List (List Int)) (A : Option Addr) (c : Nat) (w : World) (hp0 : Pnd w w.heap.size A pp) (load : Int) (a : Nat) (ha : a < cnt pp) :
    Calls Try.prog 35 #[.slice A pp.length c, .int .i64 load, .int .i64 a] w (OutRisk (cnt pp) (nbP pp) (okF pp load) (rkF pp) a w) := by
  have hg := hp0.2
  have Hv := Lib.hid hp0.1
  have hc := pond_cnt hp0.1
  have hn : pp.length ≤ 1048576 := by have := pond_len hp0.1; omega
  have Hf : Hid (inB (a : Int) 0 ((cnt pp : Nat) - 1) = true) := Lib.hid (inB_mk (by omega))
  go_enter Try.func35, Try.ntmps35
  go_wp2_with fail
  refine (sVal_is _ _ _ _ _ hg hn Hv.out).mono ?_
  rintro e w' ⟨rfl, nv, rfl⟩
  have hp := hp0.drewN nv
  go_wp2_with fail
  refine (sCnt_any _ _ _ _ _ hp).mono ?_
  rintro e w' ⟨rfl, rfl⟩
  go_wp2_with fail
  refine (inR_is Hf.out _).mono ?_
  rintro e w' ⟨rfl, rfl⟩
  go_wp2_with fail
  refine (sRisks_any pp A c _ hp load a ha).mono ?_
  intro e w2 h2
  have R := outRisk_after (w := w) (below_drewN (Below.refl _ _) nv) h2
  obtain ⟨rs, _, A2, c2, _, rfl, _, _⟩ := h2
  have HR := Lib.hid R
  clear R
  go_wp2
  go_ret
  exact HR.out
theorem find_here {α : Type} {P : α → Bool} {l : List α} {t : Nat} {x : α} (h : (l.take t).find? P = none) (hx : l[t]? = some x) (hp : P x = true) : l.find? P = some x := by
  rw [← List.take_append_drop t l, List.find?_append, h]
  obtain ⟨h1, h2⟩ := List.getElem?_eq_some_iff.1 hx
  rw [List.drop_eq_getElem_cons h1, h2]
  simp [hp]
theorem find_next {α : Type} {P : α → Bool} {l : List α} {t : Nat} {x : α} (h : (l.take t).find? P = none) (hx : l[t]? = some x) (hp : P x = false) : (l.take (t + 1)).find? P = none := by
  rw [take_snoc hx, List.find?_append, h]
  simp [hp]
/-- what cellBefore answers -/
def CbPost (f : Option Nat) (z : Int) : Prop := (f = none ∧ z = -1) ∨ ∃ k : Nat, f = some k ∧ z = k
def OutCb (f : Option Nat) (w : World) (e : Ending) (w' : World) : Prop := ∃ z, e = .returned (.int .i64 z) ∧ CbPost f z ∧ Below w.heap.size w w'
set_option maxRecDepth 100000 in
set_option maxHeartbeats 1000000 in
theorem cellBefore_P (P : Nat → Bool) (pp : List (List Int)) (A : Option Addr) (c : Nat) (w : World) (hp : Pnd w w.heap.size A pp) (rs : List Int) (hrl : rs.length = cnt pp) (Ar : Option Addr) (cr : Nat) (hr : Rd w w.heap.size Ar (ints rs)) (a : Nat) (ha : a < cnt pp) (hb : ∀ i, -1 ≤ at_ rs i ∧ at_ rs i ≤ 1000000) (hP : ∀ k, P k = decide (at_ rs k = at_ rs a - rkF pp a)) :
    Calls Try.prog 81 #[.slice A pp.length c, .slice Ar (cnt pp) cr, .int .i64 a] w (OutCb ((nbP pp a).find? P) w) := by
  have HP := Lib.hid hP
  clear hP
  have hc := pond_cnt hp.1
  have Gr0 := gr_pond hp.1
  have HNB : Hid (∀ k, (nbP pp k).length ≤ 4) := Lib.hid fun k => nb4_len _ _ _
  have HRL := Lib.hid hrl
  have HB := Lib.hid hb
  have z0 := rkF_ge pp a
  have z1 := rkF_le pp a
  have x0 := hb a
  obtain ⟨b, off, rfl, hbb, hca⟩ := rd_num hr (k := a) (by rw [hrl]; exact ha)
  clear hrl hb
  have hnb := nb_some HNB.out a
  have hw1 : IntKind.i64.wrap (at_ rs a - rkF pp a) = at_ rs a - rkF pp a := IntWalk.i64_in _ (by omega)
  go_enter Try.func81, Try.ntmps81
  go_wp2
  refine wp_region_quiet_lit (by kernel_rfl) (by kernel_rfl) ?_
  repeat (go_big_quiet_step (fail))
  go_big_quiet_step ((go_at_call 114; exact quiet_draw (iRisk_any _ _ _ _ _ (hp.drewN _) _ ha)))
  repeat (go_big_quiet_step (fail))
  refine wpQuiet_nil ?_
  intro _ hw'
  obtain ⟨nq, hw''⟩ := hw'
  subst hw''
  have hpq := hp.drewN nq
  have hrq : Rd (w.drewN nq) w.heap.size (some ⟨b, off, none⟩) (ints rs) := hr.drewN nq
  go_wp2_with fail
  refine (iBeside_any _ _ _ _ hpq _ ha).mono ?_
  rintro e w2 ⟨A2, c2, rfl, o2, b2⟩
  have hr2 := hrq.below b2
  have HLL : Hid ((nats (nbP pp a)).length = (nbP pp a).length) := Lib.hid (nats_length _)
  have HB2 : Hid (Below w.heap.size w w2) := Lib.hid ((below_drewN (Below.refl _ _) nq).trans b2)
  generalize hLe : (nats (nbP pp a)).length = L at *
  clear hLe b2 hrq hpq
  have hy0 : -1000 ≤ at_ rs a - rkF pp a := by omega
  have hy1 : at_ rs a - rkF pp a ≤ 1000000 := by omega
  generalize at_ rs a - rkF pp a = lf at *
  go_wp2
  go_loop [22] (fun t => ∃ j : Nat, j ≤ L ∧ t = .int .i64 j ∧ ((nbP pp a).take j).find? P = none) (fun t => L - (intOf t).toNat)
  case atStart => exact ⟨0, Nat.zero_le _, rfl, rfl⟩
  case round =>
    obtain ⟨j, hj, rfl, hno⟩ := hrel
    have HNo := Lib.hid hno
    clear hno
    by_cases hjl : j < L
    · obtain ⟨k, hk⟩ : ∃ k, (nbP pp a)[j]? = some k := ⟨_, List.getElem?_eq_getElem (by have := HLL.out; omega)⟩
      obtain ⟨gA, rfl, hgA, _, _, _⟩ := own_some o2 (by omega)
      have hcA := own_cell o2 (nats_get hk)
      have hkN : k < cnt pp := Gr0.lt a k ha (List.mem_of_getElem? hk)
      obtain ⟨b2, off2, e2, _, hck⟩ := rd_num hr2 (k := k) (by rw [HRL.out]; exact hkN)
      injection e2 with e2
      injection e2 with e3 e4
      subst e3 e4
      have HK := Lib.hid hk
      have yk := HB.out k
      obtain ⟨y, hy⟩ : ∃ y, y = at_ rs k := ⟨_, rfl⟩
      rw [← hy] at hck yk
      have HY : Hid (at_ rs k = y) := Lib.hid hy.symm
      clear hk hy
      by_cases heq : y = lf
      · have hP1 : Hid (P k = true) := Lib.hid (by rw [HP.out, HY.out, heq]; exact decide_eq_true rfl)
        subst heq
        go_wp2
        go_ret
        exact ⟨_, rfl, .inr ⟨k, find_here HNo.out HK.out hP1.out, rfl⟩, HB2.out⟩
      · have hP1 : Hid (P k = false) := Lib.hid (by rw [HP.out, HY.out]; exact decide_eq_false heq)
        have heq2 : (y == lf) = false := beq_eq_false_iff_ne.2 heq
        go_wp2
        go_round
        case rel => exact ⟨j + 1, by omega, by go_num, find_next HNo.out HK.out hP1.out⟩
        case measure => simp [intOf]; omega
    · have HT : Hid (j = (nbP pp a).length) := Lib.hid (by have := HLL.out; omega)
      have R : OutCb ((nbP pp a).find? P) w (.returned (.int .i64 (-1))) w2 := ⟨_, rfl, .inl ⟨by have h := HNo.out; rw [HT.out, List.take_length] at h; exact h, rfl⟩, HB2.out⟩
      have HR := Lib.hid R
      clear R
      go_wp2
      go_ret
      exact HR.out
theorem cellBefore_any (pp : List (List Int)) (A : Option Addr) (c : Nat) (w : World) (hp : Pnd w w.heap.size A pp) (rs : List Int) (hrl : rs.length = cnt pp) (Ar : Option Addr) (cr : Nat) (hr : Rd w w.heap.size Ar (ints rs)) (a : Nat) (ha : a < cnt pp) (hb : ∀ i, -1 ≤ at_ rs i ∧ at_ rs i ≤ 1000000) :
    Calls Try.prog 81 #[.slice A pp.length c, .slice Ar (cnt pp) cr, .int .i64 a] w (OutCb ((nbP pp a).find? (fun k => decide (at_ rs k = at_ rs a - rkF pp a))) w) :=
  cellBefore_P _ pp A c w hp rs hrl Ar cr hr a ha hb fun _ => rfl
set_option maxRecDepth 100000 in
set_option maxHeartbeats 800000 in
theorem turnedList_any (n : Nat) (zs : List Int) (hl : zs.length = n) (A : Option Addr) (c : Nat) (w : World) (hr : Rd w w.heap.size A (ints zs)) (hn : n ≤ 1048576) :
    Calls Try.prog 82 #[.slice A n c] w (OutI zs.reverse w) := by
  have HL := Lib.hid hl
  clear hl
  have hmk := run_make_row' (P := Try.prog) 26 3 (.int .i64 0) 8 Try.underlying26 info_int rfl .i64 .i64 n (by omega) (by omega)
  go_enter Try.func82, Try.ntmps82
  go_wp2
  go_loopw [11] (fun i wr => ∃ (k : Nat) (ys : List Int), k ≤ n ∧ i = .int .i64 k ∧ ys.length = n ∧ ys.drop (n - k) = (zs.take k).reverse ∧ wr.ownsRow w.heap.size 3 1 (.slice (some ⟨w.heap.size, 0, none⟩) n n) n (ints ys) ∧ Below w.heap.size w wr) (fun i _ => n - (intOf i).toNat)
  case atStart =>
    refine ⟨0, List.replicate n 0, Nat.zero_le _, rfl, by simp, by simp, ?_, (Below.refl _ _).alloc (Nat.le_refl _) _⟩
    have := own_made w (.int .i64 0) n 3 (by unfold maxLen; omega)
    simpa [ints] using this
  case round =>
    obtain ⟨k, ys, hk, rfl, hyl, hyd, hown, hbel⟩ := hrel
    have HY := Lib.hid hyl
    have HD := Lib.hid hyd
    clear hyl hyd
    by_cases hlt : k < n
    · obtain ⟨b, off, z, rfl, hb, hz, hc⟩ := (hr.below hbel).int_ (k := k) (by rw [HL.out]; exact hlt)
      obtain ⟨q, hq⟩ : ∃ q : Nat, q + k + 1 = n := ⟨n - 1 - k, by omega⟩
      have hqi : (n : Int) - 1 - (k : Int) = (q : Int) := by omega
      have hfz := own_frozen hown q
      have hcl := own_cell hown (ints_at' (zs := ys) (k := q) (by rw [HY.out]; omega))
      have HQ := Lib.hid hq
      have hqn : q < n := by omega
      clear hq
      go_wp2
      go_roundw
      case rel =>
        refine ⟨k + 1, ys.set q z, by omega, by go_num, by rw [List.length_set]; exact HY.out, ?_, by rw [← ints_set]; exact own_put hown q _, hbel.setCell (by simp) _⟩
        have e : n - (k + 1) = q := by have := HQ.out; omega
        have e2 : n - k = q + 1 := by have := HQ.out; omega
        rw [e, take_snoc hz.out, List.reverse_append]
        have h1 := HD.out
        rw [e2] at h1
        rw [List.drop_eq_getElem_cons (by rw [List.length_set, HY.out]; exact hqn), List.getElem_set_self, List.drop_set_of_lt (by omega), h1]
        rfl
      case measure => simp [intOf]; omega
    · obtain rfl : n = k := by omega
      have R : OutI zs.reverse w (.returned (.slice (some ⟨w.heap.size, 0, none⟩) n n)) wr := out_mk (n := n) (by rw [List.length_reverse]; exact HL.out) (by
        have h := HD.out
        rw [Nat.sub_self, List.drop_zero, List.take_of_length_le (by rw [HL.out]; exact Nat.le_refl _)] at h
        rw [← h]; exact hown) hbel
      clear hown hbel
      go_wp2
      go_ret
      exact R

end Go.Proofs.Ytbnggakfogcalad

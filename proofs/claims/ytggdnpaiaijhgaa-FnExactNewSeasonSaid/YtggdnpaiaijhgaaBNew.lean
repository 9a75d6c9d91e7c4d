/- Chapter 8: new seasons, of the model and of the program. -/
import Derived.Test.YtggdnpaiaijhgaaBCopy
namespace Go.Proofs.Ytggdnpaiaijhgaa
open Go.RowKit
set_option linter.unusedVariables false
set_option linter.unusedSimpArgs false
set_option maxRecDepth 100000 in
set_option maxHeartbeats 800000 in
theorem sNew_hp (pp : List (List Int)) (a b : Int) (A : Option Addr) (c : Nat) (w : World) (hg : RdG w w.heap.size A pp) (hn : pp.length ≤ 1048576) (m : Nat) (hm : pp.length = m) (hp : pondB pp = false) :
    Calls Try.prog 19 #[.slice A m c, .int .i64 a, .int .i64 b] w (SeOwn seaZ w) := by
  have hV := fun o => sVal_is pp A c (w.alloc o) _ ((hg.below (below1 o)).more (below1 o).size) hn hp
  rw [hm] at hV
  have HV := Lib.hid hV
  clear hV hg hn hm hp
  go_enter Try.func19, Try.ntmps19
  go_wp2_with fail
  refine (HV.out _).mono ?_
  rintro e w' ⟨rfl, nv, rfl⟩
  have hX := (Box8.alloc_ w 27 (v0 := .slice none 0 0) (v1 := .int .i64 0) (v2 := .int .i64 0) (v3 := .int .i64 0) (v4 := .int .i64 0) (v5 := .int .i64 0) (v6 := .int .i64 0) (v7 := .int .i64 0)).far (w' := ((w.alloc (.cells #[.slice none 0 0, .int .i64 0, .int .i64 0, .int .i64 0, .int .i64 0, .int .i64 0, .int .i64 0, .int .i64 0] 27)).drewN nv)) rfl (Nat.le_refl _)
  obtain ⟨k0, k1, k2, k3, k4, k5, k6, k7, kf, _⟩ := hX
  go_wp2
  exact bodyPost_ret (v := .agg #[.slice none 0 0, .int .i64 0, .int .i64 0, .int .i64 0, .int .i64 0, .int .i64 0, .int .i64 0, .int .i64 0]) (by simp [results, Try.results19, go_sem]) rfl (seOwn_mk (s := seaZ) rfl rfl (ownG_nil _ w.heap.size w.heap.size) (Nat.le_refl _) ((below_drewN (below1 (.cells #[.slice none 0 0, .int .i64 0, .int .i64 0, .int .i64 0, .int .i64 0, .int .i64 0, .int .i64 0, .int .i64 0] 27)) nv).trans (eight_below ((w.alloc (.cells #[.slice none 0 0, .int .i64 0, .int .i64 0, .int .i64 0, .int .i64 0, .int .i64 0, .int .i64 0, .int .i64 0] 27)).drewN nv) (Nat.le_refl w.heap.size) (.slice none 0 0) (.int .i64 0) (.int .i64 0) (.int .i64 0) (.int .i64 0) (.int .i64 0) (.int .i64 0) (.int .i64 0))).size ((below_drewN (below1 (.cells #[.slice none 0 0, .int .i64 0, .int .i64 0, .int .i64 0, .int .i64 0, .int .i64 0, .int .i64 0, .int .i64 0] 27)) nv).trans (eight_below ((w.alloc (.cells #[.slice none 0 0, .int .i64 0, .int .i64 0, .int .i64 0, .int .i64 0, .int .i64 0, .int .i64 0, .int .i64 0] 27)).drewN nv) (Nat.le_refl w.heap.size) (.slice none 0 0) (.int .i64 0) (.int .i64 0) (.int .i64 0) (.int .i64 0) (.int .i64 0) (.int .i64 0) (.int .i64 0))))
set_option maxRecDepth 100000 in
set_option maxHeartbeats 800000 in
theorem sNew_ha (pp : List (List Int)) (a b : Int) (A : Option Addr) (c : Nat) (w : World) (hg : RdG w w.heap.size A pp) (hn : pp.length ≤ 1048576) (m : Nat) (hm : pp.length = m) (hp : pondB pp = true) (ha : inB a 1 9 = false) :
    Calls Try.prog 19 #[.slice A m c, .int .i64 a, .int .i64 b] w (SeOwn seaZ w) := by
  have hV := fun o => sVal_is pp A c (w.alloc o) _ ((hg.below (below1 o)).more (below1 o).size) hn hp
  rw [hm] at hV
  have HV := Lib.hid hV
  clear hV hg hn hm hp
  go_enter Try.func19, Try.ntmps19
  go_wp2_with fail
  refine (HV.out _).mono ?_
  rintro e w' ⟨rfl, nv, rfl⟩
  go_wp2_with fail
  refine (inR_is ha _).mono ?_
  rintro e w' ⟨rfl, rfl⟩
  have hX := (Box8.alloc_ w 27 (v0 := .slice none 0 0) (v1 := .int .i64 0) (v2 := .int .i64 0) (v3 := .int .i64 0) (v4 := .int .i64 0) (v5 := .int .i64 0) (v6 := .int .i64 0) (v7 := .int .i64 0)).far (w' := ((w.alloc (.cells #[.slice none 0 0, .int .i64 0, .int .i64 0, .int .i64 0, .int .i64 0, .int .i64 0, .int .i64 0, .int .i64 0] 27)).drewN nv)) rfl (Nat.le_refl _)
  obtain ⟨k0, k1, k2, k3, k4, k5, k6, k7, kf, _⟩ := hX
  go_wp2
  exact bodyPost_ret (v := .agg #[.slice none 0 0, .int .i64 0, .int .i64 0, .int .i64 0, .int .i64 0, .int .i64 0, .int .i64 0, .int .i64 0]) (by simp [results, Try.results19, go_sem]) rfl (seOwn_mk (s := seaZ) rfl rfl (ownG_nil _ w.heap.size w.heap.size) (Nat.le_refl _) ((below_drewN (below1 (.cells #[.slice none 0 0, .int .i64 0, .int .i64 0, .int .i64 0, .int .i64 0, .int .i64 0, .int .i64 0, .int .i64 0] 27)) nv).trans (eight_below ((w.alloc (.cells #[.slice none 0 0, .int .i64 0, .int .i64 0, .int .i64 0, .int .i64 0, .int .i64 0, .int .i64 0, .int .i64 0] 27)).drewN nv) (Nat.le_refl w.heap.size) (.slice none 0 0) (.int .i64 0) (.int .i64 0) (.int .i64 0) (.int .i64 0) (.int .i64 0) (.int .i64 0) (.int .i64 0))).size ((below_drewN (below1 (.cells #[.slice none 0 0, .int .i64 0, .int .i64 0, .int .i64 0, .int .i64 0, .int .i64 0, .int .i64 0, .int .i64 0] 27)) nv).trans (eight_below ((w.alloc (.cells #[.slice none 0 0, .int .i64 0, .int .i64 0, .int .i64 0, .int .i64 0, .int .i64 0, .int .i64 0, .int .i64 0] 27)).drewN nv) (Nat.le_refl w.heap.size) (.slice none 0 0) (.int .i64 0) (.int .i64 0) (.int .i64 0) (.int .i64 0) (.int .i64 0) (.int .i64 0) (.int .i64 0))))
set_option maxRecDepth 100000 in
set_option maxHeartbeats 800000 in
theorem sNew_hb (pp : List (List Int)) (a b : Int) (A : Option Addr) (c : Nat) (w : World) (hg : RdG w w.heap.size A pp) (hn : pp.length ≤ 1048576) (m : Nat) (hm : pp.length = m) (hp : pondB pp = true) (ha : inB a 1 9 = true) (hb : inB b 1 9 = false) :
    Calls Try.prog 19 #[.slice A m c, .int .i64 a, .int .i64 b] w (SeOwn seaZ w) := by
  have hV := fun o => sVal_is pp A c (w.alloc o) _ ((hg.below (below1 o)).more (below1 o).size) hn hp
  rw [hm] at hV
  have HV := Lib.hid hV
  clear hV hg hn hm hp
  go_enter Try.func19, Try.ntmps19
  go_wp2_with fail
  refine (HV.out _).mono ?_
  rintro e w' ⟨rfl, nv, rfl⟩
  go_wp2_with fail
  refine (inR_is ha _).mono ?_
  rintro e w' ⟨rfl, rfl⟩
  go_wp2_with fail
  refine (inR_is hb _).mono ?_
  rintro e w' ⟨rfl, rfl⟩
  have hX := (Box8.alloc_ w 27 (v0 := .slice none 0 0) (v1 := .int .i64 0) (v2 := .int .i64 0) (v3 := .int .i64 0) (v4 := .int .i64 0) (v5 := .int .i64 0) (v6 := .int .i64 0) (v7 := .int .i64 0)).far (w' := ((w.alloc (.cells #[.slice none 0 0, .int .i64 0, .int .i64 0, .int .i64 0, .int .i64 0, .int .i64 0, .int .i64 0, .int .i64 0] 27)).drewN nv)) rfl (Nat.le_refl _)
  obtain ⟨k0, k1, k2, k3, k4, k5, k6, k7, kf, _⟩ := hX
  go_wp2
  exact bodyPost_ret (v := .agg #[.slice none 0 0, .int .i64 0, .int .i64 0, .int .i64 0, .int .i64 0, .int .i64 0, .int .i64 0, .int .i64 0]) (by simp [results, Try.results19, go_sem]) rfl (seOwn_mk (s := seaZ) rfl rfl (ownG_nil _ w.heap.size w.heap.size) (Nat.le_refl _) ((below_drewN (below1 (.cells #[.slice none 0 0, .int .i64 0, .int .i64 0, .int .i64 0, .int .i64 0, .int .i64 0, .int .i64 0, .int .i64 0] 27)) nv).trans (eight_below ((w.alloc (.cells #[.slice none 0 0, .int .i64 0, .int .i64 0, .int .i64 0, .int .i64 0, .int .i64 0, .int .i64 0, .int .i64 0] 27)).drewN nv) (Nat.le_refl w.heap.size) (.slice none 0 0) (.int .i64 0) (.int .i64 0) (.int .i64 0) (.int .i64 0) (.int .i64 0) (.int .i64 0) (.int .i64 0))).size ((below_drewN (below1 (.cells #[.slice none 0 0, .int .i64 0, .int .i64 0, .int .i64 0, .int .i64 0, .int .i64 0, .int .i64 0, .int .i64 0] 27)) nv).trans (eight_below ((w.alloc (.cells #[.slice none 0 0, .int .i64 0, .int .i64 0, .int .i64 0, .int .i64 0, .int .i64 0, .int .i64 0, .int .i64 0] 27)).drewN nv) (Nat.le_refl w.heap.size) (.slice none 0 0) (.int .i64 0) (.int .i64 0) (.int .i64 0) (.int .i64 0) (.int .i64 0) (.int .i64 0) (.int .i64 0))))
set_option maxRecDepth 100000 in
set_option maxHeartbeats 800000 in
theorem sNew_ok (pp : List (List Int)) (a b : Int) (A : Option Addr) (c : Nat) (w : World) (hg : RdG w w.heap.size A pp) (hn : pp.length ≤ 1048576) (m : Nat) (hm : pp.length = m) (hp : pondB pp = true) (ha : inB a 1 9 = true) (hb : inB b 1 9 = true) :
    Calls Try.prog 19 #[.slice A m c, .int .i64 a, .int .i64 b] w (SeOwn ⟨pp, a, b, 0, 0, 0, 0, 0⟩ w) := by
  have hV := fun o => sVal_is pp A c (w.alloc o) _ ((hg.below (below1 o)).more (below1 o).size) hn hp
  rw [hm] at hV
  have HV := Lib.hid hV
  have hC := fun (w' : World) (hb : Below w.heap.size w w') => sRows_any pp A c w' ((hg.below hb).more hb.size) hp
  unfold OutGr at hC
  rw [hm] at hC
  have HC := Lib.hid hC
  have HM := Lib.hid hm
  clear hC
  clear hV hg hn hm hp
  go_enter Try.func19, Try.ntmps19
  go_wp2_with fail
  refine (HV.out _).mono ?_
  rintro e w' ⟨rfl, nv, rfl⟩
  go_wp2_with fail
  refine (inR_is ha _).mono ?_
  rintro e w' ⟨rfl, rfl⟩
  go_wp2_with fail
  refine (inR_is hb _).mono ?_
  rintro e w' ⟨rfl, rfl⟩
  go_wp2_with fail
  refine (HC.out _ (below_drewN (below1 (.cells #[.slice none 0 0, .int .i64 0, .int .i64 0, .int .i64 0, .int .i64 0, .int .i64 0, .int .i64 0, .int .i64 0] 27)) nv)).mono ?_
  rintro e w1 ⟨A1, c1, xs, rfl, o1, b1⟩
  have hB1 : Below w.heap.size w w1 := (below_drewN (below1 _) nv).trans (b1.mono (by simp))
  have hX := ((Box8.alloc_ w 27 (v0 := .slice none 0 0) (v1 := .int .i64 0) (v2 := .int .i64 0) (v3 := .int .i64 0) (v4 := .int .i64 0) (v5 := .int .i64 0) (v6 := .int .i64 0) (v7 := .int .i64 0)).far (w' := ((w.alloc (.cells #[.slice none 0 0, .int .i64 0, .int .i64 0, .int .i64 0, .int .i64 0, .int .i64 0, .int .i64 0, .int .i64 0] 27)).drewN nv)) rfl (Nat.le_refl _)).below b1 (by simp)
  have HO := Lib.hid o1
  have HB1 := Lib.hid hB1
  have hlo : w.heap.size < ((w.alloc (.cells #[.slice none 0 0, .int .i64 0, .int .i64 0, .int .i64 0, .int .i64 0, .int .i64 0, .int .i64 0, .int .i64 0] 27)).drewN nv).heap.size := by simp
  obtain ⟨k0, k1, k2, k3, k4, k5, k6, k7, kf, _⟩ := hX
  clear b1 o1 hB1
  go_wp2
  exact bodyPost_ret (v := .agg #[.slice A1 m c1, .int .i64 a, .int .i64 b, .int .i64 0, .int .i64 0, .int .i64 0, .int .i64 0, .int .i64 0]) (by simp [results, Try.results19, go_sem, k0, k1, k2, k3, k4, k5, k6, k7]) rfl (seOwn_mk (s := ⟨pp, a, b, 0, 0, 0, 0, 0⟩) HM.out rfl (HO.out.eight (g := w.heap.size) (.inl hlo)) (Nat.le_of_lt hlo) (eight_below w1 (Nat.le_refl w.heap.size) (.slice A1 m c1) (.int .i64 a) (.int .i64 b) (.int .i64 0) (.int .i64 0) (.int .i64 0) (.int .i64 0) (.int .i64 0)).size (HB1.out.trans (eight_below w1 (Nat.le_refl _) (.slice A1 m c1) (.int .i64 a) (.int .i64 b) (.int .i64 0) (.int .i64 0) (.int .i64 0) (.int .i64 0) (.int .i64 0))))
set_option maxRecDepth 100000 in
set_option maxHeartbeats 800000 in
theorem iNew_hp (pp : List (List Int)) (a b : Int) (A : Option Addr) (c : Nat) (w : World) (hg : RdG w w.heap.size A pp) (hn : pp.length ≤ 1048576) (m : Nat) (hm : pp.length = m) (hp : pondB pp = false) :
    Calls Try.prog 21 #[.slice A m c, .int .i64 a, .int .i64 b] w (SeOwn seaZ w) := by
  have hV := fun o => iVal_is pp A c (w.alloc o) _ ((hg.below (below1 o)).more (below1 o).size) hp
  rw [hm] at hV
  have HV := Lib.hid hV
  clear hV hg hn hm hp
  go_enter Try.func21, Try.ntmps21
  go_wp2_with fail
  refine (HV.out _).mono ?_
  rintro e w' ⟨rfl, rfl⟩
  go_wp2
  exact bodyPost_ret (v := .agg #[.slice none 0 0, .int .i64 0, .int .i64 0, .int .i64 0, .int .i64 0, .int .i64 0, .int .i64 0, .int .i64 0]) (by simp [results, Try.results21, go_sem]) rfl (seOwn_mk (s := seaZ) rfl rfl (ownG_nil _ w.heap.size w.heap.size) (Nat.le_refl _) (below1 _).size (below1 _))
set_option maxRecDepth 100000 in
set_option maxHeartbeats 800000 in
theorem iNew_hh (pp : List (List Int)) (a b : Int) (A : Option Addr) (c : Nat) (w : World) (hg : RdG w w.heap.size A pp) (hn : pp.length ≤ 1048576) (m : Nat) (hm : pp.length = m) (hp : pondB pp = true) (hh : (inB a 1 9 && inB b 1 9) = false) :
    Calls Try.prog 21 #[.slice A m c, .int .i64 a, .int .i64 b] w (SeOwn seaZ w) := by
  have hV := fun o => iVal_is pp A c (w.alloc o) _ ((hg.below (below1 o)).more (below1 o).size) hp
  rw [hm] at hV
  have HV := Lib.hid hV
  clear hV hg hn hm hp
  go_enter Try.func21, Try.ntmps21
  go_wp2_with fail
  refine (HV.out _).mono ?_
  rintro e w' ⟨rfl, rfl⟩
  go_wp2_with fail
  refine ((fun w => vHouse_is a b w hh) _).mono ?_
  rintro e w' ⟨rfl, rfl⟩
  go_wp2
  exact bodyPost_ret (v := .agg #[.slice none 0 0, .int .i64 0, .int .i64 0, .int .i64 0, .int .i64 0, .int .i64 0, .int .i64 0, .int .i64 0]) (by simp [results, Try.results21, go_sem]) rfl (seOwn_mk (s := seaZ) rfl rfl (ownG_nil _ w.heap.size w.heap.size) (Nat.le_refl _) (below1 _).size (below1 _))
set_option maxRecDepth 100000 in
set_option maxHeartbeats 800000 in
theorem iNew_ok (pp : List (List Int)) (a b : Int) (A : Option Addr) (c : Nat) (w : World) (hg : RdG w w.heap.size A pp) (hn : pp.length ≤ 1048576) (m : Nat) (hm : pp.length = m) (hp : pondB pp = true) (hh : (inB a 1 9 && inB b 1 9) = true) :
    Calls Try.prog 21 #[.slice A m c, .int .i64 a, .int .i64 b] w (SeOwn ⟨pp, a, b, 0, 0, 0, 0, 0⟩ w) := by
  have hV := fun o => iVal_is pp A c (w.alloc o) _ ((hg.below (below1 o)).more (below1 o).size) hp
  rw [hm] at hV
  have HV := Lib.hid hV
  have hC := fun (w' : World) (hb : Below w.heap.size w w') => iCopy_any pp A c w' ((hg.below hb).more hb.size) hp
  unfold OutGr at hC
  rw [hm] at hC
  have HC := Lib.hid hC
  have HM := Lib.hid hm
  clear hC
  clear hV hg hn hm hp
  go_enter Try.func21, Try.ntmps21
  go_wp2_with fail
  refine (HV.out _).mono ?_
  rintro e w' ⟨rfl, rfl⟩
  go_wp2_with fail
  refine ((fun w => vHouse_is a b w hh) _).mono ?_
  rintro e w' ⟨rfl, rfl⟩
  go_wp2_with fail
  refine (HC.out _ (below1 (.cells #[.slice none 0 0, .int .i64 0, .int .i64 0, .int .i64 0, .int .i64 0, .int .i64 0, .int .i64 0, .int .i64 0] 27))).mono ?_
  rintro e w1 ⟨A1, c1, xs, rfl, o1, b1⟩
  have hB1 : Below w.heap.size w w1 := (below1 _).trans (b1.mono (by simp))
  have hX := ((Box8.alloc_ w 27 (v0 := .slice none 0 0) (v1 := .int .i64 0) (v2 := .int .i64 0) (v3 := .int .i64 0) (v4 := .int .i64 0) (v5 := .int .i64 0) (v6 := .int .i64 0) (v7 := .int .i64 0)).far (w' := (w.alloc (.cells #[.slice none 0 0, .int .i64 0, .int .i64 0, .int .i64 0, .int .i64 0, .int .i64 0, .int .i64 0, .int .i64 0] 27))) rfl (Nat.le_refl _)).below b1 (by simp)
  have HO := Lib.hid o1
  have HB1 := Lib.hid hB1
  have hlo : w.heap.size < (w.alloc (.cells #[.slice none 0 0, .int .i64 0, .int .i64 0, .int .i64 0, .int .i64 0, .int .i64 0, .int .i64 0, .int .i64 0] 27)).heap.size := by simp
  obtain ⟨k0, k1, k2, k3, k4, k5, k6, k7, kf, _⟩ := hX
  clear b1 o1 hB1
  go_wp2
  exact bodyPost_ret (v := .agg #[.slice A1 m c1, .int .i64 a, .int .i64 b, .int .i64 0, .int .i64 0, .int .i64 0, .int .i64 0, .int .i64 0]) (by simp [results, Try.results21, go_sem, k0, k1, k2, k3, k4, k5, k6, k7]) rfl (seOwn_mk (s := ⟨pp, a, b, 0, 0, 0, 0, 0⟩) HM.out rfl (HO.out.eight (g := w.heap.size) (.inl hlo)) (Nat.le_of_lt hlo) (eight_below w1 (Nat.le_refl w.heap.size) (.slice A1 m c1) (.int .i64 a) (.int .i64 b) (.int .i64 0) (.int .i64 0) (.int .i64 0) (.int .i64 0) (.int .i64 0)).size (HB1.out.trans (eight_below w1 (Nat.le_refl _) (.slice A1 m c1) (.int .i64 a) (.int .i64 b) (.int .i64 0) (.int .i64 0) (.int .i64 0) (.int .i64 0) (.int .i64 0))))
theorem newT_no {pp : List (List Int)} {a b : Int} (h : newB pp a b = false) : newT pp a b = seaZ := by unfold newT; rw [h]; rfl
theorem newT_ok {pp : List (List Int)} {a b : Int} (h : newB pp a b = true) : newT pp a b = ⟨pp, a, b, 0, 0, 0, 0, 0⟩ := by unfold newT; rw [h]; rfl
theorem sNew_any (pp : List (List Int)) (a b : Int) (A : Option Addr) (c : Nat) (w : World) (hg : RdG w w.heap.size A pp) (hn : pp.length ≤ 1048576) :
    Calls Try.prog 19 #[.slice A pp.length c, .int .i64 a, .int .i64 b] w (SeOwn (newT pp a b) w) := by
  cases hp : pondB pp
  · rw [newT_no (by unfold newB; rw [hp]; rfl)]; exact sNew_hp pp a b A c w hg hn _ rfl hp
  · cases ha : inB a 1 9
    · rw [newT_no (by unfold newB; rw [hp, ha]; rfl)]; exact sNew_ha pp a b A c w hg hn _ rfl hp ha
    · cases hb : inB b 1 9
      · rw [newT_no (by unfold newB; rw [hp, ha, hb]; rfl)]; exact sNew_hb pp a b A c w hg hn _ rfl hp ha hb
      · rw [newT_ok (by unfold newB; rw [hp, ha, hb]; rfl)]; exact sNew_ok pp a b A c w hg hn _ rfl hp ha hb
theorem iNew_any (pp : List (List Int)) (a b : Int) (A : Option Addr) (c : Nat) (w : World) (hg : RdG w w.heap.size A pp) (hn : pp.length ≤ 1048576) :
    Calls Try.prog 21 #[.slice A pp.length c, .int .i64 a, .int .i64 b] w (SeOwn (newT pp a b) w) := by
  cases hp : pondB pp
  · rw [newT_no (by unfold newB; rw [hp]; rfl)]; exact iNew_hp pp a b A c w hg hn _ rfl hp
  · cases hh : (inB a 1 9 && inB b 1 9)
    · rw [newT_no (by unfold newB; rw [hp, hh]; rfl)]; exact iNew_hh pp a b A c w hg hn _ rfl hp hh
    · rw [newT_ok (by unfold newB; rw [hp, hh]; rfl)]; exact iNew_ok pp a b A c w hg hn _ rfl hp hh
theorem eqG_s (pp : List (List Int)) (A A' : Option Addr) (c c' : Nat) (w : World) (hg : RdG w w.heap.size A pp) (hg' : RdG w w.heap.size A' pp) (hn : sizes pp ≤ 1048576) :
    Calls Try.prog 22 #[.slice A pp.length c, .slice A' pp.length c'] w fun e w' => e = .returned (.bool true) ∧ Below w.heap.size w w' :=
  (eqIntSS_same pp A A' c c' w _ hg hg' hn).mono fun e w' ⟨h, n, hw⟩ => ⟨h, by subst hw; exact below_drewN (Below.refl _ _) n⟩
theorem markG_s (pp : List (List Int)) (n : Nat) (hl : pp.length = n) (A : Option Addr) (c : Nat) (xs : List Value) (w : World) (lo hi : Nat) (h : OwnG w lo hi A n c xs pp) (k : Int) (h0 : 0 ≤ k) (h1 : k ≤ 1000000) (hn : sizes pp ≤ 1048576) :
    Calls Try.prog 23 #[.slice A n c, .int .i64 k] w fun e w' => e = .returned (.int .i64 (k + (tot pp : Nat))) ∧ OwnG w' lo hi A n c xs (mkG k pp) ∧ Upd lo hi w w' :=
  (markIntSS_any pp n A c xs w lo hi h k h0 (by omega) hn).mono fun e w' ⟨h1, h2, h3, h4, h5, h6, h7⟩ => ⟨h1, h2, ⟨h3, h4, h5, h6, h7⟩⟩
theorem sizes_new {pp : List (List Int)} {a b : Int} : sizes (newT pp a b).pp ≤ sizes pp := by
  unfold newT
  split
  · exact Nat.le_refl _
  · simp [seaZ, sizes]

end Go.Proofs.Ytggdnpaiaijhgaa

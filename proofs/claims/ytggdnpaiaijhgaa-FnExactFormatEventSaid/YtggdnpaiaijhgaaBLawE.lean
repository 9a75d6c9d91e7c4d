/- Chapter 8: the exact laws' helpers on an event: size, copy, comparison, marks. -/
import Derived.Test.YtggdnpaiaijhgaaBOwn
import Derived.Test.YtggdnpaiaijhgaaBBox
namespace Go.Proofs.Ytggdnpaiaijhgaa
open Go.RowKit
set_option linter.unusedVariables false
set_option linter.unusedSimpArgs false
set_option maxRecDepth 100000 in
set_option maxHeartbeats 400000 in
theorem szI_any (n : Nat) (A : Option Addr) (c : Nat) (l : Int) (h0 : -1 ≤ l) (h1 : l ≤ 1048576) (hn : n ≤ maxLen) (w : World) :
    Calls Try.prog 59 #[.slice A n c, .int .i64 l] w fun e w' => e = .returned (.int .i64 (if l < n then -1 else l - n)) ∧ w = w' := by
  unfold maxLen at hn
  by_cases h : l < n
  · rw [if_pos h]
    have h2 : l - (n : Int) < 0 := by omega
    go_enter Try.func59, Try.ntmps59
    go_wp2
    go_ret
    exact ⟨rfl, rfl⟩
  · rw [if_neg h]
    have h2 : 0 ≤ l - (n : Int) := by omega
    go_enter Try.func59, Try.ntmps59
    go_wp2
    go_ret
    exact ⟨rfl, rfl⟩
set_option maxRecDepth 100000 in
set_option maxHeartbeats 400000 in
theorem szEv_any (e : Ev) (A : Option Addr) (c : Nat) (l : Int) (h0 : -1 ≤ l) (h1 : l ≤ 1048576) (hn : e.ts.length ≤ maxLen) (w : World) :
    Calls Try.prog 26 #[evV e A c, .int .i64 l] w fun e' w' => e' = .returned (.int .i64 (if l < e.ts.length then -1 else l - e.ts.length)) ∧ Below w.heap.size w w' := by
  obtain ⟨k, ts, x, n, p⟩ := e
  unfold evV
  simp only at *
  have cS := fun w => szI_any ts.length A c l h0 h1 hn w
  generalize ts.length = m at *
  by_cases h : l < m
  · simp only [if_pos h] at cS ⊢
    go_enter Try.func26, Try.ntmps26
    go_wp2_with fail
    refine (cS _).mono ?_
    rintro e w' ⟨rfl, rfl⟩
    go_wp2
    go_ret
    exact ⟨rfl, by first | exact Below.refl _ _ | exact (Below.refl _ _).alloc (Nat.le_refl _) _⟩
  · simp only [if_neg h] at cS ⊢
    have hz : ¬ (l - (m : Int)) < 0 := by omega
    go_enter Try.func26, Try.ntmps26
    go_wp2_with fail
    refine (cS _).mono ?_
    rintro e w' ⟨rfl, rfl⟩
    go_wp2
    go_ret
    exact ⟨rfl, by first | exact Below.refl _ _ | exact (Below.refl _ _).alloc (Nat.le_refl _) _⟩
def EvOwn (e : Ev) (w : World) (e' : Ending) (w' : World) : Prop :=
  ∃ A c, e' = .returned (evV e A c) ∧ OwnI w' w.heap.size w'.heap.size A e.ts.length c e.ts ∧ Below w.heap.size w w'
theorem evOwn_mk {e : Ev} {w w' : World} {n : Nat} {A : Option Addr} {c : Nat} {e' : Ending} (hn : e.ts.length = n) (h1 : e' = .returned (.agg #[.int .i64 e.k, .slice A n c, .int .i64 e.c, .int .i64 e.n, .int .i64 e.p]))
    (h2 : w'.ownsRow w.heap.size 3 1 (.slice A n c) n (ints e.ts)) (h3 : Below w.heap.size w w') : EvOwn e w e' w' := by
  subst hn
  exact ⟨A, c, h1, OwnI.mk_ h2, h3⟩
theorem below3 {w : World} (o1 o2 o3 : Obj) : Below w.heap.size w (((w.alloc o1).alloc o2).alloc o3) :=
  (((Below.refl _ _).alloc (Nat.le_refl _) o1).alloc (by simp) o2).alloc (by simp; omega) o3
theorem below2 {w : World} (o1 o2 : Obj) : Below w.heap.size w ((w.alloc o1).alloc o2) :=
  ((Below.refl _ _).alloc (Nat.le_refl _) o1).alloc (by simp) o2
theorem below1 {w : World} (o1 : Obj) : Below w.heap.size w (w.alloc o1) := (Below.refl _ _).alloc (Nat.le_refl _) o1
set_option maxRecDepth 100000 in
set_option maxHeartbeats 800000 in
theorem toEv_any (e : Ev) (A : Option Addr) (c : Nat) (w : World) (hr : Rd w w.heap.size A (ints e.ts)) (hn : e.ts.length ≤ 1048576) :
    Calls Try.prog 28 #[evV e A c] w (EvOwn e w) := by
  obtain ⟨k, ts, x, n, p⟩ := e
  unfold evV
  simp only at *
  have hT := fun (w' : World) (hb : Below w.heap.size w w') => toIntS_any ts A c w' ((hr.below hb).more hb.size) hn
  obtain ⟨m, hm⟩ : ∃ m, ts.length = m := ⟨_, rfl⟩
  rw [hm] at hT ⊢
  have HM := Lib.hid hm
  have HT := Lib.hid hT
  clear hm hT hr
  go_enter Try.func28, Try.ntmps28
  go_wp2_with fail
  refine (HT.out _ (below3 _ _ _)).mono ?_
  rintro e w1 ⟨A1, c1, rfl, o1, b1⟩
  have HB := Lib.hid ((below3 _ _ _).trans (b1.mono (by simp; omega)))
  have HX := Lib.hid (((Box5.alloc_ w 39 (v0 := .int .i64 k) (v1 := .slice A m c) (v2 := .int .i64 x) (v3 := .int .i64 n) (v4 := .int .i64 p)).below (below2 (.cells #[.int .i64 0, .slice none 0 0, .int .i64 0, .int .i64 0, .int .i64 0] 43) (.cells #[.int .i64 k, .slice none 0 0, .int .i64 0, .int .i64 0, .int .i64 0] 43)) (by simp)).below b1 (by simp; omega))
  have hz := (Box5.alloc_ ((w.alloc (.cells #[.int .i64 k, .slice A m c, .int .i64 x, .int .i64 n, .int .i64 p] 39)).alloc (.cells #[.int .i64 0, .slice none 0 0, .int .i64 0, .int .i64 0, .int .i64 0] 43)) 43 (v0 := .int .i64 k) (v1 := .slice none 0 0) (v2 := .int .i64 0) (v3 := .int .i64 0) (v4 := .int .i64 0)).below b1 (by simp)
  have hy := ((Box5.alloc_ (w.alloc (.cells #[.int .i64 k, .slice A m c, .int .i64 x, .int .i64 n, .int .i64 p] 39)) 43 (v0 := .int .i64 0) (v1 := .slice none 0 0) (v2 := .int .i64 0) (v3 := .int .i64 0) (v4 := .int .i64 0)).below (below1 (.cells #[.int .i64 k, .slice none 0 0, .int .i64 0, .int .i64 0, .int .i64 0] 43)) (by simp)).below b1 (by simp)
  simp only [World.size_alloc] at hz hy o1
  have HO := Lib.hid o1
  obtain ⟨i0, i1, i2, i3, i4, _, _⟩ := HX.out
  obtain ⟨j0, j1, j2, j3, j4, jf, _⟩ := hz
  obtain ⟨k0, k1, k2, k3, k4, kf, _⟩ := hy
  have ap2 := own_apart HO.out (b := w.heap.size + 1 + 1) (by omega)
  have ap1 := own_apart HO.out (b := w.heap.size + 1) (by omega)
  have g0 : w.heap.size ≤ w.heap.size + 1 + 1 + 1 := by omega
  have g1 : w.heap.size ≤ w.heap.size + 1 := by omega
  have g2 : w.heap.size ≤ w.heap.size + 1 + 1 := by omega
  have AP := Lib.hid (And.intro ap2 ap1)
  clear b1 o1 ap1 ap2
  go_wp2
  obtain ⟨ap2, ap1⟩ := AP.out
  exact bodyPost_ret (v := .agg #[.int .i64 k, .slice A1 m c1, .int .i64 x, .int .i64 n, .int .i64 p]) (by simp [results, Try.results28, go_sem, k0, k1, k2, k3, k4]) rfl (evOwn_mk HM.out rfl (own_five (own_other (own_other (own_other (own_other (own_base HO.out g0) ap2 _) ap2 _) ap2 _) ap2 _) ap1) (((((HB.out.setCell (p := ⟨w.heap.size + 1 + 1, 1, none⟩) g2 _).setCell (p := ⟨w.heap.size + 1 + 1, 2, none⟩) g2 _).setCell (p := ⟨w.heap.size + 1 + 1, 3, none⟩) g2 _).setCell (p := ⟨w.heap.size + 1 + 1, 4, none⟩) g2 _).trans (five_below _ g1 _ _ _ _ _)))
set_option maxRecDepth 100000 in
set_option maxHeartbeats 800000 in
theorem eqEv_same (e : Ev) (A A' : Option Addr) (c c' : Nat) (w : World) (hr : Rd w w.heap.size A (ints e.ts)) (hr' : Rd w w.heap.size A' (ints e.ts)) (hn : e.ts.length ≤ 1048576) :
    Calls Try.prog 30 #[evV e A c, evV e A' c'] w fun e w' => e = .returned (.bool true) ∧ Below w.heap.size w w' := by
  obtain ⟨k, ts, x, n, p⟩ := e
  unfold evV
  simp only at *
  have hT := fun (w' : World) (hb : Below w.heap.size w w') => eqIntS_same ts A A' c c' w' w'.heap.size ((hr.below hb).more hb.size) ((hr'.below hb).more hb.size) hn
  obtain ⟨m, hm⟩ : ∃ m, ts.length = m := ⟨_, rfl⟩
  rw [hm] at hT ⊢
  have HT := Lib.hid hT
  clear hm hT hr hr'
  go_enter Try.func30, Try.ntmps30
  go_wp2_with fail
  refine (HT.out _ (below2 _ _)).mono ?_
  rintro e w1 ⟨rfl, d, rfl⟩
  go_wp2
  go_ret
  exact ⟨rfl, below_drewN (below2 _ _) _⟩
set_option maxRecDepth 100000 in
set_option maxHeartbeats 800000 in
theorem markEv_any (e : Ev) (n : Nat) (hm : e.ts.length = n) (A : Option Addr) (c : Nat) (w : World) (lo hi : Nat) (hlo : hi ≤ w.heap.size) (h : OwnI w lo hi A n c e.ts) (k : Int) (h0 : 0 ≤ k) (h1 : k ≤ 100000000) (hn : n ≤ 1048576) :
    Calls Try.prog 31 #[evV e A c, .int .i64 k] w fun e' w' => e' = .returned (.int .i64 (k + n)) ∧ OwnI w' lo hi A n c (marks k n) ∧ Upd lo hi w w' := by
  obtain ⟨k', ts, x, y, p⟩ := e
  unfold evV
  simp only at *
  have hT := fun o => markI_any n ts A c (w.alloc o) lo hi (h.far (fun q _ hq => Below.heap_alloc w o q (by omega))) k h0 h1 hn
  rw [hm]
  have HT := Lib.hid hT
  have ha : ∀ o, Upd lo hi w (w.alloc o) := fun o => ⟨by simp, rfl, rfl, rfl, fun q hq _ => Below.heap_alloc w o q hq⟩
  have HA := Lib.hid ha
  clear hm hT h ha
  go_enter Try.func31, Try.ntmps31
  go_wp2_with fail
  refine (HT.out _).mono ?_
  rintro e w1 ⟨rfl, o1, u1⟩
  have HR := Lib.hid (And.intro o1 ((HA.out _).trans u1))
  clear o1 u1
  go_wp2
  go_ret
  exact ⟨rfl, HR.out⟩
set_option maxRecDepth 100000 in
set_option maxHeartbeats 800000 in
theorem heldEv_any (e : Ev) (n : Nat) (hm : e.ts.length = n) (A : Option Addr) (c : Nat) (w : World) (k : Int) (hr : Rd w w.heap.size A (ints (marks k n))) (h0 : 0 ≤ k) (h1 : k ≤ 100000000) (hn : n ≤ 1048576) :
    Calls Try.prog 49 #[evV e A c, .int .i64 k] w fun e' w' => e' = .returned (.int .i64 (k + n)) ∧ Below w.heap.size w w' := by
  obtain ⟨k', ts, x, y, p⟩ := e
  unfold evV
  simp only at *
  have hT := fun o => heldIntS_any n A c (w.alloc o) (w.alloc o).heap.size k ((hr.below (below1 o)).more (below1 o).size) h0 h1 hn
  rw [hm]
  have HT := Lib.hid hT
  have hk : ¬ (k + (n : Int)) < 0 := by omega
  clear hm hT hr
  go_enter Try.func49, Try.ntmps49
  go_wp2_with fail
  refine (HT.out _).mono ?_
  rintro e w1 ⟨rfl, rfl⟩
  go_wp2
  go_ret
  exact ⟨rfl, below1 _⟩

end Go.Proofs.Ytggdnpaiaijhgaa

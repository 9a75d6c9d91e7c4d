/- Chapter 8: the exact laws' helpers on a season: size, copy, comparison, marks. -/
import Derived.Deep.RegionHeld3
import Derived.Lib.QuietBelow
import Derived.Test.YtggdnpaiaijhgaaBSeaW
namespace Go.Proofs.Ytggdnpaiaijhgaa
open Go.RowKit
set_option linter.unusedVariables false
set_option linter.unusedSimpArgs false
theorem OwnG.wide {w : World} {base hi base' hi' n c : Nat} {A : Option Addr} {xs : List Value} {pp : List (List Int)} (h : OwnG w base hi A n c xs pp) (h1 : base' ≤ base) (h2 : hi ≤ hi') : OwnG w base' hi' A n c xs pp :=
  ⟨own_base h.out h1, h.len, fun k r hr => by obtain ⟨A', c', q1, q2⟩ := h.row k r hr; exact ⟨A', c', q1, own_base q2 h1⟩, h.sep, h.top, fun i u b hu hb => by have := h.hi_ i u b hu hb; omega, fun b hb => by have := h.hio b hb; omega⟩
set_option maxRecDepth 100000 in
set_option maxHeartbeats 400000 in
theorem szSea_any (s : Sea) (A : Option Addr) (c : Nat) (w : World) (hg : RdG w w.heap.size A s.pp) (hn : s.pp.length ≤ maxLen) :
    Calls Try.prog 13 #[seaV s A c, .int .i64 1048576] w fun e' w' => (∃ z : Int, e' = .returned (.int .i64 z) ∧ ((z = -1) ∨ (0 ≤ z ∧ sizes s.pp ≤ 1048576))) ∧ Below w.heap.size w w' := by
  obtain ⟨pp, W, D, st, so, lo, cu, mo⟩ := s
  unfold seaV
  simp only at *
  have hT := fun o => szIntSS_any pp A c (w.alloc o) _ ((hg.below (below1 o)).more (below1 o).size) hn
  generalize pp.length = m at *
  have HT := Lib.hid hT
  clear hT hg hn
  go_enter Try.func13, Try.ntmps13
  go_wp2_with fail
  refine (HT.out _).mono ?_
  rintro e w' ⟨⟨z, rfl, hz⟩, rfl⟩
  rcases hz with rfl | ⟨hz, hs⟩
  · go_wp2
    go_ret
    exact ⟨⟨_, rfl, .inl rfl⟩, below1 _⟩
  · have hz1 : ¬ z < 0 := by omega
    have HS := Lib.hid hs
    clear hs
    go_wp2
    go_ret
    exact ⟨⟨_, rfl, .inr ⟨hz, HS.out⟩⟩, below1 _⟩
def SeOwn (s : Sea) (w : World) (e' : Ending) (w' : World) : Prop :=
  ∃ A c xs, e' = .returned (seaV s A c) ∧ OwnG w' w.heap.size w'.heap.size A s.pp.length c xs s.pp ∧ Below w.heap.size w w'
theorem seOwn_mk {s : Sea} {w w' : World} {n : Nat} {A : Option Addr} {c : Nat} {xs : List Value} {e' : Ending} {lo hi : Nat} (hn : s.pp.length = n) (h1 : e' = .returned (.agg #[.slice A n c, .int .i64 s.W, .int .i64 s.D, .int .i64 s.st, .int .i64 s.so, .int .i64 s.lo, .int .i64 s.cu, .int .i64 s.mo]))
    (h2 : OwnG w' lo hi A n c xs s.pp) (hl : w.heap.size ≤ lo) (hh : hi ≤ w'.heap.size) (h3 : Below w.heap.size w w') : SeOwn s w e' w' := by
  subst hn
  exact ⟨A, c, xs, h1, h2.wide hl hh, h3⟩
set_option maxRecDepth 100000 in
set_option maxHeartbeats 1600000 in
theorem toSea_any (s : Sea) (A : Option Addr) (c : Nat) (w : World) (hg : RdG w w.heap.size A s.pp) (hn : sizes s.pp ≤ 1048576) :
    Calls Try.prog 15 #[seaV s A c] w (SeOwn s w) := by
  obtain ⟨pp, W, D, st, so, lo, cu, mo⟩ := s
  unfold seaV
  simp only at *
  have hT := fun (w' : World) (hb : Below w.heap.size w w') => toIntSS_any pp A c w' ((hg.below hb).more hb.size) hn
  unfold OutG at hT
  obtain ⟨m, hm⟩ : ∃ m, pp.length = m := ⟨_, rfl⟩
  rw [hm] at hT ⊢
  have HM := Lib.hid hm
  have HT := Lib.hid hT
  clear hm hT hg
  go_enter Try.func15, Try.ntmps15
  go_wp2_with fail
  refine (HT.out _ (below3 _ _ _)).mono ?_
  rintro e w1 ⟨A1, c1, xs, rfl, o1, b1⟩
  have HB := Lib.hid ((below3 _ _ _).trans (b1.mono (by simp; omega)))
  have HX := Lib.hid (((Box8.alloc_ w 24 (v0 := .slice A m c) (v1 := .int .i64 W) (v2 := .int .i64 D) (v3 := .int .i64 st) (v4 := .int .i64 so) (v5 := .int .i64 lo) (v6 := .int .i64 cu) (v7 := .int .i64 mo)).below (below2 (.cells #[.slice none 0 0, .int .i64 0, .int .i64 0, .int .i64 0, .int .i64 0, .int .i64 0, .int .i64 0, .int .i64 0] 27) (.cells #[.slice none 0 0, .int .i64 0, .int .i64 0, .int .i64 0, .int .i64 0, .int .i64 0, .int .i64 0, .int .i64 0] 27)) (by simp)).below b1 (by simp; omega))
  have hz := (Box8.alloc_ ((w.alloc (.cells #[.slice A m c, .int .i64 W, .int .i64 D, .int .i64 st, .int .i64 so, .int .i64 lo, .int .i64 cu, .int .i64 mo] 24)).alloc (.cells #[.slice none 0 0, .int .i64 0, .int .i64 0, .int .i64 0, .int .i64 0, .int .i64 0, .int .i64 0, .int .i64 0] 27)) 27 (v0 := .slice none 0 0) (v1 := .int .i64 0) (v2 := .int .i64 0) (v3 := .int .i64 0) (v4 := .int .i64 0) (v5 := .int .i64 0) (v6 := .int .i64 0) (v7 := .int .i64 0)).below b1 (by simp)
  have hy := ((Box8.alloc_ (w.alloc (.cells #[.slice A m c, .int .i64 W, .int .i64 D, .int .i64 st, .int .i64 so, .int .i64 lo, .int .i64 cu, .int .i64 mo] 24)) 27 (v0 := .slice none 0 0) (v1 := .int .i64 0) (v2 := .int .i64 0) (v3 := .int .i64 0) (v4 := .int .i64 0) (v5 := .int .i64 0) (v6 := .int .i64 0) (v7 := .int .i64 0)).below (below1 (.cells #[.slice none 0 0, .int .i64 0, .int .i64 0, .int .i64 0, .int .i64 0, .int .i64 0, .int .i64 0, .int .i64 0] 27)) (by simp)).below b1 (by simp)
  simp only [World.size_alloc] at hz hy o1
  have HO := Lib.hid o1
  obtain ⟨i0, i1, i2, i3, i4, i5, i6, i7, _, _⟩ := HX.out
  obtain ⟨j0, j1, j2, j3, j4, j5, j6, j7, jf, _⟩ := hz
  obtain ⟨k0, k1, k2, k3, k4, k5, k6, k7, kf, _⟩ := hy
  have g1 : w.heap.size ≤ w.heap.size + 1 := by omega
  have g2 : w.heap.size ≤ w.heap.size + 1 + 1 := by omega
  clear b1 o1
  go_wp2
  have hO := (HO.out.eight (g := w.heap.size + 1 + 1) (v0 := .slice A1 m c1) (v1 := .int .i64 W) (v2 := .int .i64 D) (v3 := .int .i64 st) (v4 := .int .i64 so) (v5 := .int .i64 lo) (v6 := .int .i64 cu) (v7 := .int .i64 mo) (.inl (by omega))).eight (g := w.heap.size + 1) (v0 := .slice A1 m c1) (v1 := .int .i64 W) (v2 := .int .i64 D) (v3 := .int .i64 st) (v4 := .int .i64 so) (v5 := .int .i64 lo) (v6 := .int .i64 cu) (v7 := .int .i64 mo) (.inl (by omega))
  have hB := (HB.out.trans (eight_below w1 g2 (.slice A1 m c1) (.int .i64 W) (.int .i64 D) (.int .i64 st) (.int .i64 so) (.int .i64 lo) (.int .i64 cu) (.int .i64 mo))).trans (eight_below _ g1 (.slice A1 m c1) (.int .i64 W) (.int .i64 D) (.int .i64 st) (.int .i64 so) (.int .i64 lo) (.int .i64 cu) (.int .i64 mo))
  exact bodyPost_ret (v := .agg #[.slice A1 m c1, .int .i64 W, .int .i64 D, .int .i64 st, .int .i64 so, .int .i64 lo, .int .i64 cu, .int .i64 mo]) (by simp [results, Try.results15, go_sem, k0, k1, k2, k3, k4, k5, k6, k7]) rfl (seOwn_mk HM.out rfl hO (by omega) (by simp [World.setCell]) hB)
set_option maxRecDepth 100000 in
set_option maxHeartbeats 1600000 in
theorem eqSea_same (s : Sea) (A A' : Option Addr) (c c' : Nat) (w : World) (hr : RdG w w.heap.size A s.pp) (hr' : RdG w w.heap.size A' s.pp) (hn : sizes s.pp ≤ 1048576) :
    Calls Try.prog 17 #[seaV s A c, seaV s A' c'] w fun e w' => e = .returned (.bool true) ∧ Below w.heap.size w w' := by
  obtain ⟨pp, W, D, st, so, lo, cu, mo⟩ := s
  unfold seaV
  simp only at *
  have hT := fun (w' : World) (hb : Below w.heap.size w w') => eqIntSS_same pp A A' c c' w' w'.heap.size ((hr.below hb).more hb.size) ((hr'.below hb).more hb.size) hn
  obtain ⟨m, hm⟩ : ∃ m, pp.length = m := ⟨_, rfl⟩
  rw [hm] at hT ⊢
  have HT := Lib.hid hT
  clear hm hT hr hr'
  go_enter Try.func17, Try.ntmps17
  go_wp2_with fail
  refine (HT.out _ (below2 _ _)).mono ?_
  rintro e w1 ⟨rfl, d, rfl⟩
  go_wp2
  go_ret
  exact ⟨rfl, below_drewN (below2 _ _) _⟩
set_option maxRecDepth 100000 in
set_option maxHeartbeats 800000 in
theorem markSea_any (s : Sea) (n : Nat) (hm : s.pp.length = n) (A : Option Addr) (c : Nat) (xs : List Value) (w : World) (lo hi : Nat) (hlo : hi ≤ w.heap.size) (h : OwnG w lo hi A n c xs s.pp) (k : Int) (h0 : 0 ≤ k) (h1 : k ≤ 1000000) (hn : sizes s.pp ≤ 1048576) :
    Calls Try.prog 24 #[seaV s A c, .int .i64 k] w fun e' w' => e' = .returned (.int .i64 (k + (tot s.pp : Nat))) ∧ OwnG w' lo hi A n c xs (mkG k s.pp) ∧ Upd lo hi w w' := by
  obtain ⟨pp, W, D, st, so, l0, cu, mo⟩ := s
  unfold seaV
  simp only at *
  have hT := fun o => markIntSS_any pp n A c xs (w.alloc o) lo hi (h.far (fun q _ hq => Below.heap_alloc w o q (by omega))) k h0 (by omega) hn
  unfold MarkPost at hT
  rw [hm]
  have HT := Lib.hid hT
  have ha : ∀ o, Upd lo hi w (w.alloc o) := fun o => ⟨by simp, rfl, rfl, rfl, fun q hq _ => Below.heap_alloc w o q hq⟩
  have HA := Lib.hid ha
  generalize tot pp = t at *
  clear hm hT h ha
  go_enter Try.func24, Try.ntmps24
  go_wp2_with fail
  refine (HT.out _).mono ?_
  rintro e w1 ⟨rfl, o1, z1, z2, z3, z4, z5⟩
  have HR := Lib.hid (And.intro o1 ((HA.out _).trans ⟨z1, z2, z3, z4, z5⟩))
  clear o1 z1 z2 z3 z4 z5
  go_wp2
  go_ret
  exact ⟨rfl, HR.out⟩
set_option maxRecDepth 100000 in
set_option maxHeartbeats 800000 in
theorem heldSea_any (s : Sea) (n : Nat) (hm : s.pp.length = n) (A : Option Addr) (c : Nat) (w : World) (k : Int) (hg : RdG w w.heap.size A (mkG k s.pp)) (h0 : 0 ≤ k) (h1 : k ≤ 1000000) (hn : sizes s.pp ≤ 1048576) :
    Calls Try.prog 25 #[seaV s A c, .int .i64 k] w fun e' w' => e' = .returned (.int .i64 (k + (tot s.pp : Nat))) ∧ Below w.heap.size w w' := by
  obtain ⟨pp, W, D, st, so, l0, cu, mo⟩ := s
  unfold seaV
  simp only at *
  have hT := fun o => heldIntSS_any pp n hm A c (w.alloc o) _ k ((hg.below (below1 o)).more (below1 o).size) h0 (by omega) hn
  rw [hm]
  have HT := Lib.hid hT
  have hk : ¬ (k + ((tot pp : Nat) : Int)) < 0 := by omega
  generalize tot pp = t at *
  clear hm hT hg
  go_enter Try.func25, Try.ntmps25
  go_wp2_with fail
  refine (HT.out _).mono ?_
  rintro e w1 ⟨rfl, rfl⟩
  go_wp2
  go_ret
  exact ⟨rfl, below1 _⟩

end Go.Proofs.Ytggdnpaiaijhgaa

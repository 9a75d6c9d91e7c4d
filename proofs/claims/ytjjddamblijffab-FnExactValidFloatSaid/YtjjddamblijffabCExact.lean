/- The exact laws' helpers on lists of cakes: sizes, copies, comparison, marks. -/
import Derived.Deep.SlicePairs
import Derived.Lib.QuietBelow
import Derived.Test.YtjjddamblijffabCWords
import Derived.Test.YtjjddamblijffabLaw
namespace Go.Proofs.Ytjjddamblijffab
open Go.RowKit
set_option linter.unusedVariables false
set_option linter.unusedSimpArgs false
set_option maxRecDepth 100000 in
set_option maxHeartbeats 400000 in
theorem eqCake_same (x y : Int) (w : World) :
    Calls Try.prog 80 #[.agg #[.int .i64 x, .int .i64 y], .agg #[.int .i64 x, .int .i64 y]] w fun e w' => e = .returned (.bool true) ∧ Below w.heap.size w w' := by
  go_enter Try.func80, Try.ntmps80
  go_wp2
  go_ret
  exact ⟨rfl, ((Below.refl _ _).alloc (Nat.le_refl _) _).alloc (by simp) _⟩
set_option maxRecDepth 100000 in
set_option maxHeartbeats 400000 in
theorem toCake_any (x y : Int) (w : World) :
    Calls Try.prog 77 #[.agg #[.int .i64 x, .int .i64 y]] w fun e w' => e = .returned (.agg #[.int .i64 x, .int .i64 y]) ∧ Below w.heap.size w w' := by
  go_enter Try.func77, Try.ntmps77
  go_wp2
  exact bodyPost_ret (v := .agg #[.int .i64 x, .int .i64 y]) (by simp [results, Try.results77, go_sem]) rfl ⟨rfl, (((Below.refl _ _).alloc (Nat.le_refl _) _).alloc (by simp) _).alloc (by simp; omega) _⟩
set_option maxRecDepth 100000 in
set_option maxHeartbeats 400000 in
theorem szCakeS_any (n : Nat) (A : Option Addr) (c : Nat) (hn : n ≤ maxLen) (w : World) :
    Calls Try.prog 35 #[.slice A n c, .int .i64 1048576] w fun e w' => (∃ z : Int, e = .returned (.int .i64 z) ∧ ((z = -1) ∨ (0 ≤ z ∧ n ≤ 1048576))) ∧ w = w' := by
  unfold maxLen at hn
  by_cases h : (1048576 : Int) < n
  · have h2 : (1048576 : Int) - (n : Int) < 0 := by omega
    go_enter Try.func35, Try.ntmps35
    go_wp2
    go_ret
    exact ⟨⟨_, rfl, .inl rfl⟩, rfl⟩
  · have h2 : 0 ≤ (1048576 : Int) - (n : Int) := by omega
    go_enter Try.func35, Try.ntmps35
    go_wp2
    go_ret
    exact ⟨⟨_, rfl, .inr ⟨h2, by omega⟩⟩, rfl⟩
set_option maxRecDepth 100000 in
set_option maxHeartbeats 800000 in
open Go.Sort in
theorem eqCakeS_same (n : Nat) (cs : List (Int × Int)) (hl : cs.length = n) (A A' : Option Addr) (c c' : Nat) (w : World) (B : Nat) (hB : B ≤ w.heap.size) (hr : Rd w B A (cakeV cs)) (hr' : Rd w B A' (cakeV cs)) (hn : n ≤ 1048576) :
    Calls Try.prog 39 #[.slice A n c, .slice A' n c'] w fun e w' => e = .returned (.bool true) ∧ Below w.heap.size w w' := by
  have HL := Lib.hid hl
  clear hl
  go_enter Try.func39, Try.ntmps39
  go_wp2
  go_loopw [5] (fun i wr => ∃ k : Nat, k ≤ n ∧ i = .int .i64 k ∧ Below w.heap.size w wr) (fun i _ => n - (intOf i).toNat)
  case atStart => exact ⟨0, Nat.zero_le _, rfl, Below.refl _ _⟩
  case round =>
    obtain ⟨k, hk, rfl, hbel⟩ := hrel
    by_cases hlt : k < n
    · obtain ⟨b, off, x, y, rfl, hb, hz, hc, hc2⟩ := (hr.below (hbel.mono hB)).cake_ (k := k) (by rw [HL.out]; exact hlt)
      obtain ⟨b', off', x', y', rfl, hb', hz', hc', hc2'⟩ := (hr'.below (hbel.mono hB)).cake_ (k := k) (by rw [HL.out]; exact hlt)
      obtain ⟨rfl, rfl⟩ : x = x' ∧ y = y' := by have h1 := hz.out; have h2 := hz'.out; rw [h1] at h2; injection h2 with h2; injection h2 with h3 h4; exact ⟨h3, h4⟩
      have HBel := Lib.hid hbel
      have k1 := cell_regrown hc
      have k2 := cell_regrown hc2
      have k3 := cell_regrown hc'
      have k4 := cell_regrown hc2'
      have cq : ∀ d os, Calls Try.prog 80 #[.agg #[.int .i64 x, .int .i64 y], .agg #[.int .i64 x, .int .i64 y]] (grow (redrawn wr d) os) fun e w'' => e = .returned (.bool true) ∧ ∃ p : Regrown, w'' = grow (redrawn wr p.d) p.os := fun d os => Calls.regrown_of (eqCake_same x y _)
      clear hbel
      go_wp2
      refine wp_region_quiet_below (by kernel_rfl) (by kernel_rfl) ?_
      repeat (go_big_quiet_step (first | exact cq _ _))
      refine wpQuiet_nil ?_
      intro w2 hw'
      have HBw2 : Below wr.heap.size wr w2 := by obtain ⟨⟨dq, osq⟩, hq⟩ := hw'; rw [hq]; exact below_regrown _ _ _
      clear hw'
      have hb2 := HBel.out.trans (HBw2.mono HBel.out.size)
      have HB2 := Lib.hid hb2
      clear hb2 HBw2 cq k1 k2 k3 k4
      go_wp2
      go_roundw
      case rel => exact ⟨k + 1, by omega, by go_num, HB2.out⟩
      case measure => simp [intOf]; omega
    · go_wp2
      go_ret
      exact ⟨rfl, hbel⟩
theorem cakeV_rep (n : Nat) : cakeV (List.replicate n (0, 0)) = List.replicate (n * 2) (.int .i64 0) := by
  induction n with
  | zero => rfl
  | succ n ih => rw [List.replicate_succ, cakeV_cons, ih, show (n + 1) * 2 = n * 2 + 1 + 1 by omega, List.replicate_succ, List.replicate_succ]
theorem cakeV_set {cs : List (Int × Int)} : ∀ {k : Nat} {x y : Int}, k < cs.length → ((cakeV cs).set (k * 2) (.int .i64 x)).set (k * 2 + 1) (.int .i64 y) = cakeV (cs.set k (x, y)) := by
  induction cs with
  | nil => intro k x y h; simp at h
  | cons c cs ih =>
    intro k x y h
    cases k with
    | zero => rfl
    | succ k =>
      simp only [List.length_cons] at h
      rw [cakeV_cons, List.set_cons_succ, cakeV_cons, show (k + 1) * 2 = k * 2 + 1 + 1 by omega]
      simp only [List.set_cons_succ]
      rw [ih (by omega)]
def halfC (cs : List (Int × Int)) (k : Nat) : List (Int × Int) := cs.take k ++ List.replicate (cs.length - k) (0, 0)
theorem halfC_len (cs : List (Int × Int)) {k : Nat} (h : k ≤ cs.length) : (halfC cs k).length = cs.length := by
  unfold halfC
  rw [List.length_append, List.length_take, List.length_replicate]
  omega
theorem halfC_set {cs : List (Int × Int)} {k : Nat} {c : Int × Int} (h : cs[k]? = some c) : (halfC cs k).set k c = halfC cs (k + 1) := by
  have hk : k < cs.length := (List.getElem?_eq_some_iff.1 h).1
  unfold halfC
  have e1 : (cs.take k).length = k := by rw [List.length_take]; omega
  rw [List.set_append, e1, if_neg (by omega), Nat.sub_self, take_snoc h, show cs.length - k = (cs.length - (k + 1)) + 1 by omega, List.replicate_succ, List.set_cons_zero, List.append_assoc]
  rfl
theorem halfC_all (cs : List (Int × Int)) : halfC cs cs.length = cs := by unfold halfC; simp
theorem halfC_zero (cs : List (Int × Int)) : halfC cs 0 = List.replicate cs.length (0, 0) := by unfold halfC; simp
theorem owz_cakes_made (w : World) (n : Nat) (T : TypeId) (hn : n ≤ maxLen) : (w.alloc (.cells (madeCells #[.int .i64 0, .int .i64 0] (n * 2)) T)).ownsRow w.heap.size T 2 (.slice (some ⟨w.heap.size, 0, none⟩) n n) n (cakeV (List.replicate n (0, 0))) := by
  refine ⟨by rw [cakeV_len, List.length_replicate], .inr ⟨_, n, _, rfl, Nat.le_refl _, heap_alloc_new w _, Nat.le_refl _, hn, size_madeCells _ _, ?_⟩⟩
  rw [cakeV_rep]
  apply List.ext_getElem
  · simp [madeCells]
  · intro i h1 h2
    have h3 : i < n * 2 := by simpa using h2
    have h4 := Nat.mod_two_eq_zero_or_one i
    rw [List.getElem_take, List.getElem_replicate]
    rcases h4 with h4 | h4 <;> simp [madeCells, h4]
theorem make_cakes (n : Nat) (hn : n ≤ 1048576) (w : World) :
    (Instr.makeSlice 43 (.int .i64 (n : Int)) (.int .i64 (n : Int))).run Try.prog w = .ok (.slice (some ⟨w.heap.size, 0, none⟩) n n) (w.alloc (.cells (madeCells #[.int .i64 0, .int .i64 0] (n * 2)) 83)) := by
  obtain ⟨i, hi, hzz⟩ := Option.map_eq_some_iff.1 info_cake
  simp only [Prod.mk.injEq] at hzz
  obtain ⟨hz, hs, hb⟩ := hzz
  have hr := run_make (P := Try.prog) w 43 83 i _ Try.underlying43 hi hz .i64 .i64 n n (by omega) (Int.le_refl _) (by rw [hb]; omega) (by omega)
  simp only [Int.toNat_natCast, hs] at hr
  exact hr
set_option maxRecDepth 100000 in
set_option maxHeartbeats 800000 in
theorem toCakeS_any (n : Nat) (cs : List (Int × Int)) (hl : cs.length = n) (A : Option Addr) (c : Nat) (w : World) (hr : Rd w w.heap.size A (cakeV cs)) (hn : n ≤ 1048576) :
    Calls Try.prog 37 #[.slice A n c] w fun e w' => ∃ A' c', e = .returned (.slice A' n c') ∧ w'.ownsRow w.heap.size 83 2 (.slice A' n c') n (cakeV cs) ∧ Below w.heap.size w w' := by
  have HL := Lib.hid hl
  have hmk := make_cakes n hn
  clear hl
  go_enter Try.func37, Try.ntmps37
  go_wp2
  go_loopw [4] (fun i wr => ∃ k : Nat, k ≤ n ∧ i = .int .i64 k ∧ wr.ownsRow w.heap.size 83 2 (.slice (some ⟨w.heap.size, 0, none⟩) n n) n (cakeV (halfC cs k)) ∧ Below w.heap.size w wr) (fun i _ => n - (intOf i).toNat)
  case atStart =>
    refine ⟨0, Nat.zero_le _, rfl, ?_, (Below.refl _ _).alloc (Nat.le_refl _) _⟩
    rw [halfC_zero, HL.out]
    exact owz_cakes_made w n _ (by unfold maxLen; omega)
  case round =>
    obtain ⟨k, hk, rfl, hown, hbel⟩ := hrel
    by_cases hlt : k < n
    · obtain ⟨b, off, x, y, rfl, hb, hz, hc, hc2⟩ := (hr.below hbel).cake_ (k := k) (by rw [HL.out]; exact hlt)
      go_wp2_with fail
      refine (toCake_any x y _).mono ?_
      rintro e w2 ⟨rfl, b2⟩
      have o2 := owz_below hown b2
      have hbel2 := hbel.trans (b2.mono hbel.size)
      obtain ⟨x0, y0, hq⟩ : ∃ x0 y0, (halfC cs k)[k]? = some (x0, y0) := ⟨_, _, List.getElem?_eq_getElem (by rw [halfC_len _ (by rw [HL.out]; exact hk), HL.out]; exact hlt)⟩
      have hcs := cakeV_at hq
      have k1 := owz_cell o2 hcs.1
      have k2 := owz_cell o2 hcs.2
      have f1 := owz_frozen o2 (k * 2)
      have f2 := owz_frozen o2 (k * 2 + 1)
      have hput := owz_put (owz_put o2 (k * 2) (.int .i64 x)) (k * 2 + 1) (.int .i64 y)
      rw [cakeV_set (by rw [halfC_len _ (by rw [HL.out]; exact hk), HL.out]; exact hlt), halfC_set hz.out] at hput
      have HP := Lib.hid (And.intro hput ((hbel2.setCell (by simp) (.int .i64 x) (p := ⟨w.heap.size, k * 2, none⟩)).setCell (by simp) (.int .i64 y) (p := ⟨w.heap.size, k * 2 + 1, none⟩)))
      clear hput hown hbel hbel2 o2 b2 hcs hq
      go_wp2
      go_roundw
      case rel => exact ⟨k + 1, by omega, by go_num, HP.out.1, HP.out.2⟩
      case measure => simp [intOf]; omega
    · obtain rfl : k = n := by omega
      have HA : Hid (halfC cs k = cs) := Lib.hid (by rw [← HL.out]; exact halfC_all cs)
      rw [HA.out] at hown
      go_wp2
      go_ret
      exact ⟨_, _, rfl, hown, hbel⟩
def cmarks (k : Int) (n : Nat) : List (Int × Int) := (List.range n).map (fun i : Nat => (k + 2 * (i : Int), k + 2 * (i : Int) + 1))
theorem cmarks_len (k : Int) (n : Nat) : (cmarks k n).length = n := by simp [cmarks]
theorem cmarks_at {k : Int} {n i : Nat} (h : i < n) : (cmarks k n)[i]? = some (k + 2 * (i : Int), k + 2 * (i : Int) + 1) := by
  unfold cmarks
  rw [List.getElem?_map, List.getElem?_range h]
  rfl
def cmarked (k : Int) (cs : List (Int × Int)) (j : Nat) : List (Int × Int) := (cmarks k cs.length).take j ++ cs.drop j
theorem cmarked_len (k : Int) (cs : List (Int × Int)) {j : Nat} (h : j ≤ cs.length) : (cmarked k cs j).length = cs.length := by
  unfold cmarked
  rw [List.length_append, List.length_take, List.length_drop, cmarks_len]
  omega
theorem cmarked_set {k : Int} {cs : List (Int × Int)} {j : Nat} (h : j < cs.length) : (cmarked k cs j).set j (k + 2 * (j : Int), k + 2 * (j : Int) + 1) = cmarked k cs (j + 1) := by
  unfold cmarked
  have e1 : ((cmarks k cs.length).take j).length = j := by rw [List.length_take, cmarks_len]; omega
  rw [List.set_append, e1, if_neg (by omega), Nat.sub_self, List.drop_eq_getElem_cons h, take_snoc (cmarks_at h), List.append_assoc]
  rfl
theorem only_cells {a w : World} {g : Nat} (h : a.grownBy w (some g)) (j : Nat) (u : Value) : a.grownBy (w.setCell ⟨g, j, none⟩ u) (some g) :=
  ⟨h.os, h.tape, h.output, by simpa using h.size, fun i hi hne => (Below.heap_setCell w ⟨g, j, none⟩ u i (fun e => hne (by rw [e]))).trans (h.block i hi hne)⟩
theorem cellsCake : Try.prog.cellsOf 85 = 2 := by kernel_rfl
theorem cellsInt' : Try.prog.cellsOf 3 = 1 := by kernel_rfl
namespace Opn
open Go.ChangeShapes Go.WideShapes Go.ChangeAt Go.RowKit
set_option maxRecDepth 100000 in
set_option maxHeartbeats 400000 in
/-- An argument that is a list of cakes. -/
theorem open_rdC {H : Type} {enc : TypeId × Value → H} {W : World} {base : Nat} {v : Value} {d : DataW H} {p : List MemPlace} (ht : Try.prog.underlying 40 = some (.slice 85))
    (hval : Value.okWide Try.prog W .any base 40 v) (h : DataW.Trod enc Try.prog W 0 (fun _ => true) true 40 v d p) :
    ∃ (A : Option Addr) (c : Nat) (cs : List (Int × Int)), v = .slice A cs.length c ∧ Rd W W.heap.size A (cakeV cs) ∧ (cs.length ≤ c ∧ c ≤ maxLen) := by
  obtain ⟨a1, len, cap, rfl⟩ := okWide_slice ht hval
  obtain ⟨fuel, hf⟩ := h
  rcases Go.Deep.open_slice_pairs ht Try.underlying85 cellsCake rfl rfl cellsInt cellsInt hf with ⟨hcs, _⟩ | ⟨a, len', cap', m, n, V0, V1, D0, D1, P0, P1, hcs, _, hl, hm, hmm, _, hx⟩
  · simp [Value.cells] at hcs
    obtain ⟨rfl, rfl, rfl⟩ := hcs
    exact ⟨none, 0, [], rfl, Rd.nil_, ⟨Nat.zero_le _, Nat.zero_le _⟩⟩
  · simp [Value.cells] at hcs
    obtain ⟨rfl, rfl, rfl⟩ := hcs
    simp only [if_true] at hmm
    subst hmm
    have hcell : ∀ i, i < len → W.cell? (a.add (i * 2)) = some (.int .i64 (intOf (V0 i))) ∧ W.cell? (a.add (i * 2 + 1)) = some (.int .i64 (intOf (V1 i))) := fun i hi => by
      obtain ⟨h1, h2, h3, h4⟩ := hx i (by omega)
      obtain ⟨z, e, _, _⟩ := DataW.trod_int Try.underlying3 h3
      obtain ⟨z', e', _, _⟩ := DataW.trod_int Try.underlying3 h4
      simp only [List.cons.injEq, and_true] at e e'
      rw [e] at h1 ⊢
      rw [e'] at h2 ⊢
      exact ⟨h1, h2⟩
    refine ⟨some a, m, (List.range len).map (fun i => (intOf (V0 i), intOf (V1 i))), by simp, fun hn => ?_, ⟨by simpa using hl, hm⟩⟩
    have hpos : 0 < len := by
      rcases Nat.eq_zero_or_pos len with h0 | h0
      · subst h0; simp [cakeV] at hn
      · exact h0
    obtain ⟨ab, ao, spot⟩ := a
    have hspot : spot = none := by simpa [Addr.add] using World.cell?_spot (hcell 0 hpos).1
    subst hspot
    refine ⟨ab, ao, rfl, cell_block (a := ⟨ab, ao, none⟩) (by simpa [Addr.add] using (hcell 0 hpos).1), fun j x hj => ?_⟩
    have hjl : j < len * 2 := by
      have := (List.getElem?_eq_some_iff.1 hj).1
      rw [cakeV_len] at this
      simpa using this
    have hk : j / 2 < len := by omega
    have hat := cakeV_at (cs := (List.range len).map (fun i => (intOf (V0 i), intOf (V1 i)))) (k := j / 2) (x := intOf (V0 (j / 2))) (y := intOf (V1 (j / 2))) (by rw [List.getElem?_map, List.getElem?_range hk]; rfl)
    have hc := hcell (j / 2) hk
    rw [Addr.add_lit, Addr.add_lit] at hc
    rcases Nat.mod_two_eq_zero_or_one j with h2 | h2
    · rw [show j / 2 * 2 = j by omega] at hat hc
      rw [hat.1] at hj
      rw [← hj]
      exact hc.1
    · rw [show j / 2 * 2 + 1 = j by omega] at hat hc
      rw [hat.2] at hj
      rw [← hj]
      exact hc.2
end Opn

end Go.Proofs.Ytjjddamblijffab

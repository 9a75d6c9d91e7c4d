/- The exact laws' helpers on lists of debts: sizes, copies, comparison, marks. -/
import Derived.Deep.Strs
import Derived.Deep.Slices
import Derived.Lib.QuietBelow
import Derived.Test.YtiihenhddleooabTWords
namespace Go.Proofs.Ytiihenhddleooab
open Go.RowKit
set_option linter.unusedVariables false
set_option linter.unusedSimpArgs false
theorem info_debt : (Try.prog.info? 67).map (fun i => (i.zero, i.size, i.bytes)) = some (some (.agg #[.int .i64 0, .int .i64 0, .int .i64 0]), 3, 24) := by kernel_rfl
set_option maxRecDepth 100000 in
set_option maxHeartbeats 400000 in
theorem eqDebt_same (x d v : Int) (w : World) :
    Calls Try.prog 61 #[.agg #[.int .i64 x, .int .i64 d, .int .i64 v], .agg #[.int .i64 x, .int .i64 d, .int .i64 v]] w fun e w' => e = .returned (.bool true) ∧ Below w.heap.size w w' := by
  go_enter Try.func61, Try.ntmps61
  go_wp2
  go_ret
  exact ⟨rfl, ((Below.refl _ _).alloc (Nat.le_refl _) _).alloc (by simp) _⟩
set_option maxRecDepth 100000 in
set_option maxHeartbeats 400000 in
theorem toDebt_any (x d v : Int) (w : World) :
    Calls Try.prog 59 #[.agg #[.int .i64 x, .int .i64 d, .int .i64 v]] w fun e w' => e = .returned (.agg #[.int .i64 x, .int .i64 d, .int .i64 v]) ∧ Below w.heap.size w w' := by
  go_enter Try.func59, Try.ntmps59
  go_wp2
  exact bodyPost_ret (v := .agg #[.int .i64 x, .int .i64 d, .int .i64 v]) (by simp [results, Try.results59, go_sem]) rfl ⟨rfl, (((Below.refl _ _).alloc (Nat.le_refl _) _).alloc (by simp) _).alloc (by simp; omega) _⟩
set_option maxRecDepth 100000 in
set_option maxHeartbeats 400000 in
theorem szDebtS_any (n : Nat) (A : Option Addr) (c : Nat) (hn : n ≤ maxLen) (w : World) :
    Calls Try.prog 15 #[.slice A n c, .int .i64 1048576] w fun e w' => (∃ z : Int, e = .returned (.int .i64 z) ∧ ((z = -1) ∨ (0 ≤ z ∧ n ≤ 1048576))) ∧ w = w' := by
  unfold maxLen at hn
  by_cases h : (1048576 : Int) < n
  · have h2 : (1048576 : Int) - (n : Int) < 0 := by omega
    go_enter Try.func15, Try.ntmps15
    go_wp2
    go_ret
    exact ⟨⟨_, rfl, .inl rfl⟩, rfl⟩
  · have h2 : 0 ≤ (1048576 : Int) - (n : Int) := by omega
    go_enter Try.func15, Try.ntmps15
    go_wp2
    go_ret
    exact ⟨⟨_, rfl, .inr ⟨h2, by omega⟩⟩, rfl⟩
set_option maxRecDepth 100000 in
set_option maxHeartbeats 800000 in
open Go.Sort in
theorem eqDebtS_same (n : Nat) (cs : List Cu) (hl : cs.length = n) (A A' : Option Addr) (c c' : Nat) (w : World) (B : Nat) (hB : B ≤ w.heap.size) (hr : Rd w B A (custV cs)) (hr' : Rd w B A' (custV cs)) (hn : n ≤ 1048576) :
    Calls Try.prog 19 #[.slice A n c, .slice A' n c'] w fun e w' => e = .returned (.bool true) ∧ Below w.heap.size w w' := by
  have HL := Lib.hid hl
  clear hl
  go_enter Try.func19, Try.ntmps19
  go_wp2
  go_loopw [5] (fun i wr => ∃ k : Nat, k ≤ n ∧ i = .int .i64 k ∧ Below w.heap.size w wr) (fun i _ => n - (intOf i).toNat)
  case atStart => exact ⟨0, Nat.zero_le _, rfl, Below.refl _ _⟩
  case round =>
    obtain ⟨k, hk, rfl, hbel⟩ := hrel
    by_cases hlt : k < n
    · obtain ⟨b, off, x, d, v, rfl, hb, hz, hc, hc2, hc3⟩ := (hr.below (hbel.mono hB)).cust_ (k := k) (by rw [HL.out]; exact hlt)
      obtain ⟨b', off', x', d', v', rfl, hb', hz', hc', hc2', hc3'⟩ := (hr'.below (hbel.mono hB)).cust_ (k := k) (by rw [HL.out]; exact hlt)
      obtain ⟨rfl, rfl, rfl⟩ : x = x' ∧ d = d' ∧ v = v' := by have h1 := hz.out; have h2 := hz'.out; rw [h1] at h2; injection h2 with h2 h3; injection h3 with h3 h4; exact ⟨h2, h3, h4⟩
      have HBel := Lib.hid hbel
      have k1 := cell_regrown hc
      have k2 := cell_regrown hc2
      have k5 := cell_regrown hc3
      have k3 := cell_regrown hc'
      have k4 := cell_regrown hc2'
      have k6 := cell_regrown hc3'
      have cq : ∀ dd os, Calls Try.prog 61 #[.agg #[.int .i64 x, .int .i64 d, .int .i64 v], .agg #[.int .i64 x, .int .i64 d, .int .i64 v]] (grow (redrawn wr dd) os) fun e w'' => e = .returned (.bool true) ∧ ∃ p : Regrown, w'' = grow (redrawn wr p.d) p.os := fun dd os => Calls.regrown_of (eqDebt_same x d v _)
      clear hbel
      go_wp2
      refine wp_region_quiet_below (by kernel_rfl) (by kernel_rfl) ?_
      repeat (go_big_quiet_step (first | exact cq _ _))
      refine wpQuiet_nil ?_
      intro w2 hw'
      have HBw2 : Below wr.heap.size wr w2 := by obtain ⟨⟨dq, osq⟩, hq⟩ := hw'; rw [hq]; exact below_regrown _ _ _
      clear hw'
      have hb2 := HBel.out.trans (HBw2.mono HBel.out.size)
      have HB2 := Lib.hid hb2
      clear hb2 HBw2 cq k1 k2 k3 k4 k5 k6
      go_wp2
      go_roundw
      case rel => exact ⟨k + 1, by omega, by go_num, HB2.out⟩
      case measure => simp [intOf]; omega
    · go_wp2
      go_ret
      exact ⟨rfl, hbel⟩
theorem make_debt (n : Nat) (hn : n ≤ 1048576) (w : World) :
    (Instr.makeSlice 25 (.int .i64 (n : Int)) (.int .i64 (n : Int))).run Try.prog w = .ok (.slice (some ⟨w.heap.size, 0, none⟩) n n) (w.alloc (.cells (madeCells #[.int .i64 0, .int .i64 0, .int .i64 0] (n * 3)) 67)) := by
  obtain ⟨i, hi, hzz⟩ := Option.map_eq_some_iff.1 info_debt
  simp only [Prod.mk.injEq] at hzz
  obtain ⟨hz, hs, hb⟩ := hzz
  have hr := run_make (P := Try.prog) w 25 67 i _ Try.underlying25 hi hz .i64 .i64 n n (by omega) (Int.le_refl _) (by rw [hb]; omega) (by omega)
  simp only [Int.toNat_natCast, hs] at hr
  exact hr
set_option maxRecDepth 100000 in
set_option maxHeartbeats 800000 in
theorem toDebtS_any (n : Nat) (cs : List Cu) (hl : cs.length = n) (A : Option Addr) (c : Nat) (w : World) (hr : Rd w w.heap.size A (custV cs)) (hn : n ≤ 1048576) :
    Calls Try.prog 17 #[.slice A n c] w fun e w' => ∃ A' c', e = .returned (.slice A' n c') ∧ w'.ownsRow w.heap.size 67 3 (.slice A' n c') n (custV cs) ∧ Below w.heap.size w w' := by
  have HL := Lib.hid hl
  have hmk := make_debt n hn
  clear hl
  go_enter Try.func17, Try.ntmps17
  go_wp2
  go_loopw [4] (fun i wr => ∃ k : Nat, k ≤ n ∧ i = .int .i64 k ∧ wr.ownsRow w.heap.size 67 3 (.slice (some ⟨w.heap.size, 0, none⟩) n n) n (custV (halfK cs k)) ∧ Below w.heap.size w wr) (fun i _ => n - (intOf i).toNat)
  case atStart =>
    refine ⟨0, Nat.zero_le _, rfl, ?_, (Below.refl _ _).alloc (Nat.le_refl _) _⟩
    rw [halfK_zero, HL.out]
    exact owz_custs_made w n _ (by unfold maxLen; omega)
  case round =>
    obtain ⟨k, hk, rfl, hown, hbel⟩ := hrel
    by_cases hlt : k < n
    · obtain ⟨b, off, x, d, v, rfl, hb, hz, hc, hc2, hc3⟩ := (hr.below hbel).cust_ (k := k) (by rw [HL.out]; exact hlt)
      go_wp2_with fail
      refine (toDebt_any x d v _).mono ?_
      rintro e w2 ⟨rfl, b2⟩
      have o2 := owz_below hown b2
      have hbel2 := hbel.trans (b2.mono hbel.size)
      have hlk : k < (halfK cs k).length := by rw [halfK_len _ (by rw [HL.out]; exact hk), HL.out]; exact hlt
      obtain ⟨x0, y0, z0, hq⟩ : ∃ x0 y0 z0, (halfK cs k)[k]? = some (x0, y0, z0) := ⟨_, _, _, List.getElem?_eq_getElem hlk⟩
      have hcs := custV_at hq
      have k1 := owz_cell o2 hcs.1
      have k2 := owz_cell o2 hcs.2.1
      have k3 := owz_cell o2 hcs.2.2
      have f1 := owz_frozen o2 (k * 3)
      have f2 := owz_frozen o2 (k * 3 + 1)
      have f3 := owz_frozen o2 (k * 3 + 2)
      have hput := owz_put (owz_put (owz_put o2 (k * 3) (.int .i64 x)) (k * 3 + 1) (.int .i64 d)) (k * 3 + 2) (.int .i64 v)
      rw [custV_set hlk, halfK_set (by rw [HL.out]; exact hlt) hz.out] at hput
      have HP := Lib.hid (And.intro hput (((hbel2.setCell (by simp) (.int .i64 x) (p := ⟨w.heap.size, k * 3, none⟩)).setCell (by simp) (.int .i64 d) (p := ⟨w.heap.size, k * 3 + 1, none⟩)).setCell (by simp) (.int .i64 v) (p := ⟨w.heap.size, k * 3 + 2, none⟩)))
      clear hput hown hbel hbel2 o2 b2 hcs hq hlk
      go_wp2
      go_roundw
      case rel => exact ⟨k + 1, by omega, by go_num, HP.out.1, HP.out.2⟩
      case measure => simp [intOf]; omega
    · obtain rfl : k = n := by omega
      have HA : Hid (halfK cs k = cs) := Lib.hid (by rw [← HL.out]; exact halfK_all cs)
      rw [HA.out] at hown
      go_wp2
      go_ret
      exact ⟨_, _, rfl, hown, hbel⟩
set_option maxRecDepth 100000 in
set_option maxHeartbeats 800000 in
theorem markDebtS_any (n : Nat) (cs : List Cu) (hl : cs.length = n) (A : Option Addr) (c : Nat) (w : World) (base : Nat) (h : w.ownsRow base 67 3 (.slice A n c) n (custV cs)) (k : Int) (h0 : 0 ≤ k) (h1 : k ≤ 100000000) (hn : n ≤ 1048576) :
    Calls Try.prog 23 #[.slice A n c, .int .i64 k] w fun e w' => e = .returned (.int .i64 (k + 3 * (n : Int))) ∧ w'.ownsRow base 67 3 (.slice A n c) n (custV (kmarks k n)) ∧ w.grownBy w' (Value.slice A n c).ownBlock := by
  have HL := Lib.hid hl
  have hst : w.ownsRow base 67 3 (.slice A n c) n (custV (kmarked k cs 0)) := by unfold kmarked; simpa using h
  have HST := Lib.hid hst
  clear hl hst
  go_enter Try.func23, Try.ntmps23
  go_wp2
  go_loopw [1, 5] (fun q i wr => ∃ j : Nat, j ≤ n ∧ i = .int .i64 j ∧ q = .int .i64 (k + 3 * (j : Int)) ∧ wr.ownsRow base 67 3 (.slice A n c) n (custV (kmarked k cs j)) ∧ w.grownBy wr (Value.slice A n c).ownBlock) (fun _ i _ => n - (intOf i).toNat)
  case atStart => exact ⟨0, Nat.zero_le _, rfl, by simp, HST.out, World.grownBy.refl _ _⟩
  case round =>
    clear HST
    obtain ⟨j, hj, rfl, rfl, hown, hgr⟩ := hrel
    by_cases hlt : j < n
    · obtain ⟨g, rfl, hg, hgl, _, _⟩ := owz_some (by omega) hown (by omega)
      have hjl : j < (kmarked k cs j).length := by rw [kmarked_len _ _ (by rw [HL.out]; exact hj), HL.out]; exact hlt
      obtain ⟨x0, y0, z0, hq⟩ : ∃ x0 y0 z0, (kmarked k cs j)[j]? = some (x0, y0, z0) := ⟨_, _, _, List.getElem?_eq_getElem hjl⟩
      have hcs := custV_at hq
      have k1 := owz_cell hown hcs.1
      have k2 := owz_cell hown hcs.2.1
      have k3 := owz_cell hown hcs.2.2
      have f1 := owz_frozen hown (j * 3)
      have f2 := owz_frozen hown (j * 3 + 1)
      have f3 := owz_frozen hown (j * 3 + 2)
      have hput := owz_put (owz_put (owz_put hown (j * 3) (.int .i64 (k + 3 * (j : Int)))) (j * 3 + 1) (.int .i64 (k + 3 * (j : Int) + 1))) (j * 3 + 2) (.int .i64 (k + 3 * (j : Int) + 2))
      rw [custV_set hjl, kmarked_set (by rw [HL.out]; exact hlt)] at hput
      have hgg := only_cellsK (only_cellsK (only_cellsK hgr (j * 3) (.int .i64 (k + 3 * (j : Int)))) (j * 3 + 1) (.int .i64 (k + 3 * (j : Int) + 1))) (j * 3 + 2) (.int .i64 (k + 3 * (j : Int) + 2))
      have HP := Lib.hid (And.intro hput hgg)
      have s1 : k + 3 * (j : Int) + 1 + 1 = k + 3 * (j : Int) + 2 := by omega
      clear hput hown hgr hcs hq hgg hjl
      go_wp2
      go_roundw
      case rel => exact ⟨j + 1, by omega, by go_num, by first | go_num | (congr 1; omega), by first | exact HP.out.1 | (have := HP.out.1; rw [s1]; exact this), by first | exact HP.out.2 | (have := HP.out.2; rw [s1]; exact this)⟩
      case measure => simp [intOf]; omega
    · obtain rfl : j = n := by omega
      have R : kmarked k cs j = kmarks k j := by
        unfold kmarked
        rw [HL.out, List.take_of_length_le (by rw [kmarks_len]; exact Nat.le_refl _), List.drop_of_length_le (by rw [HL.out]; exact Nat.le_refl _), List.append_nil]
      rw [R] at hown
      clear R
      go_wp2
      go_ret
      exact ⟨rfl, hown, hgr⟩
theorem cellsDebt : Try.prog.cellsOf 69 = 3 := by kernel_rfl
namespace Opn
open Go.ChangeShapes Go.WideShapes Go.ChangeAt Go.RowKit
set_option maxRecDepth 100000 in
set_option maxHeartbeats 400000 in
/-- one customer, read at its three cells -/
theorem debt_cells {H : Type} {enc : TypeId × Value → H} {W : World} {base n : Nat} {held : Bool} {sp : Nat → Bool} {a : Addr} {vs : List Value} {x : DataW H × List MemPlace} (hc : W.cells? base a (Try.prog.cellsOf 69) = some vs) (h : DataW.trod enc Try.prog W base sp held n 69 vs = some x) :
    ∃ p q r : Int, W.cell? a = some (.int .i64 p) ∧ W.cell? (a.add 1) = some (.int .i64 q) ∧ W.cell? (a.add 2) = some (.int .i64 r) := by
  obtain ⟨y0, y1, y2, m, _, hl, g0, g1, g2⟩ := Go.Deep.trod_struct3 Try.underlying69 h
  rw [cellsDebt] at hc hl
  obtain ⟨_, hlen, hcell⟩ := World.cells?_some hc
  match vs, hlen with
  | [v0, v1, v2], _ =>
    have e0 := hcell 0 (by omega)
    have e1 := hcell 1 (by omega)
    have e2 := hcell 2 (by omega)
    simp [cellsIntK] at g0 g1 g2
    obtain ⟨p, hp, _, _⟩ := DataW.trod_int Try.underlying3 g0
    obtain ⟨q, hq, _, _⟩ := DataW.trod_int Try.underlying3 g1
    obtain ⟨r, hr, _, _⟩ := DataW.trod_int Try.underlying3 g2
    simp only [List.cons.injEq, and_true] at hp hq hr
    subst hp hq hr
    exact ⟨p, q, r, by simpa [Addr.add] using e0, by simpa using e1, by simpa using e2⟩
set_option maxRecDepth 100000 in
set_option maxHeartbeats 400000 in
/-- An argument that is a list of customers. -/
theorem open_rdD {H : Type} {enc : TypeId × Value → H} {W : World} {base : Nat} {v : Value} {d : DataW H} {p : List MemPlace} (ht : Try.prog.underlying 22 = some (.slice 69))
    (hval : Value.okWide Try.prog W .any base 22 v) (h : DataW.Trod enc Try.prog W 0 (fun _ => true) true 22 v d p) :
    ∃ (A : Option Addr) (c : Nat) (cs : List Cu), v = .slice A cs.length c ∧ Rd W W.heap.size A (custV cs) ∧ (cs.length ≤ c ∧ c ≤ maxLen) := by
  obtain ⟨a1, len, cap, rfl⟩ := okWide_slice ht hval
  obtain ⟨fuel, hf⟩ := h
  rcases Go.Deep.open_slice ht hf with ⟨hcs, _⟩ | ⟨a, len', cap', m, n, D, Pl, hcs, _, hl, hm, hmm, _, hx⟩
  · simp [Value.cells] at hcs
    obtain ⟨rfl, rfl, rfl⟩ := hcs
    exact ⟨none, 0, [], rfl, Rd.nil_, ⟨Nat.zero_le _, Nat.zero_le _⟩⟩
  · simp [Value.cells] at hcs
    obtain ⟨rfl, rfl, rfl⟩ := hcs
    simp only [if_true] at hmm
    subst hmm
    have hex : ∀ i, ∃ t : Cu, i < len → W.cell? (a.add (i * 3)) = some (.int .i64 t.1) ∧ W.cell? (a.add (i * 3 + 1)) = some (.int .i64 t.2.1) ∧ W.cell? (a.add (i * 3 + 2)) = some (.int .i64 t.2.2) := fun i => by
      by_cases hi : i < len
      · obtain ⟨vs, h1, h2⟩ := hx i (by omega)
        obtain ⟨p, q, r, e0, e1, e2⟩ := debt_cells h1 h2
        rw [cellsDebt] at e0 e1 e2
        rw [Go.Deep.add_add] at e1 e2
        exact ⟨(p, q, r), fun _ => ⟨e0, e1, e2⟩⟩
      · exact ⟨(0, 0, 0), fun h => absurd h hi⟩
    obtain ⟨V, hcell⟩ : ∃ V : Nat → Cu, ∀ i, i < len → W.cell? (a.add (i * 3)) = some (.int .i64 (V i).1) ∧ W.cell? (a.add (i * 3 + 1)) = some (.int .i64 (V i).2.1) ∧ W.cell? (a.add (i * 3 + 2)) = some (.int .i64 (V i).2.2) := ⟨fun i => Classical.choose (hex i), fun i hi => Classical.choose_spec (hex i) hi⟩
    clear hex
    refine ⟨some a, m, (List.range len).map (fun i => ((V i).1, (V i).2.1, (V i).2.2)), by simp, fun hn => ?_, ⟨by simpa using hl, hm⟩⟩
    have hpos : 0 < len := by
      rcases Nat.eq_zero_or_pos len with h0 | h0
      · subst h0; simp [custV] at hn
      · exact h0
    obtain ⟨ab, ao, spot⟩ := a
    have hspot : spot = none := by simpa [Addr.add] using World.cell?_spot (hcell 0 hpos).1
    subst hspot
    refine ⟨ab, ao, rfl, cell_block (a := ⟨ab, ao, none⟩) (by simpa [Addr.add] using (hcell 0 hpos).1), fun j x hj => ?_⟩
    have hjl : j < len * 3 := by
      have := (List.getElem?_eq_some_iff.1 hj).1
      rw [custV_len] at this
      simpa using this
    have hk : j / 3 < len := by omega
    have hat := custV_at (cs := (List.range len).map (fun i => ((V i).1, (V i).2.1, (V i).2.2))) (k := j / 3) (x := (V (j / 3)).1) (d := (V (j / 3)).2.1) (v := (V (j / 3)).2.2) (by rw [List.getElem?_map, List.getElem?_range hk]; rfl)
    have hc := hcell (j / 3) hk
    rw [Addr.add_lit, Addr.add_lit, Addr.add_lit] at hc
    have h2 : j % 3 = 0 ∨ j % 3 = 1 ∨ j % 3 = 2 := by omega
    rcases h2 with h2 | h2 | h2
    · rw [show j / 3 * 3 = j by omega] at hat hc
      rw [hat.1] at hj
      rw [← hj]
      exact hc.1
    · rw [show j / 3 * 3 + 1 = j by omega] at hat hc
      rw [hat.2.1] at hj
      rw [← hj]
      exact hc.2.1
    · rw [show j / 3 * 3 + 2 = j by omega] at hat hc
      rw [hat.2.2] at hj
      rw [← hj]
      exact hc.2.2
end Opn

end Go.Proofs.Ytiihenhddleooab

/- Contracts of chapter 2: a pond that grows. -/
import Derived.StillTailTactics
import Derived.Test.YtggdnpaiaijhgaaMats
import Derived.Test.YtggdnpaiaijhgaaPonds
namespace Go.Proofs.Ytggdnpaiaijhgaa
open Go.RowKit
set_option linter.unusedVariables false
set_option linter.unusedSimpArgs false
def growRow (zs row : List Int) : List Int := row.map (fun t => rt (runF (t * t) zs))
def growF (pp : List (List Int)) (zs : List Int) : List (List Int) := pp.map (growRow zs)
def growT (pp : List (List Int)) (zs : List Int) : List (List Int) := if pondB pp && tempsB zs then growF pp zs else []
theorem growRow_len (zs row : List Int) : (growRow zs row).length = row.length := by simp [growRow]
theorem growRow_at {zs row : List Int} {k : Nat} {t : Int} (h : row[k]? = some t) : (growRow zs row)[k]? = some (rt (runF (t * t) zs)) := by
  unfold growRow; rw [List.getElem?_map, h]; rfl
theorem growF_len (pp : List (List Int)) (zs : List Int) : (growF pp zs).length = pp.length := by simp [growF]
theorem growF_at {pp : List (List Int)} {zs : List Int} {k : Nat} {r : List Int} (h : pp[k]? = some r) : (growF pp zs)[k]? = some (growRow zs r) := by
  unfold growF; rw [List.getElem?_map, h]; rfl
theorem growT_no {pp : List (List Int)} {zs : List Int} (h : (pondB pp && tempsB zs) = false) : growT pp zs = [] := by unfold growT; rw [h]; rfl
theorem growT_ok {pp : List (List Int)} {zs : List Int} (h : pondB pp = true) (g : tempsB zs = true) : growT pp zs = growF pp zs := by unfold growT; rw [h, g]; rfl
theorem sq_in {t : Int} (h0 : 0 ≤ t) (h1 : t ≤ 999) : 0 ≤ t * t ∧ t * t ≤ 998001 := by
  have h := Int.mul_le_mul h1 h1 h0 (show (0 : Int) ≤ 999 by omega)
  exact ⟨Int.mul_nonneg h0 h0, by omega⟩
def gcop (l : List Int) (k j : Nat) : Value := .int .i64 (if j < k then at_ l j else 0)
theorem gcop_step {w : World} {g n : Nat} {l : List Int} {k : Nat} {T : TypeId} (h : w.rowIs g T n (gcop l k)) : (w.setCell ⟨g, k, none⟩ (.int .i64 (at_ l k))).rowIs g T n (gcop l (k + 1)) := by
  refine (h.set k (.int .i64 (at_ l k))).congr fun j hj => ?_
  unfold gcop
  by_cases e : j = k
  · subst e
    simp
  · rw [if_neg e]
    by_cases hlt : j < k
    · rw [if_pos hlt, if_pos (by omega)]
    · rw [if_neg hlt, if_neg (by omega)]
theorem gcop_all {w : World} {base g n : Nat} {l : List Int} {T : TypeId} (hl : l.length = n) (h : w.rowIs g T n (gcop l n)) (hb : base ≤ g) (hn : n ≤ maxLen) :
    w.ownsRow base T 1 (.slice (some ⟨g, 0, none⟩) n n) n (ints l) :=
  own_of_row h (by rw [ints_length]; exact hl) (fun i hi => by rw [ints_at' (by omega)]; unfold gcop; rw [if_pos hi]) hb hn
set_option maxRecDepth 100000 in
set_option maxHeartbeats 1000000 in
theorem iGrowRow_any (n : Nat) (row zs : List Int) (hl : row.length = n) (A Az : Option Addr) (c cz : Nat) (w : World) (hr : Rd w w.heap.size A (ints row)) (hrz : Rd w w.heap.size Az (ints zs)) (hn : n ≤ 9) (hb : ∀ t ∈ row, 0 ≤ t ∧ t ≤ 999) (ht : tempsB zs = true) :
    Calls Try.prog 125 #[.slice A n c, .slice Az zs.length cz] w (OutI (growRow zs row) w) := by
  have HL := Lib.hid hl
  have HB : Hid (∀ (k : Nat) (t : Int), row[k]? = some t → 0 ≤ t ∧ t ≤ 999) := Lib.hid fun k t h => hb t (List.mem_of_getElem? h)
  have HRun : Hid (∀ (w' : World) (m : Int), Below w.heap.size w w' → 0 ≤ m → m ≤ 998001 → Calls Try.prog 140 #[.int .i64 m, .slice Az zs.length cz] w' fun e w'' => e = .returned (.int .i64 (runF m zs)) ∧ w' = w'') := Lib.hid fun w' m hb h0 h1 => by
    have := iRunIce_any zs Az cz w' _ (hrz.below hb) m
    rw [runT_ok (inB_mk ⟨h0, h1⟩) ht] at this
    exact this
  have HRR : Hid (∀ m, 0 ≤ m → m ≤ 998001 → 0 ≤ runF m zs ∧ runF m zs ≤ 998001) := Lib.hid fun m h0 h1 => runF_range m h0 h1 zs
  clear hb ht hl
  have hmk := run_make_row' (P := Try.prog) 37 3 (.int .i64 0) 8 Try.underlying37 info_int rfl .i64 .i64 n (by omega) (by omega)
  go_enter Try.func125, Try.ntmps125
  go_wp2
  go_loopw [13] (fun i wr => ∃ k : Nat, k ≤ n ∧ i = .int .i64 k ∧ wr.rowIs w.heap.size 3 n (gcop (growRow zs row) k) ∧ Below w.heap.size w wr) (fun i _ => n - (intOf i).toNat)
  case atStart =>
    refine ⟨0, Nat.zero_le _, rfl, (World.rowIs_made w (.int .i64 0) n 3).congr fun j hj => ?_, (Below.refl _ _).alloc (Nat.le_refl _) _⟩
    unfold gcop
    rw [if_neg (by omega)]
  case round =>
    obtain ⟨k, hk, rfl, hrow, hbel⟩ := hrel
    by_cases hlt : k < n
    · obtain ⟨b, off, t, rfl, hb, hz, hc⟩ := (hr.below hbel).int_ (k := k) (by rw [HL.out]; exact hlt)
      have ht := HB.out k t hz.out
      have hsq := sq_in ht.1 ht.2
      have hrr := HRR.out _ hsq.1 hsq.2
      have hc2 := hrow.cell hlt
      have hf2 := hrow.frozen k
      have hat : at_ (growRow zs row) k = rt (runF (t * t) zs) := by unfold at_; rw [List.getD_eq_getElem?_getD, growRow_at hz.out]; rfl
      have hst := gcop_step hrow
      rw [hat] at hst
      have HST := Lib.hid (And.intro hst (hbel.setCell (by simp) (.int .i64 (rt (runF (t * t) zs))) (p := ⟨w.heap.size, k, none⟩)))
      have HC := Lib.hid (HRun.out wr (t * t) hbel hsq.1 hsq.2)
      clear hst hat hrow hbel hz
      go_wp2_with fail
      refine (HC.out).mono ?_
      rintro e w' ⟨rfl, rfl⟩
      go_wp2_with fail
      refine (iThickOf_any _ hrr.1 hrr.2 _).mono ?_
      rintro e w' ⟨rfl, rfl⟩
      go_wp2
      go_roundw
      case rel => exact ⟨k + 1, by omega, by go_num, HST.out.1, HST.out.2⟩
      case measure => simp [intOf]; omega
    · obtain rfl : k = n := by omega
      have R := out_mk (l := growRow zs row) (by rw [growRow_len, HL.out]) (gcop_all (by rw [growRow_len, HL.out]) hrow (Nat.le_refl _) (by unfold maxLen; omega)) hbel
      have HR := Lib.hid R
      clear R hrow hbel
      go_wp2
      go_ret
      exact HR.out
def OutGr (pp : List (List Int)) (w : World) (e : Ending) (w' : World) : Prop := ∃ A c xs, e = .returned (.slice A pp.length c) ∧ OwnG w' w.heap.size w'.heap.size A pp.length c xs pp ∧ Below w.heap.size w w'
theorem outGr_nil (w : World) : OutGr [] w (.returned (.slice none 0 0)) w :=
  ⟨none, 0, [], rfl, ⟨⟨rfl, .inl ⟨rfl, rfl⟩⟩, rfl, fun k r h => by simp at h, fun i j u v b h => by simp at h, fun i u b h => by simp at h, fun i u b h => by simp at h, fun b h => by cases h⟩, Below.refl _ _⟩
theorem vTm_is {q : Bool} {zs : List Int} {A : Option Addr} {c : Nat} {w : World} {B : Nat} (hr : Rd w B A (ints zs)) (h : tempsB zs = q) :
    Calls Try.prog 95 #[.slice A zs.length c] w fun e w' => e = .returned (.bool q) ∧ w = w' := by
  have := validTemps_any zs A c w B hr
  rw [h] at this
  exact this
theorem vHr_is {q : Bool} {zs : List Int} {A : Option Addr} {c : Nat} {w : World} {B : Nat} (hr : Rd w B A (ints zs)) (h : tempsB zs = q) :
    Calls Try.prog 87 #[.slice A zs.length c] w fun e w' => e = .returned (.bool q) ∧ w = w' := by
  have := validHours_any zs A c w B hr
  rw [h] at this
  exact this
set_option maxRecDepth 100000 in
set_option maxHeartbeats 1000000 in
theorem iGrow_any (pp : List (List Int)) (zs : List Int) (A Az : Option Addr) (c cz : Nat) (w : World) (hg : RdG w w.heap.size A pp) (hrz : Rd w w.heap.size Az (ints zs)) :
    Calls Try.prog 98 #[.slice A pp.length c, .slice Az zs.length cz] w (OutGr (growT pp zs) w) := by
  cases hv : pondB pp
  · rw [growT_no (by rw [hv]; rfl)]
    have Hv := Lib.hid hv
    clear hv
    go_enter Try.func98, Try.ntmps98
    go_wp2_with (go_at_call 56; refine (iVal_is _ _ _ _ _ hg Hv.out).mono ?_; rintro e w' ⟨rfl, rfl⟩)
    go_ret
    exact outGr_nil w
  cases ht : tempsB zs
  · rw [growT_no (by rw [ht, Bool.and_false])]
    have Hv := Lib.hid hv
    have Ht := Lib.hid ht
    clear hv ht
    go_enter Try.func98, Try.ntmps98
    go_wp2_with (first | (go_at_call 56; refine (iVal_is _ _ _ _ _ hg Hv.out).mono ?_; rintro e w' ⟨rfl, rfl⟩) | (go_at_call 95; refine (vTm_is hrz Ht.out).mono ?_; rintro e w' ⟨rfl, rfl⟩))
    go_ret
    exact outGr_nil w
  rw [growT_ok hv ht]
  have hl := pond_len hv
  have hwd := pond_wide hv
  have HROW : Hid (∀ (k : Nat) (r : List Int), pp[k]? = some r → r.length ≤ 9 ∧ ∀ t ∈ r, 0 ≤ t ∧ t ≤ 999) := Lib.hid fun k r h => ⟨(pond_row hv h).2.2.1, (pond_row hv h).2.2.2⟩
  have Hv := Lib.hid hv
  have Ht := Lib.hid ht
  have HGL := Lib.hid (growF_len pp zs)
  clear hv ht
  have hmk := run_make_row' (P := Try.prog) 22 37 (.slice none 0 0) 24 Try.underlying22 info_ints rfl .i64 .i64 pp.length (by omega) (by omega)
  go_enter Try.func98, Try.ntmps98
  go_wp2_with (first | (go_at_call 56; refine (iVal_is _ _ _ _ _ hg Hv.out).mono ?_; rintro e w' ⟨rfl, rfl⟩) | (go_at_call 95; refine (vTm_is hrz Ht.out).mono ?_; rintro e w' ⟨rfl, rfl⟩))
  go_loopw [21] (fun i wr => ∃ (k : Nat) (xs : List Value), k ≤ pp.length ∧ i = .int .i64 k ∧ CopG w wr pp.length k xs (growF pp zs)) (fun i _ => pp.length - (intOf i).toNat)
  case atStart =>
    exact ⟨0, _, Nat.zero_le _, rfl, own_made w (.slice none 0 0) pp.length 37 (by unfold maxLen; omega), fun j r h => by omega, fun i j u v b h => by omega, fun i u b h => by omega, (Below.refl _ _).alloc (Nat.le_refl _) _, by simp⟩
  case round =>
    obtain ⟨k, xs, hk, rfl, hcop⟩ := hrel
    have HC := Lib.hid hcop
    have hbel := hcop.bel
    by_cases hlt : k < pp.length
    · obtain ⟨b, off, row, A', c', rfl, hb, hrow, hc, hrc, hcm, hr⟩ := (hg.below hbel).row_ hlt
      have hrr := hr.more hbel.size
      have hrzz := (hrz.below hbel).more hbel.size
      have hrl := HROW.out k row hrow.out
      have hcall := iGrowRow_any row.length row zs rfl A' Az c' cz wr hrr hrzz hrl.1 hrl.2 Ht.out
      have HLR := Lib.hid (growRow_len zs row)
      clear hcop hr hrr hrzz
      go_wp2_with fail
      refine hcall.mono ?_
      rintro e w2 ⟨A2, c2, rfl, o2, b2⟩
      have hstep := HC.out.step hlt (growF_at hrow.out) o2 b2
      have HSt := Lib.hid hstep
      have hfz : w2.frozen? ⟨w.heap.size, k, none⟩ = false := own_frozen (own_below HC.out.out b2) k
      have hcl2 := own_cell (own_below HC.out.out b2) (k := k) (x := xs[k]'(by have := HC.out.out.1; omega)) (List.getElem?_eq_getElem _)
      clear hstep o2 b2 hcall
      go_wp2
      go_roundw
      case rel => exact ⟨k + 1, _, by omega, by go_num, HSt.out⟩
      case measure => simp [intOf]; omega
    · obtain rfl : k = pp.length := by omega
      have R : OutGr (growF pp zs) w (.returned (.slice (some ⟨w.heap.size, 0, none⟩) pp.length pp.length)) wr := ⟨_, pp.length, xs, by rw [HGL.out], by rw [HGL.out]; exact hcop.done HGL.out, hbel⟩
      have HR := Lib.hid R
      clear R hcop hbel
      go_wp2
      go_ret
      exact HR.out

end Go.Proofs.Ytggdnpaiaijhgaa

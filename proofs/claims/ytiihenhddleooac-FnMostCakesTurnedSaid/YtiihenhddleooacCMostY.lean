/- Contracts of chapter 3's model: the most cakes of a small field, the model (a cell that holds a cake; all cells). -/
import Derived.Deep.AppendSrc
import Derived.Deep.Upon
import Derived.Test.YtiihenhddleooacCMostS
namespace Go.Proofs.Ytiihenhddleooac
open Go.RowKit
set_option linter.unusedVariables false
set_option linter.unusedSimpArgs false
theorem oneCell_boolsY {bs : List Bool} : ∀ v ∈ bools bs, v.oneCell' = true := fun v hv => by
  rw [bools, List.mem_map] at hv
  obtain ⟨b, _, rfl⟩ := hv
  rfl
theorem max_is {R S : Int} : max R (1 + S) = if R < 1 + S then 1 + S else R := by
  split <;> omega
set_option maxRecDepth 100000 in
set_option maxHeartbeats 8000000 in
theorem sMost_yes (cw ch : Nat) (hw : 1 ≤ cw ∧ cw ≤ 4) (hh : 1 ≤ ch ∧ ch ≤ 4) (ff : List (List Bool)) (n W M a X Y : Nat) (R R2 : Int) (hR : 0 ≤ R ∧ R ≤ 1000) (hR2 : 0 ≤ R2 ∧ R2 ≤ 1000) (hn : ff.length = n) (hW : wideB ff = W) (hM : n * W = M) (hv : fieldB ff = true) (h5 : n ≤ 5) (w5 : W ≤ 5) (ha : a < M) (hX : a % W = X) (hY : a / W = Y)
    (A : Option Addr) (c : Nat) (w : World) (q3 : n ≤ c) (q4 : c ≤ maxLen) (hg : RdF w w.heap.size A ff) (hno : wholeB ff cw ch X Y = true)
    (hi : Calls Try.prog 35 #[.slice A n c, .int .i64 (cw : Nat), .int .i64 (ch : Nat), .int .i64 ((a : Int) + 1)] w fun e w' => e = .returned (.int .i64 R) ∧ Below w.heap.size w w')
    (hj : ∀ (A' : Option Addr) (c' : Nat) (w' : World), n ≤ c' → c' ≤ maxLen → RdF w' w'.heap.size A' (clr ff (mS cw X Y ch)) → Calls Try.prog 35 #[.slice A' n c', .int .i64 (cw : Nat), .int .i64 (ch : Nat), .int .i64 ((a : Int) + 1)] w' fun e w'' => e = .returned (.int .i64 R2) ∧ Below w'.heap.size w' w'') :
    Calls Try.prog 35 #[.slice A n c, .int .i64 (cw : Nat), .int .i64 (ch : Nat), .int .i64 (a : Nat)] w fun e w' => e = .returned (.int .i64 (if R < 1 + R2 then 1 + R2 else R)) ∧ Below w.heap.size w w' := by
  have hf : Fld w w.heap.size A ff := ⟨hv, hg⟩
  obtain ⟨b, off, A0, c0, rfl, hb, h0⟩ := hf.row0
  have hl := field_len hv
  have hwd := field_wide hv
  have hM5 : n * W ≤ 5 * 5 := Nat.mul_le_mul h5 w5
  have em : IntKind.i64.wrap ((n : Int) * (W : Int)) = (M : Int) := by
    rw [← Int.natCast_mul, hM]
    exact IntWalk.i64_in _ (by omega)
  rw [hn] at hl
  rw [hW] at hwd h0
  have t1 : Int.tdiv (a : Int) (W : Int) = (Y : Int) := by rw [← hY]; exact (Int.ofNat_tdiv a W).symm
  have t2 : Int.tmod (a : Int) (W : Int) = (X : Int) := by rw [← hX]; exact (Int.ofNat_tmod a W).symm
  have hXl : X < W := by rw [← hX]; exact Nat.mod_lt _ (by omega)
  have hYl : Y < n := by rw [← hY]; exact Nat.div_lt_of_lt_mul (by rw [Nat.mul_comm, hM]; exact ha)
  have hwb := (wholeB_iff.1 hno).1.2
  rw [hW] at hwb
  have hwh : Y + ch ≤ n := by rw [← hn]; exact (wholeB_iff.1 hno).1.1
  have HZ := Lib.hid (hole_zero hv X Y cw)
  rw [hn, hW] at HZ
  have HEND := Lib.hid (hole_end (ff := ff) (x := X) (y := Y) (w := cw) (h := ch) (by rw [hW]; exact w5) (by rw [hW]; exact hwb))
  rw [hn, hW] at HEND
  have HRW : Hid (∀ (k : Nat) (r : List Bool), ff[k]? = some r → r.length = W) := Lib.hid fun k r h => by rw [← hW]; exact (field_row hv h).1
  have HLN := Lib.hid hn
  have HI := Lib.hid hi
  have HJ := Lib.hid hj
  clear hi hj
  have hne : ((a : Int) == (M : Int)) = false := beq_eq_false_iff_ne.2 (by omega)
  have ea : IntKind.i64.wrap ((a : Int) + 1) = (a : Int) + 1 := IntWalk.i64_in _ (by omega)
  have HH : Hid (∀ w', Below w.heap.size w w' → Calls Try.prog 56 #[.slice (some ⟨b, off, none⟩) n c, .int .i64 (X : Nat), .int .i64 (Y : Nat), .int .i64 (cw : Nat), .int .i64 (ch : Nat)] w' fun e w'' => e = .returned (.bool true) ∧ w' = w'') := Lib.hid fun w' hb' => by
    have := sHolds_any ff (some ⟨b, off, none⟩) c w' w'.heap.size (hf.up hb') cw ch X Y hw hh (by omega) (by omega)
    rw [hno, hn] at this
    exact this
  obtain ⟨i0, hi, hz0, hz1, hz2⟩ := info_parts info_bool
  obtain ⟨j0, hj, hy0, hy1, hy2⟩ := info_parts info_boolss
  obtain ⟨hR1, hR3⟩ := hR
  obtain ⟨hS1, hS3⟩ := hR2
  clear hM hW hX hY hno
  go_enter Try.func35, Try.ntmps35
  go_wp2_with fail
  refine (HI.out).mono ?_
  rintro e w2 ⟨rfl, b2⟩
  have h0' := (b2.cell (p := ⟨b, off, none⟩) hb).trans h0
  have hg2 := hg.below b2
  have hc := HH.out w2 b2
  go_wp2_with fail
  refine (hc).mono ?_
  rintro e w3 ⟨rfl, rfl⟩
  have hz20 := b2.size
  have HB2 := Lib.hid b2
  clear h0 b2 hf
  go_wp2
  go_loopw [12, 13] (fun v i wr => ∃ (y : Nat) (xs : List Value), y ≤ n ∧ i = .int .i64 y ∧ PF wr w2.heap.size v y xs (ff.take y) ∧ Below w2.heap.size w2 wr) (fun _ i _ => n - (intOf i).toNat)
  case atStart => exact ⟨0, [], Nat.zero_le _, rfl, ⟨own_empty w2 _, rfl, fun k r hr => by simp at hr, fun i j u v b hu => by simp at hu, fun i u b hu => by simp at hu⟩, (Below.refl _ _).alloc (Nat.le_refl _) _⟩
  case round =>
    obtain ⟨y, xs, hyl, rfl, hpg, hbel⟩ := hrel
    have hsz := hbel.size
    have HBEL := Lib.hid hbel
    have h02 := (hbel.cell (p := ⟨b, off, none⟩) (Nat.lt_of_lt_of_le hb hz20)).trans h0'
    by_cases hlt : y < n
    · obtain ⟨b3, off', row, A', c', e, hb3, hrow, hc3, hrc, hcm, hr⟩ := (hg2.below (hbel.mono (by omega))).row_ (by rw [HLN.out]; exact hlt)
      injection e with e
      injection e with e1 e2
      subst e1 e2
      have hrr : Rd wr wr.heap.size A' (bools row) := hr.more (by omega)
      have hrl := HRW.out y row hrow.out
      have HSN := Lib.hid (take_snoc hrow.out)
      have HLL := Lib.hid hrl
      rw [hrl] at hc3 hrc
      have HPG := Lib.hid hpg
      have HRR := Lib.hid hrr
      have hbw : b < wr.heap.size := by omega
      have hbn : ¬ b = wr.heap.size := by omega
      have hbn2 : ¬ wr.heap.size = b := by omega
      clear hr hrl hpg hbel hrow hrr
      go_wp2_with (at_builtin; refine push_any rfl _ _ 27 rfl wr.heap.size 4 i0 (.bool false) 1 Try.underlying27 hi hz0 hz1 hz2 rfl _ _ _ rfl (own_empty wr 4) _ _ _ wr.heap.size (bools row) rfl (HRR.out.alloc (Nat.le_refl _) _) (by rw [bools, List.length_map]; exact HLL.out) oneCell_boolsY (by unfold maxLen; omega) (by omega) (by simp) ?_)
      intro v5 w5 hown5 hgrow5
      have hb5 : Below wr.heap.size wr w5 := ((Below.refl _ _).alloc (Nat.le_refl _) (.cells #[] 4)).grown hgrow5 (by simp) (own_block (own_empty wr 4))
      have hown6 : w5.ownsRow wr.heap.size 4 1 v5 W (bools row) := by simpa using hown5
      obtain ⟨A6, c6, rfl⟩ := own_form hown6
      have hpg5 := HPG.out.below hb5
      have hbel5 := HBEL.out.trans (hb5.mono hsz)
      have hs5 := hb5.size
      have HX := Lib.hid (And.intro hpg5 (And.intro hbel5 hown6))
      clear hown5 hgrow5 hown6 hb5 hpg5 hbel5
      go_wp2_with (at_builtin; refine wpList_append_own _ rfl _ _ 23 rfl (w2.heap.size) 27 j0 (.slice none 0 0) 1 24 Try.underlying23 hj hy0 hy1 hy2 rfl (by decide) _ _ _ rfl (HX.out.1.out.alloc _) ⟨w5.heap.size, 0, none⟩ 1 1 [.slice A6 W c6] rfl rfl (one_new _ _ _ _ rfl) (fun u hu => by simp at hu; subst hu; rfl) (by unfold maxLen; omega) (by omega) (by simp; omega) ?_)
      intro v' w7 hown' hgrow _
      have hob := own_block HX.out.1.out
      have hrow3 : (w5.alloc (.cells #[.slice A6 W c6] 27)).ownsRow wr.heap.size 4 1 (.slice A6 row.length c6) row.length (bools row) := by rw [HLL.out]; exact own_alloc HX.out.2.2 _
      have hpg7 := (HX.out.1.below ((Below.refl _ _).alloc (Nat.le_refl _) (.cells #[.slice A6 W c6] 27))).push hrow3 hsz HPG.out.hi_ hgrow (by rw [HLL.out]; exact hown')
      rw [← HSN.out] at hpg7
      have hb7 : Below w2.heap.size w2 w7 := (HX.out.2.1.alloc (by omega) (.cells #[.slice A6 W c6] 27)).grown hgrow (by simp; omega) hob
      have HP := Lib.hid (And.intro hpg7 hb7)
      clear hown' hgrow hpg7 hb7 hrow3 hob
      go_wp2
      go_roundw
      case rel => exact ⟨y + 1, _, by omega, by go_num, HP.out.1, HP.out.2⟩
      case measure => simp [intOf]; omega
    · obtain rfl : n = y := by omega
      rw [show ff.take n = ff by rw [← HLN.out, List.take_length]] at hpg
      rw [← HZ.out] at hpg
      obtain ⟨Av, cv, rfl⟩ := own_form hpg.out
      obtain ⟨gv, rfl, hgv1, hgv2, hcv1, hcv2⟩ := own_some hpg.out (by omega)
      obtain ⟨wy, hwy⟩ : ∃ wy, wy = wr := ⟨_, rfl⟩
      rw [← hwy] at hpg hbel ⊢
      have HPG := Lib.hid (And.intro hpg hbel)
      have HWY := Lib.hid hwy
      clear hpg hbel hwy HBEL h02
      have hb2y := HPG.out.2.size
      go_wp2
      go_loopw [14, 15] (fun jj _ wr => ∃ K j : Nat, K = Y + j ∧ j ≤ ch ∧ jj = .int .i64 K ∧ PF wr w2.heap.size (.slice (some ⟨gv, 0, none⟩) n cv) n xs (fldF n W (holeF ff X Y cw j 0)) ∧ Below w2.heap.size w2 wr) (fun jj _ _ => (Y + ch) - (intOf jj).toNat)
      case atStart => exact ⟨Y, 0, rfl, Nat.zero_le _, rfl, HPG.out.1, HPG.out.2⟩
      case round =>
        clear HPG
        obtain ⟨K, j, hK, hj, rfl, hpf, hbel⟩ := hrel
        have HKJ := Lib.hid hK
        by_cases hjc : j < ch
        · have hKi : (K : Int) < (Y : Int) + (ch : Int) := by omega
          have hKn : K < n := by omega
          have HPF := Lib.hid (And.intro hpf hbel)
          obtain ⟨wo, hwo⟩ : ∃ wo, wo = wr := ⟨_, rfl⟩
          have HWO := Lib.hid hwo
          clear hpf hbel hK hwo
          go_wp2
          go_loopw [15] (fun ii wi => ∃ I i : Nat, I = X + i ∧ i ≤ cw ∧ ii = .int .i64 I ∧ PF wi w2.heap.size (.slice (some ⟨gv, 0, none⟩) n cv) n xs (fldF n W (holeF ff X Y cw j i)) ∧ Below w2.heap.size w2 wi) (fun ii _ => (X + cw) - (intOf ii).toNat)
          case atStart => exact ⟨X, 0, rfl, Nat.zero_le _, rfl, HPF.out.1, HPF.out.2⟩
          case round =>
            clear HPF
            obtain ⟨I, i, hI, hi9, rfl, hpf, hbel⟩ := hrel
            have HII := Lib.hid hI
            by_cases hic : i < cw
            · have hIi : (I : Int) < (X : Int) + (cw : Int) := by omega
              have hIW : I < W := by omega
              have hrow9 : (fldF n W (holeF ff X Y cw j i))[K]? = some ((List.range W).map (holeF ff X Y cw j i K)) := fldF_row hKn
              have hrl9 : ((List.range W).map (holeF ff X Y cw j i K)).length = W := by simp
              have hq9 : ((List.range W).map (holeF ff X Y cw j i K))[I]? = some (holeF ff X Y cw j i K I) := by rw [List.getElem?_map, List.getElem?_range hIW]; rfl
              obtain ⟨g9, c9, hx9, hg9, hg9b, hc9, hc9b, hcell9, hfz9⟩ := hpf.cellAt hrow9 hq9
              have hcv9 := owz_cell hpf.out hx9
              have hst9 := hpf.store (i := I) hrow9 hx9 false
              have hstep : (fldF n W (holeF ff X Y cw j i)).set K (((List.range W).map (holeF ff X Y cw j i K)).set I false) = fldF n W (holeF ff X Y cw j (i + 1)) := by
                rw [HKJ.out, HII.out]
                exact hole_step (by rw [← HKJ.out]; exact hKn)
              rw [hstep] at hst9
              rw [hrl9] at hcv9 hc9
              have hbs9 := hbel.setCell (p := ⟨g9, I, none⟩) hg9 (.bool false)
              have HP9 := Lib.hid (And.intro hst9 hbs9)
              generalize holeF ff X Y cw j i K I = q9 at *
              clear hst9 hbs9 hstep hrow9 hrl9 hq9 hx9 hpf hbel hI
              go_wp2
              go_roundw
              case rel => exact ⟨I + 1, i + 1, by have := HII.out; omega, by omega, by go_num, HP9.out.1, HP9.out.2⟩
              case measure => first | (simp [intOf]; omega) | simp [intOf]
            · obtain rfl : i = cw := by omega
              have hIi : decide ((I : Int) < (X : Int) + (i : Int)) = false := decide_eq_false (by omega)
              rw [hole_row] at hpf
              have HP9 := Lib.hid (And.intro hpf hbel)
              clear hpf hbel hI
              go_wp2
              go_roundw
              case rel => exact ⟨K + 1, j + 1, by have := HKJ.out; omega, by omega, by go_num, HP9.out.1, HP9.out.2⟩
              case measure => have := HKJ.out; first | (simp [intOf]; omega) | simp [intOf]
        · obtain rfl : j = ch := by omega
          have hKi : decide ((K : Int) < (Y : Int) + (j : Int)) = false := decide_eq_false (by omega)
          rw [HEND.out] at hpf
          have CJ := Lib.hid (HJ.out (some ⟨gv, 0, none⟩) cv wr hcv1 hcv2 hpf.rd)
          have HBF := Lib.hid (HB2.out.trans (hbel.mono HB2.out.size))
          clear hpf hbel hK
          go_wp2_with fail
          refine (CJ.out).mono ?_
          rintro e w9 ⟨rfl, b9⟩
          have HB9 := Lib.hid (HBF.out.trans (b9.mono HBF.out.size))
          clear b9
          by_cases hmx : R < 1 + R2
          · skip
            go_wp2
            go_ret
            exact ⟨ret_int (by first | rfl | (rw [if_pos hmx]; done) | (simp [hmx]; done) | (split <;> omega)), HB9.out⟩
          · skip
            go_wp2
            go_ret
            exact ⟨ret_int (by first | rfl | (rw [if_neg hmx]; done) | (simp [hmx]; done) | (split <;> omega)), HB9.out⟩

end Go.Proofs.Ytiihenhddleooac

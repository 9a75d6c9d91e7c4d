/- Contracts of chapter 7: balances of the model. -/
import Derived.Test.YtiihenhddleooaaTBal
namespace Go.Proofs.Ytiihenhddleooaa
open Go.RowKit
set_option linter.unusedVariables false
set_option linter.unusedSimpArgs false
set_option maxHeartbeats 4000000 in
theorem sBalL_any (n : Nat) (cs : List Cu) (hl : cs.length = n) (A : Option Addr) (c : Nat) (hv : okV dbV cs = true) (w : World) (hr : Rd w w.heap.size A (custV cs)) :
    Calls Try.prog 55 #[.slice A n c] w (OutI (balL cs) w) := by
  have HL := Lib.hid hl
  have HB := Lib.hid fun p => balR_to hv p
  have HS := Lib.hid fun p k => balR_step (cs := cs) (k := k) p
  have HPV := Lib.hid fun i (hi : i < n) => dbV_t (allV_at (okV_t hv).2 (show i < cs.length by rw [hl]; exact hi))
  have hn2 : n ≤ 20 := by rw [← hl]; exact (okV_t hv).1
  have hmk := run_make_row' (P := Try.prog) 27 3 (.int .i64 0) 8 Try.underlying27 info_int rfl .i64 .i64 8 (by omega) (by omega)
  rw [show ((8 : Nat) : Int) = 8 from rfl] at hmk
  clear hv hl
  go_enter Try.func55, Try.ntmps55
  go_wp2
  go_loopw [4] (fun i wr => ∃ k : Nat, k ≤ n ∧ i = .int .i64 k ∧ wr.rowIs w.heap.size 3 8 (fun p => .int .i64 (balR (p : Int) (cs.take k))) ∧ Below w.heap.size w wr ∧ w.heap.size < wr.heap.size) (fun i _ => n - (intOf i).toNat)
  case atStart => exact ⟨0, Nat.zero_le _, rfl, World.rowIs_made w (.int .i64 0) 8 3, (Below.refl _ _).alloc (Nat.le_refl _) _, by simp⟩
  case round =>
    obtain ⟨k, hk, rfl, hrow, hbel, hsz⟩ := hrel
    by_cases hlt : k < n
    · obtain ⟨b2, off, x, d, v, rfl, hb2, hz, hc0, hc1, hc2⟩ := (hr.below hbel).cust_ (k := k) (by rw [HL.out]; exact hlt)
      have hpv := HPV.out k hlt
      rw [hz.out] at hpv
      obtain ⟨⟨x1, x2⟩, ⟨d1, d2⟩, hxd, v1, v2⟩ := hpv
      simp only at x1 x2 d1 d2 hxd v1 v2
      obtain ⟨p, rfl⟩ := Int.eq_ofNat_of_zero_le x1
      obtain ⟨q, rfl⟩ := Int.eq_ofNat_of_zero_le d1
      have hp : p < 8 := by omega
      have hq : q < 8 := by omega
      have hpq : ¬ p = q := fun e => hxd (by rw [e])
      have hqp : ¬ q = p := fun e => hpq e.symm
      have bp := HB.out (p : Int) k
      have bq := HB.out (q : Int) k
      have k1 := hrow.cell hp
      have f1 := hrow.frozen p
      have hs1 := (hrow.set p (.int .i64 (balR (p : Int) (cs.take k) - v))).congr (g := fun i : Nat => .int .i64 (balR (i : Int) (cs.take k) - (if i = p then v else 0))) fun i hi => by
        by_cases e : i = p
        · subst e; simp
        · simp [e]
      have k2 := hs1.cell hq
      rw [if_neg hqp, Int.sub_zero] at k2
      have f2 := hs1.frozen q
      have hs2 := (hs1.set q (.int .i64 (balR (q : Int) (cs.take k) + v))).congr (g := fun i : Nat => .int .i64 (balR (i : Int) (cs.take (k + 1)))) fun i hi => by
        have hst := HS.out (i : Int) k (by rw [HL.out]; exact hlt)
        rw [hz.out] at hst
        simp only at hst
        rw [hst]
        have e1 : (if (q : Int) = (i : Int) then v else 0) = if i = q then v else 0 := by
          by_cases e : i = q
          · rw [if_pos e, if_pos (by omega)]
          · rw [if_neg e, if_neg (by omega)]
        have e2 : (if (p : Int) = (i : Int) then v else 0) = if i = p then v else 0 := by
          by_cases e : i = p
          · rw [if_pos e, if_pos (by omega)]
          · rw [if_neg e, if_neg (by omega)]
        rw [e1, e2]
        by_cases e : i = q
        · subst e
          simp [hqp]
        · by_cases e2 : i = p
          · subst e2
            simp [hpq]
            omega
          · simp [e, e2]
      have hbs := (hbel.setCell (p := ⟨w.heap.size, p, none⟩) (Nat.le_refl _) (.int .i64 (balR (p : Int) (cs.take k) - v))).setCell (p := ⟨w.heap.size, q, none⟩) (Nat.le_refl _) (.int .i64 (balR (q : Int) (cs.take k) + v))
      have HST := Lib.hid (And.intro hs2 hbs)
      obtain ⟨bp1, bp2⟩ := bp
      obtain ⟨bq1, bq2⟩ := bq
      generalize balR (p : Int) (cs.take k) = P at *
      generalize balR (q : Int) (cs.take k) = Q at *
      have hne : ¬ w.heap.size = b2 := by omega
      have hne2 : ¬ b2 = w.heap.size := by omega
      clear hs1 hs2 hrow hbel hbs hz
      go_wp2
      go_region
      go_wp2
      go_region
      go_wp2
      go_roundw
      case rel => exact ⟨k + 1, by omega, by go_num, HST.out.1, below_drewN HST.out.2 2, by simp; omega⟩
      case measure => first | (simp [intOf]; omega) | simp [intOf]
    · obtain rfl : k = n := by omega
      have R : OutI (balL cs) w (.returned (.slice (some ⟨w.heap.size, 0, none⟩) 8 8)) wr := by
        refine out_row hrow (balL_len cs) (by unfold maxLen; omega) (fun i hi => ?_) (Nat.le_refl _) hbel
        rw [balL_at hi]
        congr 2
        rw [← HL.out, List.take_length]
      have HR := Lib.hid R
      clear R hrow hbel
      go_wp2
      go_ret
      exact HR.out
theorem sBal_any (n : Nat) (cs : List Cu) (hl : cs.length = n) (A : Option Addr) (c : Nat) (hn : n ≤ maxLen) (w : World) (hr : Rd w w.heap.size A (custV cs)) :
    Calls Try.prog 21 #[.slice A n c] w (OutI (balT cs) w) := by
  have C := Lib.hid (sWDb_any n cs hl A c hn w hr)
  cases hv : okV dbV cs
  · rw [balT_no hv]
    rw [hv] at C
    clear hr hv
    go_enter Try.func21, Try.ntmps21
    go_wp2_with fail
    refine (C.out).mono ?_
    rintro e w1 ⟨rfl, b1⟩
    go_wp2
    go_ret
    exact ⟨none, 0, rfl, ⟨rfl, .inl ⟨rfl, rfl⟩⟩, b1⟩
  · rw [balT_ok hv]
    have CB := Lib.hid fun (w1 : World) (b1 : Below w.heap.size w w1) => sBalL_any n cs hl A c hv w1 ((hr.below b1).more b1.size)
    rw [hv] at C
    have HLB := Lib.hid (balL_len cs)
    generalize balL cs = L at *
    clear hr hv
    go_enter Try.func21, Try.ntmps21
    go_wp2_with fail
    refine (C.out).mono ?_
    rintro e w1 ⟨rfl, b1⟩
    have CQ := Lib.hid (CB.out w1 b1)
    go_wp2_with fail
    refine (CQ.out).mono ?_
    rintro e w2 ⟨A2, c2, rfl, o2, b2⟩
    have H := Lib.hid (And.intro (own_base o2 b1.size) (b1.trans (b2.mono b1.size)))
    go_wp2
    go_ret
    exact ⟨A2, c2, rfl, H.out.1, H.out.2⟩

end Go.Proofs.Ytiihenhddleooaa

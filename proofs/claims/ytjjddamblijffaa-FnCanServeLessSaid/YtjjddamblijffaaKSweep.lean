/- Contracts of chapter 6: sweeps, the program. -/
import Derived.Test.YtjjddamblijffaaKValid
namespace Go.Proofs.Ytjjddamblijffaa
open Go.RowKit
set_option linter.unusedVariables false
set_option linter.unusedSimpArgs false
theorem befS_get (cs : List Cu) (k j : Nat) : befF (ltS cs) (k + 1) j = befF (ltS cs) k j + (if ltS cs k j then 1 else 0) := befF_succ _ _ _
theorem befS_lt {lt : Nat → Nat → Bool} {n j : Nat} (hj : j < n) (hi : lt j j = false) : befF lt n j < n := by
  have h : ∀ m, j < m → befF lt m j < m := by
    intro m
    induction m with
    | zero => intro h; omega
    | succ m ih =>
      intro h
      rw [befF_succ]
      by_cases e : j = m
      · subst e; rw [hi]; have := befF_le lt j j; simp; omega
      · have := ih (by omega); split <;> omega
  exact h n hj
theorem rowIs_belowK {w w' : World} {g n : Nat} {T : TypeId} {f : Nat → Value} {B : Nat} (h : w.rowIs g T n f) (hb : Below B w w') (hg : g < B) : w'.rowIs g T n f := by
  obtain ⟨c, h1, h2, h3⟩ := h
  exact ⟨c, by rw [hb.block g hg]; exact h1, h2, h3⟩
theorem ordS_all {cs : List Cu} {n : Nat} (hl : cs.length = n) {f : Nat → Nat} (hf : ∀ j, j < n → f (befF (ltS cs) n j) = j) : (List.range n).map f = ordS cs cs.length := by
  subst hl
  refine (ordS_ok cs cs.length).uniq (by simp) fun j hj => ?_
  have h1 : befF (ltS cs) cs.length j < cs.length := befS_lt hj ((plc_s cs cs.length).irr j hj)
  rw [List.getElem?_map, List.getElem?_range h1, Option.map_some, hf j hj]
set_option maxHeartbeats 2000000 in
theorem iSwept_any (n : Nat) (hn : n ≤ 1048576) (cs : List Cu) (hl : cs.length = n) (A : Option Addr) (c : Nat) (w : World) (hr : Rd w w.heap.size A (custV cs)) (j : Nat) (hj : j < n) :
    Calls Try.prog 66 #[.slice A n c, .int .i64 j] w fun e w' => e = .returned (.int .i64 (befF (ltS cs) n j : Nat)) ∧ Below w.heap.size w w' := by
  have HL := Lib.hid hl
  clear hl
  go_enter Try.func66, Try.ntmps66
  go_wp2
  go_loopw [5, 10] (fun q i wr => ∃ k m : Nat, k ≤ n ∧ i = .int .i64 k ∧ q = .int .i64 m ∧ m = befF (ltS cs) k j ∧ Below w.heap.size w wr) (fun _ i _ => n - (intOf i).toNat)
  case atStart => exact ⟨0, 0, Nat.zero_le _, rfl, rfl, rfl, Below.refl _ _⟩
  case round =>
    obtain ⟨k, m, hk, rfl, rfl, hm, hbel⟩ := hrel
    by_cases hlt : k < n
    · obtain ⟨b1, off, u, d, v, rfl, hb1, hz, hc, hc2, hc3⟩ := (hr.below hbel).cust_ (k := k) (by rw [HL.out]; exact hlt)
      obtain ⟨b2, off2, x, d2, v2, e7, hb2, hz2, hd, hd2, hd3⟩ := (hr.below hbel).cust_ (k := j) (by rw [HL.out]; exact hj)
      injection e7 with e7
      injection e7 with q1 q2
      subst q1 q2
      have hst := befS_get cs k j
      rw [← hm] at hst
      have hltv : ltS cs k j = decide (u < x ∨ (u = x ∧ k < j)) := by unfold ltS; rw [hz.out, hz2.out]
      rw [hltv] at hst
      have hml : m ≤ k := by rw [hm]; exact befF_le _ _ _
      have hsz := hbel.size
      obtain ⟨wq, hwq⟩ : ∃ wq, wq = wr.alloc (.cells #[.int .i64 u, .int .i64 d, .int .i64 v] 33) := ⟨_, rfl⟩
      have hBN : Below w.heap.size w wq := by rw [hwq]; exact hbel.alloc (by omega) _
      have d0 : wq.cell? ⟨wr.heap.size, 0, none⟩ = some (.int .i64 u) := by rw [hwq]; exact three_new wr (.int .i64 u) (.int .i64 d) (.int .i64 v) _ _ rfl 0 _ rfl
      have a0 : wq.cell? ⟨b1, off + j * 3, none⟩ = some (.int .i64 x) := by rw [hwq]; exact (World.cell?_alloc_lt wr _ _ (by show b1 < _; omega)).trans hd
      have HH := Lib.hid hBN
      have HWQ := Lib.hid hwq
      clear hwq hd hd2 hd3 hltv hz hz2
      have hways : u < x ∨ (¬ u < x ∧ u = x ∧ k < j) ∨ (¬ u < x ∧ u = x ∧ ¬ k < j) ∨ (¬ u < x ∧ ¬ u = x) := by omega
      rcases hways with g | ⟨g1, g2, g3⟩ | ⟨g1, g2, g3⟩ | ⟨g1, g2⟩
      · have hb : decide (u < x ∨ u = x ∧ k < j) = true := decide_eq_true (by omega)
        rw [hb] at hst
        have p1 : decide (u < x) = true := decide_eq_true g
        obtain ⟨m1, hm1⟩ : ∃ m1, m1 = m + 1 := ⟨_, rfl⟩
        have e1 : (m : Int) + 1 = (m1 : Int) := by omega
        have HM : Hid (m1 = befF (ltS cs) (k + 1) j) := Lib.hid (by rw [hst, hm1]; rfl)
        clear g hst hb hm hbel hBN hm1
        go_wp2
        rw [← HWQ.out]
        go_wp2
        refine wp_region_quiet_lit (by kernel_rfl) (by kernel_rfl) ?_
        repeat (go_big_quiet_step (fail))
        refine wpQuiet_nil ?_
        intro _ hw'
        obtain ⟨nq, hw''⟩ := hw'
        subst hw''
        have HB7 : Hid (Below w.heap.size w (wq.drewN nq)) := Lib.hid (below_drewN HH.out nq)
        go_wp2
        go_roundw
        case rel => exact ⟨k + 1, m1, by omega, by go_num, by go_num, HM.out, HB7.out⟩
        case measure => simp [intOf]; omega
      · subst g2
        have hb : decide (u < u ∨ u = u ∧ k < j) = true := decide_eq_true (by omega)
        rw [hb] at hst
        have p1 : decide (u < u) = false := decide_eq_false g1
        have p3 : decide (k < j) = true := decide_eq_true g3
        have p4 : decide ((k : Int) < (j : Int)) = true := decide_eq_true (by omega)
        obtain ⟨m1, hm1⟩ : ∃ m1, m1 = m + 1 := ⟨_, rfl⟩
        have e1 : (m : Int) + 1 = (m1 : Int) := by omega
        have HM : Hid (m1 = befF (ltS cs) (k + 1) j) := Lib.hid (by rw [hst, hm1]; rfl)
        clear g1 hst hb hm hbel hBN hm1
        go_wp2
        rw [← HWQ.out]
        go_wp2
        refine wp_region_quiet_lit (by kernel_rfl) (by kernel_rfl) ?_
        repeat (go_big_quiet_step (fail))
        refine wpQuiet_nil ?_
        intro _ hw'
        obtain ⟨nq, hw''⟩ := hw'
        subst hw''
        have HB7 : Hid (Below w.heap.size w (wq.drewN nq)) := Lib.hid (below_drewN HH.out nq)
        go_wp2
        go_roundw
        case rel => exact ⟨k + 1, m1, by omega, by go_num, by go_num, HM.out, HB7.out⟩
        case measure => simp [intOf]; omega
      · subst g2
        have hb : decide (u < u ∨ u = u ∧ k < j) = false := decide_eq_false (by omega)
        rw [hb] at hst
        have p1 : decide (u < u) = false := decide_eq_false g1
        have p3 : decide (k < j) = false := decide_eq_false g3
        have p4 : decide ((k : Int) < (j : Int)) = false := decide_eq_false (by omega)
        have HM : Hid (m = befF (ltS cs) (k + 1) j) := Lib.hid (by rw [hst]; rfl)
        clear g1 hst hb hm hbel hBN 
        go_wp2
        rw [← HWQ.out]
        go_wp2
        refine wp_region_quiet_lit (by kernel_rfl) (by kernel_rfl) ?_
        repeat (go_big_quiet_step (fail))
        refine wpQuiet_nil ?_
        intro _ hw'
        obtain ⟨nq, hw''⟩ := hw'
        subst hw''
        have HB7 : Hid (Below w.heap.size w (wq.drewN nq)) := Lib.hid (below_drewN HH.out nq)
        go_wp2
        go_roundw
        case rel => exact ⟨k + 1, m, by omega, by go_num, rfl, HM.out, HB7.out⟩
        case measure => simp [intOf]; omega
      · have hb : decide (u < x ∨ u = x ∧ k < j) = false := decide_eq_false (by omega)
        rw [hb] at hst
        have p1 : decide (u < x) = false := decide_eq_false g1
        have p2 : (u == x) = false := beq_eq_false_iff_ne.2 g2
        have HM : Hid (m = befF (ltS cs) (k + 1) j) := Lib.hid (by rw [hst]; rfl)
        clear g1 hst hb hm hbel hBN 
        go_wp2
        rw [← HWQ.out]
        go_wp2
        refine wp_region_quiet_lit (by kernel_rfl) (by kernel_rfl) ?_
        repeat (go_big_quiet_step (fail))
        refine wpQuiet_nil ?_
        intro _ hw'
        obtain ⟨nq, hw''⟩ := hw'
        subst hw''
        have HB7 : Hid (Below w.heap.size w (wq.drewN nq)) := Lib.hid (below_drewN HH.out nq)
        go_wp2
        go_roundw
        case rel => exact ⟨k + 1, m, by omega, by go_num, rfl, HM.out, HB7.out⟩
        case measure => simp [intOf]; omega
    · obtain rfl : k = n := by omega
      have R := Lib.hid (And.intro hm hbel)
      clear hm hbel
      go_wp2
      go_ret
      exact ⟨by rw [R.out.1]; rfl, R.out.2⟩
set_option maxHeartbeats 2000000 in
theorem iSweep_any (n : Nat) (cs : List Cu) (hl : cs.length = n) (A : Option Addr) (c : Nat) (hn : n ≤ maxLen) (w : World) (hr : Rd w w.heap.size A (custV cs)) :
    Calls Try.prog 29 #[.slice A n c] w (OutI (swT cs) w) := by
  have cV := iVCs_any n cs hl A c hn w hr
  cases hv : vcB cs
  · rw [swT_no hv]
    rw [hv] at cV
    have CV := Lib.hid cV
    clear hv cV
    go_enter Try.func29, Try.ntmps29
    go_wp2_with fail
    refine (CV.out).mono ?_
    rintro e w1 ⟨rfl, b1⟩
    have B1 := Lib.hid b1
    clear b1
    go_wp2
    go_ret
    exact ⟨none, 0, rfl, ⟨rfl, .inl ⟨rfl, rfl⟩⟩, B1.out⟩
  · rw [swT_ok hv]
    rw [hv] at cV
    have CV := Lib.hid cV
    have h8 : n ≤ 8 := by rw [← hl]; exact (vcB_t hv).1
    have HINJ : Hid (∀ j k, j < n → k < n → befF (ltS cs) n j = befF (ltS cs) n k → j = k) := Lib.hid fun j k hj hk e => ((ordS_ok cs n).perm ((ordS_ok cs n).to j hj) ((ordS_ok cs n).to k hk)).2 e
    have HLT : Hid (∀ j, j < n → befF (ltS cs) n j < n) := Lib.hid fun j hj => befS_lt hj ((plc_s cs n).irr j hj)
    have HL := Lib.hid hl
    have hbf := fun (A : Option Addr) (w : World) (hr : Rd w w.heap.size A (custV cs)) (j : Nat) (hj : j < n) => iSwept_any n (by omega) cs hl A c w hr j hj
    have HBF := Lib.hid hbf
    have hmk := run_make_row' (P := Try.prog) 27 3 (.int .i64 0) 8 Try.underlying27 info_int rfl .i64 .i64 n (by omega) (by omega)
    clear hv cV hl hbf
    go_enter Try.func29, Try.ntmps29
    go_wp2_with fail
    refine (CV.out).mono ?_
    rintro e w1 ⟨rfl, b1⟩
    have hr1 := (hr.below b1).more b1.size
    have B1 := Lib.hid b1
    have hs1 := b1.size
    clear b1
    go_wp2
    go_loopw [13] (fun i wr => ∃ (k : Nat) (f : Nat → Nat), k ≤ n ∧ i = .int .i64 k ∧ wr.rowIs w1.heap.size 3 n (fun p => .int .i64 (f p : Nat)) ∧ (∀ j, j < k → f (befF (ltS cs) n j) = j) ∧ Below w1.heap.size w1 wr ∧ w1.heap.size < wr.heap.size) (fun i _ => n - (intOf i).toNat)
    case atStart => exact ⟨0, fun _ => 0, Nat.zero_le _, rfl, World.rowIs_made w1 (.int .i64 0) n 3, fun j hj => by omega, (Below.refl _ _).alloc (Nat.le_refl _) _, by simp⟩
    case round =>
      obtain ⟨k, f, hk, rfl, hrow, hf, hbel, hsz⟩ := hrel
      by_cases hlt : k < n
      · have HROW := Lib.hid hrow
        have HFK := Lib.hid hf
        have HBEL := Lib.hid hbel
        have hrq := (hr1.below hbel).more hbel.size
        have CB := Lib.hid (HBF.out _ wr hrq k hlt)
        clear hrow hf hbel hrq
        go_wp2_with fail
        refine (CB.out).mono ?_
        rintro e w2 ⟨rfl, b2'⟩
        have hrow2 := rowIs_belowK HROW.out b2' hsz
        have hp := HLT.out k hlt
        have HINK : Hid (∀ j, j < k → befF (ltS cs) n j ≠ befF (ltS cs) n k) := Lib.hid fun j hj e => by have := HINJ.out j k (by omega) hlt e; omega
        generalize hpe : befF (ltS cs) n k = p at *
        have HPE := Lib.hid hpe
        have hc3 := hrow2.cell hp
        have hf3 := hrow2.frozen p
        have hst := (hrow2.set p (.int .i64 (k : Int))).congr (g := fun q => .int .i64 ((if q = p then k else f q : Nat) : Int)) fun q hq => by
          by_cases e : q = p
          · subst e; simp
          · simp [e]
        have hbw := (HBEL.out.trans (b2'.mono (by omega))).setCell (p := ⟨w1.heap.size, p, none⟩) (Nat.le_refl _) (.int .i64 (k : Int))
        have hsz2 : w1.heap.size < w2.heap.size := by have := b2'.size; omega
        have HST := Lib.hid (And.intro hst hbw)
        have HFN : Hid (∀ j, j < k + 1 → (fun q => if q = p then k else f q) (befF (ltS cs) n j) = j) := Lib.hid fun j hj => by
          by_cases e : j = k
          · subst e; simp [HPE.out]
          · simp only [if_neg (HINK.out j (by omega))]; exact HFK.out j (by omega)
        clear hpe hst hbw hrow2 b2' 
        go_wp2
        go_roundw
        case rel => exact ⟨k + 1, _, by omega, by go_num, HST.out.1, HFN.out, HST.out.2, by simpa [World.setCell] using hsz2⟩
        case measure => simp [intOf]; omega
      · obtain rfl : k = n := by omega
        have hm := ordS_all HL.out hf
        have hlen : (ordS cs cs.length).length = k := by rw [← hm]; simp
        have R : OutI (nats (ordS cs cs.length)) w (.returned (.slice (some ⟨w1.heap.size, 0, none⟩) k k)) wr := by
          refine out_mk (by rw [nats_length, hlen]) (own_base (own_of_row hrow (xs := ints (nats (ordS cs cs.length))) ?_ (fun i hi => ?_) (Nat.le_refl _) (by unfold maxLen; omega)) hs1) (B1.out.trans (hbel.mono hs1))
          · rw [ints_length, nats_length, hlen]
          · rw [← hm, ints, nats, List.getElem?_map, List.getElem?_map, List.getElem?_map, List.getElem?_range hi]; rfl
        have HR := Lib.hid R
        clear R hm hrow hf hbel
        go_wp2
        go_ret
        exact HR.out

end Go.Proofs.Ytjjddamblijffaa

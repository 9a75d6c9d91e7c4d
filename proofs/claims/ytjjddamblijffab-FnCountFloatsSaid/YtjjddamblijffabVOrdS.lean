/- Orders of indices, each once: the model. -/
import Derived.Test.YtjjddamblijffabVOrd
import Derived.Test.YtjjddamblijffabFValid
namespace Go.Proofs.Ytjjddamblijffab
open Go.RowKit
set_option linter.unusedVariables false
set_option linter.unusedSimpArgs false
def plG (z : Int) : List Int → Nat → Int
  | [], _ => -1
  | y :: ys, i => if y = z then (i : Int) else plG z ys (i + 1)
def plF (l : List Int) (z : Int) : Int := plG z l 0
theorem plG_hit {z : Int} : ∀ {l : List Int} {k i : Nat}, l[k]? = some z → (∀ j, j < k → l[j]? ≠ some z) → plG z l i = ((i + k : Nat) : Int)
  | [], k, i, h, _ => by simp at h
  | y :: ys, 0, i, h, _ => by
    simp at h
    unfold plG
    rw [if_pos h]; rfl
  | y :: ys, k + 1, i, h, hn => by
    have h0 : y ≠ z := fun e => hn 0 (by omega) (by simp [e])
    unfold plG
    rw [if_neg h0, plG_hit (k := k) (by simpa using h) (fun j hj => by have := hn (j + 1) (by omega); simpa using this)]
    congr 1; omega
theorem plG_none {z : Int} : ∀ {l : List Int} {i : Nat}, z ∉ l → plG z l i = -1
  | [], i, _ => rfl
  | y :: ys, i, h => by
    simp only [List.mem_cons, not_or] at h
    unfold plG
    rw [if_neg (fun e => h.1 e.symm), plG_none h.2]
theorem plG_some {z : Int} : ∀ {l : List Int} {i : Nat}, z ∈ l → (i : Int) ≤ plG z l i ∧ plG z l i ≤ (i : Int) + (l.length : Int)
  | [], i, h => by simp at h
  | y :: ys, i, h => by
    unfold plG
    by_cases e : y = z
    · rw [if_pos e]; simp only [List.length_cons]; omega
    · rw [if_neg e]
      have hm : z ∈ ys := by
        rcases List.mem_cons.1 h with h | h
        · exact absurd h.symm e
        · exact h
      have := plG_some (i := i + 1) hm
      simp only [List.length_cons]
      omega
theorem plF_ge {l : List Int} {z : Int} : 0 ≤ plF l z ↔ memB l z = true := by
  unfold plF memB
  by_cases h : z ∈ l
  · have := plG_some (i := 0) h
    rw [decide_eq_true h]
    exact ⟨fun _ => rfl, fun _ => by omega⟩
  · rw [plG_none h, decide_eq_false h]; simp
theorem plF_bd {l : List Int} {z : Int} : -1 ≤ plF l z ∧ plF l z ≤ (l.length : Int) := by
  unfold plF
  by_cases h : z ∈ l
  · have := plG_some (i := 0) h; omega
  · rw [plG_none h]; omega
theorem plF_hit {l : List Int} {z : Int} {k : Nat} (h : l[k]? = some z) (hn : ∀ j, j < k → l[j]? ≠ some z) : plF l z = k := by
  unfold plF
  rw [plG_hit h hn]; simp
set_option maxRecDepth 100000 in
set_option maxHeartbeats 800000 in
theorem sPlace_any (n : Nat) (hn : n ≤ 1048576) (l : List Int) (hl : l.length = n) (A : Option Addr) (c : Nat) (w : World) (B : Nat) (hr : Rd w B A (ints l)) (z : Int) :
    Calls Try.prog 103 #[.slice A n c, .int .i64 z] w fun e w' => e = .returned (.int .i64 (plF l z)) ∧ w = w' := by
  have HL := Lib.hid hl
  clear hl
  go_enter Try.func103, Try.ntmps103
  go_wp2
  go_loop [5] (fun i => ∃ k : Nat, k ≤ n ∧ i = .int .i64 k ∧ ∀ j, j < k → l[j]? ≠ some z) (fun i => n - (intOf i).toNat)
  case atStart => exact ⟨0, Nat.zero_le _, rfl, fun j h => by omega⟩
  case round =>
    obtain ⟨k, hk, rfl, hno⟩ := hrel
    have HNO := Lib.hid hno
    clear hno
    by_cases hlt : k < n
    · obtain ⟨b, off, y, rfl, hb, hy, hc⟩ := hr.int_ (k := k) (by rw [HL.out]; exact hlt)
      by_cases he : y = z
      · subst he
        have HP := Lib.hid (plF_hit hy.out HNO.out)
        go_wp2
        go_ret
        exact ⟨ret_int HP.out.symm, rfl⟩
      · have hne : (y == z) = false := beq_eq_false_iff_ne.2 he
        go_wp2
        go_round
        case rel => exact ⟨k + 1, by omega, by go_num, fun j hj => by by_cases e : j = k; subst e; rw [hy.out]; intro h; injection h with h; exact he h; exact HNO.out j (by omega)⟩
        case measure => simp [intOf]; omega
    · have HP : Hid (plF l z = -1) := Lib.hid (by
        unfold plF
        refine plG_none fun hm => ?_
        obtain ⟨j, hj⟩ := List.getElem?_of_mem hm
        exact HNO.out j (by have := (List.getElem?_eq_some_iff.1 hj).1; rw [HL.out] at this; omega) hj)
      go_wp2
      go_ret
      exact ⟨ret_int HP.out.symm, rfl⟩
set_option maxRecDepth 100000 in
set_option maxHeartbeats 1000000 in
theorem sVOrd_any (n m : Nat) (hn : n ≤ 1048576) (order : List Int) (hlo : order.length = m) (hm : m ≤ 1048576) (Ao : Option Addr) (co : Nat) (hcap : m ≤ co ∧ co ≤ maxLen) (w : World) (hro : Rd w w.heap.size Ao (ints order)) :
    Calls Try.prog 60 #[.slice Ao m co, .int .i64 n] w fun e w' => e = .returned (.bool (ordB n order)) ∧ ∃ q, w' = w.drewN q := by
  have HLO := Lib.hid hlo
  have HF : Hid (ordB n order = (decide (m = n) && ordTo n order m)) := Lib.hid (by unfold ordB; rw [hlo])
  have HFN : Hid (∀ k, k < m → ordStep n (order.take k) (at_ order k) = false → ordB n order = false) := Lib.hid fun k hk h => by rw [HF.out, ordTo_bad hk h]; simp
  have HPl : Hid (∀ (k : Nat) (w' : World), k ≤ m → Below w.heap.size w w' → ∀ z : Int, ∀ b off : Nat, Ao = some ⟨b, off, none⟩ → Calls Try.prog 103 #[.slice (some ⟨b, off, none⟩) k co, .int .i64 z] w' fun e w'' => e = .returned (.int .i64 (plF (order.take k) z)) ∧ w' = w'') := Lib.hid fun k w' hk hb z b off e => by
    have hr := ((hro.below hb).more hb.size).take k
    rw [show (ints order).take k = ints (order.take k) by rw [ints, ints, List.map_take], e] at hr
    exact sPlace_any k (by omega) (order.take k) (by rw [List.length_take]; omega) _ co w' _ hr z
  generalize ordB n order = R at *
  clear hlo
  go_enter Try.func60, Try.ntmps60
  go_wp2
  go_loopw [5] (fun i wr => ∃ k : Nat, k ≤ m ∧ i = .int .i64 k ∧ ordTo n order k = true ∧ ∃ q, wr = w.drewN q) (fun i _ => m - (intOf i).toNat)
  case atStart => exact ⟨0, Nat.zero_le _, rfl, rfl, 0, rfl⟩
  case round =>
    obtain ⟨k, hk, rfl, hvf, q0, hwr⟩ := hrel
    have hbel : Below w.heap.size w wr := by rw [hwr]; exact below_drewN (Below.refl _ _) q0
    have HW := Lib.hid hwr
    have HVF := Lib.hid hvf
    have HBEL := Lib.hid hbel
    clear hwr hvf
    by_cases hlt : k < m
    · obtain ⟨b3, off3, z, rfl, hb3, hz, hcz⟩ := (hro.below hbel).int_ (k := k) (by rw [HLO.out]; exact hlt)
      have Hat : Hid (at_ order k = z) := Lib.hid (by unfold at_; rw [List.getD_eq_getElem?_getD, hz.out]; rfl)
      have HBad : Hid (ordStep n (order.take k) z = false → R = false) := Lib.hid fun h => HFN.out k hlt (by rw [Hat.out]; exact h)
      have HGood : Hid (ordStep n (order.take k) z = true → ordTo n order (k + 1) = true) := Lib.hid fun h => by rw [ordTo_succ, HVF.out, Hat.out, h]; rfl
      clear hz hbel
      have l1 : k ≤ co := by omega
      have l2 : (k : Int) ≤ (co : Int) := by omega
      have l3 : (k : Int) ≤ (m : Int) := by omega
      cases hzi : inB z 0 ((n : Int) - 1)
      · have HT := Lib.hid (HBad.out (by unfold ordStep; rw [hzi]; rfl))
        have HZ := Lib.hid hzi
        clear hzi
        go_wp2
        refine wp_region_quiet_lit (by kernel_rfl) (by kernel_rfl) ?_
        repeat (go_big_quiet_step (fail))
        go_big_quiet_step ((go_at_call 59; exact quiet_same (inR_is HZ.out _)))
        repeat (go_big_quiet_step (fail))
        refine wpQuiet_nil ?_
        intro _ hw'
        obtain ⟨nq, hw''⟩ := hw'
        subst hw''
        have HD : Hid (∃ q, wr.drewN nq = w.drewN q) := Lib.hid ⟨q0 + nq, by rw [HW.out, drewN_add]⟩
        go_wp2
        go_ret
        exact ⟨ret_bool HT.out.symm, HD.out⟩
      · have HZ := Lib.hid hzi
        obtain ⟨t, rfl⟩ := Int.eq_ofNat_of_zero_le (inB_t hzi).1
        have hpb := plF_bd (l := order.take k) (z := (t : Int))
        have HPL : Hid (∀ d : Nat, Calls Try.prog 103 #[.slice (some ⟨b3, off3, none⟩) k co, .int .i64 (t : Int)] (wr.drewN d) fun e w'' => e = .returned (.int .i64 (plF (order.take k) (t : Int))) ∧ wr.drewN d = w'') := Lib.hid fun d => HPl.out k _ hk (below_drewN HBEL.out d) t b3 off3 rfl
        cases hmq : memB (order.take k) (t : Int)
        · have hpg : ¬ 0 ≤ plF (order.take k) (t : Int) := by rw [plF_ge, hmq]; simp
          have hpg2 : plF (order.take k) (t : Int) < 0 := by omega
          have HT := Lib.hid (HGood.out (by unfold ordStep; rw [hzi, hmq]; rfl))
          clear hzi hmq
          generalize plF (order.take k) (t : Int) = P at *
          go_wp2
          refine wp_region_quiet_lit (by kernel_rfl) (by kernel_rfl) ?_
          repeat (go_big_quiet_step (fail))
          go_big_quiet_step ((go_at_call 59; exact quiet_same (inR_is HZ.out _)))
          repeat (go_big_quiet_step (fail))
          go_big_quiet_step ((go_at_call 103; exact quiet_same (HPL.out _)))
          repeat (go_big_quiet_step (fail))
          refine wpQuiet_nil ?_
          intro _ hw'
          obtain ⟨nq, hw''⟩ := hw'
          subst hw''
          have HD : Hid (∃ q, wr.drewN nq = w.drewN q) := Lib.hid ⟨q0 + nq, by rw [HW.out, drewN_add]⟩
          go_wp2
          go_roundw
          case rel => exact ⟨k + 1, by omega, by go_num, HT.out, HD.out⟩
          case measure => simp [intOf]; omega
        · have hpg : 0 ≤ plF (order.take k) (t : Int) := plF_ge.2 hmq
          have HT := Lib.hid (HBad.out (by unfold ordStep; rw [hzi, hmq]; rfl))
          clear hzi hmq
          generalize plF (order.take k) (t : Int) = P at *
          go_wp2
          refine wp_region_quiet_lit (by kernel_rfl) (by kernel_rfl) ?_
          repeat (go_big_quiet_step (fail))
          go_big_quiet_step ((go_at_call 59; exact quiet_same (inR_is HZ.out _)))
          repeat (go_big_quiet_step (fail))
          go_big_quiet_step ((go_at_call 103; exact quiet_same (HPL.out _)))
          repeat (go_big_quiet_step (fail))
          refine wpQuiet_nil ?_
          intro _ hw'
          obtain ⟨nq, hw''⟩ := hw'
          subst hw''
          have HD : Hid (∃ q, wr.drewN nq = w.drewN q) := Lib.hid ⟨q0 + nq, by rw [HW.out, drewN_add]⟩
          go_wp2
          go_ret
          exact ⟨ret_bool HT.out.symm, HD.out⟩
    · obtain rfl : k = m := by omega
      have HT : Hid (R = decide (k = n)) := Lib.hid (by rw [HF.out, HVF.out, Bool.and_true])
      have HD : Hid (∃ q, wr = w.drewN q) := Lib.hid ⟨q0, HW.out⟩
      clear hbel
      by_cases hmn : k = n
      · have e : ((k : Int) == (n : Int)) = true := beq_iff_eq.2 (by omega)
        go_wp2
        go_ret
        exact ⟨ret_bool (by rw [HT.out]; simp [hmn]), HD.out⟩
      · have e : ((k : Int) == (n : Int)) = false := beq_eq_false_iff_ne.2 (by omega)
        go_wp2
        go_ret
        exact ⟨ret_bool (by rw [HT.out]; simp [hmn]), HD.out⟩

end Go.Proofs.Ytjjddamblijffab

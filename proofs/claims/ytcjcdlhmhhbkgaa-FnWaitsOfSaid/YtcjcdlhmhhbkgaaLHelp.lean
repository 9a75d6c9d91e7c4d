/- Contracts of the laws' helpers of chapter 4: comparison, the greatest number, sums, lists joined and without one number. -/
import Derived.StillTailTactics
import Derived.Test.YtcjcdlhmhhbkgaaHelps
import Derived.Test.YtcjcdlhmhhbkgaaLMerge
import Derived.Test.YtcjcdlhmhhbkgaaLLift
namespace Go.Proofs.Ytcjcdlhmhhbkgaa
open Go.RowKit
set_option linter.unusedVariables false
set_option linter.unusedSimpArgs false
theorem eqT_b (zs : List Int) (A A' : Option Addr) (c c' : Nat) (w : World) (B : Nat) (hr : Rd w B A (ints zs)) (hr' : Rd w B A' (ints zs)) (hn : zs.length ≤ 1048576) :
    Calls Try.prog 21 #[.slice A zs.length c, .slice A' zs.length c'] w fun e w' => e = .returned (.bool true) ∧ Below w.heap.size w w' :=
  (equalInts_same zs A A' c c' w B hr hr' hn).mono fun _ _ ⟨h, n, e⟩ => ⟨h, e ▸ below_drewN (Below.refl _ _) n⟩
set_option maxHeartbeats 400000 in
theorem greatest_any (n : Nat) (zs : List Int) (hl : zs.length = n) (A : Option Addr) (c : Nat) (w : World) (B : Nat) (hr : Rd w B A (ints zs)) (hn : n ≤ 1048576) :
    Calls Try.prog 30 #[.slice A n c] w fun e w' => e = .returned (.int .i64 (grF (el zs) n)) ∧ w = w' := by
  have HL := Lib.hid hl
  clear hl
  go_enter Try.func30, Try.ntmps30
  go_wp2
  go_loop [3, 4] (fun v i => ∃ k : Nat, k ≤ n ∧ i = .int .i64 k ∧ v = .int .i64 (grF (el zs) k)) (fun _ i => n - (intOf i).toNat)
  case atStart => exact ⟨0, Nat.zero_le _, rfl, rfl⟩
  case round =>
    obtain ⟨k, hk, rfl, rfl⟩ := hrel
    by_cases hlt : k < n
    · obtain ⟨b, off, rfl, hb, hc⟩ := hr.el_ (k := k) (by rw [HL.out]; exact hlt)
      have HS : Hid (grF (el zs) (k + 1) = if grF (el zs) k < el zs k then el zs k else grF (el zs) k) := Lib.hid rfl
      generalize grF (el zs) k = m at *
      by_cases hq : m < el zs k
      · go_wp2
        go_round
        case rel => exact ⟨k + 1, by omega, by go_num, by rw [HS.out, if_pos hq]⟩
        case measure => simp [intOf]; omega
      · go_wp2
        go_round
        case rel => exact ⟨k + 1, by omega, by go_num, by rw [HS.out, if_neg hq]⟩
        case measure => simp [intOf]; omega
    · obtain rfl : k = n := by omega
      go_wp2
      go_ret
      exact ⟨rfl, rfl⟩
set_option maxHeartbeats 400000 in
theorem totalB_any (n : Nat) (zs : List Int) (hl : zs.length = n) (A : Option Addr) (c : Nat) (w : World) (B : Nat) (hr : Rd w B A (ints zs)) (hz : ∀ k, k < n → 0 ≤ el zs k ∧ el zs k ≤ 10000) (hn : n ≤ 1000) :
    Calls Try.prog 31 #[.slice A n c] w fun e w' => e = .returned (.int .i64 zs.sum) ∧ w = w' := by
  have HE : Hid (zs.sum = sm (el zs) n) := Lib.hid (by rw [← hl]; exact sum_sm zs)
  have HL := Lib.hid hl
  have HZ := Lib.hid hz
  clear hl hz
  go_enter Try.func31, Try.ntmps31
  go_wp2
  go_loop [3, 4] (fun v i => ∃ k : Nat, k ≤ n ∧ i = .int .i64 k ∧ v = .int .i64 (sm (el zs) k)) (fun _ i => n - (intOf i).toNat)
  case atStart => exact ⟨0, Nat.zero_le _, rfl, rfl⟩
  case round =>
    obtain ⟨k, hk, rfl, rfl⟩ := hrel
    have hb := sm_bd (f := el zs) (a := 0) (b := 10000) (n := k) (fun i hi => HZ.out i (by omega))
    have hb0 : 0 ≤ sm (el zs) k := by omega
    have hb1 : sm (el zs) k ≤ 10000000 := by omega
    clear hb
    by_cases hlt : k < n
    · obtain ⟨b, off, rfl, hbb, hc⟩ := hr.el_ (k := k) (by rw [HL.out]; exact hlt)
      have hz := HZ.out k hlt
      have HS : Hid (sm (el zs) (k + 1) = sm (el zs) k + el zs k) := Lib.hid rfl
      generalize sm (el zs) k = m at *
      go_wp2
      go_round
      case rel => exact ⟨k + 1, by omega, by go_num, by rw [HS.out]⟩
      case measure => simp [intOf]; omega
    · obtain rfl : k = n := by omega
      go_wp2
      go_ret
      exact ⟨ret_int HE.out.symm, rfl⟩
set_option maxHeartbeats 800000 in
theorem join_any (n m : Nat) (a b : List Int) (ha : a.length = n) (hb : b.length = m) (Aa Ab : Option Addr) (ca cb : Nat) (w : World) (hra : Rd w w.heap.size Aa (ints a)) (hrb : Rd w w.heap.size Ab (ints b)) (hn : n ≤ 1000) (hm : m ≤ 1000) :
    Calls Try.prog 49 #[.slice Aa n ca, .slice Ab m cb] w (OutI (a ++ b) w) := by
  obtain ⟨i0, hi, hz0, hz1, hz2⟩ := info_parts info_int
  have HLA := Lib.hid ha
  have HLB := Lib.hid hb
  clear ha hb
  go_enter Try.func49, Try.ntmps49
  go_wp2_with (at_builtin; refine push_list rfl _ _ 23 rfl w.heap.size 3 i0 (.int .i64 0) 8 Try.underlying23 hi hz0 hz1 hz2 rfl _ _ _ rfl (own_empty w 3) _ _ _ w.heap.size (ints a) rfl (hra.alloc (Nat.le_refl _) _) (by rw [ints_length]; exact HLA.out) oneCell_ints (by unfold maxLen; omega) (by omega) (by simp) ?_)
  · intro v1 w1 o1 g1
    have b1 : Below w.heap.size w w1 := ((Below.refl _ _).alloc (Nat.le_refl _) _).grown g1 (by simp) (own_block (own_empty w 3))
    clear g1
    go_wp2_with (at_builtin; refine push_list rfl _ _ 23 rfl w.heap.size 3 i0 (.int .i64 0) 8 Try.underlying23 hi hz0 hz1 hz2 rfl _ _ _ rfl o1 _ _ _ w.heap.size (ints b) rfl (hrb.below b1) (by rw [ints_length]; exact HLB.out) oneCell_ints (by unfold maxLen; omega) (by omega) b1.size ?_)
    · intro v2 w2 o2 g2
      have b2 : Below w.heap.size w w2 := b1.grown g2 b1.size (own_block o1)
      have R : OutI (a ++ b) w (.returned v2) w2 := out_mk (n := 0 + n + m) (by rw [List.length_append, HLA.out, HLB.out]; omega) (by simpa [ints] using o2) b2
      clear o1 o2 g2 b1 b2
      go_wp2
      go_ret
      exact R
theorem wo_len {zs : List Int} {i : Nat} (h : i < zs.length) : (zs.take i).length = i ∧ (zs.drop (i + 1)).length = zs.length - (i + 1) := by
  rw [List.length_take, List.length_drop]; omega
set_option maxHeartbeats 800000 in
theorem without_any (n : Nat) (zs : List Int) (hl : zs.length = n) (A : Option Addr) (c : Nat) (hcap : n ≤ c ∧ c ≤ maxLen) (w : World) (hr : Rd w w.heap.size A (ints zs)) (hn : n ≤ 1000) (i : Nat) (hi : i < n) :
    Calls Try.prog 18 #[.slice A n c, .int .i64 i] w (OutI (zs.take i ++ zs.drop (i + 1)) w) := by
  obtain ⟨b, off, rfl, hb, hc⟩ := hr.el_ (k := i) (by omega)
  obtain ⟨hc1, hmax⟩ := hcap
  unfold maxLen at hmax
  have hwl := wo_len (zs := zs) (i := i) (by omega)
  rw [hl] at hwl
  have hra := hr.take i
  rw [← show ints (zs.take i) = (ints zs).take i from by rw [ints, ints, List.map_take]] at hra
  have hrb := hr.drop (i + 1)
  rw [← show ints (zs.drop (i + 1)) = (ints zs).drop (i + 1) from by rw [ints, ints, List.map_drop]] at hrb
  have i1 : ((i : Int) + 1) = ((i + 1 : Nat) : Int) := by omega
  have c2 : i + 1 ≤ c := by omega
  have c3 : i + 1 ≤ n := by omega
  generalize hq : i + 1 = q at *
  have HQ := Lib.hid hq
  have HWL := Lib.hid hwl
  have HRA := Lib.hid hra
  clear hwl hra hl hq
  have c1 : i ≤ c := by omega
  have c4 : ¬ c = i := by have := HQ.out; omega
  have c5 : (i : Int) ≤ (c : Int) := by omega
  have c6 : (q : Int) ≤ (n : Int) := by omega
  have c7 : (n : Int) ≤ (c : Int) := by omega
  have c8 : IntKind.i64.wrap (q : Int) = (q : Int) := IntWalk.i64_in _ (by omega)
  by_cases hck : c = q
  · subst hck
    obtain rfl : n = c := by omega
    have c9 : ¬ n = i := c4
    have HRB : Hid (Rd w.drew w.heap.size (some ⟨b, off, none⟩) (ints (zs.drop n))) := Lib.hid (by
      have h0 := HWL.out.2
      rw [List.eq_nil_of_length_eq_zero (l := zs.drop n) (by omega)]
      exact Rd.nil_)
    clear hrb
    have cJ := join_any i 0 (zs.take i) (zs.drop n) HWL.out.1 (by have := HWL.out.2; omega) (some ⟨b, off, none⟩) (some ⟨b, off, none⟩) n 0 w.drew HRA.out HRB.out (by omega) (by omega)
    generalize zs.take i ++ zs.drop n = ts at cJ ⊢
    go_enter Try.func18, Try.ntmps18
    go_wp2
    go_still_tail 7, (by kernel_rfl)
    change wpList _ _ _ _ _ w.drew
    go_wp2_with fail
    refine cJ.mono ?_
    rintro e w1 ⟨A1, c1', rfl, o1, b1⟩
    have R : OutI ts w (.returned (.slice A1 ts.length c1')) w1 := out_drew (n := 1) ⟨A1, c1', rfl, o1, b1⟩
    clear o1 b1 cJ
    go_wp2
    go_ret
    exact R
  · have q0 : ¬ q = 0 := by have := HQ.out; omega
    have hrb' : Rd w w.heap.size (some ⟨b, off + q, none⟩) (ints (zs.drop q)) := by simpa [Addr.add, q0] using hrb
    have HRB := Lib.hid hrb'
    clear hrb hrb'
    have cJ := join_any i (n - q) (zs.take i) (zs.drop q) HWL.out.1 HWL.out.2 (some ⟨b, off, none⟩) (some ⟨b, off + q, none⟩) c (c - q) w.drew HRA.out HRB.out (by omega) (by omega)
    generalize zs.take i ++ zs.drop q = ts at cJ ⊢
    go_enter Try.func18, Try.ntmps18
    go_wp2
    go_still_tail 7, (by kernel_rfl)
    change wpList _ _ _ _ _ w.drew
    go_wp2_with fail
    refine cJ.mono ?_
    rintro e w1 ⟨A1, c1', rfl, o1, b1⟩
    have R : OutI ts w (.returned (.slice A1 ts.length c1')) w1 := out_drew (n := 1) ⟨A1, c1', rfl, o1, b1⟩
    clear o1 b1 cJ
    go_wp2
    go_ret
    exact R

end Go.Proofs.Ytcjcdlhmhhbkgaa

/- Contracts of chapter 3: the most cakes of a small field, the program. -/
import Derived.Test.YtiihenhddleooacFHold
import Derived.Test.YtiihenhddleooacFWords
namespace Go.Proofs.Ytiihenhddleooac
open Go.RowKit
set_option linter.unusedVariables false
set_option linter.unusedSimpArgs false
def cellRow (x y : Nat) (z : Int) : Nat → Int
  | 0 => z
  | k + 1 => bits .or .i64 (cellRow x y z k) (wrap64 (2 ^ (y * 5 + (x + k))))
def cellSetF (w x y : Nat) : Nat → Int
  | 0 => 0
  | j + 1 => cellRow x (y + j) (cellSetF w x y j) w
set_option maxRecDepth 100000 in
set_option maxHeartbeats 1000000 in
theorem iCell_any (cw ch x y : Nat) (hw : 1 ≤ cw ∧ cw ≤ 4) (hh : 1 ≤ ch ∧ ch ≤ 4) (hx : x ≤ 4) (hy : y ≤ 4) (w : World) :
    Calls Try.prog 54 #[.int .i64 (cw : Nat), .int .i64 (ch : Nat), .int .i64 (x : Nat), .int .i64 (y : Nat)] w fun e w' => e = .returned (.int .i64 (cellSetF cw x y ch)) ∧ w = w' := by
  obtain ⟨w1, w2⟩ := hw
  obtain ⟨h1, h2⟩ := hh
  go_enter Try.func54, Try.ntmps54
  go_wp2
  go_loop [9, 10] (fun s i => ∃ j : Nat, j ≤ ch ∧ i = .int .i64 ((y + j : Nat) : Int) ∧ s = .int .i64 (cellSetF cw x y j)) (fun _ i => y + ch - (intOf i).toNat)
  case atStart => exact ⟨0, Nat.zero_le _, by simp, rfl⟩
  case round =>
    obtain ⟨j, hj, rfl, rfl⟩ := hrel
    by_cases hlt : j < ch
    · have HJ : Hid (cellSetF cw x y (j + 1) = cellRow x (y + j) (cellSetF cw x y j) cw) := Lib.hid rfl
      generalize cellSetF cw x y j = Z at *
      go_wp2
      go_loop [9, 11] (fun s i => ∃ k : Nat, k ≤ cw ∧ i = .int .i64 ((x + k : Nat) : Int) ∧ s = .int .i64 (cellRow x (y + j) Z k)) (fun _ i => x + cw - (intOf i).toNat)
      case atStart => exact ⟨0, Nat.zero_le _, by simp, rfl⟩
      case round =>
        obtain ⟨k, hk, rfl, rfl⟩ := hrel
        by_cases hkt : k < cw
        · have HK : Hid (cellRow x (y + j) Z (k + 1) = bits .or .i64 (cellRow x (y + j) Z k) (wrap64 (2 ^ ((y + j) * 5 + (x + k))))) := Lib.hid rfl
          generalize cellRow x (y + j) Z k = Y at *
          go_wp2
          go_round
          case rel => exact ⟨k + 1, by omega, by first | go_num | (congr 1; simp; omega), by rw [HK.out]⟩
          case measure => simp [intOf]; omega
        · obtain rfl : k = cw := by omega
          go_wp2
          go_round
          case rel => exact ⟨j + 1, by omega, by first | go_num | (congr 1; simp; omega), by rw [HJ.out]⟩
          case measure => simp [intOf]; omega
    · obtain rfl : j = ch := by omega
      go_wp2
      go_ret
      exact ⟨rfl, rfl⟩
def apartF : List Int → Int → Int
  | [], _ => 0
  | s :: rest, t => if bits .and .i64 s t = 0 then (if apartF rest t < 1 + apartF rest (bits .or .i64 t s) then 1 + apartF rest (bits .or .i64 t s) else apartF rest t) else apartF rest t
theorem apartF_bd : ∀ (l : List Int) (t : Int), 0 ≤ apartF l t ∧ apartF l t ≤ (l.length : Int)
  | [], t => by simp [apartF]
  | s :: rest, t => by
    have h1 := apartF_bd rest t
    have h2 := apartF_bd rest (bits .or .i64 t s)
    unfold apartF
    simp only [List.length_cons]
    split
    · split <;> omega
    · omega
theorem iApart_nil (A : Option Addr) (c : Nat) (t : Int) (w : World) :
    Calls Try.prog 31 #[.slice A 0 c, .int .i64 t] w fun e w' => e = .returned (.int .i64 0) ∧ w = w' := by
  go_enter Try.func31, Try.ntmps31
  go_wp2
  go_ret
  exact ⟨rfl, rfl⟩
set_option maxRecDepth 100000 in
set_option maxHeartbeats 2000000 in
theorem iApart_any : ∀ (l : List Int) (n : Nat), l.length = n → n ≤ 1000 → ∀ (A : Option Addr) (c : Nat) (t : Int) (w : World), n ≤ c → c ≤ maxLen → Rd w w.heap.size A (ints l) →
    Calls Try.prog 31 #[.slice A n c, .int .i64 t] w fun e w' => e = .returned (.int .i64 (apartF l t)) ∧ ∃ q, w' = w.drewN q := by
  intro l
  induction l with
  | nil =>
    intro n hl hn A c t w h1 h2 hr
    obtain rfl : n = 0 := by simpa using hl.symm
    exact (iApart_nil A c t w).mono fun _ _ ⟨h, e⟩ => ⟨h, 0, e ▸ rfl⟩
  | cons s rest ih =>
    intro n hl hn A c t w h1 h2 hr
    obtain ⟨m, rfl⟩ : ∃ m, n = m + 1 := ⟨n - 1, by simp at hl; omega⟩
    have hlm : rest.length = m := by simpa using hl
    obtain ⟨b, off, z, rfl, hb, hz, hc⟩ := hr.int_ (k := 0) (by simp)
    have hzs : z = s := by have := hz.out; simp at this; exact this.symm
    subst hzs
    rw [Nat.add_zero] at hc
    have HR2 : Hid (∀ w' : World, (∃ q, w' = w.drewN q) → Rd w' w'.heap.size (some ⟨b, off + 1, none⟩) (ints rest)) := Lib.hid fun w' ⟨q, e⟩ hne => by
      subst e
      refine ⟨b, off + 1, rfl, hb, fun k x hk => ?_⟩
      obtain ⟨b', off', e, _, hcc⟩ := hr.at_ (k := k + 1) (x := x) (by simpa [ints] using hk)
      injection e with e
      injection e with e1 e2
      subst e1 e2
      rw [show off + 1 + k = off + (k + 1) by omega]
      exact hcc
    have HIH : Hid (∀ (w' : World) (t : Int), (∃ q, w' = w.drewN q) → Calls Try.prog 31 #[.slice (some ⟨b, off + 1, none⟩) m (c - 1), .int .i64 t] w' fun e w'' => e = .returned (.int .i64 (apartF rest t)) ∧ ∃ q, w'' = w'.drewN q) := Lib.hid fun w' t hw => ih m hlm (by omega) _ (c - 1) t w' (by omega) (by omega) (HR2.out w' hw)
    have hbd := apartF_bd rest t
    have hbd2 := apartF_bd rest (bits .or .i64 t z)
    rw [hlm] at hbd hbd2
    have HAP : Hid (apartF (z :: rest) t = if bits .and .i64 z t = 0 then (if apartF rest t < 1 + apartF rest (bits .or .i64 t z) then 1 + apartF rest (bits .or .i64 t z) else apartF rest t) else apartF rest t) := Lib.hid rfl
    have HNil : Hid (c = 1 → rest = []) := Lib.hid fun h => by cases rest with
      | nil => rfl
      | cons _ _ => simp at hlm; omega
    generalize apartF (z :: rest) t = R at *
    have e0 : (((m + 1 : Nat) : Int) == 0) = false := beq_eq_false_iff_ne.2 (by omega)
    clear ih hr hz hl hlm
    generalize hM : m + 1 = M at *
    have eM : M - 1 = m := by omega
    have hM1 : 1 ≤ M := by omega
    have HM := Lib.hid hM
    clear hM
    have hM2 : ¬ M = 0 := by omega
    have hM3 : (1 : Int) ≤ (c : Int) := by omega
    have hM4 : (1 : Int) ≤ (M : Int) := by omega
    have hM5 : (M : Int) - 1 = (m : Int) := by omega
    have hc0 : 0 < M := by omega
    by_cases hc1 : c = 1
    · subst hc1
      have hrn := HNil.out rfl
      subst hrn
      obtain rfl : m = 0 := by omega
      obtain rfl : M = 1 := by omega
      have HN1 := iApart_nil
      have w1 : IntKind.i64.wrap (1 + 0) = 1 := IntWalk.i64_in _ (by omega)
      by_cases ha : bits .and .i64 z t = 0
      · have hab : (bits .and .i64 z t == 0) = true := beq_iff_eq.2 ha
        have HT : Hid (R = 1) := Lib.hid (by rw [HAP.out, if_pos ha]; simp [apartF])
        go_enter Try.func31, Try.ntmps31
        go_wp2_with fail
        refine (iApart_nil _ _ _ _).mono ?_
        rintro e w' ⟨rfl, rfl⟩
        go_wp2
        refine wp_region_quiet_lit (by kernel_rfl) (by kernel_rfl) ?_
        repeat (go_big_quiet_step (fail))
        go_big_quiet_step ((go_at_call 31; exact quiet_same (iApart_nil _ _ _ _)))
        repeat (go_big_quiet_step (fail))
        refine wpQuiet_nil ?_
        intro _ hw'
        obtain ⟨nq, hw''⟩ := hw'
        subst hw''
        go_wp2
        go_ret
        exact ⟨ret_int HT.out.symm, _, rfl⟩
      · have hab : (bits .and .i64 z t == 0) = false := beq_eq_false_iff_ne.2 ha
        have HT : Hid (R = 0) := Lib.hid (by rw [HAP.out, if_neg ha]; rfl)
        go_enter Try.func31, Try.ntmps31
        go_wp2_with fail
        refine (iApart_nil _ _ _ _).mono ?_
        rintro e w' ⟨rfl, rfl⟩
        go_wp2
        go_ret
        exact ⟨ret_int HT.out.symm, 0, rfl⟩
    · by_cases ha : bits .and .i64 z t = 0
      · have hab : (bits .and .i64 z t == 0) = true := beq_iff_eq.2 ha
        by_cases hgt : apartF rest t < 1 + apartF rest (bits .or .i64 t z)
        · have HT : Hid (R = 1 + apartF rest (bits .or .i64 t z)) := Lib.hid (by rw [HAP.out, if_pos ha, if_pos hgt])
          generalize hP : apartF rest t = P at *
          generalize hQ : apartF rest (bits .or .i64 t z) = Q at *
          have HQ := Lib.hid hQ
          have HP := Lib.hid hP
          clear hP hQ
          go_enter Try.func31, Try.ntmps31
          go_wp2_with fail
          refine (HIH.out w t ⟨0, rfl⟩).mono ?_
          rintro e w2 ⟨rfl, q2, hw2⟩
          rw [HP.out]
          have hc2 : w2.cell? ⟨b, off, none⟩ = some (.int .i64 z) := by rw [hw2]; exact hc
          have HW2 := Lib.hid hw2
          have HC2 : Hid (∀ n : Nat, Calls Try.prog 31 #[.slice (some ⟨b, off + 1, none⟩) m (c - 1), .int .i64 (bits .or .i64 t z)] (w2.drewN n) fun e w'' => e = .returned (.int .i64 Q) ∧ ∃ q, w'' = (w2.drewN n).drewN q) := Lib.hid fun n => by
            have := HIH.out (w2.drewN n) (bits .or .i64 t z) ⟨q2 + n, by rw [HW2.out, World.drewN_drewN]⟩
            rw [HQ.out] at this
            exact this
          clear hw2 hc
          go_wp2
          refine wp_region_quiet_lit (by kernel_rfl) (by kernel_rfl) ?_
          repeat (go_big_quiet_step (fail))
          go_big_quiet_step ((go_at_call 31; exact quiet_draw (HC2.out _)))
          repeat (go_big_quiet_step (fail))
          refine wpQuiet_nil ?_
          intro _ hw'
          obtain ⟨nq, hw''⟩ := hw'
          subst hw''
          go_wp2
          go_ret
          exact ⟨ret_int HT.out.symm, _, by rw [HW2.out, World.drewN_drewN]⟩
        · have HT : Hid (R = apartF rest t) := Lib.hid (by rw [HAP.out, if_pos ha, if_neg hgt])
          have hgt2 : 1 + apartF rest (bits .or .i64 t z) ≤ apartF rest t := by omega
          generalize hP : apartF rest t = P at *
          generalize hQ : apartF rest (bits .or .i64 t z) = Q at *
          have HQ := Lib.hid hQ
          have HP := Lib.hid hP
          clear hP hQ
          go_enter Try.func31, Try.ntmps31
          go_wp2_with fail
          refine (HIH.out w t ⟨0, rfl⟩).mono ?_
          rintro e w2 ⟨rfl, q2, hw2⟩
          rw [HP.out]
          have hc2 : w2.cell? ⟨b, off, none⟩ = some (.int .i64 z) := by rw [hw2]; exact hc
          have HW2 := Lib.hid hw2
          have HC2 : Hid (∀ n : Nat, Calls Try.prog 31 #[.slice (some ⟨b, off + 1, none⟩) m (c - 1), .int .i64 (bits .or .i64 t z)] (w2.drewN n) fun e w'' => e = .returned (.int .i64 Q) ∧ ∃ q, w'' = (w2.drewN n).drewN q) := Lib.hid fun n => by
            have := HIH.out (w2.drewN n) (bits .or .i64 t z) ⟨q2 + n, by rw [HW2.out, World.drewN_drewN]⟩
            rw [HQ.out] at this
            exact this
          clear hw2 hc
          go_wp2
          refine wp_region_quiet_lit (by kernel_rfl) (by kernel_rfl) ?_
          repeat (go_big_quiet_step (fail))
          go_big_quiet_step ((go_at_call 31; exact quiet_draw (HC2.out _)))
          repeat (go_big_quiet_step (fail))
          refine wpQuiet_nil ?_
          intro _ hw'
          obtain ⟨nq, hw''⟩ := hw'
          subst hw''
          go_wp2
          go_ret
          exact ⟨ret_int HT.out.symm, _, by rw [HW2.out, World.drewN_drewN]⟩
      · have hab : (bits .and .i64 z t == 0) = false := beq_eq_false_iff_ne.2 ha
        have HT : Hid (R = apartF rest t) := Lib.hid (by rw [HAP.out, if_neg ha])
        · skip
          generalize hP : apartF rest t = P at *
          have HP := Lib.hid hP
          clear hP
          go_enter Try.func31, Try.ntmps31
          go_wp2_with fail
          refine (HIH.out w t ⟨0, rfl⟩).mono ?_
          rintro e w2 ⟨rfl, q2, hw2⟩
          rw [HP.out]
          have hc2 : w2.cell? ⟨b, off, none⟩ = some (.int .i64 z) := by rw [hw2]; exact hc
          have HW2 := Lib.hid hw2
          clear hw2 hc
          go_wp2
          go_ret
          exact ⟨ret_int HT.out.symm, _, HW2.out⟩

end Go.Proofs.Ytiihenhddleooac

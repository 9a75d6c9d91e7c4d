/- The law's own isIn. -/
import Derived.Test.YtiihenhddleooaaTLawD
import Derived.Test.YtiihenhddleooaaTGain
import Derived.Test.YtiihenhddleooaaVOrdS
namespace Go.Proofs.Ytiihenhddleooaa
open Go.RowKit
set_option linter.unusedVariables false
set_option linter.unusedSimpArgs false
theorem isIn_any (n : Nat) (hn : n ≤ 1048576) (l : List Int) (hl : l.length = n) (A : Option Addr) (c : Nat) (w : World) (B : Nat) (hr : Rd w B A (ints l)) (z : Int) :
    Calls Try.prog 30 #[.slice A n c, .int .i64 z] w fun e w' => e = .returned (.bool (memB l z)) ∧ w = w' := by
  have HL := Lib.hid hl
  clear hl
  go_enter Try.func30, Try.ntmps30
  go_wp2
  go_loop [5] (fun i => ∃ k : Nat, k ≤ n ∧ i = .int .i64 k ∧ ∀ j, j < k → l[j]? ≠ some z) (fun i => n - (intOf i).toNat)
  case atStart => exact ⟨0, Nat.zero_le _, rfl, fun j h => by omega⟩
  case round =>
    obtain ⟨k, hk, rfl, hno⟩ := hrel
    have HNO := Lib.hid hno
    clear hno
    by_cases hlt : k < n
    · obtain ⟨b, off, y, rfl, hb, hy, hc⟩ := hr.int_ (k := k) (by rw [HL.out]; exact hlt)
      by_cases he : y = z
      · subst he
        have HP : Hid (memB l y = true) := Lib.hid (decide_eq_true (List.mem_of_getElem? hy.out))
        go_wp2
        go_ret
        exact ⟨ret_bool HP.out.symm, rfl⟩
      · have hne : (y == z) = false := beq_eq_false_iff_ne.2 he
        go_wp2
        go_round
        case rel => exact ⟨k + 1, by omega, by go_num, fun j hj => by by_cases e : j = k; subst e; rw [hy.out]; intro h; injection h with h; exact he h; exact HNO.out j (by omega)⟩
        case measure => simp [intOf]; omega
    · have HP : Hid (memB l z = false) := Lib.hid (by
        refine decide_eq_false fun hm => ?_
        obtain ⟨j, hj⟩ := List.getElem?_of_mem hm
        exact HNO.out j (by have := (List.getElem?_eq_some_iff.1 hj).1; rw [HL.out] at this; omega) hj)
      go_wp2
      go_ret
      exact ⟨ret_bool HP.out.symm, rfl⟩
theorem winT_mem {bs : List Int} {n : Int} (h : aucB bs n = true) {j : Nat} (hj : j < bs.length) : memB (winT bs n) (j : Int) = decide (rkW bs j < n.toNat) := by
  unfold memB winT
  rw [h]
  exact decide_eq_decide.2 (mem_take hj)
theorem winT_len {bs : List Int} {n : Int} (h : aucB bs n = true) : (winT bs n).length = min n.toNat bs.length := by
  unfold winT
  rw [h]
  exact winF_len bs _
/-- who stands at a place among the winners -/
theorem winT_at {bs : List Int} {n : Int} {k : Nat} {z : Int} (h : aucB bs n = true) (hz : (winT bs n)[k]? = some z) : ∃ x : Nat, z = x ∧ x < bs.length ∧ rkW bs x = k ∧ k < n.toNat := by
  have e : winT bs n = nats ((wL bs).take n.toNat) := by unfold winT; rw [h]; rfl
  rw [e, nats, List.getElem?_map, List.getElem?_take] at hz
  split at hz
  · next hk =>
    cases hx : (wL bs)[k]? with
    | none => rw [hx] at hz; cases hz
    | some x =>
      rw [hx] at hz
      injection hz with hz
      obtain ⟨h1, h2⟩ := (wL_ok bs).of k x hx
      exact ⟨x, hz.symm, h1, h2, hk⟩
  · cases hz
/-- nobody wins twice -/
theorem winT_once {bs : List Int} {n : Int} {k : Nat} {z : Int} (h : aucB bs n = true) (hz : (winT bs n)[k]? = some z) : memB ((winT bs n).take k) z = false := by
  refine decide_eq_false fun hm => ?_
  obtain ⟨j, hj⟩ := List.mem_iff_getElem?.1 hm
  rw [List.getElem?_take] at hj
  split at hj
  · next hjk =>
    obtain ⟨x, rfl, _, hx, _⟩ := winT_at h hz
    obtain ⟨y, e, _, hy, _⟩ := winT_at h hj
    have : x = y := by omega
    subst this
    omega
  · cases hj

end Go.Proofs.Ytiihenhddleooaa

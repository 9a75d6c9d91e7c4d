/- Orders of indices, each once: the model. -/
import Derived.Test.YtiihenhddleooaaVOrd
import Derived.Test.YtiihenhddleooaaFValid
namespace Go.Proofs.Ytiihenhddleooaa
open Go.RowKit
set_option linter.unusedVariables false
set_option linter.unusedSimpArgs false
def plG (z : Int) : List Int → Nat → Int
  | [], _ => -1
  | y :: ys, i => if y = z then (i : Int) else plG z ys (i + 1)
def plF (l : List Int) (z : Int) : Int := plG z l 0
theorem plG_hit {z : Int} : ∀ {l : List Int} {k i : Nat}, l[k]? = some z → (∀ j, j < k → l[j]? ≠ some z) → plG z l i = ((i + k : Nat) : Int)
  | [], k, i, h, _ => by simp at h
  | y :: ys, 0, i, h, _ => by
    simp at h
    unfold plG
    rw [if_pos h]; rfl
  | y :: ys, k + 1, i, h, hn => by
    have h0 : y ≠ z := fun e => hn 0 (by omega) (by simp [e])
    unfold plG
    rw [if_neg h0, plG_hit (k := k) (by simpa using h) (fun j hj => by have := hn (j + 1) (by omega); simpa using this)]
    congr 1; omega
theorem plG_none {z : Int} : ∀ {l : List Int} {i : Nat}, z ∉ l → plG z l i = -1
  | [], i, _ => rfl
  | y :: ys, i, h => by
    simp only [List.mem_cons, not_or] at h
    unfold plG
    rw [if_neg (fun e => h.1 e.symm), plG_none h.2]
theorem plG_some {z : Int} : ∀ {l : List Int} {i : Nat}, z ∈ l → (i : Int) ≤ plG z l i ∧ plG z l i ≤ (i : Int) + (l.length : Int)
  | [], i, h => by simp at h
  | y :: ys, i, h => by
    unfold plG
    by_cases e : y = z
    · rw [if_pos e]; simp only [List.length_cons]; omega
    · rw [if_neg e]
      have hm : z ∈ ys := by
        rcases List.mem_cons.1 h with h | h
        · exact absurd h.symm e
        · exact h
      have := plG_some (i := i + 1) hm
      simp only [List.length_cons]
      omega
theorem plF_ge {l : List Int} {z : Int} : 0 ≤ plF l z ↔ memB l z = true := by
  unfold plF memB
  by_cases h : z ∈ l
  · have := plG_some (i := 0) h
    rw [decide_eq_true h]
    exact ⟨fun _ => rfl, fun _ => by omega⟩
  · rw [plG_none h, decide_eq_false h]; simp
theorem plF_bd {l : List Int} {z : Int} : -1 ≤ plF l z ∧ plF l z ≤ (l.length : Int) := by
  unfold plF
  by_cases h : z ∈ l
  · have := plG_some (i := 0) h; omega
  · rw [plG_none h]; omega
theorem plF_hit {l : List Int} {z : Int} {k : Nat} (h : l[k]? = some z) (hn : ∀ j, j < k → l[j]? ≠ some z) : plF l z = k := by
  unfold plF
  rw [plG_hit h hn]; simp
set_option maxHeartbeats 800000 in
theorem sPlace_any (n : Nat) (hn : n ≤ 1048576) (l : List Int) (hl : l.length = n) (A : Option Addr) (c : Nat) (w : World) (B : Nat) (hr : Rd w B A (ints l)) (z : Int) :
    Calls Try.prog 81 #[.slice A n c, .int .i64 z] w fun e w' => e = .returned (.int .i64 (plF l z)) ∧ w = w' := by
  have HL := Lib.hid hl
  clear hl
  go_enter Try.func81, Try.ntmps81
  go_wp2
  go_loop [5] (fun i => ∃ k : Nat, k ≤ n ∧ i = .int .i64 k ∧ ∀ j, j < k → l[j]? ≠ some z) (fun i => n - (intOf i).toNat)
  case atStart => exact ⟨0, Nat.zero_le _, rfl, fun j h => by omega⟩
  case round =>
    obtain ⟨k, hk, rfl, hno⟩ := hrel
    have HNO := Lib.hid hno
    clear hno
    by_cases hlt : k < n
    · obtain ⟨b, off, y, rfl, hb, hy, hc⟩ := hr.int_ (k := k) (by rw [HL.out]; exact hlt)
      by_cases he : y = z
      · subst he
        have HP := Lib.hid (plF_hit hy.out HNO.out)
        go_wp2
        go_ret
        exact ⟨ret_int HP.out.symm, rfl⟩
      · have hne : (y == z) = false := beq_eq_false_iff_ne.2 he
        go_wp2
        go_round
        case rel => exact ⟨k + 1, by omega, by go_num, fun j hj => by by_cases e : j = k; subst e; rw [hy.out]; intro h; injection h with h; exact he h; exact HNO.out j (by omega)⟩
        case measure => simp [intOf]; omega
    · have HP : Hid (plF l z = -1) := Lib.hid (by
        unfold plF
        refine plG_none fun hm => ?_
        obtain ⟨j, hj⟩ := List.getElem?_of_mem hm
        exact HNO.out j (by have := (List.getElem?_eq_some_iff.1 hj).1; rw [HL.out] at this; omega) hj)
      go_wp2
      go_ret
      exact ⟨ret_int HP.out.symm, rfl⟩
end Go.Proofs.Ytiihenhddleooaa

/- Chapter 8: the numbers of words, of the program. -/
import Derived.Test.YtggdnpaiaijhgaaBWordsI
namespace Go.Proofs.Ytggdnpaiaijhgaa
open Go.RowKit
set_option linter.unusedVariables false
set_option linter.unusedSimpArgs false
theorem numA_snoc (l : List UInt8) (b : UInt8) : numA (l ++ [b]) = numStep (numA l) b := by
  unfold numA
  rw [List.foldl_append]; rfl
set_option maxRecDepth 100000 in
set_option maxHeartbeats 2000000 in
theorem numberOf_any (l : List UInt8) (hl : l.length ≤ 4000000) (s : ByteArray) (hs : s = ⟨l.toArray⟩) (w : World) :
    Calls Try.prog 136 #[.string s] w fun e w' => e = .returned (.int .i64 (numW l)) ∧ w = w' := by
  have hn := size_of hs
  have HS := Lib.hid hs
  have hsl : s.toList = l := by rw [hs, ByteArray.toList_eq]
  clear hs
  go_enter Try.func136, Try.ntmps136
  go_wp2
  go_loop [3, 4] (fun v i => ∃ k : Nat, k ≤ l.length ∧ v = .int .i64 (numA (l.take k)) ∧ i = .int .i64 k) (fun _ i => l.length - (intOf i).toNat)
  case atStart => exact ⟨0, Nat.zero_le _, rfl, rfl⟩
  case round =>
    obtain ⟨k, hk, rfl, rfl⟩ := hrel
    by_cases hlt : k < l.length
    · have hks : k < s.size := by omega
      have hb := idx_of HS.out hks
      have hnx : numA (l.take (k + 1)) = numStep (numA (l.take k)) (s[k]'hks) := by rw [take_snoc hb, numA_snoc]
      have HNX := Lib.hid hnx
      clear hnx hb
      generalize numA (l.take k) = z at *
      by_cases he : s[k]'hks = 45
      · have heq : (((s[k]'hks).toNat : Int) == 45) = true := by rw [he]; rfl
        have HN2 : Hid (numA (l.take (k + 1)) = z) := Lib.hid (by rw [HNX.out, he]; rfl)
        clear he
        go_wp2
        go_round
        case rel => exact ⟨k + 1, by omega, by rw [HN2.out], by go_num⟩
        case measure => simp [intOf]; omega
      · have heq : (((s[k]'hks).toNat : Int) == 45) = false := beq_eq_false_iff_ne.2 fun e => he (UInt8.toNat_inj.1 (by have e2 : (45 : UInt8).toNat = 45 := rfl; omega))
        have HN2 : Hid (numA (l.take (k + 1)) = wrap64 (wrap64 (z * 10) + (((s[k]'hks).toNat : Int) - 48) % 256)) := Lib.hid (by rw [HNX.out]; unfold numStep; rw [if_neg he, IntWalk.i64_left, IntWalk.i64_left, IntKind.wrap_u8])
        clear he
        go_wp2
        go_round
        case rel => exact ⟨k + 1, by omega, by rw [HN2.out], by go_num⟩
        case measure => simp [intOf]; omega
    · obtain rfl : k = l.length := by omega
      rw [List.take_of_length_le (Nat.le_refl _)]
      by_cases h0 : l.length = 0
      · have hl0 : l = [] := List.eq_nil_of_length_eq_zero h0
        go_wp2
        go_ret
        exact ⟨by first | rfl | (rw [hl0]; rfl) | (simp [numW, numA]; done), rfl⟩
      · have hl0 : ¬ l = [] := fun e => h0 (by rw [e]; rfl)
        have hie : l.isEmpty = false := by cases l with | nil => exact absurd rfl hl0 | cons => rfl
        have hks : 0 < s.size := by omega
        have hb := idx_of HS.out hks
        by_cases he : s[0]'hks = 45
        · have heq : (((s[0]'hks).toNat : Int) == 45) = true := by rw [he]; rfl
          have HW : Hid (numW l = wrap64 (-(numA l))) := Lib.hid (by unfold numW; rw [List.head?_eq_getElem?, hb, he, if_pos rfl, IntWalk.i64_left])
          clear hb he
          go_wp2
          go_ret
          exact ⟨by rw [HW.out]; rfl, rfl⟩
        · have heq : (((s[0]'hks).toNat : Int) == 45) = false := beq_eq_false_iff_ne.2 fun e => he (UInt8.toNat_inj.1 (by have e2 : (45 : UInt8).toNat = 45 := rfl; omega))
          have HW : Hid (numW l = numA l) := Lib.hid (by unfold numW; rw [List.head?_eq_getElem?, hb, if_neg (fun e => he (by injection e))])
          clear hb he
          go_wp2
          go_ret
          exact ⟨by rw [HW.out]; rfl, rfl⟩

end Go.Proofs.Ytggdnpaiaijhgaa

/- Contracts of ColdestSpell: both programs go through the same states. -/
import Derived.Test.YthccmpbklhlohabTemps
namespace Go.Proofs.Ythccmpbklhlohab
open Go.RowKit
set_option linter.unusedVariables false
set_option linter.unusedSimpArgs false

/-- the state of the search: the sum of the hours from the begin on, the least sum so far, its first and its last hour. -/
structure Sp where
  sum : Int
  least : Int
  first : Int
  last : Int
def spStep (i k : Int) (z : Int) (s : Sp) : Sp :=
  if s.sum + z < s.least then ⟨s.sum + z, s.sum + z, i, k⟩ else ⟨s.sum + z, s.least, s.first, s.last⟩
/-- the inner loop: the hours from k on, d of them. -/
def spIn (zs : List Int) (i : Nat) : Nat → Nat → Sp → Sp
  | _, 0, s => s
  | k, d + 1, s => spIn zs i (k + 1) d (spStep i k (zs.getD k 0) s)
/-- the outer loop: the begins from i on, d of them. -/
def spOut (zs : List Int) : Nat → Nat → Sp → Sp
  | _, 0, s => s
  | i, d + 1, s => spOut zs (i + 1) d (spIn zs i i (zs.length - i) ⟨0, s.least, s.first, s.last⟩)
def spellS (zs : List Int) : Sp := spOut zs 0 zs.length ⟨0, zs.getD 0 0, 0, 0⟩
def spellF (zs : List Int) : Int := if decide (zs = []) || !tempsB zs then -1 else (spellS zs).first
def spellL (zs : List Int) : Int := if decide (zs = []) || !tempsB zs then -1 else (spellS zs).last
theorem spellF_ok {zs : List Int} (h : zs ≠ []) (g : tempsB zs = true) : spellF zs = (spellS zs).first := by unfold spellF; simp [h, g]
theorem spellL_ok {zs : List Int} (h : zs ≠ []) (g : tempsB zs = true) : spellL zs = (spellS zs).last := by unfold spellL; simp [h, g]
theorem spellF_no {zs : List Int} (h : zs = [] ∨ tempsB zs = false) : spellF zs = -1 := by unfold spellF; rcases h with h | h <;> simp [h]
theorem spellL_no {zs : List Int} (h : zs = [] ∨ tempsB zs = false) : spellL zs = -1 := by unfold spellL; rcases h with h | h <;> simp [h]
theorem spIn_succ {zs : List Int} {i k : Nat} {z : Int} (hz : zs[k]? = some z) (s : Sp) : spIn zs i k (zs.length - k) s = spIn zs i (k + 1) (zs.length - (k + 1)) (spStep i k z s) := by
  obtain ⟨hk, _⟩ := List.getElem?_eq_some_iff.1 hz
  rw [show zs.length - k = (zs.length - (k + 1)) + 1 by omega]
  show spIn zs i (k + 1) _ (spStep i k (zs.getD k 0) s) = _
  rw [List.getD_eq_getElem?_getD, hz]; rfl
theorem spIn_end {zs : List Int} {i k : Nat} (h : zs.length ≤ k) (s : Sp) : spIn zs i k (zs.length - k) s = s := by
  rw [show zs.length - k = 0 by omega]; rfl
theorem spOut_succ {zs : List Int} {i : Nat} (h : i < zs.length) (s : Sp) : spOut zs i (zs.length - i) s = spOut zs (i + 1) (zs.length - (i + 1)) (spIn zs i i (zs.length - i) ⟨0, s.least, s.first, s.last⟩) := by
  rw [show spOut zs i (zs.length - i) s = spOut zs i ((zs.length - (i + 1)) + 1) s by congr 1; omega]
  rfl
theorem spOut_end {zs : List Int} {i : Nat} (h : zs.length ≤ i) (s : Sp) : spOut zs i (zs.length - i) s = s := by
  rw [show zs.length - i = 0 by omega]; rfl

set_option maxHeartbeats 1000000 in
theorem iSpell_any (zs : List Int) (A : Option Addr) (c : Nat) (w : World) (B : Nat) (hr : Rd w B A (ints zs)) :
    Calls Try.prog 16 #[.slice A zs.length c] w fun e w' => e = .returned (.tuple #[.int .i64 (spellF zs), .int .i64 (spellL zs)]) ∧ w = w' := by
  by_cases hz : zs = []
  · rw [spellF_no (.inl hz), spellL_no (.inl hz)]
    subst hz
    have ht : tempsB [] = true := rfl
    go_enter Try.func16, Try.ntmps16
    go_wp2_with (go_at_call 45; refine (validTemps_any _ _ _ _ _ hr).mono ?_; rintro e w' ⟨rfl, rfl⟩)
    go_ret2
    exact ⟨rfl, rfl⟩
  · have hl0 : 0 < zs.length := List.length_pos_iff.2 hz
    have hq : ((zs.length : Int) == 0) = false := by simpa using hz
    cases hg : tempsB zs
    · rw [spellF_no (.inr hg), spellL_no (.inr hg)]
      clear hz
      go_enter Try.func16, Try.ntmps16
      go_wp2_with (go_at_call 45; refine (validTemps_any _ _ _ _ _ hr).mono ?_; rintro e w' ⟨rfl, rfl⟩)
      go_ret2
      exact ⟨rfl, rfl⟩
    · rw [spellF_ok hz hg, spellL_ok hz hg]
      have hl := tempsB_len hg
      have Ht := Lib.hid hg
      obtain ⟨b, off, z0, rfl, hb, hz0, hc0⟩ := hr.int_ hl0
      have Hz : Hid (zs.getD 0 0 = z0) := Lib.hid (by rw [List.getD_eq_getElem?_getD, hz0.out]; rfl)
      rw [show off + 0 = off from rfl] at hc0
      have hz0b := tempsB_at Ht.out hz0.out
      clear hz hz0
      go_enter Try.func16, Try.ntmps16
      go_wp2_with (go_at_call 45; refine (validTemps_any _ _ _ _ _ hr).mono ?_; rintro e w' ⟨rfl, rfl⟩)
      go_loop [4, 5, 6, 23] (fun fi la le i => ∃ (k : Nat) (s : Sp), k ≤ zs.length ∧ i = .int .i64 k ∧ fi = .int .i64 s.first ∧ la = .int .i64 s.last ∧ le = .int .i64 s.least ∧ spellS zs = spOut zs k (zs.length - k) s) (fun _ _ _ i => zs.length - (intOf i).toNat)
      case atStart => exact ⟨0, ⟨0, z0, 0, 0⟩, Nat.zero_le _, rfl, rfl, rfl, rfl, by rw [← Hz.out]; rfl⟩
      case round =>
        obtain ⟨k, ⟨s0, s1, s2, s3⟩, hk, rfl, rfl, rfl, rfl, hs⟩ := hrel
        have Hs := Lib.hid hs
        clear hs
        by_cases hlt : k < zs.length
        · go_wp2
          go_loop [4, 5, 6, 8, 9] (fun fi la le su j => ∃ (d : Nat) (s : Sp), k ≤ d ∧ d ≤ zs.length ∧ j = .int .i64 d ∧ fi = .int .i64 s.first ∧ la = .int .i64 s.last ∧ le = .int .i64 s.least ∧ su = .int .i64 s.sum ∧ -400 * ((d : Int) - k) ≤ s.sum ∧ s.sum ≤ 400 * ((d : Int) - k) ∧
              spIn zs k k (zs.length - k) ⟨0, s1, s2, s3⟩ = spIn zs k d (zs.length - d) s) (fun _ _ _ _ j => zs.length - (intOf j).toNat)
          case atStart => exact ⟨k, ⟨0, s1, s2, s3⟩, Nat.le_refl _, by omega, rfl, rfl, rfl, rfl, rfl, by simp, by simp, rfl⟩
          case round =>
            obtain ⟨d, ⟨x0, x1, x2, x3⟩, hkd, hd, rfl, rfl, rfl, rfl, rfl, hlo, hhi, hx⟩ := hrel
            have Hx := Lib.hid hx
            clear hx
            simp only at hlo hhi
            by_cases hld : d < zs.length
            · obtain ⟨b', off', z, hA, hb', hzd, hcd⟩ := hr.int_ hld
              obtain ⟨rfl, rfl⟩ : b = b' ∧ off = off' := by simpa using hA
              clear hA
              have hzb := tempsB_at Ht.out hzd.out
              by_cases hless : x0 + z < x1
              · go_wp2
                go_round
                case rel =>
                  refine ⟨d + 1, ⟨x0 + z, x0 + z, k, d⟩, by omega, by omega, by go_num, rfl, rfl, rfl, rfl, by simp only; omega, by simp only; omega, ?_⟩
                  rw [Hx.out, spIn_succ hzd.out]
                  unfold spStep
                  rw [if_pos hless]
                case measure => simp [intOf]; omega
              · go_wp2
                go_round
                case rel =>
                  refine ⟨d + 1, ⟨x0 + z, x1, x2, x3⟩, by omega, by omega, by go_num, rfl, rfl, rfl, rfl, by simp only; omega, by simp only; omega, ?_⟩
                  rw [Hx.out, spIn_succ hzd.out]
                  unfold spStep
                  rw [if_neg hless]
                case measure => simp [intOf]; omega
            · go_wp2
              go_round
              case rel =>
                refine ⟨k + 1, ⟨x0, x1, x2, x3⟩, by omega, by go_num, rfl, rfl, rfl, ?_⟩
                rw [Hs.out, spOut_succ hlt, Hx.out, spIn_end (by omega)]
              case measure => simp [intOf]; omega
        · go_wp2
          go_ret2
          have h := Hs.out
          rw [spOut_end (by omega)] at h
          rw [h]
          exact ⟨rfl, rfl⟩

set_option maxHeartbeats 1000000 in
theorem sSpell_any (zs : List Int) (A : Option Addr) (c : Nat) (w : World) (B : Nat) (hr : Rd w B A (ints zs)) :
    Calls Try.prog 17 #[.slice A zs.length c] w fun e w' => e = .returned (.tuple #[.int .i64 (spellF zs), .int .i64 (spellL zs)]) ∧ w = w' := by
  by_cases hz : zs = []
  · rw [spellF_no (.inl hz), spellL_no (.inl hz)]
    subst hz
    have ht : tempsB [] = true := rfl
    go_enter Try.func17, Try.ntmps17
    go_wp2_with (go_at_call 46; refine (validHours_any [] _ _ _ _ hr).mono ?_; rintro e w' ⟨rfl, rfl⟩)
    go_ret2
    exact ⟨rfl, rfl⟩
  · have hl0 : 0 < zs.length := List.length_pos_iff.2 hz
    have hq : ((zs.length : Int) == 0) = false := by simpa using hz
    cases hg : tempsB zs
    · rw [spellF_no (.inr hg), spellL_no (.inr hg)]
      clear hz
      go_enter Try.func17, Try.ntmps17
      go_wp2_with (go_at_call 46; refine (validHours_any _ _ _ _ _ hr).mono ?_; rintro e w' ⟨rfl, rfl⟩)
      go_ret2
      exact ⟨rfl, rfl⟩
    · rw [spellF_ok hz hg, spellL_ok hz hg]
      have hl := tempsB_len hg
      have Ht := Lib.hid hg
      obtain ⟨b, off, z0, rfl, hb, hz0, hc0⟩ := hr.int_ hl0
      have Hz : Hid (zs.getD 0 0 = z0) := Lib.hid (by rw [List.getD_eq_getElem?_getD, hz0.out]; rfl)
      rw [show off + 0 = off from rfl] at hc0
      have hz0b := tempsB_at Ht.out hz0.out
      clear hz hz0
      go_enter Try.func17, Try.ntmps17
      go_wp2_with (go_at_call 46; refine (validHours_any _ _ _ _ _ hr).mono ?_; rintro e w' ⟨rfl, rfl⟩)
      go_loop [4, 5, 6, 7] (fun fi la le i => ∃ (k : Nat) (s : Sp), k ≤ zs.length ∧ i = .int .i64 k ∧ fi = .int .i64 s.first ∧ la = .int .i64 s.last ∧ le = .int .i64 s.least ∧ spellS zs = spOut zs k (zs.length - k) s) (fun _ _ _ i => zs.length - (intOf i).toNat)
      case atStart => exact ⟨0, ⟨0, z0, 0, 0⟩, Nat.zero_le _, rfl, rfl, rfl, rfl, by rw [← Hz.out]; rfl⟩
      case round =>
        obtain ⟨k, ⟨s0, s1, s2, s3⟩, hk, rfl, rfl, rfl, rfl, hs⟩ := hrel
        have Hs := Lib.hid hs
        clear hs
        by_cases hlt : k < zs.length
        · go_wp2
          go_loop [4, 5, 6, 8, 9] (fun fi la le su j => ∃ (d : Nat) (s : Sp), k ≤ d ∧ d ≤ zs.length ∧ j = .int .i64 d ∧ fi = .int .i64 s.first ∧ la = .int .i64 s.last ∧ le = .int .i64 s.least ∧ su = .int .i64 s.sum ∧ -400 * ((d : Int) - k) ≤ s.sum ∧ s.sum ≤ 400 * ((d : Int) - k) ∧
              spIn zs k k (zs.length - k) ⟨0, s1, s2, s3⟩ = spIn zs k d (zs.length - d) s) (fun _ _ _ _ j => zs.length - (intOf j).toNat)
          case atStart => exact ⟨k, ⟨0, s1, s2, s3⟩, Nat.le_refl _, by omega, rfl, rfl, rfl, rfl, rfl, by simp, by simp, rfl⟩
          case round =>
            obtain ⟨d, ⟨x0, x1, x2, x3⟩, hkd, hd, rfl, rfl, rfl, rfl, rfl, hlo, hhi, hx⟩ := hrel
            have Hx := Lib.hid hx
            clear hx
            simp only at hlo hhi
            by_cases hld : d < zs.length
            · obtain ⟨b', off', z, hA, hb', hzd, hcd⟩ := hr.int_ hld
              obtain ⟨rfl, rfl⟩ : b = b' ∧ off = off' := by simpa using hA
              clear hA
              have hzb := tempsB_at Ht.out hzd.out
              by_cases hless : x0 + z < x1
              · go_wp2
                go_round
                case rel =>
                  refine ⟨d + 1, ⟨x0 + z, x0 + z, k, d⟩, by omega, by omega, by go_num, rfl, rfl, rfl, rfl, by simp only; omega, by simp only; omega, ?_⟩
                  rw [Hx.out, spIn_succ hzd.out]
                  unfold spStep
                  rw [if_pos hless]
                case measure => simp [intOf]; omega
              · go_wp2
                go_round
                case rel =>
                  refine ⟨d + 1, ⟨x0 + z, x1, x2, x3⟩, by omega, by omega, by go_num, rfl, rfl, rfl, rfl, by simp only; omega, by simp only; omega, ?_⟩
                  rw [Hx.out, spIn_succ hzd.out]
                  unfold spStep
                  rw [if_neg hless]
                case measure => simp [intOf]; omega
            · go_wp2
              go_round
              case rel =>
                refine ⟨k + 1, ⟨x0, x1, x2, x3⟩, by omega, by go_num, rfl, rfl, rfl, ?_⟩
                rw [Hs.out, spOut_succ hlt, Hx.out, spIn_end (by omega)]
              case measure => simp [intOf]; omega
        · go_wp2
          go_ret2
          have h := Hs.out
          rw [spOut_end (by omega)] at h
          rw [h]
          exact ⟨rfl, rfl⟩

end Go.Proofs.Ythccmpbklhlohab

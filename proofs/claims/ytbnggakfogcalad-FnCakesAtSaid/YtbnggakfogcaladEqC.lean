/- Comparing two lists of cakes: a list and itself. -/
import Derived.Test.YtbnggakfogcaladCWords
import Derived.Test.YtbnggakfogcaladHelps
namespace Go.Proofs.Ytbnggakfogcalad
open Go.RowKit
set_option linter.unusedVariables false
set_option linter.unusedSimpArgs false
theorem cake_same {cs : List (Int × Int)} {k : Nat} {x y u v : Int} (h1 : cs[k]? = some (x, y)) (h2 : cs[k]? = some (u, v)) : x = u ∧ y = v := by
  rw [h1] at h2
  injection h2 with h2
  injection h2 with h3 h4
  exact ⟨h3, h4⟩
set_option maxRecDepth 100000 in
set_option maxHeartbeats 1000000 in
theorem equalCakes_same (cs : List (Int × Int)) (n : Nat) (hl : cs.length = n) (A A' : Option Addr) (c c' : Nat) (w : World) (B : Nat) (hr : Rd w B A (cakeV cs)) (hr' : Rd w B A' (cakeV cs)) (hn : n ≤ 1048576) :
    Calls Try.prog 49 #[.slice A n c, .slice A' n c'] w fun e w' => e = .returned (.bool true) ∧ ∃ n, w' = w.drewN n := by
  have HL := Lib.hid hl
  clear hl
  go_enter Try.func49, Try.ntmps49
  go_wp2
  go_loopw [5] (fun i wr => ∃ k : Nat, k ≤ n ∧ i = .int .i64 k ∧ ∃ m, wr = w.drewN m) (fun i _ => n - (intOf i).toNat)
  case atStart => exact ⟨0, Nat.zero_le _, rfl, 0, rfl⟩
  case round =>
    obtain ⟨k, hk, rfl, m, rfl⟩ := hrel
    by_cases hlt : k < n
    · obtain ⟨b, off, x, y, rfl, hb, hz, hc1, hc2⟩ := hr.cake_ (k := k) (by rw [HL.out]; exact hlt)
      obtain ⟨b', off', u, v, rfl, hb', hz', hc3, hc4⟩ := hr'.cake_ (k := k) (by rw [HL.out]; exact hlt)
      obtain ⟨rfl, rfl⟩ := cake_same hz.out hz'.out
      clear hz hz'
      go_wp2
      go_quiet (fail)
      go_wp2
      go_roundw
      case rel => exact ⟨k + 1, by omega, by go_num, _, rfl⟩
      case measure => simp [intOf]; omega
    · go_wp2
      go_ret
      exact ⟨rfl, _, rfl⟩

end Go.Proofs.Ytbnggakfogcalad

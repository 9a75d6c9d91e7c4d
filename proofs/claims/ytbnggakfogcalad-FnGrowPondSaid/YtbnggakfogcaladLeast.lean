/- Contract of leastOpen: the open cell with the least risk. -/
import Derived.Test.YtbnggakfogcaladNarrowsS
namespace Go.Proofs.Ytbnggakfogcalad
open Go.RowKit
set_option linter.unusedVariables false
set_option linter.unusedSimpArgs false
set_option maxRecDepth 100000 in
set_option maxHeartbeats 1000000 in
theorem leastOpen_any (n : Nat) (rs : List Int) (dn : List Bool) (hrl : rs.length = n) (hdl : dn.length = n) (A D : Option Addr) (ca cd : Nat) (w : World) (B : Nat) (hr : Rd w B A (ints rs)) (hd : Rd w B D (bools dn)) (hn : n ≤ 1000) :
    Calls Try.prog 115 #[.slice A n ca, .slice D n cd] w fun e w' => (∃ l, e = .returned (.int .i64 l) ∧ Least rs dn n l) ∧ w = w' := by
  have HRL := Lib.hid hrl
  have HDL := Lib.hid hdl
  clear hrl hdl
  go_enter Try.func115, Try.ntmps115
  go_wp2
  go_loop [5, 10] (fun v i => ∃ (k : Nat) (l : Int), k ≤ n ∧ i = .int .i64 k ∧ v = .int .i64 l ∧ Least rs dn k l) (fun _ i => n - (intOf i).toNat)
  case atStart => exact ⟨0, -1, Nat.zero_le _, rfl, rfl, .inl ⟨rfl, fun i hi => by omega⟩⟩
  case round =>
    obtain ⟨k, l, hk, rfl, rfl, hl⟩ := hrel
    by_cases hlt : k < n
    · obtain ⟨b, off, rfl, hb, hc⟩ := rd_num hr (k := k) (by rw [HRL.out]; exact hlt)
      obtain ⟨bd, od, rfl, hbd, hcd⟩ := hd.bool_ (k := k) (by rw [HDL.out]; exact hlt)
      by_cases h0 : at_ rs k < 0
      · have R := Lib.hid (hl.skip (fun h => by omega))
        clear hl
        go_wp2
        go_round
        case rel => exact ⟨k + 1, l, by omega, by go_num, rfl, R.out⟩
        case measure => simp [intOf]; omega
      · have h0' : 0 ≤ at_ rs k := by omega
        cases hq : isd dn k
        · rw [hq] at hcd
          have Hq := Lib.hid hq
          clear hq
          rcases hl with ⟨rfl, h1⟩ | ⟨c, rfl, hc', hc0, hco, h1⟩
          · have R := Lib.hid (Least.take (.inl ⟨rfl, h1⟩) h0' Hq.out (fun c h => by omega))
            clear h1
            go_wp2
            go_round
            case rel => exact ⟨k + 1, _, by omega, by go_num, rfl, R.out⟩
            case measure => simp [intOf]; omega
          · obtain ⟨b2, off2, e2, _, hcc⟩ := rd_num hr (k := c) (by rw [HRL.out]; omega)
            injection e2 with e2
            injection e2 with e3 e4
            subst e3 e4
            by_cases hlt2 : at_ rs k < at_ rs c
            · have R := Lib.hid (Least.take (.inr ⟨c, rfl, hc', hc0, hco, h1⟩) h0' Hq.out (fun d h => (show d = c by omega) ▸ (by omega)))
              clear h1 hco
              go_wp2
              go_round
              case rel => exact ⟨k + 1, _, by omega, by go_num, rfl, R.out⟩
              case measure => simp [intOf]; omega
            · have R := Lib.hid (Least.skip (k := k) (.inr ⟨c, rfl, hc', hc0, hco, h1⟩) (fun _ _ => ⟨c, rfl, by omega⟩))
              clear h1 hco
              go_wp2
              go_round
              case rel => exact ⟨k + 1, _, by omega, by go_num, rfl, R.out⟩
              case measure => simp [intOf]; omega
        · rw [hq] at hcd
          have R := Lib.hid (hl.skip (fun _ h => by rw [hq] at h; cases h))
          clear hl hq
          go_wp2
          go_round
          case rel => exact ⟨k + 1, l, by omega, by go_num, rfl, R.out⟩
          case measure => simp [intOf]; omega
    · obtain rfl : k = n := by omega
      have R := Lib.hid hl
      clear hl
      go_wp2
      go_ret
      exact ⟨⟨l, rfl, R.out⟩, rfl⟩

end Go.Proofs.Ytbnggakfogcalad

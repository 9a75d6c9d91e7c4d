/- Chapter 8: which events can be written, of the program. -/
import Derived.Test.YtggdnpaiaijhgaaBEvI
import Derived.Test.YtggdnpaiaijhgaaBOpn
namespace Go.Proofs.Ytggdnpaiaijhgaa
open Go.RowKit
set_option linter.unusedVariables false
set_option linter.unusedSimpArgs false
theorem wr_is {z : Int} {q : Bool} (h : inB z (-999999) 999999 = q) (w : World) : Calls Try.prog 111 #[.int .i64 z] w fun e w' => e = .returned (.bool q) ∧ w = w' := by
  rw [← h]; exact writable_any z w
set_option maxRecDepth 100000 in
set_option maxHeartbeats 2000000 in
theorem hasText_any (e : Ev) (A : Option Addr) (c : Nat) (w : World) (hr : Rd w w.heap.size A (ints e.ts)) (hm : e.ts.length ≤ 4000000) :
    Calls Try.prog 78 #[evV e A c] w fun e' w' => e' = .returned (.bool (evB e)) ∧ Below w.heap.size w w' := by
  obtain ⟨k, ts, x, n, p⟩ := e
  unfold evV
  simp only at *
  obtain ⟨m, hl⟩ : ∃ m, ts.length = m := ⟨_, rfl⟩
  rw [hl] at hm ⊢
  have HL := Lib.hid hl
  have HB := Lib.hid (((Below.refl w.heap.size w)).alloc (Nat.le_refl _) (.cells #[.int .i64 k, .slice A m c, .int .i64 x, .int .i64 n, .int .i64 p] 43))
  clear hl
  go_enter Try.func78, Try.ntmps78
  go_wp2
  go_loop [8] (fun i => ∃ j : Nat, j ≤ m ∧ i = .int .i64 j ∧ okTs (ts.take j) = true) (fun i => m - (intOf i).toNat)
  case atStart => exact ⟨0, Nat.zero_le _, rfl, rfl⟩
  case round =>
    obtain ⟨j, hj, rfl, hok⟩ := hrel
    by_cases hlt : j < m
    · obtain ⟨b, off, z, rfl, hb, hz, hc0⟩ := hr.int_ (k := j) (by rw [HL.out]; exact hlt)
      have hc : ∀ o, (w.alloc o).cell? ⟨b, off + j, none⟩ = some (.int .i64 z) := fun o => by rw [World.cell?_alloc_lt w o _ hb]; exact hc0
      have HOK := Lib.hid hok
      clear hok hc0
      cases hq : inB z (-999999) 999999
      · have HE : Hid (evB ⟨k, ts, x, n, p⟩ = false) := Lib.hid (by
          have : okTs ts = false := by
            cases h : okTs ts with
            | false => rfl
            | true => exact absurd (okTs_at h (List.mem_of_getElem? hz.out)) (inB_f hq)
          unfold evB; rw [this]; simp)
        go_wp2_with fail
        refine (wr_is hq _).mono ?_
        rintro e w' ⟨rfl, rfl⟩
        go_wp2
        go_ret
        exact ⟨by rw [HE.out]; rfl, HB.out⟩
      · skip
        go_wp2_with fail
        refine (wr_is hq _).mono ?_
        rintro e w' ⟨rfl, rfl⟩
        go_wp2
        go_round
        case rel => exact ⟨j + 1, by omega, by go_num, by rw [take_snoc hz.out]; have := HOK.out; unfold okTs at this ⊢; rw [List.all_append, this]; simpa using hq⟩
        case measure => simp [intOf]; omega
    · obtain rfl : j = m := by omega
      rw [List.take_of_length_le (by rw [HL.out]; exact Nat.le_refl _)] at hok
      have HT := Lib.hid hok
      clear hok hr
      by_cases hx0 : 0 ≤ x
      · cases hx : inB x (-999999) 999999
        · have HE : Hid (evB ⟨k, ts, x, n, p⟩ = false) := Lib.hid (by unfold evB; rw [show inB x 0 999999 = false from inB_nk (fun g => inB_f hx ⟨by omega, g.2⟩)]; simp)
          have cx := wr_is hx
          go_wp2_with fail
          refine (cx _).mono ?_
          rintro e w' ⟨rfl, rfl⟩
          go_wp2
          go_ret
          exact ⟨by rw [HE.out]; rfl, HB.out⟩
        · skip
          by_cases hn0 : 0 ≤ n
          · cases hn : inB n (-999999) 999999
            · have HE : Hid (evB ⟨k, ts, x, n, p⟩ = false) := Lib.hid (by unfold evB; rw [show inB n 0 999999 = false from inB_nk (fun g => inB_f hn ⟨by omega, g.2⟩)]; simp)
              have cx := wr_is hx
              have cn := wr_is hn
              go_wp2_with fail
              refine (cx _).mono ?_
              rintro e w' ⟨rfl, rfl⟩
              go_wp2_with fail
              refine (cn _).mono ?_
              rintro e w' ⟨rfl, rfl⟩
              go_wp2
              go_ret
              exact ⟨by rw [HE.out]; rfl, HB.out⟩
            · skip
              by_cases hp0 : 0 ≤ p
              · cases hp : inB p (-999999) 999999
                · have HE : Hid (evB ⟨k, ts, x, n, p⟩ = false) := Lib.hid (by unfold evB; rw [show inB p 0 999999 = false from inB_nk (fun g => inB_f hp ⟨by omega, g.2⟩)]; simp)
                  have cx := wr_is hx
                  have cn := wr_is hn
                  have cp := wr_is hp
                  go_wp2_with fail
                  refine (cx _).mono ?_
                  rintro e w' ⟨rfl, rfl⟩
                  go_wp2_with fail
                  refine (cn _).mono ?_
                  rintro e w' ⟨rfl, rfl⟩
                  go_wp2_with fail
                  refine (cp _).mono ?_
                  rintro e w' ⟨rfl, rfl⟩
                  go_wp2
                  go_ret
                  exact ⟨by rw [HE.out]; rfl, HB.out⟩
                · skip
                  have HE : Hid (evB ⟨k, ts, x, n, p⟩ = true) := Lib.hid (by unfold evB; rw [HT.out, inB_mk ⟨hx0, (inB_t hx).2⟩, inB_mk ⟨hn0, (inB_t hn).2⟩, inB_mk ⟨hp0, (inB_t hp).2⟩]; rfl)
                  have cx := wr_is hx
                  have cn := wr_is hn
                  have cp := wr_is hp
                  go_wp2_with fail
                  refine (cx _).mono ?_
                  rintro e w' ⟨rfl, rfl⟩
                  go_wp2_with fail
                  refine (cn _).mono ?_
                  rintro e w' ⟨rfl, rfl⟩
                  go_wp2_with fail
                  refine (cp _).mono ?_
                  rintro e w' ⟨rfl, rfl⟩
                  go_wp2
                  go_ret
                  exact ⟨by rw [HE.out]; rfl, HB.out⟩
              · have HE : Hid (evB ⟨k, ts, x, n, p⟩ = false) := Lib.hid (by unfold evB; rw [show inB p 0 999999 = false from inB_nk (fun g => hp0 g.1)]; simp)
                have cx := wr_is hx
                have cn := wr_is hn
                go_wp2_with fail
                refine (cx _).mono ?_
                rintro e w' ⟨rfl, rfl⟩
                go_wp2_with fail
                refine (cn _).mono ?_
                rintro e w' ⟨rfl, rfl⟩
                go_wp2
                go_ret
                exact ⟨by rw [HE.out]; rfl, HB.out⟩
          · have HE : Hid (evB ⟨k, ts, x, n, p⟩ = false) := Lib.hid (by unfold evB; rw [show inB n 0 999999 = false from inB_nk (fun g => hn0 g.1)]; simp)
            have cx := wr_is hx
            go_wp2_with fail
            refine (cx _).mono ?_
            rintro e w' ⟨rfl, rfl⟩
            go_wp2
            go_ret
            exact ⟨by rw [HE.out]; rfl, HB.out⟩
      · have HE : Hid (evB ⟨k, ts, x, n, p⟩ = false) := Lib.hid (by unfold evB; rw [show inB x 0 999999 = false from inB_nk (fun g => hx0 g.1)]; simp)
        go_wp2
        go_ret
        exact ⟨by rw [HE.out]; rfl, HB.out⟩

end Go.Proofs.Ytggdnpaiaijhgaa

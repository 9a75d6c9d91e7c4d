/- The generators of chapter 1 by contracts: what is drawn is an integer in a range, or a list of some integers in memory of its own; what was there stays, but for the reader. -/
import Derived.Test.YtbnggakfogcaladReader
namespace Go.Proofs.Ytbnggakfogcalad
open Go.RowKit
set_option linter.unusedVariables false
set_option linter.unusedSimpArgs false

def MassPost (w : World) (B g : Nat) (p : Nat) (e : Ending) (w' : World) : Prop :=
  ∃ z, e = .returned (.int .i64 z) ∧ -1 ≤ z ∧ z ≤ 998002 ∧ Rdr w' B g (p + 3) ∧ w.grownBy w' (some g)

/-- A list of few integers in memory of the call's own. -/
def HoursPost (w : World) (B g : Nat) (p : Nat) (e : Ending) (w' : World) : Prop :=
  ∃ (zs : List Int) (A : Option Addr) (c q : Nat), e = .returned (.slice A zs.length c) ∧ zs.length ≤ 12 ∧ (∀ z ∈ zs, -1000 ≤ z ∧ z ≤ 1000) ∧ w'.ownsRow w.heap.size 3 1 (.slice A zs.length c) zs.length (ints zs) ∧
    q ≤ p + 100 ∧ Rdr w' B g q ∧ w.grownBy w' (some g)
def someRel (w : World) (B g p : Nat) (v n : Value) (wr : World) : Prop :=
  ∃ (j : Nat) (zs : List Int) (q : Nat), n = .int .i64 j ∧ j + zs.length ≤ 12 ∧ (∀ z ∈ zs, -1000 ≤ z ∧ z ≤ 1000) ∧ wr.ownsRow w.heap.size 3 1 v zs.length (ints zs) ∧
    q + 3 * j ≤ p + 50 ∧ Rdr wr B g q ∧ w.grownBy wr (some g)

set_option maxRecDepth 100000 in
set_option maxHeartbeats 1000000 in
theorem someHours_any (w : World) (B g p : Nat) (h : Rdr w B g p) (hp : p < 900000) :
    Calls Try.prog 85 #[.pointer (some ⟨g, 0, none⟩)] w (HoursPost w B g p) := by
  obtain ⟨i0, hi, hz0, hz1, hz2⟩ := info_parts info_int
  have hlt0 := h.lt
  go_enter Try.func85, Try.ntmps85
  go_wp2_with fail
  refine (one_any [5, 8, 3, 12, 1, 0] 6 rfl _ _ _ _ _ ((h.alloc _).alloc _) (by omega) (by omega) (by omega) (alloc_at (by simp)) (by simp; omega)).mono ?_
  rintro e w1 ⟨n, rfl, hmn, r1, g1⟩
  have hbn : 0 ≤ n ∧ n ≤ 12 := by simp only [List.mem_cons, List.not_mem_nil, or_false] at hmn; omega
  clear hmn
  obtain ⟨j0, rfl⟩ := Int.eq_ofNat_of_zero_le hbn.1
  have o0 : w1.ownsRow w.heap.size 3 1 (.slice (some ⟨w.heap.size, 0, none⟩) 0 0) 0 (ints []) := own_only ((own_empty w 3).alloc _) g1 hlt0
  go_wp2
  go_loopw [3, 4] (fun v n wr => someRel w B g p v n wr) (fun _ n _ => (intOf n).toNat)
  case atStart => exact ⟨j0, [], p + 1, rfl, by simp; omega, by simp, o0, by omega, r1, only_trans (only_alloc (only_alloc (only_refl _ _) _) _) g1⟩
  case round =>
    obtain ⟨j, zs, q, rfl, hj, hzs, hown, hq, hR, hG⟩ := hrel
    have hsz := hG.size
    by_cases hlt : 0 < j
    · have hlt' : (0 : Int) < (j : Int) := by omega
      go_wp2_with fail
      refine (pick_any _ _ _ _ _ hR (by omega) (by omega)).mono ?_
      rintro e w2 ⟨a, rfl, a0, a1, r2, g2⟩
      go_wp2_with fail
      refine (pick_any _ _ _ _ _ r2 (by omega) (by omega)).mono ?_
      rintro e w3 ⟨b, rfl, b0, b1, r3, g3⟩
      go_wp2_with fail
      refine (one_any [-50, -10 * a, 30, 0, b, -200, 19, 400] 8 rfl _ _ _ _ _ (r3.alloc _) (by omega) (by omega) (by omega) (alloc_at (by simp)) (by have := r3.lt; omega)).mono ?_
      rintro e w4 ⟨y, rfl, hmy, rw4, gw4⟩
      have hby : -1000 ≤ y ∧ y ≤ 1000 := by simp only [List.mem_cons, List.not_mem_nil, or_false] at hmy; omega
      clear hmy
      have hown4 := own_only (own_only (own_only hown g2 hlt0) g3 hlt0 |>.alloc _) gw4 hlt0
      have hG4 := only_trans (only_alloc (only_trans (only_trans hG g2) g3) _) gw4
      have hsz4 := hG4.size
      clear g2 g3 gw4 hown hR hG r2 r3
      go_wp2_with (at_builtin; refine wpList_append_own _ rfl _ _ 26 rfl (w.heap.size) 3 i0 (.int .i64 0) 1 8 Try.underlying26 hi hz0 hz1 hz2 rfl (by decide) _ _ _ rfl (hown4.alloc _) ⟨w4.heap.size, 0, none⟩ 1 1 [.int .i64 y] rfl rfl ?c1 ?c2 ?c3 ?c4 ?c5 ?_)
      case c1 =>
        intro j u hj
        match j, hj with
        | 0, hj => simp at hj; subst hj; simp [Addr.add]
      case c2 => first | rfl | (intro u hu; simp at hu; subst hu; rfl)
      case c3 => unfold maxLen; omega
      case c4 => omega
      case c5 => simp; omega
      · intro v' w5 hown' hgrow _
        have hob := own_block hown4
        have R : w5.ownsRow w.heap.size 3 1 v' (zs ++ [y]).length (ints (zs ++ [y])) := by simpa [ints] using hown'
        have hR5 : Rdr w5 B g (q + 1 + 1 + 1) := (rw4.alloc _).own hgrow (fun k hk => by have := hob k hk; omega)
        have hG5 : w.grownBy w5 (some g) := only_own (only_alloc hG4 _) hgrow hob
        clear hown' hgrow hown4 rw4 hG4
        go_wp2
        go_roundw
        case rel => exact ⟨j - 1, zs ++ [y], q + 3, by first | go_num | (congr 1; omega) | rfl, by simp; omega, by intro z hz; rw [List.mem_append] at hz; rcases hz with hz | hz; exact hzs z hz; simp at hz; omega, R, by omega, hR5, hG5⟩
        case measure => simp [intOf]; omega
    · obtain rfl : j = 0 := by omega
      obtain ⟨A', c', rfl⟩ := own_form hown
      cases zs with
      | nil =>
        go_wp2
        go_ret
        exact ⟨[], _, _, q, rfl, by simp, by simp, hown, by omega, hR, hG⟩
      | cons x xs =>
        have hpos : (0 : Int) < (((x :: xs).length : Nat) : Int) := by simp
        go_wp2_with fail
        refine (pick_any _ _ _ _ _ hR (by omega) (by omega)).mono ?_
        rintro e w2 ⟨a, rfl, a0, a1, r2, g2⟩
        have hown2 := own_only hown g2 hlt0
        have hG2 := only_trans hG g2
        clear hown hG g2 hR
        by_cases ha : a = 0
        · subst ha
          go_wp2_with fail
          refine (one_any [401, -401] 2 rfl _ _ _ _ _ (r2.alloc _) (by omega) (by omega) (by omega) (alloc_at (by simp)) (by have := r2.lt; omega)).mono ?_
          rintro e w3 ⟨y, rfl, hmy, rw3, gw3⟩
          have hby : -1000 ≤ y ∧ y ≤ 1000 := by simp only [List.mem_cons, List.not_mem_nil, or_false] at hmy; omega
          clear hmy
          have hown3 := own_only (hown2.alloc _) gw3 hlt0
          have hG3 := only_trans (only_alloc hG2 _) gw3
          obtain ⟨g', f, rfl, hg', hgl, hrow, hnc, hcm⟩ := own_row hown3 (by simp)
          have hc0 := hrow.cell (i := 0) (by simp at hnc; omega)
          have hf0 := hrow.frozen 0
          clear hrow hcm hown2 hG2 gw3
          go_wp2
          go_ret
          exact ⟨y :: xs, _, _, q + 2, rfl, by simp at hj ⊢; omega, by intro z hz; rw [List.mem_cons] at hz; rcases hz with hz | hz; (subst hz; omega); exact hzs z (by simp [hz]), own_set0 hown3 _, by omega,
            rw3.own (only_set (only_refl _ g') (.inl rfl) _) (fun k hk => by injection hk with hk; omega), only_set hG3 (.inr (by simpa using hg')) _⟩
        · have hz : (a == 0) = false := by simpa using ha
          go_wp2
          go_ret
          exact ⟨x :: xs, _, _, q + 1, rfl, by simpa using hj, hzs, hown2, by omega, r2, hG2⟩

theorem fin_below {w w1 w2 : World} {g p : Nat} (b : Below w.heap.size w w1) (r : Rdr w1 w.heap.size g p) (G : w1.grownBy w2 (some g)) : Below w.heap.size w w2 :=
  b.trans (below_of_only G r.1 b.size)
theorem own_cap {w : World} {base n c : Nat} {T : TypeId} {A : Option Addr} {xs : List Value} (h : w.ownsRow base T 1 (.slice A n c) n xs) : n ≤ c ∧ c ≤ maxLen := by
  rcases h.2 with ⟨h0, rfl⟩ | ⟨g, cap, cur, hv, _, _, hnc, hcm, _⟩
  · injection h0 with _ _ h2; subst h2; exact ⟨Nat.le_refl _, Nat.zero_le _⟩
  · injection hv with _ _ h2; subst h2; exact ⟨hnc, hcm⟩
/-- A list that was drawn. -/
def Drawn (w w' : World) (zs : List Int) (A : Option Addr) (c : Nat) : Prop :=
  zs.length ≤ 12 ∧ (∀ z ∈ zs, -1000 ≤ z ∧ z ≤ 1000) ∧ Rd w' w'.heap.size A (ints zs) ∧ zs.length ≤ c ∧ c ≤ maxLen
theorem drawn_mk {w w1 w2 : World} {base c : Nat} {zs : List Int} {A : Option Addr} {T : TypeId} (hl : zs.length ≤ 12) (hz : ∀ z ∈ zs, -1000 ≤ z ∧ z ≤ 1000) (h : w1.ownsRow base T 1 (.slice A zs.length c) zs.length (ints zs)) : Drawn w w1 zs A c :=
  ⟨hl, hz, Rd.own h, (own_cap h).1, (own_cap h).2⟩
theorem drawn_only {w w1 w2 : World} {base c g : Nat} {zs : List Int} {A : Option Addr} {T : TypeId} (hl : zs.length ≤ 12) (hz : ∀ z ∈ zs, -1000 ≤ z ∧ z ≤ 1000) (h : w1.ownsRow base T 1 (.slice A zs.length c) zs.length (ints zs))
    (G : w1.grownBy w2 (some g)) (hg : g < base) : Drawn w w2 zs A c :=
  drawn_mk (w2 := w2) hl hz (own_only h G hg)

end Go.Proofs.Ytbnggakfogcalad

/- The generators of chapter 1 by contracts: what is drawn is an integer in a range, or a list of some integers in memory of its own; what was there stays, but for the reader. -/
import Derived.Test.YthccmpbklhlohaaReader
namespace Go.Proofs.Ythccmpbklhlohaa
open Go.RowKit
set_option linter.unusedVariables false
set_option linter.unusedSimpArgs false

def MassPost (w : World) (B g : Nat) (p : Nat) (e : Ending) (w' : World) : Prop :=
  ∃ z, e = .returned (.int .i64 z) ∧ -1 ≤ z ∧ z ≤ 998002 ∧ Rdr w' B g (p + 3) ∧ w.grownBy w' (some g)

set_option maxHeartbeats 400000 in
theorem aMass_any (w : World) (B g p : Nat) (h : Rdr w B g p) (hp : p < 900000) :
    Calls Try.prog 49 #[.pointer (some ⟨g, 0, none⟩)] w (MassPost w B g p) := by
  go_enter Try.func49, Try.ntmps49
  go_wp2_with fail
  refine (pick_any _ _ _ _ _ h (by omega) (by omega)).mono ?_
  rintro e w1 ⟨a, rfl, a0, a1, r1, g1⟩
  go_wp2_with fail
  refine (pick_any _ _ _ _ _ r1 (by omega) (by omega)).mono ?_
  rintro e w2 ⟨b, rfl, b0, b1, r2, g2⟩
  go_wp2_with fail
  refine (one_any [2500, 100 * a, b, 0, 998001, 900000, -1, 998002, 1600, 99] 10 rfl _ _ _ _ _ (r2.alloc _) (by omega) (by omega) (by omega) (alloc_at (by simp)) (by have := r2.lt; omega)).mono ?_
  rintro e w3 ⟨z, rfl, hmz, rw3, gw3⟩
  have hbz : -1 ≤ z ∧ z ≤ 998002 := by simp only [List.mem_cons, List.not_mem_nil, or_false] at hmz; omega
  clear hmz
  go_wp2
  go_ret
  exact ⟨z, rfl, hbz.1, hbz.2, rw3, only_trans (only_alloc (only_trans g1 g2) _) gw3⟩

/-- A list of few integers in memory of the call's own. -/
def HoursPost (w : World) (B g : Nat) (p : Nat) (e : Ending) (w' : World) : Prop :=
  ∃ (zs : List Int) (A : Option Addr) (c q : Nat), e = .returned (.slice A zs.length c) ∧ zs.length ≤ 12 ∧ (∀ z ∈ zs, -1000 ≤ z ∧ z ≤ 1000) ∧ w'.ownsRow w.heap.size 3 1 (.slice A zs.length c) zs.length (ints zs) ∧
    q ≤ p + 100 ∧ Rdr w' B g q ∧ w.grownBy w' (some g)
def someRel (w : World) (B g p : Nat) (v n : Value) (wr : World) : Prop :=
  ∃ (j : Nat) (zs : List Int) (q : Nat), n = .int .i64 j ∧ j + zs.length ≤ 12 ∧ (∀ z ∈ zs, -1000 ≤ z ∧ z ≤ 1000) ∧ wr.ownsRow w.heap.size 3 1 v zs.length (ints zs) ∧
    q + 3 * j ≤ p + 50 ∧ Rdr wr B g q ∧ w.grownBy wr (some g)

set_option maxHeartbeats 1000000 in
theorem someHours_any (w : World) (B g p : Nat) (h : Rdr w B g p) (hp : p < 900000) :
    Calls Try.prog 60 #[.pointer (some ⟨g, 0, none⟩)] w (HoursPost w B g p) := by
  obtain ⟨i0, hi, hz0, hz1, hz2⟩ := info_parts info_int
  have hlt0 := h.lt
  go_enter Try.func60, Try.ntmps60
  go_wp2_with fail
  refine (one_any [5, 8, 3, 12, 1, 0] 6 rfl _ _ _ _ _ ((h.alloc _).alloc _) (by omega) (by omega) (by omega) (alloc_at (by simp)) (by simp; omega)).mono ?_
  rintro e w1 ⟨n, rfl, hmn, r1, g1⟩
  have hbn : 0 ≤ n ∧ n ≤ 12 := by simp only [List.mem_cons, List.not_mem_nil, or_false] at hmn; omega
  clear hmn
  obtain ⟨j0, rfl⟩ := Int.eq_ofNat_of_zero_le hbn.1
  have o0 : w1.ownsRow w.heap.size 3 1 (.slice (some ⟨w.heap.size, 0, none⟩) 0 0) 0 (ints []) := own_only ((own_empty w 3).alloc _) g1 hlt0
  go_wp2
  go_loopw [3, 4] (fun v n wr => someRel w B g p v n wr) (fun _ n _ => (intOf n).toNat)
  case atStart => exact ⟨j0, [], p + 1, rfl, by simp; omega, by simp, o0, by omega, r1, only_trans (only_alloc (only_alloc (only_refl _ _) _) _) g1⟩
  case round =>
    obtain ⟨j, zs, q, rfl, hj, hzs, hown, hq, hR, hG⟩ := hrel
    have hsz := hG.size
    by_cases hlt : 0 < j
    · have hlt' : (0 : Int) < (j : Int) := by omega
      go_wp2_with fail
      refine (pick_any _ _ _ _ _ hR (by omega) (by omega)).mono ?_
      rintro e w2 ⟨a, rfl, a0, a1, r2, g2⟩
      go_wp2_with fail
      refine (pick_any _ _ _ _ _ r2 (by omega) (by omega)).mono ?_
      rintro e w3 ⟨b, rfl, b0, b1, r3, g3⟩
      go_wp2_with fail
      refine (one_any [-50, -10 * a, 30, 0, b, -200, 19, 400] 8 rfl _ _ _ _ _ (r3.alloc _) (by omega) (by omega) (by omega) (alloc_at (by simp)) (by have := r3.lt; omega)).mono ?_
      rintro e w4 ⟨y, rfl, hmy, rw4, gw4⟩
      have hby : -1000 ≤ y ∧ y ≤ 1000 := by simp only [List.mem_cons, List.not_mem_nil, or_false] at hmy; omega
      clear hmy
      have hown4 := own_only (own_only (own_only hown g2 hlt0) g3 hlt0 |>.alloc _) gw4 hlt0
      have hG4 := only_trans (only_alloc (only_trans (only_trans hG g2) g3) _) gw4
      have hsz4 := hG4.size
      clear g2 g3 gw4 hown hR hG r2 r3
      go_wp2_with (at_builtin; refine wpList_append_own _ rfl _ _ 29 rfl (w.heap.size) 3 i0 (.int .i64 0) 1 8 Try.underlying29 hi hz0 hz1 hz2 rfl (by decide) _ _ _ rfl (hown4.alloc _) ⟨w4.heap.size, 0, none⟩ 1 1 [.int .i64 y] rfl rfl ?c1 ?c2 ?c3 ?c4 ?c5 ?_)
      case c1 =>
        intro j u hj
        match j, hj with
        | 0, hj => simp at hj; subst hj; simp [Addr.add]
      case c2 => intro u hu; simp at hu; subst hu; rfl
      case c3 => unfold maxLen; omega
      case c4 => omega
      case c5 => simp; omega
      · intro v' w5 hown' hgrow _
        have hob := own_block hown4
        have R : w5.ownsRow w.heap.size 3 1 v' (zs ++ [y]).length (ints (zs ++ [y])) := by simpa [ints] using hown'
        have hR5 : Rdr w5 B g (q + 1 + 1 + 1) := (rw4.alloc _).own hgrow (fun k hk => by have := hob k hk; omega)
        have hG5 : w.grownBy w5 (some g) := only_own (only_alloc hG4 _) hgrow hob
        clear hown' hgrow hown4 rw4 hG4
        go_wp2
        go_roundw
        case rel => exact ⟨j - 1, zs ++ [y], q + 3, by first | rfl | (congr 1; omega), by simp; omega, by intro z hz; rw [List.mem_append] at hz; rcases hz with hz | hz; exact hzs z hz; simp at hz; omega, R, by omega, hR5, hG5⟩
        case measure => simp [intOf]; omega
    · obtain rfl : j = 0 := by omega
      obtain ⟨A', c', rfl⟩ := own_form hown
      cases zs with
      | nil =>
        go_wp2
        go_ret
        exact ⟨[], _, _, q, rfl, by simp, by simp, hown, by omega, hR, hG⟩
      | cons x xs =>
        have hpos : (0 : Int) < (((x :: xs).length : Nat) : Int) := by simp
        go_wp2_with fail
        refine (pick_any _ _ _ _ _ hR (by omega) (by omega)).mono ?_
        rintro e w2 ⟨a, rfl, a0, a1, r2, g2⟩
        have hown2 := own_only hown g2 hlt0
        have hG2 := only_trans hG g2
        clear hown hG g2 hR
        by_cases ha : a = 0
        · subst ha
          go_wp2_with fail
          refine (one_any [401, -401] 2 rfl _ _ _ _ _ (r2.alloc _) (by omega) (by omega) (by omega) (alloc_at (by simp)) (by have := r2.lt; omega)).mono ?_
          rintro e w3 ⟨y, rfl, hmy, rw3, gw3⟩
          have hby : -1000 ≤ y ∧ y ≤ 1000 := by simp only [List.mem_cons, List.not_mem_nil, or_false] at hmy; omega
          clear hmy
          have hown3 := own_only (hown2.alloc _) gw3 hlt0
          have hG3 := only_trans (only_alloc hG2 _) gw3
          obtain ⟨g', f, rfl, hg', hgl, hrow, hnc, hcm⟩ := own_row hown3 (by simp)
          have hc0 := hrow.cell (i := 0) (by simp at hnc; omega)
          have hf0 := hrow.frozen 0
          clear hrow hcm hown2 hG2 gw3
          go_wp2
          go_ret
          exact ⟨y :: xs, _, _, q + 2, rfl, by simp at hj ⊢; omega, by intro z hz; rw [List.mem_cons] at hz; rcases hz with hz | hz; (subst hz; omega); exact hzs z (by simp [hz]), own_set0 hown3 _, by omega,
            rw3.own (only_set (only_refl _ g') (.inl rfl) _) (fun k hk => by injection hk with hk; omega), only_set hG3 (.inr (by simpa using hg')) _⟩
        · have hz : (a == 0) = false := by simpa using ha
          go_wp2
          go_ret
          exact ⟨x :: xs, _, _, q + 1, rfl, by simpa using hj, hzs, hown2, by omega, r2, hG2⟩

theorem fin_below {w w1 w2 : World} {g p : Nat} (b : Below w.heap.size w w1) (r : Rdr w1 w.heap.size g p) (G : w1.grownBy w2 (some g)) : Below w.heap.size w w2 :=
  b.trans (below_of_only G r.1 b.size)
theorem own_cap {w : World} {base n c : Nat} {T : TypeId} {A : Option Addr} {xs : List Value} (h : w.ownsRow base T 1 (.slice A n c) n xs) : n ≤ c ∧ c ≤ maxLen := by
  rcases h.2 with ⟨h0, rfl⟩ | ⟨g, cap, cur, hv, _, _, hnc, hcm, _⟩
  · injection h0 with _ _ h2; subst h2; exact ⟨Nat.le_refl _, Nat.zero_le _⟩
  · injection hv with _ _ h2; subst h2; exact ⟨hnc, hcm⟩
/-- A list that was drawn. -/
def Drawn (w w' : World) (zs : List Int) (A : Option Addr) (c : Nat) : Prop :=
  zs.length ≤ 12 ∧ (∀ z ∈ zs, -1000 ≤ z ∧ z ≤ 1000) ∧ Rd w' w'.heap.size A (ints zs) ∧ zs.length ≤ c ∧ c ≤ maxLen
theorem drawn_mk {w w1 w2 : World} {base c : Nat} {zs : List Int} {A : Option Addr} {T : TypeId} (hl : zs.length ≤ 12) (hz : ∀ z ∈ zs, -1000 ≤ z ∧ z ≤ 1000) (h : w1.ownsRow base T 1 (.slice A zs.length c) zs.length (ints zs)) : Drawn w w1 zs A c :=
  ⟨hl, hz, Rd.own h, (own_cap h).1, (own_cap h).2⟩
theorem drawn_only {w w1 w2 : World} {base c g : Nat} {zs : List Int} {A : Option Addr} {T : TypeId} (hl : zs.length ≤ 12) (hz : ∀ z ∈ zs, -1000 ≤ z ∧ z ≤ 1000) (h : w1.ownsRow base T 1 (.slice A zs.length c) zs.length (ints zs))
    (G : w1.grownBy w2 (some g)) (hg : g < base) : Drawn w w2 zs A c :=
  drawn_mk (w2 := w2) hl hz (own_only h G hg)

set_option maxHeartbeats 1000000 in
theorem dThickOf (cs : List Int) (A : Option Addr) (c : Nat) (w : World) (hr : Rd w w.heap.size A (bytes cs)) (hb : ∀ z ∈ cs, 0 ≤ z ∧ z ≤ 255) (hn : cs.length ≤ c) (hm : c ≤ maxLen) :
    Calls Try.prog 15 #[.slice A cs.length c] w fun e w' => ∃ (m : Int), e = .returned (.int .i64 m) ∧ (-1000000 ≤ m ∧ m ≤ 1000000) ∧ Below w.heap.size w w' := by
  go_enter Try.func15, Try.ntmps15
  go_wp2_with fail
  refine (newReader_any _ _ _ _ hr hb hn hm).mono ?_
  rintro e w1 ⟨g, rfl, r1, b1⟩
  have hB := r1.1
  have hsz := b1.size
  go_wp2_with fail
  refine (aMass_any _ _ _ _ r1 (by omega)).mono ?_
  rintro e w2 ⟨m, rfl, lom, him, rw2, gw2⟩
  go_wp2
  go_ret
  exact ⟨m, rfl, (by omega), fin_below b1 r1 (only_trans (only_refl _ _) gw2)⟩

set_option maxHeartbeats 1000000 in
theorem dStepIce (cs : List Int) (A : Option Addr) (c : Nat) (w : World) (hr : Rd w w.heap.size A (bytes cs)) (hb : ∀ z ∈ cs, 0 ≤ z ∧ z ≤ 255) (hn : cs.length ≤ c) (hm : c ≤ maxLen) :
    Calls Try.prog 18 #[.slice A cs.length c] w fun e w' => ∃ (m : Int) (t : Int), e = .returned (.tuple #[.int .i64 m, .int .i64 t]) ∧ (-1000000 ≤ m ∧ m ≤ 1000000) ∧ (-1000000 ≤ t ∧ t ≤ 1000000) ∧ Below w.heap.size w w' := by
  go_enter Try.func18, Try.ntmps18
  go_wp2_with fail
  refine (newReader_any _ _ _ _ hr hb hn hm).mono ?_
  rintro e w1 ⟨g, rfl, r1, b1⟩
  have hB := r1.1
  have hsz := b1.size
  go_wp2_with fail
  refine (aMass_any _ _ _ _ r1 (by omega)).mono ?_
  rintro e w2 ⟨m, rfl, lom, him, rw2, gw2⟩
  go_wp2_with fail
  refine (pick_any _ _ _ _ _ rw2 (by omega) (by omega)).mono ?_
  rintro e w3 ⟨a, rfl, loa, hia, rw3, gw3⟩
  go_wp2_with fail
  refine (pick_any _ _ _ _ _ rw3 (by omega) (by omega)).mono ?_
  rintro e w4 ⟨b, rfl, lob, hib, rw4, gw4⟩
  go_wp2_with fail
  refine (one_any [-50, -10 * a, 30, 0, b, 400, -400, 401, 19, 20] 10 rfl _ _ _ _ _ (rw4.alloc _) (by omega) (by omega) (by omega) (alloc_at (by simp)) (by have := rw4.lt; omega)).mono ?_
  rintro e w5 ⟨t, rfl, hmt, rw5, gw5⟩
  have hbt : -1000000 ≤ t ∧ t ≤ 1000000 := by simp only [List.mem_cons, List.not_mem_nil, or_false] at hmt; omega
  clear hmt
  go_wp2
  go_ret2
  exact ⟨m, t, rfl, (by omega), (by omega), fin_below b1 r1 (only_trans (only_alloc (only_trans (only_trans (only_trans (only_refl _ _) gw2) gw3) gw4) _) gw5)⟩

set_option maxHeartbeats 1000000 in
theorem dRunIce (cs : List Int) (A : Option Addr) (c : Nat) (w : World) (hr : Rd w w.heap.size A (bytes cs)) (hb : ∀ z ∈ cs, 0 ≤ z ∧ z ≤ 255) (hn : cs.length ≤ c) (hm : c ≤ maxLen) :
    Calls Try.prog 21 #[.slice A cs.length c] w fun e w' => ∃ (m : Int) (zs : List Int) (Az : Option Addr) (cz : Nat), e = .returned (.tuple #[.int .i64 m, .slice Az zs.length cz]) ∧ (-1000000 ≤ m ∧ m ≤ 1000000) ∧ Drawn w w' zs Az cz ∧ Below w.heap.size w w' := by
  go_enter Try.func21, Try.ntmps21
  go_wp2_with fail
  refine (newReader_any _ _ _ _ hr hb hn hm).mono ?_
  rintro e w1 ⟨g, rfl, r1, b1⟩
  have hB := r1.1
  have hsz := b1.size
  go_wp2_with fail
  refine (aMass_any _ _ _ _ r1 (by omega)).mono ?_
  rintro e w2 ⟨m, rfl, lom, him, rw2, gw2⟩
  have hltw3 := rw2.lt
  go_wp2_with fail
  refine (someHours_any _ _ _ _ rw2 (by omega)).mono ?_
  rintro e w3 ⟨zs, Az, cz, q, rfl, hl, hz, own, hq, rw3, gw3⟩
  go_wp2
  go_ret2
  exact ⟨m, zs, Az, cz, rfl, (by omega), drawn_only hl hz own (only_refl _ _) hltw3, fin_below b1 r1 (only_trans (only_trans (only_refl _ _) gw2) gw3)⟩

set_option maxHeartbeats 1000000 in
theorem dFrostSum (cs : List Int) (A : Option Addr) (c : Nat) (w : World) (hr : Rd w w.heap.size A (bytes cs)) (hb : ∀ z ∈ cs, 0 ≤ z ∧ z ≤ 255) (hn : cs.length ≤ c) (hm : c ≤ maxLen) :
    Calls Try.prog 30 #[.slice A cs.length c] w fun e w' => ∃ (zs : List Int) (Az : Option Addr) (cz : Nat), e = .returned (.slice Az zs.length cz) ∧ Drawn w w' zs Az cz ∧ Below w.heap.size w w' := by
  go_enter Try.func30, Try.ntmps30
  go_wp2_with fail
  refine (newReader_any _ _ _ _ hr hb hn hm).mono ?_
  rintro e w1 ⟨g, rfl, r1, b1⟩
  have hB := r1.1
  have hsz := b1.size
  have hltw2 := r1.lt
  go_wp2_with fail
  refine (someHours_any _ _ _ _ r1 (by omega)).mono ?_
  rintro e w2 ⟨zs, Az, cz, q, rfl, hl, hz, own, hq, rw2, gw2⟩
  go_wp2
  go_ret
  exact ⟨zs, Az, cz, rfl, drawn_only hl hz own (only_refl _ _) hltw2, fin_below b1 r1 (only_trans (only_refl _ _) gw2)⟩

set_option maxHeartbeats 1000000 in
theorem dFirstThick (cs : List Int) (A : Option Addr) (c : Nat) (w : World) (hr : Rd w w.heap.size A (bytes cs)) (hb : ∀ z ∈ cs, 0 ≤ z ∧ z ≤ 255) (hn : cs.length ≤ c) (hm : c ≤ maxLen) :
    Calls Try.prog 33 #[.slice A cs.length c] w fun e w' => ∃ (m : Int) (zs : List Int) (Az : Option Addr) (cz : Nat) (n : Int), e = .returned (.tuple #[.int .i64 m, .slice Az zs.length cz, .int .i64 n]) ∧ (-1000000 ≤ m ∧ m ≤ 1000000) ∧ (-1000000 ≤ n ∧ n ≤ 1000000) ∧ Drawn w w' zs Az cz ∧ Below w.heap.size w w' := by
  go_enter Try.func33, Try.ntmps33
  go_wp2_with fail
  refine (newReader_any _ _ _ _ hr hb hn hm).mono ?_
  rintro e w1 ⟨g, rfl, r1, b1⟩
  have hB := r1.1
  have hsz := b1.size
  go_wp2_with fail
  refine (aMass_any _ _ _ _ r1 (by omega)).mono ?_
  rintro e w2 ⟨m, rfl, lom, him, rw2, gw2⟩
  have hltw3 := rw2.lt
  go_wp2_with fail
  refine (someHours_any _ _ _ _ rw2 (by omega)).mono ?_
  rintro e w3 ⟨zs, Az, cz, q, rfl, hl, hz, own, hq, rw3, gw3⟩
  go_wp2_with fail
  refine (one_any [50, 60, 40, 0, 100, 999, 1000] 7 rfl _ _ _ _ _ (rw3.alloc _) (by omega) (by omega) (by omega) (alloc_at (by simp)) (by have := rw3.lt; omega)).mono ?_
  rintro e w4 ⟨n, rfl, hmn, rw4, gw4⟩
  have hbn : -1000000 ≤ n ∧ n ≤ 1000000 := by simp only [List.mem_cons, List.not_mem_nil, or_false] at hmn; omega
  clear hmn
  go_wp2
  go_ret3
  exact ⟨m, zs, Az, cz, n, rfl, (by omega), (by omega), drawn_only hl hz own (only_trans (only_alloc (only_refl _ _) _) gw4) hltw3, fin_below b1 r1 (only_trans (only_alloc (only_trans (only_trans (only_refl _ _) gw2) gw3) _) gw4)⟩

set_option maxHeartbeats 1000000 in
theorem dLoadOf (cs : List Int) (A : Option Addr) (c : Nat) (w : World) (hr : Rd w w.heap.size A (bytes cs)) (hb : ∀ z ∈ cs, 0 ≤ z ∧ z ≤ 255) (hn : cs.length ≤ c) (hm : c ≤ maxLen) :
    Calls Try.prog 40 #[.slice A cs.length c] w fun e w' => ∃ (n : Int), e = .returned (.int .i64 n) ∧ (-1000000 ≤ n ∧ n ≤ 1000000) ∧ Below w.heap.size w w' := by
  go_enter Try.func40, Try.ntmps40
  go_wp2_with fail
  refine (newReader_any _ _ _ _ hr hb hn hm).mono ?_
  rintro e w1 ⟨g, rfl, r1, b1⟩
  have hB := r1.1
  have hsz := b1.size
  go_wp2_with fail
  refine (pick_any _ _ _ _ _ r1 (by omega) (by omega)).mono ?_
  rintro e w2 ⟨a, rfl, loa, hia, rw2, gw2⟩
  go_wp2_with fail
  refine (one_any [50, a, 0, 999, 1000, -1] 6 rfl _ _ _ _ _ (rw2.alloc _) (by omega) (by omega) (by omega) (alloc_at (by simp)) (by have := rw2.lt; omega)).mono ?_
  rintro e w3 ⟨n, rfl, hmn, rw3, gw3⟩
  have hbn : -1000000 ≤ n ∧ n ≤ 1000000 := by simp only [List.mem_cons, List.not_mem_nil, or_false] at hmn; omega
  clear hmn
  go_wp2
  go_ret
  exact ⟨n, rfl, (by omega), fin_below b1 r1 (only_trans (only_alloc (only_trans (only_refl _ _) gw2) _) gw3)⟩

set_option maxHeartbeats 1000000 in
theorem dNeedThick (cs : List Int) (A : Option Addr) (c : Nat) (w : World) (hr : Rd w w.heap.size A (bytes cs)) (hb : ∀ z ∈ cs, 0 ≤ z ∧ z ≤ 255) (hn : cs.length ≤ c) (hm : c ≤ maxLen) :
    Calls Try.prog 36 #[.slice A cs.length c] w fun e w' => ∃ (n : Int), e = .returned (.int .i64 n) ∧ (-1000000 ≤ n ∧ n ≤ 1000000) ∧ Below w.heap.size w w' := by
  go_enter Try.func36, Try.ntmps36
  go_wp2_with fail
  refine (newReader_any _ _ _ _ hr hb hn hm).mono ?_
  rintro e w1 ⟨g, rfl, r1, b1⟩
  have hB := r1.1
  have hsz := b1.size
  go_wp2_with fail
  refine (pick_any _ _ _ _ _ r1 (by omega) (by omega)).mono ?_
  rintro e w2 ⟨a, rfl, loa, hia, rw2, gw2⟩
  go_wp2_with fail
  refine (one_any [2500, 2501, 100 * a, 0, 900000, 900001, -1, 1] 8 rfl _ _ _ _ _ (rw2.alloc _) (by omega) (by omega) (by omega) (alloc_at (by simp)) (by have := rw2.lt; omega)).mono ?_
  rintro e w3 ⟨n, rfl, hmn, rw3, gw3⟩
  have hbn : -1000000 ≤ n ∧ n ≤ 1000000 := by simp only [List.mem_cons, List.not_mem_nil, or_false] at hmn; omega
  clear hmn
  go_wp2
  go_ret
  exact ⟨n, rfl, (by omega), fin_below b1 r1 (only_trans (only_alloc (only_trans (only_refl _ _) gw2) _) gw3)⟩

set_option maxHeartbeats 1000000 in
theorem dHoursTo (cs : List Int) (A : Option Addr) (c : Nat) (w : World) (hr : Rd w w.heap.size A (bytes cs)) (hb : ∀ z ∈ cs, 0 ≤ z ∧ z ≤ 255) (hn : cs.length ≤ c) (hm : c ≤ maxLen) :
    Calls Try.prog 42 #[.slice A cs.length c] w fun e w' => ∃ (m : Int) (f : Int) (n : Int), e = .returned (.tuple #[.int .i64 m, .int .i64 f, .int .i64 n]) ∧ (-1000000 ≤ m ∧ m ≤ 1000000) ∧ (-1000000 ≤ f ∧ f ≤ 1000000) ∧ (-1000000 ≤ n ∧ n ≤ 1000000) ∧ Below w.heap.size w w' := by
  go_enter Try.func42, Try.ntmps42
  go_wp2_with fail
  refine (newReader_any _ _ _ _ hr hb hn hm).mono ?_
  rintro e w1 ⟨g, rfl, r1, b1⟩
  have hB := r1.1
  have hsz := b1.size
  go_wp2_with fail
  refine (aMass_any _ _ _ _ r1 (by omega)).mono ?_
  rintro e w2 ⟨m, rfl, lom, him, rw2, gw2⟩
  go_wp2_with fail
  refine (pick_any _ _ _ _ _ rw2 (by omega) (by omega)).mono ?_
  rintro e w3 ⟨a, rfl, loa, hia, rw3, gw3⟩
  go_wp2_with fail
  refine (one_any [50, 100, 1 + a, 400, 0, 401] 6 rfl _ _ _ _ _ (rw3.alloc _) (by omega) (by omega) (by omega) (alloc_at (by simp)) (by have := rw3.lt; omega)).mono ?_
  rintro e w4 ⟨f, rfl, hmf, rw4, gw4⟩
  have hbf : -1000000 ≤ f ∧ f ≤ 1000000 := by simp only [List.mem_cons, List.not_mem_nil, or_false] at hmf; omega
  clear hmf
  go_wp2_with fail
  refine (pick_any _ _ _ _ _ rw4 (by omega) (by omega)).mono ?_
  rintro e w5 ⟨b, rfl, lob, hib, rw5, gw5⟩
  go_wp2_with fail
  refine (one_any [60, 100, b, 0, 999, 1000] 6 rfl _ _ _ _ _ (rw5.alloc _) (by omega) (by omega) (by omega) (alloc_at (by simp)) (by have := rw5.lt; omega)).mono ?_
  rintro e w6 ⟨n, rfl, hmn, rw6, gw6⟩
  have hbn : -1000000 ≤ n ∧ n ≤ 1000000 := by simp only [List.mem_cons, List.not_mem_nil, or_false] at hmn; omega
  clear hmn
  go_wp2
  go_ret3
  exact ⟨m, f, n, rfl, (by omega), (by omega), (by omega), fin_below b1 r1 (only_trans (only_alloc (only_trans (only_trans (only_alloc (only_trans (only_trans (only_refl _ _) gw2) gw3) _) gw4) gw5) _) gw6)⟩

set_option maxHeartbeats 1000000 in
theorem dUnderSnow (cs : List Int) (A : Option Addr) (c : Nat) (w : World) (hr : Rd w w.heap.size A (bytes cs)) (hb : ∀ z ∈ cs, 0 ≤ z ∧ z ≤ 255) (hn : cs.length ≤ c) (hm : c ≤ maxLen) :
    Calls Try.prog 46 #[.slice A cs.length c] w fun e w' => ∃ (t : Int) (s : Int), e = .returned (.tuple #[.int .i64 t, .int .i64 s]) ∧ (-1000000 ≤ t ∧ t ≤ 1000000) ∧ (-1000000 ≤ s ∧ s ≤ 1000000) ∧ Below w.heap.size w w' := by
  go_enter Try.func46, Try.ntmps46
  go_wp2_with fail
  refine (newReader_any _ _ _ _ hr hb hn hm).mono ?_
  rintro e w1 ⟨g, rfl, r1, b1⟩
  have hB := r1.1
  have hsz := b1.size
  go_wp2_with fail
  refine (pick_any _ _ _ _ _ r1 (by omega) (by omega)).mono ?_
  rintro e w2 ⟨a, rfl, loa, hia, rw2, gw2⟩
  go_wp2_with fail
  refine (one_any [-100, -51, 100, 0, -400, 401, a] 7 rfl _ _ _ _ _ (rw2.alloc _) (by omega) (by omega) (by omega) (alloc_at (by simp)) (by have := rw2.lt; omega)).mono ?_
  rintro e w3 ⟨t, rfl, hmt, rw3, gw3⟩
  have hbt : -1000000 ≤ t ∧ t ≤ 1000000 := by simp only [List.mem_cons, List.not_mem_nil, or_false] at hmt; omega
  clear hmt
  go_wp2_with fail
  refine (pick_any _ _ _ _ _ rw3 (by omega) (by omega)).mono ?_
  rintro e w4 ⟨b, rfl, lob, hib, rw4, gw4⟩
  go_wp2_with fail
  refine (one_any [50, 0, 100, 10, 500, 501, b] 7 rfl _ _ _ _ _ (rw4.alloc _) (by omega) (by omega) (by omega) (alloc_at (by simp)) (by have := rw4.lt; omega)).mono ?_
  rintro e w5 ⟨s, rfl, hms, rw5, gw5⟩
  have hbs : -1000000 ≤ s ∧ s ≤ 1000000 := by simp only [List.mem_cons, List.not_mem_nil, or_false] at hms; omega
  clear hms
  go_wp2
  go_ret2
  exact ⟨t, s, rfl, (by omega), (by omega), fin_below b1 r1 (only_trans (only_alloc (only_trans (only_trans (only_alloc (only_trans (only_refl _ _) gw2) _) gw3) gw4) _) gw5)⟩

set_option maxHeartbeats 1000000 in
theorem dThicksOf (cs : List Int) (A : Option Addr) (c : Nat) (w : World) (hr : Rd w w.heap.size A (bytes cs)) (hb : ∀ z ∈ cs, 0 ≤ z ∧ z ≤ 255) (hn : cs.length ≤ c) (hm : c ≤ maxLen) :
    Calls Try.prog 26 #[.slice A cs.length c] w fun e w' => ∃ (m : Int) (zs : List Int) (Az : Option Addr) (cz : Nat), e = .returned (.tuple #[.int .i64 m, .slice Az zs.length cz]) ∧ (-1000000 ≤ m ∧ m ≤ 1000000) ∧ Drawn w w' zs Az cz ∧ Below w.heap.size w w' := by
  go_enter Try.func26, Try.ntmps26
  go_wp2_with fail
  refine (dRunIce _ _ _ _ hr hb hn hm).mono ?_
  rintro e w1 ⟨m, zs, Az, cz, rfl, hm, hd, hbl⟩
  go_wp2
  go_ret2
  exact ⟨m, zs, Az, cz, rfl, hm, hd, hbl⟩

end Go.Proofs.Ythccmpbklhlohaa

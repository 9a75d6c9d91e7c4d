/- The generators of chapter 7 and its draws, by contracts. -/
import Derived.Deep.AppendSrc
import Derived.Maps.AppendAt
import Derived.Test.YtiihenhddleooaaTAucI
import Derived.Test.YtiihenhddleooaaTExD
import Derived.Test.YtiihenhddleooaaTSim
import Derived.Test.YtiihenhddleooaaDraws
namespace Go.Proofs.Ytiihenhddleooaa
open Go.RowKit
set_option linter.unusedVariables false
set_option linter.unusedSimpArgs false
theorem info_debt2 : (Try.prog.info? 31).map (fun i => (i.zero, i.size, i.bytes)) = some (some (.agg #[.int .i64 0, .int .i64 0, .int .i64 0]), 3, 24) := by kernel_rfl
def TRel (T : TypeId) (w : World) (B g p : Nat) (v i : Value) (wr : World) : Prop :=
  ∃ (k m q b c : Nat) (cs : List Cu), i = .int .i64 k ∧ k + m ≤ 8 ∧ cs.length = m ∧ v = .slice (some ⟨b, 0, none⟩) m c ∧ wr.ownsRow w.heap.size T 3 v m (custV cs) ∧ q + 6 * k ≤ p + 60 ∧ Rdr wr B g q ∧ w.grownBy wr (some g)
def TPost (T : TypeId) (w : World) (B g p : Nat) (e : Ending) (w' : World) : Prop :=
  ∃ (cs : List Cu) (A : Option Addr) (c q : Nat), e = .returned (.slice A cs.length c) ∧ cs.length ≤ 8 ∧ q ≤ p + 70 ∧ w'.ownsRow w.heap.size T 3 (.slice A cs.length c) cs.length (custV cs) ∧ Rdr w' B g q ∧ w.grownBy w' (some g)
set_option maxHeartbeats 4000000 in
theorem someDebts_any (w : World) (B g p : Nat) (h : Rdr w B g p) (hp : p < 800000) :
    Calls Try.prog 51 #[.pointer (some ⟨g, 0, none⟩)] w (TPost 31 w B g p) := by
  obtain ⟨i0, hi, hz0, hz1, hz2⟩ := info_parts info_debt2
  have hlt0 := h.lt
  have hr1 := h.alloc (.cells #[] 31)
  go_enter Try.func51, Try.ntmps51
  go_wp2_with fail
  refine (one_any [4,6,3,8,1,0] 6 rfl _ _ _ _ _ (hr1.alloc _) (by omega) (by omega) (by omega) (alloc_at (by simp)) (by have := hr1.lt; omega)).mono ?_
  rintro e w4 ⟨n0, rfl, hmn0, rw4, gw4⟩
  have hbn0 : 0 ≤ n0 ∧ n0 ≤ 8 := by simp only [List.mem_cons, List.not_mem_nil, or_false] at hmn0; omega
  clear hmn0
  have o4 := owz_only (owz_alloc (owz_empty w 31 3) (.cells (ints [4,6,3,8,1,0]).toArray 3)) gw4 hlt0
  have hG4 := only_trans (only_alloc (only_alloc (only_refl w g) (.cells #[] 31)) (.cells (ints [4,6,3,8,1,0]).toArray 3)) gw4
  obtain ⟨k0, rfl⟩ := Int.eq_ofNat_of_zero_le hbn0.1
  have hst : TRel 31 w B g p (.slice (some ⟨w.heap.size, 0, none⟩) 0 0) (.int .i64 (k0 : Nat)) w4 := ⟨k0, 0, p + 1, _, 0, [], rfl, by omega, rfl, rfl, o4, by omega, rw4, hG4⟩
  have HST := Lib.hid hst
  clear hst o4 hG4 gw4 rw4 hr1 h
  go_wp2
  go_loopw [3, 4, 5] (fun v i _ wr => TRel 31 w B g p v i wr) (fun _ i _ _ => (intOf i).toNat)
  case atStart => exact HST.out
  case round =>
    clear HST
    obtain ⟨k, m, q, gb, c, cs, rfl, hkm, hcl, rfl, hown, hq, hR, hG⟩ := hrel
    have hsz := hG.size
    have HCL := Lib.hid hcl
    clear hcl
    by_cases hk : 0 < k
    · have hk2 : (0 : Int) < (k : Int) := by omega
      go_wp2_with fail
      refine (pick_any 8 _ _ _ _ hR (by omega) (by omega)).mono ?_
      rintro e w5 ⟨x, rfl, x0, x1, r5, g5⟩
      have o5 := owz_only hown g5 hlt0
      have hG5 := only_trans hG g5
      clear hown g5 hR hG
      go_wp2_with fail
      refine (pick_any 7 _ _ _ _ r5 (by omega) (by omega)).mono ?_
      rintro e w6 ⟨y, rfl, y0, y1, r6, g6⟩
      have o6 := owz_only o5 g6 hlt0
      have hG6 := only_trans hG5 g6
      clear o5 g6 r5 hG5
      go_wp2_with fail
      refine (pick_any 50 _ _ _ _ r6 (by omega) (by omega)).mono ?_
      rintro e w7 ⟨z, rfl, z0, z1, r7, g7⟩
      have o7 := owz_only o6 g7 hlt0
      have hG7 := only_trans hG6 g7
      clear o6 g7 r6 hG6
      go_wp2_with fail
      refine (one_any [10,20,5,1 + z,10000] 5 rfl _ _ _ _ _ (r7.alloc _) (by omega) (by omega) (by omega) (alloc_at (by simp)) (by have := r7.lt; omega)).mono ?_
      rintro e w8 ⟨a, rfl, hma, rw8, gw8⟩
      have hba : 0 ≤ a ∧ a ≤ 10000 := by simp only [List.mem_cons, List.not_mem_nil, or_false] at hma; omega
      clear hma
      have o8 := owz_only (owz_alloc o7 (.cells (ints [10,20,5,1 + z,10000]).toArray 3)) gw8 hlt0
      have hG8 := only_trans (only_alloc hG7 (.cells (ints [10,20,5,1 + z,10000]).toArray 3)) gw8
      clear o7 hG7 gw8 r7
      have hs9 := hG8.size
      have HP9 := Lib.hid (And.intro o8 (And.intro rw8 hG8))
      clear o8 rw8 hG8
      go_wp2_with (at_builtin; refine wpList_append_own _ rfl _ _ 23 rfl (w.heap.size) 31 i0 (.agg #[.int .i64 0, .int .i64 0, .int .i64 0]) 3 24 Try.underlying23 hi hz0 hz1 hz2 rfl (by decide) _ _ _ rfl (owz_alloc HP9.out.1 _) ⟨w8.heap.size, 0, none⟩ 1 1 [.int .i64 x, .int .i64 ((x + 1 + y) % 8), .int .i64 a] rfl rfl (three_new _ _ _ _ _ _ rfl) (fun u hu => by simp at hu; rcases hu with rfl | rfl | rfl <;> rfl) (by unfold maxLen; omega) (by omega) (by simp; omega) ?_)
      intro v' wz hown' hgrow _
      have hob := owz_block HP9.out.1
      have rz : Rdr wz B g (q + 1 + 1 + 1 + 1) := (HP9.out.2.1.alloc _).own hgrow (fun k hk => by have := hob k hk; omega)
      have Gz : w.grownBy wz (some g) := only_own (only_alloc HP9.out.2.2 _) hgrow hob
      obtain ⟨A5, c5, hv5⟩ := owz_form hown'
      subst hv5
      obtain ⟨g5, rfl, _, _, _, _⟩ := owz_some (by omega) hown' (by omega)
      have hown5 : wz.ownsRow w.heap.size 31 3 (.slice (some ⟨g5, 0, none⟩) (m + 1) c5) (m + 1) (custV (cs ++ [(x, ((x + 1 + y) % 8), a)])) := by rw [custV_snoc]; exact hown'
      have HLEN : Hid ((cs ++ [(x, ((x + 1 + y) % 8), a)]).length = m + 1) := Lib.hid (by rw [List.length_append, HCL.out]; rfl)
      have HP := Lib.hid (And.intro hown5 (And.intro rz Gz))
      clear hown' hgrow hob rz Gz hown5
      go_wp2
      go_roundw
      case rel => exact ⟨k - 1, m + 1, q + 1 + 1 + 1 + 1, g5, c5, cs ++ [(x, ((x + 1 + y) % 8), a)], by first | (congr 1; omega) | rfl, by omega, HLEN.out, rfl, HP.out.1, by omega, HP.out.2.1, HP.out.2.2⟩
      case measure => simp [intOf]; omega
    · have hk2 : ¬ (0 : Int) < (k : Int) := by omega
      by_cases h0 : 0 < m
      · have h0i : (0 : Int) < (m : Int) := by omega
        go_wp2_with fail
        refine (pick_any 16 _ _ _ _ hR (by omega) (by omega)).mono ?_
        rintro e w5 ⟨z, rfl, z0, z1, r5, g5⟩
        have o5 := owz_only hown g5 hlt0
        have G5 := only_trans hG g5
        clear hown hR hG g5
        by_cases hz : z = 0
        · subst hz
          obtain ⟨⟨x0, d0, v0⟩, hq0⟩ : ∃ t : Cu, cs[0]? = some t := ⟨_, List.getElem?_eq_getElem (by rw [HCL.out]; exact h0)⟩
          have kx := owz_cell o5 (custV_at hq0).1
          have HQ0 := Lib.hid hq0
          simp only [Nat.zero_mul] at kx
          clear hq0
          go_wp2_with fail
          refine (one_any [x0, 8, -1] 3 rfl _ _ _ _ _ (r5.alloc _) (by omega) (by omega) (by omega) (alloc_at (by simp)) (by have := r5.lt; omega)).mono ?_
          rintro e w6 ⟨a, rfl, _, rw6, gw6⟩
          have o6 := owz_only (owz_alloc o5 (.cells (ints [x0, 8, -1]).toArray 3)) gw6 hlt0
          have hG6 := only_trans (only_alloc G5 (.cells (ints [x0, 8, -1]).toArray 3)) gw6
          clear o5 G5 gw6 r5 kx
          have k1 := owz_cell o6 (custV_at HQ0.out).2.1
          have f1 := owz_frozen o6 (0 * 3 + 1)
          have hput := owz_put o6 (0 * 3 + 1) (.int .i64 a)
          rw [custV_set1 HQ0.out] at hput
          have hgbw := owz_block o6 gb rfl
          have hgw := only_set (only_refl w6 gb) (p := ⟨gb, 0 * 3 + 1, none⟩) (.inl rfl) (.int .i64 a)
          have hR7 := rw6.own hgw (fun k hk => by injection hk with hk; omega)
          have hG7 := only_set hG6 (p := ⟨gb, 0 * 3 + 1, none⟩) (.inr hgbw) (.int .i64 a)
          have HP := Lib.hid (And.intro hput (And.intro hR7 hG7))
          have HL5 : Hid ((cs.set 0 (x0, a, v0)).length = m) := Lib.hid (by rw [List.length_set, HCL.out])
          clear hput hR7 hG7 hgw o6 rw6 hG6
          simp only [Nat.zero_mul, Nat.zero_add] at k1 f1 HP
          go_wp2
          go_ret
          exact ⟨cs.set 0 (x0, a, v0), _, c, q + 1 + 1, (by rw [HL5.out]; rfl), by rw [HL5.out]; omega, by omega, by rw [HL5.out]; exact HP.out.1, HP.out.2.1, HP.out.2.2⟩
        · have hzb : ((z : Int) == 0) = false := beq_eq_false_iff_ne.2 hz
          have HP := Lib.hid (And.intro o5 (And.intro r5 G5))
          clear o5 r5 G5
          go_wp2
          go_ret
          exact ⟨cs, _, c, q + 1, (by rw [HCL.out]; rfl), by rw [HCL.out]; omega, by omega, by rw [HCL.out]; exact HP.out.1, HP.out.2.1, HP.out.2.2⟩
      · have HP := Lib.hid (And.intro hown (And.intro hR hG))
        clear hown hR hG
        go_wp2
        go_ret
        exact ⟨cs, _, c, q, (by rw [HCL.out]; rfl), by rw [HCL.out]; omega, by omega, by rw [HCL.out]; exact HP.out.1, HP.out.2.1, HP.out.2.2⟩
set_option maxHeartbeats 4000000 in
theorem someClaus_any (w : World) (B g p : Nat) (h : Rdr w B g p) (hp : p < 800000) :
    Calls Try.prog 70 #[.pointer (some ⟨g, 0, none⟩)] w (TPost 54 w B g p) := by
  obtain ⟨i0, hi, hz0, hz1, hz2⟩ := info_parts info_clau2
  have hlt0 := h.lt
  have hr1 := h.alloc (.cells #[] 54)
  go_enter Try.func70, Try.ntmps70
  go_wp2_with fail
  refine (one_any [3,2,4,1,0,6] 6 rfl _ _ _ _ _ (hr1.alloc _) (by omega) (by omega) (by omega) (alloc_at (by simp)) (by have := hr1.lt; omega)).mono ?_
  rintro e w4 ⟨n0, rfl, hmn0, rw4, gw4⟩
  have hbn0 : 0 ≤ n0 ∧ n0 ≤ 6 := by simp only [List.mem_cons, List.not_mem_nil, or_false] at hmn0; omega
  clear hmn0
  have o4 := owz_only (owz_alloc (owz_empty w 54 3) (.cells (ints [3,2,4,1,0,6]).toArray 3)) gw4 hlt0
  have hG4 := only_trans (only_alloc (only_alloc (only_refl w g) (.cells #[] 54)) (.cells (ints [3,2,4,1,0,6]).toArray 3)) gw4
  obtain ⟨k0, rfl⟩ := Int.eq_ofNat_of_zero_le hbn0.1
  have hst : TRel 54 w B g p (.slice (some ⟨w.heap.size, 0, none⟩) 0 0) (.int .i64 (k0 : Nat)) w4 := ⟨k0, 0, p + 1, _, 0, [], rfl, by omega, rfl, rfl, o4, by omega, rw4, hG4⟩
  have HST := Lib.hid hst
  clear hst o4 hG4 gw4 rw4 hr1 h
  go_wp2
  go_loopw [3, 4, 5] (fun v i _ wr => TRel 54 w B g p v i wr) (fun _ i _ _ => (intOf i).toNat)
  case atStart => exact HST.out
  case round =>
    clear HST
    obtain ⟨k, m, q, gb, c, cs, rfl, hkm, hcl, rfl, hown, hq, hR, hG⟩ := hrel
    have hsz := hG.size
    have HCL := Lib.hid hcl
    clear hcl
    by_cases hk : 0 < k
    · have hk2 : (0 : Int) < (k : Int) := by omega
      go_wp2_with fail
      refine (pick_any 200 _ _ _ _ hR (by omega) (by omega)).mono ?_
      rintro e w5 ⟨z, rfl, z0, z1, r5, g5⟩
      have o5 := owz_only hown g5 hlt0
      have hG5 := only_trans hG g5
      clear hown g5 hR hG
      go_wp2_with fail
      refine (one_any [0,50,100,z,51] 5 rfl _ _ _ _ _ (r5.alloc _) (by omega) (by omega) (by omega) (alloc_at (by simp)) (by have := r5.lt; omega)).mono ?_
      rintro e w6 ⟨x, rfl, hmx, rw6, gw6⟩
      have hbx : 0 ≤ x ∧ x ≤ 200 := by simp only [List.mem_cons, List.not_mem_nil, or_false] at hmx; omega
      clear hmx
      have o6 := owz_only (owz_alloc o5 (.cells (ints [0,50,100,z,51]).toArray 3)) gw6 hlt0
      have hG6 := only_trans (only_alloc hG5 (.cells (ints [0,50,100,z,51]).toArray 3)) gw6
      clear o5 hG5 gw6 r5
      go_wp2_with fail
      refine (pick_any 60 _ _ _ _ rw6 (by omega) (by omega)).mono ?_
      rintro e w7 ⟨y, rfl, y0, y1, r7, g7⟩
      have o7 := owz_only o6 g7 hlt0
      have hG7 := only_trans hG6 g7
      clear o6 g7 rw6 hG6
      go_wp2_with fail
      refine (one_any [49,0,100,y] 4 rfl _ _ _ _ _ (r7.alloc _) (by omega) (by omega) (by omega) (alloc_at (by simp)) (by have := r7.lt; omega)).mono ?_
      rintro e w8 ⟨d, rfl, hmd, rw8, gw8⟩
      have hbd : 0 ≤ d ∧ d ≤ 100 := by simp only [List.mem_cons, List.not_mem_nil, or_false] at hmd; omega
      clear hmd
      have o8 := owz_only (owz_alloc o7 (.cells (ints [49,0,100,y]).toArray 3)) gw8 hlt0
      have hG8 := only_trans (only_alloc hG7 (.cells (ints [49,0,100,y]).toArray 3)) gw8
      clear o7 hG7 gw8 r7
      go_wp2_with fail
      refine (one_any [10,-10,5,20,-20,0] 6 rfl _ _ _ _ _ (rw8.alloc _) (by omega) (by omega) (by omega) (alloc_at (by simp)) (by have := rw8.lt; omega)).mono ?_
      rintro e w9 ⟨a, rfl, hma, rw9, gw9⟩
      have hba : -20 ≤ a ∧ a ≤ 20 := by simp only [List.mem_cons, List.not_mem_nil, or_false] at hma; omega
      clear hma
      have o9 := owz_only (owz_alloc o8 (.cells (ints [10,-10,5,20,-20,0]).toArray 3)) gw9 hlt0
      have hG9 := only_trans (only_alloc hG8 (.cells (ints [10,-10,5,20,-20,0]).toArray 3)) gw9
      clear o8 hG8 gw9 rw8
      have hs9 := hG9.size
      have HP9 := Lib.hid (And.intro o9 (And.intro rw9 hG9))
      clear o9 rw9 hG9
      go_wp2_with (at_builtin; refine wpList_append_own _ rfl _ _ 43 rfl (w.heap.size) 54 i0 (.agg #[.int .i64 0, .int .i64 0, .int .i64 0]) 3 24 Try.underlying43 hi hz0 hz1 hz2 rfl (by decide) _ _ _ rfl (owz_alloc HP9.out.1 _) ⟨w9.heap.size, 0, none⟩ 1 1 [.int .i64 x, .int .i64 (x + d), .int .i64 a] rfl rfl (three_new _ _ _ _ _ _ rfl) (fun u hu => by simp at hu; rcases hu with rfl | rfl | rfl <;> rfl) (by unfold maxLen; omega) (by omega) (by simp; omega) ?_)
      intro v' wz hown' hgrow _
      have hob := owz_block HP9.out.1
      have rz : Rdr wz B g (q + 1 + 1 + 1 + 1 + 1) := (HP9.out.2.1.alloc _).own hgrow (fun k hk => by have := hob k hk; omega)
      have Gz : w.grownBy wz (some g) := only_own (only_alloc HP9.out.2.2 _) hgrow hob
      obtain ⟨A5, c5, hv5⟩ := owz_form hown'
      subst hv5
      obtain ⟨g5, rfl, _, _, _, _⟩ := owz_some (by omega) hown' (by omega)
      have hown5 : wz.ownsRow w.heap.size 54 3 (.slice (some ⟨g5, 0, none⟩) (m + 1) c5) (m + 1) (custV (cs ++ [(x, (x + d), a)])) := by rw [custV_snoc]; exact hown'
      have HLEN : Hid ((cs ++ [(x, (x + d), a)]).length = m + 1) := Lib.hid (by rw [List.length_append, HCL.out]; rfl)
      have HP := Lib.hid (And.intro hown5 (And.intro rz Gz))
      clear hown' hgrow hob rz Gz hown5
      go_wp2
      go_roundw
      case rel => exact ⟨k - 1, m + 1, q + 1 + 1 + 1 + 1 + 1, g5, c5, cs ++ [(x, (x + d), a)], by first | (congr 1; omega) | rfl, by omega, HLEN.out, rfl, HP.out.1, by omega, HP.out.2.1, HP.out.2.2⟩
      case measure => simp [intOf]; omega
    · have hk2 : ¬ (0 : Int) < (k : Int) := by omega
      by_cases h0 : 0 < m
      · have h0i : (0 : Int) < (m : Int) := by omega
        go_wp2_with fail
        refine (pick_any 16 _ _ _ _ hR (by omega) (by omega)).mono ?_
        rintro e w5 ⟨z, rfl, z0, z1, r5, g5⟩
        have o5 := owz_only hown g5 hlt0
        have G5 := only_trans hG g5
        clear hown hR hG g5
        by_cases hz : z = 0
        · subst hz
          obtain ⟨⟨x0, d0, v0⟩, hq0⟩ : ∃ t : Cu, cs[0]? = some t := ⟨_, List.getElem?_eq_getElem (by rw [HCL.out]; exact h0)⟩
          have kx := owz_cell o5 (custV_at hq0).1
          have HQ0 := Lib.hid hq0
          simp only [Nat.zero_mul] at kx
          clear hq0
          go_wp2_with fail
          refine (one_any [1000, -1] 2 rfl _ _ _ _ _ (r5.alloc _) (by omega) (by omega) (by omega) (alloc_at (by simp)) (by have := r5.lt; omega)).mono ?_
          rintro e w6 ⟨a, rfl, _, rw6, gw6⟩
          have o6 := owz_only (owz_alloc o5 (.cells (ints [1000, -1]).toArray 3)) gw6 hlt0
          have hG6 := only_trans (only_alloc G5 (.cells (ints [1000, -1]).toArray 3)) gw6
          clear o5 G5 gw6 r5 kx
          have k1 := owz_cell o6 (custV_at HQ0.out).2.1
          have f1 := owz_frozen o6 (0 * 3 + 1)
          have hput := owz_put o6 (0 * 3 + 1) (.int .i64 a)
          rw [custV_set1 HQ0.out] at hput
          have hgbw := owz_block o6 gb rfl
          have hgw := only_set (only_refl w6 gb) (p := ⟨gb, 0 * 3 + 1, none⟩) (.inl rfl) (.int .i64 a)
          have hR7 := rw6.own hgw (fun k hk => by injection hk with hk; omega)
          have hG7 := only_set hG6 (p := ⟨gb, 0 * 3 + 1, none⟩) (.inr hgbw) (.int .i64 a)
          have HP := Lib.hid (And.intro hput (And.intro hR7 hG7))
          have HL5 : Hid ((cs.set 0 (x0, a, v0)).length = m) := Lib.hid (by rw [List.length_set, HCL.out])
          clear hput hR7 hG7 hgw o6 rw6 hG6
          simp only [Nat.zero_mul, Nat.zero_add] at k1 f1 HP
          go_wp2
          go_ret
          exact ⟨cs.set 0 (x0, a, v0), _, c, q + 1 + 1, (by rw [HL5.out]; rfl), by rw [HL5.out]; omega, by omega, by rw [HL5.out]; exact HP.out.1, HP.out.2.1, HP.out.2.2⟩
        · have hzb : ((z : Int) == 0) = false := beq_eq_false_iff_ne.2 hz
          have HP := Lib.hid (And.intro o5 (And.intro r5 G5))
          clear o5 r5 G5
          go_wp2
          go_ret
          exact ⟨cs, _, c, q + 1, (by rw [HCL.out]; rfl), by rw [HCL.out]; omega, by omega, by rw [HCL.out]; exact HP.out.1, HP.out.2.1, HP.out.2.2⟩
      · have HP := Lib.hid (And.intro hown (And.intro hR hG))
        clear hown hR hG
        go_wp2
        go_ret
        exact ⟨cs, _, c, q, (by rw [HCL.out]; rfl), by rw [HCL.out]; omega, by omega, by rw [HCL.out]; exact HP.out.1, HP.out.2.1, HP.out.2.2⟩
def BPost (w : World) (B g p : Nat) (e : Ending) (w' : World) : Prop :=
  ∃ (bs : List Int) (A : Option Addr) (c q : Nat), e = .returned (.slice A bs.length c) ∧ bs.length ≤ 8 ∧ q ≤ p + 70 ∧ w'.ownsRow w.heap.size 3 1 (.slice A bs.length c) bs.length (ints bs) ∧ Rdr w' B g q ∧ w.grownBy w' (some g)
set_option maxHeartbeats 4000000 in
theorem someBids_any (w : World) (B g p : Nat) (h : Rdr w B g p) (hp : p < 800000) :
    Calls Try.prog 59 #[.pointer (some ⟨g, 0, none⟩)] w (BPost w B g p) := by
  obtain ⟨i0, hi, hz0, hz1, hz2⟩ := info_parts info_int
  have hlt0 := h.lt
  have hr1 := h.alloc (.cells #[] 3)
  go_enter Try.func59, Try.ntmps59
  go_wp2_with fail
  refine (one_any [4,5,3,1,0,8] 6 rfl _ _ _ _ _ (hr1.alloc _) (by omega) (by omega) (by omega) (alloc_at (by simp)) (by have := hr1.lt; omega)).mono ?_
  rintro e w4 ⟨n0, rfl, hmn0, rw4, gw4⟩
  have hbn0 : 0 ≤ n0 ∧ n0 ≤ 8 := by simp only [List.mem_cons, List.not_mem_nil, or_false] at hmn0; omega
  clear hmn0
  have o4 := owz_only (owz_alloc (owz_empty w 3 1) (.cells (ints [4,5,3,1,0,8]).toArray 3)) gw4 hlt0
  have hG4 := only_trans (only_alloc (only_alloc (only_refl w g) (.cells #[] 3)) (.cells (ints [4,5,3,1,0,8]).toArray 3)) gw4
  obtain ⟨k0, rfl⟩ := Int.eq_ofNat_of_zero_le hbn0.1
  have HST := Lib.hid (And.intro o4 (And.intro rw4 hG4))
  clear o4 hG4 gw4 rw4 hr1 h
  go_wp2
  go_loopw [3, 4] (fun v i wr => ∃ (k m q b c : Nat) (bs : List Int), i = .int .i64 k ∧ k + m ≤ 8 ∧ bs.length = m ∧ v = .slice (some ⟨b, 0, none⟩) m c ∧ wr.ownsRow w.heap.size 3 1 v m (ints bs) ∧ q + 6 * k ≤ p + 60 ∧ Rdr wr B g q ∧ w.grownBy wr (some g)) (fun _ i _ => (intOf i).toNat)
  case atStart => exact ⟨k0, 0, p + 1, _, 0, [], rfl, by omega, rfl, rfl, HST.out.1, by omega, HST.out.2.1, HST.out.2.2⟩
  case round =>
    clear HST
    obtain ⟨k, m, q, gb, c, bs, rfl, hkm, hcl, rfl, hown, hq, hR, hG⟩ := hrel
    have hsz := hG.size
    have HCL := Lib.hid hcl
    clear hcl
    by_cases hk : 0 < k
    · have hk2 : (0 : Int) < (k : Int) := by omega
      go_wp2_with fail
      refine (pick_any 40 _ _ _ _ hR (by omega) (by omega)).mono ?_
      rintro e w5 ⟨x, rfl, x0, x1, r5, g5⟩
      have o5 := owz_only hown g5 hlt0
      have hG5 := only_trans hG g5
      clear hown g5 hR hG
      go_wp2_with fail
      refine (one_any [10,20,15,x,0,20] 6 rfl _ _ _ _ _ (r5.alloc _) (by omega) (by omega) (by omega) (alloc_at (by simp)) (by have := r5.lt; omega)).mono ?_
      rintro e w6 ⟨a, rfl, hma, rw6, gw6⟩
      have hba : 0 ≤ a ∧ a ≤ 40 := by simp only [List.mem_cons, List.not_mem_nil, or_false] at hma; omega
      clear hma
      have o6 := owz_only (owz_alloc o5 (.cells (ints [10,20,15,x,0,20]).toArray 3)) gw6 hlt0
      have hG6 := only_trans (only_alloc hG5 (.cells (ints [10,20,15,x,0,20]).toArray 3)) gw6
      clear o5 hG5 gw6 r5
      have hs9 := hG6.size
      have HP9 := Lib.hid (And.intro o6 (And.intro rw6 hG6))
      clear o6 rw6 hG6
      go_wp2_with (at_builtin; refine wpList_append_own _ rfl _ _ 27 rfl (w.heap.size) 3 i0 (.int .i64 0) 1 8 Try.underlying27 hi hz0 hz1 hz2 rfl (by decide) _ _ _ rfl (owz_alloc HP9.out.1 _) ⟨w6.heap.size, 0, none⟩ 1 1 [.int .i64 a] rfl rfl (one_new _ _ _ _ rfl) (fun u hu => by simp at hu; subst hu; rfl) (by unfold maxLen; omega) (by omega) (by simp; omega) ?_)
      intro v' wz hown' hgrow _
      have hob := owz_block HP9.out.1
      have rz : Rdr wz B g (q + 1 + 1) := (HP9.out.2.1.alloc _).own hgrow (fun k hk => by have := hob k hk; omega)
      have Gz : w.grownBy wz (some g) := only_own (only_alloc HP9.out.2.2 _) hgrow hob
      obtain ⟨A5, c5, hv5⟩ := owz_form hown'
      subst hv5
      obtain ⟨g5, rfl, _, _, _, _⟩ := owz_some (by omega) hown' (by omega)
      have hown5 : wz.ownsRow w.heap.size 3 1 (.slice (some ⟨g5, 0, none⟩) (m + 1) c5) (m + 1) (ints (bs ++ [a])) := by rw [ints, List.map_append]; exact hown'
      have HLEN : Hid ((bs ++ [a]).length = m + 1) := Lib.hid (by rw [List.length_append, HCL.out]; rfl)
      have HP := Lib.hid (And.intro hown5 (And.intro rz Gz))
      clear hown' hgrow hob rz Gz hown5
      go_wp2
      go_roundw
      case rel => exact ⟨k - 1, m + 1, q + 1 + 1, g5, c5, bs ++ [a], by first | (congr 1; omega) | rfl, by omega, HLEN.out, rfl, HP.out.1, by omega, HP.out.2.1, HP.out.2.2⟩
      case measure => simp [intOf]; omega
    · have hk2 : ¬ (0 : Int) < (k : Int) := by omega
      by_cases h0 : 0 < m
      · have h0i : (0 : Int) < (m : Int) := by omega
        go_wp2_with fail
        refine (pick_any 16 _ _ _ _ hR (by omega) (by omega)).mono ?_
        rintro e w5 ⟨z, rfl, z0, z1, r5, g5⟩
        have o5 := owz_only hown g5 hlt0
        have G5 := only_trans hG g5
        clear hown hR hG g5
        by_cases hz : z = 0
        · subst hz
          go_wp2_with fail
          refine (one_any [-1,10001] 2 rfl _ _ _ _ _ (r5.alloc _) (by omega) (by omega) (by omega) (alloc_at (by simp)) (by have := r5.lt; omega)).mono ?_
          rintro e w6 ⟨a, rfl, hma, rw6, gw6⟩
          have hba : -1 ≤ a ∧ a ≤ 10001 := by simp only [List.mem_cons, List.not_mem_nil, or_false] at hma; omega
          clear hma
          have o6 := owz_only (owz_alloc o5 (.cells (ints [-1,10001]).toArray 3)) gw6 hlt0
          have hG6 := only_trans (only_alloc G5 (.cells (ints [-1,10001]).toArray 3)) gw6
          clear o5 G5 gw6 r5
          obtain ⟨y0, hq0⟩ : ∃ t : Int, bs[0]? = some t := ⟨_, List.getElem?_eq_getElem (by rw [HCL.out]; exact h0)⟩
          have k1 := owz_cell o6 (k := 0) (x := .int .i64 y0) (by rw [ints, List.getElem?_map, hq0]; rfl)
          have f1 := owz_frozen o6 0
          have hput := owz_put o6 0 (.int .i64 a)
          rw [ints_set] at hput
          have hgbw := owz_block o6 gb rfl
          have hgw := only_set (only_refl w6 gb) (p := ⟨gb, 0, none⟩) (.inl rfl) (.int .i64 a)
          have hR7 := rw6.own hgw (fun k hk => by injection hk with hk; omega)
          have hG7 := only_set hG6 (p := ⟨gb, 0, none⟩) (.inr hgbw) (.int .i64 a)
          have HP := Lib.hid (And.intro hput (And.intro hR7 hG7))
          have HL5 : Hid ((bs.set 0 a).length = m) := Lib.hid (by rw [List.length_set, HCL.out])
          clear hput hR7 hG7 hgw o6 rw6 hG6 hq0
          go_wp2
          go_ret
          exact ⟨bs.set 0 a, _, c, q + 1 + 1, (by rw [HL5.out]; rfl), by rw [HL5.out]; omega, by omega, by rw [HL5.out]; exact HP.out.1, HP.out.2.1, HP.out.2.2⟩
        · have hzb : ((z : Int) == 0) = false := beq_eq_false_iff_ne.2 hz
          have HP := Lib.hid (And.intro o5 (And.intro r5 G5))
          clear o5 r5 G5
          go_wp2
          go_ret
          exact ⟨bs, _, c, q + 1, (by rw [HCL.out]; rfl), by rw [HCL.out]; omega, by omega, by rw [HCL.out]; exact HP.out.1, HP.out.2.1, HP.out.2.2⟩
      · have HP := Lib.hid (And.intro hown (And.intro hR hG))
        clear hown hR hG
        go_wp2
        go_ret
        exact ⟨bs, _, c, q, (by rw [HCL.out]; rfl), by rw [HCL.out]; omega, by omega, by rw [HCL.out]; exact HP.out.1, HP.out.2.1, HP.out.2.2⟩

end Go.Proofs.Ytiihenhddleooaa

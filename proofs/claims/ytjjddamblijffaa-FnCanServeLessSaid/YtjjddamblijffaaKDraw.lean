/- The generators someCustomers and orderOf by contracts. -/
import Derived.Deep.AppendSrc
import Derived.Maps.AppendAt
import Derived.Test.YtjjddamblijffaaKExact
import Derived.Test.YtjjddamblijffaaKSweepS
import Derived.Test.YtjjddamblijffaaDraws
namespace Go.Proofs.Ytjjddamblijffaa
open Go.RowKit
set_option linter.unusedVariables false
set_option linter.unusedSimpArgs false
theorem add_atK (b j : Nat) : (⟨b, 0, none⟩ : Addr).add j = ⟨b, j, none⟩ := by
  simp [Addr.add]
  exact fun h => h.symm
/-- some customers that a call made, beside a reader -/
def CustRel (w : World) (B g p : Nat) (v i : Value) (wr : World) : Prop :=
  ∃ (k m q b c : Nat) (cs : List Cu), i = .int .i64 k ∧ k + m ≤ 7 ∧ cs.length = m ∧ v = .slice (some ⟨b, 0, none⟩) m c ∧ wr.ownsRow w.heap.size 33 3 v m (custV cs) ∧ q + 6 * k ≤ p + 50 ∧ Rdr wr B g q ∧ w.grownBy wr (some g)
def CustPost (w : World) (B g p : Nat) (e : Ending) (w' : World) : Prop :=
  ∃ (cs : List Cu) (A : Option Addr) (c q : Nat), e = .returned (.slice A cs.length c) ∧ cs.length ≤ 7 ∧ q ≤ p + 60 ∧ w'.ownsRow w.heap.size 33 3 (.slice A cs.length c) cs.length (custV cs) ∧ Rdr w' B g q ∧ w.grownBy w' (some g)
set_option maxHeartbeats 2000000 in
theorem someCust_any (w : World) (B g p : Nat) (h : Rdr w B g p) (hp : p < 800000) :
    Calls Try.prog 50 #[.pointer (some ⟨g, 0, none⟩)] w (CustPost w B g p) := by
  obtain ⟨i0, hi, hz0, hz1, hz2⟩ := info_parts info_cust
  have hlt0 := h.lt
  have hr1 := h.alloc (.cells #[] 33)
  go_enter Try.func50, Try.ntmps50
  go_wp2_with fail
  refine (one_any [4,3,5,2,1,0,7] 7 rfl _ _ _ _ _ (hr1.alloc _) (by omega) (by omega) (by omega) (alloc_at (by simp)) (by have := hr1.lt; omega)).mono ?_
  rintro e w4 ⟨n0, rfl, hmn0, rw4, gw4⟩
  have hbn0 : 0 ≤ n0 ∧ n0 ≤ 7 := by simp only [List.mem_cons, List.not_mem_nil, or_false] at hmn0; omega
  clear hmn0
  have o4 := owz_only (owz_alloc (owz_empty w 33 3) (.cells (ints [4,3,5,2,1,0,7]).toArray 3)) gw4 hlt0
  have hG4 := only_trans (only_alloc (only_alloc (only_refl w g) (.cells #[] 33)) (.cells (ints [4,3,5,2,1,0,7]).toArray 3)) gw4
  obtain ⟨k0, rfl⟩ := Int.eq_ofNat_of_zero_le hbn0.1
  have hst : CustRel w B g p (.slice (some ⟨w.heap.size, 0, none⟩) 0 0) (.int .i64 (k0 : Nat)) w4 := ⟨k0, 0, p + 1, _, 0, [], rfl, by omega, rfl, rfl, o4, by omega, rw4, hG4⟩
  have HST := Lib.hid hst
  clear hst o4 hG4 gw4 rw4 hr1 h
  go_wp2
  go_loopw [3, 4] (fun v i wr => CustRel w B g p v i wr) (fun _ i _ => (intOf i).toNat)
  case atStart => exact HST.out
  case round =>
    clear HST
    obtain ⟨k, m, q, gb, c, cs, rfl, hkm, hcl, rfl, hown, hq, hR, hG⟩ := hrel
    have hsz := hG.size
    have HCL := Lib.hid hcl
    clear hcl
    by_cases hk : 0 < k
    · have hk2 : (0 : Int) < (k : Int) := by omega
      go_wp2_with fail
      refine (pick_any _ _ _ _ _ hR (by omega) (by omega)).mono ?_
      rintro e w5 ⟨x, rfl, x0, x1, r5, g5⟩
      have o5 := owz_only hown g5 hlt0
      have hG5 := only_trans hG g5
      clear hown g5 hR hG
      go_wp2_with fail
      refine (one_any [5,-5,10,-12,20,0,x - 20] 7 rfl _ _ _ _ _ (r5.alloc _) (by omega) (by omega) (by omega) (alloc_at (by simp)) (by have := r5.lt; omega)).mono ?_
      rintro e w6 ⟨a, rfl, hma, rw6, gw6⟩
      have hba : -20 ≤ a ∧ a ≤ 20 := by simp only [List.mem_cons, List.not_mem_nil, or_false] at hma; omega
      clear hma
      have o6 := owz_only (owz_alloc o5 (.cells (ints [5,-5,10,-12,20,0,x - 20]).toArray 3)) gw6 hlt0
      have hG6 := only_trans (only_alloc hG5 (.cells (ints [5,-5,10,-12,20,0,x - 20]).toArray 3)) gw6
      clear o5 hG5 gw6 r5
      go_wp2_with fail
      refine (pick_any _ _ _ _ _ rw6 (by omega) (by omega)).mono ?_
      rintro e w7 ⟨y, rfl, y0, y1, r7, g7⟩
      have o7 := owz_only o6 g7 hlt0
      have hG7 := only_trans hG6 g7
      clear o6 g7 rw6 hG6
      go_wp2_with fail
      refine (one_any [30,60,15,8,100,y] 6 rfl _ _ _ _ _ (r7.alloc _) (by omega) (by omega) (by omega) (alloc_at (by simp)) (by have := r7.lt; omega)).mono ?_
      rintro e w8 ⟨d, rfl, hmd, rw8, gw8⟩
      have hbd : 0 ≤ d ∧ d ≤ 120 := by simp only [List.mem_cons, List.not_mem_nil, or_false] at hmd; omega
      clear hmd
      have o8 := owz_only (owz_alloc o7 (.cells (ints [30,60,15,8,100,y]).toArray 3)) gw8 hlt0
      have hG8 := only_trans (only_alloc hG7 (.cells (ints [30,60,15,8,100,y]).toArray 3)) gw8
      clear o7 hG7 gw8 r7
      go_wp2_with fail
      refine (pick_any _ _ _ _ _ rw8 (by omega) (by omega)).mono ?_
      rintro e w9 ⟨z, rfl, z0, z1, r9, g9⟩
      have o9 := owz_only o8 g9 hlt0
      have hG9 := only_trans hG8 g9
      have hs9 := hG9.size
      have HP9 := Lib.hid (And.intro o9 (And.intro r9 hG9))
      clear o8 hG8 g9 rw8 o9 r9 hG9
      go_wp2_with (at_builtin; refine wpList_append_own _ rfl _ _ 23 rfl (w.heap.size) 33 i0 (.agg #[.int .i64 0, .int .i64 0, .int .i64 0]) 3 24 Try.underlying23 hi hz0 hz1 hz2 rfl (by decide) _ _ _ rfl (owz_alloc HP9.out.1 _) ⟨w9.heap.size, 0, none⟩ 1 1 [.int .i64 a, .int .i64 d, .int .i64 (1 + z)] rfl rfl (three_new _ _ _ _ _ _ rfl) (fun u hu => by simp at hu; rcases hu with rfl | rfl | rfl <;> rfl) (by unfold maxLen; omega) (by omega) (by simp; omega) ?_)
      intro v' w11 hown' hgrow _
      have hob := owz_block HP9.out.1
      have r11 : Rdr w11 B g (q + 1 + 1 + 1 + 1 + 1) := (HP9.out.2.1.alloc _).own hgrow (fun k hk => by have := hob k hk; omega)
      have G11 : w.grownBy w11 (some g) := only_own (only_alloc HP9.out.2.2 _) hgrow hob
      obtain ⟨A5, c5, hv5⟩ := owz_form hown'
      subst hv5
      obtain ⟨g5, rfl, _, _, _, _⟩ := owz_some (by omega) hown' (by omega)
      have hown5 : w11.ownsRow w.heap.size 33 3 (.slice (some ⟨g5, 0, none⟩) (m + 1) c5) (m + 1) (custV (cs ++ [(a, d, 1 + z)])) := by rw [custV_snoc]; exact hown'
      have HLEN : Hid ((cs ++ [(a, d, 1 + z)]).length = m + 1) := Lib.hid (by rw [List.length_append, HCL.out]; rfl)
      have HP := Lib.hid (And.intro hown5 (And.intro r11 G11))
      clear hown' hgrow hob r11 G11 hown5
      go_wp2
      go_roundw
      case rel => exact ⟨k - 1, m + 1, q + 1 + 1 + 1 + 1 + 1, g5, c5, cs ++ [(a, d, 1 + z)], by first | (congr 1; omega) | rfl, by omega, HLEN.out, rfl, HP.out.1, by omega, HP.out.2.1, HP.out.2.2⟩
      case measure => simp [intOf]; omega
    · have hk2 : ¬ (0 : Int) < (k : Int) := by omega
      by_cases h0 : 0 < m
      · have h0i : (0 : Int) < (m : Int) := by omega
        go_wp2_with fail
        refine (pick_any 20 _ _ _ _ hR (by omega) (by omega)).mono ?_
        rintro e w5 ⟨z, rfl, z0, z1, r5, g5⟩
        have o5 := owz_only hown g5 hlt0
        have G5 := only_trans hG g5
        clear hown hR hG g5
        by_cases hz : z = 0
        · subst hz
          go_wp2_with fail
          refine (one_any [101,-101] 2 rfl _ _ _ _ _ (r5.alloc _) (by omega) (by omega) (by omega) (alloc_at (by simp)) (by have := r5.lt; omega)).mono ?_
          rintro e w6 ⟨a, rfl, hma, rw6, gw6⟩
          have hba : -101 ≤ a ∧ a ≤ 101 := by simp only [List.mem_cons, List.not_mem_nil, or_false] at hma; omega
          clear hma
          have o6 := owz_only (owz_alloc o5 (.cells (ints [101,-101]).toArray 3)) gw6 hlt0
          have hG6 := only_trans (only_alloc G5 (.cells (ints [101,-101]).toArray 3)) gw6
          clear o5 G5 gw6 r5
          obtain ⟨⟨x0, d0, v0⟩, hq0⟩ : ∃ t : Cu, cs[0]? = some t := ⟨_, List.getElem?_eq_getElem (by rw [HCL.out]; exact h0)⟩
          have k1 := owz_cell o6 (custV_at hq0).1
          have f1 := owz_frozen o6 (0 * 3)
          have hput := owz_put o6 (0 * 3) (.int .i64 a)
          rw [custV_set0 hq0] at hput
          have hgbw := owz_block o6 gb rfl
          have hgw := only_set (only_refl w6 gb) (p := ⟨gb, 0 * 3, none⟩) (.inl rfl) (.int .i64 a)
          have hR7 := rw6.own hgw (fun k hk => by injection hk with hk; omega)
          have hG7 := only_set hG6 (p := ⟨gb, 0 * 3, none⟩) (.inr hgbw) (.int .i64 a)
          have HP := Lib.hid (And.intro hput (And.intro hR7 hG7))
          have HL5 : Hid ((cs.set 0 (a, d0, v0)).length = m) := Lib.hid (by rw [List.length_set, HCL.out])
          clear hput hR7 hG7 hgw o6 rw6 hG6 hq0
          simp only [Nat.zero_mul] at k1 f1 HP
          go_wp2
          go_ret
          exact ⟨cs.set 0 (a, d0, v0), _, c, q + 1 + 1, (by rw [HL5.out]; rfl), by rw [HL5.out]; omega, by omega, by rw [HL5.out]; exact HP.out.1, HP.out.2.1, HP.out.2.2⟩
        · have hzb : ((z : Int) == 0) = false := beq_eq_false_iff_ne.2 hz
          have HP := Lib.hid (And.intro o5 (And.intro r5 G5))
          clear o5 r5 G5
          go_wp2
          go_ret
          exact ⟨cs, _, c, q + 1, (by rw [HCL.out]; rfl), by rw [HCL.out]; omega, by omega, by rw [HCL.out]; exact HP.out.1, HP.out.2.1, HP.out.2.2⟩
      · have HP := Lib.hid (And.intro hown (And.intro hR hG))
        clear hown hR hG
        go_wp2
        go_ret
        exact ⟨cs, _, c, q, (by rw [HCL.out]; rfl), by rw [HCL.out]; omega, by omega, by rw [HCL.out]; exact HP.out.1, HP.out.2.1, HP.out.2.2⟩

end Go.Proofs.Ytjjddamblijffaa

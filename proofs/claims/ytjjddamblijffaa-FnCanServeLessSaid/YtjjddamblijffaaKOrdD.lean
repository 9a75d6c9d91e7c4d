/- The generator orderOf, and the draws of chapter 6, by contracts. -/
import Derived.Test.YtjjddamblijffaaKDraw
namespace Go.Proofs.Ytjjddamblijffaa
open Go.RowKit
set_option linter.unusedVariables false
set_option linter.unusedSimpArgs false
theorem only_belK {a w w' : World} {g : Nat} (h : a.grownBy w (some g)) (hb : Below w.heap.size w w') : a.grownBy w' (some g) :=
  ⟨hb.os.trans h.os, hb.tape.trans h.tape, hb.output.trans h.output, Nat.le_trans h.size hb.size, fun i hi hne => (hb.block i (Nat.lt_of_lt_of_le hi h.size)).trans (h.block i hi hne)⟩
def OrdRel (w : World) (B g p0 n : Nat) (v i : Value) (wr : World) : Prop :=
  ∃ (k q b c : Nat) (os : List Int), i = .int .i64 k ∧ k ≤ n ∧ os.length = k ∧ v = .slice (some ⟨b, 0, none⟩) k c ∧ wr.ownsRow w.heap.size 3 1 v k (ints os) ∧ (∀ z ∈ os, -1 ≤ z ∧ z ≤ 8) ∧ q ≤ p0 + k ∧ Rdr wr B g q ∧ w.grownBy wr (some g)
def OrdPost (w : World) (B g p n : Nat) (e : Ending) (w' : World) : Prop :=
  ∃ (os : List Int) (A : Option Addr) (c q : Nat), e = .returned (.slice A os.length c) ∧ os.length = n ∧ q ≤ p + 20 ∧ w'.ownsRow w.heap.size 3 1 (.slice A os.length c) os.length (ints os) ∧ Rdr w' B g q ∧ w.grownBy w' (some g)
set_option maxHeartbeats 4000000 in
theorem orderOf_any (w : World) (B g p0 : Nat) (h : Rdr w B g p0) (hp0 : p0 < 800000) (n : Nat) (hn : n ≤ 8) :
    Calls Try.prog 55 #[.pointer (some ⟨g, 0, none⟩), .int .i64 n] w (OrdPost w B g p0 n) := by
  obtain ⟨i0, hi, hz0, hz1, hz2⟩ := info_parts info_int
  have hlt0 := h.lt
  have hst : OrdRel w B g p0 n (.slice (some ⟨w.heap.size, 0, none⟩) 0 0) (.int .i64 ((0 : Nat) : Int)) (w.alloc (.cells #[] 3)) := ⟨0, p0, _, 0, [], rfl, Nat.zero_le _, rfl, rfl, own_empty w _, by simp, by omega, h.alloc _, only_alloc (only_refl w g) _⟩
  have HST := Lib.hid hst
  clear hst h
  go_enter Try.func55, Try.ntmps55
  go_wp2
  go_loopw [5, 6] (fun v i wr => OrdRel w B g p0 n v i wr) (fun _ i _ => n - (intOf i).toNat)
  case atStart => exact HST.out
  case round =>
    clear HST
    obtain ⟨k, q0, gl, c, os, rfl, hkn, hcl, rfl, hown, hbd, hq, hR, hG⟩ := hrel
    have hsz := hG.size
    have HLN := Lib.hid hcl
    have HBD := Lib.hid hbd
    have hcap : k ≤ c ∧ c ≤ maxLen := by
      rcases hown.2 with ⟨e, _⟩ | ⟨g', cap, cur, e, _, _, h3, h4, _⟩
      · cases e
      · injection e with _ _ e3; subst e3; exact ⟨h3, h4⟩
    clear hcl hbd
    by_cases hlt : k < n
    · skip
      go_wp2_with fail
      refine (pick_any ((k : Int) + 1) _ _ _ _ hR (by omega) (by omega)).mono ?_
      rintro e w4 ⟨x, rfl, x0, x1, r4, g4⟩
      have o4 := own_only hown g4 hlt0
      have G4 := only_trans hG g4
      have hglt := own_lt o4 gl rfl
      clear hown hR hG g4
      obtain ⟨p, rfl⟩ := Int.eq_ofNat_of_zero_le x0
      have hpk : p ≤ k := by omega
      obtain ⟨wr, rfl⟩ : ∃ wr, wr = w4 := ⟨w4, rfl⟩
      obtain ⟨q, hqq⟩ : ∃ q, q = q0 + 1 := ⟨_, rfl⟩
      rw [← hqq] at r4
      have hq2 : q ≤ p0 + (k + 1) := by omega
      have hszw := G4.size
      have l1 : p ≤ c := by omega
      have l2 : (p : Int) ≤ (c : Int) := by omega
      have l3 : (p : Int) ≤ (k : Int) := by omega
      have l4 : (k : Int) ≤ (c : Int) := by omega
      have HX := Lib.hid (And.intro o4 (And.intro r4 G4))
      clear o4 r4 G4 hqq hsz hq
      by_cases hcp : c = p
      · as_aux_lemma =>
          have hpc := hcp.symm
          subst hpc
          have hkp : k - p = 0 := by omega
          obtain ⟨rs, hrs⟩ : ∃ rs, rs = os.drop p := ⟨_, rfl⟩
          have hdl : rs.length = 0 := by rw [hrs, List.length_drop, HLN.out]; exact hkp
          have hrd : ∀ A : Option Addr, Rd wr wr.heap.size A (ints rs) := by
            intro A
            rw [hrs, List.drop_eq_nil_of_le (by rw [HLN.out]; omega)]; exact Rd.nil_
          have HRS := Lib.hid hrs
          clear hrs
          go_wp2_with fail
          refine (sCopyA_any rs (0) hdl (by omega) _ _ wr (by first | exact hrd () | exact hrd _)).mono ?_
          rintro e w5 ⟨A5, c5, rfl, o5, b5⟩
          rw [hdl] at o5 ⊢
          have HDL := Lib.hid hdl
          clear hdl
          have hpm : p + 0 = k := by omega
          have HPM := Lib.hid hpm
          clear hpm
          have hs5 := b5.size
          have hown5 := own_below HX.out.1 b5
          have hpre := own_take hown5 hpk
          have r5 := HX.out.2.1.below b5
          have G5 := only_belK HX.out.2.2 b5
          have hsw5 := G5.size
          clear hrd hown5
          go_wp2_with (at_builtin; refine wpList_append_own _ rfl _ _ 27 rfl (w.heap.size) 3 i0 (.int .i64 0) 1 8 Try.underlying27 hi hz0 hz1 hz2 rfl (by decide) _ _ _ rfl (own_alloc hpre _) ⟨w5.heap.size, 0, none⟩ 1 1 [.int .i64 (k : Int)] rfl rfl (one_new _ _ _ _ rfl) (fun u hu => by simp at hu; subst hu; rfl) (by unfold maxLen; omega) (by omega) (by simp; omega) ?_)
          intro v6 w6 own6 grow6 _
          have HO5 : Hid (w6.ownsRow wr.heap.size 3 1 (.slice A5 0 c5) 0 (ints rs)) := Lib.hid (own_far (g := 0) (own_alloc o5 (.cells #[.int .i64 (k : Int)] 3)) (fun q hq hq2 => grow6.block q hq2 (fun e => by simp [Value.ownBlock] at e; omega)))
          have hob := own_block hpre
          have r6 : Rdr w6 B g q := (r5.alloc _).own grow6 (fun k' hk' => by have := hob k' hk'; omega)
          have G6 : w.grownBy w6 (some g) := only_own (only_alloc G5 _) grow6 hob
          have hs6 := G6.size
          clear o5 b5 hpre grow6 r5 G5 hob
          go_wp2_with (at_builtin; refine push_any rfl _ _ 27 rfl w.heap.size 3 i0 (.int .i64 0) 8 Try.underlying27 hi hz0 hz1 hz2 rfl _ _ _ rfl own6 _ _ _ w6.heap.size (ints rs) rfl (Rd.own HO5.out) (by have := HO5.out.1; omega) oneCell_ints2 (by unfold maxLen; omega) (by omega) hs6 ?_)
          intro v7 w7 own7 grow7
          have hob7 := own_block own6
          have r7 : Rdr w7 B g q := r6.own grow7 (fun k' hk' => by have := hob7 k' hk'; omega)
          have G7 : w.grownBy w7 (some g) := only_own G6 grow7 hob7
          have own8 : w7.ownsRow w.heap.size 3 1 v7 (k + 1) (ints (os.take p ++ (k : Int) :: os.drop p)) := by
            have h := own7
            rw [show p + 1 + 0 = k + 1 by have := HPM.out; omega] at h
            have e : ints (os.take p ++ (k : Int) :: os.drop p) = (ints os).take p ++ [.int .i64 (k : Int)] ++ ints rs := by
              rw [HRS.out]
              simp [ints, List.map_take, List.map_drop]
            rw [e]
            first | exact h | (rw [List.append_assoc]; exact h) | simpa using h
          obtain ⟨A8, c8, rfl⟩ := own_form own8
          obtain ⟨g8, rfl, _, _, _, _⟩ := own_some own8 (by omega)
          have HPP := Lib.hid (And.intro own8 (And.intro r7 G7))
          have HL8 : Hid ((os.take p ++ (k : Int) :: os.drop p).length = k + 1) := Lib.hid (by rw [List.length_append, List.length_cons, List.length_take, List.length_drop, HLN.out]; omega)
          have HB8 : Hid (∀ z ∈ os.take p ++ (k : Int) :: os.drop p, -1 ≤ z ∧ z ≤ 8) := Lib.hid fun z hz => by
            rcases List.mem_append.1 hz with hz | hz
            · exact HBD.out z (List.mem_of_mem_take hz)
            · rcases List.mem_cons.1 hz with rfl | hz
              · omega
              · exact HBD.out z (List.mem_of_mem_drop hz)
          clear own7 own8 own6 grow7 hob7 r6 r7 G6 G7
          go_wp2
          go_roundw
          case rel => exact ⟨k + 1, q, g8, c8, _, by go_num, by omega, HL8.out, rfl, HPP.out.1, HB8.out, by omega, HPP.out.2.1, HPP.out.2.2⟩
          case measure => simp [intOf]; omega
      · as_aux_lemma =>
          obtain ⟨rs, hrs⟩ : ∃ rs, rs = os.drop p := ⟨_, rfl⟩
          have hdl : rs.length = k - p := by rw [hrs, List.length_drop, HLN.out]
          have hrd : ∀ _ : Unit, Rd wr wr.heap.size (some ⟨gl, p, none⟩) (ints rs) := by
            intro _
            rw [hrs]
            have h := (Rd.own HX.out.1).drop p
            have e : (⟨gl, 0, none⟩ : Addr).add p = ⟨gl, p, none⟩ := by rw [Addr.add_lit, Nat.zero_add]
            rw [Option.map_some, e] at h
            rw [← show ints (os.drop p) = (ints os).drop p from by rw [ints, ints, List.map_drop]] at h
            exact h
          have HRS := Lib.hid hrs
          clear hrs
          go_wp2_with fail
          refine (sCopyA_any rs (k - p) hdl (by omega) _ _ wr (by first | exact hrd () | exact hrd _)).mono ?_
          rintro e w5 ⟨A5, c5, rfl, o5, b5⟩
          rw [hdl] at o5 ⊢
          have HDL := Lib.hid hdl
          clear hdl
          generalize hm5 : k - p = m5 at *
          have hpm : p + m5 = k := by omega
          have HPM := Lib.hid hpm
          have hm5k : m5 ≤ 1048576 := by omega
          clear hm5 hpm
          have hs5 := b5.size
          have hown5 := own_below HX.out.1 b5
          have hpre := own_take hown5 hpk
          have r5 := HX.out.2.1.below b5
          have G5 := only_belK HX.out.2.2 b5
          have hsw5 := G5.size
          clear hrd hown5
          go_wp2_with (at_builtin; refine wpList_append_own _ rfl _ _ 27 rfl (w.heap.size) 3 i0 (.int .i64 0) 1 8 Try.underlying27 hi hz0 hz1 hz2 rfl (by decide) _ _ _ rfl (own_alloc hpre _) ⟨w5.heap.size, 0, none⟩ 1 1 [.int .i64 (k : Int)] rfl rfl (one_new _ _ _ _ rfl) (fun u hu => by simp at hu; subst hu; rfl) (by unfold maxLen; omega) (by omega) (by simp; omega) ?_)
          intro v6 w6 own6 grow6 _
          have HO5 : Hid (w6.ownsRow wr.heap.size 3 1 (.slice A5 m5 c5) m5 (ints rs)) := Lib.hid (own_far (g := 0) (own_alloc o5 (.cells #[.int .i64 (k : Int)] 3)) (fun q hq hq2 => grow6.block q hq2 (fun e => by simp [Value.ownBlock] at e; omega)))
          have hob := own_block hpre
          have r6 : Rdr w6 B g q := (r5.alloc _).own grow6 (fun k' hk' => by have := hob k' hk'; omega)
          have G6 : w.grownBy w6 (some g) := only_own (only_alloc G5 _) grow6 hob
          have hs6 := G6.size
          clear o5 b5 hpre grow6 r5 G5 hob
          go_wp2_with (at_builtin; refine push_any rfl _ _ 27 rfl w.heap.size 3 i0 (.int .i64 0) 8 Try.underlying27 hi hz0 hz1 hz2 rfl _ _ _ rfl own6 _ _ _ w6.heap.size (ints rs) rfl (Rd.own HO5.out) (by have := HO5.out.1; omega) oneCell_ints2 (by unfold maxLen; omega) (by omega) hs6 ?_)
          intro v7 w7 own7 grow7
          have hob7 := own_block own6
          have r7 : Rdr w7 B g q := r6.own grow7 (fun k' hk' => by have := hob7 k' hk'; omega)
          have G7 : w.grownBy w7 (some g) := only_own G6 grow7 hob7
          have own8 : w7.ownsRow w.heap.size 3 1 v7 (k + 1) (ints (os.take p ++ (k : Int) :: os.drop p)) := by
            have h := own7
            rw [show p + 1 + m5 = k + 1 by have := HPM.out; omega] at h
            have e : ints (os.take p ++ (k : Int) :: os.drop p) = (ints os).take p ++ [.int .i64 (k : Int)] ++ ints rs := by
              rw [HRS.out]
              simp [ints, List.map_take, List.map_drop]
            rw [e]
            first | exact h | (rw [List.append_assoc]; exact h) | simpa using h
          obtain ⟨A8, c8, rfl⟩ := own_form own8
          obtain ⟨g8, rfl, _, _, _, _⟩ := own_some own8 (by omega)
          have HPP := Lib.hid (And.intro own8 (And.intro r7 G7))
          have HL8 : Hid ((os.take p ++ (k : Int) :: os.drop p).length = k + 1) := Lib.hid (by rw [List.length_append, List.length_cons, List.length_take, List.length_drop, HLN.out]; omega)
          have HB8 : Hid (∀ z ∈ os.take p ++ (k : Int) :: os.drop p, -1 ≤ z ∧ z ≤ 8) := Lib.hid fun z hz => by
            rcases List.mem_append.1 hz with hz | hz
            · exact HBD.out z (List.mem_of_mem_take hz)
            · rcases List.mem_cons.1 hz with rfl | hz
              · omega
              · exact HBD.out z (List.mem_of_mem_drop hz)
          clear own7 own8 own6 grow7 hob7 r6 r7 G6 G7
          go_wp2
          go_roundw
          case rel => exact ⟨k + 1, q, g8, c8, _, by go_num, by omega, HL8.out, rfl, HPP.out.1, HB8.out, by omega, HPP.out.2.1, HPP.out.2.2⟩
          case measure => simp [intOf]; omega
    · obtain rfl : k = n := by omega
      by_cases h0 : 0 < k
      · have h0i : (0 : Int) < (k : Int) := by omega
        go_wp2_with fail
        refine (pick_any 20 _ _ _ _ hR (by omega) (by omega)).mono ?_
        rintro e w5 ⟨z, rfl, z0, z1, r5, g5⟩
        have o5 := own_only hown g5 hlt0
        have G5 := only_trans hG g5
        clear hown hR hG g5
        by_cases hz : z = 0
        · subst hz
          obtain ⟨y, hy⟩ : ∃ y, os[k - 1]? = some y := ⟨_, List.getElem?_eq_getElem (by rw [HLN.out]; omega)⟩
          have hyb := HBD.out y (List.mem_of_getElem? hy)
          have ky := own_cell o5 (k := k - 1) (x := .int .i64 y) (by rw [ints, List.getElem?_map, hy]; rfl)
          have hk1 : (k : Int) - 1 = ((k - 1 : Nat) : Int) := by omega
          obtain ⟨kk, hkk⟩ : ∃ kk, kk = k - 1 := ⟨_, rfl⟩
          rw [← hkk] at hk1 ky
          have HKK := Lib.hid hkk
          have hkkk : kk < k := by omega
          clear hy hkk
          go_wp2_with fail
          refine (one_any [-1,8,y] 3 rfl _ _ _ _ _ (r5.alloc _) (by omega) (by omega) (by omega) (alloc_at (by simp)) (by have := r5.lt; omega)).mono ?_
          rintro e w6 ⟨a, rfl, hma, rw6, gw6⟩
          have hba : -1 ≤ a ∧ a ≤ 8 := by simp only [List.mem_cons, List.not_mem_nil, or_false] at hma; omega
          clear hma
          have o6 := own_only (own_alloc o5 (.cells (ints [-1,8,y]).toArray 3)) gw6 hlt0
          have hG6 := only_trans (only_alloc G5 (.cells (ints [-1,8,y]).toArray 3)) gw6
          clear o5 G5 gw6 r5
          obtain ⟨y0, hq0⟩ : ∃ t, os[0]? = some t := ⟨_, List.getElem?_eq_getElem (by rw [HLN.out]; exact h0)⟩
          have k1 := own_cell o6 (k := 0) (x := .int .i64 y0) (by rw [ints, List.getElem?_map, hq0]; rfl)
          have f1 := own_frozen o6 0
          have hput := own_put o6 0 (.int .i64 a)
          rw [show (ints os).set 0 (.int .i64 a) = ints (os.set 0 a) by rw [ints, ints, List.map_set]] at hput
          have hgbw := own_block o6 gl rfl
          have hgw := only_set (only_refl w6 gl) (p := ⟨gl, 0, none⟩) (.inl rfl) (.int .i64 a)
          have hR7 := rw6.own hgw (fun k hk => by injection hk with hk; omega)
          have hG7 := only_set hG6 (p := ⟨gl, 0, none⟩) (.inr hgbw) (.int .i64 a)
          have HP := Lib.hid (And.intro hput (And.intro hR7 hG7))
          have HL5 : Hid ((os.set 0 a).length = k) := Lib.hid (by rw [List.length_set, HLN.out])
          clear hput hR7 hG7 hgw o6 rw6 hG6 hq0
          go_wp2
          go_ret
          exact ⟨os.set 0 a, _, c, _, (by rw [HL5.out]; rfl), HL5.out, by omega, by rw [HL5.out]; exact HP.out.1, HP.out.2.1, HP.out.2.2⟩
        · have hzb : ((z : Int) == 0) = false := beq_eq_false_iff_ne.2 hz
          have HP := Lib.hid (And.intro o5 (And.intro r5 G5))
          clear o5 r5 G5
          go_wp2
          go_ret
          exact ⟨os, _, c, _, (by rw [HLN.out]; rfl), HLN.out, by omega, by rw [HLN.out]; exact HP.out.1, HP.out.2.1, HP.out.2.2⟩
      · have HP := Lib.hid (And.intro hown (And.intro hR hG))
        clear hown hR hG
        go_wp2
        go_ret
        exact ⟨os, _, c, _, (by rw [HLN.out]; rfl), HLN.out, by omega, by rw [HLN.out]; exact HP.out.1, HP.out.2.1, HP.out.2.2⟩

end Go.Proofs.Ytjjddamblijffaa

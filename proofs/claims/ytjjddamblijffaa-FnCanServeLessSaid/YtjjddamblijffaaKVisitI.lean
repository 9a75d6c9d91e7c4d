/- Contracts of chapter 6: how late visits are, and the load that they need, the program. -/
import Derived.Test.YtjjddamblijffaaKVisit
namespace Go.Proofs.Ytjjddamblijffaa
open Go.RowKit
set_option linter.unusedVariables false
set_option linter.unusedSimpArgs false
theorem tmL_at : ∀ {l : List Cu} {a t : Int} {k : Nat}, k < l.length → (tmL a t l)[k]? = some (t + endT a (l.take (k + 1)))
  | [], _, _, k, h => by simp at h
  | c :: l, a, t, 0, _ => by simp [tmL, endT]
  | c :: l, a, t, k + 1, h => by
    show (tmL c.1 (t + dst a c.1) l)[k]? = some (t + (dst a c.1 + endT c.1 (l.take (k + 1))))
    rw [tmL_at (by simpa using h)]
    congr 1
    omega
theorem tm_at {cs : List Cu} {st : Int} {os : List Int} {k : Nat} (h : k < os.length) : (tmL st 0 (pick cs os))[k]? = some (endT st (pick cs (os.take (k + 1)))) := by
  rw [tmL_at (by rw [pick_len]; exact h), Int.zero_add]
  congr 2
  unfold pick
  rw [List.map_take]
theorem late_next {cs : List Cu} {st : Int} {os : List Int} {k t : Nat} {x d v : Int} (h : os[k]? = some (t : Int)) (hc : cuA cs t = (x, d, v)) : latR st 0 (pick cs (os.take (k + 1))) = latR st 0 (pick cs (os.take k)) + pos0 (endT st (pick cs (os.take (k + 1))) - d) := by
  rw [pick_snoc h, latR_snoc, hc, Int.zero_add]
theorem want_next {cs : List Cu} {os : List Int} {k t : Nat} {x d v : Int} (h : os[k]? = some (t : Int)) (hc : cuA cs t = (x, d, v)) : wanS (pick cs (os.take (k + 1))) = wanS (pick cs (os.take k)) + v := by
  rw [pick_snoc h, wanS_snoc, hc]
theorem RndP.late {cs : List Cu} {st : Int} {os : List Int} {n : Nat} (P : RndP cs st os n) {k : Nat} (hk : k ≤ n) : 0 ≤ latR st 0 (pick cs (os.take k)) ∧ latR st 0 (pick cs (os.take k)) ≤ 12800 := by
  have h := latR_bd (t := 0) ⟨P.s1, P.s2⟩ (pick_vk P.ok P.len P.ord k) (Int.le_refl 0)
  have h0 := latR_ge st 0 (pick cs (os.take k))
  rw [pick_len, List.length_take] at h
  have := P.n8
  refine ⟨h0, Int.le_trans h ?_⟩
  generalize hq : ((min k os.length : Nat) : Int) = q
  have q0 : 0 ≤ q := by omega
  have q8 : q ≤ 8 := by have := P.olen; omega
  have h1 : (0 + 200 * q) * q ≤ 1600 * q := Int.mul_le_mul_of_nonneg_right (by omega) q0
  omega
theorem RndP.want {cs : List Cu} {st : Int} {os : List Int} {n : Nat} (P : RndP cs st os n) {k : Nat} (hk : k ≤ n) : (k : Int) ≤ wanS (pick cs (os.take k)) ∧ wanS (pick cs (os.take k)) ≤ 400 := by
  have h := wanS_bd (pick_vk P.ok P.len P.ord k)
  rw [pick_len, List.length_take] at h
  have := P.n8
  have := P.olen
  omega
theorem lod_at {cs : List Cu} {st : Int} {os : List Int} {e : Int} {k t : Nat} (h : os[k]? = some (t : Int)) : lodR st e (pick cs (os.take (k + 1))) = wanS (pick cs (os.take (k + 1))) + endT st (pick cs (os.take (k + 1))) / e := by
  rw [pick_snoc h, lodR_snoc]
set_option maxHeartbeats 2000000 in
theorem iLate_any (n m : Nat) (cs : List Cu) (hl : cs.length = n) (A : Option Addr) (c : Nat) (hn : n ≤ maxLen) (os : List Int) (hlo : os.length = m) (hm : m ≤ 1048576) (Ao : Option Addr) (co : Nat) (w : World) (hr : Rd w w.heap.size A (custV cs)) (hro : Rd w w.heap.size Ao (ints os)) (st : Int) :
    Calls Try.prog 24 #[.slice A n c, .int .i64 st, .slice Ao m co] w fun e w' => e = .returned (.int .i64 (lateT cs st os)) ∧ Below w.heap.size w w' := by
  have cR := fun w (hr : Rd w w.heap.size A (custV cs)) (hro : Rd w w.heap.size Ao (ints os)) => iRnd_any n m cs hl A c hn os hlo hm Ao co w hr hro st
  cases hv : rndB cs st os
  · rw [lateT_no hv]
    rw [hv] at cR
    have CR := Lib.hid cR
    clear hv cR
    go_enter Try.func24, Try.ntmps24
    go_wp2_with fail
    refine (CR.out w hr hro).mono ?_
    rintro e w1 ⟨rfl, b1⟩
    have B1 := Lib.hid b1
    clear b1
    go_wp2
    go_ret
    exact ⟨rfl, B1.out⟩
  · rw [lateT_ok hv]
    have cV := fun w (hr : Rd w w.heap.size A (custV cs)) (hro : Rd w w.heap.size Ao (ints os)) => iVis_any n m cs hl A c hn os hlo hm Ao co w hr hro st
    rw [hv] at cR
    simp only [visT_ok hv] at cV
    have CR := Lib.hid cR
    have CV := Lib.hid cV
    have hP := rndP hv
    rw [hl] at hP
    have hmn : m = n := by rw [← hlo]; exact hP.olen
    subst hmn
    have h8 := hP.n8
    have HP := Lib.hid hP
    have HL := Lib.hid hl
    have HLO := Lib.hid hlo
    have HTL : Hid ((tmL st 0 (pick cs os)).length = m) := Lib.hid (by rw [tmL_len, pick_len, hlo])
    clear hv cR cV hl hlo hP
    go_enter Try.func24, Try.ntmps24
    go_wp2_with fail
    refine (CR.out w hr hro).mono ?_
    rintro e w1 ⟨rfl, b1⟩
    have hr1 := (hr.below b1).more b1.size
    have hro1 := (hro.below b1).more b1.size
    have B1 := Lib.hid b1
    clear b1
    go_wp2_with fail
    refine (CV.out w1 hr1 hro1).mono ?_
    rintro e w2 ⟨A2, c2, rfl, o2, b2⟩
    rw [HTL.out] at o2 ⊢
    have b12 := B1.out.trans (b2.mono B1.out.size)
    have B12 := Lib.hid b12
    have O2 := Lib.hid o2
    have hr2 := (hr.below b12).more b12.size
    have hro2 := (hro.below b12).more b12.size
    have rt2 := Rd.own o2
    clear b2 b12 o2 hr1 hro1
    go_wp2
    go_loop [7, 21] (fun q i => ∃ k : Nat, k ≤ m ∧ i = .int .i64 k ∧ q = .int .i64 (latR st 0 (pick cs (os.take k)))) (fun _ i => m - (intOf i).toNat)
    case atStart => exact ⟨0, Nat.zero_le _, rfl, rfl⟩
    case round =>
      obtain ⟨k, hk, rfl, rfl⟩ := hrel
      by_cases hlt : k < m
      · obtain ⟨b4, off4, y, rfl, hb4, hy, hcy⟩ := rt2.int_ (k := k) (by rw [HTL.out]; exact hlt)
        obtain ⟨b3, off3, z, rfl, hb3, hz, hcz⟩ := hro2.int_ (k := k) (by rw [HLO.out]; exact hlt)
        obtain ⟨t, rfl, htm⟩ := HP.out.at_ hlt hz.out
        obtain ⟨b1, off, x, d, v, rfl, hb1, hzc, hc0, hc1, hc2⟩ := hr2.cust_ (k := t) (by rw [HL.out]; exact htm)
        obtain rfl : y = endT st (pick cs (os.take (k + 1))) := by have h1 := hy.out; rw [tm_at (by rw [HLO.out]; exact hlt)] at h1; injection h1 with h1; exact h1.symm
        obtain ⟨ht1, ht2⟩ := HP.out.time (show k + 1 ≤ m by omega)
        obtain ⟨_, ⟨hd1, hd2⟩, _⟩ := HP.out.cu htm hzc.out
        obtain ⟨hl1, hl2⟩ := HP.out.late hk
        have HNX := Lib.hid (late_next (cs := cs) (st := st) hz.out hzc.out)
        generalize endT st (pick cs (os.take (k + 1))) = T at *
        generalize latR st 0 (pick cs (os.take k)) = L at *
        clear hz hzc hy
        by_cases hg : d < T
        · have e : pos0 (T - d) = T - d := by unfold pos0; rw [if_pos (by omega)]
          rw [e] at HNX
          clear e
          go_wp2
          go_round
          case rel => exact ⟨k + 1, by omega, by go_num, by rw [HNX.out]⟩
          case measure => simp [intOf]; omega
        · have e : pos0 (T - d) = 0 := by unfold pos0; rw [if_neg (by omega)]
          rw [e] at HNX
          clear e
          have hg2 : T ≤ d := by omega
          go_wp2
          go_round
          case rel => exact ⟨k + 1, by omega, by go_num, by rw [HNX.out, Int.add_zero]⟩
          case measure => simp [intOf]; omega
      · obtain rfl : k = m := by omega
        have HE : Hid (pick cs (os.take k) = pick cs os) := Lib.hid (by rw [List.take_of_length_le (by rw [HLO.out]; exact Nat.le_refl _)])
        go_wp2
        go_ret
        exact ⟨ret_int (by rw [HE.out]), B12.out⟩
set_option maxHeartbeats 2000000 in
theorem iLoad_any (n m : Nat) (cs : List Cu) (hl : cs.length = n) (A : Option Addr) (c : Nat) (hn : n ≤ maxLen) (os : List Int) (hlo : os.length = m) (hm : m ≤ 1048576) (Ao : Option Addr) (co : Nat) (w : World) (hr : Rd w w.heap.size A (custV cs)) (hro : Rd w w.heap.size Ao (ints os)) (st : Int) (ev : Int) :
    Calls Try.prog 36 #[.slice A n c, .int .i64 st, .slice Ao m co, .int .i64 ev] w fun e w' => e = .returned (.int .i64 (loadT cs st os ev)) ∧ Below w.heap.size w w' := by
  have cR := fun w (hr : Rd w w.heap.size A (custV cs)) (hro : Rd w w.heap.size Ao (ints os)) => iRnd_any n m cs hl A c hn os hlo hm Ao co w hr hro st
  cases hv : rndB cs st os
  · rw [show loadT cs st os ev = -1 by unfold loadT; rw [hv]; rfl]
    rw [hv] at cR
    have CR := Lib.hid cR
    clear hv cR
    go_enter Try.func36, Try.ntmps36
    go_wp2_with fail
    refine (CR.out w hr hro).mono ?_
    rintro e w1 ⟨rfl, b1⟩
    have B1 := Lib.hid b1
    clear b1
    go_wp2
    go_ret
    exact ⟨rfl, B1.out⟩
  · have HV := Lib.hid hv
    have cV := fun w (hr : Rd w w.heap.size A (custV cs)) (hro : Rd w w.heap.size Ao (ints os)) => iVis_any n m cs hl A c hn os hlo hm Ao co w hr hro st
    rw [hv] at cR
    simp only [visT_ok hv] at cV
    have CR := Lib.hid cR
    have CV := Lib.hid cV
    have hP := rndP hv
    rw [hl] at hP
    have hmn : m = n := by rw [← hlo]; exact hP.olen
    subst hmn
    have h8 := hP.n8
    have HP := Lib.hid hP
    have HL := Lib.hid hl
    have HLO := Lib.hid hlo
    have HTL : Hid ((tmL st 0 (pick cs os)).length = m) := Lib.hid (by rw [tmL_len, pick_len, hlo])
    clear hv cR cV hl hlo hP
    cases hE : inB ev 1 2000
    · have HT : Hid (loadT cs st os ev = -1) := Lib.hid (by unfold loadT; rw [hE]; simp)
      have HF := inB_f hE
      have hway : ev < 1 ∨ (1 ≤ ev ∧ 2000 < ev) := by omega
      rw [HT.out]
      clear hE HF
      rcases hway with hw | ⟨hw, hw2⟩
      all_goals
        go_enter Try.func36, Try.ntmps36
        go_wp2_with fail
        refine (CR.out w hr hro).mono ?_
        rintro e w1 ⟨rfl, b1⟩
        have B1 := Lib.hid b1
        clear b1
        go_wp2
        go_ret
        exact ⟨rfl, B1.out⟩
    · have HT : Hid (loadT cs st os ev = lodR st ev (pick cs os)) := Lib.hid (by unfold loadT; rw [HV.out, hE]; rfl)
      obtain ⟨he1, he2⟩ := inB_t hE
      rw [HT.out]
      clear hE
      go_enter Try.func36, Try.ntmps36
      go_wp2_with fail
      refine (CR.out w hr hro).mono ?_
      rintro e w1 ⟨rfl, b1⟩
      have hr1 := (hr.below b1).more b1.size
      have hro1 := (hro.below b1).more b1.size
      have B1 := Lib.hid b1
      clear b1
      go_wp2_with fail
      refine (CV.out w1 hr1 hro1).mono ?_
      rintro e w2 ⟨A2, c2, rfl, o2, b2⟩
      rw [HTL.out] at o2 ⊢
      have b12 := B1.out.trans (b2.mono B1.out.size)
      have B12 := Lib.hid b12
      have O2 := Lib.hid o2
      have hr2 := (hr.below b12).more b12.size
      have hro2 := (hro.below b12).more b12.size
      have rt2 := Rd.own o2
      clear b2 b12 o2 hr1 hro1
      go_wp2
      go_loop [9, 10, 31] (fun q u i => ∃ k : Nat, k ≤ m ∧ i = .int .i64 k ∧ q = .int .i64 (lodR st ev (pick cs (os.take k))) ∧ u = .int .i64 (wanS (pick cs (os.take k)))) (fun _ _ i => m - (intOf i).toNat)
      case atStart => exact ⟨0, Nat.zero_le _, rfl, rfl, rfl⟩
      case round =>
        obtain ⟨k, hk, rfl, rfl, rfl⟩ := hrel
        by_cases hlt : k < m
        · obtain ⟨b4, off4, y, rfl, hb4, hy, hcy⟩ := rt2.int_ (k := k) (by rw [HTL.out]; exact hlt)
          obtain ⟨b3, off3, z, rfl, hb3, hz, hcz⟩ := hro2.int_ (k := k) (by rw [HLO.out]; exact hlt)
          obtain ⟨t, rfl, htm⟩ := HP.out.at_ hlt hz.out
          obtain ⟨b1, off, x, d, v, rfl, hb1, hzc, hc0, hc1, hc2⟩ := hr2.cust_ (k := t) (by rw [HL.out]; exact htm)
          obtain rfl : y = endT st (pick cs (os.take (k + 1))) := by have h1 := hy.out; rw [tm_at (by rw [HLO.out]; exact hlt)] at h1; injection h1 with h1; exact h1.symm
          obtain ⟨ht1, ht2⟩ := HP.out.time (show k + 1 ≤ m by omega)
          obtain ⟨_, _, ⟨hv1, hv2⟩⟩ := HP.out.cu htm hzc.out
          obtain ⟨hw1, hw2⟩ := HP.out.want hk
          have HNX := Lib.hid (want_next (cs := cs) hz.out hzc.out)
          have HNL := Lib.hid (lod_at (cs := cs) (st := st) (e := ev) hz.out)
          generalize endT st (pick cs (os.take (k + 1))) = T at *
          generalize wanS (pick cs (os.take k)) = L at *
          have hdv := Int.ediv_nonneg ht1 (show 0 ≤ ev by omega)
          have hdv2 : T / ev ≤ T := Int.ediv_le_self _ ht1
          have hne : ev ≠ 0 := by omega
          have hneb : (ev == 0) = false := beq_eq_false_iff_ne.2 hne
          clear hz hzc hy
          go_wp2
          go_round
          case rel => exact ⟨k + 1, by omega, by go_num, by rw [HNL.out, HNX.out], by rw [HNX.out]⟩
          case measure => simp [intOf]; omega
        · obtain rfl : k = m := by omega
          have HE : Hid (pick cs (os.take k) = pick cs os) := Lib.hid (by rw [List.take_of_length_le (by rw [HLO.out]; exact Nat.le_refl _)])
          go_wp2
          go_ret
          exact ⟨ret_int (by rw [HE.out]), B12.out⟩

end Go.Proofs.Ytjjddamblijffaa

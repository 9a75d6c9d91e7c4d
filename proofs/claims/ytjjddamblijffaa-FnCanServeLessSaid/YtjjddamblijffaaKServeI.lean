/- Contracts of chapter 6: whether all customers can be served in time, the program. -/
import Derived.Deep.AppendSrc
import Derived.Maps.AppendAt
import Derived.Test.YtjjddamblijffaaKSweep
import Derived.Test.YtjjddamblijffaaKVisit
namespace Go.Proofs.Ytjjddamblijffaa
open Go.RowKit
set_option linter.unusedVariables false
set_option linter.unusedSimpArgs false
def AllV (S : List Cu) (n : Nat) : Prop := ∀ i, i < n → (-100 ≤ (cuA S i).1 ∧ (cuA S i).1 ≤ 100) ∧ (0 ≤ (cuA S i).2.1 ∧ (cuA S i).2.1 ≤ 2000)
def RestOK (S : List Cu) (n f : Nat) : Prop := ∀ (lo hi : Nat) (a t : Int) (A : Option Addr) (c : Nat) (w : World), f + hi = lo + n → lo ≤ hi → hi ≤ n → (-100 ≤ a ∧ a ≤ 100) → 0 ≤ t → t + 200 * (f : Int) ≤ 1600 → Rd w w.heap.size A (custV S) →
  Calls Try.prog 67 #[.slice A n c, .int .i64 lo, .int .i64 hi, .int .i64 a, .int .i64 t] w fun e w' => e = .returned (.bool (canR S f lo hi a t)) ∧ w = w'
set_option maxHeartbeats 1000000 in
theorem next_any {S : List Cu} {n f : Nat} (hl : S.length = n) (hV : AllV S n) (IH : RestOK S n f) (lo hi i : Nat) (a t : Int) (A : Option Addr) (c : Nat) (w : World) (h1 : f + hi = lo + n) (h2 : lo ≤ hi) (h3 : hi ≤ n) (hi' : i < n) (ha : -100 ≤ a ∧ a ≤ 100) (ht : 0 ≤ t) (ht2 : t + 200 * ((f + 1 : Nat) : Int) ≤ 1600) (hr : Rd w w.heap.size A (custV S)) :
    Calls Try.prog 80 #[.slice A n c, .int .i64 lo, .int .i64 hi, .int .i64 i, .int .i64 a, .int .i64 t] w fun e w' => e = .returned (.bool (goR S (canR S f) lo hi i a t)) ∧ w = w' := by
  obtain ⟨a1, a2⟩ := ha
  have hv := hV i hi'
  obtain ⟨b1, off, x, d, v, rfl, hb1, hz, hc, hc2, hc3⟩ := hr.cust_ (k := i) (by rw [hl]; exact hi')
  rw [hz.out] at hv
  obtain ⟨⟨x1, x2⟩, ⟨d1, d2⟩⟩ := hv
  simp only at x1 x2 d1 d2
  obtain ⟨q1, q2⟩ := dst_bd ⟨a1, a2⟩ ⟨x1, x2⟩
  have HG : Hid (goR S (canR S f) lo hi i a t = (decide (t + dst a x ≤ d) && canR S f lo hi x (t + dst a x))) := Lib.hid (by unfold goR; rw [hz.out])
  have cD := fun w => iDst_any a x ⟨a1, a2⟩ ⟨x1, x2⟩ w
  have hI := fun (hle : t + dst a x ≤ d) => IH lo hi x (t + dst a x) (some ⟨b1, off, none⟩) c w h1 h2 h3 ⟨x1, x2⟩ (by omega) (by omega) hr
  generalize goR S (canR S f) lo hi i a t = R at *
  generalize dst a x = D at *
  have CD := Lib.hid cD
  have HI := Lib.hid hI
  clear cD hI IH hV hz
  by_cases hle : t + D ≤ d
  · have CI := Lib.hid (HI.out hle)
    have HT : Hid (R = canR S f lo hi x (t + D)) := Lib.hid (by rw [HG.out, decide_eq_true hle]; rfl)
    generalize canR S f lo hi x (t + D) = q at *
    go_enter Try.func80, Try.ntmps80
    go_wp2_with fail
    refine (CD.out _).mono ?_
    rintro e w' ⟨rfl, rfl⟩
    go_wp2_with fail
    refine (CI.out).mono ?_
    rintro e w' ⟨rfl, rfl⟩
    go_wp2
    go_ret
    exact ⟨ret_bool HT.out.symm, rfl⟩
  · have HT : Hid (R = false) := Lib.hid (by rw [HG.out, decide_eq_false hle]; rfl)
    have hlt : d < t + D := by omega
    go_enter Try.func80, Try.ntmps80
    go_wp2_with fail
    refine (CD.out _).mono ?_
    rintro e w' ⟨rfl, rfl⟩
    go_wp2
    go_ret
    exact ⟨ret_bool HT.out.symm, rfl⟩
set_option maxHeartbeats 1000000 in
theorem rest_any {S : List Cu} {n : Nat} (hl : S.length = n) (hn : n ≤ 8) (hV : AllV S n) : ∀ f, RestOK S n f
  | 0 => fun lo hi a t A c w h1 h2 h3 ha ht ht2 hr => by
    have e1 : lo = 0 := by omega
    have e2 : hi = n := by omega
    subst e1 e2
    have e3 : ((hi : Int) == (hi : Int)) = true := beq_iff_eq.2 rfl
    show Calls _ _ _ _ fun e w' => e = .returned (.bool true) ∧ w = w'
    go_enter Try.func67, Try.ntmps67
    go_wp2
    go_ret
    exact ⟨rfl, rfl⟩
  | f + 1 => fun lo hi a t A c w h1 h2 h3 ha ht ht2 hr => by
    have IH := rest_any hl hn hV f
    have hd : ¬ (lo = 0 ∧ hi = n) := by omega
    have cL := fun (h0 : 0 < lo) => next_any hl hV IH (lo - 1) hi (lo - 1) a t A c w (by omega) (by omega) h3 (by omega) ha ht ht2 hr
    have cR := fun (h0 : hi < n) => next_any hl hV IH lo (hi + 1) hi a t A c w (by omega) (by omega) (by omega) h0 ha ht ht2 hr
    have HR : Hid (canR S (f + 1) lo hi a t = ((decide (0 < lo) && goR S (canR S f) (lo - 1) hi (lo - 1) a t) || (decide (hi < n) && goR S (canR S f) lo (hi + 1) hi a t))) := Lib.hid (by rw [canR, hl])
    generalize canR S (f + 1) lo hi a t = R at *
    generalize goR S (canR S f) (lo - 1) hi (lo - 1) a t = qL at *
    generalize goR S (canR S f) lo (hi + 1) hi a t = qR at *
    obtain ⟨hj, hhj⟩ : ∃ hj, hj = hi + 1 := ⟨_, rfl⟩
    obtain ⟨lj, hlj⟩ : ∃ lj, lj = lo - 1 := ⟨_, rfl⟩
    rw [← hhj] at cR
    rw [← hlj] at cL
    have hi1 : (hi : Int) + 1 = (hj : Int) := by omega
    have CL := Lib.hid cL
    have CR := Lib.hid cR
    have HLJ := Lib.hid hlj
    clear cL cR IH hV hhj hlj
    by_cases h0 : 0 < lo
    · have n0 : ((lo : Int) == 0) = false := beq_eq_false_iff_ne.2 (by omega)
      have n1 : (0 : Int) < (lo : Int) := by omega
      have n3 : ¬ (lo : Int) = 0 := by omega
      have n2 : (lo : Int) - 1 = (lj : Int) := by have := HLJ.out; omega
      have CL := Lib.hid (CL.out h0)
      rw [decide_eq_true h0, Bool.true_and] at HR
      cases qL
      · by_cases h5 : hi < n
        · have m1 : (hi : Int) < (n : Int) := by omega
          have CR := Lib.hid (CR.out h5)
          have HT : Hid (R = qR) := Lib.hid (by rw [HR.out, decide_eq_true h5]; rfl)
          go_enter Try.func67, Try.ntmps67
          go_wp2_with fail
          refine (CL.out).mono ?_
          rintro e w' ⟨rfl, rfl⟩
          go_wp2_with fail
          refine (CR.out).mono ?_
          rintro e w' ⟨rfl, rfl⟩
          go_wp2
          go_ret
          exact ⟨ret_bool HT.out.symm, rfl⟩
        · have m1 : (n : Int) ≤ (hi : Int) := by omega
          have m2 : hi = n := by omega
          have HT : Hid (R = false) := Lib.hid (by rw [HR.out, decide_eq_false h5]; rfl)
          clear CR
          subst m2
          go_enter Try.func67, Try.ntmps67
          go_wp2_with fail
          refine (CL.out).mono ?_
          rintro e w' ⟨rfl, rfl⟩
          go_wp2
          go_ret
          exact ⟨ret_bool HT.out.symm, rfl⟩
      · have HT : Hid (R = true) := Lib.hid (by rw [HR.out]; rfl)
        go_enter Try.func67, Try.ntmps67
        go_wp2_with fail
        refine (CL.out).mono ?_
        rintro e w' ⟨rfl, rfl⟩
        go_wp2
        go_ret
        exact ⟨ret_bool HT.out.symm, rfl⟩
    · have e0 : lo = 0 := by omega
      subst e0
      have h5 : hi < n := by omega
      have m1 : (hi : Int) < (n : Int) := by omega
      have m2 : ((hi : Int) == (n : Int)) = false := beq_eq_false_iff_ne.2 (by omega)
      have m3 : ¬ (hi : Int) = (n : Int) := by omega
      have CR := Lib.hid (CR.out h5)
      have HT : Hid (R = qR) := Lib.hid (by rw [HR.out, decide_eq_true h5]; rfl)
      go_enter Try.func67, Try.ntmps67
      go_wp2_with fail
      refine (CR.out).mono ?_
      rintro e w' ⟨rfl, rfl⟩
      go_wp2
      go_ret
      exact ⟨ret_bool HT.out.symm, rfl⟩
theorem swS_take {cs : List Cu} {k i : Nat} (hi : (ordS cs cs.length)[k]? = some i) : (swS cs).take (k + 1) = (swS cs).take k ++ [cuA cs i] := by
  have hk := (List.getElem?_eq_some_iff.1 hi).1
  rw [(ordS_ok cs cs.length).len] at hk
  rw [take_snoc (get_cuA (show k < (swS cs).length by rw [swS_len]; exact hk)), swS_at hi]
theorem allV_sw {cs : List Cu} {n : Nat} (hv : vcB cs = true) (hl : cs.length = n) : AllV (swS cs) n := fun i hi => by
  have hO := ordS_ok cs cs.length
  have hg : (ordS cs cs.length)[i]? = some ((ordS cs cs.length)[i]'(by rw [hO.len]; omega)) := List.getElem?_eq_getElem _
  have h1 := (hO.of i _ hg).1
  rw [swS_at hg]
  have := cuV_t (cuTo_at (vcB_t hv).2 h1)
  exact ⟨this.1, this.2.1⟩
set_option maxHeartbeats 2000000 in
theorem iServe_any (n : Nat) (cs : List Cu) (hl : cs.length = n) (A : Option Addr) (c : Nat) (hn : n ≤ maxLen) (w : World) (hr : Rd w w.heap.size A (custV cs)) (st : Int) :
    Calls Try.prog 32 #[.slice A n c, .int .i64 st] w fun e w' => e = .returned (.bool (csvT cs st)) ∧ Below w.heap.size w w' := by
  have cS := iStr_any n cs hl A c hn w hr st
  have HQ : Hid (csvT cs st = ((vcB cs && inB st (-100) 100) && csvB cs st)) := Lib.hid rfl
  cases hq : (vcB cs && inB st (-100) 100)
  · rw [show csvT cs st = false by unfold csvT; rw [hq]; rfl]
    rw [hq] at cS
    have CS := Lib.hid cS
    clear cS hq HQ
    go_enter Try.func32, Try.ntmps32
    go_wp2_with fail
    refine (CS.out).mono ?_
    rintro e w1 ⟨rfl, b1⟩
    have B1 := Lib.hid b1
    clear b1
    go_wp2
    go_ret
    exact ⟨rfl, B1.out⟩
  · rw [hq] at cS HQ
    have CS := Lib.hid cS
    rw [Bool.and_eq_true] at hq
    obtain ⟨hv, hs⟩ := hq
    obtain ⟨s1, s2⟩ := inB_t hs
    have h8 : n ≤ 8 := by rw [← hl]; exact (vcB_t hv).1
    have cW := fun w (hr : Rd w w.heap.size A (custV cs)) => iSweep_any n cs hl A c hn w hr
    rw [show swT cs = nats (ordS cs n) by rw [swT_ok hv, hl]] at cW
    have CW := Lib.hid cW
    have HO := Lib.hid (ordS_ok cs n)
    have HLN : Hid ((nats (ordS cs n)).length = n) := Lib.hid (ordS_len cs n)
    have HL := Lib.hid hl
    have HSL : Hid ((swS cs).length = n) := Lib.hid (by rw [swS_len, hl])
    have HV := Lib.hid (allV_sw hv hl)
    have hall := rest_any (S := swS cs) (by rw [swS_len]; exact hl) h8 (allV_sw hv hl) n
    have HRest := Lib.hid hall
    have HF : Hid (csvT cs st = canR (swS cs) n (lftN (swS cs) st n) (lftN (swS cs) st n) st 0) := Lib.hid (by rw [HQ.out]; unfold csvB; rw [hl]; rfl)
    obtain ⟨i0, hi, hz0, hz1, hz2⟩ := info_parts info_cust
    clear cS hv hs cW hl hall HQ
    go_enter Try.func32, Try.ntmps32
    go_wp2_with fail
    refine (CS.out).mono ?_
    rintro e w1 ⟨rfl, b1⟩
    have hr1 := (hr.below b1).more b1.size
    have B1 := Lib.hid b1
    clear b1
    have B2 := Lib.hid (B1.out.alloc B1.out.size (.cells #[] 33))
    have hr2 := (hr1.alloc (Nat.le_refl _) (.cells #[] 33)).more (show w1.heap.size ≤ (w1.alloc (.cells #[] 33)).heap.size by simp)
    go_wp2_with fail
    refine (CW.out _ hr2).mono ?_
    rintro e w2 ⟨A2, c2, rfl, o2, b2⟩
    rw [HLN.out] at o2 ⊢
    have e2 := owz_below (owz_empty w1 33 3) (b2.mono (by simp))
    have B3 := Lib.hid (B2.out.trans (b2.mono B2.out.size))
    have hsz12 : w1.heap.size ≤ w2.heap.size := by have := b2.size; simp at this; omega
    have hap0 : ∀ k, (Value.slice (some ⟨w1.heap.size, 0, none⟩) 0 0).ownBlock = some k → (Value.slice A2 n c2).ownBlock ≠ some k := fun k hk h => by
      have := own_block o2 k h
      simp [Value.ownBlock] at hk
      simp at this
      omega
    have o2' := own_base o2 (show w1.heap.size ≤ (w1.alloc (.cells #[] 33)).heap.size by simp)
    have HST := Lib.hid (And.intro e2 (And.intro o2' (And.intro hap0 hsz12)))
    clear b2 hr1 hr2 o2 e2 o2' hap0
    go_wp2
    go_loopw [5, 6, 17] (fun v q i wr => ∃ (k g c5 : Nat), k ≤ n ∧ i = .int .i64 k ∧ q = .int .i64 (lftN (swS cs) st k : Nat) ∧ v = .slice (some ⟨g, 0, none⟩) k c5 ∧ wr.ownsRow w1.heap.size 33 3 (.slice (some ⟨g, 0, none⟩) k c5) k (custV ((swS cs).take k)) ∧ wr.ownsRow w1.heap.size 3 1 (.slice A2 n c2) n (ints (nats (ordS cs n))) ∧ Below w.heap.size w wr ∧ w1.heap.size ≤ wr.heap.size ∧ (∀ k', (Value.slice (some ⟨g, 0, none⟩) k c5).ownBlock = some k' → (Value.slice A2 n c2).ownBlock ≠ some k')) (fun _ _ i _ => n - (intOf i).toNat)
    case atStart => exact ⟨0, w1.heap.size, 0, Nat.zero_le _, rfl, rfl, rfl, HST.out.1, HST.out.2.1, B3.out, HST.out.2.2.2, HST.out.2.2.1⟩
    case round =>
      clear HST
      obtain ⟨k, g, c5, hk, rfl, rfl, rfl, hown, ho2, hbel, hs1, hap⟩ := hrel
      have hlf := lftN_le (swS cs) st k
      by_cases hlt : k < n
      · obtain ⟨j, hj⟩ : ∃ j, (ordS cs n)[k]? = some j := ⟨_, List.getElem?_eq_getElem (by rw [HO.out.len]; exact hlt)⟩
        have hjn := (HO.out.of k j hj).1
        obtain ⟨g2, hA2, _, hg2, _, _⟩ := own_some ho2 (by omega)
        subst hA2
        have hcz := own_cell ho2 (k := k) (x := .int .i64 (j : Int)) (by rw [ints, nats, List.getElem?_map, List.getElem?_map, hj]; rfl)
        obtain ⟨b1, off, x, d, v, rfl, hb1, hz, hc, hc2, hc3⟩ := (hr.below hbel).cust_ (k := j) (by rw [HL.out]; exact hjn)
        have hjc : (ordS cs cs.length)[k]? = some j := by rw [HL.out]; exact hj
        have HSN : Hid (custV ((swS cs).take k) ++ [.int .i64 x, .int .i64 d, .int .i64 v] = custV ((swS cs).take (k + 1))) := Lib.hid (by rw [swS_take hjc, hz.out, custV_snoc])
        have HLF : Hid (lftN (swS cs) st (k + 1) = lftN (swS cs) st k + (if x < st then 1 else 0)) := Lib.hid (by rw [lftN, swS_at hjc, hz.out])
        have HH := Lib.hid (And.intro hown (And.intro ho2 (And.intro hbel hap)))
        generalize lftN (swS cs) st k = L at *
        clear hown ho2 hbel hap hj hjc
        go_wp2_with (at_builtin; refine wpList_append_own_at _ rfl _ _ 23 rfl (w1.heap.size) 33 i0 (.agg #[.int .i64 0, .int .i64 0, .int .i64 0]) 3 24 Try.underlying23 hi hz0 hz1 hz2 rfl (by decide) _ _ _ rfl (owz_alloc HH.out.1 _) ⟨wr.heap.size, 0, none⟩ 1 1 [.int .i64 x, .int .i64 d, .int .i64 v] rfl rfl (three_new _ _ _ _ _ _ rfl) (fun u hu => by simp at hu; rcases hu with rfl | rfl | rfl <;> rfl) (by unfold maxLen; omega) (by omega) (by simp; omega) ?_)
        intro v6 w6 own6 grow6 _ at6
        have hb6 : Below w.heap.size w w6 := (HH.out.2.2.1.alloc HH.out.2.2.1.size (.cells #[.int .i64 x, .int .i64 d, .int .i64 v] 33)).grown grow6 (by have := HH.out.2.2.1.size; simp; omega) (fun q hq => Nat.le_trans B1.out.size (owz_block HH.out.1 q hq))
        have ho6 := owz_grown (owz_alloc HH.out.2.1 (.cells #[.int .i64 x, .int .i64 d, .int .i64 v] 33)) grow6 (fun q hq => HH.out.2.2.2 q hq)
        have hs6 := grow6.size
        have hap6 : ∀ k', v6.ownBlock = some k' → (Value.slice (some ⟨g2, 0, none⟩) n c2).ownBlock ≠ some k' := fun k' hk' h => by
          rcases at6 with e | e
          · exact HH.out.2.2.2 k' (e ▸ hk') h
          · rw [e] at hk'
            simp [Value.ownBlock] at hk' h
            omega
        rw [HSN.out] at own6
        obtain ⟨A6, c6, rfl⟩ := owz_form own6
        obtain ⟨g6, rfl, _, _, _, _⟩ := owz_some (by omega) own6 (by omega)
        obtain ⟨b7, off7, x7, d7, v7, e7, _, hz7, hc7, _, _⟩ := (hr.below hb6).cust_ (k := j) (by rw [HL.out]; exact hjn)
        injection e7 with e7
        injection e7 with q1 q2
        subst q1 q2
        obtain rfl : x7 = x := by have h1 := hz7.out; rw [hz.out] at h1; injection h1 with h1; exact h1.symm
        have HP6 := Lib.hid (And.intro own6 (And.intro ho6 (And.intro hb6 hap6)))
        have hs61 : w1.heap.size ≤ w6.heap.size := by simp at hs6; omega
        clear own6 ho6 hb6 hap6 grow6 at6 hc hc2 hc3 hz hz7
        by_cases hx : x7 < st
        · rw [if_pos hx] at HLF
          obtain ⟨L1, hL1⟩ : ∃ L1, L1 = L + 1 := ⟨_, rfl⟩
          have e1 : (L : Int) + 1 = (L1 : Int) := by omega
          have HL1 : Hid (lftN (swS cs) st (k + 1) = L1) := Lib.hid (by rw [HLF.out, hL1])
          clear hL1
          go_wp2
          go_roundw
          case rel => exact ⟨k + 1, g6, c6, by omega, by go_num, by rw [HL1.out], rfl, HP6.out.1, HP6.out.2.1, HP6.out.2.2.1, hs61, HP6.out.2.2.2⟩
          case measure => simp [intOf]; omega
        · rw [if_neg hx] at HLF
          have hx2 : st ≤ x7 := by omega
          go_wp2
          go_roundw
          case rel => exact ⟨k + 1, g6, c6, by omega, by go_num, by rw [HLF.out, Nat.add_zero], rfl, HP6.out.1, HP6.out.2.1, HP6.out.2.2.1, hs61, HP6.out.2.2.2⟩
          case measure => simp [intOf]; omega
      · obtain rfl : k = n := by omega
        have hst : (swS cs).take k = swS cs := List.take_of_length_le (by rw [HSL.out]; exact Nat.le_refl _)
        rw [hst] at hown
        have cF := HRest.out (lftN (swS cs) st k) (lftN (swS cs) st k) st 0 (some ⟨g, 0, none⟩) c5 wr (by omega) (Nat.le_refl _) hlf ⟨s1, s2⟩ (Int.le_refl _) (by omega) (Rd.ownz hown)
        rw [← HF.out] at cF
        have CF := Lib.hid cF
        have HB := Lib.hid hbel
        clear hown ho2 hbel hap cF hst
        go_wp2_with fail
        refine CF.out.mono ?_
        rintro e w' ⟨rfl, rfl⟩
        go_wp2
        go_ret
        exact ⟨rfl, HB.out⟩

end Go.Proofs.Ytjjddamblijffaa

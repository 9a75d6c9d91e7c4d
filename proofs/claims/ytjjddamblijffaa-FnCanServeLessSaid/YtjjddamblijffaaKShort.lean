/- Contracts of chapter 6: the shortest round. -/
import Derived.Test.YtjjddamblijffaaKVisitS
import Derived.Test.YtjjddamblijffaaKSweepS
namespace Go.Proofs.Ytjjddamblijffaa
open Go.RowKit
set_option linter.unusedVariables false
set_option linter.unusedSimpArgs false
def imn (a b : Int) : Int := if b < a then b else a
def loF (cs : List Cu) (st : Int) : Nat → Int
  | 0 => st
  | k + 1 => if (cuA cs k).1 < loF cs st k then (cuA cs k).1 else loF cs st k
def hiF (cs : List Cu) (st : Int) : Nat → Int
  | 0 => st
  | k + 1 => if hiF cs st k < (cuA cs k).1 then (cuA cs k).1 else hiF cs st k
theorem loF_ok (cs : List Cu) (st : Int) : ∀ k, loF cs st k ≤ st ∧ (∀ i, i < k → loF cs st k ≤ (cuA cs i).1) ∧ (loF cs st k = st ∨ ∃ i, i < k ∧ loF cs st k = (cuA cs i).1)
  | 0 => ⟨Int.le_refl _, fun i h => by omega, .inl rfl⟩
  | k + 1 => by
    obtain ⟨h1, h2, h3⟩ := loF_ok cs st k
    unfold loF
    split
    · next g =>
      refine ⟨by omega, fun i hi => ?_, .inr ⟨k, by omega, rfl⟩⟩
      by_cases e : i = k
      · subst e; exact Int.le_refl _
      · have := h2 i (by omega); omega
    · next g =>
      refine ⟨h1, fun i hi => ?_, ?_⟩
      · by_cases e : i = k
        · subst e; omega
        · exact h2 i (by omega)
      · rcases h3 with h3 | ⟨i, hi, h3⟩
        · exact .inl h3
        · exact .inr ⟨i, by omega, h3⟩
theorem hiF_ok (cs : List Cu) (st : Int) : ∀ k, st ≤ hiF cs st k ∧ (∀ i, i < k → (cuA cs i).1 ≤ hiF cs st k) ∧ (hiF cs st k = st ∨ ∃ i, i < k ∧ hiF cs st k = (cuA cs i).1)
  | 0 => ⟨Int.le_refl _, fun i h => by omega, .inl rfl⟩
  | k + 1 => by
    obtain ⟨h1, h2, h3⟩ := hiF_ok cs st k
    unfold hiF
    split
    · next g =>
      refine ⟨by omega, fun i hi => ?_, .inr ⟨k, by omega, rfl⟩⟩
      by_cases e : i = k
      · subst e; exact Int.le_refl _
      · have := h2 i (by omega); omega
    · next g =>
      refine ⟨h1, fun i hi => ?_, ?_⟩
      · by_cases e : i = k
        · subst e; omega
        · exact h2 i (by omega)
      · rcases h3 with h3 | ⟨i, hi, h3⟩
        · exact .inl h3
        · exact .inr ⟨i, by omega, h3⟩
def srF (cs : List Cu) (st : Int) : Int := hiF cs st cs.length - loF cs st cs.length + imn (st - loF cs st cs.length) (hiF cs st cs.length - st)
def srT (cs : List Cu) (st : Int) : Int := if vcB cs && inB st (-100) 100 then srF cs st else -1
theorem srT_ok {cs : List Cu} {st : Int} (h : vcB cs = true) (h2 : inB st (-100) 100 = true) : srT cs st = srF cs st := by unfold srT; rw [h, h2]; rfl
/-- the ends of the street, and the way to the nearer one of them -/
theorem srF_ends {cs : List Cu} {st : Int} (hn : 0 < cs.length) : srF cs st = (if dst st (cuA (swS cs) (cs.length - 1)).1 < dst st (cuA (swS cs) 0).1 then dst st (cuA (swS cs) (cs.length - 1)).1 else dst st (cuA (swS cs) 0).1) + (cuA (swS cs) (cs.length - 1)).1 - (cuA (swS cs) 0).1 := by
  obtain ⟨a1, a2, a3⟩ := loF_ok cs st cs.length
  obtain ⟨b1, b2, b3⟩ := hiF_ok cs st cs.length
  have hl := swS_len cs
  have hS := swS_srt cs
  have hlen := (ordS_ok cs cs.length).len
  have at_i : ∀ i, i < cs.length → (cuA (swS cs) 0).1 ≤ (cuA cs i).1 ∧ (cuA cs i).1 ≤ (cuA (swS cs) (cs.length - 1)).1 := fun i hi => by
    have hb : befF (ltS cs) cs.length i < cs.length := befS_lt hi ((plc_s cs cs.length).irr i hi)
    have e := swS_at ((ordS_ok cs cs.length).to i hi)
    rw [← e]
    exact ⟨hS.up _ _ (Nat.zero_le _) (by omega), hS.up _ _ (by omega) (by omega)⟩
  have is_i : ∀ p, p < cs.length → ∃ i, i < cs.length ∧ (cuA (swS cs) p).1 = (cuA cs i).1 := fun p hp => by
    have hg : (ordS cs cs.length)[p]? = some ((ordS cs cs.length)[p]'(by omega)) := List.getElem?_eq_getElem _
    exact ⟨_, ((ordS_ok cs cs.length).of p _ hg).1, by rw [swS_at hg]⟩
  obtain ⟨i0, hi0, e0⟩ := is_i 0 hn
  obtain ⟨i1, hi1, e1⟩ := is_i (cs.length - 1) (by omega)
  have c1 := a2 i0 hi0
  have c2 := b2 i1 hi1
  rw [← e0] at c1
  rw [← e1] at c2
  have c3 := hS.up 0 (cs.length - 1) (by omega) (by omega)
  have d1 : loF cs st cs.length = st ∨ loF cs st cs.length = (cuA (swS cs) 0).1 := by
    rcases a3 with h | ⟨i, hi, h⟩
    · exact .inl h
    · have := at_i i hi; right; omega
  have d2 : hiF cs st cs.length = st ∨ hiF cs st cs.length = (cuA (swS cs) (cs.length - 1)).1 := by
    rcases b3 with h | ⟨i, hi, h⟩
    · exact .inl h
    · have := at_i i hi; right; omega
  unfold srF imn dst
  clear a3 b3 a2 b2 at_i is_i hS hlen hl e0 e1 hi0 hi1
  generalize (cuA (swS cs) 0).1 = L at *
  generalize (cuA (swS cs) (cs.length - 1)).1 = G at *
  generalize loF cs st cs.length = l at *
  generalize hiF cs st cs.length = h at *
  by_cases g1 : st < L <;> by_cases g2 : st < G <;> simp only [g1, g2, if_true, if_false] <;> (repeat' split) <;> omega
set_option maxHeartbeats 2000000 in
theorem iShort_any (n : Nat) (cs : List Cu) (hl : cs.length = n) (A : Option Addr) (c : Nat) (hn : n ≤ maxLen) (w : World) (hr : Rd w w.heap.size A (custV cs)) (st : Int) :
    Calls Try.prog 22 #[.slice A n c, .int .i64 st] w fun e w' => e = .returned (.int .i64 (srT cs st)) ∧ Below w.heap.size w w' := by
  have cS := iStr_any n cs hl A c hn w hr st
  cases hq : (vcB cs && inB st (-100) 100)
  · rw [show srT cs st = -1 by unfold srT; rw [hq]; rfl]
    rw [hq] at cS
    have CS := Lib.hid cS
    clear cS hq
    go_enter Try.func22, Try.ntmps22
    go_wp2_with fail
    refine (CS.out).mono ?_
    rintro e w1 ⟨rfl, b1⟩
    have B1 := Lib.hid b1
    clear b1
    go_wp2
    go_ret
    exact ⟨rfl, B1.out⟩
  · rw [show srT cs st = srF cs st by unfold srT; rw [hq]; rfl]
    rw [hq] at cS
    have CS := Lib.hid cS
    rw [Bool.and_eq_true] at hq
    obtain ⟨hv, hs⟩ := hq
    obtain ⟨s1, s2⟩ := inB_t hs
    have h8 : n ≤ 8 := by rw [← hl]; exact (vcB_t hv).1
    by_cases h0 : n = 0
    · subst h0
      have e : srF cs st = 0 := by unfold srF; rw [hl]; unfold imn; simp [loF, hiF]
      rw [e]
      clear cS hv hs
      go_enter Try.func22, Try.ntmps22
      go_wp2_with fail
      refine (CS.out).mono ?_
      rintro e w1 ⟨rfl, b1⟩
      have B1 := Lib.hid b1
      clear b1
      go_wp2
      go_ret
      exact ⟨rfl, B1.out⟩
    · have hne : ((n : Int) == 0) = false := beq_eq_false_iff_ne.2 (by omega)
      have hne2 : ¬ (n : Int) = 0 := by omega
      have HE := Lib.hid (srF_ends (cs := cs) (st := st) (by omega))
      have cW := fun w (hr : Rd w w.heap.size A (custV cs)) => iSweep_any n cs hl A c hn w hr
      rw [show swT cs = nats (ordS cs n) by rw [swT_ok hv, hl]] at cW
      have CW := Lib.hid cW
      have hO := ordS_ok cs n
      have HO := Lib.hid hO
      have hg0 : (ordS cs n)[0]? = some ((ordS cs n)[0]'(by rw [hO.len]; omega)) := List.getElem?_eq_getElem _
      have hg1 : (ordS cs n)[n - 1]? = some ((ordS cs n)[n - 1]'(by rw [hO.len]; omega)) := List.getElem?_eq_getElem _
      obtain ⟨p0, hp0⟩ : ∃ p, (ordS cs n)[0]? = some p := ⟨_, hg0⟩
      obtain ⟨p1, hp1⟩ : ∃ p, (ordS cs n)[n - 1]? = some p := ⟨_, hg1⟩
      have l0 := (hO.of 0 p0 hp0).1
      have l1 := (hO.of (n - 1) p1 hp1).1
      have e0 : cuA (swS cs) 0 = cuA cs p0 := swS_at (by rw [hl]; exact hp0)
      have e1 : cuA (swS cs) (n - 1) = cuA cs p1 := swS_at (by rw [hl]; exact hp1)
      rw [hl, e0, e1] at HE
      have HLN : Hid ((nats (ordS cs n)).length = n) := Lib.hid (ordS_len cs n)
      have HP0 : Hid ((ints (nats (ordS cs n)))[0]? = some (.int .i64 (p0 : Int))) := Lib.hid (by rw [ints, nats, List.getElem?_map, List.getElem?_map, hp0]; rfl)
      have HP1 : Hid ((ints (nats (ordS cs n)))[n - 1]? = some (.int .i64 (p1 : Int))) := Lib.hid (by rw [ints, nats, List.getElem?_map, List.getElem?_map, hp1]; rfl)
      have HVA := Lib.hid (fun i (hi : i < n) => cuV_t (cuTo_at (vcB_t hv).2 (show i < cs.length by rw [hl]; exact hi)))
      have HL := Lib.hid hl
      have hn1 : (n : Int) - 1 = ((n - 1 : Nat) : Int) := by omega
      clear cS hv hs hO hg0 hg1 hp0 hp1 e0 e1 cW hl
      go_enter Try.func22, Try.ntmps22
      go_wp2_with fail
      refine (CS.out).mono ?_
      rintro e w1 ⟨rfl, b1⟩
      have hr1 := (hr.below b1).more b1.size
      have B1 := Lib.hid b1
      clear b1
      go_wp2_with fail
      refine (CW.out w1 hr1).mono ?_
      rintro e w2 ⟨A2, c2, rfl, o2, b2⟩
      rw [HLN.out] at o2 ⊢
      obtain ⟨g2, rfl, _, _, _, _⟩ := own_some o2 (by omega)
      have k0 := own_cell o2 HP0.out
      have k1 := own_cell o2 HP1.out
      have hr2 := (hr1.below b2).more b2.size
      have B2 := Lib.hid (B1.out.trans (b2.mono B1.out.size))
      obtain ⟨bb, off, x, d, v, rfl, hb1, hz, hc, hc2, hc3⟩ := hr2.cust_ (k := p0) (by rw [HL.out]; exact l0)
      obtain ⟨bb2, off2, x1, d1, v1, e7, hb2, hz1, hd, hd2, hd3⟩ := hr2.cust_ (k := p1) (by rw [HL.out]; exact l1)
      injection e7 with e7
      injection e7 with q1 q2
      subst q1 q2
      have hv0 := (HVA.out p0 l0).1
      have hv1 := (HVA.out p1 l1).1
      rw [hz.out] at HE hv0
      rw [hz1.out] at HE hv1
      obtain ⟨x1a, x1b⟩ := hv0
      obtain ⟨x2a, x2b⟩ := hv1
      simp only at x1a x1b x2a x2b
      have cD0 := fun w => iDst_any st x ⟨s1, s2⟩ ⟨x1a, x1b⟩ w
      have cD1 := fun w => iDst_any st x1 ⟨s1, s2⟩ ⟨x2a, x2b⟩ w
      obtain ⟨y1, y2⟩ := dst_bd ⟨s1, s2⟩ ⟨x1a, x1b⟩
      obtain ⟨y3, y4⟩ := dst_bd ⟨s1, s2⟩ ⟨x2a, x2b⟩
      generalize dst st x = D0 at *
      generalize dst st x1 = D1 at *
      have CD0 := Lib.hid cD0
      have CD1 := Lib.hid cD1
      clear cD0 cD1 o2 b2 hz hz1 hr1
      by_cases hd01 : D1 < D0
      · have HT : Hid (srF cs st = D1 + x1 - x) := Lib.hid (by rw [HE.out, if_pos hd01])
        go_wp2_with fail
        refine (CD0.out _).mono ?_
        rintro e w' ⟨rfl, rfl⟩
        go_wp2_with fail
        refine (CD1.out _).mono ?_
        rintro e w' ⟨rfl, rfl⟩
        go_wp2_with fail
        refine (CD1.out _).mono ?_
        rintro e w' ⟨rfl, rfl⟩
        go_wp2
        go_ret
        exact ⟨ret_int HT.out.symm, B2.out⟩
      · have HT : Hid (srF cs st = D0 + x1 - x) := Lib.hid (by rw [HE.out, if_neg hd01])
        go_wp2_with fail
        refine (CD0.out _).mono ?_
        rintro e w' ⟨rfl, rfl⟩
        go_wp2_with fail
        refine (CD1.out _).mono ?_
        rintro e w' ⟨rfl, rfl⟩
        go_wp2
        go_ret
        exact ⟨ret_int HT.out.symm, B2.out⟩
set_option maxHeartbeats 2000000 in
theorem sShort_any (n : Nat) (cs : List Cu) (hl : cs.length = n) (A : Option Addr) (c : Nat) (hn : n ≤ maxLen) (w : World) (hr : Rd w w.heap.size A (custV cs)) (st : Int) :
    Calls Try.prog 42 #[.slice A n c, .int .i64 st] w fun e w' => e = .returned (.int .i64 (srT cs st)) ∧ Below w.heap.size w w' := by
  have cV := sVCs_any n cs hl A c hn w _ hr
  cases hv : vcB cs
  · rw [show srT cs st = -1 by unfold srT; rw [hv]; rfl]
    rw [hv] at cV
    have CV := Lib.hid cV
    clear hv cV
    go_enter Try.func42, Try.ntmps42
    go_wp2_with fail
    refine (CV.out).mono ?_
    rintro e w1 ⟨rfl, q1, rfl⟩
    go_wp2
    go_ret
    exact ⟨rfl, below_drewN (Below.refl _ _) _⟩
  rw [hv] at cV
  have CV := Lib.hid cV
  have h8 : n ≤ 8 := by rw [← hl]; exact (vcB_t hv).1
  cases hs : inB st (-100) 100
  · rw [show srT cs st = -1 by unfold srT; rw [hs]; simp]
    have HS := Lib.hid hs
    clear hv cV hs
    go_enter Try.func42, Try.ntmps42
    go_wp2_with fail
    refine (CV.out).mono ?_
    rintro e w1 ⟨rfl, q1, rfl⟩
    go_wp2_with fail
    refine (inR_is HS.out _).mono ?_
    rintro e w' ⟨rfl, rfl⟩
    go_wp2
    go_ret
    exact ⟨rfl, below_drewN (Below.refl _ _) _⟩
  rw [srT_ok hv hs]
  obtain ⟨s1, s2⟩ := inB_t hs
  have HS := Lib.hid hs
  have HVA := Lib.hid (fun i (hi : i < n) => cuV_t (cuTo_at (vcB_t hv).2 (show i < cs.length by rw [hl]; exact hi)))
  have HLB : Hid (∀ k, k ≤ n → (-100 ≤ loF cs st k ∧ loF cs st k ≤ st) ∧ st ≤ hiF cs st k ∧ hiF cs st k ≤ 100) := Lib.hid fun k hk => by
    obtain ⟨a1, a2, a3⟩ := loF_ok cs st k
    obtain ⟨b1, b2, b3⟩ := hiF_ok cs st k
    refine ⟨⟨?_, a1⟩, b1, ?_⟩
    · rcases a3 with h | ⟨i, hi, h⟩
      · omega
      · have := (HVA.out i (by omega)).1; omega
    · rcases b3 with h | ⟨i, hi, h⟩
      · omega
      · have := (HVA.out i (by omega)).1; omega
  have HL := Lib.hid hl
  have HR : Hid (srF cs st = hiF cs st n - loF cs st n + imn (st - loF cs st n) (hiF cs st n - st)) := Lib.hid (by unfold srF; rw [hl])
  clear hv cV hs hl
  go_enter Try.func42, Try.ntmps42
  go_wp2_with fail
  refine (CV.out).mono ?_
  rintro e w1 ⟨rfl, q1, rfl⟩
  go_wp2_with fail
  refine (inR_is HS.out _).mono ?_
  rintro e w' ⟨rfl, rfl⟩
  have hr1 := hr.drewN q1
  have B1 : Hid (Below w.heap.size w (w.drewN q1)) := Lib.hid (below_drewN (Below.refl _ _) q1)
  generalize w.drewN q1 = w1 at *
  go_wp2
  go_loop [5, 6, 7] (fun a b i => ∃ k : Nat, k ≤ n ∧ i = .int .i64 k ∧ a = .int .i64 (loF cs st k) ∧ b = .int .i64 (hiF cs st k)) (fun _ _ i => n - (intOf i).toNat)
  case atStart => exact ⟨0, Nat.zero_le _, rfl, rfl, rfl⟩
  case round =>
    obtain ⟨k, hk, rfl, rfl, rfl⟩ := hrel
    obtain ⟨⟨g1, g2⟩, g3, g4⟩ := HLB.out k hk
    by_cases hlt : k < n
    · obtain ⟨bb, off, x, d, v, rfl, hb1, hz, hc, hc2, hc3⟩ := hr1.cust_ (k := k) (by rw [HL.out]; exact hlt)
      have HN1 : Hid (loF cs st (k + 1) = if x < loF cs st k then x else loF cs st k) := Lib.hid (by rw [loF, hz.out])
      have HN2 : Hid (hiF cs st (k + 1) = if hiF cs st k < x then x else hiF cs st k) := Lib.hid (by rw [hiF, hz.out])
      generalize loF cs st k = L at *
      generalize hiF cs st k = G at *
      clear hz
      have hway : (x < L ∧ ¬ G < x) ∨ (¬ x < L ∧ G < x) ∨ (¬ x < L ∧ ¬ G < x) := by omega
      rcases hway with ⟨h1, h2⟩ | ⟨h1, h2⟩ | ⟨h1, h2⟩
      · rw [if_pos h1] at HN1
        rw [if_neg h2] at HN2
        go_wp2
        all_goals
          go_round
          case rel => exact ⟨k + 1, by omega, by go_num, by first | (rw [HN1.out]; done) | (rw [HN1.out]; congr 1; omega), by first | (rw [HN2.out]; done) | (rw [HN2.out]; congr 1; omega)⟩
          case measure => simp [intOf]; omega
      · rw [if_neg h1] at HN1
        rw [if_pos h2] at HN2
        go_wp2
        all_goals
          go_round
          case rel => exact ⟨k + 1, by omega, by go_num, by first | (rw [HN1.out]; done) | (rw [HN1.out]; congr 1; omega), by first | (rw [HN2.out]; done) | (rw [HN2.out]; congr 1; omega)⟩
          case measure => simp [intOf]; omega
      · rw [if_neg h1] at HN1
        rw [if_neg h2] at HN2
        go_wp2
        all_goals
          go_round
          case rel => exact ⟨k + 1, by omega, by go_num, by first | (rw [HN1.out]; done) | (rw [HN1.out]; congr 1; omega), by first | (rw [HN2.out]; done) | (rw [HN2.out]; congr 1; omega)⟩
          case measure => simp [intOf]; omega
    · obtain rfl : k = n := by omega
      generalize loF cs st k = L at *
      generalize hiF cs st k = G at *
      by_cases hq : G - st < st - L
      · have HT : Hid (srF cs st = G - L + (G - st)) := Lib.hid (by rw [HR.out]; unfold imn; rw [if_pos hq])
        go_wp2
        all_goals
          go_ret
          exact ⟨ret_int (by first | (rw [HT.out]; done) | (rw [HT.out]; omega)), B1.out⟩
      · have HT : Hid (srF cs st = G - L + (st - L)) := Lib.hid (by rw [HR.out]; unfold imn; rw [if_neg hq])
        go_wp2
        all_goals
          go_ret
          exact ⟨ret_int (by first | (rw [HT.out]; done) | (rw [HT.out]; omega)), B1.out⟩

end Go.Proofs.Ytjjddamblijffaa

/- Contracts of chapter 6: the order with the least lateness, the model, and the public functions. -/
import Derived.Deep.AppendSrc
import Derived.Test.YtjjddamblijffaaKLeast
namespace Go.Proofs.Ytjjddamblijffaa
open Go.RowKit
set_option linter.unusedVariables false
set_option linter.unusedSimpArgs false
def SOnOK (cs : List Cu) (st : Int) (n : Nat) (f : Nat) : Prop := ∀ (b : List Int) (m : Nat) (A : Option Addr) (c base : Nat) (Ak : Option Addr) (ck : Nat) (w : World), b.length = m → f + m = n → ordTo n b m = true → base ≤ w.heap.size → Rd w w.heap.size Ak (custV cs) → w.ownsRow base 3 1 (.slice A m c) m (ints b) →
  Calls Try.prog 65 #[.slice Ak n ck, .int .i64 st, .slice A m c] w fun e w' => ∃ A' c', e = .returned (.slice A' n c') ∧ w'.ownsRow base 3 1 (.slice A' n c') n (ints (bst cs st f b)) ∧ Below w.heap.size w w'
set_option maxRecDepth 100000 in
set_option maxHeartbeats 2000000 in
theorem sLeastOn_any {cs : List Cu} {st : Int} {n : Nat} (P : LstP cs st n) : ∀ f, SOnOK cs st n f
  | 0 => fun b m A c base Ak ck w hl hf hg hbs hr ho => by
    obtain rfl : m = n := by omega
    have hb : ((m : Int) == (m : Int)) = true := beq_iff_eq.2 rfl
    show Calls _ _ _ _ fun e w' => ∃ A' c', e = .returned (.slice A' m c') ∧ w'.ownsRow base 3 1 (.slice A' m c') m (ints b) ∧ Below w.heap.size w w'
    have HO := Lib.hid ho
    clear ho hf
    go_enter Try.func65, Try.ntmps65
    go_wp2
    go_ret
    exact ⟨_, _, rfl, HO.out, Below.refl _ _⟩
  | f + 1 => fun b m A c base Ak ck w hl hf hg hbs hr ho => by
    obtain ⟨i0, hi, hz0, hz1, hz2⟩ := info_parts info_int
    have IH := sLeastOn_any P f
    have hn := P.n8
    have hne : ((m : Int) == (n : Int)) = false := beq_eq_false_iff_ne.2 (by omega)
    have hnn : ¬ (m : Int) = (n : Int) := by omega
    have HP := Lib.hid P
    have HL := Lib.hid hl
    have HIH := Lib.hid IH
    have HORD : Hid (∀ j, j ≤ n → bstL cs st (bst cs st f) b j = [] ∨ ordB n (bstL cs st (bst cs st f) b j) = true) := Lib.hid fun j hj => by
      have h := bstL_ord (cs := cs) (st := st) (f := f) (b := b) (by rw [P.len, hl]; omega) (by rw [P.len, hl]; exact hg) j (by rw [P.len]; exact hj)
      rwa [P.len] at h
    have HNX : Hid (∀ k, k < n → memB b (k : Int) = false → ordTo n (b ++ [(k : Int)]) (m + 1) = true ∧ ordB n (bst cs st f (b ++ [(k : Int)])) = true) := Lib.hid fun k hk hm => by
      have h1 := good_snoc (n := n) (b := b) (by rw [hl]; exact hg) hk hm
      have h2 := (bst_ok (cs := cs) (st := st) (f := f) (b := b ++ [(k : Int)]) (by rw [P.len]; simp; omega) (by rw [P.len]; exact h1)).1
      rw [P.len] at h2
      rw [show (b ++ [(k : Int)]).length = m + 1 by simp [hl]] at h1
      exact ⟨h1, h2⟩
    have HE : Hid (bst cs st (f + 1) b = bstL cs st (bst cs st f) b n) := Lib.hid (by show bstL cs st (bst cs st f) b cs.length = _; rw [P.len])
    have HB0 := Lib.hid (Rd.own ho)
    have hm8 : m ≤ 8 := by omega
    have hmf : f + (m + 1) = n := by omega
    have HMF := Lib.hid hmf
    have HG0 : Hid (ordTo n b b.length = true) := Lib.hid (by rw [hl]; exact hg)
    rw [HE.out]
    clear IH hl hg P hf hmf
    go_enter Try.func65, Try.ntmps65
    go_wp2
    go_loopw [7, 8] (fun v i wr => ∃ (k : Nat) (A7 : Option Addr) (c7 : Nat), k ≤ n ∧ i = .int .i64 k ∧ v = .slice A7 (bstL cs st (bst cs st f) b k).length c7 ∧ wr.ownsRow w.heap.size 3 1 v (bstL cs st (bst cs st f) b k).length (ints (bstL cs st (bst cs st f) b k)) ∧ Below w.heap.size w wr) (fun _ i _ => n - (intOf i).toNat)
    case atStart => exact ⟨0, some ⟨w.heap.size, 0, none⟩, 0, Nat.zero_le _, rfl, rfl, own_empty w _, (Below.refl _ _).alloc (Nat.le_refl _) _⟩
    case round =>
      obtain ⟨k, A7, c7, hk, rfl, rfl, hown, hbel⟩ := hrel
      have HBEL := Lib.hid hbel
      have hszb := hbel.size
      by_cases hlt : k < n
      · have hrb := (HB0.out.below hbel).more hbel.size
        have hrk := (hr.below hbel).more hbel.size
        have cS := sPlace_any m (by omega) b HL.out A c wr _ hrb (k : Int)
        have hpb := plF_bd (l := b) (z := (k : Int))
        have HPG := Lib.hid (plF_ge (l := b) (z := (k : Int)))
        have HNK := Lib.hid (HNX.out k hlt)
        have HSTP : Hid (bstL cs st (bst cs st f) b (k + 1) = if memB b (k : Int) then bstL cs st (bst cs st f) b k else if bstL cs st (bst cs st f) b k = [] ∨ latO cs st (bst cs st f (b ++ [(k : Int)])) < latO cs st (bstL cs st (bst cs st f) b k) then bst cs st f (b ++ [(k : Int)]) else bstL cs st (bst cs st f) b k) := Lib.hid rfl
        have HOK := Lib.hid (HORD.out k hk)
        have HNN : Hid (∀ l, bstL cs st (bst cs st f) b (k + 1) = l → bstL cs st (bst cs st f) b (k + 1) = l) := Lib.hid fun l h => h
        cases hmq : memB b (k : Int)
        · rw [hmq] at HSTP
          have hpn : plF b (k : Int) < 0 := by have := HPG.out; rw [hmq] at this; simp at this; omega
          obtain ⟨hg1, ho1⟩ := HNK.out hmq
          generalize plF b (k : Int) = pz at *
          simp only [Bool.false_eq_true, if_false] at HSTP
          generalize hBB : bstL cs st (bst cs st f) b k = L at *
          generalize hOO : bst cs st f (b ++ [(k : Int)]) = O at *
          have HOO := Lib.hid hOO
          have HO1 := Lib.hid ho1
          have HG1 := Lib.hid hg1
          have CS := Lib.hid cS
          have HOWN := Lib.hid hown
          clear hBB hOO cS hown hbel hmq ho1 hg1 hrk
          go_wp2_with fail
          refine (CS.out).mono ?_
          rintro e w' ⟨rfl, rfl⟩
          go_wp2_with fail
          refine (sCopyA_any b m HL.out (by omega) A c wr hrb).mono ?_
          rintro e w1 ⟨A1, c1, rfl, o1, b1⟩
          rw [HL.out] at o1 ⊢
          go_wp2_with (at_builtin; refine wpList_append_own _ rfl _ _ 27 rfl (wr.heap.size) 3 i0 (.int .i64 0) 1 8 Try.underlying27 hi hz0 hz1 hz2 rfl (by decide) _ _ _ rfl (own_alloc o1 _) ⟨w1.heap.size, 0, none⟩ 1 1 [.int .i64 (k : Int)] rfl rfl (one_new _ _ _ _ rfl) (fun u hu => by simp at hu; subst hu; rfl) (by unfold maxLen; omega) (by omega) (by have := b1.size; simp; omega) ?_)
          intro v2 w2 own2 grow2 _
          have b2 : Below wr.heap.size wr w2 := (b1.alloc b1.size (.cells #[.int .i64 (k : Int)] 3)).grown grow2 (by have := b1.size; simp; omega) (own_block o1)
          rw [show ints b ++ [Value.int .i64 (k : Int)] = ints (b ++ [(k : Int)]) by rw [ints, ints, List.map_append]; rfl] at own2
          obtain ⟨A2, c2, rfl⟩ := own_form own2
          have o2 := own2
          clear grow2 own2 o1 b1
          have hbl2 := HBEL.out.trans (b2.mono hszb)
          have hrk2 := (hr.below hbl2).more hbl2.size
          have o7 := own_below HOWN.out b2
          have cI := HIH.out (b ++ [(k : Int)]) (m + 1) A2 c2 wr.heap.size Ak ck w2 (by rw [List.length_append, HL.out]; rfl) HMF.out HG1.out b2.size hrk2 o2
          rw [HOO.out] at cI
          have CI := Lib.hid cI
          have hs2 := b2.size
          clear cI b2 o2 hrk2 hrb
          go_wp2_with fail
          refine CI.out.mono ?_
          rintro e w3 ⟨A3, c3, rfl, o3, b3⟩
          have hs3 := b3.size
          have hbl3 := hbl2.trans (b3.mono hbl2.size)
          have o73 := own_below o7 b3
          have o33 := own_base (base := wr.heap.size) o3 (Nat.le_refl _)
          have o34 := own_base o33 (show w.heap.size ≤ wr.heap.size from hszb)
          have hln : O.length = n := (ordB_t HO1.out).1
          have HLN := Lib.hid hln
          clear CI o7 hbl2 b3 o3 o33 hln
          by_cases hz : L = []
          · subst hz
            have hT : bstL cs st (bst cs st f) b (k + 1) = O := by rw [HSTP.out, if_pos (.inl rfl)]
            have HT := Lib.hid hT
            have HO3 := Lib.hid (And.intro o34 hbl3)
            clear hT o34 hbl3 o73 HOWN
            go_wp2
            go_roundw
            case rel => exact ⟨k + 1, A3, c3, by omega, by go_num, by rw [HT.out, HLN.out], by rw [HT.out, HLN.out]; exact HO3.out.1, HO3.out.2⟩
            case measure => simp [intOf]; omega
          · have hoL : ordB n L = true := by
              rcases HOK.out with h | h
              · exact absurd h hz
              · exact h
            have hlL : L.length = n := (ordB_t hoL).1
            have hn0 : n ≠ 0 := fun e => hz (List.length_eq_zero_iff.1 (by omega))
            rw [hlL] at o73 ⊢
            have hnb : ((n : Int) == 0) = false := beq_eq_false_iff_ne.2 (by omega)
            have hnb2 : ¬ (n : Int) = 0 := by omega
            have hrk3 := (hr.below hbl3).more hbl3.size
            have c1 := sLateN_any n cs O st (HP.out.rnd HO1.out) Ak ck A3 c3 w3 hrk3 (Rd.own o34)
            rw [show latR st 0 (pick cs O) = latO cs st O from rfl] at c1
            have c2 := fun (w4 : World) (b4 : Below w3.heap.size w3 w4) => sLateN_any n cs L st (HP.out.rnd hoL) Ak ck A7 c7 w4 ((hrk3.below b4).more b4.size) ((Rd.own o73).below b4 |>.more b4.size)
            rw [show latR st 0 (pick cs L) = latO cs st L from rfl] at c2
            have HSTP2 : Hid (bstL cs st (bst cs st f) b (k + 1) = if latO cs st O < latO cs st L then O else L) := Lib.hid (by
              rw [HSTP.out]
              by_cases g : latO cs st O < latO cs st L
              · rw [if_pos (.inr g), if_pos g]
              · rw [if_neg (fun h => h.elim hz g), if_neg g])
            generalize latO cs st O = v1 at *
            generalize latO cs st L = v2 at *
            have C1 := Lib.hid c1
            have C2 := Lib.hid c2
            have HO3 := Lib.hid (And.intro o34 (And.intro o73 hbl3))
            have HLL := Lib.hid hlL
            clear c1 c2 o34 o73 hbl3 hrk3 hlL hz
            go_wp2_with fail
            refine (C1.out).mono ?_
            rintro e w4 ⟨rfl, b4⟩
            have HB4 := Lib.hid b4
            clear b4
            go_wp2_with fail
            refine (C2.out w4 HB4.out).mono ?_
            rintro e w5 ⟨rfl, b5⟩
            have hb45 := HB4.out.trans (b5.mono HB4.out.size)
            have HX := Lib.hid (And.intro (own_below HO3.out.1 hb45) (And.intro (own_below HO3.out.2.1 hb45) (HO3.out.2.2.trans (hb45.mono HO3.out.2.2.size))))
            clear b5 hb45
            by_cases hg : v1 < v2
            · have HT : Hid (bstL cs st (bst cs st f) b (k + 1) = O) := Lib.hid (by rw [HSTP2.out, if_pos hg])
              go_wp2
              go_roundw
              case rel => exact ⟨k + 1, A3, c3, by omega, by go_num, by rw [HT.out, HLN.out], by rw [HT.out, HLN.out]; exact HX.out.1, HX.out.2.2⟩
              case measure => simp [intOf]; omega
            · have HT : Hid (bstL cs st (bst cs st f) b (k + 1) = L) := Lib.hid (by rw [HSTP2.out, if_neg hg])
              go_wp2
              go_roundw
              case rel => exact ⟨k + 1, A7, c7, by omega, by go_num, by rw [HT.out, HLL.out], by rw [HT.out, HLL.out]; exact HX.out.2.1, HX.out.2.2⟩
              case measure => simp [intOf]; omega
        · rw [hmq] at HSTP
          simp only [if_true] at HSTP
          have hpn : 0 ≤ plF b (k : Int) := HPG.out.2 hmq
          generalize plF b (k : Int) = pz at *
          have CS := Lib.hid cS
          have HO3 := Lib.hid (And.intro hown hbel)
          clear cS hown hbel hmq hrb hrk
          go_wp2_with fail
          refine (CS.out).mono ?_
          rintro e w' ⟨rfl, rfl⟩
          go_wp2
          go_roundw
          case rel => exact ⟨k + 1, A7, c7, by omega, by go_num, by rw [HSTP.out], by rw [HSTP.out]; exact HO3.out.1, HO3.out.2⟩
          case measure => simp [intOf]; omega
      · have hkn : n = k := by omega
        subst hkn
        have hnn2 : bstL cs st (bst cs st f) b n ≠ [] := fun e => by
          have h := (bst_ok (cs := cs) (st := st) (f := f + 1) (b := b) (by rw [HP.out.len, HL.out]; have := HMF.out; omega) (by
            rw [HP.out.len]
            have h1 := HNX.out
            have h2 := HORD.out
            exact HG0.out)).1
          rw [HP.out.len, HE.out, e] at h
          have h1 := (ordB_t h).1
          have := HMF.out
          simp at h1
          omega
        have hlB : (bstL cs st (bst cs st f) b n).length = n := by
          rcases HORD.out n (Nat.le_refl _) with h | h
          · exact absurd h hnn2
          · exact (ordB_t h).1
        rw [hlB] at hown ⊢
        have HO3 := Lib.hid (And.intro (own_base hown hbs) hbel)
        clear hown hbel hlB hnn2
        go_wp2
        go_ret
        exact ⟨_, _, rfl, HO3.out.1, HO3.out.2⟩
theorem leastOut {cs : List Cu} {st : Int} {w w' : World} {n : Nat} {A : Option Addr} {c : Nat} (hl : cs.length = n) (h : ((vcB cs && inB st (-100) 100) && decide (cs.length ≤ 6)) = true) (o : w'.ownsRow w.heap.size 3 1 (.slice A n c) n (ints (bst cs st n []))) (hb : Below w.heap.size w w') : OutI (leastT cs st) w (.returned (.slice A n c)) w' := by
  rw [leastT_ok h, hl]
  exact out_mk (by have := (ordB_t (least_ord (cs := cs) (st := st))).1; rw [hl] at this; exact this) o hb
set_option maxRecDepth 100000 in
set_option maxHeartbeats 1000000 in
theorem iLeast_any (n : Nat) (cs : List Cu) (hl : cs.length = n) (A : Option Addr) (c : Nat) (hn : n ≤ maxLen) (w : World) (hr : Rd w w.heap.size A (custV cs)) (st : Int) :
    Calls Try.prog 27 #[.slice A n c, .int .i64 st] w (OutI (leastT cs st) w) := by
  unfold maxLen at hn
  by_cases h6 : n ≤ 6
  · have cS := iStr_any n cs hl A c (by unfold maxLen; omega) w hr st
    have h6i : ¬ (6 : Int) < (n : Int) := by omega
    cases hq : (vcB cs && inB st (-100) 100)
    · rw [leastT_no (by rw [hq]; rfl)]
      rw [hq] at cS
      have CS := Lib.hid cS
      clear cS hq
      go_enter Try.func27, Try.ntmps27
      go_wp2_with fail
      refine (CS.out).mono ?_
      rintro e w1 ⟨rfl, b1⟩
      have B1 := Lib.hid b1
      clear b1
      go_wp2
      go_ret
      exact ⟨none, 0, rfl, ⟨rfl, .inl ⟨rfl, rfl⟩⟩, B1.out⟩
    · rw [hq] at cS
      have CS := Lib.hid cS
      have HQ : Hid (((vcB cs && inB st (-100) 100) && decide (cs.length ≤ 6)) = true) := Lib.hid (by rw [hq, hl, decide_eq_true h6]; rfl)
      rw [Bool.and_eq_true] at hq
      have hst := inB_t hq.2
      have HP : Hid (LstP cs st n) := Lib.hid ⟨hl, by omega, hq.1, hst.1, hst.2⟩
      have HL := Lib.hid hl
      clear cS hq hst hl
      go_enter Try.func27, Try.ntmps27
      go_wp2_with fail
      refine (CS.out).mono ?_
      rintro e w1 ⟨rfl, b1⟩
      have hr1 := (hr.below b1).more b1.size
      have B1 := Lib.hid b1
      have hb2 := b1.alloc b1.size (.cells #[] 3)
      have hr2 := (hr.below hb2).more hb2.size
      have HB2 := Lib.hid hb2
      clear b1 hb2
      go_wp2_with fail
      refine (iLeastOn_any HP.out n [] 0 _ 0 w1.heap.size A c _ rfl rfl rfl (by simp) hr2 (own_empty w1 3)).mono ?_
      rintro e w3 ⟨A3, c3, rfl, o3, b3⟩
      have R := leastOut HL.out HQ.out (own_base o3 B1.out.size) (HB2.out.trans (b3.mono HB2.out.size))
      have HR := Lib.hid R
      clear R o3 b3
      go_wp2
      go_ret
      exact HR.out
  · rw [leastT_no (by rw [hl, decide_eq_false h6, Bool.and_false])]
    have h6i : (6 : Int) < (n : Int) := by omega
    go_enter Try.func27, Try.ntmps27
    go_wp2
    go_ret
    exact out_nil w
set_option maxRecDepth 100000 in
set_option maxHeartbeats 1000000 in
theorem sLeast_any (n : Nat) (cs : List Cu) (hl : cs.length = n) (A : Option Addr) (c : Nat) (hn : n ≤ maxLen) (w : World) (hr : Rd w w.heap.size A (custV cs)) (st : Int) :
    Calls Try.prog 28 #[.slice A n c, .int .i64 st] w (OutI (leastT cs st) w) := by
  have cV := sVCs_any n cs hl A c hn w _ hr
  cases hv : vcB cs
  · rw [leastT_no (by rw [hv]; rfl)]
    rw [hv] at cV
    have CV := Lib.hid cV
    clear hv cV
    go_enter Try.func28, Try.ntmps28
    go_wp2_with fail
    refine (CV.out).mono ?_
    rintro e w1 ⟨rfl, q1, rfl⟩
    go_wp2
    go_ret
    exact ⟨none, 0, rfl, ⟨rfl, .inl ⟨rfl, rfl⟩⟩, below_drewN (Below.refl _ _) _⟩
  rw [hv] at cV
  have CV := Lib.hid cV
  have h8 : n ≤ 8 := by rw [← hl]; exact (vcB_t hv).1
  by_cases h6 : n ≤ 6
  case neg =>
    rw [leastT_no (by rw [hl, decide_eq_false h6, Bool.and_false])]
    have h6i : (6 : Int) < (n : Int) := by omega
    clear hv cV
    go_enter Try.func28, Try.ntmps28
    go_wp2_with fail
    refine (CV.out).mono ?_
    rintro e w1 ⟨rfl, q1, rfl⟩
    go_wp2
    go_ret
    exact ⟨none, 0, rfl, ⟨rfl, .inl ⟨rfl, rfl⟩⟩, below_drewN (Below.refl _ _) _⟩
  have h6i : ¬ (6 : Int) < (n : Int) := by omega
  cases hs : inB st (-100) 100
  · rw [leastT_no (by rw [hs]; simp)]
    have HS := Lib.hid hs
    clear hv cV hs
    go_enter Try.func28, Try.ntmps28
    go_wp2_with fail
    refine (CV.out).mono ?_
    rintro e w1 ⟨rfl, q1, rfl⟩
    go_wp2_with fail
    refine (inR_is HS.out _).mono ?_
    rintro e w' ⟨rfl, rfl⟩
    go_wp2
    go_ret
    exact ⟨none, 0, rfl, ⟨rfl, .inl ⟨rfl, rfl⟩⟩, below_drewN (Below.refl _ _) _⟩
  have HQ : Hid (((vcB cs && inB st (-100) 100) && decide (cs.length ≤ 6)) = true) := Lib.hid (by rw [hv, hs, hl, decide_eq_true h6]; rfl)
  have hst := inB_t hs
  have HP : Hid (LstP cs st n) := Lib.hid ⟨hl, by omega, hv, hst.1, hst.2⟩
  have HL := Lib.hid hl
  have HS := Lib.hid hs
  clear hv cV hs hst hl
  go_enter Try.func28, Try.ntmps28
  go_wp2_with fail
  refine (CV.out).mono ?_
  rintro e w1 ⟨rfl, q1, rfl⟩
  go_wp2_with fail
  refine (inR_is HS.out _).mono ?_
  rintro e w' ⟨rfl, rfl⟩
  have hb1 : Below w.heap.size w (w.drewN q1) := below_drewN (Below.refl _ _) q1
  have hb2 := hb1.alloc hb1.size (.cells #[] 3)
  have hr2 := (hr.below hb2).more hb2.size
  have HB2 := Lib.hid hb2
  have HB1 := Lib.hid hb1
  clear hb1 hb2
  go_wp2_with fail
  refine (sLeastOn_any HP.out n [] 0 _ 0 (w.drewN q1).heap.size A c _ rfl rfl rfl (by simp) hr2 (own_empty (w.drewN q1) 3)).mono ?_
  rintro e w3 ⟨A3, c3, rfl, o3, b3⟩
  have R := leastOut HL.out HQ.out (own_base o3 HB1.out.size) (HB2.out.trans (b3.mono HB2.out.size))
  have HR := Lib.hid R
  clear R o3 b3
  go_wp2
  go_ret
  exact HR.out
theorem iLst_t {ts : List Int} {cs : List Cu} {st : Int} (H : Hid (ts = leastT cs st)) (A : Option Addr) (c : Nat) (hn : cs.length ≤ maxLen) (w : World) (hr : Rd w w.heap.size A (custV cs)) :
    Calls Try.prog 27 #[.slice A cs.length c, .int .i64 st] w (OutI ts w) := by
  rw [H.out]; exact iLeast_any _ cs rfl A c hn w hr st
theorem sLst_t {ts : List Int} {cs : List Cu} {st : Int} (H : Hid (ts = leastT cs st)) (A : Option Addr) (c : Nat) (hn : cs.length ≤ maxLen) (w : World) (hr : Rd w w.heap.size A (custV cs)) :
    Calls Try.prog 28 #[.slice A cs.length c, .int .i64 st] w (OutI ts w) := by
  rw [H.out]; exact sLeast_any _ cs rfl A c hn w hr st

end Go.Proofs.Ytjjddamblijffaa

/- Contracts of chapter 6: the order with the least lateness. -/
import Derived.Laws.CopyOwn
import Derived.Deep.AppendSrc
import Derived.Test.YtjjddamblijffaaKLeastM
import Derived.Test.YtjjddamblijffaaKVisitS
import Derived.Test.YtjjddamblijffaaKSweepS
namespace Go.Proofs.Ytjjddamblijffaa
open Go.RowKit
set_option linter.unusedVariables false
set_option linter.unusedSimpArgs false
theorem made_ints (n : Nat) : (madeCells #[.int .i64 0] n : Array Value) = (List.replicate n (Value.int .i64 0)).toArray := by
  apply Array.ext
  · simp [madeCells]
  · intro i h1 h2
    simp [madeCells, Nat.mod_one]
set_option maxRecDepth 100000 in
set_option maxHeartbeats 1000000 in
theorem iLonger_any (b : List Int) (m : Nat) (hl : b.length = m) (hm : m ≤ 8) (A : Option Addr) (c : Nat) (w : World) (hr : Rd w w.heap.size A (ints b)) (z : Int) :
    Calls Try.prog 79 #[.slice A m c, .int .i64 z] w (OutI (b ++ [z]) w) := by
  obtain ⟨m1, hm1⟩ : ∃ m1, m1 = m + 1 := ⟨_, rfl⟩
  have e1 : (m : Int) + 1 = (m1 : Int) := by omega
  have hmk := run_make_row' (P := Try.prog) 27 3 (.int .i64 0) 8 Try.underlying27 info_int rfl .i64 .i64 m1 (by omega) (by omega)
  have HL := Lib.hid hl
  have HM := Lib.hid hm1
  have hb0 : Below w.heap.size w (w.alloc (.cells (madeCells #[.int .i64 0] m1) 3)) := (Below.refl _ _).alloc (Nat.le_refl _) _
  have hrw := (hr.below hb0).more hb0.size
  have hg0 : (w.alloc (.cells (madeCells #[.int .i64 0] m1) 3)).heap[w.heap.size]? = some (.cells (List.replicate m1 (Value.int .i64 0)).toArray 3 (0, 0)) := by
    rw [heap_alloc_new, made_ints]
  have HB := Lib.hid hb0
  have HR := Lib.hid hrw
  have HG := Lib.hid hg0
  clear hl hm1 hb0 hrw hg0 hr
  have HNM : Hid ((ints b).length = Nat.min m m1) := Lib.hid (by rw [ints_length, HL.out]; exact (Nat.min_eq_left (by have := HM.out; omega)).symm)
  have HPOS : Hid (0 < (ints b).length → (some (⟨w.heap.size, 0, none⟩ : Addr) = some ⟨w.heap.size, 0, none⟩ ∧ ∃ ad, A = some ad ∧ ∀ j v, (ints b)[j]? = some v → (w.alloc (.cells (madeCells #[.int .i64 0] m1) 3)).cell? (ad.add j) = some v)) := Lib.hid fun hp => ⟨rfl, by
    obtain ⟨bb, off, h1, _, h3⟩ := HR.out (by intro e; rw [e] at hp; simp at hp)
    exact ⟨_, h1, fun j v hj => by rw [Addr.add_lit]; exact h3 j v hj⟩⟩
  have HFIT : Hid (0 + (ints b).length ≤ (List.replicate m1 (Value.int .i64 0)).length) := Lib.hid (by have := HM.out; have := HL.out; rw [ints_length, List.length_replicate]; omega)
  go_enter Try.func79, Try.ntmps79
  go_wp2_with (with_reducible refine Go.wpList_copy_splice rfl _ _ _ _ rfl 3 Try.underlying27 (by kernel_rfl) (some ⟨w.heap.size, 0, none⟩) A m1 m1 m c rfl rfl w.heap.size 0 (List.replicate m1 (Value.int .i64 0)) 3 HG.out (ints b) HNM.out HPOS.out HFIT.out oneCell_ints2 w.heap.size w HB.out (Nat.le_refl _) ?_)
  intro w2 hg2 hb2
  have hsp : splice (List.replicate m1 (Value.int .i64 0)) 0 (ints b) = ints b ++ [.int .i64 0] := by
    unfold splice
    have := HM.out
    rw [List.take_zero, List.nil_append, ints_length, HL.out, List.drop_replicate, show m1 - (0 + m) = 1 by omega]
    rfl
  have hown : w2.ownsRow w.heap.size 3 1 (.slice (some ⟨w.heap.size, 0, none⟩) m1 m1) m1 (ints b ++ [.int .i64 0]) := by
    have h := hg2.out
    rw [hsp] at h
    have := HM.out
    have hlen : (ints b ++ [Value.int .i64 0]).length = m1 := by rw [List.length_append, ints_length, HL.out]; simp; omega
    refine ⟨by rw [hlen]; omega, .inr ⟨w.heap.size, m1, _, rfl, Nat.le_refl _, h, Nat.le_refl _, by unfold maxLen; omega, by simp [hlen], ?_⟩⟩
    rw [Nat.mul_one]
    exact List.take_of_length_le (by simpa using Nat.le_of_eq hlen)
  have hlb : (ints b).length = m := by rw [ints_length]; exact HL.out
  have hc := own_cell hown (k := m) (x := .int .i64 0) (by rw [List.getElem?_append_right (by omega), hlb, Nat.sub_self]; rfl)
  have hf := own_frozen hown m
  have hput := own_put hown m (.int .i64 z)
  rw [List.set_append_right _ _ (by omega), hlb, Nat.sub_self, show [Value.int .i64 0].set 0 (.int .i64 z) = [.int .i64 z] from rfl, show ints b ++ [Value.int .i64 z] = ints (b ++ [z]) by rw [ints, ints, List.map_append]; rfl] at hput
  have R : OutI (b ++ [z]) w (.returned (.slice (some ⟨w.heap.size, 0, none⟩) m1 m1)) (w2.setCell ⟨w.heap.size, m, none⟩ (.int .i64 z)) := out_mk (by rw [List.length_append, HL.out, HM.out]; rfl) hput (hb2.setCell (by simp) _)
  have HRR := Lib.hid R
  have hm1b : m < m1 := by have := HM.out; omega
  clear R hput hown hg2 hb2 hsp hlb
  go_wp2
  go_ret
  exact HRR.out
set_option maxRecDepth 100000 in
set_option maxHeartbeats 800000 in
theorem iSeen_any (b : List Int) (m : Nat) (hl : b.length = m) (hm : m ≤ 8) (A : Option Addr) (c : Nat) (w : World) (B : Nat) (hr : Rd w B A (ints b)) (z : Int) :
    Calls Try.prog 78 #[.slice A m c, .int .i64 z] w fun e w' => e = .returned (.bool (memB b z)) ∧ w = w' := by
  have HL := Lib.hid hl
  clear hl
  go_enter Try.func78, Try.ntmps78
  go_wp2
  go_loop [9] (fun i => ∃ k : Nat, k ≤ m ∧ i = .int .i64 k ∧ ∀ j, j < k → b[j]? ≠ some z) (fun i => m - (intOf i).toNat)
  case atStart => exact ⟨0, Nat.zero_le _, rfl, fun j h => by omega⟩
  case round =>
    obtain ⟨k, hk, rfl, hno⟩ := hrel
    have HNO := Lib.hid hno
    clear hno
    by_cases hlt : k < m
    · obtain ⟨bb, off, y, rfl, hb, hy, hc⟩ := hr.int_ (k := k) (by rw [HL.out]; exact hlt)
      by_cases he : y = z
      · subst he
        have HT : Hid (memB b y = true) := Lib.hid (decide_eq_true (List.mem_of_getElem? hy.out))
        go_wp2
        go_ret
        exact ⟨ret_bool HT.out.symm, rfl⟩
      · have hne : (y == z) = false := beq_eq_false_iff_ne.2 he
        go_wp2
        go_round
        case rel => exact ⟨k + 1, by omega, by go_num, fun j hj => by by_cases e : j = k; subst e; rw [hy.out]; intro h; injection h with h; exact he h; exact HNO.out j (by omega)⟩
        case measure => simp [intOf]; omega
    · have HT : Hid (memB b z = false) := Lib.hid (decide_eq_false (fun h => by
        obtain ⟨i, hi⟩ := List.mem_iff_getElem?.1 h
        have := (List.getElem?_eq_some_iff.1 hi).1
        exact HNO.out i (by have := HL.out; omega) hi))
      go_wp2
      go_ret
      exact ⟨ret_bool HT.out.symm, rfl⟩
structure LstP (cs : List Cu) (st : Int) (n : Nat) : Prop where
  len : cs.length = n
  n8 : n ≤ 8
  ok : vcB cs = true
  s1 : -100 ≤ st
  s2 : st ≤ 100
theorem LstP.rnd {cs : List Cu} {st : Int} {n : Nat} (P : LstP cs st n) {os : List Int} (h : ordB n os = true) : RndP cs st os n := ⟨P.len, (ordB_t h).1, P.n8, P.ok, h, P.s1, P.s2⟩
theorem LstP.late {cs : List Cu} {st : Int} {n : Nat} (P : LstP cs st n) {os : List Int} (h : ordB n os = true) : lateT cs st os = latO cs st os := by rw [lateT_ok (P.rnd h).rnd]; rfl
def LOnOK (cs : List Cu) (st : Int) (n : Nat) (f : Nat) : Prop := ∀ (b : List Int) (m : Nat) (A : Option Addr) (c base : Nat) (Ak : Option Addr) (ck : Nat) (w : World), b.length = m → f + m = n → ordTo n b m = true → base ≤ w.heap.size → Rd w w.heap.size Ak (custV cs) → w.ownsRow base 3 1 (.slice A m c) m (ints b) →
  Calls Try.prog 64 #[.slice Ak n ck, .int .i64 st, .slice A m c] w fun e w' => ∃ A' c', e = .returned (.slice A' n c') ∧ w'.ownsRow base 3 1 (.slice A' n c') n (ints (bst cs st f b)) ∧ Below w.heap.size w w'
set_option maxRecDepth 100000 in
set_option maxHeartbeats 2000000 in
theorem iLeastOn_any {cs : List Cu} {st : Int} {n : Nat} (P : LstP cs st n) : ∀ f, LOnOK cs st n f
  | 0 => fun b m A c base Ak ck w hl hf hg hbs hr ho => by
    obtain rfl : m = n := by omega
    have hb : ((m : Int) == (m : Int)) = true := beq_iff_eq.2 rfl
    show Calls _ _ _ _ fun e w' => ∃ A' c', e = .returned (.slice A' m c') ∧ w'.ownsRow base 3 1 (.slice A' m c') m (ints b) ∧ Below w.heap.size w w'
    have HO := Lib.hid ho
    clear ho hf
    go_enter Try.func64, Try.ntmps64
    go_wp2
    go_ret
    exact ⟨_, _, rfl, HO.out, Below.refl _ _⟩
  | f + 1 => fun b m A c base Ak ck w hl hf hg hbs hr ho => by
    have IH := iLeastOn_any P f
    have hn := P.n8
    have hne : ((m : Int) == (n : Int)) = false := beq_eq_false_iff_ne.2 (by omega)
    have hnn : ¬ (m : Int) = (n : Int) := by omega
    have HP := Lib.hid P
    have HL := Lib.hid hl
    have HIH := Lib.hid IH
    have HORD : Hid (∀ j, j ≤ n → bstL cs st (bst cs st f) b j = [] ∨ ordB n (bstL cs st (bst cs st f) b j) = true) := Lib.hid fun j hj => by
      have h := bstL_ord (cs := cs) (st := st) (f := f) (b := b) (by rw [P.len, hl]; omega) (by rw [P.len, hl]; exact hg) j (by rw [P.len]; exact hj)
      rwa [P.len] at h
    have HNX : Hid (∀ k, k < n → memB b (k : Int) = false → ordTo n (b ++ [(k : Int)]) (m + 1) = true ∧ ordB n (bst cs st f (b ++ [(k : Int)])) = true) := Lib.hid fun k hk hm => by
      have h1 := good_snoc (n := n) (b := b) (by rw [hl]; exact hg) hk hm
      have h2 := (bst_ok (cs := cs) (st := st) (f := f) (b := b ++ [(k : Int)]) (by rw [P.len]; simp; omega) (by rw [P.len]; exact h1)).1
      rw [P.len] at h2
      rw [show (b ++ [(k : Int)]).length = m + 1 by simp [hl]] at h1
      exact ⟨h1, h2⟩
    have HE : Hid (bst cs st (f + 1) b = bstL cs st (bst cs st f) b n) := Lib.hid (by show bstL cs st (bst cs st f) b cs.length = _; rw [P.len])
    have HB0 := Lib.hid (Rd.own ho)
    have hm8 : m ≤ 8 := by omega
    have hmf : f + (m + 1) = n := by omega
    have HMF := Lib.hid hmf
    have HG0 : Hid (ordTo n b b.length = true) := Lib.hid (by rw [hl]; exact hg)
    rw [HE.out]
    clear IH hl hg P hf hmf
    go_enter Try.func64, Try.ntmps64
    go_wp2
    go_loopw [7, 19] (fun v i wr => ∃ (k : Nat) (A7 : Option Addr) (c7 : Nat), k ≤ n ∧ i = .int .i64 k ∧ v = .slice A7 (bstL cs st (bst cs st f) b k).length c7 ∧ wr.ownsRow w.heap.size 3 1 v (bstL cs st (bst cs st f) b k).length (ints (bstL cs st (bst cs st f) b k)) ∧ Below w.heap.size w wr) (fun _ i _ => n - (intOf i).toNat)
    case atStart => exact ⟨0, some ⟨w.heap.size, 0, none⟩, 0, Nat.zero_le _, rfl, rfl, own_empty w _, (Below.refl _ _).alloc (Nat.le_refl _) _⟩
    case round =>
      obtain ⟨k, A7, c7, hk, rfl, rfl, hown, hbel⟩ := hrel
      have HBEL := Lib.hid hbel
      have hszb := hbel.size
      by_cases hlt : k < n
      · have hrb := (HB0.out.below hbel).more hbel.size
        have hrk := (hr.below hbel).more hbel.size
        have cS := iSeen_any b m HL.out hm8 A c wr _ hrb (k : Int)
        have HNK := Lib.hid (HNX.out k hlt)
        have HSTP : Hid (bstL cs st (bst cs st f) b (k + 1) = if memB b (k : Int) then bstL cs st (bst cs st f) b k else if bstL cs st (bst cs st f) b k = [] ∨ latO cs st (bst cs st f (b ++ [(k : Int)])) < latO cs st (bstL cs st (bst cs st f) b k) then bst cs st f (b ++ [(k : Int)]) else bstL cs st (bst cs st f) b k) := Lib.hid rfl
        have HOK := Lib.hid (HORD.out k hk)
        have HNN : Hid (∀ l, bstL cs st (bst cs st f) b (k + 1) = l → bstL cs st (bst cs st f) b (k + 1) = l) := Lib.hid fun l h => h
        cases hmq : memB b (k : Int)
        · rw [hmq] at cS HSTP
          obtain ⟨hg1, ho1⟩ := HNK.out hmq
          simp only [Bool.false_eq_true, if_false] at HSTP
          generalize hBB : bstL cs st (bst cs st f) b k = L at *
          generalize hOO : bst cs st f (b ++ [(k : Int)]) = O at *
          have HOO := Lib.hid hOO
          have HO1 := Lib.hid ho1
          have HG1 := Lib.hid hg1
          have CS := Lib.hid cS
          have HOWN := Lib.hid hown
          clear hBB hOO cS hown hbel hmq ho1 hg1 hrk
          go_wp2_with fail
          refine (CS.out).mono ?_
          rintro e w' ⟨rfl, rfl⟩
          go_wp2_with fail
          refine (iLonger_any b m HL.out hm8 A c wr hrb (k : Int)).mono ?_
          rintro e w2 ⟨A2, c2, rfl, o2, b2⟩
          rw [show (b ++ [(k : Int)]).length = m + 1 by rw [List.length_append, HL.out]; rfl] at o2 ⊢
          have hbl2 := HBEL.out.trans (b2.mono hszb)
          have hrk2 := (hr.below hbl2).more hbl2.size
          have o7 := own_below HOWN.out b2
          have cI := HIH.out (b ++ [(k : Int)]) (m + 1) A2 c2 wr.heap.size Ak ck w2 (by rw [List.length_append, HL.out]; rfl) HMF.out HG1.out b2.size hrk2 o2
          rw [HOO.out] at cI
          have CI := Lib.hid cI
          have hs2 := b2.size
          clear cI b2 o2 hrk2 hrb
          go_wp2_with fail
          refine CI.out.mono ?_
          rintro e w3 ⟨A3, c3, rfl, o3, b3⟩
          have hs3 := b3.size
          have hbl3 := hbl2.trans (b3.mono hbl2.size)
          have o73 := own_below o7 b3
          have o33 := own_base (base := wr.heap.size) o3 (Nat.le_refl _)
          have o34 := own_base o33 (show w.heap.size ≤ wr.heap.size from hszb)
          have hln : O.length = n := (ordB_t HO1.out).1
          have HLN := Lib.hid hln
          clear CI o7 hbl2 b3 o3 o33 hln
          by_cases hz : L = []
          · subst hz
            have hT : bstL cs st (bst cs st f) b (k + 1) = O := by rw [HSTP.out, if_pos (.inl rfl)]
            have HT := Lib.hid hT
            have HO3 := Lib.hid (And.intro o34 hbl3)
            clear hT o34 hbl3 o73 HOWN
            go_wp2
            go_roundw
            case rel => exact ⟨k + 1, A3, c3, by omega, by go_num, by rw [HT.out, HLN.out], by rw [HT.out, HLN.out]; exact HO3.out.1, HO3.out.2⟩
            case measure => simp [intOf]; omega
          · have hoL : ordB n L = true := by
              rcases HOK.out with h | h
              · exact absurd h hz
              · exact h
            have hlL : L.length = n := (ordB_t hoL).1
            have hn0 : n ≠ 0 := fun e => hz (List.length_eq_zero_iff.1 (by omega))
            rw [hlL] at o73 ⊢
            have hnb : ((n : Int) == 0) = false := beq_eq_false_iff_ne.2 (by omega)
            have hnb2 : ¬ (n : Int) = 0 := by omega
            have hrk3 := (hr.below hbl3).more hbl3.size
            have c1 := iLate_any n n cs HP.out.len Ak ck (by unfold maxLen; omega) O HLN.out (by omega) A3 c3 w3 hrk3 (Rd.own o34) st
            rw [HP.out.late HO1.out] at c1
            have c2 := fun (w4 : World) (b4 : Below w3.heap.size w3 w4) => iLate_any n n cs HP.out.len Ak ck (by unfold maxLen; omega) L hlL (by omega) A7 c7 w4 ((hrk3.below b4).more b4.size) ((Rd.own o73).below b4 |>.more b4.size) st
            simp only [HP.out.late hoL] at c2
            have HSTP2 : Hid (bstL cs st (bst cs st f) b (k + 1) = if latO cs st O < latO cs st L then O else L) := Lib.hid (by
              rw [HSTP.out]
              by_cases g : latO cs st O < latO cs st L
              · rw [if_pos (.inr g), if_pos g]
              · rw [if_neg (fun h => h.elim hz g), if_neg g])
            generalize latO cs st O = v1 at *
            generalize latO cs st L = v2 at *
            have C1 := Lib.hid c1
            have C2 := Lib.hid c2
            have HO3 := Lib.hid (And.intro o34 (And.intro o73 hbl3))
            have HLL := Lib.hid hlL
            clear c1 c2 o34 o73 hbl3 hrk3 hlL hz
            go_wp2_with fail
            refine (C1.out).mono ?_
            rintro e w4 ⟨rfl, b4⟩
            have HB4 := Lib.hid b4
            clear b4
            go_wp2_with fail
            refine (C2.out w4 HB4.out).mono ?_
            rintro e w5 ⟨rfl, b5⟩
            have hb45 := HB4.out.trans (b5.mono HB4.out.size)
            have HX := Lib.hid (And.intro (own_below HO3.out.1 hb45) (And.intro (own_below HO3.out.2.1 hb45) (HO3.out.2.2.trans (hb45.mono HO3.out.2.2.size))))
            clear b5 hb45
            by_cases hg : v1 < v2
            · have HT : Hid (bstL cs st (bst cs st f) b (k + 1) = O) := Lib.hid (by rw [HSTP2.out, if_pos hg])
              go_wp2
              go_roundw
              case rel => exact ⟨k + 1, A3, c3, by omega, by go_num, by rw [HT.out, HLN.out], by rw [HT.out, HLN.out]; exact HX.out.1, HX.out.2.2⟩
              case measure => simp [intOf]; omega
            · have HT : Hid (bstL cs st (bst cs st f) b (k + 1) = L) := Lib.hid (by rw [HSTP2.out, if_neg hg])
              go_wp2
              go_roundw
              case rel => exact ⟨k + 1, A7, c7, by omega, by go_num, by rw [HT.out, HLL.out], by rw [HT.out, HLL.out]; exact HX.out.2.1, HX.out.2.2⟩
              case measure => simp [intOf]; omega
        · rw [hmq] at cS HSTP
          simp only [if_true] at HSTP
          have CS := Lib.hid cS
          have HO3 := Lib.hid (And.intro hown hbel)
          clear cS hown hbel hmq hrb hrk
          go_wp2_with fail
          refine (CS.out).mono ?_
          rintro e w' ⟨rfl, rfl⟩
          go_wp2
          go_roundw
          case rel => exact ⟨k + 1, A7, c7, by omega, by go_num, by rw [HSTP.out], by rw [HSTP.out]; exact HO3.out.1, HO3.out.2⟩
          case measure => simp [intOf]; omega
      · have hkn : n = k := by omega
        subst hkn
        have hnn2 : bstL cs st (bst cs st f) b n ≠ [] := fun e => by
          have h := (bst_ok (cs := cs) (st := st) (f := f + 1) (b := b) (by rw [HP.out.len, HL.out]; have := HMF.out; omega) (by
            rw [HP.out.len]
            have h1 := HNX.out
            have h2 := HORD.out
            exact HG0.out)).1
          rw [HP.out.len, HE.out, e] at h
          have h1 := (ordB_t h).1
          have := HMF.out
          simp at h1
          omega
        have hlB : (bstL cs st (bst cs st f) b n).length = n := by
          rcases HORD.out n (Nat.le_refl _) with h | h
          · exact absurd h hnn2
          · exact (ordB_t h).1
        rw [hlB] at hown ⊢
        have HO3 := Lib.hid (And.intro (own_base hown hbs) hbel)
        clear hown hbel hlB hnn2
        go_wp2
        go_ret
        exact ⟨_, _, rfl, HO3.out.1, HO3.out.2⟩

end Go.Proofs.Ytjjddamblijffaa

/- Contracts of chapter 3: in how many orders cakes can float out, the words and the program. -/
import Derived.Lib.QuietBelow
import Derived.Test.YtjjddamblijffabCFloatS
namespace Go.Proofs.Ytjjddamblijffab
open Go.RowKit
set_option linter.unusedVariables false
set_option linter.unusedSimpArgs false
def freeB (b : Int) (cs : List (Int × Int)) (l : List Int) (i : Nat) : Bool := !memB l (i : Int) && !heldTo b cs l (cAt cs i) cs.length
def cntO (b : Int) (cs : List (Int × Int)) : Nat → List Int → Int
  | 0, _ => 1
  | f + 1, l => ((List.range cs.length).map (fun i : Nat => if freeB b cs l i = true then cntO b cs f (l ++ [(i : Int)]) else 0)).sum
def cntS (b : Int) (cs : List (Int × Int)) (f : Nat) (l : List Int) (k : Nat) : Int := ((List.range k).map (fun i : Nat => if freeB b cs l i = true then cntO b cs f (l ++ [(i : Int)]) else 0)).sum
theorem cntS_succ (b : Int) (cs : List (Int × Int)) (f : Nat) (l : List Int) (k : Nat) : cntS b cs f l (k + 1) = cntS b cs f l k + (if freeB b cs l k = true then cntO b cs f (l ++ [(k : Int)]) else 0) := by
  unfold cntS
  rw [List.range_succ, List.map_append]
  simp
theorem cntO_bd (b : Int) (cs : List (Int × Int)) (hn : cs.length ≤ 6) : ∀ (f : Nat) (l : List Int), 0 ≤ cntO b cs f l ∧ cntO b cs f l ≤ ((6 ^ f : Nat) : Int)
  | 0, l => ⟨by simp [cntO], by simp [cntO]⟩
  | f + 1, l => by
    have h : ∀ k : Nat, 0 ≤ cntS b cs f l k ∧ cntS b cs f l k ≤ ((k * 6 ^ f : Nat) : Int) := by
      intro k
      induction k with
      | zero => simp [cntS]
      | succ k ih =>
        have h2 := cntO_bd b cs hn f (l ++ [(k : Int)])
        rw [cntS_succ, Nat.add_mul, Nat.one_mul]
        have h3 : (((k * 6 ^ f + 6 ^ f : Nat)) : Int) = ((k * 6 ^ f : Nat) : Int) + ((6 ^ f : Nat) : Int) := by omega
        rw [h3]
        split <;> omega
    have h1 := h cs.length
    have h2 : cs.length * 6 ^ f ≤ 6 ^ (f + 1) := by
      rw [Nat.pow_succ, Nat.mul_comm (6 ^ f) 6]
      exact Nat.mul_le_mul_right _ hn
    show 0 ≤ cntS b cs f l cs.length ∧ cntS b cs f l cs.length ≤ _
    omega
theorem cntO_6 {b : Int} {cs : List (Int × Int)} (hn : cs.length ≤ 6) {f : Nat} (hf : f ≤ 6) (l : List Int) : 0 ≤ cntO b cs f l ∧ cntO b cs f l ≤ 46656 := by
  have h := cntO_bd b cs hn f l
  have h2 : 6 ^ f ≤ 6 ^ 6 := Nat.pow_le_pow_right (by omega) hf
  have h3 : (6 : Nat) ^ 6 = 46656 := rfl
  omega
theorem cntS_6 {b : Int} {cs : List (Int × Int)} (hn : cs.length ≤ 6) {f : Nat} (hf : f ≤ 6) (l : List Int) : ∀ k : Nat, k ≤ 6 → 0 ≤ cntS b cs f l k ∧ cntS b cs f l k ≤ 46656 * (k : Int)
  | 0, _ => by simp [cntS]
  | k + 1, h => by
    have h1 := cntS_6 (b := b) hn hf l k (by omega)
    have h2 := cntO_6 (b := b) hn hf (l ++ [(k : Int)])
    rw [cntS_succ]
    split <;> omega
def countT (a b : Int) (cs : List (Int × Int)) : Int := if decide (cs.length ≤ 6) && cakesB a b cs then cntO b cs cs.length [] else -1
theorem goneL_back {n : Nat} {l : List Int} {i : Nat} (h : i < n) (hm : memB l (i : Int) = false) : (goneL n (l ++ [(i : Int)])).set i false = goneL n l := by
  apply List.ext_getElem
  · simp [goneL]
  · intro j h1 h2
    have hj : j < n := by simpa [goneL] using h2
    rw [List.getElem_set]
    simp only [goneL, List.getElem_map, List.getElem_range]
    by_cases e : i = j
    · subst e; rw [if_pos rfl, hm]
    · rw [if_neg e]
      unfold memB
      simp only [List.mem_append, List.mem_singleton]
      refine decide_eq_decide.2 ⟨fun h => ?_, fun h => .inl h⟩
      rcases h with h | h
      · exact h
      · exact absurd (Int.ofNat.inj h).symm e
theorem only_cell1 {a w : World} {g : Nat} (h : a.grownBy w (some g)) (j : Nat) (u : Value) : a.grownBy (w.setCell ⟨g, j, none⟩ u) (some g) :=
  ⟨h.os, h.tape, h.output, by simpa using h.size, fun i hi hne => (Below.heap_setCell w ⟨g, j, none⟩ u i (fun e => hne (by rw [e]))).trans (h.block i hi hne)⟩
theorem only_bel {a w w' : World} {g : Nat} (h : a.grownBy w (some g)) (hb : Below w.heap.size w w') : a.grownBy w' (some g) :=
  ⟨hb.os.trans h.os, hb.tape.trans h.tape, hb.output.trans h.output, Nat.le_trans h.size hb.size, fun i hi hne => (hb.block i (Nat.lt_of_lt_of_le hi h.size)).trans (h.block i hi hne)⟩
theorem Rd.only_ {w w' : World} {B g : Nat} {A : Option Addr} {xs : List Value} (h : Rd w B A xs) (hB : B ≤ w.heap.size) (hg : w.grownBy w' (some g)) (hlt : B ≤ g) : Rd w' B A xs :=
  h.keep fun p hp => World.cell?_of_block (hg.block p.block (by omega) (fun e => by injection e with e; omega))
set_option maxRecDepth 100000 in
set_option maxHeartbeats 2000000 in
theorem iOrders_any (n : Nat) (hn : n ≤ 6) (cs : List (Int × Int)) (hl : cs.length = n) (A : Option Addr) (c cg g base : Nat) (b : Int) (hb : 1 ≤ b ∧ b ≤ 4) (hon : ∀ j, j < n → 0 ≤ (cAt cs j).2 ∧ (cAt cs j).2 ≤ 9) :
    ∀ (f : Nat), f ≤ 6 → ∀ (l : List Int) (w : World), base ≤ w.heap.size → base ≤ g → g < w.heap.size → Rd w base A (cakeV cs) → w.ownsRow base 4 1 (.slice (some ⟨g, 0, none⟩) n cg) n (bools (goneL n l)) →
    Calls Try.prog 90 #[.slice A n c, .slice (some ⟨g, 0, none⟩) n cg, .int .i64 (f : Nat), .int .i64 b] w fun e w' => e = .returned (.int .i64 (cntO b cs f l)) ∧ w'.ownsRow base 4 1 (.slice (some ⟨g, 0, none⟩) n cg) n (bools (goneL n l)) ∧ w.grownBy w' (some g) := by
  intro f
  induction f with
  | zero =>
    intro _ l w h1 h2 h3 hr hown
    have HO := Lib.hid hown
    clear hown hr
    go_enter Try.func90, Try.ntmps90
    go_wp2
    go_ret
    exact ⟨rfl, HO.out, only_refl _ _⟩
  | succ f ih =>
    intro hf l w h1 h2 h3 hr hown
    have IH := Lib.hid ih
    clear ih
    obtain ⟨hb1, hb2⟩ := hb
    have HON := Lib.hid hon
    have HL := Lib.hid hl
    have hTot : cntO b cs (f + 1) l = cntS b cs f l n := by unfold cntS; rw [← hl]; rfl
    generalize hFF : f + 1 = F at *
    have HTot := Lib.hid hTot
    have e2 : (F : Int) - 1 = (f : Int) := by omega
    have HFF := Lib.hid hFF
    have hF1 : 1 ≤ F := by omega
    clear hFF hTot
    have HSB : Hid (∀ k : Nat, k ≤ 6 → 0 ≤ cntS b cs f l k ∧ cntS b cs f l k ≤ 46656 * (k : Int)) := Lib.hid fun k hk => cntS_6 (by omega) (by omega) l k hk
    have HOB : Hid (∀ l', 0 ≤ cntO b cs f l' ∧ cntO b cs f l' ≤ 46656) := Lib.hid fun l' => cntO_6 (by omega) (by omega) l'
    have HFr : Hid (∀ k, freeB b cs l k = (!memB l (k : Int) && !heldTo b cs l (cAt cs k) n)) := Lib.hid fun k => by unfold freeB; rw [hl]
    have HO := Lib.hid hown
    have HRD := Lib.hid hr
    have e0 : ((F : Int) == 0) = false := beq_eq_false_iff_ne.2 (by omega)
    have e3 : ¬ F = 0 := by omega
    have hf5 : f ≤ 5 := by omega
    clear hon hl hown hr
    go_enter Try.func90, Try.ntmps90
    go_wp2
    go_loopw [9, 16] (fun s i wr => ∃ k : Nat, k ≤ n ∧ i = .int .i64 k ∧ s = .int .i64 (cntS b cs f l k) ∧ wr.ownsRow base 4 1 (.slice (some ⟨g, 0, none⟩) n cg) n (bools (goneL n l)) ∧ w.grownBy wr (some g)) (fun _ i _ => n - (intOf i).toNat)
    case atStart => exact ⟨0, Nat.zero_le _, rfl, by simp [cntS], HO.out, only_refl _ _⟩
    case round =>
      obtain ⟨k, hk, rfl, rfl, hown, hgr⟩ := hrel
      have HOWN := Lib.hid hown
      have HGR := Lib.hid hgr
      have hsz := hgr.size
      have hsk := HSB.out k (by omega)
      by_cases hlt : k < n
      · have hrr := HRD.out.only_ h1 hgr h2
        obtain ⟨b1, off, x, y, rfl, hb1', hz, hc, hc2⟩ := hrr.cake_ (k := k) (by rw [HL.out]; exact hlt)
        have Hct : Hid (cAt cs k = (x, y)) := Lib.hid (cAt_get hz.out)
        have hcg := own_cell hown (k := k) (x := .bool (memB l (k : Int))) (by
          have := bools_at (bs := goneL n l) (k := k) (by rw [goneL_len]; exact hlt)
          rw [goneL_at hlt] at this
          exact this)
        have hgne : g < wr.heap.size := by omega
        have hcg2 : ∀ o : Obj, (wr.alloc o).cell? ⟨g, k, none⟩ = some (.bool (memB l (k : Int))) := fun o => (World.cell?_alloc_lt wr o _ (by show g < _; omega)).trans hcg
        have HS : Hid (∀ q : Bool, freeB b cs l k = q → cntS b cs f l (k + 1) = cntS b cs f l k + (if q = true then cntO b cs f (l ++ [(k : Int)]) else 0)) := Lib.hid fun q h => by rw [cntS_succ, h]
        obtain ⟨wq, hwq⟩ : ∃ wq, wq = wr.alloc (.cells #[.int .i64 x, .int .i64 y] 83) := ⟨_, rfl⟩
        have bq0 : Below wr.heap.size wr wq := by rw [hwq]; exact (Below.refl _ _).alloc (Nat.le_refl _) _
        have HBQ := Lib.hid bq0
        have hcall : Calls Try.prog 79 #[.slice (some ⟨b1, off, none⟩) n c, .slice (some ⟨g, 0, none⟩) n cg, .agg #[.int .i64 x, .int .i64 y], .int .i64 b] (wr.alloc (.cells #[.int .i64 x, .int .i64 y] 83)) fun e w' => e = .returned (.bool (heldTo b cs l (x, y) n)) ∧ Below (wr.alloc (.cells #[.int .i64 x, .int .i64 y] 83)).heap.size (wr.alloc (.cells #[.int .i64 x, .int .i64 y] 83)) w' := by
          have hon := HON.out k hlt
          rw [Hct.out] at hon
          have hA : Rd (wr.alloc (.cells #[.int .i64 x, .int .i64 y] 83)) (wr.alloc (.cells #[.int .i64 x, .int .i64 y] 83)).heap.size (some ⟨b1, off, none⟩) (cakeV cs) := (hrr.alloc (by omega) _).more (by simp; omega)
          exact iHeld_any n (by omega) cs HL.out _ _ c cg _ hA l (Rd.own (own_alloc hown _)) x y b ⟨hb1, hb2⟩ hon HON.out
        have HCall := Lib.hid hcall
        have hgrq : w.grownBy (wr.alloc (.cells #[.int .i64 x, .int .i64 y] 83)) (some g) := only_alloc hgr _
        have HGQ := Lib.hid hgrq
        have HOQ := Lib.hid (own_alloc hown (.cells #[.int .i64 x, .int .i64 y] 83))
        clear hrr hz hown hgr hcall hgrq bq0 hwq hcg
        cases hmq : memB l (k : Int)
        · simp only [hmq] at hcg2
          cases hhq : heldTo b cs l (x, y) n
          · have HN := Lib.hid (HS.out true (by rw [HFr.out, hmq, Hct.out, hhq]; rfl))
            go_wp2_with fail
            refine HCall.out.mono ?_
            rw [hhq]
            rintro e w5 ⟨rfl, b5⟩
            have hs5 := b5.size
            have hs5' : wr.heap.size + 1 ≤ w5.heap.size := by simpa using hs5
            have o5 := own_below HOQ.out b5
            have g5 := only_bel HGQ.out b5
            have hc5 := own_cell o5 (k := k) (x := .bool (isd (goneL n l) k)) (bools_at (by rw [goneL_len]; exact hlt))
            have hf5 := own_frozen o5 k
            have hput := own_put o5 k (.bool true)
            rw [bools_set, goneL_snoc hlt] at hput
            have g6 := only_cell1 g5 k (.bool true)
            have hsz6 : (w5.setCell ⟨g, k, none⟩ (.bool true)).heap.size = w5.heap.size := by simp [World.setCell]
            have hr6 := HRD.out.only_ h1 g6 h2
            have hrec := IH.out (by omega) (l ++ [(k : Int)]) (w5.setCell ⟨g, k, none⟩ (.bool true)) (by omega) h2 (by omega) hr6 hput
            have HRec := Lib.hid hrec
            have HG6 := Lib.hid g6
            have hob := HOB.out (l ++ [(k : Int)])
            have HM := Lib.hid hmq
            clear o5 g5 hput g6 hr6 hrec b5 hmq hhq
            go_wp2_with fail
            refine HRec.out.mono ?_
            rintro e w7 ⟨rfl, o7, g7⟩
            have g67 := only_trans HG6.out g7
            have hc7 := own_cell o7 (k := k) (x := .bool (isd (goneL n (l ++ [(k : Int)])) k)) (bools_at (by rw [goneL_len]; exact hlt))
            have hf7 := own_frozen o7 k
            have hput := own_put o7 k (.bool false)
            rw [bools_set, goneL_back hlt HM.out] at hput
            have g8 := only_cell1 g67 k (.bool false)
            have HP := Lib.hid (And.intro hput g8)
            have HN2 : Hid (cntS b cs f l (k + 1) = cntS b cs f l k + cntO b cs f (l ++ [(k : Int)])) := Lib.hid (by rw [HN.out]; simp)
            clear hput g8 g67 o7 g7
            generalize cntO b cs f (l ++ [(k : Int)]) = Q at *
            generalize hS0 : cntS b cs f l k = S0 at *
            clear hS0
            go_wp2
            go_roundw
            case rel => exact ⟨k + 1, by omega, by go_num, by rw [HN2.out], HP.out.1, HP.out.2⟩
            case measure => simp [intOf]; omega
          · have HN := Lib.hid (HS.out false (by rw [HFr.out, hmq, Hct.out, hhq]; rfl))
            go_wp2_with fail
            refine HCall.out.mono ?_
            rw [hhq]
            rintro e w5 ⟨rfl, b5⟩
            have o5 := own_below HOQ.out b5
            have g5 := only_bel HGQ.out b5
            have HP := Lib.hid (And.intro o5 g5)
            have HN2 : Hid (cntS b cs f l (k + 1) = cntS b cs f l k) := Lib.hid (by rw [HN.out]; simp)
            clear o5 g5 b5 hmq hhq
            generalize hS0 : cntS b cs f l k = S0 at *
            clear hS0
            go_wp2
            go_roundw
            case rel => exact ⟨k + 1, by omega, by go_num, by rw [HN2.out], HP.out.1, HP.out.2⟩
            case measure => simp [intOf]; omega
        · simp only [hmq] at hcg2
          have HN := Lib.hid (HS.out false (by rw [HFr.out, hmq]; rfl))
          have HN2 : Hid (cntS b cs f l (k + 1) = cntS b cs f l k) := Lib.hid (by rw [HN.out]; simp)
          clear hmq
          generalize hS0 : cntS b cs f l k = S0 at *
          clear hS0
          go_wp2
          go_roundw
          case rel => exact ⟨k + 1, by omega, by go_num, by rw [HN2.out], HOQ.out, HGQ.out⟩
          case measure => simp [intOf]; omega
      · obtain rfl : k = n := by omega
        clear hown hgr
        generalize hS0 : cntS b cs f l k = S0 at *
        clear hS0
        go_wp2
        go_ret
        exact ⟨ret_int HTot.out.symm, HOWN.out, HGR.out⟩
set_option maxRecDepth 100000 in
set_option maxHeartbeats 1000000 in
theorem iCount_any (n : Nat) (hn : n ≤ 1048576) (cs : List (Int × Int)) (hl : cs.length = n) (A : Option Addr) (c : Nat) (hcap : n ≤ c ∧ c ≤ maxLen) (w : World) (hr : Rd w w.heap.size A (cakeV cs)) (a b : Int) :
    Calls Try.prog 47 #[.slice A n c, .int .i64 a, .int .i64 b] w fun e w' => e = .returned (.int .i64 (countT a b cs)) ∧ Below w.heap.size w w' := by
  by_cases h6 : 6 < n
  · have HF : Hid (countT a b cs = -1) := Lib.hid (by unfold countT; rw [hl, decide_eq_false (by omega)]; rfl)
    clear hl
    go_enter Try.func47, Try.ntmps47
    go_wp2
    go_ret
    exact ⟨ret_int HF.out.symm, Below.refl _ _⟩
  cases hv : cakesB a b cs
  · have HF : Hid (countT a b cs = -1) := Lib.hid (by unfold countT; rw [hv, Bool.and_false]; rfl)
    have HC := Lib.hid (iVC_is n hn cs hl A c hcap w hr a b hv)
    have h7 : n ≤ 6 := by omega
    clear hv hl h6
    go_enter Try.func47, Try.ntmps47
    go_wp2_with fail
    refine (HC.out).mono ?_
    rintro e w1 ⟨rfl, b1⟩
    go_wp2
    go_ret
    exact ⟨ret_int HF.out.symm, b1⟩
  have HC := Lib.hid (iVC_is n hn cs hl A c hcap w hr a b hv)
  have h7 : n ≤ 6 := by omega
  obtain ⟨hs, hok⟩ := cakesB_parts hv
  obtain ⟨⟨s1, s2⟩, ⟨s3, s4⟩⟩ := sidesB_t hs
  rw [hl] at hok
  have HON : Hid (∀ j, j < n → 0 ≤ (cAt cs j).2 ∧ (cAt cs j).2 ≤ 9) := Lib.hid fun j hj => by have := onB_t (okTo_on hok hj); omega
  have HF : Hid (countT a b cs = cntO b cs n []) := Lib.hid (by unfold countT; rw [hv, hl, decide_eq_true h7]; rfl)
  have HL := Lib.hid hl
  have hmk := run_make_row' (P := Try.prog) 86 4 (.bool false) 1 Try.underlying86 info_bool rfl .i64 .i64 n (by omega) (by omega)
  clear hv hs hok hl h6
  go_enter Try.func47, Try.ntmps47
  go_wp2_with fail
  refine (HC.out).mono ?_
  rintro e w1 ⟨rfl, b1⟩
  have hs1 := b1.size
  have hr1 := (hr.below b1).more hs1
  have hown : (w1.alloc (.cells (madeCells #[.bool false] n) 4)).ownsRow w1.heap.size 4 1 (.slice (some ⟨w1.heap.size, 0, none⟩) n n) n (bools (goneL n [])) := by
    rw [goneL_nil]
    have := own_made w1 (.bool false) n 4 (by unfold maxLen; omega)
    simpa [bools] using this
  have hcall := iOrders_any n h7 cs HL.out A c n w1.heap.size w1.heap.size b ⟨s3, s4⟩ HON.out n h7 [] (w1.alloc (.cells (madeCells #[.bool false] n) 4)) (by simp) (Nat.le_refl _) (by simp) (hr1.alloc (Nat.le_refl _) _) hown
  have hba := b1.alloc hs1 (.cells (madeCells #[.bool false] n) 4)
  have HBA := Lib.hid hba
  clear hown hr1 b1 hba
  go_wp2_with fail
  refine hcall.mono ?_
  rintro e w3 ⟨rfl, o3, g3⟩
  have hb3 : Below w.heap.size w w3 := ⟨g3.os.trans HBA.out.os, g3.tape.trans HBA.out.tape, g3.output.trans HBA.out.output, Nat.le_trans HBA.out.size g3.size, fun k hk => (g3.block k (by simp; omega) (fun e => by injection e with e; omega)).trans (HBA.out.block k hk)⟩
  have HB3 := Lib.hid hb3
  clear hb3 o3 g3 hcall
  go_wp2
  go_ret
  exact ⟨ret_int HF.out.symm, HB3.out⟩

end Go.Proofs.Ytjjddamblijffab

/- The exact laws' helpers on lists of lists and lists of bools: comparison, marks. -/
import Derived.Deep.Matrix
import Derived.Test.YtggdnpaiaijhgaaMats
import Derived.Test.YtggdnpaiaijhgaaLaw
namespace Go.Proofs.Ytggdnpaiaijhgaa
open Go.RowKit
set_option linter.unusedVariables false
set_option linter.unusedSimpArgs false
set_option maxRecDepth 100000 in
set_option maxHeartbeats 800000 in
theorem eqIntSS_same (pp : List (List Int)) (A A' : Option Addr) (c c' : Nat) (w : World) (B : Nat) (hg : RdG w B A pp) (hg' : RdG w B A' pp) (hn : sizes pp ≤ 1048576) :
    Calls Try.prog 22 #[.slice A pp.length c, .slice A' pp.length c'] w fun e w' => e = .returned (.bool true) ∧ ∃ n, w' = w.drewN n := by
  have hpl : pp.length ≤ 1048576 := by unfold sizes at hn; omega
  have HROW : Hid (∀ (k : Nat) (r : List Int), pp[k]? = some r → r.length ≤ 1048576) := Lib.hid fun k r h => by have := sizes_row h; omega
  go_enter Try.func22, Try.ntmps22
  go_wp2
  go_loopw [5] (fun i wr => ∃ k : Nat, k ≤ pp.length ∧ i = .int .i64 k ∧ ∃ n, wr = w.drewN n) (fun i _ => pp.length - (intOf i).toNat)
  case atStart => exact ⟨0, Nat.zero_le _, rfl, 0, rfl⟩
  case round =>
    obtain ⟨k, hk, rfl, n, hwr⟩ := hrel
    have hgr : RdG wr B A pp := by rw [hwr]; exact hg.drewN n
    have hgr' : RdG wr B A' pp := by rw [hwr]; exact hg'.drewN n
    have HW := Lib.hid hwr
    clear hwr
    by_cases hlt : k < pp.length
    · obtain ⟨b, off, row, A1, c1, rfl, hb, hrow, hc, _, _, hr⟩ := hgr.row_ hlt
      obtain ⟨b', off', row', A2, c2, rfl, hb', hrow', hc', _, _, hr'⟩ := hgr'.row_ hlt
      obtain rfl : row = row' := by have h1 := hrow.out; have h2 := hrow'.out; rw [h1] at h2; injection h2
      have hrl := HROW.out k row hrow.out
      go_wp2
      refine wp_region_quiet_lit (by kernel_rfl) (by kernel_rfl) ?_
      repeat (go_big_quiet_step (fail))
      go_big_quiet_step ((go_at_call 42; exact quiet_draw (eqIntS_same row _ _ _ _ _ B (hr.drewN _) (hr'.drewN _) hrl)))
      repeat (go_big_quiet_step (fail))
      refine wpQuiet_nil ?_
      intro _ hw'
      obtain ⟨nq, hw''⟩ := hw'
      subst hw''
      go_wp2
      go_roundw
      case rel => exact ⟨k + 1, by omega, by go_num, _, by rw [HW.out, drewN_add]⟩
      case measure => simp [intOf]; omega
    · go_wp2
      go_ret
      exact ⟨rfl, _, HW.out⟩
def bmarks (k : Int) (n : Nat) : List Bool := (List.range n).map (fun i : Nat => decide ((k + (i : Int)) % 3 = 0))
theorem bmarks_len (k : Int) (n : Nat) : (bmarks k n).length = n := rg_len _ n
theorem bmarks_at {k : Int} {n i : Nat} (h : i < n) : isd (bmarks k n) i = decide ((k + (i : Int)) % 3 = 0) := by
  refine isd_of ?_
  unfold bmarks
  rw [List.getElem?_map, List.getElem?_range h]
  rfl
def bmarked (k : Int) (bs : List Bool) (j : Nat) : List Bool := (bmarks k bs.length).take j ++ bs.drop j
theorem bmarked_len (k : Int) (bs : List Bool) {j : Nat} (h : j ≤ bs.length) : (bmarked k bs j).length = bs.length := by
  unfold bmarked
  rw [List.length_append, List.length_take, List.length_drop, bmarks_len]
  omega
theorem bmarked_step {k : Int} {bs : List Bool} {j : Nat} (h : j < bs.length) : (bmarked k bs j).set j (decide ((k + (j : Int)) % 3 = 0)) = bmarked k bs (j + 1) := by
  unfold bmarked
  have e1 : ((bmarks k bs.length).take j).length = j := by rw [List.length_take, bmarks_len]; omega
  rw [List.set_append, e1, if_neg (by omega), Nat.sub_self, List.drop_eq_getElem_cons h]
  have h2 : (bmarks k bs.length)[j]? = some (decide ((k + (j : Int)) % 3 = 0)) := by
    unfold bmarks
    rw [List.getElem?_map, List.getElem?_range h]
    rfl
  rw [take_snoc h2, List.append_assoc]
  rfl
/-- rows of marks, one after the other -/
def mkG (k : Int) : List (List Int) → List (List Int)
  | [] => []
  | r :: rs => marks k r.length :: mkG (k + r.length) rs
def tot (pp : List (List Int)) : Nat := (pp.map List.length).sum
theorem mkG_len (k : Int) (pp : List (List Int)) : (mkG k pp).length = pp.length := by
  induction pp generalizing k with
  | nil => rfl
  | cons r rs ih => simp [mkG, ih]
theorem mkG_at {pp : List (List Int)} : ∀ {k : Int} {j : Nat} {r : List Int}, pp[j]? = some r → (mkG k pp)[j]? = some (marks (k + (tot (pp.take j) : Nat)) r.length) := by
  induction pp with
  | nil => intro k j r h; simp at h
  | cons x xs ih =>
    intro k j r h
    cases j with
    | zero => simp at h; subst h; simp [mkG, tot]
    | succ j =>
      simp only [List.getElem?_cons_succ] at h
      simp only [mkG, List.getElem?_cons_succ, List.take_succ_cons]
      rw [ih h]
      simp only [tot, List.map_cons, List.sum_cons]
      congr 2
      omega
/-- the first j rows are marked -/
def mkJ (k : Int) (pp : List (List Int)) (j : Nat) : List (List Int) := (mkG k pp).take j ++ pp.drop j
theorem mkJ_zero (k : Int) (pp : List (List Int)) : mkJ k pp 0 = pp := rfl
theorem mkJ_all (k : Int) (pp : List (List Int)) : mkJ k pp pp.length = mkG k pp := by
  unfold mkJ
  rw [List.take_of_length_le (by rw [mkG_len]; exact Nat.le_refl _), List.drop_length, List.append_nil]
theorem mkJ_at {k : Int} {pp : List (List Int)} {j i : Nat} {r : List Int} (hr : pp[i]? = some r) : (mkJ k pp j)[i]? = if i < j then some (marks (k + (tot (pp.take i) : Nat)) r.length) else some r := by
  have hi : i < pp.length := (List.getElem?_eq_some_iff.1 hr).1
  unfold mkJ
  by_cases h : i < j
  · rw [if_pos h, List.getElem?_append_left (by rw [List.length_take, mkG_len]; omega), List.getElem?_take_of_lt h, mkG_at hr]
  · rw [if_neg h]
    have hl : ((mkG k pp).take j).length = j := by rw [List.length_take, mkG_len]; omega
    rw [List.getElem?_append_right (by omega), hl, List.getElem?_drop, show j + (i - j) = i by omega, hr]
theorem mkJ_len (k : Int) (pp : List (List Int)) (j : Nat) (h : j ≤ pp.length) : (mkJ k pp j).length = pp.length := by
  unfold mkJ
  rw [List.length_append, List.length_take, List.length_drop, mkG_len]
  omega
theorem OwnG.mark {w w' : World} {base hi : Nat} {A A' : Option Addr} {n c c' : Nat} {xs : List Value} {pp : List (List Int)} {k : Int} {j : Nat} {r : List Int} (h : OwnG w base hi A n c xs (mkJ k pp j)) (hj : j < n) (hl : pp.length = n) (hr : pp[j]? = some r)
    (hx : xs[j]? = some (.slice A' r.length c')) (ho : w'.ownsRow base 3 1 (.slice A' r.length c') r.length (ints (marks (k + (tot (pp.take j) : Nat)) r.length))) (hg : w.grownBy w' (Value.slice A' r.length c').ownBlock) : OwnG w' base hi A n c xs (mkJ k pp (j + 1)) := by
  refine ⟨own_grown h.out hg (fun q hq e => h.top j _ q hx hq e), by rw [mkJ_len _ _ _ (by omega)]; exact hl, ?_, h.sep, h.top, h.hi_, h.hio⟩
  intro i r' hr'
  have hil : i < pp.length := by
    have := (List.getElem?_eq_some_iff.1 hr').1
    rw [mkJ_len _ _ _ (by omega)] at this
    exact this
  obtain ⟨r0, hr0⟩ : ∃ r0, pp[i]? = some r0 := ⟨_, List.getElem?_eq_getElem hil⟩
  rw [mkJ_at hr0] at hr'
  by_cases e : i = j
  · subst e
    rw [if_pos (by omega)] at hr'
    rw [hr] at hr0
    injection hr0 with hr0
    subst hr0
    injection hr' with hr'
    subst hr'
    rw [marks_length]
    exact ⟨A', c', hx, ho⟩
  · have hold : (mkJ k pp j)[i]? = some r' := by
      rw [mkJ_at hr0]
      by_cases g : i < j
      · rw [if_pos g]; rw [if_pos (by omega)] at hr'; exact hr'
      · rw [if_neg g]; rw [if_neg (by omega)] at hr'; exact hr'
    obtain ⟨A2, c2, h1, h2⟩ := h.row i r' hold
    exact ⟨A2, c2, h1, own_grown h2 hg (fun q hq e2 => e (h.sep i j _ _ q h1 hx e2 hq))⟩
def MarkPost (pp : List (List Int)) (k : Int) (w : World) (base hi : Nat) (A : Option Addr) (n c : Nat) (xs : List Value) (e : Ending) (w' : World) : Prop :=
  e = .returned (.int .i64 (k + (tot pp : Nat))) ∧ OwnG w' base hi A n c xs (mkG k pp) ∧ w.heap.size ≤ w'.heap.size ∧ w'.os = w.os ∧ w'.tape = w.tape ∧ w'.output = w.output ∧ ∀ q, q < w.heap.size → (q < base ∨ hi ≤ q) → w'.heap[q]? = w.heap[q]?
set_option maxRecDepth 100000 in
set_option maxHeartbeats 1000000 in
theorem markIntSS_any (pp : List (List Int)) (n : Nat) (A : Option Addr) (c : Nat) (xs : List Value) (w : World) (base hi : Nat) (h : OwnG w base hi A n c xs pp) (k : Int) (h0 : 0 ≤ k) (h1 : k ≤ 10000000) (hn : sizes pp ≤ 1048576) :
    Calls Try.prog 23 #[.slice A n c, .int .i64 k] w (MarkPost pp k w base hi A n c xs) := by
  have hpl : n ≤ 1048576 := by have := h.len; unfold sizes at hn; omega
  have HLEN := Lib.hid h.len
  have HROW : Hid (∀ (j : Nat) (r : List Int), pp[j]? = some r → r.length ≤ 1048576 ∧ tot (pp.take j) + r.length ≤ 1048576) := Lib.hid fun j r h => by
    have := sizes_row h
    unfold tot
    omega
  go_enter Try.func23, Try.ntmps23
  go_wp2
  go_loopw [1, 5] (fun q i wr => ∃ j : Nat, j ≤ n ∧ i = .int .i64 j ∧ q = .int .i64 (k + (tot (pp.take j) : Nat)) ∧ OwnG wr base hi A n c xs (mkJ k pp j) ∧ w.heap.size ≤ wr.heap.size ∧ wr.os = w.os ∧ wr.tape = w.tape ∧ wr.output = w.output ∧ ∀ q, q < w.heap.size → (q < base ∨ hi ≤ q) → wr.heap[q]? = w.heap[q]?) (fun _ i _ => n - (intOf i).toNat)
  case atStart => exact ⟨0, Nat.zero_le _, rfl, by simp [tot], h, Nat.le_refl _, rfl, rfl, rfl, fun _ _ _ => rfl⟩
  case round =>
    obtain ⟨j, hj, rfl, rfl, hown, hsz, hos, htp, hou, hfr⟩ := hrel
    have HF := Lib.hid (And.intro hos (And.intro htp (And.intro hou hfr)))
    clear hos htp hou hfr
    by_cases hlt : j < n
    · obtain ⟨r, hr⟩ : ∃ r, pp[j]? = some r := ⟨_, List.getElem?_eq_getElem (by rw [HLEN.out]; exact hlt)⟩
      have hrr := HROW.out j r hr
      have hjr : (mkJ k pp j)[j]? = some r := by rw [mkJ_at hr, if_neg (by omega)]
      obtain ⟨A', c', hx, ho⟩ := hown.row j r hjr
      have hcell : ∃ g, A = some ⟨g, 0, none⟩ ∧ wr.cell? ⟨g, j, none⟩ = some (.slice A' r.length c') := by
        obtain ⟨g, rfl, _⟩ := own_some hown.out (by omega)
        exact ⟨g, rfl, own_cell hown.out hx⟩
      obtain ⟨g, rfl, hcell⟩ := hcell
      have HX := Lib.hid hx
      have HR := Lib.hid hr
      have HOwn := Lib.hid hown
      have HTS : Hid (tot (pp.take (j + 1)) = tot (pp.take j) + r.length) := Lib.hid (sum_take_succ hr)
      have hbase := Lib.hid (own_block ho)
      have hhi : Hid (∀ b, (Value.slice A' r.length c').ownBlock = some b → b < hi) := Lib.hid (fun b hb => hown.hi_ j _ b hx hb)
      clear hx hr hjr hown
      generalize hT : tot (pp.take j) = T at *
      have HT := Lib.hid hT
      clear hT
      go_wp2_with fail
      refine (markIntS_any r.length (ints r) A' c' wr base ho (k + (T : Int)) (by omega) (by omega) hrr.1).mono ?_
      rintro e w2 ⟨rfl, ho2, hg2⟩
      have hstep := HOwn.out.mark hlt HLEN.out HR.out HX.out (by rw [HT.out]; exact ho2) hg2
      have HSt := Lib.hid hstep
      have hs2 := hg2.size
      have HF2 : Hid (w2.os = w.os ∧ w2.tape = w.tape ∧ w2.output = w.output ∧ ∀ q, q < w.heap.size → (q < base ∨ hi ≤ q) → w2.heap[q]? = w.heap[q]?) := Lib.hid ⟨hg2.os.trans HF.out.1, hg2.tape.trans HF.out.2.1, hg2.output.trans HF.out.2.2.1, fun q hq hqq => (hg2.block q (by omega) (fun e => by
        have h1 := hbase.out q e.symm
        have h2 := hhi.out q e.symm
        omega)).trans (HF.out.2.2.2 q hq hqq)⟩
      clear hstep ho2 hg2 ho hbase hhi
      go_wp2
      go_roundw
      case rel =>
        refine ⟨j + 1, by omega, by go_num, ?_, HSt.out, by omega, HF2.out.1, HF2.out.2.1, HF2.out.2.2.1, HF2.out.2.2.2⟩
        rw [HTS.out]
        first | rfl | (congr 1; omega) | go_num
      case measure => simp [intOf]; omega
    · obtain rfl : j = n := by omega
      have HTA : Hid (pp.take j = pp) := Lib.hid (List.take_of_length_le (by rw [HLEN.out]; exact Nat.le_refl _))
      have hR : OwnG wr base hi A j c xs (mkG k pp) := by rw [← mkJ_all, HLEN.out]; exact hown
      have HR := Lib.hid hR
      clear hR hown
      go_wp2
      go_ret
      exact ⟨ret_int (by rw [HTA.out]), HR.out, hsz, HF.out.1, HF.out.2.1, HF.out.2.2.1, HF.out.2.2.2⟩
set_option maxRecDepth 100000 in
set_option maxHeartbeats 1000000 in
theorem heldIntSS_any (pp : List (List Int)) (n : Nat) (hl : pp.length = n) (A : Option Addr) (c : Nat) (w : World) (B : Nat) (k : Int) (hg : RdG w B A (mkG k pp)) (h0 : 0 ≤ k) (h1 : k ≤ 10000000) (hn : sizes pp ≤ 1048576) :
    Calls Try.prog 66 #[.slice A n c, .int .i64 k] w fun e w' => e = .returned (.int .i64 (k + (tot pp : Nat))) ∧ w = w' := by
  have hpl : n ≤ 1048576 := by unfold sizes at hn; omega
  have HLEN := Lib.hid hl
  have HROW : Hid (∀ (j : Nat) (r : List Int), pp[j]? = some r → r.length ≤ 1048576 ∧ tot (pp.take j) + r.length ≤ 1048576) := Lib.hid fun j r h => by
    have := sizes_row h
    unfold tot
    omega
  clear hl
  go_enter Try.func66, Try.ntmps66
  go_wp2
  go_loop [1, 5] (fun q i => ∃ j : Nat, j ≤ n ∧ i = .int .i64 j ∧ q = .int .i64 (k + (tot (pp.take j) : Nat))) (fun _ i => n - (intOf i).toNat)
  case atStart => exact ⟨0, Nat.zero_le _, rfl, by simp [tot]⟩
  case round =>
    obtain ⟨j, hj, rfl, rfl⟩ := hrel
    by_cases hlt : j < n
    · obtain ⟨r, hr⟩ : ∃ r, pp[j]? = some r := ⟨_, List.getElem?_eq_getElem (by rw [HLEN.out]; exact hlt)⟩
      have hrr := HROW.out j r hr
      obtain ⟨b, off, row, A', c', rfl, hb, hrow, hc, _, _, hrd⟩ := hg.row_ (k := j) (by rw [mkG_len, HLEN.out]; exact hlt)
      have hre : row = marks (k + (tot (pp.take j) : Nat)) r.length := by
        have := hrow.out
        rw [mkG_at hr] at this
        injection this with this
        exact this.symm
      subst hre
      rw [marks_length] at hc
      have HTS : Hid (tot (pp.take (j + 1)) = tot (pp.take j) + r.length) := Lib.hid (sum_take_succ hr)
      clear hr hrow
      generalize hT : tot (pp.take j) = T at *
      clear hT
      have hge : ¬ k + (T : Int) + (r.length : Int) < 0 := by omega
      go_wp2_with fail
      refine (heldIntS_any r.length A' c' w B (k + (T : Int)) hrd (by omega) (by omega) hrr.1).mono ?_
      rintro e w' ⟨rfl, rfl⟩
      go_wp2
      go_round
      case rel => exact ⟨j + 1, by omega, by go_num, by rw [HTS.out]; first | rfl | (congr 1; omega) | go_num⟩
      case measure => simp [intOf]; omega
    · obtain rfl : j = n := by omega
      have HTA : Hid (pp.take j = pp) := Lib.hid (List.take_of_length_le (by rw [HLEN.out]; exact Nat.le_refl _))
      go_wp2
      go_ret
      exact ⟨ret_int (by rw [HTA.out]), rfl⟩

end Go.Proofs.Ytggdnpaiaijhgaa

/- Contracts of chapter 2: the cells that bear a load. -/
import Derived.Test.YtggdnpaiaijhgaaBeside
import Derived.Test.YtggdnpaiaijhgaaValidS
namespace Go.Proofs.Ytggdnpaiaijhgaa
open Go.RowKit
set_option linter.unusedVariables false
set_option linter.unusedSimpArgs false
theorem rg_len {α : Type} (f : Nat → α) (n : Nat) : ((List.range n).map f).length = n := by simp
def upTo (f : Nat → Bool) (n k : Nat) : List Bool := (List.range n).map (fun i => decide (i < k) && f i)
theorem upTo_len (f : Nat → Bool) (n k : Nat) : (upTo f n k).length = n := rg_len _ n
theorem upTo_zero (f : Nat → Bool) (n : Nat) : upTo f n 0 = List.replicate n false := by
  apply List.ext_getElem <;> simp [upTo]
theorem upTo_all (f : Nat → Bool) (n : Nat) : upTo f n n = (List.range n).map f := by
  apply List.ext_getElem
  · simp [upTo]
  · intro i h1 h2
    have : i < n := by simpa [upTo] using h1
    simp [upTo, this]
theorem upTo_set {f : Nat → Bool} {n k : Nat} (hk : k < n) : (upTo f n k).set k (f k) = upTo f n (k + 1) := by
  apply List.ext_getElem
  · simp [upTo]
  · intro i h1 h2
    have hi : i < n := by simpa [upTo] using h2
    rw [List.getElem_set]
    simp only [upTo, List.getElem_map, List.getElem_range]
    by_cases e : k = i
    · subst e; simp
    · rw [if_neg e]
      congr 1
      exact decide_eq_decide.2 (by omega)
def safeT (pp : List (List Int)) (load : Int) : List Bool := if pondB pp then safeF pp load else []
theorem safeT_ok {pp : List (List Int)} {load : Int} (h : pondB pp = true) : safeT pp load = safeF pp load := by unfold safeT; rw [h]; rfl
theorem safeT_no {pp : List (List Int)} {load : Int} (h : pondB pp = false) : safeT pp load = [] := by unfold safeT; rw [h]; rfl
theorem okF_in {pp : List (List Int)} {load : Int} {k : Nat} (hk : k < cnt pp) : okF pp load k = decide (load ≤ thk pp k * thk pp k) := by unfold okF; rw [decide_eq_true hk]; rfl
theorem iLo_in (n : Int) (h0 : 0 ≤ n) (h1 : n ≤ 999) (w : World) :
    Calls Try.prog 134 #[.int .i64 n] w fun e w' => e = .returned (.int .i64 (n * n)) ∧ w = w' := by
  have := iLoadOf_any n w
  rw [loadF_ok ⟨h0, h1⟩] at this
  exact this
theorem iVal_is {q : Bool} (pp : List (List Int)) (A : Option Addr) (c : Nat) (w : World) (B : Nat) (hg : RdG w B A pp) (h : pondB pp = q) :
    Calls Try.prog 56 #[.slice A pp.length c] w fun e w' => e = .returned (.bool q) ∧ w = w' := by
  have := iValid_any pp A c w B hg
  rw [h] at this
  exact this
theorem sVal_is {q : Bool} (pp : List (List Int)) (A : Option Addr) (c : Nat) (w : World) (B : Nat) (hg : RdG w B A pp) (hn : pp.length ≤ 1048576) (h : pondB pp = q) :
    Calls Try.prog 60 #[.slice A pp.length c] w fun e w' => e = .returned (.bool q) ∧ ∃ n, w' = w.drewN n := by
  have := sValid_any pp A c w B hg hn
  rw [h] at this
  exact this
set_option maxRecDepth 100000 in
set_option maxHeartbeats 1000000 in
theorem iSafe_any (pp : List (List Int)) (A : Option Addr) (c : Nat) (w : World) (hg : RdG w w.heap.size A pp) (load : Int) :
    Calls Try.prog 106 #[.slice A pp.length c, .int .i64 load] w (OutB (safeT pp load) w) := by
  cases hv : pondB pp
  · rw [safeT_no hv]
    have Hv := Lib.hid hv
    clear hv
    go_enter Try.func106, Try.ntmps106
    go_wp2_with (go_at_call 56; refine (iVal_is _ _ _ _ _ hg Hv.out).mono ?_; rintro e w' ⟨rfl, rfl⟩)
    go_ret
    exact outB_nil w
  · rw [safeT_ok hv]
    have hp : Pnd w w.heap.size A pp := ⟨hv, hg⟩
    have hc := pond_cnt hv
    have Hok : Hid (∀ k, k < cnt pp → okF pp load k = decide (load ≤ thk pp k * thk pp k)) := Lib.hid fun k hk => okF_in hk
    have Htb : Hid (∀ k, k < cnt pp → 0 ≤ thk pp k ∧ thk pp k ≤ 999) := Lib.hid fun k hk => thk_bd hv hk
    have Hv := Lib.hid hv
    clear hv
    have hmk := run_make_row' (P := Try.prog) 95 4 (.bool false) 1 Try.underlying95 info_bool rfl .i64 .i64 (cnt pp) (by omega) (by omega)
    go_enter Try.func106, Try.ntmps106
    go_wp2_with (first | (go_at_call 56; refine (iVal_is _ _ _ _ _ hg Hv.out).mono ?_; rintro e w' ⟨rfl, rfl⟩) | (go_at_call 124; refine (iCnt_any _ _ _ _ _ hp).mono ?_; rintro e w' ⟨rfl, rfl⟩))
    go_loopw [15] (fun i wr => ∃ k : Nat, k ≤ cnt pp ∧ i = .int .i64 k ∧ wr.ownsRow w.heap.size 4 1 (.slice (some ⟨w.heap.size, 0, none⟩) (cnt pp) (cnt pp)) (cnt pp) (bools (upTo (okF pp load) (cnt pp) k)) ∧ Below w.heap.size w wr) (fun i _ => cnt pp - (intOf i).toNat)
    case atStart =>
      refine ⟨0, Nat.zero_le _, rfl, ?_, (Below.refl _ _).alloc (Nat.le_refl _) _⟩
      rw [upTo_zero]
      have := own_made w (.bool false) (cnt pp) 4 (by unfold maxLen; omega)
      simpa [bools] using this
    case round =>
      obtain ⟨k, hk, rfl, hown, hbel⟩ := hrel
      by_cases hlt : k < cnt pp
      · have hpr := hp.up hbel
        have htb := Htb.out k hlt
        have hfz := own_frozen hown k
        have hcl := own_cell hown (bools_at (bs := upTo (okF pp load) (cnt pp) k) (k := k) (by rw [upTo_len]; exact hlt))
        go_wp2_with (first | (go_at_call 76; refine (iThk_any _ _ _ _ _ hpr _ hlt).mono ?_; rintro e w' ⟨rfl, n, rfl⟩) | (go_at_call 134; refine (iLo_in _ (by omega) (by omega) _).mono ?_; rintro e w' ⟨rfl, rfl⟩))
        go_roundw
        case rel =>
          refine ⟨k + 1, by omega, by go_num, ?_, (below_drewN hbel _).setCell (by simp) _⟩
          rw [← upTo_set hlt, Hok.out k hlt, ← bools_set]
          exact own_put (own_drewN hown _) k _
        case measure => simp [intOf]; omega
      · obtain rfl : k = cnt pp := by omega
        have R := outB_mk (l := safeF pp load) (safeF_len pp load) (by rw [safeF, ← upTo_all]; exact hown) hbel
        clear hown hbel
        go_wp2
        go_ret
        exact R
end Go.Proofs.Ytggdnpaiaijhgaa

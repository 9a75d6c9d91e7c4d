/- Contracts of chapter 2: the cells beside a cell. -/
import Derived.Deep.DeepCutAuto
import Derived.Test.YtggdnpaiaijhgaaValid
namespace Go.Proofs.Ytggdnpaiaijhgaa
open Go.RowKit
set_option linter.unusedVariables false
set_option linter.unusedSimpArgs false
/-- a list of integers that a call made -/
def OutI (l : List Int) (w : World) (e : Ending) (w' : World) : Prop :=
  ∃ A' c', e = .returned (.slice A' l.length c') ∧ w'.ownsRow w.heap.size 3 1 (.slice A' l.length c') l.length (ints l) ∧ Below w.heap.size w w'
def OutB (l : List Bool) (w : World) (e : Ending) (w' : World) : Prop :=
  ∃ A' c', e = .returned (.slice A' l.length c') ∧ w'.ownsRow w.heap.size 4 1 (.slice A' l.length c') l.length (bools l) ∧ Below w.heap.size w w'
theorem out_mk {w w' : World} {n : Nat} {v : Value} {l : List Int} (hl : l.length = n) (h : w'.ownsRow w.heap.size 3 1 v n (ints l)) (hb : Below w.heap.size w w') : OutI l w (.returned v) w' := by
  subst hl
  obtain ⟨A', c', rfl⟩ := own_form h
  exact ⟨A', c', rfl, h, hb⟩
theorem outB_mk {w w' : World} {n : Nat} {v : Value} {l : List Bool} (hl : l.length = n) (h : w'.ownsRow w.heap.size 4 1 v n (bools l)) (hb : Below w.heap.size w w') : OutB l w (.returned v) w' := by
  subst hl
  obtain ⟨A', c', rfl⟩ := own_form h
  exact ⟨A', c', rfl, h, hb⟩
theorem out_nil (w : World) : OutI [] w (.returned (.slice none 0 0)) w := ⟨_, _, rfl, ⟨rfl, .inl ⟨rfl, rfl⟩⟩, Below.refl _ _⟩
theorem outB_nil (w : World) : OutB [] w (.returned (.slice none 0 0)) w := ⟨_, _, rfl, ⟨rfl, .inl ⟨rfl, rfl⟩⟩, Below.refl _ _⟩
/-- a list of cells in the making -/
def Mk (w wx : World) (s : Value) (l : List Nat) : Prop := ∃ n, n = l.length ∧ n ≤ 100 ∧ wx.ownsRow w.heap.size 3 1 s n (ints (nats l)) ∧ Below w.heap.size w wx
theorem mk_snoc {w w1 : World} {n : Nat} {s : Value} {l : List Nat} {k : Nat} {z : Int} (hn : n = l.length) (h4 : n ≤ 99) (hz : z = k) (h : w1.ownsRow w.heap.size 3 1 s (n + 1) (ints (nats l) ++ [.int .i64 z])) (hb : Below w.heap.size w w1) : Mk w w1 s (l ++ [k]) :=
  ⟨n + 1, by simp [hn], by omega, by subst hz; simpa [ints, nats] using h, hb⟩
def nb1 (W k : Nat) : List Nat := if W ≤ k then [k - W] else []
def nb2 (W k : Nat) : List Nat := nb1 W k ++ if 0 < k % W then [k - 1] else []
def nb3 (W k : Nat) : List Nat := nb2 W k ++ if k % W + 1 < W then [k + 1] else []
theorem nb1_len (W k : Nat) : (nb1 W k).length ≤ 1 := by unfold nb1; split <;> simp
theorem nb2_len (W k : Nat) : (nb2 W k).length ≤ 2 := by unfold nb2; have := nb1_len W k; rw [List.length_append]; split <;> simp <;> omega
theorem nb3_len (W k : Nat) : (nb3 W k).length ≤ 3 := by unfold nb3; have := nb2_len W k; rw [List.length_append]; split <;> simp <;> omega
theorem nb4_len (W n k : Nat) : (nbs W n k).length ≤ 4 := by
  show (nb3 W k ++ _).length ≤ 4
  have := nb3_len W k; rw [List.length_append]; split <;> simp <;> omega
set_option maxRecDepth 100000 in
set_option maxHeartbeats 2000000 in
theorem iBeside_any (pp : List (List Int)) (A : Option Addr) (c : Nat) (w : World) (hp : Pnd w w.heap.size A pp) (k : Nat) (hk : k < cnt pp) :
    Calls Try.prog 144 #[.slice A pp.length c, .int .i64 k] w (OutI (nats (nbP pp k)) w) := by
  obtain ⟨b, off, A0, c0, hA, hb, h0⟩ := hp.row0
  have hl := pond_len hp.1
  have hw := pond_wide hp.1
  have hc := pond_cnt hp.1
  obtain ⟨i0, hi, hz0, hz1, hz2⟩ := info_parts info_int
  have l1 := nb1_len (wide pp) k
  have l2 := nb2_len (wide pp) k
  have l3 := nb3_len (wide pp) k
  have hx := Nat.mod_lt k (show 0 < wide pp by omega)
  have Hn : Hid (nbP pp k = nbs (wide pp) (cnt pp) k) := Lib.hid rfl
  have hCnt := fun (w' : World) (hb : Below w.heap.size w w') => iCnt_any pp A c w' _ (hp.up hb)
  have HCnt := Lib.hid hCnt
  clear hCnt
  have J5 : Hid (((k % wide pp : Nat) : Int) = (k : Int) % (wide pp : Int)) := Lib.hid rfl
  generalize cnt pp = N at *
  generalize wide pp = W at *
  clear hp
  subst hA
  have i1 : ((W : Int) == 0) = false := beq_eq_false_iff_ne.2 (by omega)
  have i2 : ¬ W = 0 := by omega
  have j3 : 0 ≤ (k : Int) % (W : Int) := Int.emod_nonneg _ (by omega)
  have j4 : (k : Int) % (W : Int) < W := Int.emod_lt_of_pos _ (by omega)
  go_enter Try.func144, Try.ntmps144
  go_upto_region 2 with (fail)
  go_cut [6] from 11 to 11 (fun s wx => Mk w wx s [])
  case first =>
    have hown := own_empty w 3
    go_wp2_with fail
    go_meet
    case rel => exact ⟨0, rfl, by omega, hown, (Below.refl _ _).alloc (Nat.le_refl _) _⟩
  case rest =>
    obtain ⟨n, hn, hn4, hown, hbel⟩ := hcut
    have hn5 : n ≤ 10 := by simp at hn; omega
    have HM := Lib.hid hn
    clear hn
    go_upto_if 14 with (fail)
    go_cut [6] from 14 to 20 (fun s wx => Mk w wx s (nb1 W k))
    case first =>
      by_cases h1 : W ≤ k
      · have h2 : (W : Int) ≤ (k : Int) := by omega
        have He : Hid (nb1 W k = [] ++ [k - W]) := Lib.hid (by unfold nb1; rw [if_pos h1]; rfl)
        go_wp2_with (at_builtin; refine wpList_append_own _ rfl _ _ 37 rfl (w.heap.size) 3 i0 (.int .i64 0) 1 8 Try.underlying37 hi hz0 hz1 hz2 rfl (by decide) _ _ _ rfl (hown.alloc _) ⟨wc.heap.size, 0, none⟩ 1 1 [.int .i64 ((k : Int) - (W : Int))] rfl rfl ?c1 ?c2 ?c3 ?c4 ?c5 ?_)
        first | (case c1 => first | exact one_new _ _ _ _ rfl | exact one_new _ _ _ _ (by simp)) | skip
        case c2 => first | rfl | (intro u hu; simp at hu; subst hu; rfl)
        case c3 => unfold maxLen; omega
        case c4 => omega
        case c5 => have := hbel.size; simp; omega
        · intro v' w1 hown' hgrow _
          have hb1 : Below w.heap.size w w1 := (hbel.alloc hbel.size _).grown hgrow (by have := hbel.size; simp; omega) (own_block hown)
          have R : Mk w w1 v' (nb1 W k) := by rw [He.out]; exact mk_snoc HM.out (by omega) (by omega) hown' hb1
          clear hown' hgrow hown hbel hb1
          go_wp2_with fail
          go_meet
          case rel => exact R
      · have h2 : (k : Int) < (W : Int) := by omega
        have He : Hid (nb1 W k = []) := Lib.hid (by unfold nb1; rw [if_neg h1])
        have R := fun (s : Value) (ho : wc.ownsRow w.heap.size 3 1 s n (ints (nats ([])))) => show Mk w wc s (nb1 W k) from by rw [He.out]; exact ⟨n, HM.out, hn4, ho, hbel⟩
        have HR := Lib.hid R
        clear R
        go_wp2_with fail
        go_meet
        case rel => exact HR.out _ hown
    case rest =>
      clear hown hbel HM hn4 hn5
      clear n
      obtain ⟨n, hn, hn4, hown, hbel⟩ := hcut
      have hn5 : n ≤ 10 := by omega
      have HM := Lib.hid hn
      clear hn
      go_upto_if 24 with (fail)
      go_cut [6] from 24 to 29 (fun s wx => Mk w wx s (nb2 W k))
      case first =>
        by_cases h1 : 0 < k % W
        · have hk1 : 1 ≤ k := by
            rcases Nat.eq_zero_or_pos k with e | e
            · subst e; simp at h1
            · exact e
          have h2 : (0 : Int) < (k : Int) % (W : Int) := by rw [← J5.out]; omega
          have He : Hid (nb2 W k = nb1 W k ++ [k - 1]) := Lib.hid (by unfold nb2; rw [if_pos h1])
          go_wp2_with (at_builtin; refine wpList_append_own _ rfl _ _ 37 rfl (w.heap.size) 3 i0 (.int .i64 0) 1 8 Try.underlying37 hi hz0 hz1 hz2 rfl (by decide) _ _ _ rfl (hown.alloc _) ⟨wc.heap.size, 0, none⟩ 1 1 [.int .i64 ((k : Int) - 1)] rfl rfl ?c1x2 ?c2x2 ?c3x2 ?c4x2 ?c5x2 ?_)
          first | (case c1x2 => first | exact one_new _ _ _ _ rfl | exact one_new _ _ _ _ (by simp)) | skip
          case c2x2 => first | rfl | (intro u hu; simp at hu; subst hu; rfl)
          case c3x2 => unfold maxLen; omega
          case c4x2 => omega
          case c5x2 => have := hbel.size; simp; omega
          · intro v' w1 hown' hgrow _
            have hb1 : Below w.heap.size w w1 := (hbel.alloc hbel.size _).grown hgrow (by have := hbel.size; simp; omega) (own_block hown)
            have R : Mk w w1 v' (nb2 W k) := by rw [He.out]; exact mk_snoc HM.out (by omega) (by omega) hown' hb1
            clear hown' hgrow hown hbel hb1
            go_wp2_with fail
            go_meet
            case rel => exact R
        · have h2 : ¬ (0 : Int) < (k : Int) % (W : Int) := by rw [← J5.out]; omega
          have He : Hid (nb2 W k = nb1 W k) := Lib.hid (by unfold nb2; rw [if_neg h1]; exact List.append_nil _)
          have R := fun (s : Value) (ho : wc.ownsRow w.heap.size 3 1 s n (ints (nats (nb1 W k)))) => show Mk w wc s (nb2 W k) from by rw [He.out]; exact ⟨n, HM.out, hn4, ho, hbel⟩
          have HR := Lib.hid R
          clear R
          go_wp2_with fail
          go_meet
          case rel => exact HR.out _ hown
      case rest =>
        clear hown hbel HM hn4 hn5
        clear n
        obtain ⟨n, hn, hn4, hown, hbel⟩ := hcut
        have hn5 : n ≤ 10 := by omega
        have HM := Lib.hid hn
        clear hn
        go_upto_if 35 with (fail)
        go_cut [6] from 35 to 40 (fun s wx => Mk w wx s (nb3 W k))
        case first =>
          by_cases h1 : k % W + 1 < W
          · have h2 : (k : Int) % (W : Int) < (W : Int) - 1 := by rw [← J5.out]; omega
            have He : Hid (nb3 W k = nb2 W k ++ [k + 1]) := Lib.hid (by unfold nb3; rw [if_pos h1])
            go_wp2_with (at_builtin; refine wpList_append_own _ rfl _ _ 37 rfl (w.heap.size) 3 i0 (.int .i64 0) 1 8 Try.underlying37 hi hz0 hz1 hz2 rfl (by decide) _ _ _ rfl (hown.alloc _) ⟨wc.heap.size, 0, none⟩ 1 1 [.int .i64 ((k : Int) + 1)] rfl rfl ?c1x3 ?c2x3 ?c3x3 ?c4x3 ?c5x3 ?_)
            first | (case c1x3 => first | exact one_new _ _ _ _ rfl | exact one_new _ _ _ _ (by simp)) | skip
            case c2x3 => first | rfl | (intro u hu; simp at hu; subst hu; rfl)
            case c3x3 => unfold maxLen; omega
            case c4x3 => omega
            case c5x3 => have := hbel.size; simp; omega
            · intro v' w1 hown' hgrow _
              have hb1 : Below w.heap.size w w1 := (hbel.alloc hbel.size _).grown hgrow (by have := hbel.size; simp; omega) (own_block hown)
              have R : Mk w w1 v' (nb3 W k) := by rw [He.out]; exact mk_snoc HM.out (by omega) (by omega) hown' hb1
              clear hown' hgrow hown hbel hb1
              go_wp2_with fail
              go_meet
              case rel => exact R
          · have h2 : ¬ (k : Int) % (W : Int) < (W : Int) - 1 := by rw [← J5.out]; omega
            have He : Hid (nb3 W k = nb2 W k) := Lib.hid (by unfold nb3; rw [if_neg h1]; exact List.append_nil _)
            have R := fun (s : Value) (ho : wc.ownsRow w.heap.size 3 1 s n (ints (nats (nb2 W k)))) => show Mk w wc s (nb3 W k) from by rw [He.out]; exact ⟨n, HM.out, hn4, ho, hbel⟩
            have HR := Lib.hid R
            clear R
            go_wp2_with fail
            go_meet
            case rel => exact HR.out _ hown
        case rest =>
          clear hown hbel HM hn4 hn5
          clear n
          obtain ⟨n, hn, hn4, hown, hbel⟩ := hcut
          have hn5 : n ≤ 10 := by omega
          have HM := Lib.hid hn
          clear hn
          go_upto_if 46 with (go_at_call 124; refine (HCnt.out _ hbel).mono ?_; rintro e w' ⟨rfl, rfl⟩)
          go_cut [6] from 46 to 52 (fun s wx => Mk w wx s (nbs W N k))
          case first =>
            by_cases h1 : k + W < N
            · have h2 : (k : Int) + (W : Int) < (N : Int) := by omega
              have He : Hid (nbs W N k = nb3 W k ++ [k + W]) := Lib.hid (by show nb3 W k ++ _ = _; rw [if_pos h1])
              go_wp2_with (at_builtin; refine wpList_append_own _ rfl _ _ 37 rfl (w.heap.size) 3 i0 (.int .i64 0) 1 8 Try.underlying37 hi hz0 hz1 hz2 rfl (by decide) _ _ _ rfl (hown.alloc _) ⟨wc.heap.size, 0, none⟩ 1 1 [.int .i64 ((k : Int) + (W : Int))] rfl rfl ?c1x4 ?c2x4 ?c3x4 ?c4x4 ?c5x4 ?_)
              first | (case c1x4 => first | exact one_new _ _ _ _ rfl | exact one_new _ _ _ _ (by simp)) | skip
              case c2x4 => first | rfl | (intro u hu; simp at hu; subst hu; rfl)
              case c3x4 => unfold maxLen; omega
              case c4x4 => omega
              case c5x4 => have := hbel.size; simp; omega
              · intro v' w1 hown' hgrow _
                have hb1 : Below w.heap.size w w1 := (hbel.alloc hbel.size _).grown hgrow (by have := hbel.size; simp; omega) (own_block hown)
                have R : Mk w w1 v' (nbs W N k) := by rw [He.out]; exact mk_snoc HM.out (by omega) (by omega) hown' hb1
                clear hown' hgrow hown hbel hb1
                go_wp2_with fail
                go_meet
                case rel => exact R
            · have h2 : ¬ (k : Int) + (W : Int) < (N : Int) := by omega
              have He : Hid (nbs W N k = nb3 W k) := Lib.hid (by show nb3 W k ++ _ = _; rw [if_neg h1]; exact List.append_nil _)
              have R := fun (s : Value) (ho : wc.ownsRow w.heap.size 3 1 s n (ints (nats (nb3 W k)))) => show Mk w wc s (nbs W N k) from by rw [He.out]; exact ⟨n, HM.out, hn4, ho, hbel⟩
              have HR := Lib.hid R
              clear R
              go_wp2
              go_meet
              case rel => exact HR.out _ hown
          case rest =>
            clear hown hbel HM hn4 hn5
            clear n
            obtain ⟨n, hn, hn4, hown, hbel⟩ := hcut
            have HM := Lib.hid hn
            clear hn
            have R := out_mk (l := nats (nbP pp k)) (n := n) (by rw [nats_length, Hn.out]; exact HM.out.symm) (by rw [Hn.out]; exact hown) hbel
            clear hown hbel
            go_wp2_with fail
            go_ret
            exact R
set_option maxRecDepth 100000 in
set_option maxHeartbeats 2000000 in
theorem sBeside_any (pp : List (List Int)) (A : Option Addr) (c : Nat) (w : World) (hp : Pnd w w.heap.size A pp) (k : Nat) (hk : k < cnt pp) :
    Calls Try.prog 131 #[.slice A pp.length c, .int .i64 k] w (OutI (nats (nbP pp k)) w) := by
  obtain ⟨b, off, A0, c0, hA, hb, h0⟩ := hp.row0
  have hl := pond_len hp.1
  have hw := pond_wide hp.1
  have hc := pond_cnt hp.1
  obtain ⟨i0, hi, hz0, hz1, hz2⟩ := info_parts info_int
  have l1 := nb1_len (wide pp) k
  have l2 := nb2_len (wide pp) k
  have l3 := nb3_len (wide pp) k
  have hx := Nat.mod_lt k (show 0 < wide pp by omega)
  have Hn : Hid (nbP pp k = nbs (wide pp) (cnt pp) k) := Lib.hid rfl
  have hCnt := fun (w' : World) (hb : Below w.heap.size w w') => sCnt_any pp A c w' _ (hp.up hb)
  have HCnt := Lib.hid hCnt
  clear hCnt
  have J5 : Hid (((k % wide pp : Nat) : Int) = (k : Int) % (wide pp : Int)) := Lib.hid rfl
  generalize cnt pp = N at *
  generalize wide pp = W at *
  clear hp
  subst hA
  have i1 : ((W : Int) == 0) = false := beq_eq_false_iff_ne.2 (by omega)
  have i2 : ¬ W = 0 := by omega
  have j3 : 0 ≤ (k : Int) % (W : Int) := Int.emod_nonneg _ (by omega)
  have j4 : (k : Int) % (W : Int) < W := Int.emod_lt_of_pos _ (by omega)
  go_enter Try.func131, Try.ntmps131
  go_upto_region 2 with (fail)
  go_cut [6] from 11 to 11 (fun s wx => Mk w wx s [])
  case first =>
    have hown := own_empty w 3
    go_wp2_with fail
    go_meet
    case rel => exact ⟨0, rfl, by omega, hown, (Below.refl _ _).alloc (Nat.le_refl _) _⟩
  case rest =>
    obtain ⟨n, hn, hn4, hown, hbel⟩ := hcut
    have hn5 : n ≤ 10 := by simp at hn; omega
    have HM := Lib.hid hn
    clear hn
    go_upto_if 14 with (fail)
    go_cut [6] from 14 to 20 (fun s wx => Mk w wx s (nb1 W k))
    case first =>
      by_cases h1 : W ≤ k
      · have h2 : (W : Int) ≤ (k : Int) := by omega
        have He : Hid (nb1 W k = [] ++ [k - W]) := Lib.hid (by unfold nb1; rw [if_pos h1]; rfl)
        go_wp2_with (at_builtin; refine wpList_append_own _ rfl _ _ 37 rfl (w.heap.size) 3 i0 (.int .i64 0) 1 8 Try.underlying37 hi hz0 hz1 hz2 rfl (by decide) _ _ _ rfl (hown.alloc _) ⟨wc.heap.size, 0, none⟩ 1 1 [.int .i64 ((k : Int) - (W : Int))] rfl rfl ?c1 ?c2 ?c3 ?c4 ?c5 ?_)
        first | (case c1 => first | exact one_new _ _ _ _ rfl | exact one_new _ _ _ _ (by simp)) | skip
        case c2 => first | rfl | (intro u hu; simp at hu; subst hu; rfl)
        case c3 => unfold maxLen; omega
        case c4 => omega
        case c5 => have := hbel.size; simp; omega
        · intro v' w1 hown' hgrow _
          have hb1 : Below w.heap.size w w1 := (hbel.alloc hbel.size _).grown hgrow (by have := hbel.size; simp; omega) (own_block hown)
          have R : Mk w w1 v' (nb1 W k) := by rw [He.out]; exact mk_snoc HM.out (by omega) (by omega) hown' hb1
          clear hown' hgrow hown hbel hb1
          go_wp2_with fail
          go_meet
          case rel => exact R
      · have h2 : (k : Int) < (W : Int) := by omega
        have He : Hid (nb1 W k = []) := Lib.hid (by unfold nb1; rw [if_neg h1])
        have R := fun (s : Value) (ho : wc.ownsRow w.heap.size 3 1 s n (ints (nats ([])))) => show Mk w wc s (nb1 W k) from by rw [He.out]; exact ⟨n, HM.out, hn4, ho, hbel⟩
        have HR := Lib.hid R
        clear R
        go_wp2_with fail
        go_meet
        case rel => exact HR.out _ hown
    case rest =>
      clear hown hbel HM hn4 hn5
      clear n
      obtain ⟨n, hn, hn4, hown, hbel⟩ := hcut
      have hn5 : n ≤ 10 := by omega
      have HM := Lib.hid hn
      clear hn
      go_upto_if 24 with (fail)
      go_cut [6] from 24 to 29 (fun s wx => Mk w wx s (nb2 W k))
      case first =>
        by_cases h1 : 0 < k % W
        · have hk1 : 1 ≤ k := by
            rcases Nat.eq_zero_or_pos k with e | e
            · subst e; simp at h1
            · exact e
          have h2 : (0 : Int) < (k : Int) % (W : Int) := by rw [← J5.out]; omega
          have He : Hid (nb2 W k = nb1 W k ++ [k - 1]) := Lib.hid (by unfold nb2; rw [if_pos h1])
          go_wp2_with (at_builtin; refine wpList_append_own _ rfl _ _ 37 rfl (w.heap.size) 3 i0 (.int .i64 0) 1 8 Try.underlying37 hi hz0 hz1 hz2 rfl (by decide) _ _ _ rfl (hown.alloc _) ⟨wc.heap.size, 0, none⟩ 1 1 [.int .i64 ((k : Int) - 1)] rfl rfl ?c1x2 ?c2x2 ?c3x2 ?c4x2 ?c5x2 ?_)
          first | (case c1x2 => first | exact one_new _ _ _ _ rfl | exact one_new _ _ _ _ (by simp)) | skip
          case c2x2 => first | rfl | (intro u hu; simp at hu; subst hu; rfl)
          case c3x2 => unfold maxLen; omega
          case c4x2 => omega
          case c5x2 => have := hbel.size; simp; omega
          · intro v' w1 hown' hgrow _
            have hb1 : Below w.heap.size w w1 := (hbel.alloc hbel.size _).grown hgrow (by have := hbel.size; simp; omega) (own_block hown)
            have R : Mk w w1 v' (nb2 W k) := by rw [He.out]; exact mk_snoc HM.out (by omega) (by omega) hown' hb1
            clear hown' hgrow hown hbel hb1
            go_wp2_with fail
            go_meet
            case rel => exact R
        · have h2 : ¬ (0 : Int) < (k : Int) % (W : Int) := by rw [← J5.out]; omega
          have He : Hid (nb2 W k = nb1 W k) := Lib.hid (by unfold nb2; rw [if_neg h1]; exact List.append_nil _)
          have R := fun (s : Value) (ho : wc.ownsRow w.heap.size 3 1 s n (ints (nats (nb1 W k)))) => show Mk w wc s (nb2 W k) from by rw [He.out]; exact ⟨n, HM.out, hn4, ho, hbel⟩
          have HR := Lib.hid R
          clear R
          go_wp2_with fail
          go_meet
          case rel => exact HR.out _ hown
      case rest =>
        clear hown hbel HM hn4 hn5
        clear n
        obtain ⟨n, hn, hn4, hown, hbel⟩ := hcut
        have hn5 : n ≤ 10 := by omega
        have HM := Lib.hid hn
        clear hn
        go_upto_if 35 with (fail)
        go_cut [6] from 35 to 40 (fun s wx => Mk w wx s (nb3 W k))
        case first =>
          by_cases h1 : k % W + 1 < W
          · have h2 : (k : Int) % (W : Int) < (W : Int) - 1 := by rw [← J5.out]; omega
            have He : Hid (nb3 W k = nb2 W k ++ [k + 1]) := Lib.hid (by unfold nb3; rw [if_pos h1])
            go_wp2_with (at_builtin; refine wpList_append_own _ rfl _ _ 37 rfl (w.heap.size) 3 i0 (.int .i64 0) 1 8 Try.underlying37 hi hz0 hz1 hz2 rfl (by decide) _ _ _ rfl (hown.alloc _) ⟨wc.heap.size, 0, none⟩ 1 1 [.int .i64 ((k : Int) + 1)] rfl rfl ?c1x3 ?c2x3 ?c3x3 ?c4x3 ?c5x3 ?_)
            first | (case c1x3 => first | exact one_new _ _ _ _ rfl | exact one_new _ _ _ _ (by simp)) | skip
            case c2x3 => first | rfl | (intro u hu; simp at hu; subst hu; rfl)
            case c3x3 => unfold maxLen; omega
            case c4x3 => omega
            case c5x3 => have := hbel.size; simp; omega
            · intro v' w1 hown' hgrow _
              have hb1 : Below w.heap.size w w1 := (hbel.alloc hbel.size _).grown hgrow (by have := hbel.size; simp; omega) (own_block hown)
              have R : Mk w w1 v' (nb3 W k) := by rw [He.out]; exact mk_snoc HM.out (by omega) (by omega) hown' hb1
              clear hown' hgrow hown hbel hb1
              go_wp2_with fail
              go_meet
              case rel => exact R
          · have h2 : ¬ (k : Int) % (W : Int) < (W : Int) - 1 := by rw [← J5.out]; omega
            have He : Hid (nb3 W k = nb2 W k) := Lib.hid (by unfold nb3; rw [if_neg h1]; exact List.append_nil _)
            have R := fun (s : Value) (ho : wc.ownsRow w.heap.size 3 1 s n (ints (nats (nb2 W k)))) => show Mk w wc s (nb3 W k) from by rw [He.out]; exact ⟨n, HM.out, hn4, ho, hbel⟩
            have HR := Lib.hid R
            clear R
            go_wp2_with fail
            go_meet
            case rel => exact HR.out _ hown
        case rest =>
          clear hown hbel HM hn4 hn5
          clear n
          obtain ⟨n, hn, hn4, hown, hbel⟩ := hcut
          have hn5 : n ≤ 10 := by omega
          have HM := Lib.hid hn
          clear hn
          go_upto_if 46 with (go_at_call 89; refine (HCnt.out _ hbel).mono ?_; rintro e w' ⟨rfl, rfl⟩)
          go_cut [6] from 46 to 52 (fun s wx => Mk w wx s (nbs W N k))
          case first =>
            by_cases h1 : k + W < N
            · have h2 : (k : Int) + (W : Int) < (N : Int) := by omega
              have He : Hid (nbs W N k = nb3 W k ++ [k + W]) := Lib.hid (by show nb3 W k ++ _ = _; rw [if_pos h1])
              go_wp2_with (at_builtin; refine wpList_append_own _ rfl _ _ 37 rfl (w.heap.size) 3 i0 (.int .i64 0) 1 8 Try.underlying37 hi hz0 hz1 hz2 rfl (by decide) _ _ _ rfl (hown.alloc _) ⟨wc.heap.size, 0, none⟩ 1 1 [.int .i64 ((k : Int) + (W : Int))] rfl rfl ?c1x4 ?c2x4 ?c3x4 ?c4x4 ?c5x4 ?_)
              first | (case c1x4 => first | exact one_new _ _ _ _ rfl | exact one_new _ _ _ _ (by simp)) | skip
              case c2x4 => first | rfl | (intro u hu; simp at hu; subst hu; rfl)
              case c3x4 => unfold maxLen; omega
              case c4x4 => omega
              case c5x4 => have := hbel.size; simp; omega
              · intro v' w1 hown' hgrow _
                have hb1 : Below w.heap.size w w1 := (hbel.alloc hbel.size _).grown hgrow (by have := hbel.size; simp; omega) (own_block hown)
                have R : Mk w w1 v' (nbs W N k) := by rw [He.out]; exact mk_snoc HM.out (by omega) (by omega) hown' hb1
                clear hown' hgrow hown hbel hb1
                go_wp2_with fail
                go_meet
                case rel => exact R
            · have h2 : ¬ (k : Int) + (W : Int) < (N : Int) := by omega
              have He : Hid (nbs W N k = nb3 W k) := Lib.hid (by show nb3 W k ++ _ = _; rw [if_neg h1]; exact List.append_nil _)
              have R := fun (s : Value) (ho : wc.ownsRow w.heap.size 3 1 s n (ints (nats (nb3 W k)))) => show Mk w wc s (nbs W N k) from by rw [He.out]; exact ⟨n, HM.out, hn4, ho, hbel⟩
              have HR := Lib.hid R
              clear R
              go_wp2
              go_meet
              case rel => exact HR.out _ hown
          case rest =>
            clear hown hbel HM hn4 hn5
            clear n
            obtain ⟨n, hn, hn4, hown, hbel⟩ := hcut
            have HM := Lib.hid hn
            clear hn
            have R := out_mk (l := nats (nbP pp k)) (n := n) (by rw [nats_length, Hn.out]; exact HM.out.symm) (by rw [Hn.out]; exact hown) hbel
            clear hown hbel
            go_wp2_with fail
            go_ret
            exact R

end Go.Proofs.Ytggdnpaiaijhgaa

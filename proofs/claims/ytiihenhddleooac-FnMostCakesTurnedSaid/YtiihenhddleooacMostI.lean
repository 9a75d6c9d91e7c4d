/- Contracts of chapter 3: MostCakes of the program. -/
import Derived.Test.YtiihenhddleooacMost
namespace Go.Proofs.Ytiihenhddleooac
open Go.RowKit
set_option linter.unusedVariables false
set_option linter.unusedSimpArgs false
def setRow (ff : List (List Bool)) (w h y n : Nat) : List Int := ((List.range n).filter (fun x => wholeB ff w h x y)).map (fun x => cellSetF w x y h)
def setAll (ff : List (List Bool)) (w h : Nat) (n : Nat) : List Int := (List.range n).flatMap (fun y => setRow ff w h y (wideB ff + 1 - w))
def setsF (ff : List (List Bool)) (w h : Nat) : List Int := setAll ff w h (ff.length + 1 - h)
theorem setRow_succ (ff : List (List Bool)) (w h y n : Nat) : setRow ff w h y (n + 1) = setRow ff w h y n ++ (if wholeB ff w h n y = true then [cellSetF w n y h] else []) := by
  unfold setRow
  rw [List.range_succ, List.filter_append, List.map_append]
  cases hq : wholeB ff w h n y <;> simp [hq]
theorem setAll_succ (ff : List (List Bool)) (w h n : Nat) : setAll ff w h (n + 1) = setAll ff w h n ++ setRow ff w h n (wideB ff + 1 - w) := by
  unfold setAll
  rw [List.range_succ, List.flatMap_append]
  simp
theorem setRow_len (ff : List (List Bool)) (w h y n : Nat) : (setRow ff w h y n).length ≤ n := by
  unfold setRow
  rw [List.length_map]
  exact Nat.le_trans (List.length_filter_le _ _) (by simp)
theorem setAll_len (ff : List (List Bool)) (w h n : Nat) : (setAll ff w h n).length ≤ n * (wideB ff + 1) := by
  induction n with
  | zero => simp [setAll]
  | succ n ih =>
    rw [setAll_succ, List.length_append, Nat.add_mul]
    have := setRow_len ff w h n (wideB ff + 1 - w)
    omega
set_option maxRecDepth 100000 in
set_option maxHeartbeats 2000000 in
theorem iSets_any (ff : List (List Bool)) (A : Option Addr) (c : Nat) (hcap : ff.length ≤ c ∧ c ≤ maxLen) (w : World) (hf : Fld w w.heap.size A ff) (cw ch : Nat) (hw : 1 ≤ cw ∧ cw ≤ 4) (hh : 1 ≤ ch ∧ ch ≤ 4) (h5 : ff.length ≤ 5) (w5 : wideB ff ≤ 5) :
    Calls Try.prog 32 #[.slice A ff.length c, .int .i64 (cw : Nat), .int .i64 (ch : Nat)] w (OutI (setsF ff cw ch) w) := by
  obtain ⟨i0, hi, hz0, hz1, hz2⟩ := info_parts info_int
  have hl := field_len hf.1
  have hwd := field_wide hf.1
  obtain ⟨b, off, A0, c0, rfl, hb, h0⟩ := hf.row0
  obtain ⟨q3, q4⟩ := hcap
  obtain ⟨s1, s2⟩ := hw
  obtain ⟨s3, s4⟩ := hh
  have HSets : Hid (∀ y, y = ff.length + 1 - ch → setAll ff cw ch y = setsF ff cw ch) := Lib.hid fun y e => by rw [e]; rfl
  go_enter Try.func32, Try.ntmps32
  go_wp2
  go_loopw [7, 8] (fun v i wr => ∃ y n : Nat, y ≤ ff.length + 1 - ch ∧ i = .int .i64 y ∧ n = (setAll ff cw ch y).length ∧ wr.ownsRow w.heap.size 3 1 v n (ints (setAll ff cw ch y)) ∧ Below w.heap.size w wr) (fun _ i _ => 20 - (intOf i).toNat)
  case atStart => exact ⟨0, 0, Nat.zero_le _, rfl, rfl, own_empty _ _, (Below.refl _ _).alloc (Nat.le_refl _) _⟩
  case round =>
    obtain ⟨y, n, hy, rfl, hn, hown, hbel⟩ := hrel
    have HG := Lib.hid (And.intro hn (And.intro hown hbel))
    clear hn hown hbel
    by_cases hlt : y + ch ≤ ff.length
    · have hltI : (y : Int) + (ch : Int) ≤ (ff.length : Int) := by omega
      go_wp2
      go_loopw [7, 9] (fun v i wr => ∃ x n : Nat, x ≤ wideB ff + 1 - cw ∧ i = .int .i64 x ∧ n = (setAll ff cw ch y ++ setRow ff cw ch y x).length ∧ wr.ownsRow w.heap.size 3 1 v n (ints (setAll ff cw ch y ++ setRow ff cw ch y x)) ∧ Below w.heap.size w wr) (fun _ i _ => 20 - (intOf i).toNat)
      case atStart => exact ⟨0, n, Nat.zero_le _, rfl, by simpa [setRow] using HG.out.1, by simpa [setRow] using HG.out.2.1, HG.out.2.2⟩
      case round =>
        clear HG
        obtain ⟨x, n, hx, rfl, hn, hown, hbel⟩ := hrel
        have HN := Lib.hid hn
        have hnb : n ≤ 200 := by
          have h1 := setAll_len ff cw ch y
          have h2 := setRow_len ff cw ch y x
          have h3 : y * (wideB ff + 1) ≤ 9 * 6 := Nat.mul_le_mul (by omega) (by omega)
          rw [hn, List.length_append]
          omega
        clear hn
        have h0r := (hbel.cell (p := ⟨b, off, none⟩) hb).trans h0
        have hfr := hf.up hbel
        have HBEL := Lib.hid hbel
        by_cases hxt : x + cw ≤ wideB ff
        · have HS := Lib.hid (setRow_succ ff cw ch y x)
          go_wp2_with fail
          refine (iWhole_any ff _ c ⟨q3, q4⟩ wr _ hfr cw ch x y (by omega) (by omega) hxt hlt).mono ?_
          rintro e w' ⟨rfl, rfl⟩
          cases hq : wholeB ff cw ch x y
          · have HR : Hid (setRow ff cw ch y (x + 1) = setRow ff cw ch y x) := Lib.hid (by rw [HS.out, hq]; simp)
            have HP := Lib.hid (And.intro hown hbel)
            clear hq hown hbel hfr
            go_wp2
            go_roundw
            case rel => exact ⟨x + 1, n, by omega, by go_num, by rw [HR.out]; exact HN.out, by rw [HR.out]; exact HP.out.1, HP.out.2⟩
            case measure => simp [intOf]; omega
          · have HR : Hid (setRow ff cw ch y (x + 1) = setRow ff cw ch y x ++ [cellSetF cw x y ch]) := Lib.hid (by rw [HS.out, hq]; simp)
            clear hq hfr
            go_wp2_with fail
            refine (iCell_any cw ch x y ⟨s1, s2⟩ ⟨s3, s4⟩ (by omega) (by omega) _).mono ?_
            rintro e w' ⟨rfl, rfl⟩
            go_wp2_with (at_builtin; refine wpList_append_own _ rfl _ _ 32 rfl (w.heap.size) 3 i0 (.int .i64 0) 1 8 Try.underlying32 hi hz0 hz1 hz2 rfl (by decide) _ _ _ rfl (hown.alloc _) ⟨wr.heap.size, 0, none⟩ 1 1 [.int .i64 (cellSetF cw x y ch)] rfl rfl ?c1 ?c2 ?c3 ?c4 ?c5 ?_)
            case c1 => first | exact one_new _ _ _ _ rfl | exact one_new _ _ _ _ (by simp)
            case c2 => first | rfl | (intro u hu; simp at hu; subst hu; rfl)
            case c3 => unfold maxLen; omega
            case c4 => omega
            case c5 => have := hbel.size; simp; omega
            · intro v' w5 hown' hgrow _
              have hob := own_block hown
              have hbel5 : Below w.heap.size w w5 := (hbel.alloc (by have := hbel.size; omega) (.cells #[.int .i64 (cellSetF cw x y ch)] 3)).grown hgrow (by have := hbel.size; simp; omega) hob
              have R : w5.ownsRow w.heap.size 3 1 v' (n + 1) (ints (setAll ff cw ch y ++ setRow ff cw ch y (x + 1))) := by
                rw [HR.out, ← List.append_assoc]
                simpa [ints] using hown'
              have HP := Lib.hid (And.intro R hbel5)
              clear hown' hgrow hown R hbel5 hbel
              go_wp2
              go_roundw
              case rel => exact ⟨x + 1, n + 1, by omega, by go_num, by rw [HR.out, ← List.append_assoc, List.length_append, ← HN.out]; rfl, HP.out.1, HP.out.2⟩
              case measure => simp [intOf]; omega
        · have hxe : x = wideB ff + 1 - cw := by omega
          have HE : Hid (setAll ff cw ch (y + 1) = setAll ff cw ch y ++ setRow ff cw ch y x) := Lib.hid (by rw [setAll_succ, hxe])
          have HP := Lib.hid (And.intro hown hbel)
          clear hxe hown hbel hfr
          go_wp2
          go_roundw
          case rel => exact ⟨y + 1, n, by omega, by go_num, by rw [HE.out]; exact HN.out, by rw [HE.out]; exact HP.out.1, HP.out.2⟩
          case measure => simp [intOf]; omega
    · have HE := Lib.hid (HSets.out y (by omega))
      have hout := out_mk HG.out.1.symm HG.out.2.1 HG.out.2.2
      rw [HE.out] at hout
      have HO := Lib.hid hout
      clear hout
      go_wp2
      go_ret
      exact HO.out
set_option maxRecDepth 100000 in
set_option maxHeartbeats 1000000 in
theorem iMostOk_any (ff : List (List Bool)) (A : Option Addr) (c : Nat) (hcap : ff.length ≤ c ∧ c ≤ maxLen) (w : World) (hg : RdF w w.heap.size A ff) (cw ch : Nat) (hv : fieldB ff = true) (hs : sidesB cw ch = true) (h5 : ff.length ≤ 5) (w5 : wideB ff ≤ 5) (h1 : ¬ (cw = 1 ∧ ch = 1)) :
    Calls Try.prog 8 #[.slice A ff.length c, .int .i64 (cw : Nat), .int .i64 (ch : Nat)] w fun e w' => e = .returned (.int .i64 (apartF (setsF ff cw ch) 0)) ∧ Below w.heap.size w w' := by
  have hf : Fld w w.heap.size A ff := ⟨hv, hg⟩
  obtain ⟨⟨s1, s2⟩, ⟨s3, s4⟩⟩ := sidesB_t hs
  have hl := field_len hv
  have hwd := field_wide hv
  have hcall := iSets_any ff A c hcap w hf cw ch ⟨by omega, by omega⟩ ⟨by omega, by omega⟩ h5 w5
  have Hv := Lib.hid hv
  have Hs := Lib.hid hs
  have hlen : (setsF ff cw ch).length ≤ 1000 := by
    have h2 := setAll_len ff cw ch (ff.length + 1 - ch)
    have h3 : (ff.length + 1 - ch) * (wideB ff + 1) ≤ 6 * 6 := Nat.mul_le_mul (by omega) (by omega)
    unfold setsF
    omega
  obtain ⟨bq, off, A0, c0, rfl, hbq, h0⟩ := hf.row0
  have hm1 : ((cw : Int) * (ch : Int) == 1) = false := by
    refine beq_eq_false_iff_ne.2 fun e => h1 ?_
    have e2 : cw * ch = 1 := by
      have : ((cw * ch : Nat) : Int) = 1 := by rw [Int.natCast_mul]; exact e
      omega
    exact ⟨Nat.eq_one_of_mul_eq_one_right e2, Nat.eq_one_of_mul_eq_one_left e2⟩
  have hm2 : 0 ≤ (cw : Int) * (ch : Int) ∧ (cw : Int) * (ch : Int) ≤ 16 := by
    have h2 : cw * ch ≤ 4 * 4 := Nat.mul_le_mul (by omega) (by omega)
    rw [← Int.natCast_mul]; omega
  obtain ⟨m3, m4⟩ := hm2
  clear hv hs h1 hf
  generalize setsF ff cw ch = L at *
  go_enter Try.func8, Try.ntmps8
  go_wp2_with (first | (go_at_call 29; refine (iVF_is _ _ _ _ _ hg Hv.out).mono ?_; rintro e w' ⟨rfl, rfl⟩) | (go_at_call 30; refine (vSides_is Hs.out _).mono ?_; rintro e w' ⟨rfl, rfl⟩))
  go_wp2_with fail
  refine hcall.mono ?_
  rintro e w2 ⟨A2, c2, rfl, o2, b2⟩
  have hq : L.length ≤ c2 ∧ c2 ≤ maxLen := by
    rcases o2.2 with ⟨h0, hz⟩ | ⟨g, cap, cur, hv, _, _, hnc, hcm, _⟩
    · injection h0 with _ q1 q2; rw [q1, q2]; exact ⟨Nat.le_refl _, Nat.zero_le _⟩
    · injection hv with _ _ q2; subst q2; exact ⟨hnc, hcm⟩
  have hap := iApart_any L L.length rfl hlen A2 c2 0 w2 hq.1 hq.2 (Rd.own o2)
  have HB2 := Lib.hid b2
  clear hcall o2 b2
  go_wp2_with fail
  refine hap.mono ?_
  rintro e w3 ⟨rfl, q, rfl⟩
  go_wp2
  go_ret
  exact ⟨rfl, below_drewN HB2.out _⟩

end Go.Proofs.Ytiihenhddleooac

/- The law FnRunIceFrost: for every code it answers true, and the code reads as it read before. No condition. -/
import Derived.Test.YthccmpbklhlohaaFrosts
import Derived.Test.YthccmpbklhlohaaDraws
import Derived.Test.YthccmpbklhlohaaLaw
namespace Go.Proofs.Ythccmpbklhlohaa
open Go.RowKit
set_option linter.unusedVariables false
set_option linter.unusedSimpArgs false

def coldM (z : Int) : Int := if z < 0 then z else 0
theorem cold_le (zs : List Int) : ∀ z ∈ zs.map coldM, z ≤ 0 := by
  intro z hz
  obtain ⟨y, _, rfl⟩ := List.mem_map.1 hz
  unfold coldM; split <;> omega
theorem cold_temps {zs : List Int} (h : tempsB zs = true) : tempsB (zs.map coldM) = true := by
  unfold tempsB at *
  simp only [Bool.and_eq_true, decide_eq_true_eq, List.all_eq_true, List.length_map, List.mem_map] at *
  refine ⟨h.1, ?_⟩
  rintro _ ⟨z, hz, rfl⟩
  have := inB_t (h.2 z hz)
  unfold coldM
  split
  · exact inB_mk this
  · exact inB_mk ⟨by omega, by omega⟩
theorem frost_cold (zs : List Int) : frostF (zs.map coldM) = frostF zs := by
  induction zs with
  | nil => rfl
  | cons z zs ih =>
    have h : coldF (coldM z) = coldF z := by by_cases hz : z < 0 <;> simp [coldF, coldM, hz]
    simp only [frostF, List.map_cons, List.sum_cons] at *
    omega
theorem cold_sum {zs : List Int} (h : tempsB zs = true) : (zs.map coldM).sum = -frostT zs := by
  rw [frostT_ok h]
  clear h
  induction zs with
  | nil => rfl
  | cons z zs ih =>
    have h : coldM z = -coldF z := by unfold coldF coldM; split <;> omega
    simp only [frostF, List.map_cons, List.sum_cons] at *
    omega
theorem sum_rev (l : List Int) : l.reverse.sum = l.sum := by
  induction l with
  | nil => rfl
  | cons z l ih => rw [List.reverse_cons, sum_snoc, ih, List.sum_cons]; omega
theorem runF_cold (l : List Int) (hl : ∀ z ∈ l, z ≤ 0) (m : Int) (h0 : 0 ≤ m) (h1 : m ≤ 998001) : runF m l = if m - 5 * l.sum ≤ 998001 then m - 5 * l.sum else 998001 := by
  induction l generalizing m with
  | nil => simp [runF, h1]
  | cons z l ih =>
    have hz := hl z (by simp)
    have hs : l.sum ≤ 0 := by
      have : ∀ l : List Int, (∀ z ∈ l, z ≤ 0) → l.sum ≤ 0 := fun l h => by
        induction l with
        | nil => simp
        | cons y l ih => have := h y (by simp); have := ih (fun x hx => h x (by simp [hx])); simp only [List.sum_cons]; omega
      exact this l (fun x hx => hl x (by simp [hx]))
    have hh : hourF m z = if m - 5 * z ≤ 998001 then m - 5 * z else 998001 := by
      by_cases hc : z < 0
      · exact hourF_cold hc
      · obtain rfl : z = 0 := by omega
        rw [hourF_stay (by omega) (by omega), if_pos (by omega)]; omega
    have hr := hourF_range m z h0 h1
    show runF (hourF m z) l = _
    rw [ih (fun x hx => hl x (by simp [hx])) _ hr.1 hr.2, List.sum_cons]
    rw [hh]
    split <;> split <;> split <;> omega
theorem run_cold {m : Int} {zs : List Int} (hm : inB m 0 998001 = true) (ht : tempsB zs = true) (l : List Int) (h : tempsB l = true) (hl : ∀ z ∈ l, z ≤ 0) (hs : l.sum = -frostT zs) :
    runT m l = if m + 5 * frostT zs ≤ 998001 then m + 5 * frostT zs else 998001 := by
  have rg := inB_t hm
  rw [runT_ok hm h, runF_cold l hl m rg.1 rg.2, hs, show m - 5 * -frostT zs = m + 5 * frostT zs by omega]

namespace fnRunIceFrost
open Go.ChangeShapes Go.WideShapes Go.ChangeAt Go.RowKit
set_option maxHeartbeats 800000 in
theorem walk (w : World) (cs : List Int) (Acs : Option Addr) (ccs : Nat) (hrcs : Rd w w.heap.size Acs (bytes cs)) (hbcs : ∀ z ∈ cs, 0 ≤ z ∧ z ≤ 255) (hlcs : cs.length ≤ ccs ∧ ccs ≤ maxLen) :
    Calls Try.prog 6 #[.slice Acs cs.length ccs] w fun e w' => e = .returned (.bool true) ∧ Below w.heap.size w w' := by
  by_cases hn : cs.length ≤ 1048576
  · go_enter Try.func6, Try.ntmps6
    go_wp2_with fail
    refine (dRunIce _ _ _ _ hrcs hbcs hlcs.1 hlcs.2).mono ?_
    rintro e w1 ⟨m, zs, Az, cz, rfl, hm, hd, b1⟩
    obtain ⟨l12, hzb, hrz, lc, lm⟩ := hd
    unfold maxLen at lm
    by_cases h : inB m 0 998001 = true ∧ tempsB zs = true
    · obtain ⟨i0, hi, hz0, hz1, hz2⟩ := info_parts info_int
      have e : runT m zs = runF m zs := runT_ok h.1 h.2
      have rg := inB_t h.1
      have q0 := runF_range m rg.1 rg.2 zs
      rw [← e] at q0
      clear e
      have q1 := frostT_range h.2
      have g1 : runT m (zs.map coldM) = if m + 5 * frostT zs ≤ 998001 then m + 5 * frostT zs else 998001 := run_cold h.1 h.2 _ (cold_temps h.2) (cold_le zs) (cold_sum h.2)
      have g2 : runT m (zs.map coldM).reverse = if m + 5 * frostT zs ≤ 998001 then m + 5 * frostT zs else 998001 := by
        refine run_cold h.1 h.2 _ (tempsB_sub (cold_temps h.2) (by simp) (by simp)) (fun z hz => cold_le zs z (by simpa using hz)) ?_
        rw [sum_rev]; exact cold_sum h.2
      have f3 : (frostT (zs.map coldM) == frostT zs) = true := by rw [frostT_ok (cold_temps h.2), frostT_ok h.2, frost_cold]; exact beq_self_eq_true _
      clear h
      by_cases hle : m + 5 * frostT zs ≤ 998001
      · rw [if_pos hle] at g1 g2
        have f1 : (runT m (zs.map coldM) == m + 5 * frostT zs) = true := beq_iff_eq.2 g1
        have f2 : (runT m (zs.map coldM).reverse == m + 5 * frostT zs) = true := beq_iff_eq.2 g2
        clear g1 g2
        by_cases heq : m + 5 * frostT zs = 998001
        · rw [heq] at f1 f2
          have Heq := Lib.hid heq
          clear heq
          have hle2 : 998001 ≤ m + 5 * frostT zs := by have := Heq.out; omega
          go_wp2_with (first | (go_at_call 22; refine (iRunIce_any _ _ _ _ _ hrz _).mono ?_; rintro e w' ⟨rfl, rfl⟩) | (go_at_call 23; refine (sRunIce_any _ _ _ _ _ hrz _).mono ?_; rintro e w' ⟨rfl, rfl⟩))
          go_loopw [6, 7] (fun v i wr => ∃ k : Nat, k ≤ zs.length ∧ i = .int .i64 k ∧ wr.ownsRow w1.heap.size 3 1 v k (ints ((zs.take k).map coldM)) ∧ Below w1.heap.size w1 wr) (fun _ i _ => zs.length - (intOf i).toNat)
          case atStart => exact ⟨0, Nat.zero_le _, rfl, own_empty _ _, (Below.refl _ _).alloc (Nat.le_refl _) _⟩
          case round =>
            obtain ⟨k, hk, rfl, hown, hbel⟩ := hrel
            by_cases hlt : k < zs.length
            · obtain ⟨b, off, z, rfl, hb, hz, hc⟩ := (hrz.below hbel).int_ hlt
              by_cases hneg : z < 0
              · have Hm : Hid (coldM z = z) := Lib.hid (if_pos hneg)
                go_wp2_with (at_builtin; refine wpList_append_own _ rfl _ _ 29 rfl (w1.heap.size) 3 i0 (.int .i64 0) 1 8 Try.underlying29 hi hz0 hz1 hz2 rfl (by decide) _ _ _ rfl (hown.alloc _) ⟨wr.heap.size, 0, none⟩ 1 1 [.int .i64 z] rfl rfl ?c1 ?c2 ?c3 ?c4 ?c5 ?_)
                case c1 =>
                  intro j u hj
                  match j, hj with
                  | 0, hj => simp at hj; subst hj; simp [Addr.add]
                case c2 => first | rfl | (intro u hu; simp at hu; subst hu; rfl)
                case c3 => unfold maxLen; omega
                case c4 => omega
                case c5 => have := hbel.size; simp; omega
                · intro v' w2 hown' hgrow _
                  have R : w2.ownsRow w1.heap.size 3 1 v' (k + 1) (ints ((zs.take (k + 1)).map coldM)) := by
                    rw [map_snoc _ hz.out, Hm.out]; simpa [ints] using hown'
                  have hb1 : Below w1.heap.size w1 w2 := (hbel.alloc hbel.size _).grown hgrow (by have := hbel.size; simp; omega) (own_block hown)
                  clear hown' hgrow hown hbel
                  go_wp2
                  go_roundw
                  case rel => exact ⟨k + 1, by omega, by go_num, R, hb1⟩
                  case measure => simp [intOf]; omega
              · have Hm : Hid (coldM z = 0) := Lib.hid (if_neg hneg)
                have hneg' : 0 ≤ z := by omega
                by_cases hz00 : z = 0
                · subst hz00
                  go_wp2_with (at_builtin; refine wpList_append_own _ rfl _ _ 29 rfl (w1.heap.size) 3 i0 (.int .i64 0) 1 8 Try.underlying29 hi hz0 hz1 hz2 rfl (by decide) _ _ _ rfl (hown.alloc _) ⟨wr.heap.size, 0, none⟩ 1 1 [.int .i64 0] rfl rfl ?c1x2 ?c2x2 ?c3x2 ?c4x2 ?c5x2 ?_)
                  case c2x2 => first | rfl | (intro u hu; simp at hu; subst hu; rfl)
                  case c3x2 => unfold maxLen; omega
                  case c4x2 => omega
                  case c5x2 => have := hbel.size; simp; omega
                  · intro v' w2 hown' hgrow _
                    have R : w2.ownsRow w1.heap.size 3 1 v' (k + 1) (ints ((zs.take (k + 1)).map coldM)) := by
                      rw [map_snoc _ hz.out, Hm.out]; simpa [ints] using hown'
                    have hb1 : Below w1.heap.size w1 w2 := (hbel.alloc hbel.size _).grown hgrow (by have := hbel.size; simp; omega) (own_block hown)
                    clear hown' hgrow hown hbel
                    go_wp2
                    go_roundw
                    case rel => exact ⟨k + 1, by omega, by go_num, R, hb1⟩
                    case measure => simp [intOf]; omega
                · have hneg2 : 0 < z := by omega
                  have hneg3 : ¬ z < 0 := by omega
                  go_wp2_with (at_builtin; refine wpList_append_own _ rfl _ _ 29 rfl (w1.heap.size) 3 i0 (.int .i64 0) 1 8 Try.underlying29 hi hz0 hz1 hz2 rfl (by decide) _ _ _ rfl (hown.alloc _) ⟨wr.heap.size, 0, none⟩ 1 1 [.int .i64 0] rfl rfl ?c1x3 ?c2x3 ?c3x3 ?c4x3 ?c5x3 ?_)
                  case c2x3 => first | rfl | (intro u hu; simp at hu; subst hu; rfl)
                  case c3x3 => unfold maxLen; omega
                  case c4x3 => omega
                  case c5x3 => have := hbel.size; simp; omega
                  · intro v' w2 hown' hgrow _
                    have R : w2.ownsRow w1.heap.size 3 1 v' (k + 1) (ints ((zs.take (k + 1)).map coldM)) := by
                      rw [map_snoc _ hz.out, Hm.out]; simpa [ints] using hown'
                    have hb1 : Below w1.heap.size w1 w2 := (hbel.alloc hbel.size _).grown hgrow (by have := hbel.size; simp; omega) (own_block hown)
                    clear hown' hgrow hown hbel
                    go_wp2
                    go_roundw
                    case rel => exact ⟨k + 1, by omega, by go_num, R, hb1⟩
                    case measure => simp [intOf]; omega
            · obtain rfl : k = zs.length := by omega
              obtain ⟨A', c', rfl⟩ := own_form hown
              rw [List.take_of_length_le (by omega)] at hown
              have hrz2 := (hrz.below hbel).more hbel.size
              have hcd := Rd.own hown
              have lC : (zs.map coldM).length = zs.length := by simp
              clear hown
              go_wp2_with fail
              refine (iFrost_any _ _ _ _ _ hrz2).mono ?_
              rintro e w' ⟨rfl, rfl⟩
              go_wp2_with fail
              refine (iRun_n _ _ lC _ _ _ _ hcd _).mono ?_
              rintro e w' ⟨rfl, rfl⟩
              go_wp2_with fail
              refine (backwards_any _ _ lC _ _ _ hcd (by omega)).mono ?_
              rintro e w2 ⟨A2, c2, rfl, o2, b2⟩
              have hr2 := Rd.own o2
              have hcd2 := hcd.below b2
              have hrz3 := hrz2.below b2
              have lR : (zs.map coldM).reverse.length = zs.length := by simp
              go_wp2_with fail
              refine (iRun_n _ _ lR _ _ _ _ hr2 _).mono ?_
              rintro e w' ⟨rfl, rfl⟩
              go_wp2_with fail
              refine (iFrost_n _ _ lC _ _ _ _ hcd2).mono ?_
              rintro e w' ⟨rfl, rfl⟩
              go_wp2_with fail
              refine (iFrost_any _ _ _ _ _ hrz3).mono ?_
              rintro e w' ⟨rfl, rfl⟩
              go_wp2
              go_ret
              exact ⟨rfl, b1.trans ((hbel.trans (b2.mono hbel.size)).mono b1.size)⟩
        · have hlt2 : m + 5 * frostT zs < 998001 := by omega
          clear heq
          go_wp2_with (first | (go_at_call 22; refine (iRunIce_any _ _ _ _ _ hrz _).mono ?_; rintro e w' ⟨rfl, rfl⟩) | (go_at_call 23; refine (sRunIce_any _ _ _ _ _ hrz _).mono ?_; rintro e w' ⟨rfl, rfl⟩))
          go_loopw [6, 7] (fun v i wr => ∃ k : Nat, k ≤ zs.length ∧ i = .int .i64 k ∧ wr.ownsRow w1.heap.size 3 1 v k (ints ((zs.take k).map coldM)) ∧ Below w1.heap.size w1 wr) (fun _ i _ => zs.length - (intOf i).toNat)
          case atStart => exact ⟨0, Nat.zero_le _, rfl, own_empty _ _, (Below.refl _ _).alloc (Nat.le_refl _) _⟩
          case round =>
            obtain ⟨k, hk, rfl, hown, hbel⟩ := hrel
            by_cases hlt : k < zs.length
            · obtain ⟨b, off, z, rfl, hb, hz, hc⟩ := (hrz.below hbel).int_ hlt
              by_cases hneg : z < 0
              · have Hm : Hid (coldM z = z) := Lib.hid (if_pos hneg)
                go_wp2_with (at_builtin; refine wpList_append_own _ rfl _ _ 29 rfl (w1.heap.size) 3 i0 (.int .i64 0) 1 8 Try.underlying29 hi hz0 hz1 hz2 rfl (by decide) _ _ _ rfl (hown.alloc _) ⟨wr.heap.size, 0, none⟩ 1 1 [.int .i64 z] rfl rfl ?c1x4 ?c2x4 ?c3x4 ?c4x4 ?c5x4 ?_)
                case c1x4 =>
                  intro j u hj
                  match j, hj with
                  | 0, hj => simp at hj; subst hj; simp [Addr.add]
                case c2x4 => first | rfl | (intro u hu; simp at hu; subst hu; rfl)
                case c3x4 => unfold maxLen; omega
                case c4x4 => omega
                case c5x4 => have := hbel.size; simp; omega
                · intro v' w2 hown' hgrow _
                  have R : w2.ownsRow w1.heap.size 3 1 v' (k + 1) (ints ((zs.take (k + 1)).map coldM)) := by
                    rw [map_snoc _ hz.out, Hm.out]; simpa [ints] using hown'
                  have hb1 : Below w1.heap.size w1 w2 := (hbel.alloc hbel.size _).grown hgrow (by have := hbel.size; simp; omega) (own_block hown)
                  clear hown' hgrow hown hbel
                  go_wp2
                  go_roundw
                  case rel => exact ⟨k + 1, by omega, by go_num, R, hb1⟩
                  case measure => simp [intOf]; omega
              · have Hm : Hid (coldM z = 0) := Lib.hid (if_neg hneg)
                have hneg' : 0 ≤ z := by omega
                by_cases hz00 : z = 0
                · subst hz00
                  go_wp2_with (at_builtin; refine wpList_append_own _ rfl _ _ 29 rfl (w1.heap.size) 3 i0 (.int .i64 0) 1 8 Try.underlying29 hi hz0 hz1 hz2 rfl (by decide) _ _ _ rfl (hown.alloc _) ⟨wr.heap.size, 0, none⟩ 1 1 [.int .i64 0] rfl rfl ?c1x5 ?c2x5 ?c3x5 ?c4x5 ?c5x5 ?_)
                  case c2x5 => first | rfl | (intro u hu; simp at hu; subst hu; rfl)
                  case c3x5 => unfold maxLen; omega
                  case c4x5 => omega
                  case c5x5 => have := hbel.size; simp; omega
                  · intro v' w2 hown' hgrow _
                    have R : w2.ownsRow w1.heap.size 3 1 v' (k + 1) (ints ((zs.take (k + 1)).map coldM)) := by
                      rw [map_snoc _ hz.out, Hm.out]; simpa [ints] using hown'
                    have hb1 : Below w1.heap.size w1 w2 := (hbel.alloc hbel.size _).grown hgrow (by have := hbel.size; simp; omega) (own_block hown)
                    clear hown' hgrow hown hbel
                    go_wp2
                    go_roundw
                    case rel => exact ⟨k + 1, by omega, by go_num, R, hb1⟩
                    case measure => simp [intOf]; omega
                · have hneg2 : 0 < z := by omega
                  have hneg3 : ¬ z < 0 := by omega
                  go_wp2_with (at_builtin; refine wpList_append_own _ rfl _ _ 29 rfl (w1.heap.size) 3 i0 (.int .i64 0) 1 8 Try.underlying29 hi hz0 hz1 hz2 rfl (by decide) _ _ _ rfl (hown.alloc _) ⟨wr.heap.size, 0, none⟩ 1 1 [.int .i64 0] rfl rfl ?c1x6 ?c2x6 ?c3x6 ?c4x6 ?c5x6 ?_)
                  case c2x6 => first | rfl | (intro u hu; simp at hu; subst hu; rfl)
                  case c3x6 => unfold maxLen; omega
                  case c4x6 => omega
                  case c5x6 => have := hbel.size; simp; omega
                  · intro v' w2 hown' hgrow _
                    have R : w2.ownsRow w1.heap.size 3 1 v' (k + 1) (ints ((zs.take (k + 1)).map coldM)) := by
                      rw [map_snoc _ hz.out, Hm.out]; simpa [ints] using hown'
                    have hb1 : Below w1.heap.size w1 w2 := (hbel.alloc hbel.size _).grown hgrow (by have := hbel.size; simp; omega) (own_block hown)
                    clear hown' hgrow hown hbel
                    go_wp2
                    go_roundw
                    case rel => exact ⟨k + 1, by omega, by go_num, R, hb1⟩
                    case measure => simp [intOf]; omega
            · obtain rfl : k = zs.length := by omega
              obtain ⟨A', c', rfl⟩ := own_form hown
              rw [List.take_of_length_le (by omega)] at hown
              have hrz2 := (hrz.below hbel).more hbel.size
              have hcd := Rd.own hown
              have lC : (zs.map coldM).length = zs.length := by simp
              clear hown
              go_wp2_with fail
              refine (iFrost_any _ _ _ _ _ hrz2).mono ?_
              rintro e w' ⟨rfl, rfl⟩
              go_wp2_with fail
              refine (iRun_n _ _ lC _ _ _ _ hcd _).mono ?_
              rintro e w' ⟨rfl, rfl⟩
              go_wp2_with fail
              refine (backwards_any _ _ lC _ _ _ hcd (by omega)).mono ?_
              rintro e w2 ⟨A2, c2, rfl, o2, b2⟩
              have hr2 := Rd.own o2
              have hcd2 := hcd.below b2
              have hrz3 := hrz2.below b2
              have lR : (zs.map coldM).reverse.length = zs.length := by simp
              go_wp2_with fail
              refine (iRun_n _ _ lR _ _ _ _ hr2 _).mono ?_
              rintro e w' ⟨rfl, rfl⟩
              go_wp2_with fail
              refine (iFrost_n _ _ lC _ _ _ _ hcd2).mono ?_
              rintro e w' ⟨rfl, rfl⟩
              go_wp2_with fail
              refine (iFrost_any _ _ _ _ _ hrz3).mono ?_
              rintro e w' ⟨rfl, rfl⟩
              go_wp2
              go_ret
              exact ⟨rfl, b1.trans ((hbel.trans (b2.mono hbel.size)).mono b1.size)⟩
      · rw [if_neg hle] at g1 g2
        have f1 : (runT m (zs.map coldM) == 998001) = true := beq_iff_eq.2 g1
        have f2 : (runT m (zs.map coldM).reverse == 998001) = true := beq_iff_eq.2 g2
        clear g1 g2
        go_wp2_with (first | (go_at_call 22; refine (iRunIce_any _ _ _ _ _ hrz _).mono ?_; rintro e w' ⟨rfl, rfl⟩) | (go_at_call 23; refine (sRunIce_any _ _ _ _ _ hrz _).mono ?_; rintro e w' ⟨rfl, rfl⟩))
        go_loopw [6, 7] (fun v i wr => ∃ k : Nat, k ≤ zs.length ∧ i = .int .i64 k ∧ wr.ownsRow w1.heap.size 3 1 v k (ints ((zs.take k).map coldM)) ∧ Below w1.heap.size w1 wr) (fun _ i _ => zs.length - (intOf i).toNat)
        case atStart => exact ⟨0, Nat.zero_le _, rfl, own_empty _ _, (Below.refl _ _).alloc (Nat.le_refl _) _⟩
        case round =>
          obtain ⟨k, hk, rfl, hown, hbel⟩ := hrel
          by_cases hlt : k < zs.length
          · obtain ⟨b, off, z, rfl, hb, hz, hc⟩ := (hrz.below hbel).int_ hlt
            by_cases hneg : z < 0
            · have Hm : Hid (coldM z = z) := Lib.hid (if_pos hneg)
              go_wp2_with (at_builtin; refine wpList_append_own _ rfl _ _ 29 rfl (w1.heap.size) 3 i0 (.int .i64 0) 1 8 Try.underlying29 hi hz0 hz1 hz2 rfl (by decide) _ _ _ rfl (hown.alloc _) ⟨wr.heap.size, 0, none⟩ 1 1 [.int .i64 z] rfl rfl ?c1x7 ?c2x7 ?c3x7 ?c4x7 ?c5x7 ?_)
              case c1x7 =>
                intro j u hj
                match j, hj with
                | 0, hj => simp at hj; subst hj; simp [Addr.add]
              case c2x7 => first | rfl | (intro u hu; simp at hu; subst hu; rfl)
              case c3x7 => unfold maxLen; omega
              case c4x7 => omega
              case c5x7 => have := hbel.size; simp; omega
              · intro v' w2 hown' hgrow _
                have R : w2.ownsRow w1.heap.size 3 1 v' (k + 1) (ints ((zs.take (k + 1)).map coldM)) := by
                  rw [map_snoc _ hz.out, Hm.out]; simpa [ints] using hown'
                have hb1 : Below w1.heap.size w1 w2 := (hbel.alloc hbel.size _).grown hgrow (by have := hbel.size; simp; omega) (own_block hown)
                clear hown' hgrow hown hbel
                go_wp2
                go_roundw
                case rel => exact ⟨k + 1, by omega, by go_num, R, hb1⟩
                case measure => simp [intOf]; omega
            · have Hm : Hid (coldM z = 0) := Lib.hid (if_neg hneg)
              have hneg' : 0 ≤ z := by omega
              by_cases hz00 : z = 0
              · subst hz00
                go_wp2_with (at_builtin; refine wpList_append_own _ rfl _ _ 29 rfl (w1.heap.size) 3 i0 (.int .i64 0) 1 8 Try.underlying29 hi hz0 hz1 hz2 rfl (by decide) _ _ _ rfl (hown.alloc _) ⟨wr.heap.size, 0, none⟩ 1 1 [.int .i64 0] rfl rfl ?c1x8 ?c2x8 ?c3x8 ?c4x8 ?c5x8 ?_)
                case c2x8 => first | rfl | (intro u hu; simp at hu; subst hu; rfl)
                case c3x8 => unfold maxLen; omega
                case c4x8 => omega
                case c5x8 => have := hbel.size; simp; omega
                · intro v' w2 hown' hgrow _
                  have R : w2.ownsRow w1.heap.size 3 1 v' (k + 1) (ints ((zs.take (k + 1)).map coldM)) := by
                    rw [map_snoc _ hz.out, Hm.out]; simpa [ints] using hown'
                  have hb1 : Below w1.heap.size w1 w2 := (hbel.alloc hbel.size _).grown hgrow (by have := hbel.size; simp; omega) (own_block hown)
                  clear hown' hgrow hown hbel
                  go_wp2
                  go_roundw
                  case rel => exact ⟨k + 1, by omega, by go_num, R, hb1⟩
                  case measure => simp [intOf]; omega
              · have hneg2 : 0 < z := by omega
                have hneg3 : ¬ z < 0 := by omega
                go_wp2_with (at_builtin; refine wpList_append_own _ rfl _ _ 29 rfl (w1.heap.size) 3 i0 (.int .i64 0) 1 8 Try.underlying29 hi hz0 hz1 hz2 rfl (by decide) _ _ _ rfl (hown.alloc _) ⟨wr.heap.size, 0, none⟩ 1 1 [.int .i64 0] rfl rfl ?c1x9 ?c2x9 ?c3x9 ?c4x9 ?c5x9 ?_)
                case c2x9 => first | rfl | (intro u hu; simp at hu; subst hu; rfl)
                case c3x9 => unfold maxLen; omega
                case c4x9 => omega
                case c5x9 => have := hbel.size; simp; omega
                · intro v' w2 hown' hgrow _
                  have R : w2.ownsRow w1.heap.size 3 1 v' (k + 1) (ints ((zs.take (k + 1)).map coldM)) := by
                    rw [map_snoc _ hz.out, Hm.out]; simpa [ints] using hown'
                  have hb1 : Below w1.heap.size w1 w2 := (hbel.alloc hbel.size _).grown hgrow (by have := hbel.size; simp; omega) (own_block hown)
                  clear hown' hgrow hown hbel
                  go_wp2
                  go_roundw
                  case rel => exact ⟨k + 1, by omega, by go_num, R, hb1⟩
                  case measure => simp [intOf]; omega
          · obtain rfl : k = zs.length := by omega
            obtain ⟨A', c', rfl⟩ := own_form hown
            rw [List.take_of_length_le (by omega)] at hown
            have hrz2 := (hrz.below hbel).more hbel.size
            have hcd := Rd.own hown
            have lC : (zs.map coldM).length = zs.length := by simp
            clear hown
            go_wp2_with fail
            refine (iFrost_any _ _ _ _ _ hrz2).mono ?_
            rintro e w' ⟨rfl, rfl⟩
            go_wp2_with fail
            refine (iRun_n _ _ lC _ _ _ _ hcd _).mono ?_
            rintro e w' ⟨rfl, rfl⟩
            go_wp2_with fail
            refine (backwards_any _ _ lC _ _ _ hcd (by omega)).mono ?_
            rintro e w2 ⟨A2, c2, rfl, o2, b2⟩
            have hr2 := Rd.own o2
            have hcd2 := hcd.below b2
            have hrz3 := hrz2.below b2
            have lR : (zs.map coldM).reverse.length = zs.length := by simp
            go_wp2_with fail
            refine (iRun_n _ _ lR _ _ _ _ hr2 _).mono ?_
            rintro e w' ⟨rfl, rfl⟩
            go_wp2_with fail
            refine (iFrost_n _ _ lC _ _ _ _ hcd2).mono ?_
            rintro e w' ⟨rfl, rfl⟩
            go_wp2_with fail
            refine (iFrost_any _ _ _ _ _ hrz3).mono ?_
            rintro e w' ⟨rfl, rfl⟩
            go_wp2
            go_ret
            exact ⟨rfl, b1.trans ((hbel.trans (b2.mono hbel.size)).mono b1.size)⟩
    · have e : runT m zs = -1 := runT_neg h
      have q0 : runT m zs < 0 := by omega
      have H := Lib.hid e
      clear e h
      go_wp2_with (first | (go_at_call 22; refine (iRunIce_any _ _ _ _ _ hrz _).mono ?_; rintro e w' ⟨rfl, rfl⟩) | (go_at_call 23; refine (sRunIce_any _ _ _ _ _ hrz _).mono ?_; rintro e w' ⟨rfl, rfl⟩))
      go_ret
      exact ⟨rfl, b1⟩
  · have hn' : 1048576 < cs.length := by omega
    go_enter Try.func6, Try.ntmps6
    go_wp2
    go_ret
    exact ⟨rfl, Below.refl _ _⟩

set_option maxRecDepth 100000 in
theorem lifted (os : Os) (started : os.Started) (H : Type) (enc : TypeId × Value → H) :
    ReturnsInHanded {} Try.checked os 6 .any (Rows.fnRunIceFrostSpec.pre6 enc Try.prog Try.f6 Rows.fnRunIceFrostRow.domain false) (Rows.fnRunIceFrostSpec.post enc Try.prog Try.f6 false true false false) := by
  refine returnsInHanded_of_change (C := Try.checked) ownNone started (by kernel_rfl) Try.func6
    (ChangeSpec.witness6 (enc := enc) (C := Try.checked) false ⟨#[], #[.slice none 0 0], []⟩ 8 (by kernel_rfl) (by kernel_rfl) (by kernel_rfl) (by kernel_rfl)) ?_
  intro W base args ds gs before hval0 hW hcnd _
  have hval : ∀ (j : Nat) t v, Try.f6.params[j]? = some t → args[j]? = some v → Value.okWide Try.prog W .any base t v := hval0
  have hW' := hW
  obtain ⟨p, q, hA0, hV, rfl, _, _⟩ := hW
  have hA : DataW.TrodAll enc Try.prog W 0 (fun _ => true) true Try.f6.params.toList args.toList ds p := hA0
  rw [Try.params6] at hA hval
  obtain ⟨v0, vs0, d0, ds0, p0, q0, hargs, rfl, rfl, h0, r0⟩ := trodAll_cons hA
  obtain ⟨rfl, rfl, rfl⟩ := trodAll_nil r0
  obtain rfl : args = #[v0] := by cases args; simp_all
  obtain ⟨rfl, rfl⟩ := trodVars_none hV
  obtain ⟨Acs, ccs, cs, rfl, hrcs, hlcs, hqcs⟩ := open_rd Try.underlying22 Try.underlying5 cellsByte (hval 0 22 v0 rfl rfl) h0
  have hbcs := byte_bounds hqcs
  clear hA0 hval0
  refine (walk W cs Acs ccs hrcs hbcs hlcs).mono fun e W' ⟨he, hg⟩ => ?_
  subst he
  exact ⟨_, rfl, law_post laidOut (by kernel_rfl) rfl rfl rfl rfl rfl Try.underlying4 hW' hg⟩

/-- The statement. -/
theorem proved : Rows.FnRunIceFrostSaid :=
  OpenClaim.holds_of_wide 6 Try.f6 rfl rfl rfl rfl rfl rfl rfl ⟨rfl, rfl, rfl, rfl, rfl⟩ rfl rfl rfl rfl rfl (by kernel_rfl) Try.func6 (by kernel_rfl)
    (of_decide_eq_true (by kernel_rfl)) (by unfold Func.isWrapper; first | (rw [if_pos (by decide +kernel)]; kernel_rfl) | (rw [if_neg (by decide +kernel)]; exact ⟨rfl, rfl⟩))
    (fun os started H enc _ => lifted os started H enc)
#print axioms proved
end fnRunIceFrost

end Go.Proofs.Ythccmpbklhlohaa

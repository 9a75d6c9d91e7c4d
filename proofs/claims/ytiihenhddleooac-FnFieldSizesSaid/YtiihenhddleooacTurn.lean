/- The laws' helper turned, by a contract. -/
import Derived.Deep.RegionWith
import Derived.Test.YtiihenhddleooacPonds
import Derived.Test.YtiihenhddleooacTpF
namespace Go.Proofs.Ytiihenhddleooac
open Go.RowKit
set_option linter.unusedVariables false
set_option linter.unusedSimpArgs false
def TRow (pp : List (List Int)) (w : World) (lo x : Nat) (v i vo : Value) (m : Nat) (xs : List Value) (qq : List (List Int)) (wi : World) : Prop :=
  ∃ k : Nat, k ≤ pp.length ∧ i = .int .i64 k ∧ wi.ownsRow lo 3 1 v k (ints ((colF pp x).take k)) ∧ PG wi w.heap.size vo m xs qq ∧ Below w.heap.size w wi ∧ w.heap.size ≤ lo ∧ (∀ (i : Nat) (u : Value) (b : Nat), xs[i]? = some u → u.ownBlock = some b → b < lo) ∧ lo ≤ wi.heap.size
set_option maxRecDepth 100000 in
set_option maxHeartbeats 2000000 in
theorem turned_any (pp : List (List Int)) (A : Option Addr) (c : Nat) (w : World) (hp : Pnd w w.heap.size A pp) :
    Calls Try.prog 16 #[.slice A pp.length c] w fun e w' => ∃ A' c', e = .returned (.slice A' (wide pp) c') ∧ RdG w' w'.heap.size A' (tpF pp) ∧ Below w.heap.size w w' := by
  obtain ⟨i0, hi, hz0, hz1, hz2⟩ := info_parts info_int
  obtain ⟨j0, hj, hy0, hy1, hy2⟩ := info_parts info_ints
  have hl := pond_len hp.1
  have hw := pond_wide hp.1
  obtain ⟨bp, op, A0p, c0p, hAp, hbp, h0p⟩ := hp.row0
  subst hAp
  clear h0p
  go_enter Try.func16, Try.ntmps16
  go_wp2
  go_loopw [3, 4] (fun v i wr => ∃ (m : Nat) (xs : List Value), m ≤ wide pp ∧ i = .int .i64 m ∧ PG wr w.heap.size v m xs ((tpF pp).take m) ∧ Below w.heap.size w wr) (fun _ i _ => wide pp - (intOf i).toNat)
  case atStart =>
    exact ⟨0, [], Nat.zero_le _, rfl, ⟨own_empty w 32, rfl, fun k r hr => by simp at hr, fun i j u v b hu => by simp at hu, fun i u b hu => by simp at hu⟩, (Below.refl _ _).alloc (Nat.le_refl _) _⟩
  case round =>
    obtain ⟨m, xs, hm, rfl, hpg, hbel⟩ := hrel
    have hpr := hp.below hbel
    obtain ⟨b', o', A0', c0', heq, _, h0r⟩ := hpr.row0
    cases heq
    have hsz := hbel.size
    by_cases hlt : m < wide pp
    · have hst2 : TRow pp w wr.heap.size m (.slice (some ⟨wr.heap.size, 0, none⟩) 0 0) (.int .i64 (0 : Nat)) u3 m xs ((tpF pp).take m) (wr.alloc (.cells #[] 3)) :=
        ⟨0, Nat.zero_le _, rfl, own_empty wr _, hpg.below ((Below.refl _ _).alloc (Nat.le_refl _) _), hbel.alloc hsz _, hsz, hpg.hi_, by simp⟩
      have HST2 := Lib.hid hst2
      clear hst2 hpg hbel hpr
      generalize hlo : wr.heap.size = lo at HST2
      go_wp2
      go_loopw [5, 6] (fun v i wi => TRow pp w lo m v i u3 m xs ((tpF pp).take m) wi) (fun _ i _ => pp.length - (intOf i).toNat)
      case atStart => rw [← hlo] at HST2 ⊢; exact HST2.out
      case round =>
        clear hlo h0r
        obtain ⟨k, hk, rfl, hown, hpg, hbel, hwl, hxl, hls⟩ := hrel
        have HXL := Lib.hid hxl
        clear hxl
        by_cases hkW : k < pp.length
        · obtain ⟨b2, o2, A2, c2, heq2, _, hc2, hr2, hl2⟩ := (hp.below hbel).rowk hkW
          cases heq2
          obtain ⟨b3, o3, z, rfl, _, hz, hc3⟩ := hr2.int_ (k := m) (by rw [hl2.out]; exact hlt)
          have HZ : Hid ((colF pp m).take (k + 1) = (colF pp m).take k ++ [z]) := Lib.hid (take_snoc (colF_at hkW hz.out))
          clear hr2 hz hl2
          go_wp2_with (at_builtin; refine wpList_append_own _ rfl _ _ 32 rfl (lo) 3 i0 (.int .i64 0) 1 8 Try.underlying32 hi hz0 hz1 hz2 rfl (by decide) _ _ _ rfl (hown.alloc _) ⟨wr.heap.size, 0, none⟩ 1 1 [.int .i64 z] rfl rfl ?c1 ?c2 ?c3 ?c4 ?c5 ?_)
          case c1 => first | exact one_new _ _ _ _ rfl | exact one_new _ _ _ _ (by simp)
          case c2 => first | rfl | (intro u hu; simp at hu; subst hu; rfl)
          case c3 => unfold maxLen; omega
          case c4 => omega
          case c5 => simp; omega
          · intro v' w5 hown' hgrow _
            have hob := own_block hown
            have R : w5.ownsRow lo 3 1 v' (k + 1) (ints ((colF pp m).take (k + 1))) := by rw [HZ.out]; simpa [ints] using hown'
            have hbel5 : Below w.heap.size w w5 := (hbel.alloc (by omega) _).grown hgrow (by simp; omega) (fun k hk => by have := hob k hk; omega)
            have hpg5 : PG w5 w.heap.size u3 m xs ((tpF pp).take m) := (hpg.below ((Below.refl _ _).alloc (Nat.le_refl _) _)).grow hgrow (own_alloc hown (.cells #[.int .i64 z] 3)) (fun q hq => own_types hown hpg.out types_ne q hq) (fun i x q hx hq e => by have := HXL.out i x q hx e; have := hob q hq; omega)
            have hls5 : lo ≤ w5.heap.size := by have := hgrow.size; simp at this; omega
            have HR5 := Lib.hid R
            have HPG := Lib.hid hpg5
            have HB5 := Lib.hid hbel5
            clear hown' hgrow hown R hpg5 hpg hbel hbel5
            go_wp2
            go_roundw
            case rel => exact ⟨k + 1, by omega, by go_num, HR5.out, HPG.out, HB5.out, hwl, HXL.out, hls5⟩
            case measure => simp [intOf]; omega
        · obtain rfl : k = pp.length := by omega
          obtain ⟨A6, c6, rfl⟩ := own_form hown
          have hout3 := hpg.out
          have hzl : (colF pp m).length = pp.length := colF_len pp m
          rw [List.take_of_length_le (by omega)] at hown
          have HZ : Hid ((tpF pp).take (m + 1) = (tpF pp).take m ++ [colF pp m]) := Lib.hid (take_snoc (tpF_at hlt))
          go_wp2_with (at_builtin; refine wpList_append_own _ rfl _ _ 29 rfl (w.heap.size) 32 j0 (.slice none 0 0) 1 24 Try.underlying29 hj hy0 hy1 hy2 rfl (by decide) _ _ _ rfl (hout3.alloc _) ⟨wr.heap.size, 0, none⟩ 1 1 [.slice A6 pp.length c6] rfl rfl ?d1 ?d2 ?d3 ?d4 ?d5 ?_)
          case d1 => first | exact one_new _ _ _ _ rfl | exact one_new _ _ _ _ (by simp)
          case d2 => first | rfl | (intro u hu; simp at hu; subst hu; rfl)
          case d3 => unfold maxLen; omega
          case d4 => omega
          case d5 => simp; omega
          · intro v' w5 hown' hgrow _
            have hob := own_block hout3
            have hrow3 : (wr.alloc (.cells #[.slice A6 pp.length c6] 32)).ownsRow lo 3 1 (.slice A6 (colF pp m).length c6) (colF pp m).length (ints (colF pp m)) := by rw [hzl]; exact own_alloc hown _
            have hpg5 := (hpg.below ((Below.refl _ _).alloc (Nat.le_refl _) (.cells #[.slice A6 pp.length c6] 32))).push hrow3 hwl HXL.out hgrow (by rw [hzl]; exact hown')
            rw [← HZ.out] at hpg5
            have hbel5 : Below w.heap.size w w5 := (hbel.alloc (by omega) _).grown hgrow (by simp; omega) hob
            have HPG := Lib.hid hpg5
            have HB5 := Lib.hid hbel5
            clear hown' hgrow hown hpg5 hpg hout3 hrow3 hbel hbel5
            go_wp2
            go_roundw
            case rel => exact ⟨m + 1, _, by omega, by go_num, HPG.out, HB5.out⟩
            case measure => simp [intOf]; omega
    · obtain rfl : m = wide pp := by omega
      obtain ⟨A6, c6, rfl⟩ := own_form hpg.out
      rw [List.take_of_length_le (by rw [tpF_len]; exact Nat.le_refl _)] at hpg
      have R := Lib.hid hpg.rd
      clear hpg
      go_wp2
      go_ret
      exact ⟨A6, c6, rfl, R.out, hbel⟩

end Go.Proofs.Ytiihenhddleooac

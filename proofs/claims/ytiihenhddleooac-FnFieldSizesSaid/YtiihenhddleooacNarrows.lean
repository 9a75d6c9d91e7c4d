/- Contracts of NarrowsOf, of the program and of the model. -/
import Derived.Test.YtiihenhddleooacSizesS
namespace Go.Proofs.Ytiihenhddleooac
open Go.RowKit
set_option linter.unusedVariables false
set_option linter.unusedSimpArgs false
theorem isd_less {bs : List Bool} {k : Nat} (h : k < bs.length) : isd (bs.set k false) = okW (isd bs) k := by
  funext j
  unfold isd okW
  rw [List.getD_eq_getElem?_getD, List.getElem?_set]
  by_cases e : k = j
  · subst e; simp [h]
  · have : decide (j ≠ k) = true := decide_eq_true (fun x => e x.symm)
    rw [if_neg e, this, Bool.and_true, ← List.getD_eq_getElem?_getD]
def OutNar (n : Nat) (nb : Nat → List Nat) (ok : Nat → Bool) (w : World) (e : Ending) (w' : World) : Prop :=
  ∃ fs ys, Lab n nb ok fs ∧ IsNar n nb ok fs n ys ∧ OutI (nats ys) w e w'
def NaRel (w wr : World) (n g c lo : Nat) (sf : List Bool) (nb : Nat → List Nat) (ok : Nat → Bool) (fs : List Int) (v i : Value) : Prop :=
  ∃ (k m : Nat) (ys : List Nat), k ≤ n ∧ i = .int .i64 k ∧ m = ys.length ∧ IsNar n nb ok fs k ys ∧ wr.ownsRow lo 3 1 v m (ints (nats ys)) ∧ wr.ownsRow w.heap.size 4 1 (.slice (some ⟨g, 0, none⟩) n c) n (bools sf) ∧ Below w.heap.size w wr ∧ lo ≤ wr.heap.size
set_option maxRecDepth 100000 in
set_option maxHeartbeats 2000000 in
theorem iNar_ok (pp : List (List Int)) (A : Option Addr) (c : Nat) (w : World) (hp : Pnd w w.heap.size A pp) (load : Int) :
    Calls Try.prog 20 #[.slice A pp.length c, .int .i64 load] w (OutNar (cnt pp) (nbP pp) (okF pp load) w) := by
  have Hv : Hid (pondB pp = true) := Lib.hid hp.1
  have hg := hp.2
  have hc := pond_cnt hp.1
  obtain ⟨i0, hi0, hz0, hz1, hz2⟩ := info_parts info_int
  have HOKL : Hid (∀ i, okF pp load i = true → i < cnt pp) := Lib.hid fun i h => okF_lt i h
  go_enter Try.func20, Try.ntmps20
  go_wp2_with fail
  refine (iVal_is _ _ _ _ _ hg Hv.out).mono ?_
  rintro e w' ⟨rfl, rfl⟩
  go_wp2_with fail
  refine (iSafe_ok hp load).mono ?_
  rintro e w1 ⟨A1, c1, _, rfl, o1, b1⟩
  obtain ⟨g, rfl, hg1, hgl, _, _⟩ := own_some o1 (by omega)
  go_wp2_with fail
  refine (fieldsOn_safe (hp.up b1) load _ _ (Rd.own o1)).mono ?_
  rintro e w2 ⟨fs, hlab, A2, c2, hl2, rfl, o2, b2⟩
  have HLab := Lib.hid hlab
  have HL := Lib.hid hl2
  have hh := hlab.hi_lt
  have hh0 := hi_ge fs
  have HBD := Lib.hid hlab.bd
  have o12 := own_below o1 b2
  have b12 := b1.trans (b2.mono b1.size)
  have hgl2 : g < w2.heap.size := by have := b2.size; omega
  clear hlab hl2
  go_wp2_with fail
  refine (fieldCount_any _ fs HL.out _ _ _ _ (Rd.own o2) (fun z hz => by have := HBD.out z hz; omega) (by omega)).mono ?_
  rintro e w' ⟨rfl, rfl⟩
  have HSF := Lib.hid (safeF_at pp load)
  have HSL := Lib.hid (safeF_len pp load)
  have HWO := fun (k : Nat) (hk : k < cnt pp) => isd_less (bs := safeF pp load) (k := k) (by rw [HSL.out]; exact hk)
  rw [HSF.out] at HWO
  have HW := Lib.hid HWO
  clear HWO
  have one : (w2.alloc (.cells #[] 3)).ownsRow w2.heap.size 3 1 (.slice (some ⟨w2.heap.size, 0, none⟩) 0 0) 0 (ints (nats [])) := own_empty w2 _
  have HST := Lib.hid (show NaRel w (w2.alloc (.cells #[] 3)) (cnt pp) g c1 w2.heap.size (safeF pp load) (nbP pp) (okF pp load) fs (.slice (some ⟨w2.heap.size, 0, none⟩) 0 0) (.int .i64 (0 : Nat)) from
    ⟨0, 0, [], Nat.zero_le _, rfl, rfl, IsNar.start, one, own_alloc o12 _, b12.alloc b12.size _, by simp⟩)
  clear one o12 b12 o1 o2 b1 b2
  go_wp2
  go_loopw [7, 22] (fun v i wr => NaRel w wr (cnt pp) g c1 w2.heap.size (safeF pp load) (nbP pp) (okF pp load) fs v i) (fun _ i _ => cnt pp - (intOf i).toNat)
  case atStart => exact HST.out
  case round =>
    obtain ⟨k, m, ys, hk, rfl, hm, hnar, hown, hos, hbel, hlo⟩ := hrel
    have HM := Lib.hid hm
    have HNar := Lib.hid hnar
    have hmn : m ≤ cnt pp := by rw [hm]; exact hnar.lt HOKL.out
    clear hm hnar
    generalize hlo' : w2.heap.size = lo at *
    by_cases hlt : k < cnt pp
    · have hcs := own_cell hos (bools_at (bs := safeF pp load) (k := k) (by rw [HSL.out]; exact hlt))
      rw [HSF.out] at hcs
      cases hq : okF pp load k
      · rw [hq] at hcs
        have Hq := Lib.hid hq
        clear hq
        go_wp2
        go_roundw
        case rel => exact ⟨k + 1, m, ys, by omega, by go_num, HM.out, HNar.out.skip (fun h => by rw [Hq.out] at h; cases h), hown, hos, hbel, hlo⟩
        case measure => simp [intOf]; omega
      · rw [hq] at hcs
        have Hq := Lib.hid hq
        clear hq
        go_wp2_with fail
        refine (withoutCell_any (cnt pp) (safeF pp load) HSL.out _ _ _ (Rd.own hos) (by omega) k hlt).mono ?_
        rintro e w4 ⟨A4, c4, h4⟩
        obtain ⟨rfl, o4, b4⟩ := h4
        have h4l : Hid (((safeF pp load).set k false).length = cnt pp) := Lib.hid (by rw [List.length_set]; exact HSL.out)
        rw [h4l.out] at o4
        rw [h4l.out]
        have hb4 := hbel.trans (b4.mono hbel.size)
        have hfo := fieldsOn_any pp A c w4 (hp.up hb4) ((safeF pp load).set k false) h4l.out A4 c4 (Rd.own o4)
        rw [HW.out k hlt] at hfo
        go_wp2_with fail
        refine hfo.mono ?_
        clear hfo
        rintro e w3 ⟨gs, hlab, A5, c5, hl5, rfl, o5, b5⟩
        have HLg := Lib.hid hlab
        have HL5 := Lib.hid hl5
        have hg0 := hi_ge gs
        have hg1 := hlab.hi_lt
        have HBG := Lib.hid hlab.bd
        have hown3 := own_below (own_below hown b4) b5
        have hos3 := own_below (own_below hos b4) b5
        have hbel3 := hb4.trans (b5.mono hb4.size)
        have hlo3 : lo ≤ w3.heap.size := by have := b4.size; have := b5.size; omega
        clear hlab hl5 o4 b4 b5 hb4 hown hos hbel hlo
        go_wp2_with fail
        refine (fieldCount_any _ gs HL5.out _ _ _ _ (Rd.own o5) (fun z hz => by have := HBG.out z hz; omega) (by omega)).mono ?_
        rintro e w' ⟨rfl, rfl⟩
        clear o5
        by_cases hmore : hi fs < hi gs
        · have hmore2 : hi fs + 1 < hi gs + 1 := by omega
          go_wp2_with (at_builtin; refine wpList_append_own _ rfl _ _ 32 rfl (lo) 3 i0 (.int .i64 0) 1 8 Try.underlying32 hi0 hz0 hz1 hz2 rfl (by decide) _ _ _ rfl (hown3.alloc _) ⟨w3.heap.size, 0, none⟩ 1 1 [.int .i64 (k : Int)] rfl rfl ?c1 ?c2 ?c3 ?c4 ?c5 ?_)
          first | (case c1 => first | exact one_new _ _ _ _ rfl | exact one_new _ _ _ _ (by simp)) | skip
          case c2 => first | rfl | (intro u hu; simp at hu; subst hu; rfl)
          case c3 => unfold maxLen; omega
          case c4 => omega
          case c5 => have := hbel3.size; simp; omega
          · intro v' w5 hown' hgrow _
            have hR : w5.ownsRow lo 3 1 v' (m + 1) (ints (nats (ys ++ [k]))) := by rw [← ints_nats_snoc]; exact hown'
            have hos5 := own_grown (own_alloc hos3 _) hgrow (fun q hq e => by have := own_block hown3 q hq; simp [Value.ownBlock] at e; omega)
            have hb5 : Below w.heap.size w w5 := (hbel3.alloc hbel3.size _).grown hgrow (by have := hbel3.size; simp; omega) (fun q hq => by have := own_block hown3 q hq; have := hbel3.size; omega)
            have hlo5 : lo ≤ w5.heap.size := by have := hgrow.size; simp at this; omega
            have HR := Lib.hid hR
            have HO := Lib.hid hos5
            clear hown' hgrow hR hos5 hown3 hos3 hbel3
            go_wp2
            go_roundw
            case rel => exact ⟨k + 1, m + 1, ys ++ [k], by omega, by go_num, by rw [List.length_append, ← HM.out]; rfl, HNar.out.add Hq.out ((moreF_iff HLg.out).2 hmore), HR.out, HO.out, hb5, hlo5⟩
            case measure => simp [intOf]; omega
        · have hmore2 : ¬ hi fs + 1 < hi gs + 1 := by omega
          have Hno := Lib.hid hmore
          clear hmore
          go_wp2
          go_roundw
          case rel => exact ⟨k + 1, m, ys, by omega, by go_num, HM.out, HNar.out.skip (fun _ h => absurd ((moreF_iff HLg.out).1 h) (by have := Hno.out; omega)), hown3, hos3, hbel3, hlo3⟩
          case measure => simp [intOf]; omega
    · obtain rfl : k = cnt pp := by omega
      obtain ⟨A7, c7, rfl⟩ := own_form hown
      have R : OutNar (cnt pp) (nbP pp) (okF pp load) w (.returned (.slice A7 m c7)) wr := ⟨fs, ys, HLab.out, HNar.out, out_mk (n := m) (by rw [nats_length]; exact HM.out.symm) (own_base hown (by omega)) hbel⟩
      clear hown hos hbel
      go_wp2
      go_ret
      exact R

end Go.Proofs.Ytiihenhddleooac

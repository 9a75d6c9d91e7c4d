/- Contract of the model's NarrowsOf; ponds that are not valid have no sizes and no narrows. -/
import Derived.Test.YtiihenhddleooacNarrows
namespace Go.Proofs.Ytiihenhddleooac
open Go.RowKit
set_option linter.unusedVariables false
set_option linter.unusedSimpArgs false
set_option maxRecDepth 100000 in
set_option maxHeartbeats 400000 in
theorem iSizes_no (pp : List (List Int)) (A : Option Addr) (c : Nat) (w : World) (hg : RdG w w.heap.size A pp) (hv : pondB pp = false) (load : Int) :
    Calls Try.prog 11 #[.slice A pp.length c, .int .i64 load] w (OutL 0 [] w) := by
  have Hv := Lib.hid hv
  clear hv
  go_enter Try.func11, Try.ntmps11
  go_wp2_with (go_at_call 14; refine (iVal_is _ _ _ _ _ hg Hv.out).mono ?_; rintro e w' ⟨rfl, rfl⟩)
  go_ret
  exact out_n rfl (out_nil w)
set_option maxRecDepth 100000 in
set_option maxHeartbeats 400000 in
theorem iNar_no (pp : List (List Int)) (A : Option Addr) (c : Nat) (w : World) (hg : RdG w w.heap.size A pp) (hv : pondB pp = false) (load : Int) :
    Calls Try.prog 20 #[.slice A pp.length c, .int .i64 load] w (OutL 0 [] w) := by
  have Hv := Lib.hid hv
  clear hv
  go_enter Try.func20, Try.ntmps20
  go_wp2_with (go_at_call 14; refine (iVal_is _ _ _ _ _ hg Hv.out).mono ?_; rintro e w' ⟨rfl, rfl⟩)
  go_ret
  exact out_n rfl (out_nil w)
set_option maxRecDepth 100000 in
set_option maxHeartbeats 400000 in
theorem sSizes_no (pp : List (List Int)) (A : Option Addr) (c : Nat) (w : World) (hg : RdG w w.heap.size A pp) (hn : pp.length ≤ 1048576) (hv : pondB pp = false) (load : Int) :
    Calls Try.prog 13 #[.slice A pp.length c, .int .i64 load] w (OutL 0 [] w) := by
  have Hv := Lib.hid hv
  clear hv
  go_enter Try.func13, Try.ntmps13
  go_wp2_with (go_at_call 38; refine (sVal_is _ _ _ _ _ hg hn Hv.out).mono ?_; rintro e w' ⟨rfl, nv, rfl⟩)
  go_ret
  exact ⟨_, _, rfl, rfl, ⟨rfl, .inl ⟨rfl, rfl⟩⟩, below_drewN (Below.refl _ _) _⟩
set_option maxRecDepth 100000 in
set_option maxHeartbeats 400000 in
theorem sNar_no (pp : List (List Int)) (A : Option Addr) (c : Nat) (w : World) (hg : RdG w w.heap.size A pp) (hn : pp.length ≤ 1048576) (hv : pondB pp = false) (load : Int) :
    Calls Try.prog 21 #[.slice A pp.length c, .int .i64 load] w (OutL 0 [] w) := by
  have Hv := Lib.hid hv
  clear hv
  go_enter Try.func21, Try.ntmps21
  go_wp2_with (go_at_call 38; refine (sVal_is _ _ _ _ _ hg hn Hv.out).mono ?_; rintro e w' ⟨rfl, nv, rfl⟩)
  go_ret
  exact ⟨_, _, rfl, rfl, ⟨rfl, .inl ⟨rfl, rfl⟩⟩, below_drewN (Below.refl _ _) _⟩
def NsRel (w wr : World) (n : Nat) (nb : Nat → List Nat) (ok : Nat → Bool) (fs : List Int) (v i : Value) : Prop :=
  ∃ (k m : Nat) (ys : List Nat), k ≤ n ∧ i = .int .i64 k ∧ m = ys.length ∧ IsNar n nb ok fs k ys ∧ wr.ownsRow w.heap.size 3 1 v m (ints (nats ys)) ∧ Below w.heap.size w wr
set_option maxRecDepth 100000 in
set_option maxHeartbeats 2000000 in
theorem sNar_ok (pp : List (List Int)) (A : Option Addr) (c : Nat) (w : World) (hp : Pnd w w.heap.size A pp) (load : Int) :
    Calls Try.prog 21 #[.slice A pp.length c, .int .i64 load] w (OutNar (cnt pp) (nbP pp) (okF pp load) w) := by
  have Hv : Hid (pondB pp = true) := Lib.hid hp.1
  have hg := hp.2
  have hc := pond_cnt hp.1
  have hn : pp.length ≤ 1048576 := by have := pond_len hp.1; omega
  obtain ⟨i0, hi0, hz0, hz1, hz2⟩ := info_parts info_int
  have HOKL : Hid (∀ i, okF pp load i = true → i < cnt pp) := Lib.hid fun i h => okF_lt i h
  go_enter Try.func21, Try.ntmps21
  go_wp2_with fail
  refine (sVal_is _ _ _ _ _ hg hn Hv.out).mono ?_
  rintro e w' ⟨rfl, nv, rfl⟩
  have bn : Below w.heap.size w ((w.drewN nv).alloc (.cells #[] 3)) := (below_drewN (Below.refl _ _) nv).alloc (by simp) _
  have one : ((w.drewN nv).alloc (.cells #[] 3)).ownsRow w.heap.size 3 1 (.slice (some ⟨w.heap.size, 0, none⟩) 0 0) 0 (ints (nats [])) := own_empty (w.drewN nv) _
  go_wp2_with fail
  refine (regions_all (hp.up bn) load).mono ?_
  rintro e w2 ⟨fs, hlab, A2, c2, hl2, rfl, o2, b2⟩
  have HLab := Lib.hid hlab
  have HL := Lib.hid hl2
  have hh := hlab.hi_lt
  have hh0 := hi_ge fs
  have b12 := bn.trans (b2.mono bn.size)
  have one2 := own_below one b2
  clear hlab hl2
  go_wp2_with fail
  refine (highest_any _ fs HL.out _ _ _ _ (Rd.own o2) (by omega)).mono ?_
  rintro e w' ⟨rfl, rfl⟩
  have HST := Lib.hid (show NsRel w w2 (cnt pp) (nbP pp) (okF pp load) fs (.slice (some ⟨w.heap.size, 0, none⟩) 0 0) (.int .i64 (0 : Nat)) from
    ⟨0, 0, [], Nat.zero_le _, rfl, rfl, IsNar.start, one2, b12⟩)
  clear one one2 b12 o2 b2 bn
  go_wp2
  go_loopw [5, 7] (fun v i wr => NsRel w wr (cnt pp) (nbP pp) (okF pp load) fs v i) (fun _ i _ => cnt pp - (intOf i).toNat)
  case atStart => exact HST.out
  case round =>
    obtain ⟨k, m, ys, hk, rfl, hm, hnar, hown, hbel⟩ := hrel
    have HM := Lib.hid hm
    have HNar := Lib.hid hnar
    have hmn : m ≤ cnt pp := by rw [hm]; exact hnar.lt HOKL.out
    have hpr := hp.up hbel
    clear hm hnar
    by_cases hlt : k < cnt pp
    · cases hq : okF pp load k
      · have Hq := Lib.hid hq
        clear hq
        go_wp2_with (first | (go_at_call 47; refine (sCnt_any _ _ _ _ _ hpr).mono ?_; rintro e w' ⟨rfl, rfl⟩) | (go_at_call 48; refine (bears_is _ _ _ _ _ hpr _ hlt _ Hq.out).mono ?_; rintro e w' ⟨rfl, nq, rfl⟩))
        go_roundw
        case rel => exact ⟨k + 1, m, ys, by omega, by go_num, HM.out, HNar.out.skip (fun h => by rw [Hq.out] at h; cases h), hown, below_drewN hbel _⟩
        case measure => simp [intOf]; omega
      · have Hq := Lib.hid hq
        clear hq
        go_wp2_with fail
        refine (sCnt_any _ _ _ _ _ hpr).mono ?_
        rintro e w' ⟨rfl, rfl⟩
        go_wp2_with fail
        refine (bears_is _ _ _ _ _ hpr _ hlt _ Hq.out).mono ?_
        rintro e w' ⟨rfl, nq, rfl⟩
        have hbq := below_drewN hbel nq
        go_wp2_with fail
        refine (regions_but (hp.up hbq) load k).mono ?_
        rintro e w3 ⟨gs, hlab, A5, c5, hl5, rfl, o5, b5⟩
        have HLg := Lib.hid hlab
        have HL5 := Lib.hid hl5
        have hg0 := hi_ge gs
        have hg1 := hlab.hi_lt
        have hown3 := own_below (own_drewN hown nq) b5
        have hbel3 := hbq.trans (b5.mono hbq.size)
        clear hlab hl5 b5 hown hbel hbq hpr
        go_wp2_with fail
        refine (highest_any _ gs HL5.out _ _ _ _ (Rd.own o5) (by omega)).mono ?_
        rintro e w' ⟨rfl, rfl⟩
        clear o5
        by_cases hmore : hi fs < hi gs
        · go_wp2_with (at_builtin; refine wpList_append_own _ rfl _ _ 32 rfl (w.heap.size) 3 i0 (.int .i64 0) 1 8 Try.underlying32 hi0 hz0 hz1 hz2 rfl (by decide) _ _ _ rfl (hown3.alloc _) ⟨w3.heap.size, 0, none⟩ 1 1 [.int .i64 (k : Int)] rfl rfl ?c1 ?c2 ?c3 ?c4 ?c5 ?_)
          first | (case c1 => first | exact one_new _ _ _ _ rfl | exact one_new _ _ _ _ (by simp)) | skip
          case c2 => first | rfl | (intro u hu; simp at hu; subst hu; rfl)
          case c3 => unfold maxLen; omega
          case c4 => omega
          case c5 => have := hbel3.size; simp; omega
          · intro v' w5 hown' hgrow _
            have hR : w5.ownsRow w.heap.size 3 1 v' (m + 1) (ints (nats (ys ++ [k]))) := by rw [← ints_nats_snoc]; exact hown'
            have hb5 : Below w.heap.size w w5 := (hbel3.alloc hbel3.size _).grown hgrow (by have := hbel3.size; simp; omega) (own_block hown3)
            have HR := Lib.hid hR
            clear hown' hgrow hR hown3 hbel3
            go_wp2
            go_roundw
            case rel => exact ⟨k + 1, m + 1, ys ++ [k], by omega, by go_num, by rw [List.length_append, ← HM.out]; rfl, HNar.out.add Hq.out ((moreF_iff HLg.out).2 hmore), HR.out, hb5⟩
            case measure => simp [intOf]; omega
        · have Hno := Lib.hid hmore
          go_wp2
          go_roundw
          case rel => exact ⟨k + 1, m, ys, by omega, by go_num, HM.out, HNar.out.skip (fun _ h => absurd ((moreF_iff HLg.out).1 h) (by have := Hno.out; omega)), hown3, hbel3⟩
          case measure => simp [intOf]; omega
    · obtain rfl : k = cnt pp := by omega
      obtain ⟨A7, c7, rfl⟩ := own_form hown
      have R : OutNar (cnt pp) (nbP pp) (okF pp load) w (.returned (.slice A7 m c7)) wr := ⟨fs, ys, HLab.out, HNar.out, out_mk (n := m) (by rw [nats_length]; exact HM.out.symm) hown hbel⟩
      clear hown hbel
      go_wp2_with (go_at_call 47; refine (sCnt_any _ _ _ _ _ hpr).mono ?_; rintro e w' ⟨rfl, rfl⟩)
      go_ret
      exact R

end Go.Proofs.Ytiihenhddleooac

/- Contracts of fieldsOn and FieldsOf: the number of the field of each cell. -/
import Derived.Test.YtiihenhddleooacFrom
namespace Go.Proofs.Ytiihenhddleooac
open Go.RowKit
set_option linter.unusedVariables false
set_option linter.unusedSimpArgs false
def OutL (n : Nat) (l : List Int) (w : World) (e : Ending) (w' : World) : Prop :=
  ∃ A' c', l.length = n ∧ e = .returned (.slice A' n c') ∧ w'.ownsRow w.heap.size 3 1 (.slice A' n c') n (ints l) ∧ Below w.heap.size w w'
theorem out_n {l : List Int} {n : Nat} {w w' : World} {e : Ending} (hl : l.length = n) (h : OutI l w e w') : OutL n l w e w' := by
  subst hl
  obtain ⟨A', c', h1, h2, h3⟩ := h
  exact ⟨A', c', rfl, h1, h2, h3⟩
def OutBL (n : Nat) (l : List Bool) (w : World) (e : Ending) (w' : World) : Prop :=
  ∃ A' c', l.length = n ∧ e = .returned (.slice A' n c') ∧ w'.ownsRow w.heap.size 4 1 (.slice A' n c') n (bools l) ∧ Below w.heap.size w w'
theorem outB_n {l : List Bool} {n : Nat} {w w' : World} {e : Ending} (hl : l.length = n) (h : OutB l w e w') : OutBL n l w e w' := by
  subst hl
  obtain ⟨A', c', h1, h2, h3⟩ := h
  exact ⟨A', c', rfl, h1, h2, h3⟩
def OutLab (n : Nat) (nb : Nat → List Nat) (ok : Nat → Bool) (w : World) (e : Ending) (w' : World) : Prop :=
  ∃ fs, Lab n nb ok fs ∧ OutL n fs w e w'
/-- the first t of some cells have got the number N -/
def Fill (fs : List Int) (cs : List Nat) (N : Int) (n t : Nat) (gs : List Int) : Prop := gs.length = n ∧ ∀ i, at_ gs i = if i ∈ cs.take t then N else at_ fs i
theorem fill_step {fs gs : List Int} {cs : List Nat} {N : Int} {n t c : Nat} (h : Fill fs cs N n t gs) (hc : cs[t]? = some c) (hn : c < n) : Fill fs cs N n (t + 1) (gs.set c N) := by
  refine ⟨by rw [List.length_set]; exact h.1, fun i => ?_⟩
  rw [at_set _ _ _ _ (by rw [h.1]; exact hn), take_snoc hc]
  by_cases e : i = c
  · subst e; simp
  · rw [if_neg e, h.2 i]
    simp [e]
def FoRel (w : World) (n g c : Nat) (nb : Nat → List Nat) (ok : Nat → Bool) (v i : Value) (wr : World) : Prop :=
  ∃ (k : Nat) (N : Int) (fs : List Int), k ≤ n ∧ i = .int .i64 k ∧ v = .int .i64 N ∧ N ≤ k ∧ PLab n nb ok k N fs ∧ wr.ownsRow w.heap.size 3 1 (.slice (some ⟨g, 0, none⟩) n c) n (ints fs) ∧ Below w.heap.size w wr
set_option maxRecDepth 100000 in
set_option maxHeartbeats 2000000 in
theorem fieldsOn_any (pp : List (List Int)) (A : Option Addr) (c : Nat) (w : World) (hp : Pnd w w.heap.size A pp) (sf : List Bool) (hsl : sf.length = cnt pp) (As : Option Addr) (cs0 : Nat) (hs : Rd w w.heap.size As (bools sf)) :
    Calls Try.prog 45 #[.slice A pp.length c, .slice As (cnt pp) cs0] w (OutLab (cnt pp) (nbP pp) (isd sf) w) := by
  have hc := pond_cnt hp.1
  have hok : ∀ i, isd sf i = true → i < cnt pp := fun i hi => by
    rcases Nat.lt_or_ge i sf.length with h | h
    · omega
    · simp [isd, List.getD_eq_getElem?_getD, h] at hi
  have Gr0 := gr_pond hp.1
  have HOK := Lib.hid hok
  have HSL := Lib.hid hsl
  clear hok hsl
  generalize hn : cnt pp = n at *
  have HN := Lib.hid hn
  clear hn
  have hN1 : 1 ≤ n ∧ n ≤ 81 := hc
  go_enter Try.func45, Try.ntmps45
  go_wp2_with fail
  refine (noneOf_any n (by omega) _).mono ?_
  intro e w1 h1
  obtain ⟨A1, c1, hl1, rfl, o1, b1⟩ := out_n (n := n) (by simp) h1
  clear h1 hl1
  obtain ⟨g, rfl, hg, hg1, hgc, hgm⟩ := own_some o1 (by omega)
  go_wp2
  go_loopw [6, 15] (fun v i wr => FoRel w n g c1 (nbP pp) (isd sf) v i wr) (fun _ i _ => n - (intOf i).toNat)
  case atStart => exact ⟨0, 0, _, Nat.zero_le _, rfl, rfl, by omega, PLab.start, o1, b1⟩
  case round =>
    obtain ⟨k, N, fs, hk, rfl, rfl, hNk, hpl, hown, hbel⟩ := hrel
    have HP := Lib.hid hpl
    have hNn := hpl.nn
    have HL := Lib.hid hpl.len
    clear hpl
    by_cases hlt : k < n
    · obtain ⟨bs, os, rfl, hbs, hcS⟩ := (hs.below hbel).bool_ (k := k) (by rw [HSL.out]; exact hlt)
      have hcl := own_cell hown (ints_at' (zs := fs) (k := k) (by rw [HL.out]; exact hlt))
      cases hq : isd sf k
      · rw [hq] at hcS
        have Hq := Lib.hid hq
        clear hq
        go_wp2
        go_roundw
        case rel => exact ⟨k + 1, N, fs, by omega, by go_num, rfl, by omega, HP.out.skip (.inl Hq.out), hown, hbel⟩
        case measure => simp [intOf]; omega
      · rw [hq] at hcS
        have Hq := Lib.hid hq
        clear hq
        by_cases hneg : at_ fs k < 0
        · have hpr := hp.up hbel
          have hsr := (hs.below hbel).more hbel.size
          go_wp2_with fail
          have HC := from_any pp A c wr hpr sf (by rw [HSL.out]; exact HN.out.symm) _ cs0 hsr k Hq.out
          rw [HN.out] at HC
          refine HC.mono ?_
          clear HC
          rintro e w2 ⟨cs, g2, m, cap, hcs, hcl2, hmn, rfl, o2, b2⟩
          have HCS := Lib.hid hcs
          have HCL := Lib.hid hcl2
          have hgr : g < wr.heap.size := own_lt hown g rfl
          have hown2 := own_below hown b2
          have hbel2 := hbel.trans (b2.mono hbel.size)
          have HLO : ∃ lo, lo = wr.heap.size := ⟨_, rfl⟩
          obtain ⟨lo, hlo⟩ := HLO
          rw [← hlo] at o2 hgr
          clear hcs hcl2 hlo hown hbel hpr hsr hcl hcS b2
          go_wp2
          go_loopw [34] (fun t wi => ∃ (j : Nat) (gs : List Int), j ≤ m ∧ t = .int .i64 j ∧ Fill fs cs N n j gs ∧ wi.ownsRow w.heap.size 3 1 (.slice (some ⟨g, 0, none⟩) n c1) n (ints gs) ∧ wi.ownsRow lo 3 1 (.slice (some ⟨g2, 0, none⟩) m cap) m (ints (nats cs)) ∧ Below w.heap.size w wi) (fun t _ => m - (intOf t).toNat)
          case atStart => exact ⟨0, fs, Nat.zero_le _, rfl, ⟨HL.out, fun i => by simp⟩, hown2, o2, hbel2⟩
          case round =>
            obtain ⟨j, gs, hj, rfl, hfill, hog, hoc, hbi⟩ := hrel
            have HF := Lib.hid hfill
            clear hfill
            by_cases hjl : j < m
            · obtain ⟨ci, hci⟩ : ∃ ci, cs[j]? = some ci := ⟨_, List.getElem?_eq_getElem (by rw [HCL.out]; exact hjl)⟩
              have hcell := own_cell hoc (nats_get hci)
              have hcin : ci < n := HOK.out ci ((HCS.out ci).1 (List.mem_of_getElem? hci)).right
              have hfz := own_frozen hog ci
              have hcl := own_cell hog (ints_at' (zs := gs) (k := ci) (by rw [HF.out.1]; exact hcin))
              have HCI := Lib.hid hci
              clear hci
              go_wp2
              go_roundw
              case rel =>
                refine ⟨j + 1, gs.set ci N, by omega, by go_num, fill_step HF.out HCI.out hcin, ?_, own_other hoc (own_apart hoc hgr) _, hbi.setCell (by simpa using hg) _⟩
                rw [← ints_set]
                exact own_put hog ci _
              case measure => simp [intOf]; omega
            · obtain rfl : j = m := by omega
              have hpl2 : PLab n (nbP pp) (isd sf) (k + 1) (N + 1) gs := HP.out.fill Gr0 HOK.out Hq.out hneg HF.out.1
                (fun i hi => by rw [HF.out.2 i, List.take_of_length_le (by rw [HCL.out]; exact Nat.le_refl _), if_pos ((HCS.out i).2 hi)])
                (fun i hi => by rw [HF.out.2 i, List.take_of_length_le (by rw [HCL.out]; exact Nat.le_refl _), if_neg (fun h => hi ((HCS.out i).1 h))])
              have HP2 := Lib.hid hpl2
              clear hpl2
              go_wp2
              go_roundw
              case rel => exact ⟨k + 1, N + 1, gs, by omega, by go_num, rfl, by omega, HP2.out, hog, hbi⟩
              case measure => simp [intOf]; omega
        · go_wp2
          go_roundw
          case rel => exact ⟨k + 1, N, fs, by omega, by go_num, rfl, by omega, HP.out.skip (.inr (by omega)), hown, hbel⟩
          case measure => simp [intOf]; omega
    · obtain rfl : k = n := by omega
      have R : OutLab k (nbP pp) (isd sf) w (.returned (.slice (some ⟨g, 0, none⟩) k c1)) wr := ⟨fs, HP.out.done HOK.out, _, _, HL.out, rfl, hown, hbel⟩
      clear hown hbel
      go_wp2
      go_ret
      exact R

end Go.Proofs.Ytiihenhddleooac

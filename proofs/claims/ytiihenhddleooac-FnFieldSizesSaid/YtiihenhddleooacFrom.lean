/- Contract of cellsFrom: all cells to which steps over safe cells lead. -/
import Derived.Test.YtiihenhddleooacLists
namespace Go.Proofs.Ytiihenhddleooac
open Go.RowKit
set_option linter.unusedVariables false
set_option linter.unusedSimpArgs false
/-- while a list that was made between lo and w2 is read, blocks below lo and new ones change; the list s that grows is one of these. -/
def Frm (lo : Nat) (w2 wi : World) (g : Nat) : Prop :=
  w2.heap.size ≤ wi.heap.size ∧ (∀ k, lo ≤ k → k < w2.heap.size → wi.heap[k]? = w2.heap[k]?) ∧ (g < lo ∨ w2.heap.size ≤ g)
theorem Frm.refl {lo g : Nat} {w2 : World} (h : g < lo ∨ w2.heap.size ≤ g) : Frm lo w2 w2 g := ⟨Nat.le_refl _, fun _ _ _ => rfl, h⟩
theorem Frm.drewN {lo g : Nat} {w2 wi : World} (h : Frm lo w2 wi g) (n : Nat) : Frm lo w2 (wi.drewN n) g := h
theorem Frm.set {lo g : Nat} {w2 wi : World} (h : Frm lo w2 wi g) {b k : Nat} (hb : b < lo ∨ w2.heap.size ≤ b) (y : Value) : Frm lo w2 (wi.setCell ⟨b, k, none⟩ y) g :=
  ⟨by simpa [World.setCell] using h.1, fun q h1 h2 => (Below.heap_setCell wi ⟨b, k, none⟩ y q (fun e => by subst e; omega)).trans (h.2.1 q h1 h2), h.2.2⟩
theorem Frm.push {lo g g' : Nat} {w2 wi wj : World} {x : Value} {T : TypeId} (h : Frm lo w2 wi g) (hg : (wi.alloc (.cells #[x] T)).grownBy wj (some g)) (hg' : g' = g ∨ wi.heap.size ≤ g') : Frm lo w2 wj g' := by
  have hs : wi.heap.size + 1 ≤ wj.heap.size := by have := hg.size; simpa using this
  refine ⟨by have := h.1; omega, fun q h1 h2 => ?_, ?_⟩
  · have h3 := h.1
    rw [hg.block q (by simp; omega) (fun e => by injection e with e; have := h.2.2; omega)]
    rw [← h.2.1 q h1 h2]
    exact Below.heap_alloc wi _ q (by omega)
  · have h3 := h.1
    rcases hg' with rfl | h4
    · exact h.2.2
    · exact .inr (by omega)
theorem Frm.own {lo g n : Nat} {w2 wi : World} {T : TypeId} {v : Value} {xs : List Value} (h : Frm lo w2 wi g) (ho : w2.ownsRow lo T 1 v n xs) : wi.ownsRow lo T 1 v n xs := own_far (g := 0) ho fun k h1 h2 => h.2.1 k h1 h2

/-- the search's own lists: cells found, and which ones. -/
def Srch (w wr : World) (n g m cap : Nat) (cs : List Nat) : Prop :=
  m = cs.length ∧ wr.ownsRow (w.heap.size + 1) 3 1 (.slice (some ⟨g, 0, none⟩) m cap) m (ints (nats cs)) ∧
    (∃ fd : List Bool, fd.length = n ∧ (∀ c, isd fd c = decide (c ∈ cs)) ∧ wr.ownsRow w.heap.size 4 1 (.slice (some ⟨w.heap.size, 0, none⟩) n n) n (bools fd)) ∧ Below w.heap.size w wr
theorem srch_below {w wr w2 : World} {n g m cap : Nat} {cs : List Nat} (h : Srch w wr n g m cap cs) (hb : Below wr.heap.size wr w2) : Srch w w2 n g m cap cs := by
  obtain ⟨h1, h2, ⟨fd, h3, h4, h5⟩, h6⟩ := h
  exact ⟨h1, own_below h2 hb, ⟨fd, h3, h4, own_below h5 hb⟩, h6.trans (hb.mono h6.size)⟩
theorem srch_drewN {w wr : World} {n g m cap : Nat} {cs : List Nat} (h : Srch w wr n g m cap cs) (q : Nat) : Srch w (wr.drewN q) n g m cap cs := by
  obtain ⟨h1, h2, h3, h6⟩ := h
  exact ⟨h1, h2, h3, below_drewN h6 q⟩
theorem isd_mem {fd : List Bool} {cs : List Nat} {n k : Nat} (hl : fd.length = n) (hk : k < n) (h : ∀ c, isd fd c = decide (c ∈ cs)) : ∀ c, isd (fd.set k true) c = decide (c ∈ cs ++ [k]) := fun c => by
  rw [isd_set fd k c (by omega)]
  by_cases e : c = k
  · subst e; simp
  · rw [if_neg e, h c]
    simp [e]
theorem ints_nats_snoc (cs : List Nat) (k : Nat) : ints (nats cs) ++ [.int .i64 (k : Int)] = ints (nats (cs ++ [k])) := by simp [ints, nats]
theorem nats_get {l : List Nat} {k c : Nat} (h : l[k]? = some c) : (ints (nats l))[k]? = some (.int .i64 (c : Int)) := by
  rw [ints, nats, List.getElem?_map, List.getElem?_map, h]; rfl
/-- what cellsFrom answers -/
def OutCs (nb : Nat → List Nat) (ok : Nat → Bool) (a n : Nat) (w : World) (e : Ending) (w' : World) : Prop :=
  ∃ (cs : List Nat) (g m cap : Nat), (∀ c, c ∈ cs ↔ Rch nb ok a c) ∧ cs.length = m ∧ m ≤ n ∧ e = .returned (.slice (some ⟨g, 0, none⟩) m cap) ∧ w'.ownsRow w.heap.size 3 1 (.slice (some ⟨g, 0, none⟩) m cap) m (ints (nats cs)) ∧ Below w.heap.size w w'
def InRel (w wr w2 wi : World) (nb : Nat → List Nat) (ok : Nat → Bool) (a n i c L : Nat) (s t : Value) : Prop :=
  ∃ (j g m cap : Nat) (cs : List Nat), j ≤ L ∧ t = .int .i64 j ∧ s = .slice (some ⟨g, 0, none⟩) m cap ∧ BfsI nb ok a cs i c j ∧ Srch w wi n g m cap cs ∧ Frm wr.heap.size w2 wi g
set_option maxRecDepth 100000 in
set_option maxHeartbeats 2000000 in
theorem from_any (pp : List (List Int)) (A : Option Addr) (c : Nat) (w : World) (hp : Pnd w w.heap.size A pp) (sf : List Bool) (hsl : sf.length = cnt pp) (As : Option Addr) (cs0 : Nat) (hs : Rd w w.heap.size As (bools sf)) (a : Nat) (ha : isd sf a = true) :
    Calls Try.prog 64 #[.slice A pp.length c, .slice As (cnt pp) cs0, .int .i64 a] w (OutCs (nbP pp) (isd sf) a (cnt pp) w) := by
  have hc := pond_cnt hp.1
  have hok : ∀ i, isd sf i = true → i < cnt pp := fun i hi => by
    rcases Nat.lt_or_ge i sf.length with h | h
    · omega
    · simp [isd, List.getD_eq_getElem?_getD, h] at hi
  have Gr0 := gr_pond hp.1
  have haN := hok a ha
  have HOK := Lib.hid hok
  have HA := Lib.hid ha
  have HSL := Lib.hid hsl
  have HNB : Hid (∀ k, (nbP pp k).length ≤ 4) := Lib.hid fun k => nb4_len _ _ _
  clear hok ha hsl
  have hmk := run_make_row' (P := Try.prog) 27 4 (.bool false) 1 Try.underlying27 info_bool rfl .i64 .i64 (cnt pp) (by omega) (by omega)
  have hown0 := own_made w (.bool false) (cnt pp) 4 (by unfold maxLen; omega)
  have hfz0 := own_frozen hown0 a
  have hcl0 := own_cell hown0 (k := a) (x := .bool false) (by simp [haN])
  obtain ⟨i0, hi, hz0, hz1, hz2⟩ := info_parts info_int
  have hown1 := own_put hown0 a (.bool true)
  have hx1 : (List.replicate (cnt pp) (Value.bool false)).set a (Value.bool true) = bools ((List.replicate (cnt pp) false).set a true) := by rw [← bools_set]; simp [bools]
  rw [hx1, World.setCell_alloc_new] at hown1
  have HO1 := Lib.hid hown1
  clear hown1 hx1 hown0
  generalize hN : cnt pp = N at *
  have HN := Lib.hid hN
  clear hN
  go_enter Try.func64, Try.ntmps64
  go_wp2
  go_loopw [8, 9] (fun s i wr => ∃ (j g m cap : Nat) (cs : List Nat), j ≤ m ∧ i = .int .i64 j ∧ s = .slice (some ⟨g, 0, none⟩) m cap ∧ BfsO (nbP pp) (isd sf) a cs j ∧ Srch w wr N g m cap cs) (fun _ i _ => N - (intOf i).toNat)
  case atStart =>
    have hc1 := own_one (w.alloc (.cells ((madeCells #[Value.bool false] N).setIfInBounds a (.bool true)) 4)) 3 (.int .i64 (a : Int))
    refine ⟨0, _, 1, 1, [a], by omega, rfl, rfl, BfsO.start HA.out, rfl, ?_, ⟨_, ?_, ?_, own_alloc HO1.out _⟩, ?_⟩
    · have h2 := own_base hc1 (base' := w.heap.size + 1) (by simp)
      simpa [ints, nats] using h2
    · simp
    · intro c
      rw [isd_set _ _ _ (by simpa using haN), isd_rep]
      by_cases e : c = a
      · subst e; simp
      · simp [e]
    · exact ((Below.refl _ _).alloc (Nat.le_refl _) _).alloc (by simp) _
  case round =>
    obtain ⟨j, g, m, cap, cs, hj, rfl, rfl, hbfs, hsr⟩ := hrel
    have HB := Lib.hid hbfs
    have hmN : m ≤ N := by rw [hsr.1]; exact hbfs.le HOK.out
    clear hbfs
    by_cases hlt : j < m
    · have hsr' := hsr
      obtain ⟨hm, hcs, hfd, hbel⟩ := hsr
      have hjl : j < cs.length := by omega
      obtain ⟨ci, hci⟩ : ∃ ci, cs[j]? = some ci := ⟨_, List.getElem?_eq_getElem hjl⟩
      have hcell := own_cell hcs (nats_get hci)
      have HCI := Lib.hid hci
      have hcn : ci < cnt pp := by rw [HN.out]; exact HOK.out ci (HB.out.rch ci (List.mem_of_getElem? hci)).right
      have hpr := hp.up hbel
      have HM := Lib.hid hm
      have HS := Lib.hid hsr'
      have hgl := own_lt hcs g rfl
      have hg0 : w.heap.size < wr.heap.size := by obtain ⟨fd, _, _, h⟩ := hfd; exact own_lt h _ rfl
      clear hm hcs hfd hci hsr'
      have hnb := HNB.out ci
      have hgr : g < wr.heap.size := hgl
      go_wp2_with fail
      refine (iBeside_any _ _ _ _ hpr _ hcn).mono ?_
      rintro e w2 ⟨A2, c2, rfl, o2, b2⟩
      go_wp2
      have hL : (nats (nbP pp ci)).length ≤ 4 := by rw [nats_length]; exact hnb
      have HLL : Hid ((nats (nbP pp ci)).length = (nbP pp ci).length) := Lib.hid (nats_length _)
      generalize hLe : (nats (nbP pp ci)).length = L at *
      clear hLe
      have HS2 : Hid (Srch w w2 N g m cap cs) := Lib.hid (srch_below HS.out b2)
      have hfr : Frm wr.heap.size w2 w2 g := Frm.refl (.inl hgr)
      go_loopw [8, 33] (fun s t wi => InRel w wr w2 wi (nbP pp) (isd sf) a N j ci L s t) (fun _ t _ => L - (intOf t).toNat)
      case atStart => exact ⟨0, g, m, cap, cs, Nat.zero_le _, rfl, rfl, HB.out.begin HCI.out, HS2.out, hfr⟩
      case round =>
        obtain ⟨t, g', m', cap', ds, ht, rfl, rfl, hbi, hsi, hfi⟩ := hrel
        by_cases htl : t < L
        · obtain ⟨k, hk⟩ : ∃ k, (nbP pp ci)[t]? = some k := ⟨_, List.getElem?_eq_getElem (by have := HLL.out; omega)⟩
          have o2i := hfi.own o2
          obtain ⟨g2, rfl, hg2, hg2', _, _⟩ := own_some o2i (by omega)
          have hcA := own_cell o2i (nats_get hk)
          have hkN : k < N := Gr0.lt ci k (by have := HN.out; omega) (List.mem_of_getElem? hk)
          have HBI := Lib.hid hbi
          have HSI := Lib.hid hsi
          have HK := Lib.hid hk
          obtain ⟨hm', hcs', ⟨fd, hfl, hfe, hfo⟩, hbel'⟩ := hsi
          obtain ⟨bs, os, rfl, hbs, hcS⟩ := (hs.below hbel').bool_ (k := k) (by rw [HSL.out]; exact hkN)
          have hcF := own_cell hfo (bools_at (bs := fd) (k := k) (by omega))
          have hfz := own_frozen hfo k
          have HFE := Lib.hid hfe
          have HFL := Lib.hid hfl
          have HM' := Lib.hid hm'
          rw [hfe k] at hcF
          clear hfe hfl hm' hbi hk o2i
          cases hq : isd sf k
          · rw [hq] at hcS
            have Hq := Lib.hid hq
            clear hq
            go_wp2
            go_roundw
            case rel => exact ⟨t + 1, g', m', cap', ds, by omega, by go_num, rfl, HBI.out.skip HK.out (.inl Hq.out), HSI.out, hfi⟩
            case measure => simp [intOf]; omega
          · rw [hq] at hcS
            have Hq := Lib.hid hq
            clear hq
            by_cases hmem : k ∈ ds
            · rw [decide_eq_true hmem] at hcF
              have HMem := Lib.hid hmem
              clear hmem
              go_wp2
              go_roundw
              case rel => exact ⟨t + 1, g', m', cap', ds, by omega, by go_num, rfl, HBI.out.skip HK.out (.inr HMem.out), HSI.out, hfi⟩
              case measure => simp [intOf]; omega
            · rw [decide_eq_false hmem] at hcF
              have HMem := Lib.hid hmem
              clear hmem
              have hnew := HBI.out.add HK.out Hq.out HMem.out
              have hmN' : m' ≤ N := by rw [HM'.out]; exact HBI.out.o.le HOK.out
              have HNew := Lib.hid hnew
              clear hnew
              have hcs2 : (wr.setCell ⟨w.heap.size, k, none⟩ (.bool true)).ownsRow (w.heap.size + 1) 3 1 (.slice (some ⟨g', 0, none⟩) m' cap') m' (ints (nats ds)) := own_other hcs' (own_apart hcs' (by omega)) _
              have hfo2 := own_put hfo k (.bool true)
              have hfi2 := hfi.set (k := k) (b := w.heap.size) (.inl hg0) (.bool true)
              have hbel2 : Below w.heap.size w (wr.setCell ⟨w.heap.size, k, none⟩ (.bool true)) := hbel'.setCell (by simp) (.bool true)
              have hsz2 : w.heap.size + 1 ≤ wr.heap.size := by have := hbel'.size; have := own_lt hfo w.heap.size rfl; omega
              have HO2 := Lib.hid hfo2
              have HF2 := Lib.hid hfi2
              have HBL2 := Lib.hid hbel2
              have HSF := Lib.hid hfo
              clear hfo2 hfi2 hbel2
              go_wp2_with (at_builtin; refine push_own rfl _ _ 32 rfl (w.heap.size + 1) 3 i0 (.int .i64 0) 8 Try.underlying32 hi hz0 hz1 hz2 rfl g' m' cap' _ rfl (own_alloc hcs2 _) _ _ (.int .i64 (k : Int)) rfl ?c1 rfl (by omega) (by omega) ?c5 ?_)
              case c1 => first | exact one_new _ _ _ _ rfl | exact one_new _ _ _ _ (by simp)
              case c5 => simp [World.setCell]; omega
              · intro g'' cap'' w5 hown' hgrow hwhere
                have hown'' : w5.ownsRow (w.heap.size + 1) 3 1 (.slice (some ⟨g'', 0, none⟩) (m' + 1) cap'') (m' + 1) (ints (nats (ds ++ [k]))) := by rw [← ints_nats_snoc]; exact hown'
                have hgne : g' ≠ w.heap.size := fun e => own_apart hcs2 (b := w.heap.size) (by omega) (by rw [e]; rfl)
                have hF5 := HF2.out.push hgrow (hwhere.imp id (fun h => by simp [World.setCell] at *; omega))
                have hS5 : Srch w w5 N g'' (m' + 1) cap'' (ds ++ [k]) := by
                  refine ⟨by rw [List.length_append, ← HM'.out]; rfl, hown'', ⟨fd.set k true, by rw [List.length_set]; exact HFL.out, isd_mem HFL.out hkN HFE.out, ?_⟩, ?_⟩
                  · rw [← bools_set]
                    exact own_grown (own_alloc HO2.out _) hgrow (fun q hq e => by simp [Value.ownBlock] at e; injection hq with hq; omega)
                  · refine (HBL2.out.alloc (by simp [World.setCell]; omega) _).grown hgrow (by simp [World.setCell]; omega) (fun q hq => by injection hq with hq; have := own_block hcs2 g' rfl; omega)
                have HS5 := Lib.hid hS5
                have HF5 := Lib.hid hF5
                clear hown' hown'' hgrow hwhere hcs2 hcs' hfo hF5 hS5 hfi hcF hcA hfz hcS hbel'
                go_wp2
                go_roundw
                case rel => exact ⟨t + 1, g'', m' + 1, cap'', ds ++ [k], by omega, by go_num, by go_num, HNew.out, HS5.out, HF5.out⟩
                case measure => simp [intOf]; omega
        · have HT : Hid (t = (nbP pp ci).length) := Lib.hid (by have := HLL.out; omega)
          have hm'' : j + 1 ≤ m' := by
            have := (List.getElem?_eq_some_iff.1 hbi.cur).1
            have := hsi.1
            omega
          have HBI := Lib.hid hbi
          have HSI := Lib.hid hsi
          clear hbi hsi
          go_wp2
          go_roundw
          case rel => exact ⟨j + 1, g', m', cap', ds, hm'', by go_num, rfl, (by have h := HBI.out; rw [HT.out] at h; exact h.fin), HSI.out⟩
          case measure => simp [intOf]; omega
    · obtain rfl : j = m := by omega
      have R : OutCs (nbP pp) (isd sf) a N w (.returned (.slice (some ⟨g, 0, none⟩) j cap)) wr :=
        ⟨cs, g, j, cap, HB.out.done (by rw [← hsr.1]; exact Nat.le_refl _), hsr.1.symm, hmN, rfl, own_base hsr.2.1 (by omega), hsr.2.2.2⟩
      clear hsr
      go_wp2
      go_ret
      exact R

end Go.Proofs.Ytiihenhddleooac

/- Contracts of risksOver and RisksFrom: the least risks of ways to all cells. -/
import Derived.Deep.LoopGhost
import Derived.Test.YtbnggakfogcaladLeast
namespace Go.Proofs.Ytbnggakfogcalad
open Go.RowKit
set_option linter.unusedVariables false
set_option linter.unusedSimpArgs false
def OutRisk (n : Nat) (nb : Nat → List Nat) (ok : Nat → Bool) (rk : Nat → Int) (a : Nat) (w : World) (e : Ending) (w' : World) : Prop :=
  ∃ rs, IsRisk n nb ok rk a rs ∧ OutL n rs w e w'
theorem outRisk_after {n : Nat} {nb : Nat → List Nat} {ok : Nat → Bool} {rk : Nat → Int} {a : Nat} {w w1 w' : World} {e : Ending} (hb : Below w.heap.size w w1) (h : OutRisk n nb ok rk a w1 e w') : OutRisk n nb ok rk a w e w' := by
  obtain ⟨fs, hl, A', c', h1, h2, h3, h4⟩ := h
  exact ⟨fs, hl, A', c', h1, h2, own_base h3 hb.size, hb.trans (h4.mono hb.size)⟩
/-- the two lists of the search -/
def Two (w wr : World) (n g1 c1 g2 c2 : Nat) (rs : List Int) (dn : List Bool) : Prop :=
  wr.ownsRow w.heap.size 3 1 (.slice (some ⟨g1, 0, none⟩) n c1) n (ints rs) ∧ wr.ownsRow w.heap.size 4 1 (.slice (some ⟨g2, 0, none⟩) n c2) n (bools dn) ∧ g1 ≠ g2 ∧ Below w.heap.size w wr
theorem two_below {w wr w2 : World} {n g1 c1 g2 c2 : Nat} {rs : List Int} {dn : List Bool} (h : Two w wr n g1 c1 g2 c2 rs dn) (hb : Below wr.heap.size wr w2) : Two w w2 n g1 c1 g2 c2 rs dn := by
  obtain ⟨h1, h2, h3, h4⟩ := h
  exact ⟨own_below h1 hb, own_below h2 hb, h3, h4.trans (hb.mono h4.size)⟩
theorem two_drewN {w wr : World} {n g1 c1 g2 c2 : Nat} {rs : List Int} {dn : List Bool} (h : Two w wr n g1 c1 g2 c2 rs dn) (q : Nat) : Two w (wr.drewN q) n g1 c1 g2 c2 rs dn := by
  obtain ⟨h1, h2, h3, h4⟩ := h
  exact ⟨h1, h2, h3, below_drewN h4 q⟩
theorem two_rs {w wr : World} {n g1 c1 g2 c2 : Nat} {rs : List Int} {dn : List Bool} (h : Two w wr n g1 c1 g2 c2 rs dn) (k : Nat) (z : Int) : Two w (wr.setCell ⟨g1, k, none⟩ (.int .i64 z)) n g1 c1 g2 c2 (rs.set k z) dn := by
  obtain ⟨h1, h2, h3, h4⟩ := h
  have := own_block h1 g1 rfl
  exact ⟨by rw [← ints_set]; exact own_put h1 k _, own_other h2 (fun e => by simp [Value.ownBlock] at e; omega) _, h3, h4.setCell (by simpa using this) _⟩
theorem two_dn {w wr : World} {n g1 c1 g2 c2 : Nat} {rs : List Int} {dn : List Bool} (h : Two w wr n g1 c1 g2 c2 rs dn) (k : Nat) (b : Bool) : Two w (wr.setCell ⟨g2, k, none⟩ (.bool b)) n g1 c1 g2 c2 rs (dn.set k b) := by
  obtain ⟨h1, h2, h3, h4⟩ := h
  have := own_block h2 g2 rfl
  exact ⟨own_other h1 (fun e => by simp [Value.ownBlock] at e; omega) _, by rw [← bools_set]; exact own_put h2 k _, h3, h4.setCell (by simpa using this) _⟩
def RkRel (w : World) (n g1 c1 g2 c2 : Nat) (nb : Nat → List Nat) (ok : Nat → Bool) (rk : Nat → Int) (a : Nat) (m : Nat) (s : Value) (wr : World) : Prop :=
  ∃ (rs : List Int) (dn : List Bool) (l : Int), s = .int .i64 l ∧ Least rs dn n l ∧ opens dn = m ∧ Dij n nb ok rk a ((n : Int) - m) rs dn ∧ Two w wr n g1 c1 g2 c2 rs dn
def RkIn (w wr : World) (n g1 c1 g2 c2 : Nat) (nb : Nat → List Nat) (ok : Nat → Bool) (rk : Nat → Int) (a : Nat) (q : Int) (dn : List Bool) (c lo : Nat) (A2 : Option Addr) (cA L : Nat) (s : Value) : Prop :=
  ∃ (t : Nat) (rs : List Int), t ≤ L ∧ s = .int .i64 t ∧ DijI n nb ok rk a q rs dn c t ∧ Two w wr n g1 c1 g2 c2 rs dn ∧ wr.ownsRow lo 3 1 (.slice A2 L cA) L (ints (nats (nb c))) ∧ g1 < lo ∧ lo ≤ wr.heap.size
theorem Least.start {n a : Nat} (h : a < n) {r : Int} (h0 : 0 ≤ r) : Least ((List.replicate n (-1)).set a r) (List.replicate n false) n a := by
  refine .inr ⟨a, rfl, h, ?_, isd_rep n a, fun i _ hi _ => ?_⟩
  · rw [at_set _ _ _ _ (by simpa using h), if_pos rfl]; exact h0
  · have ea : at_ ((List.replicate n (-1)).set a r) a = r := by rw [at_set _ _ _ _ (by simpa using h), if_pos rfl]
    rw [ea]
    rw [at_set _ _ _ _ (by simpa using h)] at hi ⊢
    by_cases e : i = a
    · rw [if_pos e]; exact Int.le_refl _
    · rw [if_neg e, at_rep] at hi; omega
theorem opens_rep (n : Nat) : opens (List.replicate n false) = n := by simp [opens]
theorem nb_some {nb : Nat → List Nat} (h : ∀ k, (nb k).length ≤ 4) (k : Nat) : (nats (nb k)).length ≤ 4 := by rw [nats_length]; exact h k
set_option maxRecDepth 100000 in
set_option maxRecDepth 100000 in
set_option maxHeartbeats 4000000 in
theorem risksOver_any (pp : List (List Int)) (A : Option Addr) (c : Nat) (w : World) (hp : Pnd w w.heap.size A pp) (sf : List Bool) (hsl : sf.length = cnt pp) (As : Option Addr) (cs0 : Nat) (hs : Rd w w.heap.size As (bools sf)) (a : Nat) (ha : isd sf a = true) :
    Calls Try.prog 77 #[.slice A pp.length c, .slice As (cnt pp) cs0, .int .i64 a] w (OutRisk (cnt pp) (nbP pp) (isd sf) (rkF pp) a w) := by
  have hc := pond_cnt hp.1
  have hok : ∀ i, isd sf i = true → i < cnt pp := fun i hi => by
    rcases Nat.lt_or_ge i sf.length with h | h
    · omega
    · simp [isd, List.getD_eq_getElem?_getD, h] at hi
  have Gr0 := gr_pond hp.1
  have haN := hok a ha
  have HOK := Lib.hid hok
  have HA := Lib.hid ha
  have HSL := Lib.hid hsl
  have HNB : Hid (∀ k, (nbP pp k).length ≤ 4) := Lib.hid fun k => nb4_len _ _ _
  have HR1 : Hid (∀ k, 1 ≤ rkF pp k) := Lib.hid (rkF_ge pp)
  have HR2 : Hid (∀ k, rkF pp k ≤ 201) := Lib.hid (rkF_le pp)
  have ra1 := rkF_ge pp a
  have ra2 := rkF_le pp a
  have HaP : Hid (a < cnt pp) := Lib.hid haN
  clear hok ha hsl
  generalize hn : cnt pp = n at *
  have HN := Lib.hid hn
  clear hn
  have hmk := run_make_row' (P := Try.prog) 29 4 (.bool false) 1 Try.underlying29 info_bool rfl .i64 .i64 n (by omega) (by omega)
  go_enter Try.func77, Try.ntmps77
  go_wp2_with fail
  refine (noneOf_any n (by omega) _).mono ?_
  intro e w1 h1
  obtain ⟨A1, c1, hl1, rfl, o1, b1⟩ := out_n (n := n) (by simp) h1
  clear h1 hl1
  obtain ⟨g, rfl, hg, hg1, hgc, hgm⟩ := own_some o1 (by omega)
  have hpr := hp.up b1
  have hkn : a < cnt pp := by rw [HN.out]; exact haN
  have hcl := own_cell o1 (ints_at' (zs := List.replicate n (-1)) (k := a) (by simpa using haN))
  have hfz := own_frozen o1 a
  go_wp2_with fail
  refine (iRisk_any _ _ _ _ _ hpr _ hkn).mono ?_
  rintro e w' ⟨rfl, nr, rfl⟩
  have hTwo : Two w (((w1.drewN nr).setCell ⟨g, a, none⟩ (.int .i64 (rkF pp a))).alloc (.cells (madeCells #[Value.bool false] n) 4)) n g c1 w1.heap.size n ((List.replicate n (-1)).set a (rkF pp a)) (List.replicate n false) := by
    have h1 : ((w1.drewN nr).setCell ⟨g, a, none⟩ (.int .i64 (rkF pp a))).ownsRow w.heap.size 3 1 (.slice (some ⟨g, 0, none⟩) n c1) n (ints ((List.replicate n (-1)).set a (rkF pp a))) := by rw [← ints_set]; exact own_put (own_drewN o1 nr) a _
    have h2 := own_made ((w1.drewN nr).setCell ⟨g, a, none⟩ (.int .i64 (rkF pp a))) (.bool false) n 4 (by unfold maxLen; omega)
    have hsz : ((w1.drewN nr).setCell ⟨g, a, none⟩ (.int .i64 (rkF pp a))).heap.size = w1.heap.size := by simp [World.setCell]
    rw [hsz] at h2
    refine ⟨own_alloc h1 _, ?_, by omega, ((below_drewN b1 nr).setCell (by simpa using hg) _).alloc (by rw [hsz]; exact b1.size) _⟩
    have h3 := own_base h2 (base' := w.heap.size) b1.size
    simpa [bools] using h3
  have HT := Lib.hid hTwo
  clear hTwo o1 b1 hpr
  go_wp2
  go_loopg [9] n (fun m s wr => RkRel w n g c1 w1.heap.size n (nbP pp) (isd sf) (rkF pp) a m s wr)
  case atStart => exact ⟨_, _, _, rfl, Least.start haN (by omega), opens_rep n, by rw [Int.sub_self]; exact Dij.start haN HA.out ra1 ra2, HT.out⟩
  case round =>
    obtain ⟨rs, dn, l, rfl, hle, hop, hdij, htwo⟩ := hrel
    have HDij := Lib.hid hdij
    have HOp := Lib.hid hop
    have HTw := Lib.hid htwo
    have hgk : gk ≤ n := by rw [← hop, ← hdij.dlen]; exact opens_le dn
    clear hdij hop
    rcases hle with ⟨rfl, hall⟩ | ⟨ci, rfl, hcn, hc0, hco, hmin⟩
    · have R : OutRisk n (nbP pp) (isd sf) (rkF pp) a w (.returned (.slice (some ⟨g, 0, none⟩) n c1)) wr := by
        refine ⟨rs, HDij.out.done HR1.out (by omega) (fun i hi => ?_), _, _, HDij.out.len, rfl, htwo.1, htwo.2.2.2⟩
        exact hall i (by have := at_lt hi; have := HDij.out.len; omega) hi
      have HR := Lib.hid R
      clear R htwo hall
      go_wp2
      go_ret
      exact HR.out
    · have hTurn := HDij.out.turn (c := ci) hcn hc0 hco (fun i hi hd => hmin i (by have := at_lt hi; have := HDij.out.len; omega) hi hd)
      have HTurn := Lib.hid hTurn
      have hopen : opens (dn.set ci true) + 1 = gk := by
        rw [← HOp.out]
        exact opens_set (by rw [isd_get (by rw [HDij.out.dlen]; exact hcn), hco])
      have hq : (n : Int) - gk + 1 = (n : Int) - (opens (dn.set ci true) : Nat) := by omega
      rw [hq] at HTurn
      have HQ := Lib.hid hopen
      clear hTurn hq hmin hopen hco
      have htd := two_dn htwo ci true
      have HTd := Lib.hid htd
      have hfzd := own_frozen htwo.2.1 ci
      have hcld := own_cell htwo.2.1 (bools_at (bs := dn) (k := ci) (by rw [HDij.out.dlen]; exact hcn))
      have hbd : Below w.heap.size w (wr.setCell ⟨w1.heap.size, ci, none⟩ (.bool true)) := htd.2.2.2
      have hpd := hp.up hbd
      have hcp : ci < cnt pp := by rw [HN.out]; exact hcn
      have hnb := nb_some HNB.out ci
      clear htd htwo
      go_wp2_with fail
      refine (iBeside_any _ _ _ _ hpd _ hcp).mono ?_
      rintro e w2 ⟨A2, c2, rfl, o2, b2⟩
      have HTd2 : Hid (Two w w2 n g c1 w1.heap.size n rs (dn.set ci true)) := Lib.hid (two_below HTd.out b2)
      have HLL : Hid ((nats (nbP pp ci)).length = (nbP pp ci).length) := Lib.hid (nats_length _)
      generalize hLe : (nats (nbP pp ci)).length = L at *
      clear hLe
      have hlo2 : (wr.setCell ⟨w1.heap.size, ci, none⟩ (.bool true)).heap.size ≤ w2.heap.size := b2.size
      have hgl : g < (wr.setCell ⟨w1.heap.size, ci, none⟩ (.bool true)).heap.size := own_lt HTd.out.1 g rfl
      generalize hlo : (wr.setCell ⟨w1.heap.size, ci, none⟩ (.bool true)).heap.size = lo at *
      have hc0w := hc0
      clear hlo b2 hpd hbd hcld hfzd HTd HTw
      go_wp2
      go_loopw [38] (fun s wi => RkIn w wi n g c1 w1.heap.size n (nbP pp) (isd sf) (rkF pp) a ((n : Int) - (opens (dn.set ci true) : Nat)) (dn.set ci true) ci lo A2 c2 L s) (fun s _ => L - (intOf s).toNat)
      case atStart => exact ⟨0, rs, Nat.zero_le _, rfl, HTurn.out, HTd2.out, o2, hgl, hlo2⟩
      case round =>
        clear o2 hlo2
        obtain ⟨t, rs', ht, rfl, hdi, htw, hoA, hgl2, hlo'⟩ := hrel
        have HDi := Lib.hid hdi
        have HTw := Lib.hid htw
        have hqn : (opens (dn.set ci true) : Nat) ≤ n := by have := opens_le (dn.set ci true); rw [HDi.out.dlen] at this; exact this
        by_cases htl : t < L
        · obtain ⟨k, hk⟩ : ∃ k, (nbP pp ci)[t]? = some k := ⟨_, List.getElem?_eq_getElem (by have := HLL.out; omega)⟩
          have HK := Lib.hid hk
          obtain ⟨gA, rfl, hgA, _, _, _⟩ := own_some hoA (by omega)
          have hcA := own_cell hoA (nats_get hk)
          have hkN : k < n := Gr0.lt ci k hcn (List.mem_of_getElem? hk)
          have hkn2 : k < cnt pp := by rw [HN.out]; exact hkN
          have hpr := hp.up htw.2.2.2
          have hcc := own_cell htw.1 (ints_at' (zs := rs') (k := ci) (by rw [HDi.out.len]; exact hcn))
          have hck := own_cell htw.1 (ints_at' (zs := rs') (k := k) (by rw [HDi.out.len]; exact hkN))
          have hfk := own_frozen htw.1 k
          obtain ⟨bs, os, rfl, hbs, hcS⟩ := (hs.below htw.2.2.2).bool_ (k := k) (by rw [HSL.out]; exact hkN)
          have x0 := HDi.out.pos ci HDi.out.cur
          have x1 := HDi.out.bndc
          have y1 := HDi.out.bnd k
          have z0 := HR1.out k
          have z1 := HR2.out k
          obtain ⟨x, hx⟩ : ∃ x, x = at_ rs' ci := ⟨_, rfl⟩
          obtain ⟨y, hy⟩ : ∃ y, y = at_ rs' k := ⟨_, rfl⟩
          rw [← hx] at hcc x0 x1
          rw [← hy] at hck y1
          have HX : Hid (at_ rs' ci = x) := Lib.hid hx.symm
          have HY : Hid (at_ rs' k = y) := Lib.hid hy.symm
          clear hx hy hk htw hdi
          have hw1 : IntKind.i64.wrap (x + rkF pp k) = x + rkF pp k := IntWalk.i64_in _ (by omega)
          cases hq : isd sf k
          · rw [hq] at hcS
            have Hq := Lib.hid hq
            clear hq
            go_wp2
            refine wp_region_quiet_lit (by kernel_rfl) (by kernel_rfl) ?_
            repeat (go_big_quiet_step (fail))
            go_big_quiet_step ((go_at_call 114; exact quiet_draw (iRisk_any _ _ _ _ _ (hpr.drewN _) _ hkn2)))
            repeat (go_big_quiet_step (fail))
            refine wpQuiet_nil ?_
            intro _ hw'
            obtain ⟨nq, hw''⟩ := hw'
            subst hw''
            go_wp2
            go_roundw
            case rel => exact ⟨t + 1, rs', by omega, by go_num, HDi.out.skip HK.out (.inl Hq.out), two_drewN HTw.out _, own_drewN hoA _, hgl2, hlo'⟩
            case measure => simp [intOf]; omega
          · rw [hq] at hcS
            have Hq := Lib.hid hq
            clear hq
            by_cases hless : y < 0 ∨ x + rkF pp k < y
            · have HLess : Hid (DijI n (nbP pp) (isd sf) (rkF pp) a ((n : Int) - (opens (dn.set ci true) : Nat)) (rs'.set k (x + rkF pp k)) (dn.set ci true) ci (t + 1)) := Lib.hid (by
                have := HDi.out.less HR1.out HR2.out hkN HK.out Hq.out (by rw [HX.out, HY.out]; exact hless)
                rw [HX.out] at this
                exact this)
              by_cases hy0 : y < 0
              · clear hless
                go_wp2
                refine wp_region_quiet_lit (by kernel_rfl) (by kernel_rfl) ?_
                repeat (go_big_quiet_step (fail))
                go_big_quiet_step ((go_at_call 114; exact quiet_draw (iRisk_any _ _ _ _ _ (hpr.drewN _) _ hkn2)))
                repeat (go_big_quiet_step (fail))
                refine wpQuiet_nil ?_
                intro _ hw'
                obtain ⟨nq, hw''⟩ := hw'
                subst hw''
                go_wp2
                go_roundw
                case rel => exact ⟨t + 1, _, by omega, by go_num, HLess.out, two_rs (two_drewN HTw.out _) k _, own_other (own_drewN hoA _) (own_apart hoA hgl2) _, hgl2, by simpa [World.setCell] using hlo'⟩
                case measure => simp [intOf]; omega
              · have hl2 : x + rkF pp k < y := by omega
                have hy1 : 0 ≤ y := by omega
                clear hless
                go_wp2
                refine wp_region_quiet_lit (by kernel_rfl) (by kernel_rfl) ?_
                repeat (go_big_quiet_step (fail))
                go_big_quiet_step ((go_at_call 114; exact quiet_draw (iRisk_any _ _ _ _ _ (hpr.drewN _) _ hkn2)))
                repeat (go_big_quiet_step (fail))
                refine wpQuiet_nil ?_
                intro _ hw'
                obtain ⟨nq, hw''⟩ := hw'
                subst hw''
                go_wp2
                go_roundw
                case rel => exact ⟨t + 1, _, by omega, by go_num, HLess.out, two_rs (two_drewN HTw.out _) k _, own_other (own_drewN hoA _) (own_apart hoA hgl2) _, hgl2, by simpa [World.setCell] using hlo'⟩
                case measure => simp [intOf]; omega
            · have hy0 : 0 ≤ y := by omega
              have hl2 : y ≤ x + rkF pp k := by omega
              have HSkip : Hid (0 ≤ at_ rs' k ∧ at_ rs' k ≤ at_ rs' ci + rkF pp k) := Lib.hid (by rw [HX.out, HY.out]; exact ⟨hy0, hl2⟩)
              clear hless
              go_wp2
              refine wp_region_quiet_lit (by kernel_rfl) (by kernel_rfl) ?_
              repeat (go_big_quiet_step (fail))
              go_big_quiet_step ((go_at_call 114; exact quiet_draw (iRisk_any _ _ _ _ _ (hpr.drewN _) _ hkn2)))
              repeat (go_big_quiet_step (fail))
              refine wpQuiet_nil ?_
              intro _ hw'
              obtain ⟨nq, hw''⟩ := hw'
              subst hw''
              go_wp2
              go_roundw
              case rel => exact ⟨t + 1, rs', by omega, by go_num, HDi.out.skip HK.out (.inr HSkip.out), two_drewN HTw.out _, own_drewN hoA _, hgl2, hlo'⟩
              case measure => simp [intOf]; omega
        · have HT2 : Hid (t = (nbP pp ci).length) := Lib.hid (by have := HLL.out; omega)
          have hdone : DijI n (nbP pp) (isd sf) (rkF pp) a ((n : Int) - (opens (dn.set ci true) : Nat)) rs' (dn.set ci true) ci (nbP pp ci).length := by rw [← HT2.out]; exact HDi.out
          have HDone := Lib.hid hdone.fin
          clear hdone hdi
          go_wp2_with fail
          refine (leastOpen_any n rs' (dn.set ci true) HDi.out.len HDi.out.dlen _ _ _ _ _ _ (Rd.own htw.1) (Rd.own htw.2.1) (by omega)).mono ?_
          rintro e w' ⟨⟨l, rfl, hl⟩, rfl⟩
          have HLs := Lib.hid hl
          clear hl htw
          go_wp2
          go_roundg (opens (dn.set ci true))
          case measure => have := HQ.out; omega
          case rel => exact ⟨rs', dn.set ci true, l, rfl, HLs.out, rfl, HDone.out, HTw.out⟩

end Go.Proofs.Ytbnggakfogcalad

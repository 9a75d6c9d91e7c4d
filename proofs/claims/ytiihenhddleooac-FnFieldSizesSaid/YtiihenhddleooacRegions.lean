/- Contract of the model's regions: the number of the field of each cell, without one. -/
import Derived.Test.YtiihenhddleooacFields
namespace Go.Proofs.Ytiihenhddleooac
open Go.RowKit
set_option linter.unusedVariables false
set_option linter.unusedSimpArgs false
def RgW (w wr : World) (n g c lo : Nat) (fs : List Int) (N : Int) (g' m cap : Nat) (cs : List Nat) : Prop :=
  m = cs.length ∧ wr.ownsRow lo 3 1 (.slice (some ⟨g', 0, none⟩) m cap) m (ints (nats cs)) ∧
    (∃ gs : List Int, gs.length = n ∧ (∀ x, at_ gs x = if x ∈ cs then N else at_ fs x) ∧ wr.ownsRow w.heap.size 3 1 (.slice (some ⟨g, 0, none⟩) n c) n (ints gs)) ∧ Below w.heap.size w wr ∧ g < lo ∧ lo ≤ wr.heap.size
theorem rgW_below {w wr w2 : World} {n g c lo : Nat} {fs : List Int} {N : Int} {g' m cap : Nat} {cs : List Nat} (h : RgW w wr n g c lo fs N g' m cap cs) (hb : Below wr.heap.size wr w2) : RgW w w2 n g c lo fs N g' m cap cs := by
  obtain ⟨h1, h2, ⟨gs, h3, h4, h5⟩, h6, h7, h8⟩ := h
  exact ⟨h1, own_below h2 hb, ⟨gs, h3, h4, own_below h5 hb⟩, h6.trans (hb.mono h6.size), h7, Nat.le_trans h8 hb.size⟩
theorem rgW_drewN {w wr : World} {n g c lo : Nat} {fs : List Int} {N : Int} {g' m cap : Nat} {cs : List Nat} (h : RgW w wr n g c lo fs N g' m cap cs) (q : Nat) : RgW w (wr.drewN q) n g c lo fs N g' m cap cs := by
  obtain ⟨h1, h2, h3, h6, h7⟩ := h
  exact ⟨h1, h2, h3, below_drewN h6 q, h7⟩
theorem at_more {fs gs : List Int} {cs : List Nat} {N : Int} {n k : Nat} (hl : gs.length = n) (hk : k < n) (h : ∀ x, at_ gs x = if x ∈ cs then N else at_ fs x) : ∀ x, at_ (gs.set k N) x = if x ∈ cs ++ [k] then N else at_ fs x := fun x => by
  rw [at_set _ _ _ _ (by omega)]
  by_cases e : x = k
  · subst e; simp
  · rw [if_neg e, h x]
    simp [e]
def RgRel (w w2 wi : World) (n g c lo up : Nat) (fs : List Int) (N : Int) (nb : Nat → List Nat) (ok : Nat → Bool) (a i ci L : Nat) (s t : Value) : Prop :=
  ∃ (j g' m cap : Nat) (cs : List Nat), j ≤ L ∧ t = .int .i64 j ∧ s = .slice (some ⟨g', 0, none⟩) m cap ∧ BfsI nb ok a cs i ci j ∧ RgW w wi n g c lo fs N g' m cap cs ∧ Frm up w2 wi g'
theorem okB_but {pp : List (List Int)} {load but : Int} {k : Nat} (h : (k : Int) = but) : okB pp load but k = false := by
  unfold okB
  have : decide ((k : Int) ≠ but) = false := decide_eq_false (fun g => g h)
  rw [this, Bool.and_false, Bool.and_false]
theorem okB_and {pp : List (List Int)} {load but : Int} {k : Nat} (h : (k : Int) ≠ but) : okB pp load but k = okF pp load k := by
  unfold okB okF
  rw [decide_eq_true h, Bool.and_true]
theorem okB_F {pp : List (List Int)} {load but : Int} {k : Nat} (h : okF pp load k = false) : okB pp load but k = false := by
  by_cases e : (k : Int) = but
  · exact okB_but e
  · rw [okB_and e]; exact h
theorem bears_is {q : Bool} (pp : List (List Int)) (A : Option Addr) (c : Nat) (w : World) (B : Nat) (hp : Pnd w B A pp) (k : Nat) (hk : k < cnt pp) (load : Int) (h : okF pp load k = q) :
    Calls Try.prog 48 #[.slice A pp.length c, .int .i64 k, .int .i64 load] w fun e w' => e = .returned (.bool q) ∧ ∃ n, w' = w.drewN n := by
  have := bears_any pp A c w B hp k hk load
  rw [h] at this
  exact this
set_option maxRecDepth 100000 in
set_option maxRecDepth 100000 in
set_option maxHeartbeats 4000000 in
theorem regions_any (pp : List (List Int)) (A : Option Addr) (c : Nat) (w : World) (hp : Pnd w w.heap.size A pp) (load but : Int) :
    Calls Try.prog 39 #[.slice A pp.length c, .int .i64 load, .int .i64 but] w (OutLab (cnt pp) (nbP pp) (okB pp load but) w) := by
  have hc := pond_cnt hp.1
  have HOK : Hid (∀ i, okB pp load but i = true → i < cnt pp) := Lib.hid fun i hi => okB_lt i hi
  have Gr0 := gr_pond hp.1
  have HNB : Hid (∀ k, (nbP pp k).length ≤ 4) := Lib.hid fun k => nb4_len _ _ _
  have HCn : Hid (∀ (w' : World), Pnd w' w'.heap.size A pp → Calls Try.prog 47 #[.slice A pp.length c] w' fun e w'' => e = .returned (.int .i64 (cnt pp : Nat)) ∧ w' = w'') := Lib.hid fun w' h => sCnt_any pp A c w' _ h
  obtain ⟨i0, hi, hz0, hz1, hz2⟩ := info_parts info_int
  generalize hn : cnt pp = n at *
  have HN := Lib.hid hn
  clear hn
  have hN1 : 1 ≤ n ∧ n ≤ 81 := hc
  go_enter Try.func39, Try.ntmps39
  go_wp2
  go_loopw [7, 8] (fun s i wr => ∃ k : Nat, k ≤ n ∧ i = .int .i64 k ∧ wr.ownsRow w.heap.size 3 1 s k (ints (List.replicate k (-1))) ∧ Below w.heap.size w wr) (fun _ i _ => n - (intOf i).toNat)
  case atStart => exact ⟨0, Nat.zero_le _, rfl, own_empty w _, (Below.refl _ _).alloc (Nat.le_refl _) _⟩
  case round =>
    obtain ⟨k, hk, rfl, hown, hbel⟩ := hrel
    have hbz := hbel.size
    have hpr := hp.up hbel
    by_cases hlt : k < n
    · go_wp2_with (first | (go_at_call 47; refine (HCn.out _ hpr).mono ?_; rintro e w' ⟨rfl, rfl⟩) | (at_builtin; refine wpList_append_own _ rfl _ _ 32 rfl (w.heap.size) 3 i0 (.int .i64 0) 1 8 Try.underlying32 hi hz0 hz1 hz2 rfl (by decide) _ _ _ rfl (hown.alloc _) ⟨wr.heap.size, 0, none⟩ 1 1 [.int .i64 (-1)] rfl rfl ?c1 ?c2 ?c3 ?c4 ?c5 ?_))
      first | (case c1 => first | exact one_new _ _ _ _ rfl | exact one_new _ _ _ _ (by simp)) | skip
      case c2 => first | rfl | (intro u hu; simp at hu; subst hu; rfl)
      case c3 => unfold maxLen; omega
      case c4 => omega
      case c5 => have := hbel.size; simp; omega
      · intro v' w1 hown' hgrow _
        have R : w1.ownsRow w.heap.size 3 1 v' (k + 1) (ints (List.replicate (k + 1) (-1))) := by
          rw [List.replicate_succ']
          simpa [ints] using hown'
        have hb1 : Below w.heap.size w w1 := (hbel.alloc hbel.size _).grown hgrow (by have := hbel.size; simp; omega) (own_block hown)
        clear hown' hgrow hown hbel hpr
        go_wp2
        go_roundw
        case rel => exact ⟨k + 1, by omega, by go_num, R, hb1⟩
        case measure => simp [intOf]; omega
    · obtain rfl : n = k := by omega
      obtain ⟨A1, c1, rfl⟩ := own_form hown
      obtain ⟨g, rfl, hg, hg1, hgc, hgm⟩ := own_some hown (by omega)
      go_wp2_with (go_at_call 47; refine (HCn.out _ hpr).mono ?_; rintro e w' ⟨rfl, rfl⟩)
      go_loopw [9, 10] (fun v i wr => FoRel w n g c1 (nbP pp) (okB pp load but) v i wr) (fun _ i _ => n - (intOf i).toNat)
      case atStart => exact ⟨0, 0, _, Nat.zero_le _, rfl, rfl, by omega, PLab.start, hown, hbel⟩
      case round =>
        clear hown hbel hbz hg1 hpr
        obtain ⟨k, N, fs, hk, rfl, rfl, hNk, hpl, hown, hbel⟩ := hrel
        have HP := Lib.hid hpl
        have hNn := hpl.nn
        have HL := Lib.hid hpl.len
        clear hpl
        have hpr := hp.up hbel
        by_cases hlt : k < n
        · have hcl := own_cell hown (ints_at' (zs := fs) (k := k) (by rw [HL.out]; exact hlt))
          have hkn : k < cnt pp := by rw [HN.out]; exact hlt
          by_cases hbut : (k : Int) = but
          · have hb2 : ((k : Int) == but) = true := beq_iff_eq.2 hbut
            have Hb := Lib.hid hbut
            clear hbut
            go_wp2_with (go_at_call 47; refine (HCn.out _ hpr).mono ?_; rintro e w' ⟨rfl, rfl⟩)
            go_roundw
            case rel => exact ⟨k + 1, N, fs, by omega, by go_num, rfl, by omega, HP.out.skip (.inl (okB_but Hb.out)), hown, hbel⟩
            case measure => simp [intOf]; omega
          · have hb2 : ((k : Int) == but) = false := beq_eq_false_iff_ne.2 hbut
            have Hb := Lib.hid hbut
            clear hbut
            by_cases hneg : at_ fs k < 0
            · cases hq : okF pp load k
              · have Hq := Lib.hid hq
                clear hq
                go_wp2_with (first | (go_at_call 47; refine (HCn.out _ hpr).mono ?_; rintro e w' ⟨rfl, rfl⟩) | (go_at_call 48; refine (bears_is _ _ _ _ _ hpr _ hkn _ Hq.out).mono ?_; rintro e w' ⟨rfl, nq, rfl⟩))
                go_roundw
                case rel => exact ⟨k + 1, N, fs, by omega, by go_num, rfl, by omega, HP.out.skip (.inl (okB_F Hq.out)), hown, below_drewN hbel _⟩
                case measure => simp [intOf]; omega
              · have Hq := Lib.hid hq
                clear hq
                have Hok : Hid (okB pp load but k = true) := Lib.hid ((okB_and Hb.out).trans Hq.out)
                have hfz := own_frozen hown k
                have hgw : g < wr.heap.size := own_lt hown g rfl
                go_wp2_with (first | (go_at_call 47; refine (HCn.out _ hpr).mono ?_; rintro e w' ⟨rfl, rfl⟩) | (go_at_call 48; refine (bears_is _ _ _ _ _ hpr _ hkn _ Hq.out).mono ?_; rintro e w' ⟨rfl, nq, rfl⟩))
                have hgs : ((wr.drewN nq).setCell ⟨g, k, none⟩ (.int .i64 N)).ownsRow w.heap.size 3 1 (.slice (some ⟨g, 0, none⟩) n c1) n (ints (fs.set k N)) := by rw [← ints_set]; exact own_put (own_drewN hown nq) k _
                have hbs : Below w.heap.size w ((wr.drewN nq).setCell ⟨g, k, none⟩ (.int .i64 N)) := (below_drewN hbel nq).setCell (by simpa using hg) _
                have hli := own_one ((wr.drewN nq).setCell ⟨g, k, none⟩ (.int .i64 N)) 3 (.int .i64 (k : Int))
                have hli2 : (((wr.drewN nq).setCell ⟨g, k, none⟩ (.int .i64 N)).alloc (.cells #[.int .i64 (k : Int)] 3)).ownsRow wr.heap.size 3 1 (.slice (some ⟨wr.heap.size, 0, none⟩) 1 1) 1 (ints (nats [k])) := by
                  simpa [World.setCell, ints, nats] using hli
                have hst : RgW w (((wr.drewN nq).setCell ⟨g, k, none⟩ (.int .i64 N)).alloc (.cells #[.int .i64 (k : Int)] 3)) n g c1 wr.heap.size fs N wr.heap.size 1 1 [k] :=
                  ⟨rfl, hli2, ⟨fs.set k N, by rw [List.length_set]; exact HL.out, fun x => by rw [at_set _ _ _ _ (by rw [HL.out]; exact hlt)]; simp, own_alloc hgs _⟩, hbs.alloc (by simp [World.setCell]; exact hbel.size) _, hgw, by simp [World.setCell]⟩
                have HST := Lib.hid hst
                generalize hlo : wr.heap.size = lo at *
                have HLO := Lib.hid hlo
                clear hgs hbs hli hli2 hst hlo hown hbel hcl hfz hpr
                go_loopw [11, 12] (fun s i wy => ∃ (j g' m cap : Nat) (cs : List Nat), j ≤ m ∧ i = .int .i64 j ∧ s = .slice (some ⟨g', 0, none⟩) m cap ∧ BfsO (nbP pp) (okB pp load but) k cs j ∧ RgW w wy n g c1 lo fs N g' m cap cs) (fun _ i _ => n - (intOf i).toNat)
                case atStart => exact ⟨0, lo, 1, 1, [k], by omega, rfl, rfl, BfsO.start Hok.out, HST.out⟩
                case round =>
                  obtain ⟨j, g', m, cap, cs, hj, rfl, rfl, hbfs, hsr⟩ := hrel
                  have HB := Lib.hid hbfs
                  have hmN : m ≤ n := by rw [hsr.1]; exact hbfs.le HOK.out
                  clear hbfs
                  by_cases hlt : j < m
                  · skip
                    have hsr' := hsr
                    obtain ⟨hm, hcs, ⟨gs0, _, _, hgo0⟩, hbel, hglo, hlos⟩ := hsr
                    have hjl : j < cs.length := by omega
                    obtain ⟨ci, hci⟩ : ∃ ci, cs[j]? = some ci := ⟨_, List.getElem?_eq_getElem hjl⟩
                    have hcell := own_cell hcs (nats_get hci)
                    have HCI := Lib.hid hci
                    have hcn : ci < cnt pp := by rw [HN.out]; exact HOK.out ci (HB.out.rch ci (List.mem_of_getElem? hci)).right
                    have hpr := hp.up hbel
                    have HM := Lib.hid hm
                    have HS := Lib.hid hsr'
                    have hgl' := own_lt hcs g' rfl
                    have hgg : g < wr.heap.size := own_lt hgo0 g rfl
                    have hnb := HNB.out ci
                    clear hm hcs hci hsr' hgo0
                    go_wp2_with fail
                    refine (sBeside_any _ _ _ _ hpr _ hcn).mono ?_
                    rintro e w2 ⟨A2, c2, rfl, o2, b2⟩
                    have hL : (nats (nbP pp ci)).length ≤ 4 := by rw [nats_length]; exact hnb
                    have HLL : Hid ((nats (nbP pp ci)).length = (nbP pp ci).length) := Lib.hid (nats_length _)
                    generalize hLe : (nats (nbP pp ci)).length = L at *
                    clear hLe
                    have HS2 : Hid (RgW w w2 n g c1 lo fs N g' m cap cs) := Lib.hid (rgW_below HS.out b2)
                    have hfr : Frm wr.heap.size w2 w2 g' := Frm.refl (.inl hgl')
                    have hup : ∃ up, up = wr.heap.size := ⟨_, rfl⟩
                    obtain ⟨up, hup⟩ := hup
                    rw [← hup] at hgg hgl' o2 hfr
                    clear hup hpr hcell hbel b2 hlos
                    go_wp2
                    go_loopw [11, 14] (fun s t wi => RgRel w w2 wi n g c1 lo up fs N (nbP pp) (okB pp load but) k j ci L s t) (fun _ t _ => L - (intOf t).toNat)
                    case atStart => exact ⟨0, g', m, cap, cs, Nat.zero_le _, rfl, rfl, HB.out.begin HCI.out, HS2.out, hfr⟩
                    case round =>
                      clear hfr
                      obtain ⟨t, g'', m', cap', ds, ht, rfl, rfl, hbi, hsi, hfi⟩ := hrel
                      by_cases htl : t < L
                      · obtain ⟨q, hk⟩ : ∃ q, (nbP pp ci)[t]? = some q := ⟨_, List.getElem?_eq_getElem (by have := HLL.out; omega)⟩
                        have o2i := hfi.own o2
                        obtain ⟨g2, rfl, hg2, hg2', _, _⟩ := own_some o2i (by omega)
                        have hcA := own_cell o2i (nats_get hk)
                        have hqN : q < n := Gr0.lt ci q (by have := HN.out; omega) (List.mem_of_getElem? hk)
                        have hkn : q < cnt pp := by rw [HN.out]; exact hqN
                        have HBI := Lib.hid hbi
                        have HSI := Lib.hid hsi
                        have HK := Lib.hid hk
                        obtain ⟨hm', hcs', ⟨gs, hgl2, hgv, hgo⟩, hbel', hglo', hlos'⟩ := hsi
                        have hpr := hp.up hbel'
                        have hcF := own_cell hgo (ints_at' (zs := gs) (k := q) (by omega))
                        have hfz := own_frozen hgo q
                        have HFE := Lib.hid hgv
                        have HFL := Lib.hid hgl2
                        have HM' := Lib.hid hm'
                        clear hgv hgl2 hm' hbi hk o2i
                        by_cases hqb : (q : Int) = but
                        · have hb3 : ((q : Int) != but) = false := by simp [hqb]
                          have hb4 : ((q : Int) == but) = true := beq_iff_eq.2 hqb
                          have Hqb := Lib.hid hqb
                          clear hqb
                          go_wp2
                          go_roundw
                          case rel => exact ⟨t + 1, g'', m', cap', ds, by omega, by go_num, rfl, HBI.out.skip HK.out (.inl (okB_but Hqb.out)), HSI.out, hfi⟩
                          case measure => simp [intOf]; omega
                        · have hb3 : ((q : Int) != but) = true := bne_iff_ne.2 hqb
                          have hb4 : ((q : Int) == but) = false := beq_eq_false_iff_ne.2 hqb
                          have Hqb := Lib.hid hqb
                          by_cases hlab : at_ gs q < 0
                          · have hnm : Hid (q ∉ ds) := Lib.hid (fun h => by rw [HFE.out q, if_pos h] at hlab; omega)
                            cases hqq : okF pp load q
                            · have Hq := Lib.hid hqq
                              clear hqq hqb
                              go_wp2_with (go_at_call 48; refine (bears_is _ _ _ _ _ hpr _ hkn _ Hq.out).mono ?_; rintro e w' ⟨rfl, nb, rfl⟩)
                              go_roundw
                              case rel => exact ⟨t + 1, g'', m', cap', ds, by omega, by go_num, rfl, HBI.out.skip HK.out (.inl (okB_F Hq.out)), rgW_drewN HSI.out _, hfi.drewN _⟩
                              case measure => simp [intOf]; omega
                            · have Hq := Lib.hid hqq
                              have Hok2 : Hid (okB pp load but q = true) := Lib.hid ((okB_and hqb).trans hqq)
                              clear hqq hqb
                              have hnew := HBI.out.add HK.out Hok2.out hnm.out
                              have hmN' : m' ≤ n := by rw [HM'.out]; exact HBI.out.o.le HOK.out
                              have HNew := Lib.hid hnew
                              clear hnew
                              have hgg2 : g ≠ g2 := by omega
                              go_wp2_with fail
                              refine (bears_is _ _ _ _ _ hpr _ hkn _ Hq.out).mono ?_
                              rintro e w' ⟨rfl, nb, rfl⟩
                              have hcA2 : ((wr.drewN nb).setCell ⟨g, q, none⟩ (.int .i64 N)).cell? ⟨g2, t, none⟩ = some (.int .i64 (q : Int)) := by
                                rw [World.cell?_setCell_other _ _ _ _ (fun e => hgg2 (congrArg Addr.block e))]
                                exact hcA
                              have hcs2 : ((wr.drewN nb).setCell ⟨g, q, none⟩ (.int .i64 N)).ownsRow lo 3 1 (.slice (some ⟨g'', 0, none⟩) m' cap') m' (ints (nats ds)) := own_other (own_drewN hcs' nb) (own_apart hcs' hglo') _
                              have hfo2 := own_put (own_drewN hgo nb) q (.int .i64 N)
                              have hfi2 := (hfi.drewN nb).set (k := q) (b := g) (.inl hgg) (.int .i64 N)
                              have hbel2 : Below w.heap.size w ((wr.drewN nb).setCell ⟨g, q, none⟩ (.int .i64 N)) := (below_drewN hbel' nb).setCell hg _
                              have hgne : g'' ≠ g := fun e => own_apart hcs' hglo' (by rw [e]; rfl)
                              have hszl : lo ≤ wr.heap.size := hlos'
                              have HO2 := Lib.hid hfo2
                              have HF2 := Lib.hid hfi2
                              have HBL2 := Lib.hid hbel2
                              have hgw2 := own_lt hgo g rfl
                              clear hfo2 hfi2 hbel2
                              go_wp2_with (at_builtin; refine push_own rfl _ _ 32 rfl lo 3 i0 (.int .i64 0) 8 Try.underlying32 hi hz0 hz1 hz2 rfl g'' m' cap' _ rfl (own_alloc hcs2 _) _ _ (.int .i64 (q : Int)) rfl ?c1 rfl (by omega) (by omega) ?c5 ?_)
                              case c1 => first | exact one_new _ _ _ _ rfl | exact one_new _ _ _ _ (by simp)
                              case c5 => simp [World.setCell]; omega
                              · intro g3 cap3 w5 hown' hgrow hwhere
                                have hown'' : w5.ownsRow lo 3 1 (.slice (some ⟨g3, 0, none⟩) (m' + 1) cap3) (m' + 1) (ints (nats (ds ++ [q]))) := by rw [← ints_nats_snoc]; exact hown'
                                have hF5 := HF2.out.push hgrow (hwhere.imp id (fun h => by first | exact h | (simp [World.setCell] at *; omega)))
                                have hS5 : RgW w w5 n g c1 lo fs N g3 (m' + 1) cap3 (ds ++ [q]) := by
                                  refine ⟨by rw [List.length_append, ← HM'.out]; rfl, hown'', ⟨gs.set q N, by rw [List.length_set]; exact HFL.out, at_more HFL.out hqN HFE.out, ?_⟩, ?_, hglo', by have := hgrow.size; simp [World.setCell] at this; omega⟩
                                  · rw [← ints_set]
                                    exact own_grown (own_alloc HO2.out _) hgrow (fun x hx e => by simp [Value.ownBlock] at e; injection hx with hx; omega)
                                  · refine (HBL2.out.alloc (by have := HBL2.out.size; exact this) _).grown hgrow (by have := HBL2.out.size; simp at *; omega) (fun x hx => by injection hx with hx; have := own_block hcs2 g'' rfl; have := hglo'; omega)
                                have HS5 := Lib.hid hS5
                                have HF5 := Lib.hid hF5
                                clear hown' hown'' hgrow hwhere hcs2 hcs' hgo hF5 hS5 hfi hcF hcA hcA2 hfz hbel' hpr
                                go_wp2
                                go_roundw
                                case rel => exact ⟨t + 1, g3, m' + 1, cap3, ds ++ [q], by omega, by go_num, by go_num, HNew.out, HS5.out, HF5.out⟩
                                case measure => simp [intOf]; omega
                          · have hlab' : 0 ≤ at_ gs q := by omega
                            have hsk : Hid (okB pp load but q = false ∨ q ∈ ds) := Lib.hid (by
                              by_cases hin : q ∈ ds
                              · exact .inr hin
                              · refine .inl ?_
                                rw [HFE.out q, if_neg hin] at hlab'
                                cases hz : okB pp load but q with
                                | false => rfl
                                | true =>
                                  have := HP.out.free Gr0 HOK.out hneg (HBI.out.rchk HK.out hz)
                                  omega)
                            clear hqb
                            go_wp2
                            go_roundw
                            case rel => exact ⟨t + 1, g'', m', cap', ds, by omega, by go_num, rfl, HBI.out.skip HK.out hsk.out, HSI.out, hfi⟩
                            case measure => simp [intOf]; omega
                      · have HT : Hid (t = (nbP pp ci).length) := Lib.hid (by have := HLL.out; omega)
                        have hm'' : j + 1 ≤ m' := by
                          have := (List.getElem?_eq_some_iff.1 hbi.cur).1
                          have := hsi.1
                          omega
                        have HBI := Lib.hid hbi
                        have HSI := Lib.hid hsi
                        clear hbi hsi
                        go_wp2
                        go_roundw
                        case rel => exact ⟨j + 1, g'', m', cap', ds, hm'', by go_num, rfl, (by have h := HBI.out; rw [HT.out] at h; exact h.fin), HSI.out⟩
                        case measure => simp [intOf]; omega
                  · obtain rfl : j = m := by omega
                    have hdone := HB.out.done (by rw [← hsr.1]; exact Nat.le_refl _)
                    obtain ⟨hm, hcs, ⟨gs, hgl, hgv, hgo⟩, hbel, hglo, hlo⟩ := hsr
                    have hpl2 : PLab n (nbP pp) (okB pp load but) (k + 1) (N + 1) gs := HP.out.fill Gr0 HOK.out Hok.out hneg hgl
                      (fun i hi => by rw [hgv i, if_pos ((hdone i).2 hi)])
                      (fun i hi => by rw [hgv i, if_neg (fun h => hi ((hdone i).1 h))])
                    have HP2 := Lib.hid hpl2
                    clear hpl2 hdone hgl hgv hm hcs
                    go_wp2
                    go_roundw
                    case rel => exact ⟨k + 1, N + 1, gs, by omega, by go_num, rfl, by omega, HP2.out, hgo, hbel⟩
                    case measure => simp [intOf]; omega
            · have hneg' : 0 ≤ at_ fs k := by omega
              go_wp2_with (go_at_call 47; refine (HCn.out _ hpr).mono ?_; rintro e w' ⟨rfl, rfl⟩)
              go_roundw
              case rel => exact ⟨k + 1, N, fs, by omega, by go_num, rfl, by omega, HP.out.skip (.inr hneg'), hown, hbel⟩
              case measure => simp [intOf]; omega
        · obtain rfl : k = n := by omega
          have R : OutLab k (nbP pp) (okB pp load but) w (.returned (.slice (some ⟨g, 0, none⟩) k c1)) wr := ⟨fs, HP.out.done HOK.out, _, _, HL.out, rfl, hown, hbel⟩
          clear hown hbel
          go_wp2_with (go_at_call 47; refine (HCn.out _ hpr).mono ?_; rintro e w' ⟨rfl, rfl⟩)
          go_ret
          exact R

end Go.Proofs.Ytiihenhddleooac

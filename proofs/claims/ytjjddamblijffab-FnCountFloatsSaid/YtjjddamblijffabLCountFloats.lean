/- The law FnCountFloats: for every code it answers true, and the code reads as it read before. No condition. -/
import Derived.Test.YtjjddamblijffabCCntN
import Derived.Test.YtjjddamblijffabCCntN
import Derived.Test.YtjjddamblijffabLaw
namespace Go.Proofs.Ytjjddamblijffab
open Go.RowKit
set_option linter.unusedVariables false
set_option linter.unusedSimpArgs false

namespace fnCountFloats
open Go.ChangeShapes Go.WideShapes Go.ChangeAt Go.RowKit
set_option maxRecDepth 100000 in
set_option maxHeartbeats 800000 in
set_option maxRecDepth 100000 in
set_option maxRecDepth 100000 in
set_option maxHeartbeats 8000000 in
theorem walk (w : World) (cs : List Int) (Acs : Option Addr) (ccs : Nat) (hrcs : Rd w w.heap.size Acs (bytes cs)) (hbcs : ∀ z ∈ cs, 0 ≤ z ∧ z ≤ 255) (hlcs : cs.length ≤ ccs ∧ ccs ≤ maxLen) :
    Calls Try.prog 12 #[.slice Acs cs.length ccs] w fun e w' => e = .returned (.bool true) ∧ Below w.heap.size w w' := by
  by_cases hn : cs.length ≤ 1048576
  · go_enter Try.func12, Try.ntmps12
    go_wp2_with fail
    refine (dCountFloats _ _ _ _ hrcs hbcs hlcs.1 hlcs.2).mono ?_
    rintro e w1 ⟨ks, Ak, ck, a, h, rfl, ⟨hkl, hkc, hkm, hrk⟩, ha, hh, b1⟩
    obtain ⟨i0, hi, hz0, hz1, hz2⟩ := info_parts info_int
    have hln : ks.length ≤ 1048576 := by omega
    have HI := Lib.hid (fun w hr => iCount_any _ hln ks rfl Ak ck ⟨hkc, hkm⟩ w hr a h)
    have HS := Lib.hid (fun w hr => sCount_any _ hln ks rfl Ak ck w hr a h)
    have HV := Lib.hid (fun (os : List Int) (m : Nat) (hm : m ≤ 1048576) (hl : os.length = m) (Ao : Option Addr) (co : Nat) w hr hro => iFloat_any _ m hln hm ks os rfl hl Ak Ao ck co ⟨hkc, hkm⟩ w hr hro a h)
    have HM : Hid (¬ countT a h ks < 0 → cakesB a h ks = true ∧ ks.length ≤ 6 ∧ (¬ ks.length = 0 → smN (gF a h ks) ks.length = countT a h ks) ∧ 1 ≤ countT a h ks ∧ countT a h ks ≤ facN ks.length) := Lib.hid cnt_facts
    have cI := HI.out w1 hrk
    generalize countT a h ks = q at *
    go_wp2_with fail
    refine (cI).mono ?_
    rintro e w2 ⟨rfl, b2⟩
    have hr2 := (hrk.below b2).more b2.size
    go_wp2_with fail
    refine (HS.out w2 hr2).mono ?_
    rintro e w3 ⟨rfl, b3⟩
    have hr3 := (hr2.below b3).more b3.size
    have bl3 : Below w.heap.size w w3 := (b1.trans (b2.mono b1.size)).trans (b3.mono (by have := b1.size; have := b2.size; omega))
    clear cI b1 b2 b3 hrk hr2
    by_cases hq0 : q < 0
    · skip
      go_wp2_with fail
      refine (HS.out w3 hr3).mono ?_
      rintro e w4 ⟨rfl, b4⟩
      have bl4 := bl3.trans (b4.mono bl3.size)
      clear b4 hr3 bl3
      go_wp2
      go_ret
      exact ⟨rfl, bl4⟩
    · obtain ⟨hv, h6, hsum, hq1, hq2⟩ := HM.out (by omega)
      clear HM
      by_cases hk0 : ks.length = 0
      · have hkb : ((ks.length : Int) == 0) = true := beq_iff_eq.2 (by omega)
        clear hsum hq2 hv hk0 h6
        go_wp2_with fail
        refine (HS.out w3 hr3).mono ?_
        rintro e w4 ⟨rfl, b4⟩
        have bl4 := bl3.trans (b4.mono bl3.size)
        clear b4 hr3 bl3
        go_wp2
        go_ret
        exact ⟨rfl, bl4⟩
      · have hkb : ((ks.length : Int) == 0) = false := beq_eq_false_iff_ne.2 (by omega)
        have HSUM := Lib.hid (hsum hk0)
        have HQ2 := Lib.hid hq2
        have HB := Lib.hid hv
        have HBL := Lib.hid bl3
        have H6 := Lib.hid h6
        clear hsum hq2 hv bl3 HS HI hk0 h6
        go_wp2
        go_loopw [7, 8, 9] (fun f s i wr => ∃ k : Nat, k ≤ ks.length ∧ f = .int .i64 (facN k) ∧ s = .int .i64 (smN (gF a h ks) k) ∧ i = .int .i64 k ∧ Below w3.heap.size w3 wr) (fun _ _ i _ => ks.length - (intOf i).toNat)
        case atStart => exact ⟨0, Nat.zero_le _, rfl, rfl, rfl, Below.refl _ _⟩
        case round =>
          obtain ⟨k, hk, rfl, rfl, rfl, hbel⟩ := hrel
          by_cases hlt : k < ks.length
          · have hrr := (hr3.below hbel).more hbel.size
            have HGS := Lib.hid (gF_step HB.out H6.out hlt)
            have hsbd := smN_bd (g := gF a h ks) (n := k) (fun i hi => gF_bd HB.out H6.out (by omega))
            obtain ⟨FK, hfk⟩ : ∃ FK, FK = facN (k + 1) := ⟨_, rfl⟩
            obtain ⟨S1, hs1⟩ : ∃ S1, S1 = smN (gF a h ks) (k + 1) := ⟨_, rfl⟩
            have HFK := Lib.hid hfk
            have HS1 := Lib.hid hs1
            have fw : IntKind.i64.wrap (facN k * ((k : Int) + 1)) = FK := by rw [hfk]; exact facN_step (by have := H6.out; omega)
            clear hfk hs1
            generalize facN k = fk at *
            generalize smN (gF a h ks) k = S at *
            obtain ⟨b0, off0, x, y, rfl, hb0, hxy, hc1, hc2⟩ := hrr.cake_ (k := 0) (by omega)
            have HE0 : Hid ((wr.drew.alloc (Obj.cells #[] 83)).ownsRow wr.heap.size 83 2 (.slice (some ⟨wr.heap.size, 0, none⟩) 0 0) 0 []) := Lib.hid (owz_empty wr.drew _ 2)
            have HBE : Hid (Below wr.heap.size wr (wr.drew.alloc (Obj.cells #[] 83))) := Lib.hid ((below_drewN (Below.refl _ _) 1).alloc (Nat.le_refl _) _)
            have HN1 : Hid (((cakeV ks).take (k * 2)).length = k * 2) := Lib.hid (by rw [List.length_take, cakeV_len]; omega)
            have HN2 : Hid (((cakeV ks).drop ((k + 1) * 2)).length = (ks.length - (k + 1)) * 2) := Lib.hid (by rw [List.length_drop, cakeV_len]; omega)
            have HO1 : Hid (∀ u ∈ (cakeV ks).take (k * 2), u.oneCell' = true) := Lib.hid fun u hu => cakeV_one ks u (List.mem_of_mem_take hu)
            have HO2 : Hid (∀ u ∈ (cakeV ks).drop ((k + 1) * 2), u.oneCell' = true) := Lib.hid fun u hu => cakeV_one ks u (List.mem_of_mem_drop hu)
            have HAT : Hid (∀ w', Below wr.heap.size wr w' → ∀ j u, (cakeV ks)[j]? = some u → w'.cell? ⟨b0, off0 + j, none⟩ = some u) := Lib.hid fun w' hb j u hj => by
              obtain ⟨b', off', e, _, hc⟩ := (hrr.below hb).at_ hj
              injection e with e
              injection e with e1 e2
              subst e1 e2
              exact hc
            have HS1A : Hid (∀ j u, ((cakeV ks).take (k * 2))[j]? = some u → (wr.drew.alloc (Obj.cells #[] 83)).cell? ((⟨b0, off0, none⟩ : Addr).add j) = some u) := Lib.hid fun j u hj => by
              rw [List.getElem?_take] at hj
              split at hj
              · have := HAT.out _ HBE.out j u hj
                rw [add_off]; exact this
              · cases hj
            have HS2 : Hid (∀ w', Below wr.heap.size wr w' → ∀ j u, ((cakeV ks).drop ((k + 1) * 2))[j]? = some u → w'.cell? ((⟨b0, off0 + (k + 1) * 2, none⟩ : Addr).add j) = some u) := Lib.hid fun w' hb j u hj => by
              rw [List.getElem?_drop] at hj
              have := HAT.out w' hb _ u hj
              rw [add_off, Nat.add_assoc]; exact this
            have HL : Hid ((outC ks k).length = 0 + k + (ks.length - (k + 1))) := Lib.hid (by have := outC_len hlt; omega)
            have a1 : k ≤ ck := by omega
            have a2 : k + 1 ≤ ck := by omega
            have a3 : (k : Int) ≤ (ks.length : Int) := by omega
            have a4 : (k : Int) ≤ (ck : Int) := by omega
            have a5 : (k : Int) + 1 ≤ (ks.length : Int) := by omega
            have a6 : (ks.length : Int) ≤ (ck : Int) := by omega
            have a7 : ((k : Int) + 1).toNat = k + 1 := by omega
            have a8 : IntKind.i64.wrap ((k : Int) + 1) = (k : Int) + 1 := IntWalk.i64_in _ (by omega)
            have a9 : ¬ ck = k := by omega
            have a0 : (0 : Int) ≤ (k : Int) + 1 := by omega
            have ab : (k : Int) < (ks.length : Int) := by omega
            simp only [Nat.zero_mul, Nat.add_zero] at hc1
            clear hc2 hxy
            by_cases hck : ck = k + 1
            · subst hck
              have hL0 : ks.length - (k + 1) = 0 := by omega
              have c1 : (k : Int) ≤ (k : Int) + 1 := by omega
              have c2 : (ks.length : Int) ≤ (k : Int) + 1 := by omega
              have HZ : Hid ((cakeV ks).take (k * 2) = cakeV (outC ks k)) := Lib.hid (by rw [← cakeV_out, List.drop_of_length_le (by rw [cakeV_len]; omega), List.append_nil])
              rw [hL0] at HL
              clear a4 a6 HS2 HO2 HN2
              go_wp2
              refine wp_region_noPanic ?_
              refine wp_region_held_drew (S := fun w' => w'.cell? ⟨b0, off0, none⟩ = some (.int .i64 x)) (by kernel_rfl) ?_ (fun hH0 => ?_)
              · try dsimp only
                go_keep
              refine wpAnyH_take (i := 1) (v := ?_) (by simp only [List.getElem?_toArray, List.getElem?_cons_succ, List.getElem?_cons_zero]; exact rfl) (by kernel_rfl) (by kernel_rfl) (by kernel_rfl) (by exact fun _ _ _ h => h) (Or.inl ⟨by rfl, ?_⟩) (by assumption) ?_
              rotate_left 1
              · intro w hSw
                try dsimp only at hSw
                go_simp
                try with_reducible rfl
              try simp only [Act.put, List.setIfInBounds_toArray, List.set_cons_zero, List.set_cons_succ]
              refine wpAnyH_take (i := 2) (v := ?_) (by simp only [List.getElem?_toArray, List.getElem?_cons_succ, List.getElem?_cons_zero]; exact rfl) (by kernel_rfl) (by kernel_rfl) (by kernel_rfl) (by exact fun _ _ _ h => h) (Or.inl ⟨by rfl, ?_⟩) (by assumption) ?_
              rotate_left 1
              · intro w hSw
                try dsimp only at hSw
                go_simp
                try with_reducible rfl
              try simp only [Act.put, List.setIfInBounds_toArray, List.set_cons_zero, List.set_cons_succ]
              refine wpAnyH_take (i := 3) (v := ?_) (by simp only [List.getElem?_toArray, List.getElem?_cons_succ, List.getElem?_cons_zero]; exact rfl) (by kernel_rfl) (by kernel_rfl) (by kernel_rfl) (by exact fun _ _ _ h => h) (Or.inl ⟨by rfl, ?_⟩) (by assumption) ?_
              rotate_left 1
              · intro w hSw
                try dsimp only at hSw
                go_simp
                try with_reducible rfl
              try simp only [Act.put, List.setIfInBounds_toArray, List.set_cons_zero, List.set_cons_succ]
              refine wpAnyH_take (i := 5) (v := ?_) (by simp only [List.getElem?_toArray, List.getElem?_cons_succ, List.getElem?_cons_zero]; exact rfl) (by kernel_rfl) (by kernel_rfl) (by kernel_rfl) (by exact fun _ _ _ h => h) (Or.inl ⟨by rfl, ?_⟩) (by assumption) ?_
              rotate_left 1
              · intro w hSw
                try dsimp only at hSw
                go_simp
                try with_reducible rfl
              try simp only [Act.put, List.setIfInBounds_toArray, List.set_cons_zero, List.set_cons_succ]
              refine wpAnyH_take (i := 6) (v := ?_) (by simp only [List.getElem?_toArray, List.getElem?_cons_succ, List.getElem?_cons_zero]; exact rfl) (by kernel_rfl) (by kernel_rfl) (by kernel_rfl) (by exact fun _ _ _ h => h) (Or.inl ⟨by rfl, ?_⟩) (by assumption) ?_
              rotate_left 1
              · intro w hSw
                try dsimp only at hSw
                go_simp
                try with_reducible rfl
              try simp only [Act.put, List.setIfInBounds_toArray, List.set_cons_zero, List.set_cons_succ]
              refine wpAnyH_take (i := 7) (v := ?_) (by simp only [List.getElem?_toArray, List.getElem?_cons_succ, List.getElem?_cons_zero]; exact rfl) (by kernel_rfl) (by kernel_rfl) (by kernel_rfl) (by exact fun _ _ _ h => h) (Or.inl ⟨by rfl, ?_⟩) (by assumption) ?_
              rotate_left 1
              · intro w hSw
                try dsimp only at hSw
                go_simp
                try with_reducible rfl
              try simp only [Act.put, List.setIfInBounds_toArray, List.set_cons_zero, List.set_cons_succ]
              refine wpAnyH_take (i := 8) (v := ?_) (by simp only [List.getElem?_toArray, List.getElem?_cons_succ, List.getElem?_cons_zero]; exact rfl) (by kernel_rfl) (by kernel_rfl) (by kernel_rfl) (by exact fun _ _ _ h => h) (Or.inl ⟨by rfl, ?_⟩) (by assumption) ?_
              rotate_left 1
              · intro w hSw
                try dsimp only at hSw
                go_simp
                try with_reducible rfl
              try simp only [Act.put, List.setIfInBounds_toArray, List.set_cons_zero, List.set_cons_succ]
              refine wpAnyH_ready (rs := [0]) (by kernel_rfl) (by simp) ?_
              refine AllReadyH.cons (by simp only [List.getElem?_toArray, List.getElem?_cons_succ, List.getElem?_cons_zero]; exact rfl) (fun K hK => ?_) ?_
              · go_simp
                refine hK.out _ _ ?_ (fun hH66 => ?_)
                · try dsimp only
                  go_keep
                clear hK K hH0
                try simp only [Act.put, List.setIfInBounds_toArray, List.set_cons_zero, List.set_cons_succ]
                refine wpAnyH_ready (rs := [4]) (by kernel_rfl) (by simp) ?_
                refine AllReadyH.cons (by simp only [List.getElem?_toArray, List.getElem?_cons_succ, List.getElem?_cons_zero]; exact rfl) (fun K hK => ?_) ?_
                · refine step_cakes rfl (.tmp 59) (.tmp 62) rfl wr.heap.size 0 k (k + 1) (.slice (some ⟨wr.heap.size, 0, none⟩) 0 0) [] ((cakeV ks).take (k * 2)) ⟨b0, off0, none⟩ (by simp [Act.eval, Act.put]) (by simp [Act.eval, Act.put]) HE0.out HN1.out HS1A.out HO1.out (by omega) (by simp) ?_
                  intro v1 w8 hown1 hgrow1
                  have HB8 : Below wr.heap.size wr w8 := HBE.out.grown hgrow1 (by simp) (owz_block HE0.out)
                  have k8 := (HB8.cell (p := ⟨b0, off0, none⟩) hb0).trans hc1
                  refine hK.out _ _ ?_ (fun hH67 => ?_)
                  · try dsimp only
                    go_keep
                  clear hK K hH66
                  try simp only [Act.put, List.setIfInBounds_toArray, List.set_cons_zero, List.set_cons_succ]
                  refine wpAnyH_ready (rs := [9]) (by kernel_rfl) (by simp) ?_
                  refine AllReadyH.cons (by simp only [List.getElem?_toArray, List.getElem?_cons_succ, List.getElem?_cons_zero]; exact rfl) (fun K hK => ?_) ?_
                  · refine step_cakes rfl (.tmp 63) (.tmp 67) rfl wr.heap.size (0 + k) 0 0 v1 ([] ++ (cakeV ks).take (k * 2)) [] ⟨b0, off0, none⟩ (by simp [Act.eval, Act.put]) (by simp [Act.eval, Act.put]) hown1 rfl (by intro j u hj; simp at hj) (by intro u hu; simp at hu) (by omega) HB8.size ?_
                    intro v2 w9 hown2 hgrow2
                    have HB9 : Below wr.heap.size wr w9 := HB8.grown hgrow2 HB8.size (owz_block hown1)
                    have k9 := (HB9.cell (p := ⟨b0, off0, none⟩) hb0).trans hc1
                    obtain ⟨A9, c9, hv9⟩ := owz_form hown2
                    subst hv9
                    have hnb9 : 0 + k + 0 ≤ 9 := by omega
                    generalize hnr : 0 + k + 0 = nr at *
                    clear hnr
                    refine hK.out _ _ ?_ (fun hH68 => ?_)
                    · try dsimp only
                      go_keep
                    clear hK K hH67
                    try simp only [Act.put, List.setIfInBounds_toArray, List.set_cons_zero, List.set_cons_succ]
                    refine wpAnyH_take (i := 10) (v := ?_) (by simp only [List.getElem?_toArray, List.getElem?_cons_succ, List.getElem?_cons_zero]; exact rfl) (by kernel_rfl) (by kernel_rfl) (by kernel_rfl) (by exact fun _ _ _ h => h) (Or.inl ⟨by rfl, ?_⟩) (by assumption) ?_
                    rotate_left 1
                    · intro w hSw
                      try dsimp only at hSw
                      go_simp
                      try with_reducible rfl
                    try simp only [Act.put, List.setIfInBounds_toArray, List.set_cons_zero, List.set_cons_succ]
                    refine wpAnyH_done (by kernel_rfl) ?_ _
                    refine NoPanic.normal ?_
                    have HRC : Hid (∀ w', Below w9.heap.size w9 w' → Rd w' w'.heap.size A9 (cakeV (outC ks k))) := Lib.hid (by
                      have hrd := Rd.ownz hown2
                      rw [List.append_nil, List.nil_append, HZ.out] at hrd
                      exact fun w' hb => (hrd.below hb).more hb.size)
                    have hcp9 := owz_caps hown2
                    have HBW := Lib.hid (hbel.trans (HB9.mono hbel.size))
                    have HRK : Hid (∀ w', Below w9.heap.size w9 w' → Rd w' w'.heap.size (some ⟨b0, off0, none⟩) (cakeV ks)) := Lib.hid fun w' hb => (((hrr.below HB9).more HB9.size).below hb).more hb.size
                    obtain ⟨hfl, hfb, hff⟩ := flo_facts HB.out hlt HL.out
                    have HFF : Hid (firstF a h ks k = (k : Int) :: (floatT a h (outC ks k)).map (upZ k)) := Lib.hid rfl
                    have HFFL := Lib.hid hff
                    have HO : Hid (∀ w', Rd w' w'.heap.size A9 (cakeV (outC ks k)) → Calls Try.prog 42 #[.slice A9 nr c9, .int .i64 a, .int .i64 h] w' fun e w'' => ∃ A' c', e = .returned (.slice A' nr c') ∧ w''.ownsRow w'.heap.size 3 1 (.slice A' nr c') nr (ints (floatT a h (outC ks k))) ∧ Below w'.heap.size w' w'') := Lib.hid fun w' hr => by
                      have := iOrder_any nr (by omega) (outC ks k) HL.out A9 c9 hcp9 w' hr a h
                      unfold OutI at this
                      rw [hfl] at this
                      exact this
                    have HC : Hid (∀ w', Rd w' w'.heap.size A9 (cakeV (outC ks k)) → Calls Try.prog 47 #[.slice A9 nr c9, .int .i64 a, .int .i64 h] w' fun e w'' => e = .returned (.int .i64 (countT a h (outC ks k))) ∧ Below w'.heap.size w' w'') := Lib.hid fun w' hr => iCount_any nr (by omega) (outC ks k) HL.out A9 c9 hcp9 w' hr a h
                    generalize floatT a h (outC ks k) = F at *
                    generalize countT a h (outC ks k) = cR at *
                    have HFL := Lib.hid hfl
                    have HFB := Lib.hid hfb
                    clear hfl hfb hff hown1 hown2 hgrow1 hgrow2 HB8 HB9 k8 k9 hc1 hbel hrr HAT HS1A HBE HE0
                    go_wp2_with fail
                    refine (HO.out _ (HRC.out _ ((Below.refl _ _).alloc (Nat.le_refl _) _))).mono ?_
                    rintro e w10 ⟨AO, cO, rfl, oO, bO⟩
                    have HST := Lib.hid (fst_start oO bO)
                    clear oO bO
                    go_wp2
                    go_loopw [11, 13] (fun v i wi => ∃ m : Nat, m ≤ nr ∧ i = .int .i64 m ∧ FST w9 wi v (m + 1) (ints ((k : Int) :: (F.map (upZ k)).take m)) AO nr cO F) (fun _ i _ => nr - (intOf i).toNat)
                    case atStart => exact ⟨0, Nat.zero_le _, rfl, HST.out⟩
                    case round =>
                      obtain ⟨m, hm, rfl, hF⟩ := hrel
                      obtain ⟨wi, rfl⟩ : ∃ wi, wi = wr := ⟨_, rfl⟩
                      clear HST
                      by_cases hlt2 : m < nr
                      · have hmn : m < F.length := by rw [HFL.out]; exact hlt2
                        have HE := Lib.hid (first_snoc (k : Int) hmn)
                        obtain ⟨t0, t1⟩ := HFB.out m hlt2
                        obtain ⟨b', off', rfl, _, hcx⟩ := (Rd.ownz hF.oth).at_ (k := m) (x := .int .i64 (at_ F m)) (by rw [ints, List.getElem?_map, of_at hmn]; rfl)
                        generalize at_ F m = t at *
                        have f2 : (m : Int) < (nr : Int) := by omega
                        have f4 : IntKind.i64.wrap (t + 1) = t + 1 := IntWalk.i64_in _ (by omega)
                        clear hmn
                        by_cases hkt : (k : Int) ≤ t
                        · have e0 : upZ (k : Int) t = t + 1 := by unfold upZ; rw [if_pos hkt]
                          rw [e0] at HE
                          clear e0
                          go_wp2_with (at_builtin; refine wpList_append_own_at _ rfl _ _ 23 rfl (w9.heap.size) 3 i0 (.int .i64 0) 1 8 Try.underlying23 hi hz0 hz1 hz2 rfl (by decide) _ _ _ rfl (owz_alloc hF.own _) ⟨wi.heap.size, 0, none⟩ 1 1 [.int .i64 (t + 1)] rfl rfl (one_new _ _ _ _ rfl) (by intro u hu; simp at hu; subst hu; rfl) (by unfold maxLen; omega) (by omega) (by have := hF.bel.size; simp; omega) ?_)
                          intro v' w11 hown' hgrow _ hblk
                          have hp := hF.push hown' hgrow hblk
                          rw [← HE.out] at hp
                          have HP := Lib.hid hp
                          clear hp hown' hgrow hblk hF hcx
                          go_wp2
                          go_roundw
                          case rel => exact ⟨m + 1, by omega, by go_num, HP.out⟩
                          case measure => simp [intOf]; omega
                        · have e0 : upZ (k : Int) t = t := by unfold upZ; rw [if_neg hkt]
                          rw [e0] at HE
                          clear e0
                          go_wp2_with (at_builtin; refine wpList_append_own_at _ rfl _ _ 23 rfl (w9.heap.size) 3 i0 (.int .i64 0) 1 8 Try.underlying23 hi hz0 hz1 hz2 rfl (by decide) _ _ _ rfl (owz_alloc hF.own _) ⟨wi.heap.size, 0, none⟩ 1 1 [.int .i64 t] rfl rfl (one_new _ _ _ _ rfl) (by intro u hu; simp at hu; subst hu; rfl) (by unfold maxLen; omega) (by omega) (by have := hF.bel.size; simp; omega) ?_)
                          intro v' w11 hown' hgrow _ hblk
                          have hp := hF.push hown' hgrow hblk
                          rw [← HE.out] at hp
                          have HP := Lib.hid hp
                          clear hp hown' hgrow hblk hF hcx
                          go_wp2
                          go_roundw
                          case rel => exact ⟨m + 1, by omega, by go_num, HP.out⟩
                          case measure => simp [intOf]; omega
                      · have f2 : ¬ (m : Int) < (nr : Int) := by omega
                        have hff := hF
                        rw [show m = nr by omega, List.take_of_length_le (by rw [List.length_map, HFL.out]; omega), ← HFF.out] at hff
                        clear hF
                        obtain ⟨Av, cv, hvv⟩ := owz_form hff.own
                        subst hvv
                        have rk := HRK.out wi hff.bel
                        have rc := HRC.out wi hff.bel
                        have HV1 := Lib.hid (HV.out (firstF a h ks k) (nr + 1) (by omega) HFFL.out Av cv wi rk (Rd.ownz hff.own))
                        have hb10 := Lib.hid (HBW.out.trans (hff.bel.mono HBW.out.size))
                        clear hff rk HFF HFFL HFL HFB
                        generalize vfT a h ks (firstF a h ks k) = vR at *
                        go_wp2_with fail
                        refine HV1.out.mono ?_
                        rintro e w12 ⟨rfl, b12⟩
                        have rc2 := Lib.hid ((rc.below b12).more b12.size)
                        have hb12 := hb10.out.trans (b12.mono hb10.out.size)
                        clear b12 hb10 rc
                        cases vR
                        · have HSK := Lib.hid (HGS.out.2 rfl)
                          have HBF := Lib.hid hb12
                          clear hb12
                          go_wp2
                          go_roundw
                          case rel => exact ⟨k + 1, by omega, congrArg (Value.int .i64) HFK.out, congrArg (Value.int .i64) HSK.out, by go_num, HBF.out⟩
                          case measure => simp [intOf]; omega
                        · have hsw := HGS.out.1 rfl
                          have HZZ := HS1
                          rw [← HS1.out] at hsw
                          go_wp2_with fail
                          refine (HC.out _ rc2.out).mono ?_
                          rintro e w13 ⟨rfl, b13⟩
                          have hb13 := hb12.trans (b13.mono hb12.size)
                          clear hb12 b13
                          have HBF := Lib.hid hb13
                          clear hb13
                          go_wp2
                          go_roundw
                          case rel => exact ⟨k + 1, by omega, congrArg (Value.int .i64) HFK.out, congrArg (Value.int .i64) HS1.out, by go_num, HBF.out⟩
                          case measure => simp [intOf]; omega
                  exact AllReadyH.nil
                exact AllReadyH.nil
              exact AllReadyH.nil
            · skip
              go_wp2
              refine wp_region_noPanic ?_
              refine wp_region_held_drew (S := fun w' => w'.cell? ⟨b0, off0, none⟩ = some (.int .i64 x)) (by kernel_rfl) ?_ (fun hH0 => ?_)
              · try dsimp only
                go_keep
              refine wpAnyH_take (i := 1) (v := ?_) (by simp only [List.getElem?_toArray, List.getElem?_cons_succ, List.getElem?_cons_zero]; exact rfl) (by kernel_rfl) (by kernel_rfl) (by kernel_rfl) (by exact fun _ _ _ h => h) (Or.inl ⟨by rfl, ?_⟩) (by assumption) ?_
              rotate_left 1
              · intro w hSw
                try dsimp only at hSw
                go_simp
                try with_reducible rfl
              try simp only [Act.put, List.setIfInBounds_toArray, List.set_cons_zero, List.set_cons_succ]
              refine wpAnyH_take (i := 2) (v := ?_) (by simp only [List.getElem?_toArray, List.getElem?_cons_succ, List.getElem?_cons_zero]; exact rfl) (by kernel_rfl) (by kernel_rfl) (by kernel_rfl) (by exact fun _ _ _ h => h) (Or.inl ⟨by rfl, ?_⟩) (by assumption) ?_
              rotate_left 1
              · intro w hSw
                try dsimp only at hSw
                go_simp
                try with_reducible rfl
              try simp only [Act.put, List.setIfInBounds_toArray, List.set_cons_zero, List.set_cons_succ]
              refine wpAnyH_take (i := 3) (v := ?_) (by simp only [List.getElem?_toArray, List.getElem?_cons_succ, List.getElem?_cons_zero]; exact rfl) (by kernel_rfl) (by kernel_rfl) (by kernel_rfl) (by exact fun _ _ _ h => h) (Or.inl ⟨by rfl, ?_⟩) (by assumption) ?_
              rotate_left 1
              · intro w hSw
                try dsimp only at hSw
                go_simp
                try with_reducible rfl
              try simp only [Act.put, List.setIfInBounds_toArray, List.set_cons_zero, List.set_cons_succ]
              refine wpAnyH_take (i := 5) (v := ?_) (by simp only [List.getElem?_toArray, List.getElem?_cons_succ, List.getElem?_cons_zero]; exact rfl) (by kernel_rfl) (by kernel_rfl) (by kernel_rfl) (by exact fun _ _ _ h => h) (Or.inl ⟨by rfl, ?_⟩) (by assumption) ?_
              rotate_left 1
              · intro w hSw
                try dsimp only at hSw
                go_simp
                try with_reducible rfl
              try simp only [Act.put, List.setIfInBounds_toArray, List.set_cons_zero, List.set_cons_succ]
              refine wpAnyH_take (i := 6) (v := ?_) (by simp only [List.getElem?_toArray, List.getElem?_cons_succ, List.getElem?_cons_zero]; exact rfl) (by kernel_rfl) (by kernel_rfl) (by kernel_rfl) (by exact fun _ _ _ h => h) (Or.inl ⟨by rfl, ?_⟩) (by assumption) ?_
              rotate_left 1
              · intro w hSw
                try dsimp only at hSw
                go_simp
                try with_reducible rfl
              try simp only [Act.put, List.setIfInBounds_toArray, List.set_cons_zero, List.set_cons_succ]
              refine wpAnyH_take (i := 7) (v := ?_) (by simp only [List.getElem?_toArray, List.getElem?_cons_succ, List.getElem?_cons_zero]; exact rfl) (by kernel_rfl) (by kernel_rfl) (by kernel_rfl) (by exact fun _ _ _ h => h) (Or.inl ⟨by rfl, ?_⟩) (by assumption) ?_
              rotate_left 1
              · intro w hSw
                try dsimp only at hSw
                go_simp
                try with_reducible rfl
              try simp only [Act.put, List.setIfInBounds_toArray, List.set_cons_zero, List.set_cons_succ]
              refine wpAnyH_take (i := 8) (v := ?_) (by simp only [List.getElem?_toArray, List.getElem?_cons_succ, List.getElem?_cons_zero]; exact rfl) (by kernel_rfl) (by kernel_rfl) (by kernel_rfl) (by exact fun _ _ _ h => h) (Or.inl ⟨by rfl, ?_⟩) (by assumption) ?_
              rotate_left 1
              · intro w hSw
                try dsimp only at hSw
                go_simp
                try with_reducible rfl
              try simp only [Act.put, List.setIfInBounds_toArray, List.set_cons_zero, List.set_cons_succ]
              refine wpAnyH_ready (rs := [0]) (by kernel_rfl) (by simp) ?_
              refine AllReadyH.cons (by simp only [List.getElem?_toArray, List.getElem?_cons_succ, List.getElem?_cons_zero]; exact rfl) (fun K hK => ?_) ?_
              · go_simp
                refine hK.out _ _ ?_ (fun hH63 => ?_)
                · try dsimp only
                  go_keep
                clear hK K hH0
                try simp only [Act.put, List.setIfInBounds_toArray, List.set_cons_zero, List.set_cons_succ]
                refine wpAnyH_ready (rs := [4]) (by kernel_rfl) (by simp) ?_
                refine AllReadyH.cons (by simp only [List.getElem?_toArray, List.getElem?_cons_succ, List.getElem?_cons_zero]; exact rfl) (fun K hK => ?_) ?_
                · refine step_cakes rfl (.tmp 59) (.tmp 62) rfl wr.heap.size 0 k ck (.slice (some ⟨wr.heap.size, 0, none⟩) 0 0) [] ((cakeV ks).take (k * 2)) ⟨b0, off0, none⟩ (by simp [Act.eval, Act.put]) (by simp [Act.eval, Act.put]) HE0.out HN1.out HS1A.out HO1.out (by omega) (by simp) ?_
                  intro v1 w8 hown1 hgrow1
                  have HB8 : Below wr.heap.size wr w8 := HBE.out.grown hgrow1 (by simp) (owz_block HE0.out)
                  have k8 := (HB8.cell (p := ⟨b0, off0, none⟩) hb0).trans hc1
                  refine hK.out _ _ ?_ (fun hH64 => ?_)
                  · try dsimp only
                    go_keep
                  clear hK K hH63
                  try simp only [Act.put, List.setIfInBounds_toArray, List.set_cons_zero, List.set_cons_succ]
                  refine wpAnyH_ready (rs := [9]) (by kernel_rfl) (by simp) ?_
                  refine AllReadyH.cons (by simp only [List.getElem?_toArray, List.getElem?_cons_succ, List.getElem?_cons_zero]; exact rfl) (fun K hK => ?_) ?_
                  · refine step_cakes rfl (.tmp 63) (.tmp 67) rfl wr.heap.size (0 + k) (ks.length - (k + 1)) (ck - (k + 1)) v1 ([] ++ (cakeV ks).take (k * 2)) ((cakeV ks).drop ((k + 1) * 2)) ⟨b0, off0 + (k + 1) * 2, none⟩ (by simp [Act.eval, Act.put]) (by simp [Act.eval, Act.put]) hown1 HN2.out (HS2.out _ HB8) HO2.out (by omega) HB8.size ?_
                    intro v2 w9 hown2 hgrow2
                    have HB9 : Below wr.heap.size wr w9 := HB8.grown hgrow2 HB8.size (owz_block hown1)
                    have k9 := (HB9.cell (p := ⟨b0, off0, none⟩) hb0).trans hc1
                    obtain ⟨A9, c9, hv9⟩ := owz_form hown2
                    subst hv9
                    have hnb9 : 0 + k + (ks.length - (k + 1)) ≤ 9 := by omega
                    generalize hnr : 0 + k + (ks.length - (k + 1)) = nr at *
                    clear hnr
                    refine hK.out _ _ ?_ (fun hH65 => ?_)
                    · try dsimp only
                      go_keep
                    clear hK K hH64
                    try simp only [Act.put, List.setIfInBounds_toArray, List.set_cons_zero, List.set_cons_succ]
                    refine wpAnyH_take (i := 10) (v := ?_) (by simp only [List.getElem?_toArray, List.getElem?_cons_succ, List.getElem?_cons_zero]; exact rfl) (by kernel_rfl) (by kernel_rfl) (by kernel_rfl) (by exact fun _ _ _ h => h) (Or.inl ⟨by rfl, ?_⟩) (by assumption) ?_
                    rotate_left 1
                    · intro w hSw
                      try dsimp only at hSw
                      go_simp
                      try with_reducible rfl
                    try simp only [Act.put, List.setIfInBounds_toArray, List.set_cons_zero, List.set_cons_succ]
                    refine wpAnyH_done (by kernel_rfl) ?_ _
                    refine NoPanic.normal ?_
                    have HRC : Hid (∀ w', Below w9.heap.size w9 w' → Rd w' w'.heap.size A9 (cakeV (outC ks k))) := Lib.hid (by
                      have hrd := Rd.ownz hown2
                      rw [List.nil_append, cakeV_out] at hrd
                      exact fun w' hb => (hrd.below hb).more hb.size)
                    have hcp9 := owz_caps hown2
                    have HBW := Lib.hid (hbel.trans (HB9.mono hbel.size))
                    have HRK : Hid (∀ w', Below w9.heap.size w9 w' → Rd w' w'.heap.size (some ⟨b0, off0, none⟩) (cakeV ks)) := Lib.hid fun w' hb => (((hrr.below HB9).more HB9.size).below hb).more hb.size
                    obtain ⟨hfl, hfb, hff⟩ := flo_facts HB.out hlt HL.out
                    have HFF : Hid (firstF a h ks k = (k : Int) :: (floatT a h (outC ks k)).map (upZ k)) := Lib.hid rfl
                    have HFFL := Lib.hid hff
                    have HO : Hid (∀ w', Rd w' w'.heap.size A9 (cakeV (outC ks k)) → Calls Try.prog 42 #[.slice A9 nr c9, .int .i64 a, .int .i64 h] w' fun e w'' => ∃ A' c', e = .returned (.slice A' nr c') ∧ w''.ownsRow w'.heap.size 3 1 (.slice A' nr c') nr (ints (floatT a h (outC ks k))) ∧ Below w'.heap.size w' w'') := Lib.hid fun w' hr => by
                      have := iOrder_any nr (by omega) (outC ks k) HL.out A9 c9 hcp9 w' hr a h
                      unfold OutI at this
                      rw [hfl] at this
                      exact this
                    have HC : Hid (∀ w', Rd w' w'.heap.size A9 (cakeV (outC ks k)) → Calls Try.prog 47 #[.slice A9 nr c9, .int .i64 a, .int .i64 h] w' fun e w'' => e = .returned (.int .i64 (countT a h (outC ks k))) ∧ Below w'.heap.size w' w'') := Lib.hid fun w' hr => iCount_any nr (by omega) (outC ks k) HL.out A9 c9 hcp9 w' hr a h
                    generalize floatT a h (outC ks k) = F at *
                    generalize countT a h (outC ks k) = cR at *
                    have HFL := Lib.hid hfl
                    have HFB := Lib.hid hfb
                    clear hfl hfb hff hown1 hown2 hgrow1 hgrow2 HB8 HB9 k8 k9 hc1 hbel hrr HAT HS1A HBE HE0
                    go_wp2_with fail
                    refine (HO.out _ (HRC.out _ ((Below.refl _ _).alloc (Nat.le_refl _) _))).mono ?_
                    rintro e w10 ⟨AO, cO, rfl, oO, bO⟩
                    have HST := Lib.hid (fst_start oO bO)
                    clear oO bO
                    go_wp2
                    go_loopw [11, 13] (fun v i wi => ∃ m : Nat, m ≤ nr ∧ i = .int .i64 m ∧ FST w9 wi v (m + 1) (ints ((k : Int) :: (F.map (upZ k)).take m)) AO nr cO F) (fun _ i _ => nr - (intOf i).toNat)
                    case atStart => exact ⟨0, Nat.zero_le _, rfl, HST.out⟩
                    case round =>
                      obtain ⟨m, hm, rfl, hF⟩ := hrel
                      obtain ⟨wi, rfl⟩ : ∃ wi, wi = wr := ⟨_, rfl⟩
                      clear HST
                      by_cases hlt2 : m < nr
                      · have hmn : m < F.length := by rw [HFL.out]; exact hlt2
                        have HE := Lib.hid (first_snoc (k : Int) hmn)
                        obtain ⟨t0, t1⟩ := HFB.out m hlt2
                        obtain ⟨b', off', rfl, _, hcx⟩ := (Rd.ownz hF.oth).at_ (k := m) (x := .int .i64 (at_ F m)) (by rw [ints, List.getElem?_map, of_at hmn]; rfl)
                        generalize at_ F m = t at *
                        have f2 : (m : Int) < (nr : Int) := by omega
                        have f4 : IntKind.i64.wrap (t + 1) = t + 1 := IntWalk.i64_in _ (by omega)
                        clear hmn
                        by_cases hkt : (k : Int) ≤ t
                        · have e0 : upZ (k : Int) t = t + 1 := by unfold upZ; rw [if_pos hkt]
                          rw [e0] at HE
                          clear e0
                          go_wp2_with (at_builtin; refine wpList_append_own_at _ rfl _ _ 23 rfl (w9.heap.size) 3 i0 (.int .i64 0) 1 8 Try.underlying23 hi hz0 hz1 hz2 rfl (by decide) _ _ _ rfl (owz_alloc hF.own _) ⟨wi.heap.size, 0, none⟩ 1 1 [.int .i64 (t + 1)] rfl rfl (one_new _ _ _ _ rfl) (by intro u hu; simp at hu; subst hu; rfl) (by unfold maxLen; omega) (by omega) (by have := hF.bel.size; simp; omega) ?_)
                          intro v' w11 hown' hgrow _ hblk
                          have hp := hF.push hown' hgrow hblk
                          rw [← HE.out] at hp
                          have HP := Lib.hid hp
                          clear hp hown' hgrow hblk hF hcx
                          go_wp2
                          go_roundw
                          case rel => exact ⟨m + 1, by omega, by go_num, HP.out⟩
                          case measure => simp [intOf]; omega
                        · have e0 : upZ (k : Int) t = t := by unfold upZ; rw [if_neg hkt]
                          rw [e0] at HE
                          clear e0
                          go_wp2_with (at_builtin; refine wpList_append_own_at _ rfl _ _ 23 rfl (w9.heap.size) 3 i0 (.int .i64 0) 1 8 Try.underlying23 hi hz0 hz1 hz2 rfl (by decide) _ _ _ rfl (owz_alloc hF.own _) ⟨wi.heap.size, 0, none⟩ 1 1 [.int .i64 t] rfl rfl (one_new _ _ _ _ rfl) (by intro u hu; simp at hu; subst hu; rfl) (by unfold maxLen; omega) (by omega) (by have := hF.bel.size; simp; omega) ?_)
                          intro v' w11 hown' hgrow _ hblk
                          have hp := hF.push hown' hgrow hblk
                          rw [← HE.out] at hp
                          have HP := Lib.hid hp
                          clear hp hown' hgrow hblk hF hcx
                          go_wp2
                          go_roundw
                          case rel => exact ⟨m + 1, by omega, by go_num, HP.out⟩
                          case measure => simp [intOf]; omega
                      · have f2 : ¬ (m : Int) < (nr : Int) := by omega
                        have hff := hF
                        rw [show m = nr by omega, List.take_of_length_le (by rw [List.length_map, HFL.out]; omega), ← HFF.out] at hff
                        clear hF
                        obtain ⟨Av, cv, hvv⟩ := owz_form hff.own
                        subst hvv
                        have rk := HRK.out wi hff.bel
                        have rc := HRC.out wi hff.bel
                        have HV1 := Lib.hid (HV.out (firstF a h ks k) (nr + 1) (by omega) HFFL.out Av cv wi rk (Rd.ownz hff.own))
                        have hb10 := Lib.hid (HBW.out.trans (hff.bel.mono HBW.out.size))
                        clear hff rk HFF HFFL HFL HFB
                        generalize vfT a h ks (firstF a h ks k) = vR at *
                        go_wp2_with fail
                        refine HV1.out.mono ?_
                        rintro e w12 ⟨rfl, b12⟩
                        have rc2 := Lib.hid ((rc.below b12).more b12.size)
                        have hb12 := hb10.out.trans (b12.mono hb10.out.size)
                        clear b12 hb10 rc
                        cases vR
                        · have HSK := Lib.hid (HGS.out.2 rfl)
                          have HBF := Lib.hid hb12
                          clear hb12
                          go_wp2
                          go_roundw
                          case rel => exact ⟨k + 1, by omega, congrArg (Value.int .i64) HFK.out, congrArg (Value.int .i64) HSK.out, by go_num, HBF.out⟩
                          case measure => simp [intOf]; omega
                        · have hsw := HGS.out.1 rfl
                          have HZZ := HS1
                          rw [← HS1.out] at hsw
                          go_wp2_with fail
                          refine (HC.out _ rc2.out).mono ?_
                          rintro e w13 ⟨rfl, b13⟩
                          have hb13 := hb12.trans (b13.mono hb12.size)
                          clear hb12 b13
                          have HBF := Lib.hid hb13
                          clear hb13
                          go_wp2
                          go_roundw
                          case rel => exact ⟨k + 1, by omega, congrArg (Value.int .i64) HFK.out, congrArg (Value.int .i64) HS1.out, by go_num, HBF.out⟩
                          case measure => simp [intOf]; omega
                  exact AllReadyH.nil
                exact AllReadyH.nil
              exact AllReadyH.nil
          · have hkn : k = ks.length := by omega
            have ab : ¬ (k : Int) < (ks.length : Int) := by omega
            have hS : smN (gF a h ks) k = q := by rw [hkn]; exact HSUM.out
            have hF2 : q ≤ facN k := by rw [hkn]; exact HQ2.out
            rw [hS]
            generalize facN k = fk at *
            have HBF := Lib.hid (HBL.out.trans (hbel.mono HBL.out.size))
            clear hbel hS hkn
            go_wp2
            go_ret
            exact ⟨rfl, HBF.out⟩
  · have hn' : 1048576 < cs.length := by omega
    go_enter Try.func12, Try.ntmps12
    go_wp2
    go_ret
    exact ⟨rfl, Below.refl _ _⟩

set_option maxRecDepth 100000 in
theorem lifted (os : Os) (started : os.Started) (H : Type) (enc : TypeId × Value → H) :
    ReturnsInHanded {} Try.checked os 12 .any (Rows.fnCountFloatsSpec.pre6 enc Try.prog Try.f12 Rows.fnCountFloatsRow.domain false) (Rows.fnCountFloatsSpec.post enc Try.prog Try.f12 false true false false) := by
  refine returnsInHanded_of_change (C := Try.checked) ownNone started (by kernel_rfl) Try.func12
    (ChangeSpec.witness6 (enc := enc) (C := Try.checked) false ⟨#[], #[.slice none 0 0], []⟩ 8 (by kernel_rfl) (by kernel_rfl) (by kernel_rfl) (by kernel_rfl)) ?_
  intro W base args ds gs before hval0 hW hcnd _
  have hval : ∀ (j : Nat) t v, Try.f12.params[j]? = some t → args[j]? = some v → Value.okWide Try.prog W .any base t v := hval0
  have hW' := hW
  obtain ⟨p, q, hA0, hV, rfl, _, _⟩ := hW
  have hA : DataW.TrodAll enc Try.prog W 0 (fun _ => true) true Try.f12.params.toList args.toList ds p := hA0
  rw [Try.params12] at hA hval
  obtain ⟨v0, vs0, d0, ds0, p0, q0, hargs, rfl, rfl, h0, r0⟩ := trodAll_cons hA
  obtain ⟨rfl, rfl, rfl⟩ := trodAll_nil r0
  obtain rfl : args = #[v0] := by cases args; simp_all
  obtain ⟨rfl, rfl⟩ := trodVars_none hV
  obtain ⟨Acs, ccs, cs, rfl, hrcs, hlcs, hqcs⟩ := open_rd Try.underlying47 Try.underlying5 cellsByte (hval 0 47 v0 rfl rfl) h0
  have hbcs := byte_bounds hqcs
  clear hA0 hval0
  refine (walk W cs Acs ccs hrcs hbcs hlcs).mono fun e W' ⟨he, hg⟩ => ?_
  subst he
  exact ⟨_, rfl, law_post laidOut (by kernel_rfl) rfl rfl rfl rfl rfl Try.underlying4 hW' hg⟩

/-- The statement. -/
theorem proved : Rows.FnCountFloatsSaid :=
  OpenClaim.holds_of_wide 12 Try.f12 rfl rfl rfl rfl rfl rfl rfl ⟨rfl, rfl, rfl, rfl, rfl⟩ rfl rfl rfl rfl rfl (by kernel_rfl) Try.func12 (by kernel_rfl)
    (of_decide_eq_true (by kernel_rfl)) (by unfold Func.isWrapper; first | (rw [if_pos (by decide +kernel)]; kernel_rfl) | (rw [if_neg (by decide +kernel)]; exact ⟨rfl, rfl⟩))
    (fun os started H enc _ => lifted os started H enc)
#print axioms proved
end fnCountFloats

end Go.Proofs.Ytjjddamblijffab

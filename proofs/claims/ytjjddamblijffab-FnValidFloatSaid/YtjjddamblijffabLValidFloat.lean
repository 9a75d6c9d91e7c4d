/- The law FnValidFloat: for every code it answers true, and the code reads as it read before. No condition. -/
import Derived.Test.YtjjddamblijffabVFDraw
import Derived.Test.YtjjddamblijffabVFDraw
import Derived.Test.YtjjddamblijffabLaw
namespace Go.Proofs.Ytjjddamblijffab
open Go.RowKit
set_option linter.unusedVariables false
set_option linter.unusedSimpArgs false

namespace fnValidFloat
open Go.ChangeShapes Go.WideShapes Go.ChangeAt Go.RowKit
set_option maxRecDepth 100000 in
set_option maxHeartbeats 800000 in
set_option maxRecDepth 100000 in
set_option maxRecDepth 100000 in
set_option maxHeartbeats 8000000 in
theorem walk (w : World) (cs : List Int) (Acs : Option Addr) (ccs : Nat) (hrcs : Rd w w.heap.size Acs (bytes cs)) (hbcs : ∀ z ∈ cs, 0 ≤ z ∧ z ≤ 255) (hlcs : cs.length ≤ ccs ∧ ccs ≤ maxLen) :
    Calls Try.prog 10 #[.slice Acs cs.length ccs] w fun e w' => e = .returned (.bool true) ∧ Below w.heap.size w w' := by
  by_cases hn : cs.length ≤ 1048576
  · go_enter Try.func10, Try.ntmps10
    go_wp2_with fail
    refine (dValidFloat _ _ _ _ hrcs hbcs hlcs.1 hlcs.2).mono ?_
    rintro e w1 ⟨ks, os, Ak, Ao, ck, co, a, h, rfl, ⟨hkl, hkc, hkm, hrk⟩, ⟨hol, hom, hro⟩, hok, b1⟩
    obtain ⟨i0, hi, hz0, hz1, hz2⟩ := info_parts info_int
    have hln : ks.length ≤ 1048576 := by omega
    have hln2 : os.length ≤ 1048576 := by omega
    have HI := Lib.hid (fun w hr hro => iFloat_any _ _ hln hln2 ks os rfl rfl Ak Ao ck co ⟨hkc, hkm⟩ w hr hro a h)
    have HS := Lib.hid (fun w hr hro => sFloat_any _ _ hln hln2 ks os rfl rfl Ak Ao ck co ⟨hol, hom⟩ w hr hro a h)
    have HT : Hid (vfT a h ks os = true → ∀ L k : Nat, os[L]? = some (k : Int) → os.length = L + 1 → vfT a h (outC ks k) (earlyF (k : Int) os L) = true) := Lib.hid fun hc L k h1 h2 => vfT_out hc h1 h2
    have HZ0 : Hid (vfT a h ks os = true → ∀ L : Nat, os.length = L + 1 → (∃ k : Nat, os[L]? = some (k : Int) ∧ k < ks.length) ∧ ∀ i, i < os.length → 0 ≤ at_ os i ∧ at_ os i ≤ (ks.length : Int) - 1) := Lib.hid fun hc L h2 => vf_last hc h2
    have cI := HI.out w1 hrk hro
    generalize vfT a h ks os = q at *
    generalize hn0 : os.length = n at *
    have hn := Lib.hid hn0
    clear hn0
    go_wp2_with fail
    refine (cI).mono ?_
    rintro e w2 ⟨rfl, b2⟩
    have hr2 := (hrk.below b2).more b2.size
    have ho2 := (hro.below b2).more b2.size
    have bl2 := b1.trans (b2.mono b1.size)
    have cS := HS.out w2 hr2 ho2
    clear cI b1 b2 hrk hro
    by_cases hq : q = false ∨ n = 0
    · have HQ := Lib.hid hq
      clear hq
      go_wp2_with fail
      refine (cS).mono ?_
      rintro e w3 ⟨rfl, b3⟩
      have hr3 := (hr2.below b3).more b3.size
      have ho3 := (ho2.below b3).more b3.size
      have bl3 := bl2.trans (b3.mono bl2.size)
      clear b3 hr2 ho2 bl2 cS
      cases q
      · skip
        go_wp2_with fail
        refine (HS.out _ hr3 ho3).mono ?_
        rintro e w4 ⟨rfl, b4⟩
        have bl4 := bl3.trans (b4.mono bl3.size)
        clear b4 bl3
        go_wp2
        go_ret
        exact ⟨rfl, bl4⟩
      · have hnb : ((n : Int) == 0) = true := beq_iff_eq.2 (by have := HQ.out.resolve_left (by simp); omega)
        go_wp2_with fail
        refine (HS.out _ hr3 ho3).mono ?_
        rintro e w4 ⟨rfl, b4⟩
        have bl4 := bl3.trans (b4.mono bl3.size)
        clear b4 bl3
        go_wp2
        go_ret
        exact ⟨rfl, bl4⟩
    · obtain ⟨L, hL⟩ : ∃ L, n = L + 1 := ⟨n - 1, by omega⟩
      obtain rfl : q = true := by
        cases q
        · exact absurd (.inl rfl) hq
        · rfl
      have hnb : ((n : Int) == 0) = false := beq_eq_false_iff_ne.2 (by omega)
      have HZ1 := HZ0.out (by first | exact rfl | trivial) L hL
      obtain ⟨⟨k, hk1, hlt⟩, hza⟩ := HZ1
      have HZA := Lib.hid hza
      have HV := Lib.hid (HT.out (by first | exact rfl | trivial) L k hk1 hL)
      have HEL : Hid ((earlyF (k : Int) os L).length = L) := Lib.hid (earlyF_len (by rw [hn.out]; omega))
      have hcv : (ints os)[L]? = some (.int .i64 (k : Int)) := by rw [ints, List.getElem?_map, hk1]; rfl
      have g1 : (n : Int) - 1 = (L : Int) := by omega
      have hL1 : n ≤ L + 1 := by omega
      clear hza HT HZ0 hk1 hq hL
      go_wp2_with fail
      refine (cS).mono ?_
      rintro e wr ⟨rfl, b3⟩
      have hrk := (hr2.below b3).more b3.size
      have hro := (ho2.below b3).more b3.size
      have bl3 := bl2.trans (b3.mono bl2.size)
      clear b3 hr2 ho2 bl2 cS HI HS
      obtain ⟨bo, offo, rfl, hbo, hcL⟩ := hro.at_ hcv
      have g2 : (0 : Int) ≤ (n : Int) - 1 := by omega
      have g3 : (L : Int) < (n : Int) := by omega
      have g4 : ((n : Int) - 1).toNat = L := by omega
      have g5 : L < n := by omega
      clear hcv
      obtain ⟨b0, off0, x, y, rfl, hb0, hxy, hc1, hc2⟩ := hrk.cake_ (k := 0) (by omega)
      have HE0 : Hid ((wr.drew.alloc (Obj.cells #[] 83)).ownsRow wr.heap.size 83 2 (.slice (some ⟨wr.heap.size, 0, none⟩) 0 0) 0 []) := Lib.hid (owz_empty wr.drew _ 2)
      have HBE : Hid (Below wr.heap.size wr (wr.drew.alloc (Obj.cells #[] 83))) := Lib.hid ((below_drewN (Below.refl _ _) 1).alloc (Nat.le_refl _) _)
      have HN1 : Hid (((cakeV ks).take (k * 2)).length = k * 2) := Lib.hid (by rw [List.length_take, cakeV_len]; omega)
      have HN2 : Hid (((cakeV ks).drop ((k + 1) * 2)).length = (ks.length - (k + 1)) * 2) := Lib.hid (by rw [List.length_drop, cakeV_len]; omega)
      have HO1 : Hid (∀ u ∈ (cakeV ks).take (k * 2), u.oneCell' = true) := Lib.hid fun u hu => cakeV_one ks u (List.mem_of_mem_take hu)
      have HO2 : Hid (∀ u ∈ (cakeV ks).drop ((k + 1) * 2), u.oneCell' = true) := Lib.hid fun u hu => cakeV_one ks u (List.mem_of_mem_drop hu)
      have HAT : Hid (∀ w', Below wr.heap.size wr w' → ∀ j u, (cakeV ks)[j]? = some u → w'.cell? ⟨b0, off0 + j, none⟩ = some u) := Lib.hid fun w' hb j u hj => by
        obtain ⟨b', off', e, _, hc⟩ := (hrk.below hb).at_ hj
        injection e with e
        injection e with e1 e2
        subst e1 e2
        exact hc
      have HS1 : Hid (∀ j u, ((cakeV ks).take (k * 2))[j]? = some u → (wr.drew.alloc (Obj.cells #[] 83)).cell? ((⟨b0, off0, none⟩ : Addr).add j) = some u) := Lib.hid fun j u hj => by
        rw [List.getElem?_take] at hj
        split at hj
        · have := HAT.out _ HBE.out j u hj
          rw [add_off]; exact this
        · cases hj
      have HS2 : Hid (∀ w', Below wr.heap.size wr w' → ∀ j u, ((cakeV ks).drop ((k + 1) * 2))[j]? = some u → w'.cell? ((⟨b0, off0 + (k + 1) * 2, none⟩ : Addr).add j) = some u) := Lib.hid fun w' hb j u hj => by
        rw [List.getElem?_drop] at hj
        have := HAT.out w' hb _ u hj
        rw [add_off, Nat.add_assoc]; exact this
      have HL : Hid ((outC ks k).length = 0 + k + (ks.length - (k + 1))) := Lib.hid (by have := outC_len hlt; omega)
      have a1 : k ≤ ck := by omega
      have a2 : k + 1 ≤ ck := by omega
      have a3 : (k : Int) ≤ (ks.length : Int) := by omega
      have a4 : (k : Int) ≤ (ck : Int) := by omega
      have a5 : (k : Int) + 1 ≤ (ks.length : Int) := by omega
      have a6 : (ks.length : Int) ≤ (ck : Int) := by omega
      have a7 : ((k : Int) + 1).toNat = k + 1 := by omega
      have a8 : IntKind.i64.wrap ((k : Int) + 1) = (k : Int) + 1 := IntWalk.i64_in _ (by omega)
      have a9 : ¬ ck = k := by omega
      have a0 : (0 : Int) ≤ (k : Int) + 1 := by omega
      simp only [Nat.zero_mul, Nat.add_zero] at hc1
      clear hc2 hxy
      by_cases hck : ck = k + 1
      · subst hck
        have hL0 : ks.length - (k + 1) = 0 := by omega
        have c1 : (k : Int) ≤ (k : Int) + 1 := by omega
        have c2 : (ks.length : Int) ≤ (k : Int) + 1 := by omega
        have HZ : Hid ((cakeV ks).take (k * 2) = cakeV (outC ks k)) := Lib.hid (by rw [← cakeV_out, List.drop_of_length_le (by rw [cakeV_len]; omega), List.append_nil])
        rw [hL0] at HL
        clear a4 a6 HS2 HO2 HN2
        go_wp2
        refine wp_region_noPanic ?_
        refine wp_region_held_drew (S := fun w' => w'.cell? ⟨b0, off0, none⟩ = some (.int .i64 x)) (by kernel_rfl) ?_ (fun hH0 => ?_)
        · try dsimp only
          go_keep
        refine wpAnyH_take (i := 1) (v := ?_) (by simp only [List.getElem?_toArray, List.getElem?_cons_succ, List.getElem?_cons_zero]; exact rfl) (by kernel_rfl) (by kernel_rfl) (by kernel_rfl) (by exact fun _ _ _ h => h) (Or.inl ⟨by rfl, ?_⟩) (by assumption) ?_
        rotate_left 1
        · intro w hSw
          try dsimp only at hSw
          go_simp
          try with_reducible rfl
        try simp only [Act.put, List.setIfInBounds_toArray, List.set_cons_zero, List.set_cons_succ]
        refine wpAnyH_take (i := 2) (v := ?_) (by simp only [List.getElem?_toArray, List.getElem?_cons_succ, List.getElem?_cons_zero]; exact rfl) (by kernel_rfl) (by kernel_rfl) (by kernel_rfl) (by exact fun _ _ _ h => h) (Or.inl ⟨by rfl, ?_⟩) (by assumption) ?_
        rotate_left 1
        · intro w hSw
          try dsimp only at hSw
          go_simp
          try with_reducible rfl
        try simp only [Act.put, List.setIfInBounds_toArray, List.set_cons_zero, List.set_cons_succ]
        refine wpAnyH_take (i := 3) (v := ?_) (by simp only [List.getElem?_toArray, List.getElem?_cons_succ, List.getElem?_cons_zero]; exact rfl) (by kernel_rfl) (by kernel_rfl) (by kernel_rfl) (by exact fun _ _ _ h => h) (Or.inl ⟨by rfl, ?_⟩) (by assumption) ?_
        rotate_left 1
        · intro w hSw
          try dsimp only at hSw
          go_simp
          try with_reducible rfl
        try simp only [Act.put, List.setIfInBounds_toArray, List.set_cons_zero, List.set_cons_succ]
        refine wpAnyH_take (i := 5) (v := ?_) (by simp only [List.getElem?_toArray, List.getElem?_cons_succ, List.getElem?_cons_zero]; exact rfl) (by kernel_rfl) (by kernel_rfl) (by kernel_rfl) (by exact fun _ _ _ h => h) (Or.inl ⟨by rfl, ?_⟩) (by assumption) ?_
        rotate_left 1
        · intro w hSw
          try dsimp only at hSw
          go_simp
          try with_reducible rfl
        try simp only [Act.put, List.setIfInBounds_toArray, List.set_cons_zero, List.set_cons_succ]
        refine wpAnyH_take (i := 6) (v := ?_) (by simp only [List.getElem?_toArray, List.getElem?_cons_succ, List.getElem?_cons_zero]; exact rfl) (by kernel_rfl) (by kernel_rfl) (by kernel_rfl) (by exact fun _ _ _ h => h) (Or.inl ⟨by rfl, ?_⟩) (by assumption) ?_
        rotate_left 1
        · intro w hSw
          try dsimp only at hSw
          go_simp
          try with_reducible rfl
        try simp only [Act.put, List.setIfInBounds_toArray, List.set_cons_zero, List.set_cons_succ]
        refine wpAnyH_take (i := 7) (v := ?_) (by simp only [List.getElem?_toArray, List.getElem?_cons_succ, List.getElem?_cons_zero]; exact rfl) (by kernel_rfl) (by kernel_rfl) (by kernel_rfl) (by exact fun _ _ _ h => h) (Or.inl ⟨by rfl, ?_⟩) (by assumption) ?_
        rotate_left 1
        · intro w hSw
          try dsimp only at hSw
          go_simp
          try with_reducible rfl
        try simp only [Act.put, List.setIfInBounds_toArray, List.set_cons_zero, List.set_cons_succ]
        refine wpAnyH_take (i := 8) (v := ?_) (by simp only [List.getElem?_toArray, List.getElem?_cons_succ, List.getElem?_cons_zero]; exact rfl) (by kernel_rfl) (by kernel_rfl) (by kernel_rfl) (by exact fun _ _ _ h => h) (Or.inl ⟨by rfl, ?_⟩) (by assumption) ?_
        rotate_left 1
        · intro w hSw
          try dsimp only at hSw
          go_simp
          try with_reducible rfl
        try simp only [Act.put, List.setIfInBounds_toArray, List.set_cons_zero, List.set_cons_succ]
        refine wpAnyH_ready (rs := [0]) (by kernel_rfl) (by simp) ?_
        refine AllReadyH.cons (by simp only [List.getElem?_toArray, List.getElem?_cons_succ, List.getElem?_cons_zero]; exact rfl) (fun K hK => ?_) ?_
        · go_simp
          refine hK.out _ _ ?_ (fun hH40 => ?_)
          · try dsimp only
            go_keep
          clear hK K hH0
          try simp only [Act.put, List.setIfInBounds_toArray, List.set_cons_zero, List.set_cons_succ]
          refine wpAnyH_ready (rs := [4]) (by kernel_rfl) (by simp) ?_
          refine AllReadyH.cons (by simp only [List.getElem?_toArray, List.getElem?_cons_succ, List.getElem?_cons_zero]; exact rfl) (fun K hK => ?_) ?_
          · refine step_cakes rfl (.tmp 57) (.tmp 60) rfl wr.heap.size 0 k (k + 1) (.slice (some ⟨wr.heap.size, 0, none⟩) 0 0) [] ((cakeV ks).take (k * 2)) ⟨b0, off0, none⟩ (by simp [Act.eval, Act.put]) (by simp [Act.eval, Act.put]) HE0.out HN1.out HS1.out HO1.out (by omega) (by simp) ?_
            intro v1 w8 hown1 hgrow1
            have HB8 : Below wr.heap.size wr w8 := HBE.out.grown hgrow1 (by simp) (owz_block HE0.out)
            have k8 := (HB8.cell (p := ⟨b0, off0, none⟩) hb0).trans hc1
            refine hK.out _ _ ?_ (fun hH41 => ?_)
            · try dsimp only
              go_keep
            clear hK K hH40
            try simp only [Act.put, List.setIfInBounds_toArray, List.set_cons_zero, List.set_cons_succ]
            refine wpAnyH_ready (rs := [9]) (by kernel_rfl) (by simp) ?_
            refine AllReadyH.cons (by simp only [List.getElem?_toArray, List.getElem?_cons_succ, List.getElem?_cons_zero]; exact rfl) (fun K hK => ?_) ?_
            · refine step_cakes rfl (.tmp 61) (.tmp 65) rfl wr.heap.size (0 + k) 0 0 v1 ([] ++ (cakeV ks).take (k * 2)) [] ⟨b0, off0, none⟩ (by simp [Act.eval, Act.put]) (by simp [Act.eval, Act.put]) hown1 rfl (by intro j u hj; simp at hj) (by intro u hu; simp at hu) (by omega) HB8.size ?_
              intro v2 w9 hown2 hgrow2
              have HB9 : Below wr.heap.size wr w9 := HB8.grown hgrow2 HB8.size (owz_block hown1)
              have k9 := (HB9.cell (p := ⟨b0, off0, none⟩) hb0).trans hc1
              obtain ⟨A9, c9, hv9⟩ := owz_form hown2
              subst hv9
              have hnb9 : 0 + k + 0 ≤ 9 := by omega
              generalize hnr : 0 + k + 0 = nr at *
              clear hnr
              refine hK.out _ _ ?_ (fun hH42 => ?_)
              · try dsimp only
                go_keep
              clear hK K hH41
              try simp only [Act.put, List.setIfInBounds_toArray, List.set_cons_zero, List.set_cons_succ]
              refine wpAnyH_take (i := 10) (v := ?_) (by simp only [List.getElem?_toArray, List.getElem?_cons_succ, List.getElem?_cons_zero]; exact rfl) (by kernel_rfl) (by kernel_rfl) (by kernel_rfl) (by exact fun _ _ _ h => h) (Or.inl ⟨by rfl, ?_⟩) (by assumption) ?_
              rotate_left 1
              · intro w hSw
                try dsimp only at hSw
                go_simp
                try with_reducible rfl
              try simp only [Act.put, List.setIfInBounds_toArray, List.set_cons_zero, List.set_cons_succ]
              refine wpAnyH_done (by kernel_rfl) ?_ _
              refine NoPanic.normal ?_
              have HRC : Hid (∀ w', Below w9.heap.size w9 w' → Rd w' w'.heap.size A9 (cakeV (outC ks k))) := Lib.hid (by
                have hrd := Rd.ownz hown2
                rw [List.append_nil, List.nil_append, HZ.out] at hrd
                exact fun w' hb => (hrd.below hb).more hb.size)
              have hcp9 := owz_caps hown2
              have HBW := Lib.hid (bl3.trans (HB9.mono bl3.size))
              have HRO : Hid (∀ w', Below w9.heap.size w9 w' → Rd w' w'.heap.size (some ⟨bo, offo, none⟩) (ints os)) := Lib.hid fun w' hb => ((((hro.below HB9).more HB9.size).below hb).more hb.size)
              clear g1 g2 g3 g4 hown1 hown2 hgrow1 hgrow2 HB8 HB9 k8 k9 hc1 bl3 hro hrk HAT HS1 HBE HE0
              go_wp2
              go_loopw [10, 11] (fun v i wi => ∃ m : Nat, m ≤ L ∧ i = .int .i64 m ∧ wi.ownsRow w9.heap.size 3 1 v m (ints (earlyF (k : Int) os m)) ∧ Below w9.heap.size w9 wi) (fun _ i _ => L - (intOf i).toNat)
              case atStart => exact ⟨0, Nat.zero_le _, rfl, own_empty w9 _, (Below.refl _ _).alloc (Nat.le_refl _) _⟩
              case round =>
                obtain ⟨m, hm, rfl, hown, hbel⟩ := hrel
                obtain ⟨wi, rfl⟩ : ∃ wi, wi = wr := ⟨_, rfl⟩
                by_cases hlt : m < L
                · have hmn : m < os.length := by rw [hn.out]; omega
                  have HE := Lib.hid (earlyF_snoc (z := (k : Int)) hmn)
                  have htb := HZA.out m (by omega)
                  obtain ⟨b', off', e', _, hcx⟩ := (HRO.out wi hbel).at_ (k := m) (x := .int .i64 (at_ os m)) (by rw [ints, List.getElem?_map, of_at hmn]; rfl)
                  injection e' with e'
                  injection e' with e1 e2
                  subst e1 e2
                  generalize at_ os m = t at *
                  have f1 : (m : Int) + 1 < (n : Int) := by omega
                  have f2 : (m : Int) < (n : Int) := by omega
                  have f3 : m < n := by omega
                  clear hmn
                  by_cases hkt : (k : Int) < t
                  · exact absurd hkt (by omega)
                  · have e0 : gapZ (k : Int) t = t := by unfold gapZ; rw [if_neg hkt]
                    rw [e0] at HE
                    clear e0
                    go_wp2_with (at_builtin; refine wpList_append_own _ rfl _ _ 23 rfl (w9.heap.size) 3 i0 (.int .i64 0) 1 8 Try.underlying23 hi hz0 hz1 hz2 rfl (by decide) _ _ _ rfl (own_alloc hown _) ⟨wi.heap.size, 0, none⟩ 1 1 [.int .i64 t] rfl rfl (one_new _ _ _ _ rfl) (by intro u hu; simp at hu; subst hu; rfl) (by unfold maxLen; omega) (by omega) (by have := hbel.size; simp; omega) ?_)
                    intro v' w11 hown' hgrow _
                    have hob := own_block hown
                    have R11 : w11.ownsRow w9.heap.size 3 1 v' (m + 1) (ints (earlyF (k : Int) os (m + 1))) := by rw [HE.out]; simpa [ints] using hown'
                    have hbel11 : Below w9.heap.size w9 w11 := (hbel.alloc hbel.size _).grown hgrow (by have := hbel.size; simp; omega) hob
                    have HP := Lib.hid (And.intro R11 hbel11)
                    clear hown' hgrow hown hbel R11 hbel11 hob hcx
                    go_wp2
                    go_roundw
                    case rel => first | exact ⟨m + 1, by omega, by go_num, HP.out.1, HP.out.2⟩ | exact ⟨_, m + 1, by omega, by go_num, HP.out.1, HP.out.2⟩ | trace_state
                    case measure => simp [intOf]; omega
                · obtain rfl : m = L := by omega
                  have f1 : ¬ (m : Int) + 1 < (n : Int) := by omega
                  obtain ⟨Av, cv, rfl⟩ := own_form hown
                  have rc := HRC.out wi hbel
                  have rv := Rd.own hown
                  have hb10 := HBW.out.trans (hbel.mono HBW.out.size)
                  clear hown hbel
                  go_wp2_with fail
                  refine (iFloat_any _ _ (by omega) (by omega) (outC ks k) (earlyF (k : Int) os m) HL.out HEL.out A9 Av c9 cv hcp9 wi rc rv a h).mono ?_
                  rintro e w12 ⟨rfl, b12⟩
                  rw [HV.out]
                  have hb12 := hb10.trans (b12.mono hb10.size)
                  clear b12 hb10 rc rv
                  go_wp2
                  go_ret
                  exact ⟨rfl, hb12⟩
            exact AllReadyH.nil
          exact AllReadyH.nil
        exact AllReadyH.nil
      · skip
        go_wp2
        refine wp_region_noPanic ?_
        refine wp_region_held_drew (S := fun w' => w'.cell? ⟨b0, off0, none⟩ = some (.int .i64 x)) (by kernel_rfl) ?_ (fun hH0 => ?_)
        · try dsimp only
          go_keep
        refine wpAnyH_take (i := 1) (v := ?_) (by simp only [List.getElem?_toArray, List.getElem?_cons_succ, List.getElem?_cons_zero]; exact rfl) (by kernel_rfl) (by kernel_rfl) (by kernel_rfl) (by exact fun _ _ _ h => h) (Or.inl ⟨by rfl, ?_⟩) (by assumption) ?_
        rotate_left 1
        · intro w hSw
          try dsimp only at hSw
          go_simp
          try with_reducible rfl
        try simp only [Act.put, List.setIfInBounds_toArray, List.set_cons_zero, List.set_cons_succ]
        refine wpAnyH_take (i := 2) (v := ?_) (by simp only [List.getElem?_toArray, List.getElem?_cons_succ, List.getElem?_cons_zero]; exact rfl) (by kernel_rfl) (by kernel_rfl) (by kernel_rfl) (by exact fun _ _ _ h => h) (Or.inl ⟨by rfl, ?_⟩) (by assumption) ?_
        rotate_left 1
        · intro w hSw
          try dsimp only at hSw
          go_simp
          try with_reducible rfl
        try simp only [Act.put, List.setIfInBounds_toArray, List.set_cons_zero, List.set_cons_succ]
        refine wpAnyH_take (i := 3) (v := ?_) (by simp only [List.getElem?_toArray, List.getElem?_cons_succ, List.getElem?_cons_zero]; exact rfl) (by kernel_rfl) (by kernel_rfl) (by kernel_rfl) (by exact fun _ _ _ h => h) (Or.inl ⟨by rfl, ?_⟩) (by assumption) ?_
        rotate_left 1
        · intro w hSw
          try dsimp only at hSw
          go_simp
          try with_reducible rfl
        try simp only [Act.put, List.setIfInBounds_toArray, List.set_cons_zero, List.set_cons_succ]
        refine wpAnyH_take (i := 5) (v := ?_) (by simp only [List.getElem?_toArray, List.getElem?_cons_succ, List.getElem?_cons_zero]; exact rfl) (by kernel_rfl) (by kernel_rfl) (by kernel_rfl) (by exact fun _ _ _ h => h) (Or.inl ⟨by rfl, ?_⟩) (by assumption) ?_
        rotate_left 1
        · intro w hSw
          try dsimp only at hSw
          go_simp
          try with_reducible rfl
        try simp only [Act.put, List.setIfInBounds_toArray, List.set_cons_zero, List.set_cons_succ]
        refine wpAnyH_take (i := 6) (v := ?_) (by simp only [List.getElem?_toArray, List.getElem?_cons_succ, List.getElem?_cons_zero]; exact rfl) (by kernel_rfl) (by kernel_rfl) (by kernel_rfl) (by exact fun _ _ _ h => h) (Or.inl ⟨by rfl, ?_⟩) (by assumption) ?_
        rotate_left 1
        · intro w hSw
          try dsimp only at hSw
          go_simp
          try with_reducible rfl
        try simp only [Act.put, List.setIfInBounds_toArray, List.set_cons_zero, List.set_cons_succ]
        refine wpAnyH_take (i := 7) (v := ?_) (by simp only [List.getElem?_toArray, List.getElem?_cons_succ, List.getElem?_cons_zero]; exact rfl) (by kernel_rfl) (by kernel_rfl) (by kernel_rfl) (by exact fun _ _ _ h => h) (Or.inl ⟨by rfl, ?_⟩) (by assumption) ?_
        rotate_left 1
        · intro w hSw
          try dsimp only at hSw
          go_simp
          try with_reducible rfl
        try simp only [Act.put, List.setIfInBounds_toArray, List.set_cons_zero, List.set_cons_succ]
        refine wpAnyH_take (i := 8) (v := ?_) (by simp only [List.getElem?_toArray, List.getElem?_cons_succ, List.getElem?_cons_zero]; exact rfl) (by kernel_rfl) (by kernel_rfl) (by kernel_rfl) (by exact fun _ _ _ h => h) (Or.inl ⟨by rfl, ?_⟩) (by assumption) ?_
        rotate_left 1
        · intro w hSw
          try dsimp only at hSw
          go_simp
          try with_reducible rfl
        try simp only [Act.put, List.setIfInBounds_toArray, List.set_cons_zero, List.set_cons_succ]
        refine wpAnyH_ready (rs := [0]) (by kernel_rfl) (by simp) ?_
        refine AllReadyH.cons (by simp only [List.getElem?_toArray, List.getElem?_cons_succ, List.getElem?_cons_zero]; exact rfl) (fun K hK => ?_) ?_
        · go_simp
          refine hK.out _ _ ?_ (fun hH37 => ?_)
          · try dsimp only
            go_keep
          clear hK K hH0
          try simp only [Act.put, List.setIfInBounds_toArray, List.set_cons_zero, List.set_cons_succ]
          refine wpAnyH_ready (rs := [4]) (by kernel_rfl) (by simp) ?_
          refine AllReadyH.cons (by simp only [List.getElem?_toArray, List.getElem?_cons_succ, List.getElem?_cons_zero]; exact rfl) (fun K hK => ?_) ?_
          · refine step_cakes rfl (.tmp 57) (.tmp 60) rfl wr.heap.size 0 k ck (.slice (some ⟨wr.heap.size, 0, none⟩) 0 0) [] ((cakeV ks).take (k * 2)) ⟨b0, off0, none⟩ (by simp [Act.eval, Act.put]) (by simp [Act.eval, Act.put]) HE0.out HN1.out HS1.out HO1.out (by omega) (by simp) ?_
            intro v1 w8 hown1 hgrow1
            have HB8 : Below wr.heap.size wr w8 := HBE.out.grown hgrow1 (by simp) (owz_block HE0.out)
            have k8 := (HB8.cell (p := ⟨b0, off0, none⟩) hb0).trans hc1
            refine hK.out _ _ ?_ (fun hH38 => ?_)
            · try dsimp only
              go_keep
            clear hK K hH37
            try simp only [Act.put, List.setIfInBounds_toArray, List.set_cons_zero, List.set_cons_succ]
            refine wpAnyH_ready (rs := [9]) (by kernel_rfl) (by simp) ?_
            refine AllReadyH.cons (by simp only [List.getElem?_toArray, List.getElem?_cons_succ, List.getElem?_cons_zero]; exact rfl) (fun K hK => ?_) ?_
            · refine step_cakes rfl (.tmp 61) (.tmp 65) rfl wr.heap.size (0 + k) (ks.length - (k + 1)) (ck - (k + 1)) v1 ([] ++ (cakeV ks).take (k * 2)) ((cakeV ks).drop ((k + 1) * 2)) ⟨b0, off0 + (k + 1) * 2, none⟩ (by simp [Act.eval, Act.put]) (by simp [Act.eval, Act.put]) hown1 HN2.out (HS2.out _ HB8) HO2.out (by omega) HB8.size ?_
              intro v2 w9 hown2 hgrow2
              have HB9 : Below wr.heap.size wr w9 := HB8.grown hgrow2 HB8.size (owz_block hown1)
              have k9 := (HB9.cell (p := ⟨b0, off0, none⟩) hb0).trans hc1
              obtain ⟨A9, c9, hv9⟩ := owz_form hown2
              subst hv9
              have hnb9 : 0 + k + (ks.length - (k + 1)) ≤ 9 := by omega
              generalize hnr : 0 + k + (ks.length - (k + 1)) = nr at *
              clear hnr
              refine hK.out _ _ ?_ (fun hH39 => ?_)
              · try dsimp only
                go_keep
              clear hK K hH38
              try simp only [Act.put, List.setIfInBounds_toArray, List.set_cons_zero, List.set_cons_succ]
              refine wpAnyH_take (i := 10) (v := ?_) (by simp only [List.getElem?_toArray, List.getElem?_cons_succ, List.getElem?_cons_zero]; exact rfl) (by kernel_rfl) (by kernel_rfl) (by kernel_rfl) (by exact fun _ _ _ h => h) (Or.inl ⟨by rfl, ?_⟩) (by assumption) ?_
              rotate_left 1
              · intro w hSw
                try dsimp only at hSw
                go_simp
                try with_reducible rfl
              try simp only [Act.put, List.setIfInBounds_toArray, List.set_cons_zero, List.set_cons_succ]
              refine wpAnyH_done (by kernel_rfl) ?_ _
              refine NoPanic.normal ?_
              have HRC : Hid (∀ w', Below w9.heap.size w9 w' → Rd w' w'.heap.size A9 (cakeV (outC ks k))) := Lib.hid (by
                have hrd := Rd.ownz hown2
                rw [List.nil_append, cakeV_out] at hrd
                exact fun w' hb => (hrd.below hb).more hb.size)
              have hcp9 := owz_caps hown2
              have HBW := Lib.hid (bl3.trans (HB9.mono bl3.size))
              have HRO : Hid (∀ w', Below w9.heap.size w9 w' → Rd w' w'.heap.size (some ⟨bo, offo, none⟩) (ints os)) := Lib.hid fun w' hb => ((((hro.below HB9).more HB9.size).below hb).more hb.size)
              clear g1 g2 g3 g4 hown1 hown2 hgrow1 hgrow2 HB8 HB9 k8 k9 hc1 bl3 hro hrk HAT HS1 HBE HE0
              go_wp2
              go_loopw [10, 11] (fun v i wi => ∃ m : Nat, m ≤ L ∧ i = .int .i64 m ∧ wi.ownsRow w9.heap.size 3 1 v m (ints (earlyF (k : Int) os m)) ∧ Below w9.heap.size w9 wi) (fun _ i _ => L - (intOf i).toNat)
              case atStart => exact ⟨0, Nat.zero_le _, rfl, own_empty w9 _, (Below.refl _ _).alloc (Nat.le_refl _) _⟩
              case round =>
                obtain ⟨m, hm, rfl, hown, hbel⟩ := hrel
                obtain ⟨wi, rfl⟩ : ∃ wi, wi = wr := ⟨_, rfl⟩
                by_cases hlt : m < L
                · have hmn : m < os.length := by rw [hn.out]; omega
                  have HE := Lib.hid (earlyF_snoc (z := (k : Int)) hmn)
                  have htb := HZA.out m (by omega)
                  obtain ⟨b', off', e', _, hcx⟩ := (HRO.out wi hbel).at_ (k := m) (x := .int .i64 (at_ os m)) (by rw [ints, List.getElem?_map, of_at hmn]; rfl)
                  injection e' with e'
                  injection e' with e1 e2
                  subst e1 e2
                  generalize at_ os m = t at *
                  have f1 : (m : Int) + 1 < (n : Int) := by omega
                  have f2 : (m : Int) < (n : Int) := by omega
                  have f3 : m < n := by omega
                  clear hmn
                  by_cases hkt : (k : Int) < t
                  · have e0 : gapZ (k : Int) t = t - 1 := by unfold gapZ; rw [if_pos hkt]
                    rw [e0] at HE
                    have f4 : IntKind.i64.wrap (t - 1) = t - 1 := IntWalk.i64_in _ (by omega)
                    clear e0
                    go_wp2_with (at_builtin; refine wpList_append_own _ rfl _ _ 23 rfl (w9.heap.size) 3 i0 (.int .i64 0) 1 8 Try.underlying23 hi hz0 hz1 hz2 rfl (by decide) _ _ _ rfl (own_alloc hown _) ⟨wi.heap.size, 0, none⟩ 1 1 [.int .i64 (t - 1)] rfl rfl (one_new _ _ _ _ rfl) (by intro u hu; simp at hu; subst hu; rfl) (by unfold maxLen; omega) (by omega) (by have := hbel.size; simp; omega) ?_)
                    intro v' w11 hown' hgrow _
                    have hob := own_block hown
                    have R11 : w11.ownsRow w9.heap.size 3 1 v' (m + 1) (ints (earlyF (k : Int) os (m + 1))) := by rw [HE.out]; simpa [ints] using hown'
                    have hbel11 : Below w9.heap.size w9 w11 := (hbel.alloc hbel.size _).grown hgrow (by have := hbel.size; simp; omega) hob
                    have HP := Lib.hid (And.intro R11 hbel11)
                    clear hown' hgrow hown hbel R11 hbel11 hob hcx
                    go_wp2
                    go_roundw
                    case rel => first | exact ⟨m + 1, by omega, by go_num, HP.out.1, HP.out.2⟩ | exact ⟨_, m + 1, by omega, by go_num, HP.out.1, HP.out.2⟩ | trace_state
                    case measure => simp [intOf]; omega
                  · have e0 : gapZ (k : Int) t = t := by unfold gapZ; rw [if_neg hkt]
                    rw [e0] at HE
                    clear e0
                    go_wp2_with (at_builtin; refine wpList_append_own _ rfl _ _ 23 rfl (w9.heap.size) 3 i0 (.int .i64 0) 1 8 Try.underlying23 hi hz0 hz1 hz2 rfl (by decide) _ _ _ rfl (own_alloc hown _) ⟨wi.heap.size, 0, none⟩ 1 1 [.int .i64 t] rfl rfl (one_new _ _ _ _ rfl) (by intro u hu; simp at hu; subst hu; rfl) (by unfold maxLen; omega) (by omega) (by have := hbel.size; simp; omega) ?_)
                    intro v' w11 hown' hgrow _
                    have hob := own_block hown
                    have R11 : w11.ownsRow w9.heap.size 3 1 v' (m + 1) (ints (earlyF (k : Int) os (m + 1))) := by rw [HE.out]; simpa [ints] using hown'
                    have hbel11 : Below w9.heap.size w9 w11 := (hbel.alloc hbel.size _).grown hgrow (by have := hbel.size; simp; omega) hob
                    have HP := Lib.hid (And.intro R11 hbel11)
                    clear hown' hgrow hown hbel R11 hbel11 hob hcx
                    go_wp2
                    go_roundw
                    case rel => first | exact ⟨m + 1, by omega, by go_num, HP.out.1, HP.out.2⟩ | exact ⟨_, m + 1, by omega, by go_num, HP.out.1, HP.out.2⟩ | trace_state
                    case measure => simp [intOf]; omega
                · obtain rfl : m = L := by omega
                  have f1 : ¬ (m : Int) + 1 < (n : Int) := by omega
                  obtain ⟨Av, cv, rfl⟩ := own_form hown
                  have rc := HRC.out wi hbel
                  have rv := Rd.own hown
                  have hb10 := HBW.out.trans (hbel.mono HBW.out.size)
                  clear hown hbel
                  go_wp2_with fail
                  refine (iFloat_any _ _ (by omega) (by omega) (outC ks k) (earlyF (k : Int) os m) HL.out HEL.out A9 Av c9 cv hcp9 wi rc rv a h).mono ?_
                  rintro e w12 ⟨rfl, b12⟩
                  rw [HV.out]
                  have hb12 := hb10.trans (b12.mono hb10.size)
                  clear b12 hb10 rc rv
                  go_wp2
                  go_ret
                  exact ⟨rfl, hb12⟩
            exact AllReadyH.nil
          exact AllReadyH.nil
        exact AllReadyH.nil
  · have hn' : 1048576 < cs.length := by omega
    go_enter Try.func10, Try.ntmps10
    go_wp2
    go_ret
    exact ⟨rfl, Below.refl _ _⟩

set_option maxRecDepth 100000 in
theorem lifted (os : Os) (started : os.Started) (H : Type) (enc : TypeId × Value → H) :
    ReturnsInHanded {} Try.checked os 10 .any (Rows.fnValidFloatSpec.pre6 enc Try.prog Try.f10 Rows.fnValidFloatRow.domain false) (Rows.fnValidFloatSpec.post enc Try.prog Try.f10 false true false false) := by
  refine returnsInHanded_of_change (C := Try.checked) ownNone started (by kernel_rfl) Try.func10
    (ChangeSpec.witness6 (enc := enc) (C := Try.checked) false ⟨#[], #[.slice none 0 0], []⟩ 8 (by kernel_rfl) (by kernel_rfl) (by kernel_rfl) (by kernel_rfl)) ?_
  intro W base args ds gs before hval0 hW hcnd _
  have hval : ∀ (j : Nat) t v, Try.f10.params[j]? = some t → args[j]? = some v → Value.okWide Try.prog W .any base t v := hval0
  have hW' := hW
  obtain ⟨p, q, hA0, hV, rfl, _, _⟩ := hW
  have hA : DataW.TrodAll enc Try.prog W 0 (fun _ => true) true Try.f10.params.toList args.toList ds p := hA0
  rw [Try.params10] at hA hval
  obtain ⟨v0, vs0, d0, ds0, p0, q0, hargs, rfl, rfl, h0, r0⟩ := trodAll_cons hA
  obtain ⟨rfl, rfl, rfl⟩ := trodAll_nil r0
  obtain rfl : args = #[v0] := by cases args; simp_all
  obtain ⟨rfl, rfl⟩ := trodVars_none hV
  obtain ⟨Acs, ccs, cs, rfl, hrcs, hlcs, hqcs⟩ := open_rd Try.underlying47 Try.underlying5 cellsByte (hval 0 47 v0 rfl rfl) h0
  have hbcs := byte_bounds hqcs
  clear hA0 hval0
  refine (walk W cs Acs ccs hrcs hbcs hlcs).mono fun e W' ⟨he, hg⟩ => ?_
  subst he
  exact ⟨_, rfl, law_post laidOut (by kernel_rfl) rfl rfl rfl rfl rfl Try.underlying4 hW' hg⟩

/-- The statement. -/
theorem proved : Rows.FnValidFloatSaid :=
  OpenClaim.holds_of_wide 10 Try.f10 rfl rfl rfl rfl rfl rfl rfl ⟨rfl, rfl, rfl, rfl, rfl⟩ rfl rfl rfl rfl rfl (by kernel_rfl) Try.func10 (by kernel_rfl)
    (of_decide_eq_true (by kernel_rfl)) (by unfold Func.isWrapper; first | (rw [if_pos (by decide +kernel)]; kernel_rfl) | (rw [if_neg (by decide +kernel)]; exact ⟨rfl, rfl⟩))
    (fun os started H enc _ => lifted os started H enc)
#print axioms proved
end fnValidFloat

end Go.Proofs.Ytjjddamblijffab

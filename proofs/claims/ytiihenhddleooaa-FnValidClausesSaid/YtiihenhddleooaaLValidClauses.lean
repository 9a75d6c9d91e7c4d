/- The law FnValidClauses: for every code it answers true, and the code reads as it read before. No condition. -/
import Derived.Test.YtiihenhddleooaaTLawD
import Derived.Test.YtiihenhddleooaaLaw
namespace Go.Proofs.Ytiihenhddleooaa
open Go.RowKit
set_option linter.unusedVariables false
set_option linter.unusedSimpArgs false

namespace fnValidClauses
open Go.ChangeShapes Go.WideShapes Go.ChangeAt Go.RowKit
set_option maxRecDepth 100000 in
set_option maxHeartbeats 800000 in
set_option maxRecDepth 100000 in
set_option maxRecDepth 100000 in
set_option maxHeartbeats 8000000 in
theorem walk (w : World) (cs : List Int) (Acs : Option Addr) (ccs : Nat) (hrcs : Rd w w.heap.size Acs (bytes cs)) (hbcs : ∀ z ∈ cs, 0 ≤ z ∧ z ≤ 255) (hlcs : cs.length ≤ ccs ∧ ccs ≤ maxLen) :
    Calls Try.prog 10 #[.slice Acs cs.length ccs] w fun e w' => e = .returned (.bool true) ∧ Below w.heap.size w w' := by
  by_cases hn : cs.length ≤ 1048576
  · go_enter Try.func10, Try.ntmps10
    go_wp2_with fail
    refine (dValidClauses _ _ _ _ hrcs hbcs hlcs.1 hlcs.2).mono ?_
    rintro e w1 ⟨ks, Ak, ck, rfl, ⟨hkl, hkc, hkm, hrk⟩, b1⟩
    obtain ⟨n, hn0⟩ : ∃ n, ks.length = n := ⟨_, rfl⟩
    rw [hn0] at hkl hkc ⊢
    have HL := Lib.hid hn0
    clear hn0
    have hn1 : n ≤ maxLen := by unfold maxLen; omega
    have HI := Lib.hid (fun w (hr : Rd w w.heap.size Ak (custV ks)) => iVCl_any n ks HL.out Ak ck hn1 w hr)
    have HS := Lib.hid (fun w (hr : Rd w w.heap.size Ak (custV ks)) => sVCl_any n ks HL.out Ak ck hn1 w hr)
    have HT : Hid (okV clV ks = true → ∀ k, k < n → okV clV (outK ks k) = true) := Lib.hid fun hc k hk => okV_out hc (by rw [HL.out]; exact hk)
    have cI := HI.out w1 hrk
    generalize okV clV ks = q at *
    go_wp2_with fail
    refine (cI).mono ?_
    rintro e w2 ⟨rfl, b2⟩
    have hr2 := (hrk.below b2).more b2.size
    have cS := HS.out w2 hr2
    have bl2 := b1.trans (b2.mono b1.size)
    clear cI b1 b2 hrk
    cases q
    · skip
      go_wp2_with fail
      refine (cS).mono ?_
      rintro e w3 ⟨rfl, b3⟩
      have hr3 := (hr2.below b3).more b3.size
      have bl3 := bl2.trans (b3.mono bl2.size)
      clear b3 cS
      go_wp2_with fail
      refine (HS.out _ hr3).mono ?_
      rintro e w4 ⟨rfl, b4⟩
      have bl4 := bl3.trans (b4.mono bl3.size)
      clear b4
      go_wp2
      go_ret
      exact ⟨rfl, bl4⟩
    · skip
      go_wp2_with fail
      refine (cS).mono ?_
      rintro e w4 ⟨rfl, b4⟩
      have hr4 := (hr2.below b4).more b4.size
      have bl3 := bl2.trans (b4.mono bl2.size)
      have HT := Lib.hid (HT.out (by first | exact rfl | trivial))
      clear b4 hr2 bl2 cS HI HS
      go_wp2
      go_loopw [5] (fun i wr => ∃ k : Nat, k ≤ n ∧ i = .int .i64 k ∧ Below w4.heap.size w4 wr) (fun i _ => n - (intOf i).toNat)
      case atStart => exact ⟨0, Nat.zero_le _, rfl, Below.refl _ _⟩
      case round =>
        obtain ⟨k, hk, rfl, hbel⟩ := hrel
        by_cases hlt : k < n
        · skip
          have hrr := (hr4.below hbel).more hbel.size
          obtain ⟨b0, off0, x, d0, v0, rfl, hb0, hxy, hc1, hc2, hc3⟩ := hrr.cust_ (k := 0) (by rw [HL.out]; omega)
          have HE0 : Hid ((wr.drew.alloc (Obj.cells #[] 54)).ownsRow wr.heap.size 54 3 (.slice (some ⟨wr.heap.size, 0, none⟩) 0 0) 0 []) := Lib.hid (owz_empty wr.drew _ 3)
          have HBE : Hid (Below wr.heap.size wr (wr.drew.alloc (Obj.cells #[] 54))) := Lib.hid ((below_drewN (Below.refl _ _) 1).alloc (Nat.le_refl _) _)
          have HN1 : Hid (((custV ks).take (k * 3)).length = k * 3) := Lib.hid (by rw [List.length_take, custV_len, HL.out]; omega)
          have HN2 : Hid (((custV ks).drop ((k + 1) * 3)).length = (n - (k + 1)) * 3) := Lib.hid (by rw [List.length_drop, custV_len, HL.out]; omega)
          have HO1 : Hid (∀ u ∈ (custV ks).take (k * 3), u.oneCell' = true) := Lib.hid fun u hu => oneCell_cust u (List.mem_of_mem_take hu)
          have HO2 : Hid (∀ u ∈ (custV ks).drop ((k + 1) * 3), u.oneCell' = true) := Lib.hid fun u hu => oneCell_cust u (List.mem_of_mem_drop hu)
          have HAT : Hid (∀ w', Below wr.heap.size wr w' → ∀ j u, (custV ks)[j]? = some u → w'.cell? ⟨b0, off0 + j, none⟩ = some u) := Lib.hid fun w' hb j u hj => by
            obtain ⟨b', off', e, _, hc⟩ := (hrr.below hb).at_ hj
            injection e with e
            injection e with e1 e2
            subst e1 e2
            exact hc
          have HS1 : Hid (∀ j u, ((custV ks).take (k * 3))[j]? = some u → (wr.drew.alloc (Obj.cells #[] 54)).cell? ((⟨b0, off0, none⟩ : Addr).add j) = some u) := Lib.hid fun j u hj => by
            rw [List.getElem?_take] at hj
            split at hj
            · have := HAT.out _ HBE.out j u hj
              rw [add_offK]; exact this
            · cases hj
          have HS2 : Hid (∀ w', Below wr.heap.size wr w' → ∀ j u, ((custV ks).drop ((k + 1) * 3))[j]? = some u → w'.cell? ((⟨b0, off0 + (k + 1) * 3, none⟩ : Addr).add j) = some u) := Lib.hid fun w' hb j u hj => by
            rw [List.getElem?_drop] at hj
            have := HAT.out w' hb _ u hj
            rw [add_offK, Nat.add_assoc]; exact this
          have HLO2 : Hid ((outK ks k).length = 0 + k + (n - (k + 1))) := Lib.hid (by have := outK_len (cs := ks) (k := k) (by rw [HL.out]; exact hlt); rw [HL.out] at this; omega)
          have a1 : k ≤ ck := by omega
          have a2 : k + 1 ≤ ck := by omega
          have a3 : (k : Int) ≤ (n : Int) := by omega
          have a4 : (k : Int) ≤ (ck : Int) := by omega
          have a5 : (k : Int) + 1 ≤ (n : Int) := by omega
          have a6 : (n : Int) ≤ (ck : Int) := by omega
          have a7 : ((k : Int) + 1).toNat = k + 1 := by omega
          have a8 : IntKind.i64.wrap ((k : Int) + 1) = (k : Int) + 1 := IntWalk.i64_in _ (by omega)
          have a9 : ¬ ck = k := by omega
          have a0 : (0 : Int) ≤ (k : Int) + 1 := by omega
          simp only [Nat.zero_mul, Nat.add_zero] at hc1
          clear hc2 hc3 hxy hr4 hrr
          by_cases hck : ck = k + 1
          · subst hck
            have hL : n - (k + 1) = 0 := by omega
            have c1 : (k : Int) ≤ (k : Int) + 1 := by omega
            have c2 : (n : Int) ≤ (k : Int) + 1 := by omega
            have HZ : Hid ((custV ks).take (k * 3) = custV (outK ks k)) := Lib.hid (by rw [← custV_out, List.drop_of_length_le (by rw [custV_len, HL.out]; omega), List.append_nil])
            rw [hL] at HLO2
            clear a4 a6 HS2 HO2 HN2
            go_wp2
            refine wp_region_noPanic ?_
            refine wp_region_held_drew (S := fun w' => w'.cell? ⟨b0, off0, none⟩ = some (.int .i64 x)) (by kernel_rfl) ?_ (fun hH0 => ?_)
            · try dsimp only
              go_keep
            refine wpAnyH_take (i := 1) (v := ?_) (by simp only [List.getElem?_toArray, List.getElem?_cons_succ, List.getElem?_cons_zero]; exact rfl) (by kernel_rfl) (by kernel_rfl) (by kernel_rfl) (by exact fun _ _ _ h => h) (Or.inl ⟨by rfl, ?_⟩) (by assumption) ?_
            rotate_left 1
            · intro w hSw
              try dsimp only at hSw
              go_simp
              try with_reducible rfl
            try simp only [Act.put, List.setIfInBounds_toArray, List.set_cons_zero, List.set_cons_succ]
            refine wpAnyH_take (i := 2) (v := ?_) (by simp only [List.getElem?_toArray, List.getElem?_cons_succ, List.getElem?_cons_zero]; exact rfl) (by kernel_rfl) (by kernel_rfl) (by kernel_rfl) (by exact fun _ _ _ h => h) (Or.inl ⟨by rfl, ?_⟩) (by assumption) ?_
            rotate_left 1
            · intro w hSw
              try dsimp only at hSw
              go_simp
              try with_reducible rfl
            try simp only [Act.put, List.setIfInBounds_toArray, List.set_cons_zero, List.set_cons_succ]
            refine wpAnyH_take (i := 3) (v := ?_) (by simp only [List.getElem?_toArray, List.getElem?_cons_succ, List.getElem?_cons_zero]; exact rfl) (by kernel_rfl) (by kernel_rfl) (by kernel_rfl) (by exact fun _ _ _ h => h) (Or.inl ⟨by rfl, ?_⟩) (by assumption) ?_
            rotate_left 1
            · intro w hSw
              try dsimp only at hSw
              go_simp
              try with_reducible rfl
            try simp only [Act.put, List.setIfInBounds_toArray, List.set_cons_zero, List.set_cons_succ]
            refine wpAnyH_take (i := 5) (v := ?_) (by simp only [List.getElem?_toArray, List.getElem?_cons_succ, List.getElem?_cons_zero]; exact rfl) (by kernel_rfl) (by kernel_rfl) (by kernel_rfl) (by exact fun _ _ _ h => h) (Or.inl ⟨by rfl, ?_⟩) (by assumption) ?_
            rotate_left 1
            · intro w hSw
              try dsimp only at hSw
              go_simp
              try with_reducible rfl
            try simp only [Act.put, List.setIfInBounds_toArray, List.set_cons_zero, List.set_cons_succ]
            refine wpAnyH_take (i := 6) (v := ?_) (by simp only [List.getElem?_toArray, List.getElem?_cons_succ, List.getElem?_cons_zero]; exact rfl) (by kernel_rfl) (by kernel_rfl) (by kernel_rfl) (by exact fun _ _ _ h => h) (Or.inl ⟨by rfl, ?_⟩) (by assumption) ?_
            rotate_left 1
            · intro w hSw
              try dsimp only at hSw
              go_simp
              try with_reducible rfl
            try simp only [Act.put, List.setIfInBounds_toArray, List.set_cons_zero, List.set_cons_succ]
            refine wpAnyH_take (i := 7) (v := ?_) (by simp only [List.getElem?_toArray, List.getElem?_cons_succ, List.getElem?_cons_zero]; exact rfl) (by kernel_rfl) (by kernel_rfl) (by kernel_rfl) (by exact fun _ _ _ h => h) (Or.inl ⟨by rfl, ?_⟩) (by assumption) ?_
            rotate_left 1
            · intro w hSw
              try dsimp only at hSw
              go_simp
              try with_reducible rfl
            try simp only [Act.put, List.setIfInBounds_toArray, List.set_cons_zero, List.set_cons_succ]
            refine wpAnyH_take (i := 8) (v := ?_) (by simp only [List.getElem?_toArray, List.getElem?_cons_succ, List.getElem?_cons_zero]; exact rfl) (by kernel_rfl) (by kernel_rfl) (by kernel_rfl) (by exact fun _ _ _ h => h) (Or.inl ⟨by rfl, ?_⟩) (by assumption) ?_
            rotate_left 1
            · intro w hSw
              try dsimp only at hSw
              go_simp
              try with_reducible rfl
            try simp only [Act.put, List.setIfInBounds_toArray, List.set_cons_zero, List.set_cons_succ]
            refine wpAnyH_ready (rs := [0]) (by kernel_rfl) (by simp) ?_
            refine AllReadyH.cons (by simp only [List.getElem?_toArray, List.getElem?_cons_succ, List.getElem?_cons_zero]; exact rfl) (fun K hK => ?_) ?_
            · go_simp
              refine hK.out _ _ ?_ (fun hH81 => ?_)
              · try dsimp only
                go_keep
              clear hK K hH0
              try simp only [Act.put, List.setIfInBounds_toArray, List.set_cons_zero, List.set_cons_succ]
              refine wpAnyH_ready (rs := [4]) (by kernel_rfl) (by simp) ?_
              refine AllReadyH.cons (by simp only [List.getElem?_toArray, List.getElem?_cons_succ, List.getElem?_cons_zero]; exact rfl) (fun K hK => ?_) ?_
              · refine step_Cl rfl (.tmp 31) (.tmp 34) rfl wr.heap.size 0 k (k + 1) (.slice (some ⟨wr.heap.size, 0, none⟩) 0 0) [] ((custV ks).take (k * 3)) ⟨b0, off0, none⟩ (by simp [Act.eval, Act.put]) (by simp [Act.eval, Act.put]) HE0.out HN1.out HS1.out HO1.out (by omega) (by simp) ?_
                intro v1 w8 hown1 hgrow1
                have HB8 : Below wr.heap.size wr w8 := HBE.out.grown hgrow1 (by simp) (owz_block HE0.out)
                have k8 := (HB8.cell (p := ⟨b0, off0, none⟩) hb0).trans hc1
                refine hK.out _ _ ?_ (fun hH82 => ?_)
                · try dsimp only
                  go_keep
                clear hK K hH81
                try simp only [Act.put, List.setIfInBounds_toArray, List.set_cons_zero, List.set_cons_succ]
                refine wpAnyH_ready (rs := [9]) (by kernel_rfl) (by simp) ?_
                refine AllReadyH.cons (by simp only [List.getElem?_toArray, List.getElem?_cons_succ, List.getElem?_cons_zero]; exact rfl) (fun K hK => ?_) ?_
                · refine step_Cl rfl (.tmp 35) (.tmp 39) rfl wr.heap.size (0 + k) 0 0 v1 ([] ++ (custV ks).take (k * 3)) [] ⟨b0, off0, none⟩ (by simp [Act.eval, Act.put]) (by simp [Act.eval, Act.put]) hown1 rfl (by intro j u hj; simp at hj) (by intro u hu; simp at hu) (by omega) HB8.size ?_
                  intro v2 w9 hown2 hgrow2
                  have HB9 : Below wr.heap.size wr w9 := HB8.grown hgrow2 HB8.size (owz_block hown1)
                  have k9 := (HB9.cell (p := ⟨b0, off0, none⟩) hb0).trans hc1
                  refine hK.out _ _ ?_ (fun hH83 => ?_)
                  · try dsimp only
                    go_keep
                  clear hK K hH82
                  try simp only [Act.put, List.setIfInBounds_toArray, List.set_cons_zero, List.set_cons_succ]
                  refine wpAnyH_ready (rs := [10]) (by kernel_rfl) (by simp) ?_
                  refine AllReadyH.cons (by simp only [List.getElem?_toArray, List.getElem?_cons_succ, List.getElem?_cons_zero]; exact rfl) (fun K hK => ?_) ?_
                  · go_simp
                    go_wp2_with (obtain ⟨A9, c9, hv9⟩ := owz_form hown2; subst hv9; go_at_call 38; refine (iVCl_any _ (outK ks k) HLO2.out A9 c9 (by unfold maxLen; omega) w9 (by have := Rd.ownz hown2; rw [List.append_nil, List.nil_append, HZ.out] at this; exact this)).mono ?_; rintro e w10 ⟨rfl, b10⟩; have k10 := ((HB9.trans (b10.mono HB9.size)).cell (p := ⟨b0, off0, none⟩) hb0).trans hc1)
                    refine hK.out _ _ ?_ (fun hH84 => ?_)
                    · try dsimp only
                      go_keep
                    clear hK K hH83
                    try simp only [Act.put, List.setIfInBounds_toArray, List.set_cons_zero, List.set_cons_succ]
                    refine wpAnyH_take (i := 11) (v := ?_) (by simp only [List.getElem?_toArray, List.getElem?_cons_succ, List.getElem?_cons_zero]; exact rfl) (by kernel_rfl) (by kernel_rfl) (by kernel_rfl) (by exact fun _ _ _ h => h) (Or.inl ⟨by rfl, ?_⟩) (by assumption) ?_
                    rotate_left 1
                    · intro w hSw
                      try dsimp only at hSw
                      go_simp
                      try with_reducible rfl
                    try simp only [Act.put, List.setIfInBounds_toArray, List.set_cons_zero, List.set_cons_succ]
                    refine wpAnyH_done (by kernel_rfl) ?_ _
                    refine NoPanic.normal ?_
                    have HBA := HB9.trans (b10.mono HB9.size)
                    have HBB := Lib.hid (hbel.trans (HBA.mono hbel.size))
                    rw [HT.out k hlt]
                    clear HBA b10 k8 k9 k10 HB9 HB8 hown1 hown2 hgrow1 hgrow2
                    go_wp2
                    go_roundw
                    case rel => exact ⟨k + 1, by omega, by go_num, HBB.out⟩
                    case measure => simp [intOf]; omega
                  exact AllReadyH.nil
                exact AllReadyH.nil
              exact AllReadyH.nil
            exact AllReadyH.nil
          · skip
            go_wp2
            refine wp_region_noPanic ?_
            refine wp_region_held_drew (S := fun w' => w'.cell? ⟨b0, off0, none⟩ = some (.int .i64 x)) (by kernel_rfl) ?_ (fun hH0 => ?_)
            · try dsimp only
              go_keep
            refine wpAnyH_take (i := 1) (v := ?_) (by simp only [List.getElem?_toArray, List.getElem?_cons_succ, List.getElem?_cons_zero]; exact rfl) (by kernel_rfl) (by kernel_rfl) (by kernel_rfl) (by exact fun _ _ _ h => h) (Or.inl ⟨by rfl, ?_⟩) (by assumption) ?_
            rotate_left 1
            · intro w hSw
              try dsimp only at hSw
              go_simp
              try with_reducible rfl
            try simp only [Act.put, List.setIfInBounds_toArray, List.set_cons_zero, List.set_cons_succ]
            refine wpAnyH_take (i := 2) (v := ?_) (by simp only [List.getElem?_toArray, List.getElem?_cons_succ, List.getElem?_cons_zero]; exact rfl) (by kernel_rfl) (by kernel_rfl) (by kernel_rfl) (by exact fun _ _ _ h => h) (Or.inl ⟨by rfl, ?_⟩) (by assumption) ?_
            rotate_left 1
            · intro w hSw
              try dsimp only at hSw
              go_simp
              try with_reducible rfl
            try simp only [Act.put, List.setIfInBounds_toArray, List.set_cons_zero, List.set_cons_succ]
            refine wpAnyH_take (i := 3) (v := ?_) (by simp only [List.getElem?_toArray, List.getElem?_cons_succ, List.getElem?_cons_zero]; exact rfl) (by kernel_rfl) (by kernel_rfl) (by kernel_rfl) (by exact fun _ _ _ h => h) (Or.inl ⟨by rfl, ?_⟩) (by assumption) ?_
            rotate_left 1
            · intro w hSw
              try dsimp only at hSw
              go_simp
              try with_reducible rfl
            try simp only [Act.put, List.setIfInBounds_toArray, List.set_cons_zero, List.set_cons_succ]
            refine wpAnyH_take (i := 5) (v := ?_) (by simp only [List.getElem?_toArray, List.getElem?_cons_succ, List.getElem?_cons_zero]; exact rfl) (by kernel_rfl) (by kernel_rfl) (by kernel_rfl) (by exact fun _ _ _ h => h) (Or.inl ⟨by rfl, ?_⟩) (by assumption) ?_
            rotate_left 1
            · intro w hSw
              try dsimp only at hSw
              go_simp
              try with_reducible rfl
            try simp only [Act.put, List.setIfInBounds_toArray, List.set_cons_zero, List.set_cons_succ]
            refine wpAnyH_take (i := 6) (v := ?_) (by simp only [List.getElem?_toArray, List.getElem?_cons_succ, List.getElem?_cons_zero]; exact rfl) (by kernel_rfl) (by kernel_rfl) (by kernel_rfl) (by exact fun _ _ _ h => h) (Or.inl ⟨by rfl, ?_⟩) (by assumption) ?_
            rotate_left 1
            · intro w hSw
              try dsimp only at hSw
              go_simp
              try with_reducible rfl
            try simp only [Act.put, List.setIfInBounds_toArray, List.set_cons_zero, List.set_cons_succ]
            refine wpAnyH_take (i := 7) (v := ?_) (by simp only [List.getElem?_toArray, List.getElem?_cons_succ, List.getElem?_cons_zero]; exact rfl) (by kernel_rfl) (by kernel_rfl) (by kernel_rfl) (by exact fun _ _ _ h => h) (Or.inl ⟨by rfl, ?_⟩) (by assumption) ?_
            rotate_left 1
            · intro w hSw
              try dsimp only at hSw
              go_simp
              try with_reducible rfl
            try simp only [Act.put, List.setIfInBounds_toArray, List.set_cons_zero, List.set_cons_succ]
            refine wpAnyH_take (i := 8) (v := ?_) (by simp only [List.getElem?_toArray, List.getElem?_cons_succ, List.getElem?_cons_zero]; exact rfl) (by kernel_rfl) (by kernel_rfl) (by kernel_rfl) (by exact fun _ _ _ h => h) (Or.inl ⟨by rfl, ?_⟩) (by assumption) ?_
            rotate_left 1
            · intro w hSw
              try dsimp only at hSw
              go_simp
              try with_reducible rfl
            try simp only [Act.put, List.setIfInBounds_toArray, List.set_cons_zero, List.set_cons_succ]
            refine wpAnyH_ready (rs := [0]) (by kernel_rfl) (by simp) ?_
            refine AllReadyH.cons (by simp only [List.getElem?_toArray, List.getElem?_cons_succ, List.getElem?_cons_zero]; exact rfl) (fun K hK => ?_) ?_
            · go_simp
              refine hK.out _ _ ?_ (fun hH77 => ?_)
              · try dsimp only
                go_keep
              clear hK K hH0
              try simp only [Act.put, List.setIfInBounds_toArray, List.set_cons_zero, List.set_cons_succ]
              refine wpAnyH_ready (rs := [4]) (by kernel_rfl) (by simp) ?_
              refine AllReadyH.cons (by simp only [List.getElem?_toArray, List.getElem?_cons_succ, List.getElem?_cons_zero]; exact rfl) (fun K hK => ?_) ?_
              · refine step_Cl rfl (.tmp 31) (.tmp 34) rfl wr.heap.size 0 k ck (.slice (some ⟨wr.heap.size, 0, none⟩) 0 0) [] ((custV ks).take (k * 3)) ⟨b0, off0, none⟩ (by simp [Act.eval, Act.put]) (by simp [Act.eval, Act.put]) HE0.out HN1.out HS1.out HO1.out (by omega) (by simp) ?_
                intro v1 w8 hown1 hgrow1
                have HB8 : Below wr.heap.size wr w8 := HBE.out.grown hgrow1 (by simp) (owz_block HE0.out)
                have k8 := (HB8.cell (p := ⟨b0, off0, none⟩) hb0).trans hc1
                refine hK.out _ _ ?_ (fun hH78 => ?_)
                · try dsimp only
                  go_keep
                clear hK K hH77
                try simp only [Act.put, List.setIfInBounds_toArray, List.set_cons_zero, List.set_cons_succ]
                refine wpAnyH_ready (rs := [9]) (by kernel_rfl) (by simp) ?_
                refine AllReadyH.cons (by simp only [List.getElem?_toArray, List.getElem?_cons_succ, List.getElem?_cons_zero]; exact rfl) (fun K hK => ?_) ?_
                · refine step_Cl rfl (.tmp 35) (.tmp 39) rfl wr.heap.size (0 + k) (n - (k + 1)) (ck - (k + 1)) v1 ([] ++ (custV ks).take (k * 3)) ((custV ks).drop ((k + 1) * 3)) ⟨b0, off0 + (k + 1) * 3, none⟩ (by simp [Act.eval, Act.put]) (by simp [Act.eval, Act.put]) hown1 HN2.out (HS2.out _ HB8) HO2.out (by omega) HB8.size ?_
                  intro v2 w9 hown2 hgrow2
                  have HB9 : Below wr.heap.size wr w9 := HB8.grown hgrow2 HB8.size (owz_block hown1)
                  have k9 := (HB9.cell (p := ⟨b0, off0, none⟩) hb0).trans hc1
                  refine hK.out _ _ ?_ (fun hH79 => ?_)
                  · try dsimp only
                    go_keep
                  clear hK K hH78
                  try simp only [Act.put, List.setIfInBounds_toArray, List.set_cons_zero, List.set_cons_succ]
                  refine wpAnyH_ready (rs := [10]) (by kernel_rfl) (by simp) ?_
                  refine AllReadyH.cons (by simp only [List.getElem?_toArray, List.getElem?_cons_succ, List.getElem?_cons_zero]; exact rfl) (fun K hK => ?_) ?_
                  · go_simp
                    go_wp2_with (obtain ⟨A9, c9, hv9⟩ := owz_form hown2; subst hv9; go_at_call 38; refine (iVCl_any _ (outK ks k) HLO2.out A9 c9 (by unfold maxLen; omega) w9 (by have := Rd.ownz hown2; rw [List.nil_append, custV_out] at this; exact this)).mono ?_; rintro e w10 ⟨rfl, b10⟩; have k10 := ((HB9.trans (b10.mono HB9.size)).cell (p := ⟨b0, off0, none⟩) hb0).trans hc1)
                    refine hK.out _ _ ?_ (fun hH80 => ?_)
                    · try dsimp only
                      go_keep
                    clear hK K hH79
                    try simp only [Act.put, List.setIfInBounds_toArray, List.set_cons_zero, List.set_cons_succ]
                    refine wpAnyH_take (i := 11) (v := ?_) (by simp only [List.getElem?_toArray, List.getElem?_cons_succ, List.getElem?_cons_zero]; exact rfl) (by kernel_rfl) (by kernel_rfl) (by kernel_rfl) (by exact fun _ _ _ h => h) (Or.inl ⟨by rfl, ?_⟩) (by assumption) ?_
                    rotate_left 1
                    · intro w hSw
                      try dsimp only at hSw
                      go_simp
                      try with_reducible rfl
                    try simp only [Act.put, List.setIfInBounds_toArray, List.set_cons_zero, List.set_cons_succ]
                    refine wpAnyH_done (by kernel_rfl) ?_ _
                    refine NoPanic.normal ?_
                    have HBA := HB9.trans (b10.mono HB9.size)
                    have HBB := Lib.hid (hbel.trans (HBA.mono hbel.size))
                    rw [HT.out k hlt]
                    clear HBA b10 k8 k9 k10 HB9 HB8 hown1 hown2 hgrow1 hgrow2
                    go_wp2
                    go_roundw
                    case rel => exact ⟨k + 1, by omega, by go_num, HBB.out⟩
                    case measure => simp [intOf]; omega
                  exact AllReadyH.nil
                exact AllReadyH.nil
              exact AllReadyH.nil
            exact AllReadyH.nil
        · obtain rfl : k = n := by omega
          have bl5 := bl3.trans (hbel.mono bl3.size)
          clear hbel bl3 hr4
          go_wp2
          go_ret
          exact ⟨rfl, bl5⟩
  · have hn' : 1048576 < cs.length := by omega
    go_enter Try.func10, Try.ntmps10
    go_wp2
    go_ret
    exact ⟨rfl, Below.refl _ _⟩

set_option maxRecDepth 100000 in
theorem lifted (os : Os) (started : os.Started) (H : Type) (enc : TypeId × Value → H) :
    ReturnsInHanded {} Try.checked os 10 .any (Rows.fnValidClausesSpec.pre6 enc Try.prog Try.f10 Rows.fnValidClausesRow.domain false) (Rows.fnValidClausesSpec.post enc Try.prog Try.f10 false true false false) := by
  refine returnsInHanded_of_change (C := Try.checked) ownNone started (by kernel_rfl) Try.func10
    (ChangeSpec.witness6 (enc := enc) (C := Try.checked) false ⟨#[], #[.slice none 0 0], []⟩ 8 (by kernel_rfl) (by kernel_rfl) (by kernel_rfl) (by kernel_rfl)) ?_
  intro W base args ds gs before hval0 hW hcnd _
  have hval : ∀ (j : Nat) t v, Try.f10.params[j]? = some t → args[j]? = some v → Value.okWide Try.prog W .any base t v := hval0
  have hW' := hW
  obtain ⟨p, q, hA0, hV, rfl, _, _⟩ := hW
  have hA : DataW.TrodAll enc Try.prog W 0 (fun _ => true) true Try.f10.params.toList args.toList ds p := hA0
  rw [Try.params10] at hA hval
  obtain ⟨v0, vs0, d0, ds0, p0, q0, hargs, rfl, rfl, h0, r0⟩ := trodAll_cons hA
  obtain ⟨rfl, rfl, rfl⟩ := trodAll_nil r0
  obtain rfl : args = #[v0] := by cases args; simp_all
  obtain ⟨rfl, rfl⟩ := trodVars_none hV
  obtain ⟨Acs, ccs, cs, rfl, hrcs, hlcs, hqcs⟩ := open_rd Try.underlying22 Try.underlying5 cellsByte (hval 0 22 v0 rfl rfl) h0
  have hbcs := byte_bounds hqcs
  clear hA0 hval0
  refine (walk W cs Acs ccs hrcs hbcs hlcs).mono fun e W' ⟨he, hg⟩ => ?_
  subst he
  exact ⟨_, rfl, law_post laidOut (by kernel_rfl) rfl rfl rfl rfl rfl Try.underlying4 hW' hg⟩

/-- The statement. -/
theorem proved : Rows.FnValidClausesSaid :=
  OpenClaim.holds_of_wide 10 Try.f10 rfl rfl rfl rfl rfl rfl rfl ⟨rfl, rfl, rfl, rfl, rfl⟩ rfl rfl rfl rfl rfl (by kernel_rfl) Try.func10 (by kernel_rfl)
    (of_decide_eq_true (by kernel_rfl)) (by unfold Func.isWrapper; first | (rw [if_pos (by decide +kernel)]; kernel_rfl) | (rw [if_neg (by decide +kernel)]; exact ⟨rfl, rfl⟩))
    (fun os started H enc _ => lifted os started H enc)
#print axioms proved
end fnValidClauses

end Go.Proofs.Ytiihenhddleooaa

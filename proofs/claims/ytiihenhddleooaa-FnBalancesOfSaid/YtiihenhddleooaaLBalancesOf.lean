/- The law FnBalancesOf: for every code it answers true, and the code reads as it read before. No condition. -/
import Derived.Test.YtiihenhddleooaaTLawB
import Derived.Test.YtiihenhddleooaaTLawD
import Derived.Test.YtiihenhddleooaaLaw
namespace Go.Proofs.Ytiihenhddleooaa
open Go.RowKit
set_option linter.unusedVariables false
set_option linter.unusedSimpArgs false

namespace fnBalancesOf
open Go.ChangeShapes Go.WideShapes Go.ChangeAt Go.RowKit
set_option maxRecDepth 100000 in
set_option maxHeartbeats 800000 in
set_option maxRecDepth 100000 in
set_option maxRecDepth 100000 in
set_option maxHeartbeats 8000000 in
theorem walk (w : World) (cs : List Int) (Acs : Option Addr) (ccs : Nat) (hrcs : Rd w w.heap.size Acs (bytes cs)) (hbcs : ∀ z ∈ cs, 0 ≤ z ∧ z ≤ 255) (hlcs : cs.length ≤ ccs ∧ ccs ≤ maxLen) :
    Calls Try.prog 4 #[.slice Acs cs.length ccs] w fun e w' => e = .returned (.bool true) ∧ Below w.heap.size w w' := by
  by_cases hn : cs.length ≤ 1048576
  · go_enter Try.func4, Try.ntmps4
    go_wp2_with fail
    refine (dBalancesOf _ _ _ _ hrcs hbcs hlcs.1 hlcs.2).mono ?_
    rintro e w1 ⟨ks, Ak, ck, rfl, ⟨hkl, hkc, hkm, hrk⟩, b1⟩
    obtain ⟨n, hn0⟩ : ∃ n, ks.length = n := ⟨_, rfl⟩
    rw [hn0] at hkl hkc ⊢
    have HL := Lib.hid hn0
    clear hn0
    have hn1 : n ≤ maxLen := by unfold maxLen; omega
    obtain ⟨ts, hts⟩ : ∃ ts, ts = balT ks := ⟨_, rfl⟩
    have htl : ts.length ≤ 1048576 := by rw [hts]; exact Nat.le_trans (balT_le _) (by omega)
    have HTS := Lib.hid hts
    clear hts
    have HI : Hid (∀ w, Rd w w.heap.size Ak (custV ks) → Calls Try.prog 19 #[.slice Ak n ck] w (OutI ts w)) := Lib.hid fun w hr => by rw [HTS.out]; exact iBal_any n ks HL.out Ak ck hn1 w hr
    have HS : Hid (∀ w, Rd w w.heap.size Ak (custV ks) → Calls Try.prog 21 #[.slice Ak n ck] w (OutI ts w)) := Lib.hid fun w hr => by rw [HTS.out]; exact sBal_any n ks HL.out Ak ck hn1 w hr
    go_wp2_with fail
    refine (HI.out w1 hrk).mono ?_
    rintro e w2 ⟨AT, cT, rfl, oT2, b2⟩
    have z2 := b2.size
    have bl2 : Below w1.heap.size w1 w2 := (Below.refl w1.heap.size w1).trans (b2.mono (Nat.le_refl _))
    have HIT := Lib.hid (owz_in oT2)
    clear b2
    go_wp2_with fail
    refine (HS.out w2 ((hrk.below bl2).more bl2.size)).mono ?_
    rintro e w3 ⟨AS, cS, rfl, oS3, b3⟩
    have z3 := b3.size
    have bl3 : Below w1.heap.size w1 w3 := bl2.trans (b3.mono bl2.size)
    have oT3 := owz_below oT2 b3
    have HIS := Lib.hid (owz_in oS3)
    clear oT2 bl2 b3
    go_wp2_with fail
    refine (eqT_k ts _ _ _ _ w3 w3.heap.size (Rd.ownz oT3) (Rd.ownz oS3) htl).mono ?_
    rintro e w4 ⟨rfl, b4⟩
    have z4 := b4.size
    have bl4 : Below w1.heap.size w1 w4 := bl3.trans (b4.mono bl3.size)
    have oT4 := owz_below oT3 b4
    have oS4 := owz_below oS3 b4
    clear oT3 oS3 bl3 b4
    clear oS4
    by_cases h0 : ts.length = 0
    · obtain ⟨l, hl⟩ : ∃ l, l = ts.length := ⟨_, rfl⟩
      have hlb : ((ts.length : Int) == 0) = true := beq_iff_eq.2 (by omega)
      clear h0 hl
      go_wp2_with fail
      refine (HS.out w4 ((hrk.below bl4).more bl4.size)).mono ?_
      rintro e w5 ⟨AS2, cS2, rfl, oS5, b5⟩
      have z5 := b5.size
      have bl5 : Below w1.heap.size w1 w5 := bl4.trans (b5.mono bl4.size)
      have oT5 := owz_below oT4 b5
      have HIS := Lib.hid (owz_in oS5)
      clear oT4 bl4 b5
      go_wp2_with fail
      refine (eqT_k ts _ _ _ _ w5 w5.heap.size (Rd.ownz oT5) (Rd.ownz oS5) htl).mono ?_
      rintro e w6 ⟨rfl, b6⟩
      have z6 := b6.size
      have bl6 : Below w1.heap.size w1 w6 := bl5.trans (b6.mono bl5.size)
      have oT6 := owz_below oT5 b6
      have oS6 := owz_below oS5 b6
      clear oT5 oS5 bl5 b6
      go_wp2
      go_ret
      exact ⟨rfl, b1.trans (bl6.mono b1.size)⟩
    · have hv : okV dbV ks = true := by
        cases h : okV dbV ks
        · exfalso
          apply h0
          rw [HTS.out, balT_no h]; rfl
        · rfl
      have e0 : ts = balL ks := by rw [HTS.out, balT_ok hv]
      have h8 : ts.length = 8 := by rw [e0, balL_len]
      rw [h8] at oT4 ⊢
      rw [e0] at oT4
      have HSUM := Lib.hid (balL_sum0 hv)
      have HBZ : Hid (∀ z ∈ balL ks, -200000 ≤ z ∧ z ≤ 200000) := Lib.hid fun z hz => by
        obtain ⟨j, hj⟩ := List.mem_iff_getElem?.1 hz
        have := bdL_bal hv j
        rwa [at_of hj] at this
      have HBD := Lib.hid (bdL_bal hv)
      have HSW := Lib.hid (okV_sw hv)
      have HATS : Hid (∀ j, j < 8 → at_ (balL (ks.map swC)) j = - at_ (balL ks) j) := Lib.hid fun j hj => by rw [balL_at_ hj, balL_at_ hj, balR_sw]
      have HOB : Hid (∀ w A c, Rd w w.heap.size A (custV (ks.map swC)) → Calls Try.prog 19 #[.slice A n c] w (OutI (balL (ks.map swC)) w)) := Lib.hid fun w A c hr => by rw [← balT_ok HSW.out]; exact iBal_any n _ (by rw [List.length_map]; exact HL.out) A c hn1 w hr
      obtain ⟨wz, hwz⟩ : ∃ wz, wz = w4 := ⟨_, rfl⟩
      have hrz := ((hrk.below bl4).more bl4.size)
      have HBL := Lib.hid bl4
      rw [← hwz] at oT4 hrz HBL ⊢
      have hoz := oT4
      obtain ⟨gT, rfl, hgT1, hgT2, _, _⟩ := owz_some (by omega) hoz (by omega)
      have HOZ := Lib.hid hoz
      clear oT4 bl4 hwz HI HS hrk hv h0 h8 htl hoz e0 HTS
      have HE := Lib.hid (owz_empty wz 31 3)
      go_wp2
      go_loopw [5, 6] (fun v i wr => ∃ k gb cb : Nat, k ≤ n ∧ i = .int .i64 k ∧ v = .slice (some ⟨gb, 0, none⟩) k cb ∧ wr.ownsRow wz.heap.size 31 3 v k (custV ((ks.take k).map swC)) ∧ Below wz.heap.size wz wr ∧ wz.heap.size ≤ gb) (fun _ i _ => n - (intOf i).toNat)
      case atStart => exact ⟨0, _, _, Nat.zero_le _, rfl, rfl, HE.out, (Below.refl _ _).alloc (Nat.le_refl _) _, Nat.le_refl _⟩
      case round =>
        clear HE
        obtain ⟨k, gb, cb, hk, rfl, rfl, hown, hbel, hgb⟩ := hrel
        by_cases hlt : k < n
        · obtain ⟨b0, off0, x, d, v, rfl, hb0', hz, hc0, hc1, hc2⟩ := (hrz.below hbel).cust_ (k := k) (by rw [HL.out]; exact hlt)
          obtain ⟨b0', off0', x', d', v', e7, hb0, hz', hd0, hd1, hd2⟩ := hrz.cust_ (k := k) (by rw [HL.out]; exact hlt)
          injection e7 with e7
          injection e7 with q1 q2
          subst q1 q2
          obtain ⟨rfl, rfl, rfl⟩ : x = x' ∧ d = d' ∧ v = v' := by have h1 := hz.out; have h2 := hz'.out; rw [h1] at h2; injection h2 with h2 h3; injection h3 with h3 h4; exact ⟨h2, h3, h4⟩
          have HC0 := Lib.hid (And.intro hd0 (And.intro hd1 hd2))
          have HNX := Lib.hid (sw_step (ks := ks) (k := k) (by rw [HL.out]; exact hlt) hz.out)
          have HOW : Hid ((wr.drew.alloc (Obj.cells #[.int .i64 d, .int .i64 x, .int .i64 v] 31)).ownsRow wz.heap.size 31 3 (.slice (some ⟨gb, 0, none⟩) k cb) k (custV ((ks.take k).map swC))) := Lib.hid (owz_alloc (w := wr.drew) hown _)
          have HBE := Lib.hid hbel
          have HGB := Lib.hid hgb
          clear hown hbel hz hz' hd0 hd1 hd2 hgb
          go_wp2
          refine wp_region_noPanic ?_
          refine wp_region_held_drew (S := fun w' => w'.cell? ⟨b0, off0 + k * 3, none⟩ = some (.int .i64 x) ∧ w'.cell? ⟨b0, off0 + k * 3 + 1, none⟩ = some (.int .i64 d) ∧ w'.cell? ⟨b0, off0 + k * 3 + 2, none⟩ = some (.int .i64 v)) (by kernel_rfl) ?_ (fun hH0 => ?_)
          · try dsimp only
            go_keep
          refine wpAnyH_take (i := 0) (v := ?_) (by simp only [List.getElem?_toArray, List.getElem?_cons_succ, List.getElem?_cons_zero]; exact rfl) (by kernel_rfl) (by kernel_rfl) (by kernel_rfl) (by exact fun _ _ _ h => h) (Or.inl ⟨by rfl, ?_⟩) (by assumption) ?_
          rotate_left 1
          · intro w hSw
            try dsimp only at hSw
            go_simp
            try with_reducible rfl
          try simp only [Act.put, List.setIfInBounds_toArray, List.set_cons_zero, List.set_cons_succ]
          refine wpAnyH_take (i := 1) (v := ?_) (by simp only [List.getElem?_toArray, List.getElem?_cons_succ, List.getElem?_cons_zero]; exact rfl) (by kernel_rfl) (by kernel_rfl) (by kernel_rfl) (by exact fun _ _ _ h => h) (Or.inl ⟨by rfl, ?_⟩) (by assumption) ?_
          rotate_left 1
          · intro w hSw
            try dsimp only at hSw
            go_simp
            try with_reducible rfl
          try simp only [Act.put, List.setIfInBounds_toArray, List.set_cons_zero, List.set_cons_succ]
          refine wpAnyH_take (i := 2) (v := ?_) (by simp only [List.getElem?_toArray, List.getElem?_cons_succ, List.getElem?_cons_zero]; exact rfl) (by kernel_rfl) (by kernel_rfl) (by kernel_rfl) (by exact fun _ _ _ h => h) (Or.inl ⟨by rfl, ?_⟩) (by assumption) ?_
          rotate_left 1
          · intro w hSw
            try dsimp only at hSw
            go_simp
            try with_reducible rfl
          try simp only [Act.put, List.setIfInBounds_toArray, List.set_cons_zero, List.set_cons_succ]
          refine wpAnyH_take (i := 3) (v := ?_) (by simp only [List.getElem?_toArray, List.getElem?_cons_succ, List.getElem?_cons_zero]; exact rfl) (by kernel_rfl) (by kernel_rfl) (by kernel_rfl) (by exact fun _ _ _ h => h) (Or.inl ⟨by rfl, ?_⟩) (by assumption) ?_
          rotate_left 1
          · intro w hSw
            try dsimp only at hSw
            go_simp
            try with_reducible rfl
          try simp only [Act.put, List.setIfInBounds_toArray, List.set_cons_zero, List.set_cons_succ]
          refine wpAnyH_take (i := 4) (v := ?_) (by simp only [List.getElem?_toArray, List.getElem?_cons_succ, List.getElem?_cons_zero]; exact rfl) (by kernel_rfl) (by kernel_rfl) (by kernel_rfl) (by exact fun _ _ _ h => h) (Or.inl ⟨by rfl, ?_⟩) (by assumption) ?_
          rotate_left 1
          · intro w hSw
            try dsimp only at hSw
            go_simp
            try with_reducible rfl
          try simp only [Act.put, List.setIfInBounds_toArray, List.set_cons_zero, List.set_cons_succ]
          refine wpAnyH_take (i := 5) (v := ?_) (by simp only [List.getElem?_toArray, List.getElem?_cons_succ, List.getElem?_cons_zero]; exact rfl) (by kernel_rfl) (by kernel_rfl) (by kernel_rfl) (by exact fun _ _ _ h => h) (Or.inl ⟨by rfl, ?_⟩) (by assumption) ?_
          rotate_left 1
          · intro w hSw
            try dsimp only at hSw
            go_simp
            try with_reducible rfl
          try simp only [Act.put, List.setIfInBounds_toArray, List.set_cons_zero, List.set_cons_succ]
          refine wpAnyH_take (i := 6) (v := ?_) (by simp only [List.getElem?_toArray, List.getElem?_cons_succ, List.getElem?_cons_zero]; exact rfl) (by kernel_rfl) (by kernel_rfl) (by kernel_rfl) (by exact fun _ _ _ h => h) (Or.inl ⟨by rfl, ?_⟩) (by assumption) ?_
          rotate_left 1
          · intro w hSw
            try dsimp only at hSw
            go_simp
            try with_reducible rfl
          try simp only [Act.put, List.setIfInBounds_toArray, List.set_cons_zero, List.set_cons_succ]
          refine wpAnyH_take (i := 7) (v := ?_) (by simp only [List.getElem?_toArray, List.getElem?_cons_succ, List.getElem?_cons_zero]; exact rfl) (by kernel_rfl) (by kernel_rfl) (by kernel_rfl) (by exact fun _ _ _ h => h) (Or.inl ⟨by rfl, ?_⟩) (by assumption) ?_
          rotate_left 1
          · intro w hSw
            try dsimp only at hSw
            go_simp
            try with_reducible rfl
          try simp only [Act.put, List.setIfInBounds_toArray, List.set_cons_zero, List.set_cons_succ]
          refine wpAnyH_take (i := 8) (v := ?_) (by simp only [List.getElem?_toArray, List.getElem?_cons_succ, List.getElem?_cons_zero]; exact rfl) (by kernel_rfl) (by kernel_rfl) (by kernel_rfl) (by exact fun _ _ _ h => h) (Or.inl ⟨by rfl, ?_⟩) (by assumption) ?_
          rotate_left 1
          · intro w hSw
            try dsimp only at hSw
            go_simp
            try with_reducible rfl
          try simp only [Act.put, List.setIfInBounds_toArray, List.set_cons_zero, List.set_cons_succ]
          refine wpAnyH_take (i := 9) (v := ?_) (by simp only [List.getElem?_toArray, List.getElem?_cons_succ, List.getElem?_cons_zero]; exact rfl) (by kernel_rfl) (by kernel_rfl) (by kernel_rfl) (by exact fun _ _ _ h => h) (Or.inl ⟨by rfl, ?_⟩) (by assumption) ?_
          rotate_left 1
          · intro w hSw
            try dsimp only at hSw
            go_simp
            try with_reducible rfl
          try simp only [Act.put, List.setIfInBounds_toArray, List.set_cons_zero, List.set_cons_succ]
          refine wpAnyH_take (i := 10) (v := ?_) (by simp only [List.getElem?_toArray, List.getElem?_cons_succ, List.getElem?_cons_zero]; exact rfl) (by kernel_rfl) (by kernel_rfl) (by kernel_rfl) (by exact fun _ _ _ h => h) (Or.inl ⟨by rfl, ?_⟩) (by assumption) ?_
          rotate_left 1
          · intro w hSw
            try dsimp only at hSw
            go_simp
            try with_reducible rfl
          try simp only [Act.put, List.setIfInBounds_toArray, List.set_cons_zero, List.set_cons_succ]
          refine wpAnyH_take (i := 11) (v := ?_) (by simp only [List.getElem?_toArray, List.getElem?_cons_succ, List.getElem?_cons_zero]; exact rfl) (by kernel_rfl) (by kernel_rfl) (by kernel_rfl) (by exact fun _ _ _ h => h) (Or.inl ⟨by rfl, ?_⟩) (by assumption) ?_
          rotate_left 1
          · intro w hSw
            try dsimp only at hSw
            go_simp
            try with_reducible rfl
          try simp only [Act.put, List.setIfInBounds_toArray, List.set_cons_zero, List.set_cons_succ]
          refine wpAnyH_take (i := 12) (v := ?_) (by simp only [List.getElem?_toArray, List.getElem?_cons_succ, List.getElem?_cons_zero]; exact rfl) (by kernel_rfl) (by kernel_rfl) (by kernel_rfl) (by exact fun _ _ _ h => h) (Or.inl ⟨by rfl, ?_⟩) (by assumption) ?_
          rotate_left 1
          · intro w hSw
            try dsimp only at hSw
            go_simp
            try with_reducible rfl
          try simp only [Act.put, List.setIfInBounds_toArray, List.set_cons_zero, List.set_cons_succ]
          refine wpAnyH_take (i := 13) (v := ?_) (by simp only [List.getElem?_toArray, List.getElem?_cons_succ, List.getElem?_cons_zero]; exact rfl) (by kernel_rfl) (by kernel_rfl) (by kernel_rfl) (by exact fun _ _ _ h => h) (Or.inl ⟨by rfl, ?_⟩) (by assumption) ?_
          rotate_left 1
          · intro w hSw
            try dsimp only at hSw
            go_simp
            try with_reducible rfl
          try simp only [Act.put, List.setIfInBounds_toArray, List.set_cons_zero, List.set_cons_succ]
          refine wpAnyH_take (i := 14) (v := ?_) (by simp only [List.getElem?_toArray, List.getElem?_cons_succ, List.getElem?_cons_zero]; exact rfl) (by kernel_rfl) (by kernel_rfl) (by kernel_rfl) (by exact fun _ _ _ h => h) (Or.inl ⟨by rfl, ?_⟩) (by assumption) ?_
          rotate_left 1
          · intro w hSw
            try dsimp only at hSw
            go_simp
            try with_reducible rfl
          try simp only [Act.put, List.setIfInBounds_toArray, List.set_cons_zero, List.set_cons_succ]
          refine wpAnyH_take (i := 15) (v := ?_) (by simp only [List.getElem?_toArray, List.getElem?_cons_succ, List.getElem?_cons_zero]; exact rfl) (by kernel_rfl) (by kernel_rfl) (by kernel_rfl) (by exact fun _ _ _ h => h) (Or.inl ⟨by rfl, ?_⟩) (by assumption) ?_
          rotate_left 1
          · intro w hSw
            try dsimp only at hSw
            go_simp
            try with_reducible rfl
          try simp only [Act.put, List.setIfInBounds_toArray, List.set_cons_zero, List.set_cons_succ]
          refine wpAnyH_take (i := 16) (v := ?_) (by simp only [List.getElem?_toArray, List.getElem?_cons_succ, List.getElem?_cons_zero]; exact rfl) (by kernel_rfl) (by kernel_rfl) (by kernel_rfl) (by exact fun _ _ _ h => h) (Or.inl ⟨by rfl, ?_⟩) (by assumption) ?_
          rotate_left 1
          · intro w hSw
            try dsimp only at hSw
            go_simp
            try with_reducible rfl
          try simp only [Act.put, List.setIfInBounds_toArray, List.set_cons_zero, List.set_cons_succ]
          refine wpAnyH_ready (rs := [17]) (by kernel_rfl) (by simp) ?_
          refine AllReadyH.cons (by simp only [List.getElem?_toArray, List.getElem?_cons_succ, List.getElem?_cons_zero]; exact rfl) (fun K hK => ?_) ?_
          · go_simp
            refine hK.out _ _ ?_ (fun hH97 => ?_)
            · try dsimp only
              go_keep
            clear hK K hH0
            try simp only [Act.put, List.setIfInBounds_toArray, List.set_cons_zero, List.set_cons_succ]
            refine wpAnyH_ready (rs := [18]) (by kernel_rfl) (by simp) ?_
            refine AllReadyH.cons (by simp only [List.getElem?_toArray, List.getElem?_cons_succ, List.getElem?_cons_zero]; exact rfl) (fun K hK => ?_) ?_
            · refine step_Db rfl (.tmp 37) (.tmp 54) rfl wz.heap.size k 1 1 (.slice (some ⟨gb, 0, none⟩) k cb) (custV ((ks.take k).map swC)) [.int .i64 d, .int .i64 x, .int .i64 v] ⟨wr.heap.size, 0, none⟩ (by simp [Act.eval, Act.put]) (by simp [Act.eval, Act.put]) HOW.out rfl (three_new _ _ _ _ _ _ (by simp)) oneCell3 (by omega) (by have := HBE.out.size; simp; omega) ?_
              intro v2 w9 hown2 hgrow2
              have hb9 : Below wz.heap.size wz w9 := only_belowK ((below_drewN HBE.out 1).alloc HBE.out.size (.cells #[.int .i64 d, .int .i64 x, .int .i64 v] 31)) hgrow2 (Nat.le_refl _) (fun j hj => by have := HGB.out; simp [Value.ownBlock] at hj; omega)
              have k1 := (hb9.cell (p := ⟨b0, off0 + k * 3, none⟩) hb0).trans (HC0.out.1)
              have k2 := (hb9.cell (p := ⟨b0, off0 + k * 3 + 1, none⟩) hb0).trans (HC0.out.2.1)
              have k3 := (hb9.cell (p := ⟨b0, off0 + k * 3 + 2, none⟩) hb0).trans (HC0.out.2.2)
              refine hK.out _ _ ?_ (fun hH98 => ?_)
              · try dsimp only
                go_keep
              clear hK K hH97
              try simp only [Act.put, List.setIfInBounds_toArray, List.set_cons_zero, List.set_cons_succ]
              refine wpAnyH_take (i := 19) (v := ?_) (by simp only [List.getElem?_toArray, List.getElem?_cons_succ, List.getElem?_cons_zero]; exact rfl) (by kernel_rfl) (by kernel_rfl) (by kernel_rfl) (by exact fun _ _ _ h => h) (Or.inl ⟨by rfl, ?_⟩) (by assumption) ?_
              rotate_left 1
              · intro w hSw
                try dsimp only at hSw
                go_simp
                try with_reducible rfl
              try simp only [Act.put, List.setIfInBounds_toArray, List.set_cons_zero, List.set_cons_succ]
              refine wpAnyH_done (by kernel_rfl) ?_ _
              refine NoPanic.normal ?_
              obtain ⟨A9, c9, rfl⟩ := owz_form hown2
              obtain ⟨g9, rfl, hg9, _, _, _⟩ := owz_some (by omega) hown2 (by omega)
              have hown3 : w9.ownsRow wz.heap.size 31 3 (.slice (some ⟨g9, 0, none⟩) (k + 1) c9) (k + 1) (custV ((ks.take (k + 1)).map swC)) := by rw [HNX.out, custV_snoc]; exact hown2
              have HP := Lib.hid (And.intro hown3 (And.intro hb9 hg9))
              clear hown2 hown3 hgrow2 hb9 hg9 k1 k2 k3
              go_wp2
              go_roundw
              case rel => exact ⟨k + 1, g9, c9, by omega, by go_num, rfl, HP.out.1, HP.out.2.1, HP.out.2.2⟩
              case measure => first | (simp [intOf]; omega) | simp [intOf]
            exact AllReadyH.nil
          exact AllReadyH.nil
        · obtain rfl : k = n := by omega
          have hall : (ks.take k).map swC = ks.map swC := by rw [← HL.out, List.take_length]
          rw [hall] at hown
          have hoT := owz_far HOZ.out (w' := wr) (fun j hj1 hj2 => hbel.block j (by omega))
          have hsz := hbel.size
          have HO2 := Lib.hid (And.intro hoT hbel)
          have CO := Lib.hid (HOB.out wr _ cb (Rd.ownz hown))
          clear hall hown hbel hoT
          go_wp2_with fail
          refine (CO.out).mono ?_
          rintro e w8 ⟨A8, c8, rfl, o8, b8⟩
          rw [balL_len] at o8 ⊢
          have hb8 := HO2.out.2.trans (b8.mono hsz)
          have hoT := owz_far HO2.out.1 (w' := w8) (fun j hj1 hj2 => b8.block j hj2)
          have hrT := Rd.own hoT
          have hrO := Rd.own o8
          have HB8 := Lib.hid hb8
          have HOT := Lib.hid hoT
          clear o8 b8 hb8 hoT HO2 HOZ HOB
          go_wp2
          go_loopw [8] (fun i wr => ∃ j : Nat, j ≤ 8 ∧ i = .int .i64 j ∧ ∃ q, wr = w8.drewN q) (fun i _ => 8 - (intOf i).toNat)
          case atStart => exact ⟨0, by omega, rfl, 0, rfl⟩
          case round =>
            obtain ⟨j, hj, rfl, q0, hwr⟩ := hrel
            by_cases hj8 : j < 8
            · have hrT1 : Rd wr wr.heap.size (some ⟨gT, 0, none⟩) (ints (balL ks)) := by rw [hwr]; exact hrT.drewN q0
              have hrO1 : Rd wr wr.heap.size A8 (ints (balL (ks.map swC))) := by rw [hwr]; exact hrO.drewN q0
              obtain ⟨b3, off3, y, e8, hb3, hy, hcy⟩ := hrT1.int_ (k := j) (by rw [balL_len]; exact hj8)
              injection e8 with e8
              injection e8 with q1 q2
              subst q1 q2
              obtain ⟨b4, off4, z, rfl, hb4, hz, hcz⟩ := hrO1.int_ (k := j) (by rw [balL_len]; exact hj8)
              have hyz : z = - y := by rw [← at_of hz.out, ← at_of hy.out]; exact HATS.out j hj8
              have hyb := HBD.out j
              rw [at_of hy.out] at hyb
              obtain ⟨hy1, hy2⟩ := hyb
              have hzy : (z == -y) = true := beq_iff_eq.2 hyz
              have HWR := Lib.hid hwr
              clear hwr hy hz
              subst hyz
              simp only [Nat.zero_add] at hcy
              go_wp2
              refine wp_region_quiet_lit (by kernel_rfl) (by kernel_rfl) ?_
              repeat (go_big_quiet_step (fail))
              refine wpQuiet_nil ?_
              intro _ hw'
              obtain ⟨nq, hw''⟩ := hw'
              subst hw''
              go_wp2
              go_roundw
              case rel => exact ⟨j + 1, by omega, by go_num, q0 + nq, by rw [HWR.out, drewN_add]⟩
              case measure => first | (simp [intOf]; omega) | simp [intOf]
            · obtain rfl : j = 8 := by omega
              have hrT1 : Rd wr wr.heap.size (some ⟨gT, 0, none⟩) (ints (balL ks)) := by rw [hwr]; exact hrT.drewN q0
              have CT := Lib.hid (total_eight (balL ks) (balL_len ks) _ cT wr _ hrT1 HBZ.out)
              rw [HSUM.out] at CT
              have HBF : Hid (Below w1.heap.size w1 wr) := Lib.hid (by rw [hwr]; exact below_drewN (HBL.out.trans (HB8.out.mono HBL.out.size)) q0)
              clear hwr
              go_wp2_with fail
              refine (CT.out).mono ?_
              rintro e w' ⟨rfl, rfl⟩
              go_wp2
              go_ret
              exact ⟨rfl, b1.trans (HBF.out.mono b1.size)⟩
  · have hn' : 1048576 < cs.length := by omega
    go_enter Try.func4, Try.ntmps4
    go_wp2
    go_ret
    exact ⟨rfl, Below.refl _ _⟩

set_option maxRecDepth 100000 in
theorem lifted (os : Os) (started : os.Started) (H : Type) (enc : TypeId × Value → H) :
    ReturnsInHanded {} Try.checked os 4 .any (Rows.fnBalancesOfSpec.pre6 enc Try.prog Try.f4 Rows.fnBalancesOfRow.domain false) (Rows.fnBalancesOfSpec.post enc Try.prog Try.f4 false true false false) := by
  refine returnsInHanded_of_change (C := Try.checked) ownNone started (by kernel_rfl) Try.func4
    (ChangeSpec.witness6 (enc := enc) (C := Try.checked) false ⟨#[], #[.slice none 0 0], []⟩ 8 (by kernel_rfl) (by kernel_rfl) (by kernel_rfl) (by kernel_rfl)) ?_
  intro W base args ds gs before hval0 hW hcnd _
  have hval : ∀ (j : Nat) t v, Try.f4.params[j]? = some t → args[j]? = some v → Value.okWide Try.prog W .any base t v := hval0
  have hW' := hW
  obtain ⟨p, q, hA0, hV, rfl, _, _⟩ := hW
  have hA : DataW.TrodAll enc Try.prog W 0 (fun _ => true) true Try.f4.params.toList args.toList ds p := hA0
  rw [Try.params4] at hA hval
  obtain ⟨v0, vs0, d0, ds0, p0, q0, hargs, rfl, rfl, h0, r0⟩ := trodAll_cons hA
  obtain ⟨rfl, rfl, rfl⟩ := trodAll_nil r0
  obtain rfl : args = #[v0] := by cases args; simp_all
  obtain ⟨rfl, rfl⟩ := trodVars_none hV
  obtain ⟨Acs, ccs, cs, rfl, hrcs, hlcs, hqcs⟩ := open_rd Try.underlying22 Try.underlying5 cellsByte (hval 0 22 v0 rfl rfl) h0
  have hbcs := byte_bounds hqcs
  clear hA0 hval0
  refine (walk W cs Acs ccs hrcs hbcs hlcs).mono fun e W' ⟨he, hg⟩ => ?_
  subst he
  exact ⟨_, rfl, law_post laidOut (by kernel_rfl) rfl rfl rfl rfl rfl Try.underlying4 hW' hg⟩

/-- The statement. -/
theorem proved : Rows.FnBalancesOfSaid :=
  OpenClaim.holds_of_wide 4 Try.f4 rfl rfl rfl rfl rfl rfl rfl ⟨rfl, rfl, rfl, rfl, rfl⟩ rfl rfl rfl rfl rfl (by kernel_rfl) Try.func4 (by kernel_rfl)
    (of_decide_eq_true (by kernel_rfl)) (by unfold Func.isWrapper; first | (rw [if_pos (by decide +kernel)]; kernel_rfl) | (rw [if_neg (by decide +kernel)]; exact ⟨rfl, rfl⟩))
    (fun os started H enc _ => lifted os started H enc)
#print axioms proved
end fnBalancesOf

end Go.Proofs.Ytiihenhddleooaa

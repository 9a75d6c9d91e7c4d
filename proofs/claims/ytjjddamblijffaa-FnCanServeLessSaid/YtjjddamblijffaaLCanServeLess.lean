/- The law FnCanServeLess: for every code it answers true, and the code reads as it read before. No condition. -/
import Derived.Test.YtjjddamblijffaaKLaw
import Derived.Test.YtjjddamblijffaaKHelp
import Derived.Test.YtjjddamblijffaaKLessG
import Derived.Test.YtjjddamblijffaaKLawD
import Derived.Test.YtjjddamblijffaaLaw
namespace Go.Proofs.Ytjjddamblijffaa
open Go.RowKit
set_option linter.unusedVariables false
set_option linter.unusedSimpArgs false

namespace fnCanServeLess
open Go.ChangeShapes Go.WideShapes Go.ChangeAt Go.RowKit
set_option maxRecDepth 100000 in
set_option maxHeartbeats 800000 in
set_option maxRecDepth 100000 in
set_option maxRecDepth 100000 in
set_option maxHeartbeats 8000000 in
theorem walk (w : World) (cs : List Int) (Acs : Option Addr) (ccs : Nat) (hrcs : Rd w w.heap.size Acs (bytes cs)) (hbcs : ∀ z ∈ cs, 0 ≤ z ∧ z ≤ 255) (hlcs : cs.length ≤ ccs ∧ ccs ≤ maxLen) :
    Calls Try.prog 8 #[.slice Acs cs.length ccs] w fun e w' => e = .returned (.bool true) ∧ Below w.heap.size w w' := by
  by_cases hn : cs.length ≤ 1048576
  · go_enter Try.func8, Try.ntmps8
    go_wp2_with fail
    refine (dCanServe _ _ _ _ hrcs hbcs hlcs.1 hlcs.2).mono ?_
    rintro e w1 ⟨ks, Ak, ck, st, rfl, ⟨hkl, hkc, hkm, hrk⟩, hst, b1⟩
    obtain ⟨i0, hi, hz0, hz1, hz2⟩ := info_parts info_cust
    obtain ⟨n, hn0⟩ : ∃ n, ks.length = n := ⟨_, rfl⟩
    rw [hn0] at hkl hkc ⊢
    have HL := Lib.hid hn0
    clear hn0
    have hn1 : n ≤ maxLen := by unfold maxLen; omega
    have HI := Lib.hid (fun w hr => iServe_any n ks HL.out Ak ck hn1 w hr st)
    have HS := Lib.hid (fun w hr => sServe_any n ks HL.out Ak ck hn1 w hr st)
    have HNUM : Hid (lateT ks st (nats (List.range n)) = if vcB ks && inB st (-100) 100 then latR st 0 ks else -1) := Lib.hid (by rw [← HL.out]; exact late_nums)
    have hng := latR_ge st 0 ks
    have hub := late_least_bd (ks := ks) (st := st) (nats (List.range n))
    have HT : Hid (csvT ks st = true → ∀ k, k < n → csvT (outK ks k) st = true) := Lib.hid fun hc k hk => csvT_out hc (by rw [HL.out]; exact hk)
    have HMR : Hid ((vcB ks && inB st (-100) 100) = true → csvT (mirF ks n) (-st) = csvT ks st) := Lib.hid fun h => by rw [Bool.and_eq_true] at h; have := csvT_mir (ks := ks) (st := st) h.1 h.2; rwa [HL.out] at this
    have HVA : Hid ((vcB ks && inB st (-100) 100) = true → ∀ k, k < n → -100 ≤ (cuA ks k).1 ∧ (cuA ks k).1 ≤ 100) := Lib.hid fun h k hk => by rw [Bool.and_eq_true] at h; exact (cuV_t (cuTo_at (vcB_t h.1).2 (show k < ks.length by rw [HL.out]; exact hk))).1
    generalize csvT ks st = q at *
    go_wp2_with fail
    refine (HI.out w1 hrk).mono ?_
    rintro e w2 ⟨rfl, b2⟩
    have z2 := b2.size
    have bl2 : Below w1.heap.size w1 w2 := (Below.refl w1.heap.size w1).trans (b2.mono (Nat.le_refl _))
    clear b2
    go_wp2_with fail
    refine (HS.out w2 ((hrk.below bl2).more bl2.size)).mono ?_
    rintro e w3 ⟨rfl, b3⟩
    have z3 := b3.size
    have bl3 : Below w1.heap.size w1 w3 := bl2.trans (b3.mono bl2.size)
    clear bl2 b3
    cases hv : (vcB ks && inB st (-100) 100)
    · rw [hv] at HNUM
      clear hng hv
      cases q
      all_goals
        skip
        go_wp2_with fail
        refine (numbers_any n (by omega) w3).mono ?_
        rintro e w4 ⟨AN, cN, rfl, oN4, b4⟩
        have z4 := b4.size
        have bl4 : Below w1.heap.size w1 w4 := bl3.trans (b4.mono bl3.size)
        have HIN := Lib.hid (owz_in oN4)
        clear bl3 b4
        rw [show (nats (List.range n)).length = n by rw [nats_length]; simp] at oN4 HIN ⊢
        go_wp2_with fail
        refine (iLate_any n n ks HL.out Ak ck hn1 (nats (List.range n)) (by rw [nats_length]; simp) (by omega) AN cN w4 ((hrk.below bl4).more bl4.size) (Rd.ownz oN4) st).mono ?_
        rintro e w5 ⟨rfl, b5⟩
        have z5 := b5.size
        have bl5 : Below w1.heap.size w1 w5 := bl4.trans (b5.mono bl4.size)
        have oN5 := owz_below oN4 b5
        clear oN4 bl4 b5
        clear oN5
        rw [HNUM.out]
        go_wp2_with fail
        refine (HS.out w5 ((hrk.below bl5).more bl5.size)).mono ?_
        rintro e w6 ⟨rfl, b6⟩
        have z6 := b6.size
        have bl6 : Below w1.heap.size w1 w6 := bl5.trans (b6.mono bl5.size)
        clear bl5 b6
        go_wp2
        go_ret
        exact ⟨rfl, b1.trans (bl6.mono b1.size)⟩
    · have HMQ := Lib.hid (HMR.out hv)
      have HVB := Lib.hid (HVA.out hv)
      rw [hv] at HNUM
      have hg0 : ¬ lateT ks st (nats (List.range n)) < 0 := by rw [HNUM.out]; show ¬ latR st 0 ks < 0; omega
      clear hng hv
      obtain ⟨st1, st2⟩ := hst
      cases q
      · skip
        go_wp2_with fail
        refine (numbers_any n (by omega) w3).mono ?_
        rintro e w4 ⟨AN, cN, rfl, oN4, b4⟩
        have z4 := b4.size
        have bl4 : Below w1.heap.size w1 w4 := bl3.trans (b4.mono bl3.size)
        have HIN := Lib.hid (owz_in oN4)
        clear bl3 b4
        rw [show (nats (List.range n)).length = n by rw [nats_length]; simp] at oN4 HIN ⊢
        go_wp2_with fail
        refine (iLate_any n n ks HL.out Ak ck hn1 (nats (List.range n)) (by rw [nats_length]; simp) (by omega) AN cN w4 ((hrk.below bl4).more bl4.size) (Rd.ownz oN4) st).mono ?_
        rintro e w5 ⟨rfl, b5⟩
        have z5 := b5.size
        have bl5 : Below w1.heap.size w1 w5 := bl4.trans (b5.mono bl4.size)
        have oN5 := owz_below oN4 b5
        clear oN4 bl4 b5
        clear oN5
        have hr4 := ((hrk.below bl5).more bl5.size)
        have HBL := Lib.hid bl5
        clear bl5
        obtain ⟨w4, hw4⟩ : ∃ w4, w4 = w5 := ⟨_, rfl⟩
        rw [← hw4] at hr4 HBL ⊢
        clear hw4
        go_wp2_with (at_builtin; refine push_anyK rfl _ _ 23 rfl w4.heap.size 33 i0 (.agg #[.int .i64 0, .int .i64 0, .int .i64 0]) 24 Try.underlying23 hi hz0 hz1 hz2 rfl _ _ _ rfl (owz_empty w4 33 3) _ _ _ w4.heap.size (custV ks) rfl ((hr4.alloc (Nat.le_refl _) _)) (by rw [custV_len, HL.out]) oneCell_cust (by unfold maxLen; omega) (by omega) (by simp) ?_)
        intro v9 w9 own9 grow9
        have hb9 : Below w4.heap.size w4 w9 := ((Below.refl _ _).alloc (Nat.le_refl _) (.cells #[] 33)).grown grow9 (by simp) (owz_block (owz_empty w4 33 3))
        have own9' : w9.ownsRow w4.heap.size 33 3 v9 n (custV (mirF ks 0)) := by rw [mirF_zero]; simpa using own9
        obtain ⟨AM, cM, rfl⟩ := owz_form own9'
        have HST := Lib.hid (And.intro own9' hb9)
        clear own9 own9' hb9 grow9
        go_wp2
        go_loopw [7] (fun i wr => ∃ k : Nat, k ≤ n ∧ i = .int .i64 k ∧ wr.ownsRow w4.heap.size 33 3 (.slice AM n cM) n (custV (mirF ks k)) ∧ Below w4.heap.size w4 wr) (fun i _ => n - (intOf i).toNat)
        case atStart => exact ⟨0, Nat.zero_le _, rfl, HST.out.1, HST.out.2⟩
        case round =>
          clear HST
          obtain ⟨k, hk, rfl, hown, hbel0⟩ := hrel
          by_cases hlt : k < n
          · obtain ⟨gM, rfl, hgM, hgMl, _, _⟩ := owz_some (by omega) hown (by omega)
            have hr0 := (hr4.below hbel0).more hbel0.size
            obtain ⟨bk, offk, xk, dk, vk, hAk, hbk, hzk, kc1, kc2, kc3⟩ := hr0.cust_ (k := k) (by rw [HL.out]; exact hlt)
            have hxb := HVB.out k hlt
            rw [hzk.out] at hxb
            obtain ⟨xb1, xb2⟩ := hxb
            simp only at xb1 xb2
            have hlk : (mirF ks k)[k]? = some (xk, dk, vk) := by rw [mirF_get (by rw [HL.out]; exact hlt), if_neg (by omega), hzk.out]
            have hset := custV_set0 (e := -xk) hlk
            rw [mirF_set (by rw [HL.out]; exact hlt) hzk.out] at hset
            have k1 := owz_cell hown (custV_at hlk).1
            have f1 := owz_frozen hown (k * 3)
            have o2 := owz_put hown (k * 3) (.int .i64 (-xk))
            rw [hset] at o2
            have hbel : Below w4.heap.size w4 (wr.setCell ⟨gM, k * 3, none⟩ (.int .i64 (-xk))) := hbel0.setCell hgM _
            subst hAk
            clear hset hlk hr0 hzk hown hbel0
            go_wp2
            generalize wr.setCell ⟨gM, k * 3, none⟩ (.int .i64 (-xk)) = wr at *
            have HO2M := Lib.hid (And.intro o2 hbel)
            clear o2 kc1 kc2 kc3 k1 f1
            have hrr := (hr4.below hbel).more hbel.size
            obtain ⟨b0, off0, x, d0, v0, hA0, hb0, hxy, hc1, hc2, hc3⟩ := hrr.cust_ (k := 0) (by rw [HL.out]; omega)
            injection hA0.symm with hA1
            injection hA1 with e1 e2
            subst e1 e2
            clear hA0
            have HE0 : Hid ((wr.drew.alloc (Obj.cells #[] 33)).ownsRow wr.heap.size 33 3 (.slice (some ⟨wr.heap.size, 0, none⟩) 0 0) 0 []) := Lib.hid (owz_empty wr.drew _ 3)
            have HBE : Hid (Below wr.heap.size wr (wr.drew.alloc (Obj.cells #[] 33))) := Lib.hid ((below_drewN (Below.refl _ _) 1).alloc (Nat.le_refl _) _)
            have HN1 : Hid (((custV ks).take (k * 3)).length = k * 3) := Lib.hid (by rw [List.length_take, custV_len, HL.out]; omega)
            have HN2 : Hid (((custV ks).drop ((k + 1) * 3)).length = (n - (k + 1)) * 3) := Lib.hid (by rw [List.length_drop, custV_len, HL.out]; omega)
            have HO1 : Hid (∀ u ∈ (custV ks).take (k * 3), u.oneCell' = true) := Lib.hid fun u hu => oneCell_cust u (List.mem_of_mem_take hu)
            have HO2 : Hid (∀ u ∈ (custV ks).drop ((k + 1) * 3), u.oneCell' = true) := Lib.hid fun u hu => oneCell_cust u (List.mem_of_mem_drop hu)
            have HAT : Hid (∀ w', Below wr.heap.size wr w' → ∀ j u, (custV ks)[j]? = some u → w'.cell? ⟨b0, off0 + j, none⟩ = some u) := Lib.hid fun w' hb j u hj => by
              obtain ⟨b', off', e, _, hc⟩ := (hrr.below hb).at_ hj
              injection e with e
              injection e with e1 e2
              subst e1 e2
              exact hc
            have HS1 : Hid (∀ j u, ((custV ks).take (k * 3))[j]? = some u → (wr.drew.alloc (Obj.cells #[] 33)).cell? ((⟨b0, off0, none⟩ : Addr).add j) = some u) := Lib.hid fun j u hj => by
              rw [List.getElem?_take] at hj
              split at hj
              · have := HAT.out _ HBE.out j u hj
                rw [add_offK]; exact this
              · cases hj
            have HS2 : Hid (∀ w', Below wr.heap.size wr w' → ∀ j u, ((custV ks).drop ((k + 1) * 3))[j]? = some u → w'.cell? ((⟨b0, off0 + (k + 1) * 3, none⟩ : Addr).add j) = some u) := Lib.hid fun w' hb j u hj => by
              rw [List.getElem?_drop] at hj
              have := HAT.out w' hb _ u hj
              rw [add_offK, Nat.add_assoc]; exact this
            have HLO2 : Hid ((outK ks k).length = 0 + k + (n - (k + 1))) := Lib.hid (by have := outK_len (cs := ks) (k := k) (by rw [HL.out]; exact hlt); rw [HL.out] at this; omega)
            have a1 : k ≤ ck := by omega
            have a2 : k + 1 ≤ ck := by omega
            have a3 : (k : Int) ≤ (n : Int) := by omega
            have a4 : (k : Int) ≤ (ck : Int) := by omega
            have a5 : (k : Int) + 1 ≤ (n : Int) := by omega
            have a6 : (n : Int) ≤ (ck : Int) := by omega
            have a7 : ((k : Int) + 1).toNat = k + 1 := by omega
            have a8 : IntKind.i64.wrap ((k : Int) + 1) = (k : Int) + 1 := IntWalk.i64_in _ (by omega)
            have a9 : ¬ ck = k := by omega
            have a0 : (0 : Int) ≤ (k : Int) + 1 := by omega
            simp only [Nat.zero_mul, Nat.add_zero] at hc1
            clear hc2 hc3 hxy hrr
            refine wp_region_noPanic ?_
            refine wp_region_held_drew (S := fun w' => w'.cell? ⟨b0, off0, none⟩ = some (.int .i64 x)) (by kernel_rfl) ?_ (fun hH0 => ?_)
            · try dsimp only
              go_keep
            refine wpAnyH_take (i := 0) (v := ?_) (by simp only [List.getElem?_toArray, List.getElem?_cons_succ, List.getElem?_cons_zero]; exact rfl) (by kernel_rfl) (by kernel_rfl) (by kernel_rfl) (by exact fun _ _ _ h => h) (Or.inl ⟨by rfl, ?_⟩) (by assumption) ?_
            rotate_left 1
            · intro w hSw
              try dsimp only at hSw
              go_simp
              try with_reducible rfl
            try simp only [Act.put, List.setIfInBounds_toArray, List.set_cons_zero, List.set_cons_succ]
            refine wpAnyH_take (i := 1) (v := ?_) (by simp only [List.getElem?_toArray, List.getElem?_cons_succ, List.getElem?_cons_zero]; exact rfl) (by kernel_rfl) (by kernel_rfl) (by kernel_rfl) (by exact fun _ _ _ h => h) (Or.inl ⟨by rfl, ?_⟩) (by assumption) ?_
            rotate_left 1
            · intro w hSw
              try dsimp only at hSw
              go_simp
              try with_reducible rfl
            try simp only [Act.put, List.setIfInBounds_toArray, List.set_cons_zero, List.set_cons_succ]
            refine wpAnyH_take (i := 3) (v := undef) (by simp only [List.getElem?_toArray, List.getElem?_cons_succ, List.getElem?_cons_zero]; exact rfl) (by kernel_rfl) (by kernel_rfl) (by kernel_rfl) (by exact fun _ _ _ h => h) (Or.inr ⟨by rfl, rfl⟩) (by assumption) ?_
            try simp only [Act.put, List.setIfInBounds_toArray, List.set_cons_zero, List.set_cons_succ]
            refine wpAnyH_take (i := 4) (v := undef) (by simp only [List.getElem?_toArray, List.getElem?_cons_succ, List.getElem?_cons_zero]; exact rfl) (by kernel_rfl) (by kernel_rfl) (by kernel_rfl) (by exact fun _ _ _ h => h) (Or.inr ⟨by rfl, rfl⟩) (by assumption) ?_
            try simp only [Act.put, List.setIfInBounds_toArray, List.set_cons_zero, List.set_cons_succ]
            refine wpAnyH_take (i := 5) (v := undef) (by simp only [List.getElem?_toArray, List.getElem?_cons_succ, List.getElem?_cons_zero]; exact rfl) (by kernel_rfl) (by kernel_rfl) (by kernel_rfl) (by exact fun _ _ _ h => h) (Or.inr ⟨by rfl, rfl⟩) (by assumption) ?_
            try simp only [Act.put, List.setIfInBounds_toArray, List.set_cons_zero, List.set_cons_succ]
            refine wpAnyH_take (i := 7) (v := undef) (by simp only [List.getElem?_toArray, List.getElem?_cons_succ, List.getElem?_cons_zero]; exact rfl) (by kernel_rfl) (by kernel_rfl) (by kernel_rfl) (by exact fun _ _ _ h => h) (Or.inr ⟨by rfl, rfl⟩) (by assumption) ?_
            try simp only [Act.put, List.setIfInBounds_toArray, List.set_cons_zero, List.set_cons_succ]
            refine wpAnyH_take (i := 8) (v := undef) (by simp only [List.getElem?_toArray, List.getElem?_cons_succ, List.getElem?_cons_zero]; exact rfl) (by kernel_rfl) (by kernel_rfl) (by kernel_rfl) (by exact fun _ _ _ h => h) (Or.inr ⟨by rfl, rfl⟩) (by assumption) ?_
            try simp only [Act.put, List.setIfInBounds_toArray, List.set_cons_zero, List.set_cons_succ]
            refine wpAnyH_take (i := 9) (v := undef) (by simp only [List.getElem?_toArray, List.getElem?_cons_succ, List.getElem?_cons_zero]; exact rfl) (by kernel_rfl) (by kernel_rfl) (by kernel_rfl) (by exact fun _ _ _ h => h) (Or.inr ⟨by rfl, rfl⟩) (by assumption) ?_
            try simp only [Act.put, List.setIfInBounds_toArray, List.set_cons_zero, List.set_cons_succ]
            refine wpAnyH_take (i := 10) (v := undef) (by simp only [List.getElem?_toArray, List.getElem?_cons_succ, List.getElem?_cons_zero]; exact rfl) (by kernel_rfl) (by kernel_rfl) (by kernel_rfl) (by exact fun _ _ _ h => h) (Or.inr ⟨by rfl, rfl⟩) (by assumption) ?_
            try simp only [Act.put, List.setIfInBounds_toArray, List.set_cons_zero, List.set_cons_succ]
            refine wpAnyH_take (i := 12) (v := undef) (by simp only [List.getElem?_toArray, List.getElem?_cons_succ, List.getElem?_cons_zero]; exact rfl) (by kernel_rfl) (by kernel_rfl) (by kernel_rfl) (by exact fun _ _ _ h => h) (Or.inr ⟨by rfl, rfl⟩) (by assumption) ?_
            try simp only [Act.put, List.setIfInBounds_toArray, List.set_cons_zero, List.set_cons_succ]
            refine wpAnyH_ready (rs := [2]) (by kernel_rfl) (by simp) ?_
            refine AllReadyH.cons (by simp only [List.getElem?_toArray, List.getElem?_cons_succ, List.getElem?_cons_zero]; exact rfl) (fun K hK => ?_) ?_
            · go_simp
              refine hK.out _ _ ?_ (fun hH59 => ?_)
              · try dsimp only
                go_keep
              clear hK K hH0
              try simp only [Act.put, List.setIfInBounds_toArray, List.set_cons_zero, List.set_cons_succ]
              refine wpAnyH_ready (rs := [6]) (by kernel_rfl) (by simp) ?_
              refine AllReadyH.cons (by simp only [List.getElem?_toArray, List.getElem?_cons_succ, List.getElem?_cons_zero]; exact rfl) (fun K hK => ?_) ?_
              · go_simp
                refine hK.out _ _ ?_ (fun hH60 => ?_)
                · try dsimp only
                  go_keep
                clear hK K hH59
                try simp only [Act.put, List.setIfInBounds_toArray, List.set_cons_zero, List.set_cons_succ]
                refine wpAnyH_ready (rs := [11]) (by kernel_rfl) (by simp) ?_
                refine AllReadyH.cons (by simp only [List.getElem?_toArray, List.getElem?_cons_succ, List.getElem?_cons_zero]; exact rfl) (fun K hK => ?_) ?_
                · go_simp
                  refine hK.out _ _ ?_ (fun hH61 => ?_)
                  · try dsimp only
                    go_keep
                  clear hK K hH60
                  try simp only [Act.put, List.setIfInBounds_toArray, List.set_cons_zero, List.set_cons_succ]
                  refine wpAnyH_ready (rs := [13]) (by kernel_rfl) (by simp) ?_
                  refine AllReadyH.cons (by simp only [List.getElem?_toArray, List.getElem?_cons_succ, List.getElem?_cons_zero]; exact rfl) (fun K hK => ?_) ?_
                  · go_simp
                    refine hK.out _ _ ?_ (fun hH62 => ?_)
                    · try dsimp only
                      go_keep
                    clear hK K hH61
                    try simp only [Act.put, List.setIfInBounds_toArray, List.set_cons_zero, List.set_cons_succ]
                    refine wpAnyH_take (i := 14) (v := undef) (by simp only [List.getElem?_toArray, List.getElem?_cons_succ, List.getElem?_cons_zero]; exact rfl) (by kernel_rfl) (by kernel_rfl) (by kernel_rfl) (by exact fun _ _ _ h => h) (Or.inr ⟨by rfl, rfl⟩) (by assumption) ?_
                    try simp only [Act.put, List.setIfInBounds_toArray, List.set_cons_zero, List.set_cons_succ]
                    refine wpAnyH_take (i := 15) (v := ?_) (by simp only [List.getElem?_toArray, List.getElem?_cons_succ, List.getElem?_cons_zero]; exact rfl) (by kernel_rfl) (by kernel_rfl) (by kernel_rfl) (by exact fun _ _ _ h => h) (Or.inl ⟨by rfl, ?_⟩) (by assumption) ?_
                    rotate_left 1
                    · intro w hSw
                      try dsimp only at hSw
                      go_simp
                      try with_reducible rfl
                    try simp only [Act.put, List.setIfInBounds_toArray, List.set_cons_zero, List.set_cons_succ]
                    refine wpAnyH_done (by kernel_rfl) ?_ _
                    refine NoPanic.normal ?_
                    have HBB := Lib.hid (And.intro (owz_drewN HO2M.out.1 1) (HO2M.out.2.trans ((below_drewN (Below.refl wr.heap.size wr) 1).mono HO2M.out.2.size)))
                    go_wp2
                    go_roundw
                    case rel => exact ⟨k + 1, by omega, by go_num, HBB.out.1, HBB.out.2⟩
                    case measure => simp [intOf]; omega
                  exact AllReadyH.nil
                exact AllReadyH.nil
              exact AllReadyH.nil
            exact AllReadyH.nil
          · have hkn : n = k := by omega
            subst hkn
            have cM2 := iServe_any n (mirF ks n) (by rw [mirF_len, HL.out]) AM cM hn1 wr (Rd.ownz hown) (-st)
            rw [HMQ.out] at cM2
            have CM := Lib.hid cM2
            have HB := Lib.hid (HBL.out.trans (hbel0.mono HBL.out.size))
            clear hown hbel0 cM2
            go_wp2_with fail
            refine (CM.out).mono ?_
            rintro e w11 ⟨rfl, b11⟩
            have HB11 := Lib.hid (HB.out.trans (b11.mono HB.out.size))
            clear b11
            go_wp2
            go_ret
            exact ⟨rfl, b1.trans (HB11.out.mono b1.size)⟩
      · have HT := Lib.hid (HT.out (by first | exact rfl | trivial))
        go_wp2_with fail
        refine (numbers_any n (by omega) w3).mono ?_
        rintro e w4 ⟨AN, cN, rfl, oN4, b4⟩
        have z4 := b4.size
        have bl4 : Below w1.heap.size w1 w4 := bl3.trans (b4.mono bl3.size)
        have HIN := Lib.hid (owz_in oN4)
        clear bl3 b4
        rw [show (nats (List.range n)).length = n by rw [nats_length]; simp] at oN4 HIN ⊢
        go_wp2_with fail
        refine (iLate_any n n ks HL.out Ak ck hn1 (nats (List.range n)) (by rw [nats_length]; simp) (by omega) AN cN w4 ((hrk.below bl4).more bl4.size) (Rd.ownz oN4) st).mono ?_
        rintro e w5 ⟨rfl, b5⟩
        have z5 := b5.size
        have bl5 : Below w1.heap.size w1 w5 := bl4.trans (b5.mono bl4.size)
        have oN5 := owz_below oN4 b5
        clear oN4 bl4 b5
        clear oN5
        have hr4 := ((hrk.below bl5).more bl5.size)
        have HBL := Lib.hid bl5
        clear bl5
        obtain ⟨w4, hw4⟩ : ∃ w4, w4 = w5 := ⟨_, rfl⟩
        rw [← hw4] at hr4 HBL ⊢
        clear hw4
        go_wp2_with (at_builtin; refine push_anyK rfl _ _ 23 rfl w4.heap.size 33 i0 (.agg #[.int .i64 0, .int .i64 0, .int .i64 0]) 24 Try.underlying23 hi hz0 hz1 hz2 rfl _ _ _ rfl (owz_empty w4 33 3) _ _ _ w4.heap.size (custV ks) rfl ((hr4.alloc (Nat.le_refl _) _)) (by rw [custV_len, HL.out]) oneCell_cust (by unfold maxLen; omega) (by omega) (by simp) ?_)
        intro v9 w9 own9 grow9
        have hb9 : Below w4.heap.size w4 w9 := ((Below.refl _ _).alloc (Nat.le_refl _) (.cells #[] 33)).grown grow9 (by simp) (owz_block (owz_empty w4 33 3))
        have own9' : w9.ownsRow w4.heap.size 33 3 v9 n (custV (mirF ks 0)) := by rw [mirF_zero]; simpa using own9
        obtain ⟨AM, cM, rfl⟩ := owz_form own9'
        have HST := Lib.hid (And.intro own9' hb9)
        clear own9 own9' hb9 grow9
        go_wp2
        go_loopw [7] (fun i wr => ∃ k : Nat, k ≤ n ∧ i = .int .i64 k ∧ wr.ownsRow w4.heap.size 33 3 (.slice AM n cM) n (custV (mirF ks k)) ∧ Below w4.heap.size w4 wr) (fun i _ => n - (intOf i).toNat)
        case atStart => exact ⟨0, Nat.zero_le _, rfl, HST.out.1, HST.out.2⟩
        case round =>
          clear HST
          obtain ⟨k, hk, rfl, hown, hbel0⟩ := hrel
          by_cases hlt : k < n
          · obtain ⟨gM, rfl, hgM, hgMl, _, _⟩ := owz_some (by omega) hown (by omega)
            have hr0 := (hr4.below hbel0).more hbel0.size
            obtain ⟨bk, offk, xk, dk, vk, hAk, hbk, hzk, kc1, kc2, kc3⟩ := hr0.cust_ (k := k) (by rw [HL.out]; exact hlt)
            have hxb := HVB.out k hlt
            rw [hzk.out] at hxb
            obtain ⟨xb1, xb2⟩ := hxb
            simp only at xb1 xb2
            have hlk : (mirF ks k)[k]? = some (xk, dk, vk) := by rw [mirF_get (by rw [HL.out]; exact hlt), if_neg (by omega), hzk.out]
            have hset := custV_set0 (e := -xk) hlk
            rw [mirF_set (by rw [HL.out]; exact hlt) hzk.out] at hset
            have k1 := owz_cell hown (custV_at hlk).1
            have f1 := owz_frozen hown (k * 3)
            have o2 := owz_put hown (k * 3) (.int .i64 (-xk))
            rw [hset] at o2
            have hbel : Below w4.heap.size w4 (wr.setCell ⟨gM, k * 3, none⟩ (.int .i64 (-xk))) := hbel0.setCell hgM _
            subst hAk
            clear hset hlk hr0 hzk hown hbel0
            go_wp2
            generalize wr.setCell ⟨gM, k * 3, none⟩ (.int .i64 (-xk)) = wr at *
            have HO2M := Lib.hid (And.intro o2 hbel)
            clear o2 kc1 kc2 kc3 k1 f1
            have hrr := (hr4.below hbel).more hbel.size
            obtain ⟨b0, off0, x, d0, v0, hA0, hb0, hxy, hc1, hc2, hc3⟩ := hrr.cust_ (k := 0) (by rw [HL.out]; omega)
            injection hA0.symm with hA1
            injection hA1 with e1 e2
            subst e1 e2
            clear hA0
            have HE0 : Hid ((wr.drew.alloc (Obj.cells #[] 33)).ownsRow wr.heap.size 33 3 (.slice (some ⟨wr.heap.size, 0, none⟩) 0 0) 0 []) := Lib.hid (owz_empty wr.drew _ 3)
            have HBE : Hid (Below wr.heap.size wr (wr.drew.alloc (Obj.cells #[] 33))) := Lib.hid ((below_drewN (Below.refl _ _) 1).alloc (Nat.le_refl _) _)
            have HN1 : Hid (((custV ks).take (k * 3)).length = k * 3) := Lib.hid (by rw [List.length_take, custV_len, HL.out]; omega)
            have HN2 : Hid (((custV ks).drop ((k + 1) * 3)).length = (n - (k + 1)) * 3) := Lib.hid (by rw [List.length_drop, custV_len, HL.out]; omega)
            have HO1 : Hid (∀ u ∈ (custV ks).take (k * 3), u.oneCell' = true) := Lib.hid fun u hu => oneCell_cust u (List.mem_of_mem_take hu)
            have HO2 : Hid (∀ u ∈ (custV ks).drop ((k + 1) * 3), u.oneCell' = true) := Lib.hid fun u hu => oneCell_cust u (List.mem_of_mem_drop hu)
            have HAT : Hid (∀ w', Below wr.heap.size wr w' → ∀ j u, (custV ks)[j]? = some u → w'.cell? ⟨b0, off0 + j, none⟩ = some u) := Lib.hid fun w' hb j u hj => by
              obtain ⟨b', off', e, _, hc⟩ := (hrr.below hb).at_ hj
              injection e with e
              injection e with e1 e2
              subst e1 e2
              exact hc
            have HS1 : Hid (∀ j u, ((custV ks).take (k * 3))[j]? = some u → (wr.drew.alloc (Obj.cells #[] 33)).cell? ((⟨b0, off0, none⟩ : Addr).add j) = some u) := Lib.hid fun j u hj => by
              rw [List.getElem?_take] at hj
              split at hj
              · have := HAT.out _ HBE.out j u hj
                rw [add_offK]; exact this
              · cases hj
            have HS2 : Hid (∀ w', Below wr.heap.size wr w' → ∀ j u, ((custV ks).drop ((k + 1) * 3))[j]? = some u → w'.cell? ((⟨b0, off0 + (k + 1) * 3, none⟩ : Addr).add j) = some u) := Lib.hid fun w' hb j u hj => by
              rw [List.getElem?_drop] at hj
              have := HAT.out w' hb _ u hj
              rw [add_offK, Nat.add_assoc]; exact this
            have HLO2 : Hid ((outK ks k).length = 0 + k + (n - (k + 1))) := Lib.hid (by have := outK_len (cs := ks) (k := k) (by rw [HL.out]; exact hlt); rw [HL.out] at this; omega)
            have a1 : k ≤ ck := by omega
            have a2 : k + 1 ≤ ck := by omega
            have a3 : (k : Int) ≤ (n : Int) := by omega
            have a4 : (k : Int) ≤ (ck : Int) := by omega
            have a5 : (k : Int) + 1 ≤ (n : Int) := by omega
            have a6 : (n : Int) ≤ (ck : Int) := by omega
            have a7 : ((k : Int) + 1).toNat = k + 1 := by omega
            have a8 : IntKind.i64.wrap ((k : Int) + 1) = (k : Int) + 1 := IntWalk.i64_in _ (by omega)
            have a9 : ¬ ck = k := by omega
            have a0 : (0 : Int) ≤ (k : Int) + 1 := by omega
            simp only [Nat.zero_mul, Nat.add_zero] at hc1
            clear hc2 hc3 hxy hrr
            by_cases hck : ck = k + 1
            · subst hck
              have hL : n - (k + 1) = 0 := by omega
              have c1 : (k : Int) ≤ (k : Int) + 1 := by omega
              have c2 : (n : Int) ≤ (k : Int) + 1 := by omega
              have HZ : Hid ((custV ks).take (k * 3) = custV (outK ks k)) := Lib.hid (by rw [← custV_out, List.drop_of_length_le (by rw [custV_len, HL.out]; omega), List.append_nil])
              rw [hL] at HLO2
              clear a4 a6 HS2 HO2 HN2
              try go_wp2
              refine wp_region_noPanic ?_
              refine wp_region_held_drew (S := fun w' => w'.cell? ⟨b0, off0, none⟩ = some (.int .i64 x)) (by kernel_rfl) ?_ (fun hH0 => ?_)
              · try dsimp only
                go_keep
              refine wpAnyH_take (i := 0) (v := ?_) (by simp only [List.getElem?_toArray, List.getElem?_cons_succ, List.getElem?_cons_zero]; exact rfl) (by kernel_rfl) (by kernel_rfl) (by kernel_rfl) (by exact fun _ _ _ h => h) (Or.inl ⟨by rfl, ?_⟩) (by assumption) ?_
              rotate_left 1
              · intro w hSw
                try dsimp only at hSw
                go_simp
                try with_reducible rfl
              try simp only [Act.put, List.setIfInBounds_toArray, List.set_cons_zero, List.set_cons_succ]
              refine wpAnyH_take (i := 1) (v := ?_) (by simp only [List.getElem?_toArray, List.getElem?_cons_succ, List.getElem?_cons_zero]; exact rfl) (by kernel_rfl) (by kernel_rfl) (by kernel_rfl) (by exact fun _ _ _ h => h) (Or.inl ⟨by rfl, ?_⟩) (by assumption) ?_
              rotate_left 1
              · intro w hSw
                try dsimp only at hSw
                go_simp
                try with_reducible rfl
              try simp only [Act.put, List.setIfInBounds_toArray, List.set_cons_zero, List.set_cons_succ]
              refine wpAnyH_take (i := 3) (v := ?_) (by simp only [List.getElem?_toArray, List.getElem?_cons_succ, List.getElem?_cons_zero]; exact rfl) (by kernel_rfl) (by kernel_rfl) (by kernel_rfl) (by exact fun _ _ _ h => h) (Or.inl ⟨by rfl, ?_⟩) (by assumption) ?_
              rotate_left 1
              · intro w hSw
                try dsimp only at hSw
                go_simp
                try with_reducible rfl
              try simp only [Act.put, List.setIfInBounds_toArray, List.set_cons_zero, List.set_cons_succ]
              refine wpAnyH_take (i := 4) (v := ?_) (by simp only [List.getElem?_toArray, List.getElem?_cons_succ, List.getElem?_cons_zero]; exact rfl) (by kernel_rfl) (by kernel_rfl) (by kernel_rfl) (by exact fun _ _ _ h => h) (Or.inl ⟨by rfl, ?_⟩) (by assumption) ?_
              rotate_left 1
              · intro w hSw
                try dsimp only at hSw
                go_simp
                try with_reducible rfl
              try simp only [Act.put, List.setIfInBounds_toArray, List.set_cons_zero, List.set_cons_succ]
              refine wpAnyH_take (i := 5) (v := ?_) (by simp only [List.getElem?_toArray, List.getElem?_cons_succ, List.getElem?_cons_zero]; exact rfl) (by kernel_rfl) (by kernel_rfl) (by kernel_rfl) (by exact fun _ _ _ h => h) (Or.inl ⟨by rfl, ?_⟩) (by assumption) ?_
              rotate_left 1
              · intro w hSw
                try dsimp only at hSw
                go_simp
                try with_reducible rfl
              try simp only [Act.put, List.setIfInBounds_toArray, List.set_cons_zero, List.set_cons_succ]
              refine wpAnyH_take (i := 7) (v := ?_) (by simp only [List.getElem?_toArray, List.getElem?_cons_succ, List.getElem?_cons_zero]; exact rfl) (by kernel_rfl) (by kernel_rfl) (by kernel_rfl) (by exact fun _ _ _ h => h) (Or.inl ⟨by rfl, ?_⟩) (by assumption) ?_
              rotate_left 1
              · intro w hSw
                try dsimp only at hSw
                go_simp
                try with_reducible rfl
              try simp only [Act.put, List.setIfInBounds_toArray, List.set_cons_zero, List.set_cons_succ]
              refine wpAnyH_take (i := 8) (v := ?_) (by simp only [List.getElem?_toArray, List.getElem?_cons_succ, List.getElem?_cons_zero]; exact rfl) (by kernel_rfl) (by kernel_rfl) (by kernel_rfl) (by exact fun _ _ _ h => h) (Or.inl ⟨by rfl, ?_⟩) (by assumption) ?_
              rotate_left 1
              · intro w hSw
                try dsimp only at hSw
                go_simp
                try with_reducible rfl
              try simp only [Act.put, List.setIfInBounds_toArray, List.set_cons_zero, List.set_cons_succ]
              refine wpAnyH_take (i := 9) (v := ?_) (by simp only [List.getElem?_toArray, List.getElem?_cons_succ, List.getElem?_cons_zero]; exact rfl) (by kernel_rfl) (by kernel_rfl) (by kernel_rfl) (by exact fun _ _ _ h => h) (Or.inl ⟨by rfl, ?_⟩) (by assumption) ?_
              rotate_left 1
              · intro w hSw
                try dsimp only at hSw
                go_simp
                try with_reducible rfl
              try simp only [Act.put, List.setIfInBounds_toArray, List.set_cons_zero, List.set_cons_succ]
              refine wpAnyH_take (i := 10) (v := ?_) (by simp only [List.getElem?_toArray, List.getElem?_cons_succ, List.getElem?_cons_zero]; exact rfl) (by kernel_rfl) (by kernel_rfl) (by kernel_rfl) (by exact fun _ _ _ h => h) (Or.inl ⟨by rfl, ?_⟩) (by assumption) ?_
              rotate_left 1
              · intro w hSw
                try dsimp only at hSw
                go_simp
                try with_reducible rfl
              try simp only [Act.put, List.setIfInBounds_toArray, List.set_cons_zero, List.set_cons_succ]
              refine wpAnyH_take (i := 12) (v := ?_) (by simp only [List.getElem?_toArray, List.getElem?_cons_succ, List.getElem?_cons_zero]; exact rfl) (by kernel_rfl) (by kernel_rfl) (by kernel_rfl) (by exact fun _ _ _ h => h) (Or.inl ⟨by rfl, ?_⟩) (by assumption) ?_
              rotate_left 1
              · intro w hSw
                try dsimp only at hSw
                go_simp
                try with_reducible rfl
              try simp only [Act.put, List.setIfInBounds_toArray, List.set_cons_zero, List.set_cons_succ]
              refine wpAnyH_ready (rs := [2]) (by kernel_rfl) (by simp) ?_
              refine AllReadyH.cons (by simp only [List.getElem?_toArray, List.getElem?_cons_succ, List.getElem?_cons_zero]; exact rfl) (fun K hK => ?_) ?_
              · go_simp
                refine hK.out _ _ ?_ (fun hH55 => ?_)
                · try dsimp only
                  go_keep
                clear hK K hH0
                try simp only [Act.put, List.setIfInBounds_toArray, List.set_cons_zero, List.set_cons_succ]
                refine wpAnyH_ready (rs := [6]) (by kernel_rfl) (by simp) ?_
                refine AllReadyH.cons (by simp only [List.getElem?_toArray, List.getElem?_cons_succ, List.getElem?_cons_zero]; exact rfl) (fun K hK => ?_) ?_
                · refine step_custsG (by rfl) (.tmp 59) (.tmp 62) rfl wr.heap.size 0 k (k + 1) (.slice (some ⟨wr.heap.size, 0, none⟩) 0 0) [] ((custV ks).take (k * 3)) ⟨b0, off0, none⟩ (by simp [Act.eval, Act.put]) (by simp [Act.eval, Act.put]) HE0.out HN1.out HS1.out HO1.out (by omega) (by simp) ?_
                  intro v1 w8 hown1 hgrow1
                  have HB8 : Below wr.heap.size wr w8 := HBE.out.grown hgrow1 (by simp) (owz_block HE0.out)
                  have k8 := (HB8.cell (p := ⟨b0, off0, none⟩) hb0).trans hc1
                  refine hK.out _ _ ?_ (fun hH56 => ?_)
                  · try dsimp only
                    go_keep
                  clear hK K hH55
                  try simp only [Act.put, List.setIfInBounds_toArray, List.set_cons_zero, List.set_cons_succ]
                  refine wpAnyH_ready (rs := [11]) (by kernel_rfl) (by simp) ?_
                  refine AllReadyH.cons (by simp only [List.getElem?_toArray, List.getElem?_cons_succ, List.getElem?_cons_zero]; exact rfl) (fun K hK => ?_) ?_
                  · refine step_custsG (by rfl) (.tmp 63) (.tmp 67) rfl wr.heap.size (0 + k) 0 0 v1 ([] ++ (custV ks).take (k * 3)) [] ⟨b0, off0, none⟩ (by simp [Act.eval, Act.put]) (by simp [Act.eval, Act.put]) hown1 rfl (by intro j u hj; simp at hj) (by intro u hu; simp at hu) (by omega) HB8.size ?_
                    intro v2 w9 hown2 hgrow2
                    have HB9 : Below wr.heap.size wr w9 := HB8.grown hgrow2 HB8.size (owz_block hown1)
                    have k9 := (HB9.cell (p := ⟨b0, off0, none⟩) hb0).trans hc1
                    refine hK.out _ _ ?_ (fun hH57 => ?_)
                    · try dsimp only
                      go_keep
                    clear hK K hH56
                    try simp only [Act.put, List.setIfInBounds_toArray, List.set_cons_zero, List.set_cons_succ]
                    refine wpAnyH_ready (rs := [13]) (by kernel_rfl) (by simp) ?_
                    refine AllReadyH.cons (by simp only [List.getElem?_toArray, List.getElem?_cons_succ, List.getElem?_cons_zero]; exact rfl) (fun K hK => ?_) ?_
                    · go_simp
                      go_wp2_with (obtain ⟨A9, c9, hv9⟩ := owz_form hown2; subst hv9; go_at_call 32; refine (iServe_any _ (outK ks k) HLO2.out A9 c9 (by unfold maxLen; omega) w9 (by have := Rd.ownz hown2; rw [List.append_nil, List.nil_append, HZ.out] at this; exact this) st).mono ?_; rintro e w10 ⟨rfl, b10⟩; have k10 := ((HB9.trans (b10.mono HB9.size)).cell (p := ⟨b0, off0, none⟩) hb0).trans hc1)
                      refine hK.out _ _ ?_ (fun hH58 => ?_)
                      · try dsimp only
                        go_keep
                      clear hK K hH57
                      try simp only [Act.put, List.setIfInBounds_toArray, List.set_cons_zero, List.set_cons_succ]
                      refine wpAnyH_take (i := 14) (v := ?_) (by simp only [List.getElem?_toArray, List.getElem?_cons_succ, List.getElem?_cons_zero]; exact rfl) (by kernel_rfl) (by kernel_rfl) (by kernel_rfl) (by exact fun _ _ _ h => h) (Or.inl ⟨by rfl, ?_⟩) (by assumption) ?_
                      rotate_left 1
                      · intro w hSw
                        try dsimp only at hSw
                        go_simp
                        try with_reducible rfl
                      try simp only [Act.put, List.setIfInBounds_toArray, List.set_cons_zero, List.set_cons_succ]
                      refine wpAnyH_take (i := 15) (v := ?_) (by simp only [List.getElem?_toArray, List.getElem?_cons_succ, List.getElem?_cons_zero]; exact rfl) (by kernel_rfl) (by kernel_rfl) (by kernel_rfl) (by exact fun _ _ _ h => h) (Or.inl ⟨by rfl, ?_⟩) (by assumption) ?_
                      rotate_left 1
                      · intro w hSw
                        try dsimp only at hSw
                        go_simp
                        try with_reducible rfl
                      try simp only [Act.put, List.setIfInBounds_toArray, List.set_cons_zero, List.set_cons_succ]
                      refine wpAnyH_done (by kernel_rfl) ?_ _
                      refine NoPanic.normal ?_
                      have HBA := HB9.trans (b10.mono HB9.size)
                      have HBB := Lib.hid (And.intro (owz_below HO2M.out.1 HBA) (HO2M.out.2.trans (HBA.mono HO2M.out.2.size)))
                      rw [show csvT (outK ks k) st = true by first | exact HT.out k hlt | exact HT.out trivial k hlt]
                      clear HBA b10 k8 k9 k10 HB9 HB8 hown1 hown2 hgrow1 hgrow2
                      try go_wp2
                      go_roundw
                      case rel => exact ⟨k + 1, by omega, by go_num, HBB.out.1, HBB.out.2⟩
                      case measure => simp [intOf]; omega
                    exact AllReadyH.nil
                  exact AllReadyH.nil
                exact AllReadyH.nil
              exact AllReadyH.nil
            · skip
              try go_wp2
              refine wp_region_noPanic ?_
              refine wp_region_held_drew (S := fun w' => w'.cell? ⟨b0, off0, none⟩ = some (.int .i64 x)) (by kernel_rfl) ?_ (fun hH0 => ?_)
              · try dsimp only
                go_keep
              refine wpAnyH_take (i := 0) (v := ?_) (by simp only [List.getElem?_toArray, List.getElem?_cons_succ, List.getElem?_cons_zero]; exact rfl) (by kernel_rfl) (by kernel_rfl) (by kernel_rfl) (by exact fun _ _ _ h => h) (Or.inl ⟨by rfl, ?_⟩) (by assumption) ?_
              rotate_left 1
              · intro w hSw
                try dsimp only at hSw
                go_simp
                try with_reducible rfl
              try simp only [Act.put, List.setIfInBounds_toArray, List.set_cons_zero, List.set_cons_succ]
              refine wpAnyH_take (i := 1) (v := ?_) (by simp only [List.getElem?_toArray, List.getElem?_cons_succ, List.getElem?_cons_zero]; exact rfl) (by kernel_rfl) (by kernel_rfl) (by kernel_rfl) (by exact fun _ _ _ h => h) (Or.inl ⟨by rfl, ?_⟩) (by assumption) ?_
              rotate_left 1
              · intro w hSw
                try dsimp only at hSw
                go_simp
                try with_reducible rfl
              try simp only [Act.put, List.setIfInBounds_toArray, List.set_cons_zero, List.set_cons_succ]
              refine wpAnyH_take (i := 3) (v := ?_) (by simp only [List.getElem?_toArray, List.getElem?_cons_succ, List.getElem?_cons_zero]; exact rfl) (by kernel_rfl) (by kernel_rfl) (by kernel_rfl) (by exact fun _ _ _ h => h) (Or.inl ⟨by rfl, ?_⟩) (by assumption) ?_
              rotate_left 1
              · intro w hSw
                try dsimp only at hSw
                go_simp
                try with_reducible rfl
              try simp only [Act.put, List.setIfInBounds_toArray, List.set_cons_zero, List.set_cons_succ]
              refine wpAnyH_take (i := 4) (v := ?_) (by simp only [List.getElem?_toArray, List.getElem?_cons_succ, List.getElem?_cons_zero]; exact rfl) (by kernel_rfl) (by kernel_rfl) (by kernel_rfl) (by exact fun _ _ _ h => h) (Or.inl ⟨by rfl, ?_⟩) (by assumption) ?_
              rotate_left 1
              · intro w hSw
                try dsimp only at hSw
                go_simp
                try with_reducible rfl
              try simp only [Act.put, List.setIfInBounds_toArray, List.set_cons_zero, List.set_cons_succ]
              refine wpAnyH_take (i := 5) (v := ?_) (by simp only [List.getElem?_toArray, List.getElem?_cons_succ, List.getElem?_cons_zero]; exact rfl) (by kernel_rfl) (by kernel_rfl) (by kernel_rfl) (by exact fun _ _ _ h => h) (Or.inl ⟨by rfl, ?_⟩) (by assumption) ?_
              rotate_left 1
              · intro w hSw
                try dsimp only at hSw
                go_simp
                try with_reducible rfl
              try simp only [Act.put, List.setIfInBounds_toArray, List.set_cons_zero, List.set_cons_succ]
              refine wpAnyH_take (i := 7) (v := ?_) (by simp only [List.getElem?_toArray, List.getElem?_cons_succ, List.getElem?_cons_zero]; exact rfl) (by kernel_rfl) (by kernel_rfl) (by kernel_rfl) (by exact fun _ _ _ h => h) (Or.inl ⟨by rfl, ?_⟩) (by assumption) ?_
              rotate_left 1
              · intro w hSw
                try dsimp only at hSw
                go_simp
                try with_reducible rfl
              try simp only [Act.put, List.setIfInBounds_toArray, List.set_cons_zero, List.set_cons_succ]
              refine wpAnyH_take (i := 8) (v := ?_) (by simp only [List.getElem?_toArray, List.getElem?_cons_succ, List.getElem?_cons_zero]; exact rfl) (by kernel_rfl) (by kernel_rfl) (by kernel_rfl) (by exact fun _ _ _ h => h) (Or.inl ⟨by rfl, ?_⟩) (by assumption) ?_
              rotate_left 1
              · intro w hSw
                try dsimp only at hSw
                go_simp
                try with_reducible rfl
              try simp only [Act.put, List.setIfInBounds_toArray, List.set_cons_zero, List.set_cons_succ]
              refine wpAnyH_take (i := 9) (v := ?_) (by simp only [List.getElem?_toArray, List.getElem?_cons_succ, List.getElem?_cons_zero]; exact rfl) (by kernel_rfl) (by kernel_rfl) (by kernel_rfl) (by exact fun _ _ _ h => h) (Or.inl ⟨by rfl, ?_⟩) (by assumption) ?_
              rotate_left 1
              · intro w hSw
                try dsimp only at hSw
                go_simp
                try with_reducible rfl
              try simp only [Act.put, List.setIfInBounds_toArray, List.set_cons_zero, List.set_cons_succ]
              refine wpAnyH_take (i := 10) (v := ?_) (by simp only [List.getElem?_toArray, List.getElem?_cons_succ, List.getElem?_cons_zero]; exact rfl) (by kernel_rfl) (by kernel_rfl) (by kernel_rfl) (by exact fun _ _ _ h => h) (Or.inl ⟨by rfl, ?_⟩) (by assumption) ?_
              rotate_left 1
              · intro w hSw
                try dsimp only at hSw
                go_simp
                try with_reducible rfl
              try simp only [Act.put, List.setIfInBounds_toArray, List.set_cons_zero, List.set_cons_succ]
              refine wpAnyH_take (i := 12) (v := ?_) (by simp only [List.getElem?_toArray, List.getElem?_cons_succ, List.getElem?_cons_zero]; exact rfl) (by kernel_rfl) (by kernel_rfl) (by kernel_rfl) (by exact fun _ _ _ h => h) (Or.inl ⟨by rfl, ?_⟩) (by assumption) ?_
              rotate_left 1
              · intro w hSw
                try dsimp only at hSw
                go_simp
                try with_reducible rfl
              try simp only [Act.put, List.setIfInBounds_toArray, List.set_cons_zero, List.set_cons_succ]
              refine wpAnyH_ready (rs := [2]) (by kernel_rfl) (by simp) ?_
              refine AllReadyH.cons (by simp only [List.getElem?_toArray, List.getElem?_cons_succ, List.getElem?_cons_zero]; exact rfl) (fun K hK => ?_) ?_
              · go_simp
                refine hK.out _ _ ?_ (fun hH51 => ?_)
                · try dsimp only
                  go_keep
                clear hK K hH0
                try simp only [Act.put, List.setIfInBounds_toArray, List.set_cons_zero, List.set_cons_succ]
                refine wpAnyH_ready (rs := [6]) (by kernel_rfl) (by simp) ?_
                refine AllReadyH.cons (by simp only [List.getElem?_toArray, List.getElem?_cons_succ, List.getElem?_cons_zero]; exact rfl) (fun K hK => ?_) ?_
                · refine step_custsG (by rfl) (.tmp 59) (.tmp 62) rfl wr.heap.size 0 k ck (.slice (some ⟨wr.heap.size, 0, none⟩) 0 0) [] ((custV ks).take (k * 3)) ⟨b0, off0, none⟩ (by simp [Act.eval, Act.put]) (by simp [Act.eval, Act.put]) HE0.out HN1.out HS1.out HO1.out (by omega) (by simp) ?_
                  intro v1 w8 hown1 hgrow1
                  have HB8 : Below wr.heap.size wr w8 := HBE.out.grown hgrow1 (by simp) (owz_block HE0.out)
                  have k8 := (HB8.cell (p := ⟨b0, off0, none⟩) hb0).trans hc1
                  refine hK.out _ _ ?_ (fun hH52 => ?_)
                  · try dsimp only
                    go_keep
                  clear hK K hH51
                  try simp only [Act.put, List.setIfInBounds_toArray, List.set_cons_zero, List.set_cons_succ]
                  refine wpAnyH_ready (rs := [11]) (by kernel_rfl) (by simp) ?_
                  refine AllReadyH.cons (by simp only [List.getElem?_toArray, List.getElem?_cons_succ, List.getElem?_cons_zero]; exact rfl) (fun K hK => ?_) ?_
                  · refine step_custsG (by rfl) (.tmp 63) (.tmp 67) rfl wr.heap.size (0 + k) (n - (k + 1)) (ck - (k + 1)) v1 ([] ++ (custV ks).take (k * 3)) ((custV ks).drop ((k + 1) * 3)) ⟨b0, off0 + (k + 1) * 3, none⟩ (by simp [Act.eval, Act.put]) (by simp [Act.eval, Act.put]) hown1 HN2.out (HS2.out _ HB8) HO2.out (by omega) HB8.size ?_
                    intro v2 w9 hown2 hgrow2
                    have HB9 : Below wr.heap.size wr w9 := HB8.grown hgrow2 HB8.size (owz_block hown1)
                    have k9 := (HB9.cell (p := ⟨b0, off0, none⟩) hb0).trans hc1
                    refine hK.out _ _ ?_ (fun hH53 => ?_)
                    · try dsimp only
                      go_keep
                    clear hK K hH52
                    try simp only [Act.put, List.setIfInBounds_toArray, List.set_cons_zero, List.set_cons_succ]
                    refine wpAnyH_ready (rs := [13]) (by kernel_rfl) (by simp) ?_
                    refine AllReadyH.cons (by simp only [List.getElem?_toArray, List.getElem?_cons_succ, List.getElem?_cons_zero]; exact rfl) (fun K hK => ?_) ?_
                    · go_simp
                      go_wp2_with (obtain ⟨A9, c9, hv9⟩ := owz_form hown2; subst hv9; go_at_call 32; refine (iServe_any _ (outK ks k) HLO2.out A9 c9 (by unfold maxLen; omega) w9 (by have := Rd.ownz hown2; rw [List.nil_append, custV_out] at this; exact this) st).mono ?_; rintro e w10 ⟨rfl, b10⟩; have k10 := ((HB9.trans (b10.mono HB9.size)).cell (p := ⟨b0, off0, none⟩) hb0).trans hc1)
                      refine hK.out _ _ ?_ (fun hH54 => ?_)
                      · try dsimp only
                        go_keep
                      clear hK K hH53
                      try simp only [Act.put, List.setIfInBounds_toArray, List.set_cons_zero, List.set_cons_succ]
                      refine wpAnyH_take (i := 14) (v := ?_) (by simp only [List.getElem?_toArray, List.getElem?_cons_succ, List.getElem?_cons_zero]; exact rfl) (by kernel_rfl) (by kernel_rfl) (by kernel_rfl) (by exact fun _ _ _ h => h) (Or.inl ⟨by rfl, ?_⟩) (by assumption) ?_
                      rotate_left 1
                      · intro w hSw
                        try dsimp only at hSw
                        go_simp
                        try with_reducible rfl
                      try simp only [Act.put, List.setIfInBounds_toArray, List.set_cons_zero, List.set_cons_succ]
                      refine wpAnyH_take (i := 15) (v := ?_) (by simp only [List.getElem?_toArray, List.getElem?_cons_succ, List.getElem?_cons_zero]; exact rfl) (by kernel_rfl) (by kernel_rfl) (by kernel_rfl) (by exact fun _ _ _ h => h) (Or.inl ⟨by rfl, ?_⟩) (by assumption) ?_
                      rotate_left 1
                      · intro w hSw
                        try dsimp only at hSw
                        go_simp
                        try with_reducible rfl
                      try simp only [Act.put, List.setIfInBounds_toArray, List.set_cons_zero, List.set_cons_succ]
                      refine wpAnyH_done (by kernel_rfl) ?_ _
                      refine NoPanic.normal ?_
                      have HBA := HB9.trans (b10.mono HB9.size)
                      have HBB := Lib.hid (And.intro (owz_below HO2M.out.1 HBA) (HO2M.out.2.trans (HBA.mono HO2M.out.2.size)))
                      rw [show csvT (outK ks k) st = true by first | exact HT.out k hlt | exact HT.out trivial k hlt]
                      clear HBA b10 k8 k9 k10 HB9 HB8 hown1 hown2 hgrow1 hgrow2
                      try go_wp2
                      go_roundw
                      case rel => exact ⟨k + 1, by omega, by go_num, HBB.out.1, HBB.out.2⟩
                      case measure => simp [intOf]; omega
                    exact AllReadyH.nil
                  exact AllReadyH.nil
                exact AllReadyH.nil
              exact AllReadyH.nil
          · have hkn : n = k := by omega
            subst hkn
            have cM2 := iServe_any n (mirF ks n) (by rw [mirF_len, HL.out]) AM cM hn1 wr (Rd.ownz hown) (-st)
            rw [HMQ.out] at cM2
            have CM := Lib.hid cM2
            have HB := Lib.hid (HBL.out.trans (hbel0.mono HBL.out.size))
            clear hown hbel0 cM2
            go_wp2_with fail
            refine (CM.out).mono ?_
            rintro e w11 ⟨rfl, b11⟩
            have HB11 := Lib.hid (HB.out.trans (b11.mono HB.out.size))
            clear b11
            go_wp2
            go_ret
            exact ⟨rfl, b1.trans (HB11.out.mono b1.size)⟩
  · have hn' : 1048576 < cs.length := by omega
    go_enter Try.func8, Try.ntmps8
    go_wp2
    go_ret
    exact ⟨rfl, Below.refl _ _⟩

set_option maxRecDepth 100000 in
theorem lifted (os : Os) (started : os.Started) (H : Type) (enc : TypeId × Value → H) :
    ReturnsInHanded {} Try.checked os 8 .any (Rows.fnCanServeLessSpec.pre6 enc Try.prog Try.f8 Rows.fnCanServeLessRow.domain false) (Rows.fnCanServeLessSpec.post enc Try.prog Try.f8 false true false false) := by
  refine returnsInHanded_of_change (C := Try.checked) ownNone started (by kernel_rfl) Try.func8
    (ChangeSpec.witness6 (enc := enc) (C := Try.checked) false ⟨#[], #[.slice none 0 0], []⟩ 8 (by kernel_rfl) (by kernel_rfl) (by kernel_rfl) (by kernel_rfl)) ?_
  intro W base args ds gs before hval0 hW hcnd _
  have hval : ∀ (j : Nat) t v, Try.f8.params[j]? = some t → args[j]? = some v → Value.okWide Try.prog W .any base t v := hval0
  have hW' := hW
  obtain ⟨p, q, hA0, hV, rfl, _, _⟩ := hW
  have hA : DataW.TrodAll enc Try.prog W 0 (fun _ => true) true Try.f8.params.toList args.toList ds p := hA0
  rw [Try.params8] at hA hval
  obtain ⟨v0, vs0, d0, ds0, p0, q0, hargs, rfl, rfl, h0, r0⟩ := trodAll_cons hA
  obtain ⟨rfl, rfl, rfl⟩ := trodAll_nil r0
  obtain rfl : args = #[v0] := by cases args; simp_all
  obtain ⟨rfl, rfl⟩ := trodVars_none hV
  obtain ⟨Acs, ccs, cs, rfl, hrcs, hlcs, hqcs⟩ := open_rd Try.underlying22 Try.underlying5 cellsByte (hval 0 22 v0 rfl rfl) h0
  have hbcs := byte_bounds hqcs
  clear hA0 hval0
  refine (walk W cs Acs ccs hrcs hbcs hlcs).mono fun e W' ⟨he, hg⟩ => ?_
  subst he
  exact ⟨_, rfl, law_post laidOut (by kernel_rfl) rfl rfl rfl rfl rfl Try.underlying4 hW' hg⟩

/-- The statement. -/
theorem proved : Rows.FnCanServeLessSaid :=
  OpenClaim.holds_of_wide 8 Try.f8 rfl rfl rfl rfl rfl rfl rfl ⟨rfl, rfl, rfl, rfl, rfl⟩ rfl rfl rfl rfl rfl (by kernel_rfl) Try.func8 (by kernel_rfl)
    (of_decide_eq_true (by kernel_rfl)) (by unfold Func.isWrapper; first | (rw [if_pos (by decide +kernel)]; kernel_rfl) | (rw [if_neg (by decide +kernel)]; exact ⟨rfl, rfl⟩))
    (fun os started H enc _ => lifted os started H enc)
#print axioms proved
end fnCanServeLess

end Go.Proofs.Ytjjddamblijffaa

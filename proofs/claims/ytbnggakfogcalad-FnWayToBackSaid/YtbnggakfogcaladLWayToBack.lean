/- The law FnWayToBack: for every code it answers true, and the code reads as it read before. No condition. -/
import Derived.Test.YtbnggakfogcaladLawM
import Derived.Test.YtbnggakfogcaladHelps
import Derived.Test.YtbnggakfogcaladPDraws
import Derived.Test.YtbnggakfogcaladLaw
namespace Go.Proofs.Ytbnggakfogcalad
open Go.RowKit
set_option linter.unusedVariables false
set_option linter.unusedSimpArgs false

namespace fnWayToBack
open Go.ChangeShapes Go.WideShapes Go.ChangeAt Go.RowKit
set_option maxRecDepth 100000 in
set_option maxHeartbeats 800000 in
set_option maxRecDepth 100000 in
set_option maxRecDepth 100000 in
set_option maxHeartbeats 8000000 in
theorem walk (w : World) (cs : List Int) (Acs : Option Addr) (ccs : Nat) (hrcs : Rd w w.heap.size Acs (bytes cs)) (hbcs : ∀ z ∈ cs, 0 ≤ z ∧ z ≤ 255) (hlcs : cs.length ≤ ccs ∧ ccs ≤ maxLen) :
    Calls Try.prog 9 #[.slice Acs cs.length ccs] w fun e w' => e = .returned (.bool true) ∧ Below w.heap.size w w' := by
  by_cases hn : cs.length ≤ 1048576
  · go_enter Try.func9, Try.ntmps9
    go_wp2_with fail
    refine (dWayTo _ _ _ _ hrcs hbcs hlcs.1 hlcs.2).mono ?_
    rintro e w1 ⟨pp, Ap, cp, load, f, t, rfl, ⟨hpl, hpc, hcm, hg⟩, hbload, hbf, hbt, b1⟩
    have hn1 : pp.length ≤ 1048576 := by omega
    go_wp2_with fail
    refine (iWay_ans pp Ap cp w1 load f t hg).mono ?_
    rintro e w2 ⟨ts, hts, htl, A2, c2, rfl, o2, b2⟩
    have hg2 := (hg.below b2).more b2.size
    go_wp2_with fail
    refine (sWay_ans pp Ap cp w2 load f t hg2 hn1).mono ?_
    rintro e w3 ⟨us, hus, hul, A3, c3, rfl, o3, b3⟩
    obtain rfl : ts = us := WayRel.uniq hts hus
    have HTS := Lib.hid hts
    have hg3 := (hg2.below b3).more b3.size
    have r23 := ((Rd.own o2).below b3).more b3.size
    have o23 := own_below o2 b3
    have bl3 : Below w.heap.size w w3 := (b1.trans (b2.mono b1.size)).trans (b3.mono (by have := b1.size; have := b2.size; omega))
    go_wp2_with fail
    refine (equalInts_same ts A2 A3 c2 c3 w3 w3.heap.size r23 (Rd.own o3) htl).mono ?_
    rintro e w' ⟨rfl, n4, rfl⟩
    have hg4 : RdG (w3.drewN n4) (w3.drewN n4).heap.size Ap pp := hg3.drewN n4
    have bl4 : Below w.heap.size w (w3.drewN n4) := below_drewN bl3 n4
    have r24 : Rd (w3.drewN n4) (w3.drewN n4).heap.size A2 (ints ts) := r23
    have o24 : (w3.drewN n4).ownsRow w1.heap.size 3 1 (.slice A2 ts.length c2) ts.length (ints ts) := o23
    clear hus hul hts o2 o3 b1 b2 b3 hg hg2 r23 o23
    by_cases h0 : ts.length = 0
    · have hz0 : ((ts.length : Int) == 0) = true := beq_iff_eq.2 (by omega)
      clear h0
      go_wp2_with fail
      refine (sWay_ans pp Ap cp (w3.drewN n4) load f t hg4 hn1).mono ?_
      rintro e w5 ⟨us, hus, hul, A5, c5, rfl, o5, b5⟩
      obtain rfl : ts = us := WayRel.uniq HTS.out hus
      go_wp2_with fail
      refine (equalInts_same ts A2 A5 c2 c5 w5 w5.heap.size ((r24.below b5).more b5.size) (Rd.own o5) htl).mono ?_
      rintro e w' ⟨rfl, n6, rfl⟩
      have bl5 := below_drewN (bl4.trans (b5.mono bl4.size)) n6
      clear hus o5 b5
      go_wp2
      go_ret
      exact ⟨rfl, bl5⟩
    · have hz0 : ((ts.length : Int) == 0) = false := beq_eq_false_iff_ne.2 (by omega)
      obtain ⟨a, b, rfl, rfl, ha, hb, hv⟩ := way_some HTS.out (by omega)
      have HV := Lib.hid hv
      have HL : Hid (RchL pp a b load) := Lib.hid ((way_pos HTS.out hv ha hb).1 (by omega))
      have hpts : 0 < ts.length := by omega
      clear r24 o24 hv hg4 bl4
      go_wp2
      refine wp_region_any (by kernel_rfl) ?_
      try (change wpAny _ _ _ _ _ _ _ (World.drew _))
      refine wpAny_take (i := 0) (v := ?_) (by simp only [List.getElem?_toArray, List.getElem?_cons_succ, List.getElem?_cons_zero]; exact rfl) (by kernel_rfl) (by kernel_rfl) (by kernel_rfl) (by exact fun _ _ _ h => h) (Or.inl ⟨by rfl, ?_⟩) ?_
      rotate_left 1
      · intro w
        go_simp
        try with_reducible rfl
      try simp only [Act.put, List.setIfInBounds_toArray, List.set_cons_zero, List.set_cons_succ]
      refine wpAny_take (i := 1) (v := ?_) (by simp only [List.getElem?_toArray, List.getElem?_cons_succ, List.getElem?_cons_zero]; exact rfl) (by kernel_rfl) (by kernel_rfl) (by kernel_rfl) (by exact fun _ _ _ h => h) (Or.inl ⟨by rfl, ?_⟩) ?_
      rotate_left 1
      · intro w
        go_simp
        try with_reducible rfl
      try simp only [Act.put, List.setIfInBounds_toArray, List.set_cons_zero, List.set_cons_succ]
      refine wpAny_take (i := 2) (v := ?_) (by simp only [List.getElem?_toArray, List.getElem?_cons_succ, List.getElem?_cons_zero]; exact rfl) (by kernel_rfl) (by kernel_rfl) (by kernel_rfl) (by exact fun _ _ _ h => h) (Or.inl ⟨by rfl, ?_⟩) ?_
      rotate_left 1
      · intro w
        go_simp
        try with_reducible rfl
      try simp only [Act.put, List.setIfInBounds_toArray, List.set_cons_zero, List.set_cons_succ]
      refine wpAny_take (i := 3) (v := ?_) (by simp only [List.getElem?_toArray, List.getElem?_cons_succ, List.getElem?_cons_zero]; exact rfl) (by kernel_rfl) (by kernel_rfl) (by kernel_rfl) (by exact fun _ _ _ h => h) (Or.inl ⟨by rfl, ?_⟩) ?_
      rotate_left 1
      · intro w
        go_simp
        try with_reducible rfl
      try simp only [Act.put, List.setIfInBounds_toArray, List.set_cons_zero, List.set_cons_succ]
      refine wpAny_ready (rs := [4]) (by kernel_rfl) (by simp) ?_
      refine AllReady.cons (by simp only [List.getElem?_toArray, List.getElem?_cons_succ, List.getElem?_cons_zero]; exact rfl) (fun K hK => ?_) ?_
      · go_simp
        go_wp2_with ((first
          | (go_at_call 37; refine (iWay_ans pp _ cp _ load b a (hg3.drewN _)).mono ?_; rintro e w5 ⟨qs, hqs, hql, A5, c5, rfl, o5, b5⟩; have hpos := way_symm HTS.out hqs HV.out ha hb hpts; have hg5 := ((hg3.drewN (n4 + 1)).below b5).more b5.size; have bl5 := (below_drewN bl3 (n4 + 1)).trans (b5.mono bl3.size); clear hqs o5 b5; generalize qs.length = m5 at *; have hposI : decide ((0 : Int) < (m5 : Int)) = true := decide_eq_true (by omega))
          | (go_at_call 34; refine (iRisk_ans pp _ cp _ load _ ?_).mono ?_; first
              | exact hgg6
              | exact hg5
             first
              | (have hgg7 := hgg6; intro e w7 h7; obtain ⟨rs1, A7, c7, hr7, rfl, o7, b7⟩ := risk_out h7 HV.out ha; clear h7; obtain ⟨g7, rfl, hg7, hgl7, _, _⟩ := own_some o7 (by omega); have hcell7 := own_cell o7 (ints_at' (zs := rs1) (k := b) (by rw [hr7.len]; exact hb)); rw [← risk_sym HV.out hr7 HR6.out HL.out, ← HZ.out] at hcell7; have hcell' := (b7.cell (p := ⟨g6, a, none⟩) (by exact hgl6)).trans hcell; clear hr7 o7; have bl7 := bl6.trans (b7.mono bl6.size); clear hcell hgg6 hgg7)
              | (intro e w6 h6; obtain ⟨rs2, A6, c6, hr6, rfl, o6, b6⟩ := risk_out h6 HV.out hb; clear h6; obtain ⟨g6, rfl, hg6, hgl6, _, _⟩ := own_some o6 (by omega); have hcell := own_cell o6 (ints_at' (zs := rs2) (k := a) (by rw [hr6.len]; exact ha)); have HR6 := Lib.hid hr6; clear hr6 o6; have hgg6 := (hg5.below b6).more b6.size; have bl6 := bl5.trans (b6.mono bl5.size); obtain ⟨z, hz⟩ : ∃ z, z = at_ rs2 a := ⟨_, rfl⟩; rw [← hz] at hcell; have HZ := Lib.hid hz; clear hz))))
        try (refine hK _ _ ?_; clear hK K)
        refine wpAny_take (i := 5) (v := ?_) (by simp only [List.getElem?_toArray, List.getElem?_cons_succ, List.getElem?_cons_zero]; exact rfl) (by kernel_rfl) (by kernel_rfl) (by kernel_rfl) (by exact fun _ _ _ h => h) (Or.inl ⟨by rfl, ?_⟩) ?_
        rotate_left 1
        · intro w
          go_simp
          try with_reducible rfl
        try simp only [Act.put, List.setIfInBounds_toArray, List.set_cons_zero, List.set_cons_succ]
        refine wpAny_take (i := 6) (v := ?_) (by simp only [List.getElem?_toArray, List.getElem?_cons_succ, List.getElem?_cons_zero]; exact rfl) (by kernel_rfl) (by kernel_rfl) (by kernel_rfl) (by exact fun _ _ _ h => h) (Or.inl ⟨by rfl, ?_⟩) ?_
        rotate_left 1
        · intro w
          go_simp
          try with_reducible rfl
        try simp only [Act.put, List.setIfInBounds_toArray, List.set_cons_zero, List.set_cons_succ]
        refine wpAny_take (i := 7) (v := ?_) (by simp only [List.getElem?_toArray, List.getElem?_cons_succ, List.getElem?_cons_zero]; exact rfl) (by kernel_rfl) (by kernel_rfl) (by kernel_rfl) (by exact fun _ _ _ h => h) (Or.inl ⟨by rfl, ?_⟩) ?_
        rotate_left 1
        · intro w
          go_simp
          try with_reducible rfl
        try simp only [Act.put, List.setIfInBounds_toArray, List.set_cons_zero, List.set_cons_succ]
        refine wpAny_take (i := 8) (v := ?_) (by simp only [List.getElem?_toArray, List.getElem?_cons_succ, List.getElem?_cons_zero]; exact rfl) (by kernel_rfl) (by kernel_rfl) (by kernel_rfl) (by exact fun _ _ _ h => h) (Or.inl ⟨by rfl, ?_⟩) ?_
        rotate_left 1
        · intro w
          go_simp
          try with_reducible rfl
        try simp only [Act.put, List.setIfInBounds_toArray, List.set_cons_zero, List.set_cons_succ]
        refine wpAny_take (i := 9) (v := ?_) (by simp only [List.getElem?_toArray, List.getElem?_cons_succ, List.getElem?_cons_zero]; exact rfl) (by kernel_rfl) (by kernel_rfl) (by kernel_rfl) (by exact fun _ _ _ h => h) (Or.inl ⟨by rfl, ?_⟩) ?_
        rotate_left 1
        · intro w
          go_simp
          try with_reducible rfl
        try simp only [Act.put, List.setIfInBounds_toArray, List.set_cons_zero, List.set_cons_succ]
        refine wpAny_take (i := 10) (v := ?_) (by simp only [List.getElem?_toArray, List.getElem?_cons_succ, List.getElem?_cons_zero]; exact rfl) (by kernel_rfl) (by kernel_rfl) (by kernel_rfl) (by exact fun _ _ _ h => h) (Or.inl ⟨by rfl, ?_⟩) ?_
        rotate_left 1
        · intro w
          go_simp
          try with_reducible rfl
        try simp only [Act.put, List.setIfInBounds_toArray, List.set_cons_zero, List.set_cons_succ]
        refine wpAny_take (i := 12) (v := ?_) (by simp only [List.getElem?_toArray, List.getElem?_cons_succ, List.getElem?_cons_zero]; exact rfl) (by kernel_rfl) (by kernel_rfl) (by kernel_rfl) (by exact fun _ _ _ h => h) (Or.inl ⟨by rfl, ?_⟩) ?_
        rotate_left 1
        · intro w
          go_simp
          try with_reducible rfl
        try simp only [Act.put, List.setIfInBounds_toArray, List.set_cons_zero, List.set_cons_succ]
        refine wpAny_take (i := 15) (v := ?_) (by simp only [List.getElem?_toArray, List.getElem?_cons_succ, List.getElem?_cons_zero]; exact rfl) (by kernel_rfl) (by kernel_rfl) (by kernel_rfl) (by exact fun _ _ _ h => h) (Or.inl ⟨by rfl, ?_⟩) ?_
        rotate_left 1
        · intro w
          go_simp
          try with_reducible rfl
        try simp only [Act.put, List.setIfInBounds_toArray, List.set_cons_zero, List.set_cons_succ]
        refine wpAny_take (i := 16) (v := ?_) (by simp only [List.getElem?_toArray, List.getElem?_cons_succ, List.getElem?_cons_zero]; exact rfl) (by kernel_rfl) (by kernel_rfl) (by kernel_rfl) (by exact fun _ _ _ h => h) (Or.inl ⟨by rfl, ?_⟩) ?_
        rotate_left 1
        · intro w
          go_simp
          try with_reducible rfl
        try simp only [Act.put, List.setIfInBounds_toArray, List.set_cons_zero, List.set_cons_succ]
        refine wpAny_take (i := 17) (v := ?_) (by simp only [List.getElem?_toArray, List.getElem?_cons_succ, List.getElem?_cons_zero]; exact rfl) (by kernel_rfl) (by kernel_rfl) (by kernel_rfl) (by exact fun _ _ _ h => h) (Or.inl ⟨by rfl, ?_⟩) ?_
        rotate_left 1
        · intro w
          go_simp
          try with_reducible rfl
        try simp only [Act.put, List.setIfInBounds_toArray, List.set_cons_zero, List.set_cons_succ]
        refine wpAny_take (i := 19) (v := ?_) (by simp only [List.getElem?_toArray, List.getElem?_cons_succ, List.getElem?_cons_zero]; exact rfl) (by kernel_rfl) (by kernel_rfl) (by kernel_rfl) (by exact fun _ _ _ h => h) (Or.inl ⟨by rfl, ?_⟩) ?_
        rotate_left 1
        · intro w
          go_simp
          try with_reducible rfl
        try simp only [Act.put, List.setIfInBounds_toArray, List.set_cons_zero, List.set_cons_succ]
        refine wpAny_ready (rs := [11]) (by kernel_rfl) (by simp) ?_
        refine AllReady.cons (by simp only [List.getElem?_toArray, List.getElem?_cons_succ, List.getElem?_cons_zero]; exact rfl) (fun K hK => ?_) ?_
        · go_simp
          go_wp2_with ((first
            | (go_at_call 37; refine (iWay_ans pp _ cp _ load b a (hg3.drewN _)).mono ?_; rintro e w5 ⟨qs, hqs, hql, A5, c5, rfl, o5, b5⟩; have hpos := way_symm HTS.out hqs HV.out ha hb hpts; have hg5 := ((hg3.drewN (n4 + 1)).below b5).more b5.size; have bl5 := (below_drewN bl3 (n4 + 1)).trans (b5.mono bl3.size); clear hqs o5 b5; generalize qs.length = m5 at *; have hposI : decide ((0 : Int) < (m5 : Int)) = true := decide_eq_true (by omega))
            | (go_at_call 34; refine (iRisk_ans pp _ cp _ load _ ?_).mono ?_; first
                | exact hgg6
                | exact hg5
               first
                | (have hgg7 := hgg6; intro e w7 h7; obtain ⟨rs1, A7, c7, hr7, rfl, o7, b7⟩ := risk_out h7 HV.out ha; clear h7; obtain ⟨g7, rfl, hg7, hgl7, _, _⟩ := own_some o7 (by omega); have hcell7 := own_cell o7 (ints_at' (zs := rs1) (k := b) (by rw [hr7.len]; exact hb)); rw [← risk_sym HV.out hr7 HR6.out HL.out, ← HZ.out] at hcell7; have hcell' := (b7.cell (p := ⟨g6, a, none⟩) (by exact hgl6)).trans hcell; clear hr7 o7; have bl7 := bl6.trans (b7.mono bl6.size); clear hcell hgg6 hgg7)
                | (intro e w6 h6; obtain ⟨rs2, A6, c6, hr6, rfl, o6, b6⟩ := risk_out h6 HV.out hb; clear h6; obtain ⟨g6, rfl, hg6, hgl6, _, _⟩ := own_some o6 (by omega); have hcell := own_cell o6 (ints_at' (zs := rs2) (k := a) (by rw [hr6.len]; exact ha)); have HR6 := Lib.hid hr6; clear hr6 o6; have hgg6 := (hg5.below b6).more b6.size; have bl6 := bl5.trans (b6.mono bl5.size); obtain ⟨z, hz⟩ : ∃ z, z = at_ rs2 a := ⟨_, rfl⟩; rw [← hz] at hcell; have HZ := Lib.hid hz; clear hz))))
          try (refine hK _ _ ?_; clear hK K)
          refine wpAny_take (i := 13) (v := ?_) (by simp only [List.getElem?_toArray, List.getElem?_cons_succ, List.getElem?_cons_zero]; exact rfl) (by kernel_rfl) (by kernel_rfl) (by kernel_rfl) (by exact fun _ _ _ h => h) (Or.inl ⟨by rfl, ?_⟩) ?_
          rotate_left 1
          · intro w
            go_simp
            try with_reducible rfl
          try simp only [Act.put, List.setIfInBounds_toArray, List.set_cons_zero, List.set_cons_succ]
          refine wpAny_ready (rs := [14, 18]) (by kernel_rfl) (by simp) ?_
          refine AllReady.cons (by simp only [List.getElem?_toArray, List.getElem?_cons_succ, List.getElem?_cons_zero]; exact rfl) (fun K hK => ?_) ?_
          · go_simp
            try (refine hK _ _ ?_; clear hK K)
            refine wpAny_ready (rs := [18]) (by kernel_rfl) (by simp) ?_
            refine AllReady.cons (by simp only [List.getElem?_toArray, List.getElem?_cons_succ, List.getElem?_cons_zero]; exact rfl) (fun K hK => ?_) ?_
            · go_simp
              go_wp2_with ((first
                | (go_at_call 37; refine (iWay_ans pp _ cp _ load b a (hg3.drewN _)).mono ?_; rintro e w5 ⟨qs, hqs, hql, A5, c5, rfl, o5, b5⟩; have hpos := way_symm HTS.out hqs HV.out ha hb hpts; have hg5 := ((hg3.drewN (n4 + 1)).below b5).more b5.size; have bl5 := (below_drewN bl3 (n4 + 1)).trans (b5.mono bl3.size); clear hqs o5 b5; generalize qs.length = m5 at *; have hposI : decide ((0 : Int) < (m5 : Int)) = true := decide_eq_true (by omega))
                | (go_at_call 34; refine (iRisk_ans pp _ cp _ load _ ?_).mono ?_; first
                    | exact hgg6
                    | exact hg5
                   first
                    | (have hgg7 := hgg6; intro e w7 h7; obtain ⟨rs1, A7, c7, hr7, rfl, o7, b7⟩ := risk_out h7 HV.out ha; clear h7; obtain ⟨g7, rfl, hg7, hgl7, _, _⟩ := own_some o7 (by omega); have hcell7 := own_cell o7 (ints_at' (zs := rs1) (k := b) (by rw [hr7.len]; exact hb)); rw [← risk_sym HV.out hr7 HR6.out HL.out, ← HZ.out] at hcell7; have hcell' := (b7.cell (p := ⟨g6, a, none⟩) (by exact hgl6)).trans hcell; clear hr7 o7; have bl7 := bl6.trans (b7.mono bl6.size); clear hcell hgg6 hgg7)
                    | (intro e w6 h6; obtain ⟨rs2, A6, c6, hr6, rfl, o6, b6⟩ := risk_out h6 HV.out hb; clear h6; obtain ⟨g6, rfl, hg6, hgl6, _, _⟩ := own_some o6 (by omega); have hcell := own_cell o6 (ints_at' (zs := rs2) (k := a) (by rw [hr6.len]; exact ha)); have HR6 := Lib.hid hr6; clear hr6 o6; have hgg6 := (hg5.below b6).more b6.size; have bl6 := bl5.trans (b6.mono bl5.size); obtain ⟨z, hz⟩ : ∃ z, z = at_ rs2 a := ⟨_, rfl⟩; rw [← hz] at hcell; have HZ := Lib.hid hz; clear hz))))
              try (refine hK _ _ ?_; clear hK K)
              refine wpAny_take (i := 20) (v := ?_) (by simp only [List.getElem?_toArray, List.getElem?_cons_succ, List.getElem?_cons_zero]; exact rfl) (by kernel_rfl) (by kernel_rfl) (by kernel_rfl) (by exact fun _ _ _ h => h) (Or.inl ⟨by rfl, ?_⟩) ?_
              rotate_left 1
              · intro w
                go_simp
                try with_reducible rfl
              try simp only [Act.put, List.setIfInBounds_toArray, List.set_cons_zero, List.set_cons_succ]
              refine wpAny_ready (rs := [21]) (by kernel_rfl) (by simp) ?_
              refine AllReady.cons (by simp only [List.getElem?_toArray, List.getElem?_cons_succ, List.getElem?_cons_zero]; exact rfl) (fun K hK => ?_) ?_
              · go_simp
                try (refine hK _ _ ?_; clear hK K)
                refine wpAny_take (i := 22) (v := ?_) (by simp only [List.getElem?_toArray, List.getElem?_cons_succ, List.getElem?_cons_zero]; exact rfl) (by kernel_rfl) (by kernel_rfl) (by kernel_rfl) (by exact fun _ _ _ h => h) (Or.inl ⟨by rfl, ?_⟩) ?_
                rotate_left 1
                · intro w
                  go_simp
                  try with_reducible rfl
                try simp only [Act.put, List.setIfInBounds_toArray, List.set_cons_zero, List.set_cons_succ]
                refine wpAny_take (i := 23) (v := ?_) (by simp only [List.getElem?_toArray, List.getElem?_cons_succ, List.getElem?_cons_zero]; exact rfl) (by kernel_rfl) (by kernel_rfl) (by kernel_rfl) (by exact fun _ _ _ h => h) (Or.inl ⟨by rfl, ?_⟩) ?_
                rotate_left 1
                · intro w
                  go_simp
                  try with_reducible rfl
                try simp only [Act.put, List.setIfInBounds_toArray, List.set_cons_zero, List.set_cons_succ]
                refine wpAny_take (i := 24) (v := ?_) (by simp only [List.getElem?_toArray, List.getElem?_cons_succ, List.getElem?_cons_zero]; exact rfl) (by kernel_rfl) (by kernel_rfl) (by kernel_rfl) (by exact fun _ _ _ h => h) (Or.inl ⟨by rfl, ?_⟩) ?_
                rotate_left 1
                · intro w
                  go_simp
                  try with_reducible rfl
                try simp only [Act.put, List.setIfInBounds_toArray, List.set_cons_zero, List.set_cons_succ]
                refine wpAny_done (by kernel_rfl) ?_ _
                go_wp2
                go_ret
                exact ⟨rfl, bl7⟩
              exact AllReady.nil
            exact AllReady.nil
          refine AllReady.cons (by simp only [List.getElem?_toArray, List.getElem?_cons_succ, List.getElem?_cons_zero]; exact rfl) (fun K hK => ?_) ?_
          · go_simp
            go_wp2_with ((first
              | (go_at_call 37; refine (iWay_ans pp _ cp _ load b a (hg3.drewN _)).mono ?_; rintro e w5 ⟨qs, hqs, hql, A5, c5, rfl, o5, b5⟩; have hpos := way_symm HTS.out hqs HV.out ha hb hpts; have hg5 := ((hg3.drewN (n4 + 1)).below b5).more b5.size; have bl5 := (below_drewN bl3 (n4 + 1)).trans (b5.mono bl3.size); clear hqs o5 b5; generalize qs.length = m5 at *; have hposI : decide ((0 : Int) < (m5 : Int)) = true := decide_eq_true (by omega))
              | (go_at_call 34; refine (iRisk_ans pp _ cp _ load _ ?_).mono ?_; first
                  | exact hgg6
                  | exact hg5
                 first
                  | (have hgg7 := hgg6; intro e w7 h7; obtain ⟨rs1, A7, c7, hr7, rfl, o7, b7⟩ := risk_out h7 HV.out ha; clear h7; obtain ⟨g7, rfl, hg7, hgl7, _, _⟩ := own_some o7 (by omega); have hcell7 := own_cell o7 (ints_at' (zs := rs1) (k := b) (by rw [hr7.len]; exact hb)); rw [← risk_sym HV.out hr7 HR6.out HL.out, ← HZ.out] at hcell7; have hcell' := (b7.cell (p := ⟨g6, a, none⟩) (by exact hgl6)).trans hcell; clear hr7 o7; have bl7 := bl6.trans (b7.mono bl6.size); clear hcell hgg6 hgg7)
                  | (intro e w6 h6; obtain ⟨rs2, A6, c6, hr6, rfl, o6, b6⟩ := risk_out h6 HV.out hb; clear h6; obtain ⟨g6, rfl, hg6, hgl6, _, _⟩ := own_some o6 (by omega); have hcell := own_cell o6 (ints_at' (zs := rs2) (k := a) (by rw [hr6.len]; exact ha)); have HR6 := Lib.hid hr6; clear hr6 o6; have hgg6 := (hg5.below b6).more b6.size; have bl6 := bl5.trans (b6.mono bl5.size); obtain ⟨z, hz⟩ : ∃ z, z = at_ rs2 a := ⟨_, rfl⟩; rw [← hz] at hcell; have HZ := Lib.hid hz; clear hz))))
            try (refine hK _ _ ?_; clear hK K)
            refine wpAny_take (i := 20) (v := ?_) (by simp only [List.getElem?_toArray, List.getElem?_cons_succ, List.getElem?_cons_zero]; exact rfl) (by kernel_rfl) (by kernel_rfl) (by kernel_rfl) (by exact fun _ _ _ h => h) (Or.inl ⟨by rfl, ?_⟩) ?_
            rotate_left 1
            · intro w
              go_simp
              try with_reducible rfl
            try simp only [Act.put, List.setIfInBounds_toArray, List.set_cons_zero, List.set_cons_succ]
            refine wpAny_ready (rs := [14, 21]) (by kernel_rfl) (by simp) ?_
            refine AllReady.cons (by simp only [List.getElem?_toArray, List.getElem?_cons_succ, List.getElem?_cons_zero]; exact rfl) (fun K hK => ?_) ?_
            · go_simp
              try (refine hK _ _ ?_; clear hK K)
              refine wpAny_ready (rs := [21]) (by kernel_rfl) (by simp) ?_
              refine AllReady.cons (by simp only [List.getElem?_toArray, List.getElem?_cons_succ, List.getElem?_cons_zero]; exact rfl) (fun K hK => ?_) ?_
              · go_simp
                try (refine hK _ _ ?_; clear hK K)
                refine wpAny_take (i := 22) (v := ?_) (by simp only [List.getElem?_toArray, List.getElem?_cons_succ, List.getElem?_cons_zero]; exact rfl) (by kernel_rfl) (by kernel_rfl) (by kernel_rfl) (by exact fun _ _ _ h => h) (Or.inl ⟨by rfl, ?_⟩) ?_
                rotate_left 1
                · intro w
                  go_simp
                  try with_reducible rfl
                try simp only [Act.put, List.setIfInBounds_toArray, List.set_cons_zero, List.set_cons_succ]
                refine wpAny_take (i := 23) (v := ?_) (by simp only [List.getElem?_toArray, List.getElem?_cons_succ, List.getElem?_cons_zero]; exact rfl) (by kernel_rfl) (by kernel_rfl) (by kernel_rfl) (by exact fun _ _ _ h => h) (Or.inl ⟨by rfl, ?_⟩) ?_
                rotate_left 1
                · intro w
                  go_simp
                  try with_reducible rfl
                try simp only [Act.put, List.setIfInBounds_toArray, List.set_cons_zero, List.set_cons_succ]
                refine wpAny_take (i := 24) (v := ?_) (by simp only [List.getElem?_toArray, List.getElem?_cons_succ, List.getElem?_cons_zero]; exact rfl) (by kernel_rfl) (by kernel_rfl) (by kernel_rfl) (by exact fun _ _ _ h => h) (Or.inl ⟨by rfl, ?_⟩) ?_
                rotate_left 1
                · intro w
                  go_simp
                  try with_reducible rfl
                try simp only [Act.put, List.setIfInBounds_toArray, List.set_cons_zero, List.set_cons_succ]
                refine wpAny_done (by kernel_rfl) ?_ _
                go_wp2
                go_ret
                exact ⟨rfl, bl7⟩
              exact AllReady.nil
            refine AllReady.cons (by simp only [List.getElem?_toArray, List.getElem?_cons_succ, List.getElem?_cons_zero]; exact rfl) (fun K hK => ?_) ?_
            · go_simp
              try (refine hK _ _ ?_; clear hK K)
              refine wpAny_ready (rs := [14]) (by kernel_rfl) (by simp) ?_
              refine AllReady.cons (by simp only [List.getElem?_toArray, List.getElem?_cons_succ, List.getElem?_cons_zero]; exact rfl) (fun K hK => ?_) ?_
              · go_simp
                try (refine hK _ _ ?_; clear hK K)
                refine wpAny_take (i := 22) (v := ?_) (by simp only [List.getElem?_toArray, List.getElem?_cons_succ, List.getElem?_cons_zero]; exact rfl) (by kernel_rfl) (by kernel_rfl) (by kernel_rfl) (by exact fun _ _ _ h => h) (Or.inl ⟨by rfl, ?_⟩) ?_
                rotate_left 1
                · intro w
                  go_simp
                  try with_reducible rfl
                try simp only [Act.put, List.setIfInBounds_toArray, List.set_cons_zero, List.set_cons_succ]
                refine wpAny_take (i := 23) (v := ?_) (by simp only [List.getElem?_toArray, List.getElem?_cons_succ, List.getElem?_cons_zero]; exact rfl) (by kernel_rfl) (by kernel_rfl) (by kernel_rfl) (by exact fun _ _ _ h => h) (Or.inl ⟨by rfl, ?_⟩) ?_
                rotate_left 1
                · intro w
                  go_simp
                  try with_reducible rfl
                try simp only [Act.put, List.setIfInBounds_toArray, List.set_cons_zero, List.set_cons_succ]
                refine wpAny_take (i := 24) (v := ?_) (by simp only [List.getElem?_toArray, List.getElem?_cons_succ, List.getElem?_cons_zero]; exact rfl) (by kernel_rfl) (by kernel_rfl) (by kernel_rfl) (by exact fun _ _ _ h => h) (Or.inl ⟨by rfl, ?_⟩) ?_
                rotate_left 1
                · intro w
                  go_simp
                  try with_reducible rfl
                try simp only [Act.put, List.setIfInBounds_toArray, List.set_cons_zero, List.set_cons_succ]
                refine wpAny_done (by kernel_rfl) ?_ _
                go_wp2
                go_ret
                exact ⟨rfl, bl7⟩
              exact AllReady.nil
            exact AllReady.nil
          exact AllReady.nil
        exact AllReady.nil
      exact AllReady.nil
  · have hn' : 1048576 < cs.length := by omega
    go_enter Try.func9, Try.ntmps9
    go_wp2
    go_ret
    exact ⟨rfl, Below.refl _ _⟩

set_option maxRecDepth 100000 in
theorem lifted (os : Os) (started : os.Started) (H : Type) (enc : TypeId × Value → H) :
    ReturnsInHanded {} Try.checked os 9 .any (Rows.fnWayToBackSpec.pre6 enc Try.prog Try.f9 Rows.fnWayToBackRow.domain false) (Rows.fnWayToBackSpec.post enc Try.prog Try.f9 false true false false) := by
  refine returnsInHanded_of_change (C := Try.checked) ownNone started (by kernel_rfl) Try.func9
    (ChangeSpec.witness6 (enc := enc) (C := Try.checked) false ⟨#[], #[.slice none 0 0], []⟩ 8 (by kernel_rfl) (by kernel_rfl) (by kernel_rfl) (by kernel_rfl)) ?_
  intro W base args ds gs before hval0 hW hcnd _
  have hval : ∀ (j : Nat) t v, Try.f9.params[j]? = some t → args[j]? = some v → Value.okWide Try.prog W .any base t v := hval0
  have hW' := hW
  obtain ⟨p, q, hA0, hV, rfl, _, _⟩ := hW
  have hA : DataW.TrodAll enc Try.prog W 0 (fun _ => true) true Try.f9.params.toList args.toList ds p := hA0
  rw [Try.params9] at hA hval
  obtain ⟨v0, vs0, d0, ds0, p0, q0, hargs, rfl, rfl, h0, r0⟩ := trodAll_cons hA
  obtain ⟨rfl, rfl, rfl⟩ := trodAll_nil r0
  obtain rfl : args = #[v0] := by cases args; simp_all
  obtain ⟨rfl, rfl⟩ := trodVars_none hV
  obtain ⟨Acs, ccs, cs, rfl, hrcs, hlcs, hqcs⟩ := open_rd Try.underlying22 Try.underlying5 cellsByte (hval 0 22 v0 rfl rfl) h0
  have hbcs := byte_bounds hqcs
  clear hA0 hval0
  refine (walk W cs Acs ccs hrcs hbcs hlcs).mono fun e W' ⟨he, hg⟩ => ?_
  subst he
  exact ⟨_, rfl, law_post laidOut (by kernel_rfl) rfl rfl rfl rfl rfl Try.underlying4 hW' hg⟩

/-- The statement. -/
theorem proved : Rows.FnWayToBackSaid :=
  OpenClaim.holds_of_wide 9 Try.f9 rfl rfl rfl rfl rfl rfl rfl ⟨rfl, rfl, rfl, rfl, rfl⟩ rfl rfl rfl rfl rfl (by kernel_rfl) Try.func9 (by kernel_rfl)
    (of_decide_eq_true (by kernel_rfl)) (by unfold Func.isWrapper; first | (rw [if_pos (by decide +kernel)]; kernel_rfl) | (rw [if_neg (by decide +kernel)]; exact ⟨rfl, rfl⟩))
    (fun os started H enc _ => lifted os started H enc)
#print axioms proved
end fnWayToBack

end Go.Proofs.Ytbnggakfogcalad

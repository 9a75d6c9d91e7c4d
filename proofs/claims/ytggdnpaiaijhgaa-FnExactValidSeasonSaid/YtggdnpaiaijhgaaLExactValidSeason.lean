/- The law FnExactValidSeason: for every season the program answers as its model; the argument reads as it read before. No condition. -/
import Derived.Test.YtggdnpaiaijhgaaBSeaX
import Derived.Test.YtggdnpaiaijhgaaLaw
namespace Go.Proofs.Ytggdnpaiaijhgaa
open Go.RowKit
set_option linter.unusedVariables false
set_option linter.unusedSimpArgs false

namespace fnExactValidSeason
open Go.ChangeShapes Go.WideShapes Go.ChangeAt Go.RowKit
set_option maxRecDepth 100000 in
set_option maxHeartbeats 800000 in
set_option maxRecDepth 100000 in
set_option maxRecDepth 100000 in
set_option maxHeartbeats 8000000 in
theorem walk (w : World) (s : Sea) (As : Option Addr) (cs : Nat) (hgs : RdG w w.heap.size As s.pp) (hls : s.pp.length ≤ cs ∧ cs ≤ maxLen) :
    Calls Try.prog 3 #[seaV s As cs] w fun e w' => e = .returned (.bool true) ∧ Below w.heap.size w w' := by
  have hn0 : s.pp.length ≤ maxLen := Nat.le_trans hls.1 hls.2
  have cz := fun (w' : World) (hb : Below w.heap.size w w') => szSea_any s As cs w' ((hgs.below hb).more hb.size) hn0
  have cT := fun (w' : World) (hb : Below w.heap.size w w') (hs : sizes s.pp ≤ 1048576) => toSea_any s As cs w' ((hgs.below hb).more hb.size) hs
  obtain ⟨pp, sW, sD, sst, sso, slo, scu, smo⟩ := s
  unfold SeOwn seaV at cT
  unfold seaV at cz ⊢
  simp only at cT cz ⊢
  have HT0 := Lib.hid cT
  have HZ := Lib.hid (fun o => cz _ (below1 o))
  clear cT cz hgs hls
  go_enter Try.func3, Try.ntmps3
  go_wp2_with fail
  refine (HZ.out _).mono ?_
  rintro e w1 ⟨⟨zz, rfl, hz⟩, b1⟩
  have z1 := b1.size
  rw [World.size_alloc] at z1
  have oP1 := (Box8.alloc_ w 24 (v0 := .slice As pp.length cs) (v1 := .int .i64 sW) (v2 := .int .i64 sD) (v3 := .int .i64 sst) (v4 := .int .i64 sso) (v5 := .int .i64 slo) (v6 := .int .i64 scu) (v7 := .int .i64 smo)).below b1 (by simp)
  have b1x := (below1 _).trans (b1.mono (below1 _).size)
  clear b1
  have bl1 : Below w.heap.size w w1 := (Below.refl w.heap.size w).trans (b1x.mono (Nat.le_refl _))
  clear b1x
  rcases hz with rfl | ⟨hz0, hsz⟩
  · skip
    go_wp2
    go_ret
    exact ⟨rfl, bl1⟩
  · skip
    have hz1 : ¬ zz < 0 := by omega
    have hn9 : pp.length ≤ 1048576 := by unfold sizes at hsz; omega
    have HT := Lib.hid (fun w' hb => HT0.out w' hb hsz)
    obtain ⟨pP0, pP1, pP2, pP3, pP4, pP5, pP6, pP7, pfP, _⟩ := id oP1
    go_wp2_with fail
    refine (HT.out w1 bl1).mono ?_
    rintro e w2 ⟨AC, cC, xsC, rfl, oC2, b2⟩
    clear pP0 pP1 pP2 pP3 pP4 pP5 pP6 pP7 pfP
    have z2 := b2.size
    have bl2 : Below w.heap.size w w2 := bl1.trans (b2.mono bl1.size)
    have oP2 := oP1.far (b2.block _ (by omega)) (by omega)
    clear oP1 bl1 b2
    go_wp2_with fail
    refine (sVs_u ⟨pp, sW, sD, sst, sso, slo, scu, smo⟩ AC cC w2 oC2.rd hn9).mono ?_
    rintro e w3 ⟨rfl, b3⟩
    have z3 := b3.size
    have bl3 : Below w.heap.size w w3 := bl2.trans (b3.mono bl2.size)
    have oC3 := oC2.far (fun k h1 h2 => b3.block k (by omega))
    have oP3 := oP2.far (b3.block _ (by omega)) (by omega)
    clear oC2 oP2 bl2 b3
    clear oC3
    obtain ⟨pP0, pP1, pP2, pP3, pP4, pP5, pP6, pP7, pfP, _⟩ := id oP3
    go_wp2_with fail
    refine (HT.out w3 bl3).mono ?_
    rintro e w4 ⟨AD, cD, xsD, rfl, oD4, b4⟩
    clear pP0 pP1 pP2 pP3 pP4 pP5 pP6 pP7 pfP
    have z4 := b4.size
    have bl4 : Below w.heap.size w w4 := bl3.trans (b4.mono bl3.size)
    have oP4 := oP3.far (b4.block _ (by omega)) (by omega)
    clear oP3 bl3 b4
    have aD4 := fun o => oD4.far (fun k h1 h2 => Below.heap_alloc w4 o k (by omega))
    go_wp2_with fail
    refine (iVs_u ⟨pp, sW, sD, sst, sso, slo, scu, smo⟩ AD cD (w4.alloc _) (aD4 _).rd).mono ?_
    rintro e w5 ⟨rfl, b5⟩
    have z5 := b5.size
    rw [World.size_alloc] at z5
    have oQ5 := (Box8.alloc_ w4 27 (v0 := .slice AD pp.length cD) (v1 := .int .i64 sW) (v2 := .int .i64 sD) (v3 := .int .i64 sst) (v4 := .int .i64 sso) (v5 := .int .i64 slo) (v6 := .int .i64 scu) (v7 := .int .i64 smo)).below b5 (by simp)
    have b5x := (below1 _).trans (b5.mono (below1 _).size)
    clear b5
    have bl5 : Below w.heap.size w w5 := bl4.trans (b5x.mono bl4.size)
    have oD5 := oD4.far (fun k h1 h2 => b5x.block k (by omega))
    have oP5 := oP4.far (b5x.block _ (by omega)) (by omega)
    clear aD4 oD4 oP4 bl4 b5x
    generalize hVAL : seaB ⟨pp, sW, sD, sst, sso, slo, scu, smo⟩ = q at *
    clear hVAL
    cases q
    all_goals
      obtain ⟨pP0, pP1, pP2, pP3, pP4, pP5, pP6, pP7, pfP, _⟩ := id oP5
      obtain ⟨pQ0, pQ1, pQ2, pQ3, pQ4, pQ5, pQ6, pQ7, pfQ, _⟩ := id oQ5
      go_wp2
      refine wp_region_noPanic ?_
      refine wp_region_held_drew (S := fun w' => w'.cell? ⟨w.heap.size, 0, none⟩ = some (.slice As pp.length cs) ∧ w'.cell? ⟨w.heap.size, 1, none⟩ = some (.int .i64 sW) ∧ w'.cell? ⟨w.heap.size, 2, none⟩ = some (.int .i64 sD) ∧ w'.cell? ⟨w.heap.size, 3, none⟩ = some (.int .i64 sst) ∧ w'.cell? ⟨w.heap.size, 4, none⟩ = some (.int .i64 sso) ∧ w'.cell? ⟨w.heap.size, 5, none⟩ = some (.int .i64 slo) ∧ w'.cell? ⟨w.heap.size, 6, none⟩ = some (.int .i64 scu) ∧ w'.cell? ⟨w.heap.size, 7, none⟩ = some (.int .i64 smo) ∧ w'.cell? ⟨w4.heap.size, 0, none⟩ = some (.slice AD pp.length cD) ∧ w'.cell? ⟨w4.heap.size, 1, none⟩ = some (.int .i64 sW) ∧ w'.cell? ⟨w4.heap.size, 2, none⟩ = some (.int .i64 sD) ∧ w'.cell? ⟨w4.heap.size, 3, none⟩ = some (.int .i64 sst) ∧ w'.cell? ⟨w4.heap.size, 4, none⟩ = some (.int .i64 sso) ∧ w'.cell? ⟨w4.heap.size, 5, none⟩ = some (.int .i64 slo) ∧ w'.cell? ⟨w4.heap.size, 6, none⟩ = some (.int .i64 scu) ∧ w'.cell? ⟨w4.heap.size, 7, none⟩ = some (.int .i64 smo)) (by kernel_rfl) ?_ (fun hH0 => ?_)
      · try dsimp only
        go_keep
      refine wpAnyH_take (i := 0) (v := ?_) (by simp only [List.getElem?_toArray, List.getElem?_cons_succ, List.getElem?_cons_zero]; exact rfl) (by kernel_rfl) (by kernel_rfl) (by kernel_rfl) (by exact fun _ _ _ h => h) (Or.inl ⟨by rfl, ?_⟩) (by assumption) ?_
      rotate_left 1
      · intro w hSw
        try dsimp only at hSw
        go_simp
        try with_reducible rfl
      try simp only [Act.put, List.setIfInBounds_toArray, List.set_cons_zero, List.set_cons_succ]
      refine wpAnyH_take (i := 1) (v := ?_) (by simp only [List.getElem?_toArray, List.getElem?_cons_succ, List.getElem?_cons_zero]; exact rfl) (by kernel_rfl) (by kernel_rfl) (by kernel_rfl) (by exact fun _ _ _ h => h) (Or.inl ⟨by rfl, ?_⟩) (by assumption) ?_
      rotate_left 1
      · intro w hSw
        try dsimp only at hSw
        go_simp
        try with_reducible rfl
      try simp only [Act.put, List.setIfInBounds_toArray, List.set_cons_zero, List.set_cons_succ]
      refine wpAnyH_ready (rs := [2]) (by kernel_rfl) (by simp) ?_
      refine AllReadyH.cons (by simp only [List.getElem?_toArray, List.getElem?_cons_succ, List.getElem?_cons_zero]; exact rfl) (fun K hK => ?_) ?_
      · go_simp
        go_wp2_with (go_at_call 15; refine (HT.out _ (below_drewN bl5 1)).mono ?_; rintro e w91 ⟨AE, cE, xsE, rfl, oE91, b91⟩; have hb91 : Below w5.heap.size w5 w91 := (below_drewN (Below.refl w5.heap.size w5) 1).trans b91; have oD91 := oD5.far (fun k h1 h2 => hb91.block k (by omega)); have oP91 := oP5.far (hb91.block _ (by omega)) (by have := hb91.size; omega); have oQ91 := oQ5.far (hb91.block _ (by omega)) (by have := hb91.size; omega); obtain ⟨ra0, ra1, ra2, ra3, ra4, ra5, ra6, ra7, _, _⟩ := oP91; obtain ⟨rb0, rb1, rb2, rb3, rb4, rb5, rb6, rb7, _, _⟩ := oQ91)
        refine hK.out _ _ ?_ (fun hH101 => ?_)
        · try dsimp only
          go_keep
        clear hK K hH0
        try simp only [Act.put, List.setIfInBounds_toArray, List.set_cons_zero, List.set_cons_succ]
        refine wpAnyH_ready (rs := [3]) (by kernel_rfl) (by simp) ?_
        refine AllReadyH.cons (by simp only [List.getElem?_toArray, List.getElem?_cons_succ, List.getElem?_cons_zero]; exact rfl) (fun K hK => ?_) ?_
        · go_simp
          go_wp2_with (go_at_call 17; refine (eqSea_same ⟨pp, sW, sD, sst, sso, slo, scu, smo⟩ _ _ _ _ w91 oD91.rd oE91.rd hsz).mono ?_; rintro e w92 ⟨rfl, b92⟩; have hb92 : Below w5.heap.size w5 w92 := hb91.trans (b92.mono hb91.size); have oP92 := oP5.far (hb92.block _ (by omega)) (by have := hb92.size; omega); have oQ92 := oQ5.far (hb92.block _ (by omega)) (by have := hb92.size; omega); obtain ⟨rc0, rc1, rc2, rc3, rc4, rc5, rc6, rc7, _, _⟩ := oP92; obtain ⟨rd0, rd1, rd2, rd3, rd4, rd5, rd6, rd7, _, _⟩ := oQ92)
          refine hK.out _ _ ?_ (fun hH102 => ?_)
          · try dsimp only
            go_keep
          clear hK K hH101
          try simp only [Act.put, List.setIfInBounds_toArray, List.set_cons_zero, List.set_cons_succ]
          refine wpAnyH_take (i := 4) (v := ?_) (by simp only [List.getElem?_toArray, List.getElem?_cons_succ, List.getElem?_cons_zero]; exact rfl) (by kernel_rfl) (by kernel_rfl) (by kernel_rfl) (by exact fun _ _ _ h => h) (Or.inl ⟨by rfl, ?_⟩) (by assumption) ?_
          rotate_left 1
          · intro w hSw
            try dsimp only at hSw
            go_simp
            try with_reducible rfl
          try simp only [Act.put, List.setIfInBounds_toArray, List.set_cons_zero, List.set_cons_succ]
          refine wpAnyH_done (by kernel_rfl) ?_ _
          refine NoPanic.normal ?_
          have bl92 := bl5.trans (hb92.mono bl5.size)
          go_wp2
          go_ret
          exact ⟨rfl, bl92⟩
        exact AllReadyH.nil
      exact AllReadyH.nil

set_option maxRecDepth 100000 in
theorem lifted (os : Os) (started : os.Started) (H : Type) (enc : TypeId × Value → H) :
    ReturnsInHanded {} Try.checked os 3 .any (Rows.fnExactValidSeasonSpec.pre6 enc Try.prog Try.f3 Rows.fnExactValidSeasonRow.domain false) (Rows.fnExactValidSeasonSpec.post enc Try.prog Try.f3 false true false false) := by
  refine returnsInHanded_of_change (C := Try.checked) ownNone started (by kernel_rfl) Try.func3
    (ChangeSpec.witness6 (enc := enc) (C := Try.checked) false ⟨#[], #[.agg #[.slice none 0 0, .int .i64 0, .int .i64 0, .int .i64 0, .int .i64 0, .int .i64 0, .int .i64 0, .int .i64 0]], []⟩ 8 (by kernel_rfl) (by kernel_rfl) (by kernel_rfl) (by kernel_rfl)) ?_
  intro W base args ds gs before hval0 hW hcnd _
  have hval : ∀ (j : Nat) t v, Try.f3.params[j]? = some t → args[j]? = some v → Value.okWide Try.prog W .any base t v := hval0
  have hW' := hW
  obtain ⟨p, q, hA0, hV, rfl, _, _⟩ := hW
  have hA : DataW.TrodAll enc Try.prog W 0 (fun _ => true) true Try.f3.params.toList args.toList ds p := hA0
  rw [Try.params3] at hA hval
  obtain ⟨v0, vs0, d0, ds0, p0, q0, hargs, rfl, rfl, h0, r0⟩ := trodAll_cons hA
  obtain ⟨rfl, rfl, rfl⟩ := trodAll_nil r0
  obtain rfl : args = #[v0] := by cases args; simp_all
  obtain ⟨rfl, rfl⟩ := trodVars_none hV
  obtain ⟨s, As, cs, rfl, hgs, hls⟩ := Opn.open_sea (hval 0 24 v0 rfl rfl) h0
  clear hA0 hval0
  refine (walk W s As cs hgs hls).mono fun e W' ⟨he, hg⟩ => ?_
  subst he
  exact ⟨_, rfl, law_post laidOut (by kernel_rfl) rfl rfl rfl rfl rfl Try.underlying4 hW' hg⟩

/-- The statement. -/
theorem proved : Rows.FnExactValidSeasonSaid :=
  OpenClaim.holds_of_wide 3 Try.f3 rfl rfl rfl rfl rfl rfl rfl ⟨rfl, rfl, rfl, rfl, rfl⟩ rfl rfl rfl rfl rfl (by kernel_rfl) Try.func3 (by kernel_rfl)
    (of_decide_eq_true (by kernel_rfl)) (by unfold Func.isWrapper; first | (rw [if_pos (by decide +kernel)]; kernel_rfl) | (rw [if_neg (by decide +kernel)]; exact ⟨rfl, rfl⟩))
    (fun os started H enc _ => lifted os started H enc)
#print axioms proved
end fnExactValidSeason

end Go.Proofs.Ytggdnpaiaijhgaa

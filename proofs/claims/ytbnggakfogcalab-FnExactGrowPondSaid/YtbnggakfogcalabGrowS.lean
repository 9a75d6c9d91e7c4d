/- Contracts of chapter 2's model: a pond that grows. -/
import Derived.StillTailTactics
import Derived.Deep.RegionHeld3
import Derived.Maps.AppendAt
import Derived.Test.YtbnggakfogcalabGrow
import Derived.Test.YtbnggakfogcalabPonds
namespace Go.Proofs.Ytbnggakfogcalab
open Go.RowKit
set_option linter.unusedVariables false
set_option linter.unusedSimpArgs false
theorem step_ints {ops : Array Oper} {o : Oper} {a : Act} {w : World} {K : Act → World → Prop} {Q : Exit → Act → World → Prop} {E : Prop} (hgd : o.guard = none) (s x : Operand)
    (ho : o.op = .call { callee := .builtin .append, args := #[s, x], argTypes := #[35, 35] }) (base n m c : Nat) (v : Value) (xs news : List Value) (ad : Addr)
    (hs : a.eval s = v) (hx : a.eval x = .slice (some ad) m c) (hown : w.ownsRow base 3 1 v n xs) (hl : news.length = m * 1)
    (hnews : ∀ j u, news[j]? = some u → w.cell? (ad.add j) = some u) (h1 : ∀ u ∈ news, u.oneCell' = true) (hnm : n + m ≤ 1000) (hbase : base ≤ w.heap.size)
    (h : ∀ v' w', w'.ownsRow base 3 1 v' (n + m) (xs ++ news) → w.grownBy w' v.ownBlock → K (a.put o.dst v') w') :
    if Region.wanted o (yielded ops a.tmps) = true then Oper.wp Try.prog o a w K Q else E := by
  have hw : Region.wanted o (yielded ops a.tmps) = true := by simp [Region.wanted, hgd]
  rw [if_pos hw]
  obtain ⟨i0, hi, hz0, hz1, hz2⟩ := info_parts info_int
  obtain ⟨v', w', hrun, h2, h3, _, _⟩ := run_append_own_at (P := Try.prog) w base 35 o.type 3 i0 (.int .i64 0) 1 8 Try.underlying35 hi hz0 hz1 hz2 rfl (by omega) v n xs hown ad m c news hl hnews h1 (by unfold maxLen; omega) (by omega) hbase
  unfold Oper.wp
  simp [execOp, ho, resolve, invoke, builtin, hs, hx, hrun, Result.andThen]
  exact h v' w' h2 h3
theorem PG.ownG {w : World} {base : Nat} {A : Option Addr} {n c : Nat} {xs : List Value} {pp : List (List Int)} (h : PG w base (.slice A n c) n xs pp) : OwnG w base w.heap.size A n c xs pp :=
  ⟨h.out, h.len, h.row, h.sep, fun i u b hu hb e => by
      have hi : i < n := by have := (List.getElem?_eq_some_iff.1 hu).1; have := h.out.1; omega
      obtain ⟨A', c', h1, h2⟩ := h.row i (pp[i]'(by rw [h.len]; exact hi)) (List.getElem?_eq_getElem _)
      rw [h1] at hu
      injection hu with hu
      subst hu
      exact own_types h2 h.out types_ne b hb e,
    h.hi_, fun b hb => own_lt h.out b hb⟩
theorem growRow_snoc {zs row : List Int} {k : Nat} {t : Int} (h : row[k]? = some t) : ints ((growRow zs row).take (k + 1)) = ints ((growRow zs row).take k) ++ [.int .i64 (rt (runF (t * t) zs))] := by
  rw [take_snoc (growRow_at h)]
  simp [ints]
set_option maxHeartbeats 2000000 in
theorem sGrow_any (pp : List (List Int)) (zs : List Int) (A Az : Option Addr) (c cz : Nat) (w : World) (hg : RdG w w.heap.size A pp) (hn : pp.length ≤ 1048576) (hrz : Rd w w.heap.size Az (ints zs)) :
    Calls Try.prog 40 #[.slice A pp.length c, .slice Az zs.length cz] w (OutGr (growT pp zs) w) := by
  cases hv : pondB pp
  · rw [growT_no (by rw [hv]; rfl)]
    have Hv := Lib.hid hv
    clear hv
    go_enter Try.func40, Try.ntmps40
    go_wp2_with (go_at_call 66; refine (sVal_is _ _ _ _ _ hg hn Hv.out).mono ?_; rintro e w' ⟨rfl, nv, rfl⟩)
    go_ret
    obtain ⟨A', c', xs, h1, h2, h3⟩ := outGr_nil (w.drewN nv)
    exact ⟨A', c', xs, h1, h2, below_drewN (Below.refl _ _) _⟩
  cases ht : tempsB zs
  · rw [growT_no (by rw [ht, Bool.and_false])]
    have Hv := Lib.hid hv
    have Ht := Lib.hid ht
    clear hv ht
    go_enter Try.func40, Try.ntmps40
    go_wp2_with fail
    refine (sVal_is _ _ _ _ _ hg hn Hv.out).mono ?_
    rintro e w' ⟨rfl, nv, rfl⟩
    go_wp2_with fail
    refine (vHr_is (hrz.drewN nv) Ht.out).mono ?_
    rintro e w' ⟨rfl, rfl⟩
    go_wp2
    go_ret
    obtain ⟨A', c', xs, h1, h2, h3⟩ := outGr_nil (w.drewN nv)
    exact ⟨A', c', xs, h1, h2, below_drewN (Below.refl _ _) _⟩
  rw [growT_ok hv ht]
  have hl := pond_len hv
  have hwd := pond_wide hv
  have HROW : Hid (∀ (k : Nat) (r : List Int), pp[k]? = some r → r.length ≤ 9 ∧ ∀ t ∈ r, 0 ≤ t ∧ t ≤ 999) := Lib.hid fun k r h => ⟨(pond_row hv h).2.2.1, (pond_row hv h).2.2.2⟩
  have Hv := Lib.hid hv
  have Ht := Lib.hid ht
  have HGL := Lib.hid (growF_len pp zs)
  obtain ⟨j0, hj, hy0, hy1, hy2⟩ := info_parts info_ints
  clear hv ht
  go_enter Try.func40, Try.ntmps40
  go_wp2_with fail
  refine (sVal_is _ _ _ _ _ hg hn Hv.out).mono ?_
  rintro e w' ⟨rfl, nv, rfl⟩
  go_wp2_with fail
  refine (vHr_is (hrz.drewN nv) Ht.out).mono ?_
  rintro e w' ⟨rfl, rfl⟩
  go_wp2
  go_loopw [5, 6] (fun v i wr => ∃ (y : Nat) (xs : List Value), y ≤ pp.length ∧ i = .int .i64 y ∧ PG wr w.heap.size v y xs ((growF pp zs).take y) ∧ Below w.heap.size w wr) (fun _ i _ => pp.length - (intOf i).toNat)
  case atStart => exact ⟨0, [], Nat.zero_le _, rfl, ⟨own_empty (w.drewN nv) _, rfl, fun k r hr => by simp at hr, fun i j u v b hu => by simp at hu, fun i u b hu => by simp at hu⟩, (below_drewN (Below.refl _ _) _).alloc (Nat.le_refl _) _⟩
  case round =>
    obtain ⟨y, xs, hyl, rfl, hpg, hbel⟩ := hrel
    have hsz := hbel.size
    by_cases hlt : y < pp.length
    · obtain ⟨wo, rfl⟩ : ∃ wo, wo = wr := ⟨wr, rfl⟩
      have HBEL := Lib.hid hbel
      obtain ⟨b, off, row, A', c', rfl, hb, hrow, hc, hrc, hcm, hr⟩ := (hg.below hbel).row_ hlt
      have hrr := hr.more hsz
      have hrzz := (hrz.below hbel).more hsz
      have HRZ : Hid (∀ w', Below wo.heap.size wo w' → Rd w' w'.heap.size Az (ints zs)) := Lib.hid fun w' h => (hrzz.below h).more h.size
      have HRW := Lib.hid (HROW.out y row hrow.out)
      have HS := Lib.hid (take_snoc (growF_at (zs := zs) hrow.out))
      have HPG := Lib.hid hpg
      have hr9 := (HROW.out y row hrow.out).1
      have HGR := Lib.hid (growRow_len zs row)
      clear hr hpg hbel hrow hrzz
      go_wp2
      go_loopw [7, 8] (fun v x wr => ∃ k : Nat, k ≤ row.length ∧ x = .int .i64 k ∧ wr.ownsRow wo.heap.size 3 1 v k (ints ((growRow zs row).take k)) ∧ Below wo.heap.size wo wr) (fun _ x _ => row.length - (intOf x).toNat)
      case atStart => exact ⟨0, Nat.zero_le _, rfl, own_empty wo _, (Below.refl _ _).alloc (Nat.le_refl _) _⟩
      case round =>
        obtain ⟨k, hk, rfl, hown, hbq⟩ := hrel
        have hsq := hbq.size
        have hcq := (hbq.cell (p := ⟨b, off + y, none⟩) (show b < wo.heap.size by omega)).trans hc
        by_cases hlk : k < row.length
        · obtain ⟨b2, off2, t, rfl, hb2, hz, hcw2⟩ := hrr.int_ hlk
          have hc2 := (hbq.cell (p := ⟨b2, off2 + k, none⟩) hb2).trans hcw2
          have ht := HRW.out.2 t (List.mem_of_getElem? hz.out)
          have hsqr := sq_in ht.1 ht.2
          have hs2 := growRow_snoc (zs := zs) hz.out
          obtain ⟨m, hm⟩ : ∃ m, m = t * t := ⟨_, rfl⟩
          rw [← hm] at hs2 hsqr
          have HS2 := Lib.hid hs2
          have hm0 := hsqr.1
          have hm1 := hsqr.2
          have hrn := runF_range m hm0 hm1 zs
          have e0 : t * t = m := hm.symm
          have e1 : IntKind.i64.wrap m = m := IntWalk.i64_in _ (by omega)
          clear hs2 hm hsqr hz ht
          go_wp2
          refine wp_region_noPanic ?_
          refine wp_region_held_drew (S := fun w' => w'.cell? ⟨b, off + y, none⟩ = some (.slice (some ⟨b2, off2, none⟩) row.length c') ∧ w'.cell? ⟨b2, off2 + k, none⟩ = some (.int .i64 t)) (by kernel_rfl) ?_ (fun hH0 => ?_)
          · try dsimp only
            go_keep
          refine wpAnyH_take (i := 0) (v := ?_) (by simp only [List.getElem?_toArray, List.getElem?_cons_succ, List.getElem?_cons_zero]; exact rfl) (by kernel_rfl) (by kernel_rfl) (by kernel_rfl) (by exact fun _ _ _ h => h) (Or.inl ⟨by rfl, ?_⟩) (by assumption) ?_
          rotate_left 1
          · intro w hSw
            try dsimp only at hSw
            go_simp
            try with_reducible rfl
          try simp only [Act.put, List.setIfInBounds_toArray, List.set_cons_zero, List.set_cons_succ]
          refine wpAnyH_take (i := 1) (v := ?_) (by simp only [List.getElem?_toArray, List.getElem?_cons_succ, List.getElem?_cons_zero]; exact rfl) (by kernel_rfl) (by kernel_rfl) (by kernel_rfl) (by exact fun _ _ _ h => h) (Or.inl ⟨by rfl, ?_⟩) (by assumption) ?_
          rotate_left 1
          · intro w hSw
            try dsimp only at hSw
            go_simp
            try with_reducible rfl
          try simp only [Act.put, List.setIfInBounds_toArray, List.set_cons_zero, List.set_cons_succ]
          refine wpAnyH_take (i := 2) (v := ?_) (by simp only [List.getElem?_toArray, List.getElem?_cons_succ, List.getElem?_cons_zero]; exact rfl) (by kernel_rfl) (by kernel_rfl) (by kernel_rfl) (by exact fun _ _ _ h => h) (Or.inl ⟨by rfl, ?_⟩) (by assumption) ?_
          rotate_left 1
          · intro w hSw
            try dsimp only at hSw
            go_simp
            try with_reducible rfl
          try simp only [Act.put, List.setIfInBounds_toArray, List.set_cons_zero, List.set_cons_succ]
          refine wpAnyH_take (i := 3) (v := ?_) (by simp only [List.getElem?_toArray, List.getElem?_cons_succ, List.getElem?_cons_zero]; exact rfl) (by kernel_rfl) (by kernel_rfl) (by kernel_rfl) (by exact fun _ _ _ h => h) (Or.inl ⟨by rfl, ?_⟩) (by assumption) ?_
          rotate_left 1
          · intro w hSw
            try dsimp only at hSw
            go_simp
            try with_reducible rfl
          try simp only [Act.put, List.setIfInBounds_toArray, List.set_cons_zero, List.set_cons_succ]
          refine wpAnyH_take (i := 4) (v := ?_) (by simp only [List.getElem?_toArray, List.getElem?_cons_succ, List.getElem?_cons_zero]; exact rfl) (by kernel_rfl) (by kernel_rfl) (by kernel_rfl) (by exact fun _ _ _ h => h) (Or.inl ⟨by rfl, ?_⟩) (by assumption) ?_
          rotate_left 1
          · intro w hSw
            try dsimp only at hSw
            go_simp
            try with_reducible rfl
          try simp only [Act.put, List.setIfInBounds_toArray, List.set_cons_zero, List.set_cons_succ]
          refine wpAnyH_take (i := 5) (v := ?_) (by simp only [List.getElem?_toArray, List.getElem?_cons_succ, List.getElem?_cons_zero]; exact rfl) (by kernel_rfl) (by kernel_rfl) (by kernel_rfl) (by exact fun _ _ _ h => h) (Or.inl ⟨by rfl, ?_⟩) (by assumption) ?_
          rotate_left 1
          · intro w hSw
            try dsimp only at hSw
            go_simp
            try with_reducible rfl
          try simp only [Act.put, List.setIfInBounds_toArray, List.set_cons_zero, List.set_cons_succ]
          refine wpAnyH_take (i := 6) (v := ?_) (by simp only [List.getElem?_toArray, List.getElem?_cons_succ, List.getElem?_cons_zero]; exact rfl) (by kernel_rfl) (by kernel_rfl) (by kernel_rfl) (by exact fun _ _ _ h => h) (Or.inl ⟨by rfl, ?_⟩) (by assumption) ?_
          rotate_left 1
          · intro w hSw
            try dsimp only at hSw
            go_simp
            try with_reducible rfl
          try simp only [Act.put, List.setIfInBounds_toArray, List.set_cons_zero, List.set_cons_succ]
          refine wpAnyH_take (i := 7) (v := ?_) (by simp only [List.getElem?_toArray, List.getElem?_cons_succ, List.getElem?_cons_zero]; exact rfl) (by kernel_rfl) (by kernel_rfl) (by kernel_rfl) (by exact fun _ _ _ h => h) (Or.inl ⟨by rfl, ?_⟩) (by assumption) ?_
          rotate_left 1
          · intro w hSw
            try dsimp only at hSw
            go_simp
            try with_reducible rfl
          try simp only [Act.put, List.setIfInBounds_toArray, List.set_cons_zero, List.set_cons_succ]
          refine wpAnyH_take (i := 8) (v := ?_) (by simp only [List.getElem?_toArray, List.getElem?_cons_succ, List.getElem?_cons_zero]; exact rfl) (by kernel_rfl) (by kernel_rfl) (by kernel_rfl) (by exact fun _ _ _ h => h) (Or.inl ⟨by rfl, ?_⟩) (by assumption) ?_
          rotate_left 1
          · intro w hSw
            try dsimp only at hSw
            go_simp
            try with_reducible rfl
          try simp only [Act.put, List.setIfInBounds_toArray, List.set_cons_zero, List.set_cons_succ]
          refine wpAnyH_take (i := 9) (v := ?_) (by simp only [List.getElem?_toArray, List.getElem?_cons_succ, List.getElem?_cons_zero]; exact rfl) (by kernel_rfl) (by kernel_rfl) (by kernel_rfl) (by exact fun _ _ _ h => h) (Or.inl ⟨by rfl, ?_⟩) (by assumption) ?_
          rotate_left 1
          · intro w hSw
            try dsimp only at hSw
            go_simp
            try with_reducible rfl
          try simp only [Act.put, List.setIfInBounds_toArray, List.set_cons_zero, List.set_cons_succ]
          refine wpAnyH_take (i := 10) (v := ?_) (by simp only [List.getElem?_toArray, List.getElem?_cons_succ, List.getElem?_cons_zero]; exact rfl) (by kernel_rfl) (by kernel_rfl) (by kernel_rfl) (by exact fun _ _ _ h => h) (Or.inl ⟨by rfl, ?_⟩) (by assumption) ?_
          rotate_left 1
          · intro w hSw
            try dsimp only at hSw
            go_simp
            try with_reducible rfl
          try simp only [Act.put, List.setIfInBounds_toArray, List.set_cons_zero, List.set_cons_succ]
          refine wpAnyH_take (i := 11) (v := ?_) (by simp only [List.getElem?_toArray, List.getElem?_cons_succ, List.getElem?_cons_zero]; exact rfl) (by kernel_rfl) (by kernel_rfl) (by kernel_rfl) (by exact fun _ _ _ h => h) (Or.inl ⟨by rfl, ?_⟩) (by assumption) ?_
          rotate_left 1
          · intro w hSw
            try dsimp only at hSw
            go_simp
            try with_reducible rfl
          try simp only [Act.put, List.setIfInBounds_toArray, List.set_cons_zero, List.set_cons_succ]
          refine wpAnyH_take (i := 12) (v := ?_) (by simp only [List.getElem?_toArray, List.getElem?_cons_succ, List.getElem?_cons_zero]; exact rfl) (by kernel_rfl) (by kernel_rfl) (by kernel_rfl) (by exact fun _ _ _ h => h) (Or.inl ⟨by rfl, ?_⟩) (by assumption) ?_
          rotate_left 1
          · intro w hSw
            try dsimp only at hSw
            go_simp
            try with_reducible rfl
          try simp only [Act.put, List.setIfInBounds_toArray, List.set_cons_zero, List.set_cons_succ]
          refine wpAnyH_take (i := 13) (v := ?_) (by simp only [List.getElem?_toArray, List.getElem?_cons_succ, List.getElem?_cons_zero]; exact rfl) (by kernel_rfl) (by kernel_rfl) (by kernel_rfl) (by exact fun _ _ _ h => h) (Or.inl ⟨by rfl, ?_⟩) (by assumption) ?_
          rotate_left 1
          · intro w hSw
            try dsimp only at hSw
            go_simp
            try with_reducible rfl
          try simp only [Act.put, List.setIfInBounds_toArray, List.set_cons_zero, List.set_cons_succ]
          refine wpAnyH_take (i := 14) (v := ?_) (by simp only [List.getElem?_toArray, List.getElem?_cons_succ, List.getElem?_cons_zero]; exact rfl) (by kernel_rfl) (by kernel_rfl) (by kernel_rfl) (by exact fun _ _ _ h => h) (Or.inl ⟨by rfl, ?_⟩) (by assumption) ?_
          rotate_left 1
          · intro w hSw
            try dsimp only at hSw
            go_simp
            try with_reducible rfl
          try simp only [Act.put, List.setIfInBounds_toArray, List.set_cons_zero, List.set_cons_succ]
          refine wpAnyH_take (i := 15) (v := ?_) (by simp only [List.getElem?_toArray, List.getElem?_cons_succ, List.getElem?_cons_zero]; exact rfl) (by kernel_rfl) (by kernel_rfl) (by kernel_rfl) (by exact fun _ _ _ h => h) (Or.inl ⟨by rfl, ?_⟩) (by assumption) ?_
          rotate_left 1
          · intro w hSw
            try dsimp only at hSw
            go_simp
            try with_reducible rfl
          try simp only [Act.put, List.setIfInBounds_toArray, List.set_cons_zero, List.set_cons_succ]
          refine wpAnyH_take (i := 16) (v := ?_) (by simp only [List.getElem?_toArray, List.getElem?_cons_succ, List.getElem?_cons_zero]; exact rfl) (by kernel_rfl) (by kernel_rfl) (by kernel_rfl) (by exact fun _ _ _ h => h) (Or.inl ⟨by rfl, ?_⟩) (by assumption) ?_
          rotate_left 1
          · intro w hSw
            try dsimp only at hSw
            go_simp
            try with_reducible rfl
          try simp only [Act.put, List.setIfInBounds_toArray, List.set_cons_zero, List.set_cons_succ]
          refine wpAnyH_ready (rs := [17]) (by kernel_rfl) (by simp) ?_
          refine AllReadyH.cons (by simp only [List.getElem?_toArray, List.getElem?_cons_succ, List.getElem?_cons_zero]; exact rfl) (fun K hK => ?_) ?_
          · go_simp
            go_wp2_with (go_at_call 71; refine (run_any zs Az cz _ _ (HRZ.out _ (below_drewN hbq 1)) m hm0 hm1 Ht.out).mono ?_; rintro e w' ⟨rfl, rfl⟩)
            refine hK.out _ _ ?_ (fun hH1 => ?_)
            · try dsimp only
              go_keep
            clear hK K hH0
            try simp only [Act.put, List.setIfInBounds_toArray, List.set_cons_zero, List.set_cons_succ]
            refine wpAnyH_ready (rs := [18]) (by kernel_rfl) (by simp) ?_
            refine AllReadyH.cons (by simp only [List.getElem?_toArray, List.getElem?_cons_succ, List.getElem?_cons_zero]; exact rfl) (fun K hK => ?_) ?_
            · go_simp
              go_wp2_with (go_at_call 70; refine (rootOf_any _ hrn.1 hrn.2 _).mono ?_; rintro e w' ⟨rfl, rfl⟩)
              refine hK.out _ _ ?_ (fun hH2 => ?_)
              · try dsimp only
                go_keep
              clear hK K hH1
              try simp only [Act.put, List.setIfInBounds_toArray, List.set_cons_zero, List.set_cons_succ]
              refine wpAnyH_ready (rs := [19]) (by kernel_rfl) (by simp) ?_
              refine AllReadyH.cons (by simp only [List.getElem?_toArray, List.getElem?_cons_succ, List.getElem?_cons_zero]; exact rfl) (fun K hK => ?_) ?_
              · go_simp
                refine hK.out _ _ ?_ (fun hH3 => ?_)
                · try dsimp only
                  go_keep
                clear hK K hH2
                try simp only [Act.put, List.setIfInBounds_toArray, List.set_cons_zero, List.set_cons_succ]
                refine wpAnyH_ready (rs := [20]) (by kernel_rfl) (by simp) ?_
                refine AllReadyH.cons (by simp only [List.getElem?_toArray, List.getElem?_cons_succ, List.getElem?_cons_zero]; exact rfl) (fun K hK => ?_) ?_
                · refine step_ints rfl (.tmp 34) (.tmp 53) rfl wo.heap.size k 1 1 _ (ints ((growRow zs row).take k)) [.int .i64 (rt (runF m zs))] ⟨wr.heap.size, 0, none⟩ (by simp [Act.eval, Act.put]) (by simp [Act.eval, Act.put]) (own_alloc (own_drewN hown 1) _) rfl (one_new (wr.drewN 1) _ _ _ rfl) (by intro u hu; simp at hu; subst hu; rfl) (by omega) (by simp; omega) ?_
                  intro v' w8 hown1 hgrow1
                  have HB8 : Below wo.heap.size wo w8 := ((below_drewN hbq 1).alloc (by simp; omega) _).grown hgrow1 (by simp; omega) (own_block hown)
                  have k1 := (HB8.cell (p := ⟨b, off + y, none⟩) (show b < wo.heap.size by omega)).trans hc
                  have k2 := (HB8.cell (p := ⟨b2, off2 + k, none⟩) hb2).trans hcw2
                  refine hK.out _ _ ?_ (fun hH4 => ?_)
                  · try dsimp only
                    go_keep
                  clear hK K hH3
                  try simp only [Act.put, List.setIfInBounds_toArray, List.set_cons_zero, List.set_cons_succ]
                  refine wpAnyH_take (i := 21) (v := ?_) (by simp only [List.getElem?_toArray, List.getElem?_cons_succ, List.getElem?_cons_zero]; exact rfl) (by kernel_rfl) (by kernel_rfl) (by kernel_rfl) (by exact fun _ _ _ h => h) (Or.inl ⟨by rfl, ?_⟩) (by assumption) ?_
                  rotate_left 1
                  · intro w hSw
                    try dsimp only at hSw
                    go_simp
                    try with_reducible rfl
                  try simp only [Act.put, List.setIfInBounds_toArray, List.set_cons_zero, List.set_cons_succ]
                  refine wpAnyH_done (by kernel_rfl) ?_ _
                  refine NoPanic.normal ?_
                  have HP := Lib.hid (And.intro hown1 HB8)
                  clear hown1 HB8 hgrow1 k1 k2
                  go_wp2
                  go_roundw
                  case rel => exact ⟨k + 1, by omega, by go_num, by rw [HS2.out]; exact HP.out.1, HP.out.2⟩
                  case measure => simp [intOf]; omega
                exact AllReadyH.nil
              exact AllReadyH.nil
            exact AllReadyH.nil
          exact AllReadyH.nil
        · obtain rfl : k = row.length := by omega
          have hown2 := hown
          rw [List.take_of_length_le (by rw [growRow_len]; exact Nat.le_refl _)] at hown2
          obtain ⟨A2, c2, rfl⟩ := own_form hown2
          have hpg2 := HPG.out.below hbq
          have hbel2 := HBEL.out.trans (hbq.mono hsz)
          have hout3 := hpg2.out
          clear hown
          go_wp2_with (at_builtin; refine wpList_append_own _ rfl _ _ 22 rfl (w.heap.size) 35 j0 (.slice none 0 0) 1 24 Try.underlying22 hj hy0 hy1 hy2 rfl (by decide) _ _ _ rfl (hout3.alloc _) ⟨wr.heap.size, 0, none⟩ 1 1 [.slice A2 row.length c2] rfl rfl ?d1 ?d2 ?d3 ?d4 ?d5 ?_)
          case d1 => first | exact one_new _ _ _ _ rfl | exact one_new _ _ _ _ (by simp)
          case d2 => first | rfl | (intro u hu; simp at hu; subst hu; rfl)
          case d3 => unfold maxLen; omega
          case d4 => omega
          case d5 => simp; omega
          · intro v' w5 hown' hgrow _
            have hob := own_block hout3
            have hrow3 : (wr.alloc (.cells #[.slice A2 row.length c2] 35)).ownsRow wo.heap.size 3 1 (.slice A2 (growRow zs row).length c2) (growRow zs row).length (ints (growRow zs row)) := by rw [HGR.out]; exact own_alloc hown2 _
            have hpg5 := (hpg2.below ((Below.refl _ _).alloc (Nat.le_refl _) (.cells #[.slice A2 row.length c2] 35))).push hrow3 hsz HPG.out.hi_ hgrow (by rw [HGR.out]; exact hown')
            rw [← HS.out] at hpg5
            have hb5 : Below w.heap.size w w5 := (hbel2.alloc (by omega) (.cells #[.slice A2 row.length c2] 35)).grown hgrow (by simp; omega) hob
            have HP := Lib.hid (And.intro hpg5 hb5)
            clear hown' hgrow hpg5 hb5 hpg2 hout3 hrow3 hown2 hbq hbel2
            go_wp2
            go_roundw
            case rel => exact ⟨y + 1, _, by omega, by go_num, HP.out.1, HP.out.2⟩
            case measure => simp [intOf]; omega
    · obtain rfl : y = pp.length := by omega
      have hpg2 := hpg
      rw [List.take_of_length_le (by rw [growF_len]; exact Nat.le_refl _)] at hpg2
      obtain ⟨A2, c2, rfl⟩ := own_form hpg2.out
      have R : OutGr (growF pp zs) w (.returned (.slice A2 pp.length c2)) wr := ⟨A2, c2, xs, by rw [HGL.out], by rw [HGL.out]; exact hpg2.ownG, hbel⟩
      have HR := Lib.hid R
      clear hpg hpg2 hbel R
      go_wp2
      go_ret
      exact HR.out

end Go.Proofs.Ytbnggakfogcalab

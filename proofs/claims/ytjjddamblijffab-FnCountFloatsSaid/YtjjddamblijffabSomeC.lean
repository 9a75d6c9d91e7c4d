/- The generator someCakes by a contract. -/
import Derived.Deep.RegionHeld3
import Derived.Maps.AppendAt
import Derived.Deep.AppendLies
import Derived.Test.YtjjddamblijffabCValidT
import Derived.Test.YtjjddamblijffabReader
namespace Go.Proofs.Ytjjddamblijffab
open Go.RowKit
set_option linter.unusedVariables false
set_option linter.unusedSimpArgs false
theorem step_cakes {ops : Array Oper} {o : Oper} {a : Act} {w : World} {K : Act → World → Prop} {Q : Exit → Act → World → Prop} {E : Prop} (hgd : o.guard = none) (s x : Operand)
    (ho : o.op = .call { callee := .builtin .append, args := #[s, x], argTypes := #[43, 43] }) (base n m c : Nat) (v : Value) (xs news : List Value) (ad : Addr)
    (hs : a.eval s = v) (hx : a.eval x = .slice (some ad) m c) (hown : w.ownsRow base 83 2 v n xs) (hl : news.length = m * 2)
    (hnews : ∀ j u, news[j]? = some u → w.cell? (ad.add j) = some u) (h1 : ∀ u ∈ news, u.oneCell' = true) (hnm : n + m ≤ 1000) (hbase : base ≤ w.heap.size)
    (h : ∀ v' w', w'.ownsRow base 83 2 v' (n + m) (xs ++ news) → w.grownBy w' v.ownBlock → K (a.put o.dst v') w') :
    if Region.wanted o (yielded ops a.tmps) = true then Oper.wp Try.prog o a w K Q else E := by
  have hw : Region.wanted o (yielded ops a.tmps) = true := by simp [Region.wanted, hgd]
  rw [if_pos hw]
  obtain ⟨i0, hi, hz0, hz1, hz2⟩ := info_parts info_cake
  obtain ⟨v', w', hrun, h2, h3, _, _⟩ := run_append_own_at (P := Try.prog) w base 43 o.type 83 i0 (.agg #[.int .i64 0, .int .i64 0]) 2 16 Try.underlying43 hi hz0 hz1 hz2 rfl (by omega) v n xs hown ad m c news hl hnews h1 (by unfold maxLen; omega) (by omega) hbase
  unfold Oper.wp
  simp [execOp, ho, resolve, invoke, builtin, hs, hx, hrun, Result.andThen]
  exact h v' w' h2 h3
theorem only_belC {a w w' : World} {g : Nat} (h : a.grownBy w (some g)) (hb : Below w.heap.size w w') : a.grownBy w' (some g) :=
  ⟨hb.os.trans h.os, hb.tape.trans h.tape, hb.output.trans h.output, Nat.le_trans h.size hb.size, fun i hi hne => (hb.block i (Nat.lt_of_lt_of_le hi h.size)).trans (h.block i hi hne)⟩
theorem add_at (b j : Nat) : (⟨b, 0, none⟩ : Addr).add j = ⟨b, j, none⟩ := by
  simp [Addr.add]
  exact fun h => h.symm
theorem two_far {w w' : World} {x y : Value} {b : Nat} {row : Option Nat} (h : ∀ (j : Nat) (u : Value), [x, y][j]? = some u → w.cell? ((⟨b, 0, none⟩ : Addr).add j) = some u) (hg : w.grownBy w' row) (hb : b < w.heap.size) (hne : some b ≠ row) :
    ∀ (j : Nat) (u : Value), [x, y][j]? = some u → w'.cell? ((⟨b, 0, none⟩ : Addr).add j) = some u := fun j u hj => by
  have e : (⟨b, 0, none⟩ : Addr).add j = ⟨b, j, none⟩ := add_at b j
  have h1 := h j u hj
  rw [e] at h1 ⊢
  exact (World.cell?_of_block (hg.block b hb hne)).trans h1
theorem two_old (w : World) (x y : Value) (T : TypeId) (o : Obj) {b : Nat} (hb : b = w.heap.size) : ∀ (j : Nat) (u : Value), [x, y][j]? = some u → ((w.alloc (.cells #[x, y] T)).alloc o).cell? ((⟨b, 0, none⟩ : Addr).add j) = some u := fun j u hj => by
  have e : (⟨b, 0, none⟩ : Addr).add j = ⟨b, j, none⟩ := add_at b j
  have h1 := two_new w x y T b hb j u hj
  rw [e] at h1 ⊢
  exact (((Below.refl (w.alloc (.cells #[x, y] T)).heap.size _).alloc (Nat.le_refl _) o).cell (by rw [hb]; simp)).trans h1
set_option maxRecDepth 100000 in
set_option maxHeartbeats 1000000 in
theorem badCake_any (w : World) (B g p : Nat) (h : Rdr w B g p) (hp : p < 900000) (x y : Int) :
    Calls Try.prog 112 #[.pointer (some ⟨g, 0, none⟩), .agg #[.int .i64 x, .int .i64 y]] w fun e w' => ∃ u v : Int, e = .returned (.agg #[.int .i64 u, .int .i64 v]) ∧ Rdr w' B g (p + 1) ∧ w.grownBy w' (some g) := by
  go_enter Try.func112, Try.ntmps112
  have hl := h.lt
  go_wp2_with fail
  refine (pick_any 2 _ _ _ _ ((h.alloc _).alloc _) (by omega) (by omega)).mono ?_
  rintro e w1 ⟨a, rfl, a0, a1, r1, g1⟩
  have hN := two_far (two_old w (.int .i64 x) (.int .i64 y) 83 _ rfl) g1 (by simp; omega) (by simp; omega)
  have hX : w1.cell? ⟨w.heap.size, 0, none⟩ = some (.int .i64 x) := by have := hN 0 _ rfl; simpa [Addr.add] using this
  have hY : w1.cell? ⟨w.heap.size, 1, none⟩ = some (.int .i64 y) := by have := hN 1 _ rfl; simpa [Addr.add] using this
  have hM := two_far (b := w.heap.size + 1) (two_new (w.alloc _) (.int .i64 0) (.int .i64 0) 83 _ (by simp)) g1 (by simp) (by simp; omega)
  have hZ0 : w1.cell? ⟨w.heap.size + 1, 0, none⟩ = some (.int .i64 0) := by have := hM 0 _ rfl; simpa [Addr.add] using this
  have hZ1 : w1.cell? ⟨w.heap.size + 1, 1, none⟩ = some (.int .i64 0) := by have := hM 1 _ rfl; simpa [Addr.add] using this
  have hF0 : w1.frozen? ⟨w.heap.size + 1, 0, none⟩ = false := (g1.frozen_far ⟨w.heap.size + 1, 0, none⟩ (by simp) (by simp; omega)).trans (by simp)
  have hF1 : w1.frozen? ⟨w.heap.size + 1, 1, none⟩ = false := (g1.frozen_far ⟨w.heap.size + 1, 1, none⟩ (by simp) (by simp; omega)).trans (by simp)
  have hG := only_trans (only_alloc (only_alloc (only_refl w g) _) _) g1
  have HR := Lib.hid (And.intro r1 hG)
  have hs1 := hG.size
  clear r1 g1 h hN hM hG
  by_cases ha : a = 0
  · subst ha
    go_wp2
    have hgw := only_set (only_set (only_refl w1 (w.heap.size + 1)) (p := ⟨w.heap.size + 1, 0, none⟩) (.inl rfl) (.int .i64 (-1))) (p := ⟨w.heap.size + 1, 1, none⟩) (.inl rfl) (.int .i64 0)
    have hG2 := only_set (only_set HR.out.2 (p := ⟨w.heap.size + 1, 0, none⟩) (.inr (Nat.le_succ _)) (.int .i64 (-1))) (p := ⟨w.heap.size + 1, 1, none⟩) (.inr (Nat.le_succ _)) (.int .i64 0)
    have hR2 := HR.out.1.own hgw (fun k hk => by injection hk with hk; omega)
    clear hgw
    first
    | (go_ret; exact ⟨(-1), 0, rfl, hR2, hG2⟩)
    | exact bodyPost_ret (v := .agg #[.int .i64 (-1), .int .i64 0]) (by simp [results, Try.results112, go_sem, *]) rfl ⟨(-1), 0, rfl, hR2, hG2⟩
  · have hab : ((a : Int) == 0) = false := beq_eq_false_iff_ne.2 ha
    go_wp2
    have hgw := only_set (only_set (only_refl w1 (w.heap.size + 1)) (p := ⟨w.heap.size + 1, 0, none⟩) (.inl rfl) (.int .i64 x)) (p := ⟨w.heap.size + 1, 1, none⟩) (.inl rfl) (.int .i64 y)
    have hG2 := only_set (only_set HR.out.2 (p := ⟨w.heap.size + 1, 0, none⟩) (.inr (Nat.le_succ _)) (.int .i64 x)) (p := ⟨w.heap.size + 1, 1, none⟩) (.inr (Nat.le_succ _)) (.int .i64 y)
    have hR2 := HR.out.1.own hgw (fun k hk => by injection hk with hk; omega)
    clear hgw
    first
    | (go_ret; exact ⟨x, y, rfl, hR2, hG2⟩)
    | exact bodyPost_ret (v := .agg #[.int .i64 x, .int .i64 y]) (by simp [results, Try.results112, go_sem, *]) rfl ⟨x, y, rfl, hR2, hG2⟩
/-- some cakes that a call made, beside a reader -/
def CakesRel (w : World) (B g p : Nat) (v i : Value) (wr : World) : Prop :=
  ∃ (k m q b c : Nat) (cs : List (Int × Int)), i = .int .i64 k ∧ k + m ≤ 8 ∧ cs.length = m ∧ v = .slice (some ⟨b, 0, none⟩) m c ∧ wr.ownsRow w.heap.size 83 2 v m (cakeV cs) ∧ q + 2 * k ≤ p + 30 ∧ Rdr wr B g q ∧ w.grownBy wr (some g)
def CakesPost (w : World) (B g p : Nat) (e : Ending) (w' : World) : Prop :=
  ∃ (cs : List (Int × Int)) (A : Option Addr) (c q : Nat) (a h : Int), e = .returned (.tuple #[.slice A cs.length c, .int .i64 a, .int .i64 h]) ∧ (1 ≤ a ∧ a ≤ 3) ∧ (1 ≤ h ∧ h ≤ 3) ∧ cs.length ≤ 9 ∧ q ≤ p + 40 ∧ w'.ownsRow w.heap.size 83 2 (.slice A cs.length c) cs.length (cakeV cs) ∧ Rdr w' B g q ∧ w.grownBy w' (some g)
set_option maxRecDepth 100000 in
set_option maxHeartbeats 2000000 in
theorem someCakes_any (w : World) (B g p : Nat) (h : Rdr w B g p) (hp : p < 800000) (most : Int) (hm0 : 0 ≤ most) (hm1 : most ≤ 20) :
    Calls Try.prog 82 #[.pointer (some ⟨g, 0, none⟩), .int .i64 most] w (CakesPost w B g p) := by
  obtain ⟨i0, hi, hz0, hz1, hz2⟩ := info_parts info_cake
  have hlt0 := h.lt
  have hr0 := h
  go_enter Try.func82, Try.ntmps82
  go_wp2_with fail
  refine (one_any [2,1,3] 3 rfl _ _ _ _ _ (hr0.alloc _) (by omega) (by omega) (by omega) (alloc_at (by simp)) (by have := hr0.lt; omega)).mono ?_
  rintro e w2 ⟨a, rfl, hma, rw2, gw2⟩
  have hba : 1 ≤ a ∧ a ≤ 3 := by simp only [List.mem_cons, List.not_mem_nil, or_false] at hma; omega
  clear hma
  have hl2 := rw2.lt
  go_wp2_with fail
  refine (one_any [2,1,3] 3 rfl _ _ _ _ _ (rw2.alloc _) (by omega) (by omega) (by omega) (alloc_at (by simp)) (by have := rw2.lt; omega)).mono ?_
  rintro e w3 ⟨hh, rfl, hmhh, rw3, gw3⟩
  have hbhh : 1 ≤ hh ∧ hh ≤ 3 := by simp only [List.mem_cons, List.not_mem_nil, or_false] at hmhh; omega
  clear hmhh
  have hl3 := rw3.lt
  have hG3 := only_trans (only_alloc (only_trans (only_alloc (only_refl w g) (.cells (ints [2, 1, 3]).toArray 3)) gw2) (.cells (ints [2, 1, 3]).toArray 3)) gw3
  have hs3 := hG3.size
  have rw3' := rw3.alloc (.cells #[] 83)
  go_wp2_with fail
  refine (one_any [4,3,5,2,6,0,8] 7 rfl _ _ _ _ _ (rw3'.alloc _) (by omega) (by omega) (by omega) (alloc_at (by simp)) (by have := rw3'.lt; omega)).mono ?_
  rintro e w4 ⟨n0, rfl, hmn0, rw4, gw4⟩
  have hbn0 : 0 ≤ n0 ∧ n0 ≤ 8 := by simp only [List.mem_cons, List.not_mem_nil, or_false] at hmn0; omega
  clear hmn0
  have o4 := owz_base (owz_only (owz_alloc (owz_empty w3 83 2) (.cells (ints [4,3,5,2,6,0,8]).toArray 3)) gw4 hl3) (show w.heap.size ≤ w3.heap.size by omega)
  have hG4 := only_trans (only_alloc (only_alloc hG3 (.cells #[] 83)) (.cells (ints [4,3,5,2,6,0,8]).toArray 3)) gw4
  obtain ⟨k0, rfl⟩ := Int.eq_ofNat_of_zero_le hbn0.1
  have hst : CakesRel w B g (p + 3) (.slice (some ⟨w3.heap.size, 0, none⟩) 0 0) (.int .i64 (k0 : Nat)) w4 := ⟨k0, 0, p + 1 + 1 + 1, _, 0, [], rfl, by omega, rfl, rfl, o4, by omega, rw4, hG4⟩
  have HST := Lib.hid hst
  clear hst o4 hG4 gw4 rw4 hG3 gw3 rw3 rw3' gw2 rw2 hr0 h
  go_wp2
  go_loopw [9, 10] (fun v i wr => CakesRel w B g (p + 3) v i wr) (fun _ i _ => (intOf i).toNat)
  case atStart => exact HST.out
  case round =>
    clear HST
    obtain ⟨k, m, q, gb, c, cs, rfl, hkm, hcl, rfl, hown, hq, hR, hG⟩ := hrel
    have hsz := hG.size
    have HCL := Lib.hid hcl
    clear hcl
    by_cases hkm2 : 0 < k ∧ (m : Int) < most
    · obtain ⟨hk, hm⟩ := hkm2
      · have hk2 : (0 : Int) < (k : Int) := by omega
        go_wp2_with fail
        refine (pick_any _ _ _ _ _ hR (by omega) (by omega)).mono ?_
        rintro e w5 ⟨x, rfl, x0, x1, r5, g5⟩
        have o5 := owz_only hown g5 hlt0
        have hG5 := only_trans hG g5
        go_wp2_with fail
        refine (pick_any _ _ _ _ _ r5 (by omega) (by omega)).mono ?_
        rintro e w6 ⟨y, rfl, y0, y1, r6, g6⟩
        have o6 := owz_only o5 g6 hlt0
        have hG6 := only_trans hG5 g6
        have hl6 := r6.lt
        have hs6 := hG6.size
        clear hown g5 hR hG o5 r5 hG5 g6
        go_wp2
        obtain ⟨w7, hw7⟩ : ∃ w7, w7 = w6.alloc (Obj.cells #[.int .i64 x, .int .i64 y] 83) := ⟨_, rfl⟩
        rw [← hw7]
        have hxy : ∀ (j : Nat) (u : Value), [Value.int .i64 x, .int .i64 y][j]? = some u → w7.cell? ((⟨w6.heap.size, 0, none⟩ : Addr).add j) = some u := by rw [hw7]; exact two_new w6 _ _ 83 _ rfl
        have hX : w7.cell? ⟨w6.heap.size, 0, none⟩ = some (.int .i64 x) := by have := hxy 0 _ rfl; simpa [Addr.add] using this
        have hY : w7.cell? ⟨w6.heap.size, 1, none⟩ = some (.int .i64 y) := by have := hxy 1 _ rfl; simpa [Addr.add] using this
        have o7 : w7.ownsRow w.heap.size 83 2 (.slice (some ⟨gb, 0, none⟩) m c) m (cakeV cs) := by rw [hw7]; exact owz_alloc o6 _
        have r7 : Rdr w7 B g (q + 1 + 1) := by rw [hw7]; exact r6.alloc _
        have hG7 : w.grownBy w7 (some g) := by rw [hw7]; exact only_alloc hG6 _
        have hs7 : w7.heap.size = w6.heap.size + 1 := by rw [hw7]; simp
        have hgb := owz_lt o7 gb rfl
        have HSRC : Hid (∀ w' : World, Below w7.heap.size w7 w' → ∀ (j : Nat) (u : Value), (cakeV cs)[j]? = some u → w'.cell? ((⟨gb, 0, none⟩ : Addr).add j) = some u) := Lib.hid fun w' hb j u hj => by
          have h1 := owz_cell o7 hj
          have h2 := (hb.cell (p := ⟨gb, j, none⟩) hgb).trans h1
          have e := add_at gb j
          rw [e]; exact h2
        have hcl : (cakeV cs).length = m * 2 := by rw [cakeV_len, HCL.out]
        have hone : ∀ u ∈ cakeV cs, u.oneCell' = true := fun u hu => by
          unfold cakeV at hu
          rw [List.mem_flatMap] at hu
          obtain ⟨cc, _, hu⟩ := hu
          simp at hu
          rcases hu with rfl | rfl <;> rfl
        have hone2 : ∀ u ∈ [Value.int .i64 x, .int .i64 y], u.oneCell' = true := fun u hu => by simp at hu; rcases hu with rfl | rfl <;> rfl
        have BD : Below w7.heap.size w7 w7.drew := below_drewN (Below.refl _ _) 1
        have HBD := Lib.hid BD
        have HO7 := Lib.hid o7
        have HR7 := Lib.hid (And.intro r7 hG7)
        have HLEN : Hid ((cs ++ [(x, y)]).length = m + 1) := Lib.hid (by rw [List.length_append, HCL.out]; rfl)
        clear hw7 hxy o6 r6 hG6 o7 r7 hG7 BD hgb
        have HLT : Hid (w6.heap.size < w7.heap.size) := Lib.hid (by rw [hs7]; exact Nat.lt_succ_self _)
        go_region_held3 (fun w' => w'.cell? ⟨w6.heap.size, 0, none⟩ = some (.int .i64 x) ∧ w'.cell? ⟨w6.heap.size, 1, none⟩ = some (.int .i64 y)) (go_keep) (first
          | (first
            | (refine step_cakes rfl (.tmp 41) (.tmp 42) rfl w7.heap.size 0 m c (.slice (some ⟨w7.heap.size, 0, none⟩) 0 0) [] (cakeV cs) ⟨gb, 0, none⟩ (by simp [Act.eval, Act.put]) (by simp [Act.eval, Act.put]) (owz_empty w7.drew 83 2) hcl (HSRC.out _ (HBD.out.alloc (Nat.le_refl _) _)) hone (by omega) (by simp) ?_; intro v1 w8 hown1 hgrow1; have HB8 : Below w7.heap.size w7 w8 := ((HBD.out.alloc (Nat.le_refl _) _)).grown hgrow1 (by simp) (owz_block (owz_empty w7.drew 83 2)); have kX8 := (HB8.cell (p := ⟨w6.heap.size, 0, none⟩) HLT.out).trans hX; have kY8 := (HB8.cell (p := ⟨w6.heap.size, 1, none⟩) HLT.out).trans hY)
            | (refine step_cakes rfl (.tmp 41) (.tmp 42) rfl w7.heap.size 0 m c (.slice (some ⟨w7.heap.size, 0, none⟩) 0 0) [] (cakeV cs) ⟨gb, 0, none⟩ (by simp [Act.eval, Act.put]) (by simp [Act.eval, Act.put]) (owz_alloc (owz_empty w7.drew 83 2) _) hcl (HSRC.out _ ((HBD.out.alloc (Nat.le_refl _) _).alloc (by simp) _)) hone (by omega) (by simp; omega) ?_; intro v1 w8 hown1 hgrow1; have HB8 : Below w7.heap.size w7 w8 := (((HBD.out.alloc (Nat.le_refl _) _).alloc (by simp) _)).grown hgrow1 (by simp; omega) (owz_block (owz_empty w7.drew 83 2)); have kX8 := (HB8.cell (p := ⟨w6.heap.size, 0, none⟩) HLT.out).trans hX; have kY8 := (HB8.cell (p := ⟨w6.heap.size, 1, none⟩) HLT.out).trans hY; have hN : ∀ (j : Nat) (u : Value), [Value.int .i64 x, .int .i64 y][j]? = some u → w8.cell? ((⟨w7.heap.size + 1, 0, none⟩ : Addr).add j) = some u := two_far (two_new (w7.drew.alloc (Obj.cells #[] 83)) (.int .i64 x) (.int .i64 y) 83 (w7.heap.size + 1) (by first | (simp; done) | (simp; omega))) hgrow1 (by first | (simp; done) | (simp; omega)) (by simp [Value.ownBlock]))
            | (refine step_cakes rfl (.tmp 41) (.tmp 42) rfl w7.heap.size 0 m c (.slice (some ⟨w7.heap.size + 1, 0, none⟩) 0 0) [] (cakeV cs) ⟨gb, 0, none⟩ (by simp [Act.eval, Act.put]) (by simp [Act.eval, Act.put]) (owz_base (base := w7.heap.size + 1) (by have e := owz_empty (w7.drew.alloc (Obj.cells #[.int .i64 x, .int .i64 y] 83)) 83 2; rw [show (w7.drew.alloc (Obj.cells #[.int .i64 x, .int .i64 y] 83)).heap.size = w7.heap.size + 1 by first | (simp; done) | rfl] at e; exact e) (Nat.le_succ _)) hcl (HSRC.out _ ((HBD.out.alloc (Nat.le_refl _) _).alloc (by simp) _)) hone (by omega) (by simp; omega) ?_; intro v1 w8 hown1 hgrow1; have HB8 : Below w7.heap.size w7 w8 := (((HBD.out.alloc (Nat.le_refl _) _).alloc (by simp) _)).grown hgrow1 (by simp; omega) (owz_block (owz_base (base := w7.heap.size + 1) (by have e := owz_empty (w7.drew.alloc (Obj.cells #[.int .i64 x, .int .i64 y] 83)) 83 2; rw [show (w7.drew.alloc (Obj.cells #[.int .i64 x, .int .i64 y] 83)).heap.size = w7.heap.size + 1 by first | (simp; done) | rfl] at e; exact e) (Nat.le_succ _))); have kX8 := (HB8.cell (p := ⟨w6.heap.size, 0, none⟩) HLT.out).trans hX; have kY8 := (HB8.cell (p := ⟨w6.heap.size, 1, none⟩) HLT.out).trans hY; have hN : ∀ (j : Nat) (u : Value), [Value.int .i64 x, .int .i64 y][j]? = some u → w8.cell? ((⟨w7.heap.size, 0, none⟩ : Addr).add j) = some u := two_far (two_old w7.drew (.int .i64 x) (.int .i64 y) 83 (Obj.cells #[] 83) (b := w7.heap.size) rfl) hgrow1 (by first | (simp; done) | (simp; omega)) (by simp [Value.ownBlock])))
          | (first
            | (refine step_cakes rfl (.tmp 43) (.tmp 45) rfl w7.heap.size (0 + m) 1 1 v1 ([] ++ cakeV cs) [.int .i64 x, .int .i64 y] ⟨w8.heap.size, 0, none⟩ (by simp [Act.eval, Act.put]) (by simp [Act.eval, Act.put]) (owz_alloc hown1 _) rfl (two_new w8 _ _ _ _ rfl) hone2 (by omega) (by have := HB8.size; simp; omega) ?_; intro v2 w9 hown2 hgrow2; have HB9 : Below w7.heap.size w7 w9 := (HB8.alloc HB8.size _).grown hgrow2 (by have := HB8.size; simp; omega) (owz_block hown1); have kX9 := (HB9.cell (p := ⟨w6.heap.size, 0, none⟩) HLT.out).trans hX; have kY9 := (HB9.cell (p := ⟨w6.heap.size, 1, none⟩) HLT.out).trans hY)
            | (refine step_cakes rfl (.tmp 43) (.tmp 45) rfl w7.heap.size (0 + m) 1 1 v1 ([] ++ cakeV cs) [.int .i64 x, .int .i64 y] ⟨w7.heap.size + 1, 0, none⟩ (by simp [Act.eval, Act.put]) (by simp [Act.eval, Act.put]) hown1 rfl hN hone2 (by omega) HB8.size ?_; intro v2 w9 hown2 hgrow2; have HB9 : Below w7.heap.size w7 w9 := (HB8).grown hgrow2 HB8.size (owz_block hown1); have kX9 := (HB9.cell (p := ⟨w6.heap.size, 0, none⟩) HLT.out).trans hX; have kY9 := (HB9.cell (p := ⟨w6.heap.size, 1, none⟩) HLT.out).trans hY)
            | (refine step_cakes rfl (.tmp 43) (.tmp 45) rfl w7.heap.size (0 + m) 1 1 v1 ([] ++ cakeV cs) [.int .i64 x, .int .i64 y] ⟨w7.heap.size, 0, none⟩ (by simp [Act.eval, Act.put]) (by simp [Act.eval, Act.put]) hown1 rfl hN hone2 (by omega) HB8.size ?_; intro v2 w9 hown2 hgrow2; have HB9 : Below w7.heap.size w7 w9 := (HB8).grown hgrow2 HB8.size (owz_block hown1); have kX9 := (HB9.cell (p := ⟨w6.heap.size, 0, none⟩) HLT.out).trans hX; have kY9 := (HB9.cell (p := ⟨w6.heap.size, 1, none⟩) HLT.out).trans hY))
          | (obtain ⟨A9, c9, hv9⟩ := owz_form hown2; subst hv9; go_at_call 75; refine (sVCv_any (0 + m + 1) (by omega) (cs ++ [(x, y)]) (by rw [HLEN.out]; omega) A9 c9 w9 _ (by have := Rd.ownz hown2; simpa [cakeV_app, cakeV] using this) a hh).mono ?_; rintro e w10 ⟨rfl, n10, rfl⟩))
        all_goals
          have HBq : Below w7.heap.size w7 (w9.drewN n10) := below_drewN HB9 n10
          have o9 := owz_drewN (owz_below HO7.out HB9) n10
          have r9 := HR7.out.1.below HBq
          have G9 := only_belC HR7.out.2 HBq
          have X9 := (HBq.cell (p := ⟨w6.heap.size, 0, none⟩) (by rw [hs7]; exact Nat.lt_succ_self _)).trans hX
          have Y9 := (HBq.cell (p := ⟨w6.heap.size, 1, none⟩) (by rw [hs7]; exact Nat.lt_succ_self _)).trans hY
          generalize w9.drewN n10 = w10 at *
          clear HBq HB9 HB8 hown1 hown2 hgrow1 hgrow2 hX hY HSRC HBD HR7 HO7 hone hcl
          generalize cakesB a hh (cs ++ [(x, y)]) = qb
          have hs10 := G9.size
          cases qb
          · have HP := Lib.hid (And.intro o9 (And.intro r9 G9))
            clear o9 r9 G9
            go_wp2
            go_roundw
            case rel => exact ⟨k - 1, m, q + 1 + 1, gb, c, cs, by first | (congr 1; omega) | rfl, by omega, HCL.out, rfl, HP.out.1, by omega, HP.out.2.1, HP.out.2.2⟩
            case measure => simp [intOf]; omega
          · go_wp2_with (at_builtin; refine wpList_append_own _ rfl _ _ 43 rfl (w.heap.size) 83 i0 (.agg #[.int .i64 0, .int .i64 0]) 2 16 Try.underlying43 hi hz0 hz1 hz2 rfl (by decide) _ _ _ rfl (owz_alloc o9 _) ⟨w10.heap.size, 0, none⟩ 1 1 [.int .i64 x, .int .i64 y] rfl rfl (two_new _ _ _ _ _ rfl) (fun u hu => by simp at hu; rcases hu with rfl | rfl <;> rfl) (by unfold maxLen; omega) (by omega) (by simp; omega) ?_)
            intro v' w11 hown' hgrow _
            have hob := owz_block o9
            have r11 : Rdr w11 B g (q + 1 + 1) := (r9.alloc _).own hgrow (fun k hk => by have := hob k hk; omega)
            have G11 : w.grownBy w11 (some g) := only_own (only_alloc G9 _) hgrow hob
            obtain ⟨A5, c5, hv5⟩ := owz_form hown'
            subst hv5
            obtain ⟨g5, rfl, _, _, _, _⟩ := owz_some (by omega) hown' (by omega)
            have hown5 : w11.ownsRow w.heap.size 83 2 (.slice (some ⟨g5, 0, none⟩) (m + 1) c5) (m + 1) (cakeV (cs ++ [(x, y)])) := by rw [cakeV_snoc]; exact hown'
            have HP := Lib.hid (And.intro hown5 (And.intro r11 G11))
            clear o9 r9 G9 hown' hgrow hob r11 G11 hown5
            go_wp2
            go_roundw
            case rel => exact ⟨k - 1, m + 1, q + 1 + 1, g5, c5, cs ++ [(x, y)], by first | (congr 1; omega) | rfl, by omega, HLEN.out, rfl, HP.out.1, by omega, HP.out.2.1, HP.out.2.2⟩
            case measure => simp [intOf]; omega
    · have hx : (0 < k ∧ ¬ (m : Int) < most) ∨ ¬ 0 < k := by omega
      clear hkm2
      rcases hx with ⟨hk2, hm2⟩ | hk2
      all_goals
        by_cases h0 : 0 < m
        · have h0i : (0 : Int) < (m : Int) := by omega
          go_wp2_with fail
          refine (pick_any 16 _ _ _ _ hR (by omega) (by omega)).mono ?_
          rintro e w5 ⟨z, rfl, z0, z1, r5, g5⟩
          have o5 := owz_only hown g5 hlt0
          have G5 := only_trans hG g5
          clear hown hR hG g5
          by_cases hz : z = 0
          · subst hz
            obtain ⟨bq, oq, x, y, e, hb, hxy, hc1, hc2⟩ := (Rd.ownz o5).cake_ (k := 0) (by rw [HCL.out]; omega)
            injection e with e
            injection e with e1 e2
            subst e1 e2
            simp only [Nat.zero_mul, Nat.add_zero, Nat.zero_add] at hc1 hc2
            go_wp2_with fail
            refine (badCake_any _ _ _ _ r5 (by omega) x y).mono ?_
            rintro e w6 ⟨u, v, rfl, r6, g6⟩
            have o6 := owz_only o5 g6 hlt0
            have G6 := only_trans G5 g6
            have hs6 := G6.size
            have hl6 := r6.lt
            clear o5 r5 G5 g6 hc1 hc2 hxy
            go_wp2_with (at_builtin; refine wpList_append_own _ rfl _ _ 43 rfl (w.heap.size) 83 i0 (.agg #[.int .i64 0, .int .i64 0]) 2 16 Try.underlying43 hi hz0 hz1 hz2 rfl (by decide) _ _ _ rfl (owz_alloc o6 _) ⟨w6.heap.size, 0, none⟩ 1 1 [.int .i64 u, .int .i64 v] rfl rfl (two_new _ _ _ _ _ rfl) (fun u hu => by simp at hu; rcases hu with rfl | rfl <;> rfl) (by unfold maxLen; omega) (by omega) (by simp; omega) ?_)
            intro v' w11 hown' hgrow _
            have hob := owz_block o6
            have r11 : Rdr w11 B g (q + 1 + 1) := (r6.alloc _).own hgrow (fun k hk => by have := hob k hk; omega)
            have G11 : w.grownBy w11 (some g) := only_own (only_alloc G6 _) hgrow hob
            obtain ⟨A5, c5, hv5⟩ := owz_form hown'
            subst hv5
            have hl5 : (cs ++ [(u, v)]).length = m + 1 := by rw [List.length_append, HCL.out]; rfl
            have hown5 : w11.ownsRow w.heap.size 83 2 (.slice A5 (cs ++ [(u, v)]).length c5) (cs ++ [(u, v)]).length (cakeV (cs ++ [(u, v)])) := by rw [cakeV_snoc, hl5]; exact hown'
            have HP := Lib.hid (And.intro hown5 (And.intro r11 G11))
            have HL5 := Lib.hid hl5
            clear hown' hgrow hob r11 G11 hown5 o6 r6 G6 hl5
            go_wp2
            go_ret3
            exact ⟨cs ++ [(u, v)], A5, c5, q + 1 + 1, a, hh, (by rw [HL5.out]; rfl), hba, hbhh, by rw [HL5.out]; omega, by omega, HP.out.1, HP.out.2.1, HP.out.2.2⟩
          · have hzb : ((z : Int) == 0) = false := beq_eq_false_iff_ne.2 hz
            have HP := Lib.hid (And.intro o5 (And.intro r5 G5))
            clear o5 r5 G5
            go_wp2
            go_ret3
            exact ⟨cs, _, c, q + 1, a, hh, (by rw [HCL.out]; rfl), hba, hbhh, by rw [HCL.out]; omega, by omega, by rw [HCL.out]; exact HP.out.1, HP.out.2.1, HP.out.2.2⟩
        · have HP := Lib.hid (And.intro hown (And.intro hR hG))
          clear hown hR hG
          go_wp2
          go_ret3
          exact ⟨cs, _, c, q, a, hh, (by rw [HCL.out]; rfl), hba, hbhh, by rw [HCL.out]; omega, by omega, by rw [HCL.out]; exact HP.out.1, HP.out.2.1, HP.out.2.2⟩

end Go.Proofs.Ytjjddamblijffab

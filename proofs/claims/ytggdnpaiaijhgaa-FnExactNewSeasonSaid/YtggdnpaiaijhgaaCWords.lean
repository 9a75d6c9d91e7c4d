/- Cakes: lists of pairs of numbers in memory, two cells each; lists that a call made, of elements of any size. -/
import Derived.Test.YtggdnpaiaijhgaaFGrid
import Derived.Test.YtggdnpaiaijhgaaReader
namespace Go.Proofs.Ytggdnpaiaijhgaa
open Go.RowKit
set_option linter.unusedVariables false
set_option linter.unusedSimpArgs false
def cakeV (cs : List (Int × Int)) : List Value := cs.flatMap fun c => [.int .i64 c.1, .int .i64 c.2]
theorem cakeV_nil : cakeV [] = [] := rfl
theorem cakeV_cons (c : Int × Int) (cs : List (Int × Int)) : cakeV (c :: cs) = .int .i64 c.1 :: .int .i64 c.2 :: cakeV cs := rfl
theorem cakeV_len (cs : List (Int × Int)) : (cakeV cs).length = cs.length * 2 := by
  induction cs with
  | nil => rfl
  | cons c cs ih => rw [cakeV_cons]; simp only [List.length_cons]; omega
theorem cakeV_app (a b : List (Int × Int)) : cakeV (a ++ b) = cakeV a ++ cakeV b := by unfold cakeV; rw [List.flatMap_append]
theorem cakeV_snoc (a : List (Int × Int)) (x y : Int) : cakeV (a ++ [(x, y)]) = cakeV a ++ [.int .i64 x, .int .i64 y] := cakeV_app a [(x, y)]
theorem cakeV_at {cs : List (Int × Int)} : ∀ {k : Nat} {x y : Int}, cs[k]? = some (x, y) → (cakeV cs)[k * 2]? = some (.int .i64 x) ∧ (cakeV cs)[k * 2 + 1]? = some (.int .i64 y) := by
  induction cs with
  | nil => intro k x y h; simp at h
  | cons c cs ih =>
    intro k x y h
    cases k with
    | zero => simp at h; subst h; exact ⟨rfl, rfl⟩
    | succ k =>
      simp only [List.getElem?_cons_succ] at h
      have := ih h
      rw [cakeV_cons, show (k + 1) * 2 = k * 2 + 1 + 1 by omega]
      simpa [List.getElem?_cons_succ] using this
theorem cakeV_take (cs : List (Int × Int)) : ∀ n : Nat, (cakeV cs).take (n * 2) = cakeV (cs.take n) := by
  induction cs with
  | nil => intro n; simp [cakeV]
  | cons c cs ih =>
    intro n
    cases n with
    | zero => simp [cakeV]
    | succ n => rw [cakeV_cons, show (n + 1) * 2 = n * 2 + 1 + 1 by omega, List.take_succ_cons, List.take_succ_cons, ih n]; rfl
theorem cakeV_drop (cs : List (Int × Int)) : ∀ n : Nat, (cakeV cs).drop (n * 2) = cakeV (cs.drop n) := by
  induction cs with
  | nil => intro n; simp [cakeV]
  | cons c cs ih =>
    intro n
    cases n with
    | zero => simp
    | succ n => rw [cakeV_cons, show (n + 1) * 2 = n * 2 + 1 + 1 by omega, List.drop_succ_cons, List.drop_succ_cons, ih n]; rfl
section
variable {w w' : World} {B B' : Nat} {A : Option Addr} {xs : List Value} {cs : List (Int × Int)}
theorem Rd.cake_ {k : Nat} (h : Rd w B A (cakeV cs)) (hk : k < cs.length) : ∃ b off x y, A = some ⟨b, off, none⟩ ∧ b < B ∧ Hid (cs[k]? = some (x, y)) ∧ w.cell? ⟨b, off + k * 2, none⟩ = some (.int .i64 x) ∧ w.cell? ⟨b, off + k * 2 + 1, none⟩ = some (.int .i64 y) := by
  have e : cs[k]? = some ((cs[k]'hk).1, (cs[k]'hk).2) := List.getElem?_eq_getElem hk
  obtain ⟨h1, h2⟩ := cakeV_at e
  obtain ⟨b, off, hA, hb, hc⟩ := h.at_ h1
  obtain ⟨b', off', hA', _, hc'⟩ := h.at_ h2
  subst hA
  injection hA' with hA'
  injection hA' with e1 e2
  subst e1 e2
  exact ⟨b, off, _, _, rfl, hb, Lib.hid e, hc, by rw [Nat.add_assoc]; exact hc'⟩
theorem Rd.cakes_take (h : Rd w B A (cakeV cs)) (n : Nat) : Rd w B A (cakeV (cs.take n)) := by
  have := h.take (n * 2)
  rw [cakeV_take] at this
  exact this
variable {z base base' n c g : Nat} {T : TypeId} {v : Value}
theorem Rd.ownz (h : w.ownsRow base T z (.slice A n c) n xs) : Rd w w.heap.size A xs := fun hn => by
  rcases h.2 with ⟨_, h0⟩ | ⟨g, cap, cur, hv, _, hh, _, _, hs, ht⟩
  · have := h.1
    simp [h0] at this
    exact absurd this hn
  · have hA : A = some ⟨g, 0, none⟩ := by injection hv
    refine ⟨g, 0, hA, ?_, fun k x hx => ?_⟩
    · rcases Nat.lt_or_ge g w.heap.size with hlt | hge
      · exact hlt
      · rw [Array.getElem?_eq_none hge] at hh; cases hh
    · rw [← ht, List.getElem?_take] at hx
      split at hx
      · simp only [World.cell?, hh, Nat.zero_add]
        simpa using hx
      · cases hx
theorem owz_form (h : w.ownsRow base T z v n xs) : ∃ A c, v = .slice A n c := by
  rcases h.2 with ⟨rfl, rfl⟩ | ⟨g, cap, cur, rfl, _⟩
  · exact ⟨_, _, rfl⟩
  · exact ⟨_, _, rfl⟩
theorem owz_block (h : w.ownsRow base T z v n xs) : ∀ k, v.ownBlock = some k → base ≤ k := by
  intro k hk
  rcases h.2 with ⟨rfl, rfl⟩ | ⟨g, cap, cur, rfl, hg, _⟩
  · cases hk
  · simp [Value.ownBlock] at hk; omega
theorem owz_far (h : w.ownsRow base T z v n xs) (hg : ∀ k, base ≤ k → k < w.heap.size → w'.heap[k]? = w.heap[k]?) : w'.ownsRow base T z v n xs := by
  refine ⟨h.1, ?_⟩
  rcases h.2 with h0 | ⟨g', cap, cur, h1, h2, h3, h4⟩
  · exact .inl h0
  · refine .inr ⟨g', cap, cur, h1, h2, ?_, h4⟩
    rw [hg g' h2 ?_]
    · exact h3
    · rcases Nat.lt_or_ge g' w.heap.size with hlt | hge
      · exact hlt
      · rw [Array.getElem?_eq_none hge] at h3; cases h3
theorem owz_below (h : w.ownsRow base T z v n xs) (hb : Below w.heap.size w w') : w'.ownsRow base T z v n xs := owz_far h fun k _ hk => hb.block k hk
theorem owz_drewN (h : w.ownsRow base T z v n xs) (k : Nat) : (w.drewN k).ownsRow base T z v n xs := h
theorem owz_lt (h : w.ownsRow base T z v n xs) : ∀ k, v.ownBlock = some k → k < w.heap.size := by
  intro k hk
  rcases h.2 with ⟨rfl, rfl⟩ | ⟨g, cap, cur, rfl, hg, hh, _⟩
  · cases hk
  · simp [Value.ownBlock] at hk
    subst hk
    rcases Nat.lt_or_ge g w.heap.size with hlt | hge
    · exact hlt
    · rw [Array.getElem?_eq_none hge] at hh; cases hh
theorem owz_base (h : w.ownsRow base T z v n xs) (hb : base' ≤ base) : w.ownsRow base' T z v n xs := by
  refine ⟨h.1, ?_⟩
  rcases h.2 with h0 | ⟨g, cap, cur, h1, h2, h3⟩
  · exact .inl h0
  · exact .inr ⟨g, cap, cur, h1, by omega, h3⟩
theorem owz_only (h : w.ownsRow base T z v n xs) (hg : w.grownBy w' (some g)) (hlt : g < base) : w'.ownsRow base T z v n xs :=
  owz_far h fun k hk hk2 => hg.block k hk2 (fun e => by injection e with e; omega)
theorem owz_alloc (h : w.ownsRow base T z v n xs) (o : Obj) : (w.alloc o).ownsRow base T z v n xs := owz_below h ((Below.refl _ _).alloc (Nat.le_refl _) o)
theorem owz_empty (w : World) (T : TypeId) (z : Nat) : (w.alloc (.cells #[] T)).ownsRow w.heap.size T z (.slice (some ⟨w.heap.size, 0, none⟩) 0 0) 0 [] :=
  ⟨by simp, .inr ⟨w.heap.size, 0, #[], rfl, Nat.le_refl _, heap_alloc_new w _, Nat.le_refl _, Nat.zero_le _, by simp, by simp⟩⟩
theorem owz_nil (w : World) (base : Nat) (T : TypeId) (z : Nat) : w.ownsRow base T z (.slice none 0 0) 0 [] := ⟨by simp, .inl ⟨rfl, rfl⟩⟩
theorem owz_apart {b : Nat} (h : w.ownsRow base T z v n xs) (hb : b < base) : v.ownBlock ≠ some b := fun e => by
  have := owz_block h b e
  omega
theorem owz_grown {r : Option Nat} (h : w.ownsRow base T z v n xs) (hg : w.grownBy w' r) (hb : ∀ k, r = some k → v.ownBlock ≠ some k) : w'.ownsRow base T z v n xs := by
  have hl := owz_lt h
  refine ⟨h.1, ?_⟩
  rcases h.2 with h0 | ⟨g', cap, cur, h1, h2, h3, h4⟩
  · exact .inl h0
  · refine .inr ⟨g', cap, cur, h1, h2, ?_, h4⟩
    rw [← h3]
    refine hg.block g' (hl g' (by subst h1; rfl)) fun e => ?_
    exact hb g' e.symm (by subst h1; rfl)
theorem owz_some (hz : 0 < z) (h : w.ownsRow base T z (.slice A n c) n xs) (hn : 0 < n) : ∃ g, A = some ⟨g, 0, none⟩ ∧ base ≤ g ∧ g < w.heap.size ∧ n ≤ c ∧ c ≤ maxLen := by
  rcases h.2 with ⟨_, h0⟩ | ⟨g, cap, cur, hv, hg, hh, hnc, hcm, _⟩
  · omega
  · injection hv with e1 e2 e3
    subst e1 e3
    exact ⟨g, rfl, hg, owz_lt h g rfl, hnc, hcm⟩
theorem owz_cell (h : w.ownsRow base T z (.slice (some ⟨g, 0, none⟩) n c) n xs) {k : Nat} {x : Value} (hx : xs[k]? = some x) : w.cell? ⟨g, k, none⟩ = some x := by
  obtain ⟨b, off, e, _, hc⟩ := (Rd.ownz h).at_ hx
  injection e with e
  injection e with e1 e2
  subst e1 e2
  simpa using hc
theorem owz_frozen (h : w.ownsRow base T z (.slice (some ⟨g, 0, none⟩) n c) n xs) (k : Nat) : w.frozen? ⟨g, k, none⟩ = false := by
  rcases h.2 with ⟨h0, _⟩ | ⟨g', cap, cur, hv, _, hh, _⟩
  · cases h0
  · obtain rfl : g = g' := by injection hv with h1; injection h1 with h1; injection h1
    simp [World.frozen?, hh]
theorem owz_put (h : w.ownsRow base T z (.slice (some ⟨g, 0, none⟩) n c) n xs) (k : Nat) (y : Value) :
    (w.setCell ⟨g, k, none⟩ y).ownsRow base T z (.slice (some ⟨g, 0, none⟩) n c) n (xs.set k y) := by
  refine ⟨by simpa using h.1, ?_⟩
  rcases h.2 with ⟨h0, _⟩ | ⟨g', cap, cur, hv, hg, hh, hnc, hcm, hs, ht⟩
  · cases h0
  · obtain ⟨rfl, rfl⟩ : g = g' ∧ c = cap := by injection hv with h1 _ h3; injection h1 with h1; injection h1 with h1; exact ⟨h1, h3⟩
    refine .inr ⟨g, c, cur.setIfInBounds k y, rfl, hg, ?_, hnc, hcm, by simpa using hs, ?_⟩
    · simp [World.setCell, Array.getElem?_modify, hh]
    · rw [Array.toList_setIfInBounds, List.take_set, ht]
end
theorem two_new (w : World) (x y : Value) (T : TypeId) (b : Nat) (hb : b = w.heap.size) : ∀ (j : Nat) (u : Value), [x, y][j]? = some u → (w.alloc (.cells #[x, y] T)).cell? ((⟨b, 0, none⟩ : Addr).add j) = some u := by
  intro j u hj
  subst hb
  match j, hj with
  | 0, hj => simp at hj; subst hj; simp [Addr.add]
  | 1, hj => simp at hj; subst hj; simp [Addr.add]
end Go.Proofs.Ytggdnpaiaijhgaa

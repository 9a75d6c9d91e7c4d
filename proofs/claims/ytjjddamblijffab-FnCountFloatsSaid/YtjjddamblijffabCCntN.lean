/- The law FnCountFloats: bounds, and a list that grows beside one that a call made. -/
import Derived.Deep.AppendSrc
import Derived.Maps.AppendAt
import Derived.Deep.AppendLies
import Derived.Deep.RegionHeld3
import Derived.Lib.QuietBelow
import Derived.Test.YtjjddamblijffabCCntM
import Derived.Test.YtjjddamblijffabVFDraw
namespace Go.Proofs.Ytjjddamblijffab
open Go.RowKit
set_option linter.unusedVariables false
set_option linter.unusedSimpArgs false
theorem facN_le : ∀ k, k < 7 → facN k ≤ 720 := by decide
theorem facN_step {k : Nat} (h : k < 6) : IntKind.i64.wrap (facN k * ((k : Int) + 1)) = facN (k + 1) := by
  have h1 := facN_le (k + 1) (by omega)
  have h2 := facN_pos (k + 1)
  exact IntWalk.i64_in (facN (k + 1)) (by omega)
def gF (a h : Int) (ks : List (Int × Int)) (k : Nat) : Int := if vfT a h ks (firstF a h ks k) = true then countT a h (outC ks k) else 0
theorem gF_bd {a h : Int} {ks : List (Int × Int)} (hv : cakesB a h ks = true) (hn : ks.length ≤ 6) {k : Nat} (hk : k < ks.length) : 0 ≤ gF a h ks k ∧ gF a h ks k ≤ 720 := by
  have hl := outC_len hk
  have h1 := count_bd (cakesB_out hv hk) (by omega)
  have h2 := facN_le (outC ks k).length (by omega)
  unfold gF
  split <;> omega
theorem smN_bd {g : Nat → Int} : ∀ {n}, (∀ i, i < n → 0 ≤ g i ∧ g i ≤ 720) → 0 ≤ smN g n ∧ smN g n ≤ 720 * (n : Int)
  | 0, _ => by simp [smN]
  | n + 1, h => by
    rw [smN_succ]
    have h1 := smN_bd (g := g) (n := n) (fun i hi => h i (by omega))
    have h2 := h n (by omega)
    omega
theorem count_ok {a h : Int} {ks : List (Int × Int)} (hq : ¬ countT a h ks < 0) : cakesB a h ks = true ∧ ks.length ≤ 6 := by
  unfold countT at hq
  split at hq
  · rename_i e
    rw [Bool.and_eq_true] at e
    first | exact ⟨e.2, of_decide_eq_true e.1⟩ | exact ⟨e.1, of_decide_eq_true e.2⟩
  · exact absurd (show (-1 : Int) < 0 by decide) hq
theorem cnt_facts {a h : Int} {ks : List (Int × Int)} (hq : ¬ countT a h ks < 0) : cakesB a h ks = true ∧ ks.length ≤ 6 ∧ (¬ ks.length = 0 → smN (gF a h ks) ks.length = countT a h ks) ∧ 1 ≤ countT a h ks ∧ countT a h ks ≤ facN ks.length := by
  obtain ⟨hv, hn⟩ := count_ok hq
  refine ⟨hv, hn, fun h0 => ?_, (count_bd hv hn).1, (count_bd hv hn).2⟩
  rw [cnt_sum hv hn (n := ks.length - 1) (by omega)]
  rfl
theorem gF_step {a h : Int} {ks : List (Int × Int)} (hv : cakesB a h ks = true) (hn : ks.length ≤ 6) {k : Nat} (hk : k < ks.length) :
    (vfT a h ks (firstF a h ks k) = true → IntKind.i64.wrap (smN (gF a h ks) k + countT a h (outC ks k)) = smN (gF a h ks) (k + 1)) ∧ (vfT a h ks (firstF a h ks k) = false → smN (gF a h ks) k = smN (gF a h ks) (k + 1)) := by
  have h1 := smN_bd (g := gF a h ks) (n := k) (fun i hi => gF_bd hv hn (by omega))
  have h2 := gF_bd hv hn hk
  refine ⟨fun e => ?_, fun e => ?_⟩
  · have h3 : gF a h ks k = countT a h (outC ks k) := by unfold gF; rw [if_pos e]
    rw [smN_succ, h3]
    exact IntWalk.i64_in _ (by omega)
  · have h3 : gF a h ks k = 0 := by unfold gF; rw [e]; rfl
    rw [smN_succ, h3]
    omega
theorem flo_facts {a h : Int} {ks : List (Int × Int)} (hv : cakesB a h ks = true) {k nr : Nat} (hk : k < ks.length) (hL : (outC ks k).length = nr) :
    (floatT a h (outC ks k)).length = nr ∧ (∀ i, i < nr → 0 ≤ at_ (floatT a h (outC ks k)) i ∧ at_ (floatT a h (outC ks k)) i ≤ (nr : Int) - 1) ∧ (firstF a h ks k).length = nr + 1 := by
  obtain ⟨_, r2, r3⟩ := vfT_parts (vfT_float (cakesB_out hv hk))
  rw [hL] at r2
  refine ⟨r2, fun i hi => ?_, by unfold firstF; rw [List.length_cons, List.length_map, r2]⟩
  have h1 := stepB_parts.1 (r3 i (by omega))
  have h2 := h1.1
  omega
theorem first_snoc {F : List Int} {m : Nat} (k : Int) (hm : m < F.length) : ints (k :: (F.map (upZ k)).take (m + 1)) = ints (k :: (F.map (upZ k)).take m) ++ [.int .i64 (upZ k (at_ F m))] := by
  rw [take_snoc (z := upZ k (at_ F m)) (by rw [List.getElem?_map, of_at hm]; rfl)]
  simp [ints]
theorem own_oneC (w : World) (T : TypeId) (x : Value) : (w.alloc (.cells #[x] T)).ownsRow w.heap.size T 1 (.slice (some ⟨w.heap.size, 0, none⟩) 1 1) 1 [x] :=
  ⟨by simp, .inr ⟨w.heap.size, 1, #[x], rfl, Nat.le_refl _, heap_alloc_new w _, Nat.le_refl _, by unfold maxLen; omega, by simp, by simp⟩⟩
structure FST (w9 wi : World) (v : Value) (n : Nat) (xs : List Value) (AO : Option Addr) (nr cO : Nat) (F : List Int) : Prop where
  own : wi.ownsRow w9.heap.size 3 1 v n xs
  oth : wi.ownsRow w9.heap.size 3 1 (.slice AO nr cO) nr (ints F)
  sep : ∀ kb, v.ownBlock = some kb → (Value.slice AO nr cO).ownBlock ≠ some kb
  bel : Below w9.heap.size w9 wi
theorem fst_start {w9 w10 : World} {x : Value} {AO : Option Addr} {nr cO : Nat} {F : List Int} (oO : w10.ownsRow (w9.alloc (.cells #[x] 3)).heap.size 3 1 (.slice AO nr cO) nr (ints F))
    (bO : Below (w9.alloc (.cells #[x] 3)).heap.size (w9.alloc (.cells #[x] 3)) w10) : FST w9 w10 (.slice (some ⟨w9.heap.size, 0, none⟩) 1 1) 1 [x] AO nr cO F := by
  have hs : w9.heap.size ≤ (w9.alloc (.cells #[x] 3)).heap.size := by simp
  refine ⟨owz_below (own_oneC w9 _ x) bO, owz_base oO hs, fun kb e => ?_, ((Below.refl _ _).alloc (Nat.le_refl _) _).trans (bO.mono hs)⟩
  have : kb = w9.heap.size := by injection e with e; exact e.symm
  subst this
  exact owz_apart oO (by simp)
theorem FST.push {w9 wi w' : World} {v v' y : Value} {n nr cO : Nat} {xs : List Value} {AO : Option Addr} {F : List Int} (h : FST w9 wi v n xs AO nr cO F)
    (hown : w'.ownsRow w9.heap.size 3 1 v' (n + 1) (xs ++ [y])) (hg : (wi.alloc (.cells #[y] 3)).grownBy w' v.ownBlock) (hb : v'.ownBlock = v.ownBlock ∨ v'.ownBlock = some (wi.heap.size + 1)) :
    FST w9 w' v' (n + 1) (xs ++ [y]) AO nr cO F := by
  refine ⟨hown, owz_grown (owz_alloc h.oth _) hg h.sep, fun kb e => ?_, (h.bel.alloc h.bel.size _).grown hg (by have := h.bel.size; simp; omega) (owz_block h.own)⟩
  rcases hb with hb | hb
  · rw [hb] at e; exact h.sep kb e
  · rw [hb] at e
    injection e with e
    intro e2
    have := owz_lt h.oth kb e2
    omega

end Go.Proofs.Ytjjddamblijffab

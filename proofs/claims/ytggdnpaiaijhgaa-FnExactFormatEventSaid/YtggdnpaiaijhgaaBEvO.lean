/- Chapter 8: the event that words tell, of the program. -/
import Derived.Test.YtggdnpaiaijhgaaBNumO
import Derived.Test.YtggdnpaiaijhgaaBFmt
import Derived.Test.YtggdnpaiaijhgaaGrid
namespace Go.Proofs.Ytggdnpaiaijhgaa
open Go.RowKit
set_option linter.unusedVariables false
set_option linter.unusedSimpArgs false
theorem Rd.str_ {w : World} {B : Nat} {A : Option Addr} {ls : List (List UInt8)} {k : Nat} (h : Rd w B A (strs ls)) (hk : k < ls.length) : ∃ b off l, A = some ⟨b, off, none⟩ ∧ b < B ∧ Hid (ls[k]? = some l) ∧ w.cell? ⟨b, off + k, none⟩ = some (.string ⟨l.toArray⟩) := by
  obtain ⟨b, off, hA, hb, hc⟩ := h.at_ (k := k) (x := str ls[k]) (by unfold strs; rw [List.getElem?_map, List.getElem?_eq_getElem hk]; rfl)
  exact ⟨b, off, ls[k], hA, hb, Lib.hid (List.getElem?_eq_getElem hk), hc⟩
def halfN (zs : List Int) (n k : Nat) : List Int := zs.take k ++ List.replicate (n - k) 0
theorem halfN_zero (zs : List Int) (n : Nat) : halfN zs n 0 = List.replicate n 0 := by simp [halfN]
theorem halfN_all {zs : List Int} {n : Nat} (h : zs.length = n) : halfN zs n n = zs := by unfold halfN; rw [List.take_of_length_le (by omega)]; simp
theorem halfN_set {zs : List Int} {n k : Nat} {z : Int} (hl : zs.length = n) (hk : k < n) (h : zs[k]? = some z) : (halfN zs n k).set k z = halfN zs n (k + 1) := by
  unfold halfN
  have e1 : (zs.take k).length = k := by rw [List.length_take]; omega
  rw [List.set_append, e1, if_neg (by omega), Nat.sub_self, take_snoc h, show n - k = (n - (k + 1)) + 1 by omega, List.replicate_succ, List.set_cons_zero, List.append_assoc]
  rfl
def OutN (n : Nat) (zs : List Int) (w : World) (e : Ending) (w' : World) : Prop :=
  ∃ A c, e = .returned (.slice A n c) ∧ w'.ownsRow w.heap.size 3 1 (.slice A n c) n (ints zs) ∧ Below w.heap.size w w'
theorem Rd.tail_ {w : World} {B b off : Nat} {x : Value} {xs : List Value} (h : Rd w B (some ⟨b, off, none⟩) (x :: xs)) : Rd w B (some ⟨b, off + 1, none⟩) xs := fun hn => by
  obtain ⟨b', off', hA, hb, hc⟩ := h (by simp)
  injection hA with hA
  injection hA with e1 e2
  subst e1 e2
  refine ⟨b, off + 1, rfl, hb, fun k y hy => ?_⟩
  have := hc (k + 1) y (by simpa using hy)
  rwa [show off + 1 + k = off + (k + 1) by omega]
set_option maxRecDepth 100000 in
set_option maxHeartbeats 2000000 in
theorem numbersOf_any (n : Nat) (ls : List (List UInt8)) (hl : ls.length = n) (hlen : ∀ l ∈ ls, l.length ≤ 4000000) (hn : n ≤ 4000000) (A : Option Addr) (c : Nat) (w : World) (hr : Rd w w.heap.size A (strs ls)) :
    Calls Try.prog 115 #[.slice A n c] w (OutN n (ls.map numW) w) := by
  have HL := Lib.hid hl
  have HN := Lib.hid hlen
  have hmk := run_make_row' (P := Try.prog) 37 3 (.int .i64 0) 8 Try.underlying37 info_int rfl .i64 .i64 n (by omega) (by omega)
  clear hlen
  go_enter Try.func115, Try.ntmps115
  go_wp2
  go_loopw [11] (fun i wr => ∃ k : Nat, k ≤ n ∧ i = .int .i64 k ∧ wr.ownsRow w.heap.size 3 1 (.slice (some ⟨w.heap.size, 0, none⟩) n n) n (ints (halfN (ls.map numW) n k)) ∧ Below w.heap.size w wr) (fun i _ => n - (intOf i).toNat)
  case atStart => exact ⟨0, Nat.zero_le _, rfl, by rw [halfN_zero]; have := own_made w (.int .i64 0) n 3 (by unfold maxLen; omega); simpa [ints] using this, (Below.refl _ _).alloc (Nat.le_refl _) _⟩
  case round =>
    clear hmk
    obtain ⟨k, hk, rfl, hown, hbel⟩ := hrel
    by_cases hlt : k < n
    · obtain ⟨b, off, l, rfl, hb, hz, hc⟩ := (hr.below hbel).str_ (k := k) (by rw [HL.out]; exact hlt)
      have cN := numberOf_any l (HN.out l (List.mem_of_getElem? hz.out)) ⟨l.toArray⟩ rfl wr
      have hhl : (halfN (ls.map numW) n k).length = n := by have := hown.1; rw [ints_length] at this; omega
      have hcl := own_cell hown (ints_at' (zs := halfN (ls.map numW) n k) (k := k) (by omega))
      generalize at_ (halfN (ls.map numW) n k) k = y at hcl
      have hfz := own_frozen hown k
      have hput := own_put hown k (.int .i64 (numW l))
      rw [ints_set, halfN_set (by rw [List.length_map]; exact HL.out) hlt (by rw [List.getElem?_map, hz.out]; rfl)] at hput
      have HP := Lib.hid (And.intro hput (hbel.setCell (p := ⟨w.heap.size, k, none⟩) (Nat.le_refl _) (.int .i64 (numW l))))
      generalize numW l = z at *
      clear hput hown hbel hhl
      go_wp2_with fail
      refine (cN).mono ?_
      rintro e w' ⟨rfl, rfl⟩
      go_wp2
      go_roundw
      case rel => exact ⟨k + 1, by omega, by go_num, HP.out.1, HP.out.2⟩
      case measure => simp [intOf]; omega
    · obtain rfl : k = n := by omega
      rw [halfN_all (by rw [List.length_map]; exact HL.out)] at hown
      have R : OutN k (ls.map numW) w (.returned (.slice (some ⟨w.heap.size, 0, none⟩) k k)) wr := ⟨_, k, rfl, hown, hbel⟩
      have HR := Lib.hid R
      clear R hown hbel
      go_wp2
      go_ret
      exact HR.out
def EvPost (e : Ev) (w : World) (e' : Ending) (w' : World) : Prop :=
  ∃ A c, e' = .returned (evV e A c) ∧ w'.ownsRow w.heap.size 3 1 (.slice A e.ts.length c) e.ts.length (ints e.ts) ∧ Below w.heap.size w w'
/-- the frame behind the numbers: the box of the answer, the first word, the numbers -/
structure Bx (w w1 : World) (b off n : Nat) (l0 : List UInt8) (zs : List Int) (A1 : Option Addr) (c1 : Nat) : Prop where
  own : w1.ownsRow (w.heap.size + 1) 3 1 (.slice A1 n c1) n (ints zs)
  bel : Below w.heap.size w w1
  lt : w.heap.size < w1.heap.size
  cel : ∀ j, j < 5 → ∃ x, w1.cell? ⟨w.heap.size, j, none⟩ = some x
  frz : ∀ j, w1.frozen? ⟨w.heap.size, j, none⟩ = false
  wrd : w1.cell? ⟨b, off, none⟩ = some (.string ⟨l0.toArray⟩)
theorem Bx.mk_ {w w1 : World} {b off n : Nat} {l0 : List UInt8} {zs : List Int} {A1 : Option Addr} {c1 : Nat} {cs : Array Value} {T : TypeId} (hcs : cs.size = 5) (hb : b < w.heap.size) (hw : w.cell? ⟨b, off, none⟩ = some (.string ⟨l0.toArray⟩))
    (o : w1.ownsRow (w.alloc (.cells cs T)).heap.size 3 1 (.slice A1 n c1) n (ints zs)) (h : Below (w.alloc (.cells cs T)).heap.size (w.alloc (.cells cs T)) w1) : Bx w w1 b off n l0 zs A1 c1 := by
  have hs : (w.alloc (.cells cs T)).heap.size = w.heap.size + 1 := by simp
  rw [hs] at o h
  refine ⟨o, ((Below.refl _ _).alloc (Nat.le_refl _) _).trans (h.mono (by omega)), by have := h.size; rw [hs] at this; omega, fun j hj => ?_, fun j => ?_, ?_⟩
  · rw [h.cell (p := ⟨w.heap.size, j, none⟩) (by show w.heap.size < _; omega)]
    exact ⟨cs[j]'(by omega), by simp [show j < cs.size by omega]⟩
  · rw [h.frozen (p := ⟨w.heap.size, j, none⟩) (by show w.heap.size < _; omega)]
    exact World.frozen?_alloc_new w _ _ _
  · rw [h.cell (p := ⟨b, off, none⟩) (by show b < _; omega), World.cell?_alloc_lt w _ _ hb]
    exact hw
theorem Bx.five {w w1 : World} {b off n : Nat} {l0 : List UInt8} {zs : List Int} {A1 : Option Addr} {c1 : Nat} (h : Bx w w1 b off n l0 zs A1 c1) (v0 v1 v2 v3 v4 : Value) :
    (((((w1.setCell ⟨w.heap.size, 0, none⟩ v0).setCell ⟨w.heap.size, 1, none⟩ v1).setCell ⟨w.heap.size, 2, none⟩ v2).setCell ⟨w.heap.size, 3, none⟩ v3).setCell ⟨w.heap.size, 4, none⟩ v4).ownsRow w.heap.size 3 1 (.slice A1 n c1) n (ints zs) ∧
    Below w.heap.size w (((((w1.setCell ⟨w.heap.size, 0, none⟩ v0).setCell ⟨w.heap.size, 1, none⟩ v1).setCell ⟨w.heap.size, 2, none⟩ v2).setCell ⟨w.heap.size, 3, none⟩ v3).setCell ⟨w.heap.size, 4, none⟩ v4) := by
  have ap := own_apart h.own (b := w.heap.size) (by omega)
  exact ⟨own_base (own_other (own_other (own_other (own_other (own_other h.own ap _) ap _) ap _) ap _) ap _) (by omega), ((((h.bel.setCell (Nat.le_refl _) _).setCell (Nat.le_refl _) _).setCell (Nat.le_refl _) _).setCell (Nat.le_refl _) _).setCell (Nat.le_refl _) _⟩
theorem evPost_mk {e : Ev} {w w' : World} {n : Nat} {A : Option Addr} {c : Nat} {e' : Ending} (hn : e.ts.length = n) (h1 : e' = .returned (.agg #[.int .i64 e.k, .slice A n c, .int .i64 e.c, .int .i64 e.n, .int .i64 e.p]))
    (h2 : w'.ownsRow w.heap.size 3 1 (.slice A n c) n (ints e.ts)) (h3 : Below w.heap.size w w') : EvPost e w e' w' := by
  subst hn
  exact ⟨A, c, h1, h2, h3⟩
theorem at_two {zs : List Int} (h : zs.length = 2) : ints zs = [.int .i64 (at_ zs 0), .int .i64 (at_ zs 1)] := by
  match zs, h with
  | [a, b], _ => rfl

end Go.Proofs.Ytggdnpaiaijhgaa

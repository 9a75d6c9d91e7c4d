/- Chapter 8: contracts of texts as the exact laws name them. -/
import Derived.Deep.RegionHeld3
import Derived.Lib.QuietBelow
import Derived.Test.YtggdnpaiaijhgaaBLawE
import Derived.Test.YtggdnpaiaijhgaaBPar2
namespace Go.Proofs.Ytggdnpaiaijhgaa
open Go.RowKit
set_option linter.unusedVariables false
set_option linter.unusedSimpArgs false
theorem sShow_b {t : List UInt8} (e : Ev) (ht : Hid (showL e = t)) (A : Option Addr) (c : Nat) (w : World) (hr : Rd w w.heap.size A (ints e.ts)) (hm : e.ts.length ≤ 1048576) :
    Calls Try.prog 77 #[evV e A c] w fun e' w' => e' = .returned (.string ⟨t.toArray⟩) ∧ Below w.heap.size w w' := by
  have := sShow_any e A c w hr hm
  rw [ht.out] at this
  exact this
theorem iFmt_b {t : List UInt8} (e : Ev) (ht : Hid (showL e = t)) (A : Option Addr) (c : Nat) (w : World) (hr : Rd w w.heap.size A (ints e.ts)) (hm : e.ts.length ≤ 1048576) :
    Calls Try.prog 46 #[evV e A c] w fun e' w' => e' = .returned (.string ⟨t.toArray⟩) ∧ Below w.heap.size w w' := by
  have := iFmt_any e A c w hr (by omega)
  rw [ht.out] at this
  exact this
set_option maxRecDepth 100000 in
set_option maxHeartbeats 400000 in
theorem sFmt_b {t : List UInt8} (e : Ev) (ht : Hid (showL e = t)) (A : Option Addr) (c : Nat) (w : World) (hr : Rd w w.heap.size A (ints e.ts)) (hm : e.ts.length ≤ 1048576) :
    Calls Try.prog 45 #[evV e A c] w fun e' w' => e' = .returned (.string ⟨t.toArray⟩) ∧ Below w.heap.size w w' := by
  have cS := fun o => sShow_b e ht A c (w.alloc o) ((hr.below (below1 o)).more (below1 o).size) hm
  obtain ⟨k, ts, x, n, p⟩ := e
  unfold evV at *
  simp only at *
  generalize ts.length = m at *
  have HCS := Lib.hid cS
  clear cS hr hm ht
  go_enter Try.func45, Try.ntmps45
  go_wp2_with fail
  refine (HCS.out _).mono ?_
  rintro e w1 ⟨rfl, b1⟩
  have HB := Lib.hid ((below1 _).trans (b1.mono (below1 _).size))
  clear b1
  go_wp2
  go_ret
  exact ⟨rfl, HB.out⟩
theorem parE_len (l : List UInt8) (h : l.length ≤ 1048576) : (parE l).ts.length ≤ 1048576 := by
  unfold parE
  split
  · unfold evL evOf
    have := (splitL_len 32 l).2
    split
    · simp; omega
    · split
      · simp
      · split <;> simp
  · simp [evZ]
/-- what a parse answers, as an event with memory of its own -/
def PaOwn (e : Ev) (q : Bool) (w : World) (e' : Ending) (w' : World) : Prop :=
  ∃ A c, e' = .returned (.tuple #[evV e A c, .bool q]) ∧ OwnI w' w.heap.size w'.heap.size A e.ts.length c e.ts ∧ Below w.heap.size w w'
theorem paOwn_mk {e : Ev} {q : Bool} {w w' : World} {n : Nat} {A : Option Addr} {c : Nat} {e' : Ending} (hn : e.ts.length = n) (h1 : e' = .returned (.tuple #[.agg #[.int .i64 e.k, .slice A n c, .int .i64 e.c, .int .i64 e.n, .int .i64 e.p], .bool q]))
    (h2 : w'.ownsRow w.heap.size 3 1 (.slice A n c) n (ints e.ts)) (h3 : Below w.heap.size w w') : PaOwn e q w e' w' := by
  subst hn
  exact ⟨A, c, h1, OwnI.mk_ h2, h3⟩
theorem iPar_b {e : Ev} {q : Bool} (l : List UInt8) (h : Hid (parE l = e ∧ parB l = q)) (hl : l.length ≤ 1048576) (w : World) :
    Calls Try.prog 48 #[.string ⟨l.toArray⟩] w (PaOwn e q w) := by
  have := iPar_any l (by omega) ⟨l.toArray⟩ rfl w
  rw [h.out.1, h.out.2] at this
  exact this.mono fun e' w' ⟨A, c, h1, h2, h3⟩ => ⟨A, c, h1, OwnI.mk_ h2, h3⟩
set_option maxRecDepth 100000 in
set_option maxHeartbeats 400000 in
theorem sPar_b {e : Ev} {q : Bool} (l : List UInt8) (h : Hid (parE l = e ∧ parB l = q)) (hl : l.length ≤ 1048576) (w : World) :
    Calls Try.prog 47 #[.string ⟨l.toArray⟩] w (PaOwn e q w) := by
  have cS := fun o => sPar_any l hl ⟨l.toArray⟩ rfl (w.alloc o)
  rw [h.out.1, h.out.2] at cS
  unfold PaPost at cS
  obtain ⟨k, ts, x, n, p⟩ := e
  unfold evV at cS
  simp only at cS
  obtain ⟨m, hm⟩ : ∃ m, ts.length = m := ⟨_, rfl⟩
  rw [hm] at cS
  have HM := Lib.hid hm
  have HCS := Lib.hid cS
  generalize hs : (⟨l.toArray⟩ : ByteArray) = s at *
  clear hs hl hm cS h
  go_enter Try.func47, Try.ntmps47
  go_wp2_with fail
  refine (HCS.out _).mono ?_
  rintro e w1 ⟨A, c, rfl, o, b⟩
  have HB := Lib.hid ((below1 _).trans (b.mono (below1 _).size))
  have HX := Lib.hid ((Box5.alloc_ w 43 (v0 := .int .i64 0) (v1 := .slice none 0 0) (v2 := .int .i64 0) (v3 := .int .i64 0) (v4 := .int .i64 0)).below b (by simp))
  rw [World.size_alloc] at o
  have HO := Lib.hid o
  obtain ⟨k0, k1, k2, k3, k4, kf, _⟩ := HX.out
  clear o b HCS
  go_wp2
  exact bodyPost_ret (v := .tuple #[.agg #[.int .i64 k, .slice A m c, .int .i64 x, .int .i64 n, .int .i64 p], .bool q]) (by simp [results, Try.results47, go_sem, k0, k1, k2, k3, k4]) rfl (paOwn_mk HM.out rfl (own_five (own_base HO.out (by omega)) (own_apart HO.out (by omega))) (HB.out.trans (five_below _ (Nat.le_refl _) _ _ _ _ _)))
theorem Box5.far {w w' : World} {g : Nat} {v0 v1 v2 v3 v4 : Value} (h : Box5 w g v0 v1 v2 v3 v4) (hk : w'.heap[g]? = w.heap[g]?) (hs : w.heap.size ≤ w'.heap.size) : Box5 w' g v0 v1 v2 v3 v4 :=
  have hc : ∀ j, w'.cell? ⟨g, j, none⟩ = w.cell? ⟨g, j, none⟩ := fun j => World.cell?_of_block (a := ⟨g, j, none⟩) hk
  ⟨(hc 0).trans h.c0, (hc 1).trans h.c1, (hc 2).trans h.c2, (hc 3).trans h.c3, (hc 4).trans h.c4, fun j => (World.frozen?_of_block (a := ⟨g, j, none⟩) hk).trans (h.fr j), by have := h.lt; omega⟩

end Go.Proofs.Ytggdnpaiaijhgaa

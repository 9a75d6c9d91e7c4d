/- Chapter 8: the text of an event, of the program. -/
import Derived.Test.YtggdnpaiaijhgaaBHas
import Derived.Test.YtggdnpaiaijhgaaBText
namespace Go.Proofs.Ytggdnpaiaijhgaa
open Go.RowKit
set_option linter.unusedVariables false
set_option linter.unusedSimpArgs false
theorem hasText_is {q : Bool} (e : Ev) (A : Option Addr) (c : Nat) (w : World) (hr : Rd w w.heap.size A (ints e.ts)) (hm : e.ts.length ≤ 4000000) (h : evB e = q) :
    Calls Try.prog 78 #[evV e A c] w fun e' w' => e' = .returned (.bool q) ∧ Below w.heap.size w w' := by
  rw [← h]; exact hasText_any e A c w hr hm
theorem rd_one (w : World) (z : Int) (T : TypeId) : Rd (w.alloc (.cells #[.int .i64 z] T)) (w.alloc (.cells #[.int .i64 z] T)).heap.size (some ⟨w.heap.size, 0, none⟩) (ints [z]) :=
  fun _ => ⟨w.heap.size, 0, rfl, by simp, fun k x hk => by
    match k, hk with
    | 0, hk => simp [ints] at hk; subst hk; simp⟩
theorem rd_two (w : World) (z y : Int) (T : TypeId) : Rd (w.alloc (.cells #[.int .i64 z, .int .i64 y] T)) (w.alloc (.cells #[.int .i64 z, .int .i64 y] T)).heap.size (some ⟨w.heap.size, 0, none⟩) (ints [z, y]) :=
  fun _ => ⟨w.heap.size, 0, rfl, by simp, fun k x hk => by
    match k, hk with
    | 0, hk => simp [ints] at hk; subst hk; simp
    | 1, hk => simp [ints] at hk; subst hk; simp⟩
theorem hasText_t {q : Bool} (k : Int) (ts : List Int) (x n p : Int) (m : Nat) (hl : ts.length = m) (A : Option Addr) (c : Nat) (w : World) (hr : Rd w w.heap.size A (ints ts)) (hm : m ≤ 4000000) (h : evB ⟨k, ts, x, n, p⟩ = q) :
    Calls Try.prog 78 #[.agg #[.int .i64 k, .slice A m c, .int .i64 x, .int .i64 n, .int .i64 p]] w fun e' w' => e' = .returned (.bool q) ∧ Below w.heap.size w w' := by
  subst hl
  exact hasText_is ⟨k, ts, x, n, p⟩ A c w hr hm h
/-- the world behind the event that is laid in memory: cells that stay -/
theorem ev_laid {w w1 : World} {k x n p : Int} {v : Value} {T : TypeId} (hb : Below (w.alloc (.cells #[.int .i64 k, v, .int .i64 x, .int .i64 n, .int .i64 p] T)).heap.size (w.alloc (.cells #[.int .i64 k, v, .int .i64 x, .int .i64 n, .int .i64 p] T)) w1) :
    w1.cell? ⟨w.heap.size, 0, none⟩ = some (.int .i64 k) ∧ w1.cell? ⟨w.heap.size, 1, none⟩ = some v ∧ w1.cell? ⟨w.heap.size, 2, none⟩ = some (.int .i64 x) ∧ w1.cell? ⟨w.heap.size, 3, none⟩ = some (.int .i64 n) ∧ w1.cell? ⟨w.heap.size, 4, none⟩ = some (.int .i64 p) := by
  have h : ∀ j, w1.cell? ⟨w.heap.size, j, none⟩ = (w.alloc (.cells #[.int .i64 k, v, .int .i64 x, .int .i64 n, .int .i64 p] T)).cell? ⟨w.heap.size, j, none⟩ := fun j => hb.cell (p := ⟨w.heap.size, j, none⟩) (by simp)
  refine ⟨?_, ?_, ?_, ?_, ?_⟩ <;> (rw [h]; simp)
def FmPost (l : List UInt8) (w : World) (e : Ending) (w' : World) : Prop := e = .returned (str l) ∧ Below w.heap.size w w'
set_option maxRecDepth 100000 in
set_option maxHeartbeats 1000000 in
theorem iFmt_no (k : Int) (ts : List Int) (x n p : Int) (m : Nat) (hl : ts.length = m) (A : Option Addr) (c : Nat) (w : World) (hr : Rd w w.heap.size A (ints ts)) (hm : m ≤ 4000000) (h : evB ⟨k, ts, x, n, p⟩ = false) :
    Calls Try.prog 46 #[.agg #[.int .i64 k, .slice A m c, .int .i64 x, .int .i64 n, .int .i64 p]] w (FmPost [] w) := by
  have hbw : ∀ o, Below w.heap.size w (w.alloc o) := fun o => (Below.refl _ _).alloc (Nat.le_refl _) o
  have c1 := fun o => hasText_t k ts x n p m hl A c (w.alloc o) ((hr.below (hbw o)).more (hbw o).size) hm h
  clear h hl hr
  go_enter Try.func46, Try.ntmps46
  go_wp2_with fail
  refine (c1 _).mono ?_
  rintro e w' ⟨rfl, hb⟩
  have HB := Lib.hid ((hbw _).trans (hb.mono (hbw _).size))
  clear hb c1
  go_wp2
  go_ret
  exact ⟨rfl, HB.out⟩
set_option maxRecDepth 100000 in
set_option maxHeartbeats 1000000 in
theorem iFmt_cold (ts : List Int) (x n p : Int) (m : Nat) (hl : ts.length = m) (A : Option Addr) (c : Nat) (w : World) (hr : Rd w w.heap.size A (ints ts)) (hm : m ≤ 4000000) (h : evB ⟨0, ts, x, n, p⟩ = true) :
    Calls Try.prog 46 #[.agg #[.int .i64 0, .slice A m c, .int .i64 x, .int .i64 n, .int .i64 p]] w (FmPost (coldL ++ tailL ts) w) := by
  have hbw : ∀ o, Below w.heap.size w (w.alloc o) := fun o => (Below.refl _ _).alloc (Nat.le_refl _) o
  have c1 := fun o => hasText_t 0 ts x n p m hl A c (w.alloc o) ((hr.below (hbw o)).more (hbw o).size) hm h
  have HD := Lib.hid (evB_def h)
  have HL := Lib.hid hl
  clear h hl
  go_enter Try.func46, Try.ntmps46
  go_wp2_with fail
  refine (c1 _).mono ?_
  rintro e w1 ⟨rfl, hb⟩
  have HB := Lib.hid ((hbw _).trans (hb.mono (hbw _).size))
  obtain ⟨k0, k1, k2, k3, k4⟩ := ev_laid hb
  clear hb c1 hbw
  have cX := textOf_any coldL (by decide) ⟨#[99, 111, 108, 100]⟩ rfl m ts HL.out HD.out.2.2.2 hm A c w1 ((hr.below HB.out).more HB.out.size)
  clear hr
  go_wp2_with fail
  refine (cX).mono ?_
  rintro e w2 ⟨rfl, hb⟩
  have HB2 := Lib.hid (HB.out.trans (hb.mono HB.out.size))
  clear hb
  go_wp2
  go_ret
  exact ⟨rfl, HB2.out⟩
set_option maxRecDepth 100000 in
set_option maxHeartbeats 1000000 in
theorem iFmt_cut (ts : List Int) (x n p : Int) (m : Nat) (hl : ts.length = m) (A : Option Addr) (c : Nat) (w : World) (hr : Rd w w.heap.size A (ints ts)) (hm : m ≤ 4000000) (h : evB ⟨1, ts, x, n, p⟩ = true) :
    Calls Try.prog 46 #[.agg #[.int .i64 1, .slice A m c, .int .i64 x, .int .i64 n, .int .i64 p]] w (FmPost (cutL ++ tailL [x]) w) := by
  have hbw : ∀ o, Below w.heap.size w (w.alloc o) := fun o => (Below.refl _ _).alloc (Nat.le_refl _) o
  have c1 := fun o => hasText_t 1 ts x n p m hl A c (w.alloc o) ((hr.below (hbw o)).more (hbw o).size) hm h
  have HD := Lib.hid (evB_def h)
  have HL := Lib.hid hl
  clear h hl
  go_enter Try.func46, Try.ntmps46
  go_wp2_with fail
  refine (c1 _).mono ?_
  rintro e w1 ⟨rfl, hb⟩
  have HB := Lib.hid ((hbw _).trans (hb.mono (hbw _).size))
  obtain ⟨k0, k1, k2, k3, k4⟩ := ev_laid hb
  clear hb c1 hbw
  clear hr
  have cX := textOf_any cutL (by decide) ⟨#[99, 117, 116]⟩ rfl 1 [x] rfl (okTs_one HD.out.1.1 HD.out.1.2) (by omega) _ 1 _ (rd_one w1 x 3)
  have hb1 : ∀ o, Below w1.heap.size w1 (w1.alloc o) := fun o => (Below.refl _ _).alloc (Nat.le_refl _) o
  go_wp2_with fail
  refine (cX).mono ?_
  rintro e w2 ⟨rfl, hb⟩
  have HB2 := Lib.hid ((HB.out.trans ((hb1 _).mono HB.out.size)).trans (hb.mono (Nat.le_trans HB.out.size (hb1 _).size)))
  clear hb
  go_wp2
  go_ret
  exact ⟨rfl, HB2.out⟩
set_option maxRecDepth 100000 in
set_option maxHeartbeats 1000000 in
theorem iFmt_sell (ts : List Int) (x n p : Int) (m : Nat) (hl : ts.length = m) (A : Option Addr) (c : Nat) (w : World) (hr : Rd w w.heap.size A (ints ts)) (hm : m ≤ 4000000) (h : evB ⟨2, ts, x, n, p⟩ = true) :
    Calls Try.prog 46 #[.agg #[.int .i64 2, .slice A m c, .int .i64 x, .int .i64 n, .int .i64 p]] w (FmPost (sellL ++ tailL [n, p]) w) := by
  have hbw : ∀ o, Below w.heap.size w (w.alloc o) := fun o => (Below.refl _ _).alloc (Nat.le_refl _) o
  have c1 := fun o => hasText_t 2 ts x n p m hl A c (w.alloc o) ((hr.below (hbw o)).more (hbw o).size) hm h
  have HD := Lib.hid (evB_def h)
  have HL := Lib.hid hl
  clear h hl
  go_enter Try.func46, Try.ntmps46
  go_wp2_with fail
  refine (c1 _).mono ?_
  rintro e w1 ⟨rfl, hb⟩
  have HB := Lib.hid ((hbw _).trans (hb.mono (hbw _).size))
  obtain ⟨k0, k1, k2, k3, k4⟩ := ev_laid hb
  clear hb c1 hbw
  clear hr
  have cX := textOf_any sellL (by decide) ⟨#[115, 101, 108, 108]⟩ rfl 2 [n, p] rfl (okTs_two HD.out.2.1.1 HD.out.2.1.2 HD.out.2.2.1.1 HD.out.2.2.1.2) (by omega) _ 2 _ (rd_two w1 n p 3)
  have hb1 : ∀ o, Below w1.heap.size w1 (w1.alloc o) := fun o => (Below.refl _ _).alloc (Nat.le_refl _) o
  go_wp2_with fail
  refine (cX).mono ?_
  rintro e w2 ⟨rfl, hb⟩
  have HB2 := Lib.hid ((HB.out.trans ((hb1 _).mono HB.out.size)).trans (hb.mono (Nat.le_trans HB.out.size (hb1 _).size)))
  clear hb
  go_wp2
  go_ret
  exact ⟨rfl, HB2.out⟩
set_option maxRecDepth 100000 in
set_option maxHeartbeats 1000000 in
theorem iFmt_melt (ts : List Int) (x n p : Int) (m : Nat) (hl : ts.length = m) (A : Option Addr) (c : Nat) (w : World) (hr : Rd w w.heap.size A (ints ts)) (hm : m ≤ 4000000) (h : evB ⟨3, ts, x, n, p⟩ = true) :
    Calls Try.prog 46 #[.agg #[.int .i64 3, .slice A m c, .int .i64 x, .int .i64 n, .int .i64 p]] w (FmPost (meltL) w) := by
  have hbw : ∀ o, Below w.heap.size w (w.alloc o) := fun o => (Below.refl _ _).alloc (Nat.le_refl _) o
  have c1 := fun o => hasText_t 3 ts x n p m hl A c (w.alloc o) ((hr.below (hbw o)).more (hbw o).size) hm h
  have HD := Lib.hid (evB_def h)
  have HL := Lib.hid hl
  clear h hl
  go_enter Try.func46, Try.ntmps46
  go_wp2_with fail
  refine (c1 _).mono ?_
  rintro e w1 ⟨rfl, hb⟩
  have HB := Lib.hid ((hbw _).trans (hb.mono (hbw _).size))
  obtain ⟨k0, k1, k2, k3, k4⟩ := ev_laid hb
  clear hb c1 hbw
  clear hr
  go_wp2
  go_ret
  exact ⟨rfl, HB.out⟩
set_option maxRecDepth 100000 in
set_option maxHeartbeats 1000000 in
theorem iFmt_none (k : Int) (h0 : k ≠ 0) (h1 : k ≠ 1) (h2 : k ≠ 2) (h3 : k ≠ 3) (ts : List Int) (x n p : Int) (m : Nat) (hl : ts.length = m) (A : Option Addr) (c : Nat) (w : World) (hr : Rd w w.heap.size A (ints ts)) (hm : m ≤ 4000000) (h : evB ⟨k, ts, x, n, p⟩ = true) :
    Calls Try.prog 46 #[.agg #[.int .i64 k, .slice A m c, .int .i64 x, .int .i64 n, .int .i64 p]] w (FmPost [] w) := by
  have hbw : ∀ o, Below w.heap.size w (w.alloc o) := fun o => (Below.refl _ _).alloc (Nat.le_refl _) o
  have c1 := fun o => hasText_t k ts x n p m hl A c (w.alloc o) ((hr.below (hbw o)).more (hbw o).size) hm h
  clear h hl hr
  go_enter Try.func46, Try.ntmps46
  go_wp2_with fail
  refine (c1 _).mono ?_
  rintro e w1 ⟨rfl, hb⟩
  have HB := Lib.hid ((hbw _).trans (hb.mono (hbw _).size))
  obtain ⟨k0, k1, k2, k3, k4⟩ := ev_laid hb
  clear hb c1 hbw
  go_wp2
  go_ret
  exact ⟨rfl, HB.out⟩
theorem iFmt_any (e : Ev) (A : Option Addr) (c : Nat) (w : World) (hr : Rd w w.heap.size A (ints e.ts)) (hm : e.ts.length ≤ 4000000) :
    Calls Try.prog 46 #[evV e A c] w (FmPost (showL e) w) := by
  obtain ⟨k, ts, x, n, p⟩ := e
  unfold evV showL
  cases hq : evB ⟨k, ts, x, n, p⟩
  · exact iFmt_no k ts x n p _ rfl A c w hr hm hq
  · rw [if_pos rfl]
    unfold bodyL
    by_cases h0 : k = 0
    · subst h0; exact iFmt_cold ts x n p _ rfl A c w hr hm hq
    · rw [if_neg (show ¬ (⟨k, ts, x, n, p⟩ : Ev).k = 0 from h0)]
      by_cases h1 : k = 1
      · subst h1; exact iFmt_cut ts x n p _ rfl A c w hr hm hq
      · rw [if_neg (show ¬ (⟨k, ts, x, n, p⟩ : Ev).k = 1 from h1)]
        by_cases h2 : k = 2
        · subst h2; exact iFmt_sell ts x n p _ rfl A c w hr hm hq
        · rw [if_neg (show ¬ (⟨k, ts, x, n, p⟩ : Ev).k = 2 from h2)]
          by_cases h3 : k = 3
          · subst h3; exact iFmt_melt ts x n p _ rfl A c w hr hm hq
          · rw [if_neg (show ¬ (⟨k, ts, x, n, p⟩ : Ev).k = 3 from h3)]
            exact iFmt_none k h0 h1 h2 h3 ts x n p _ rfl A c w hr hm hq

end Go.Proofs.Ytggdnpaiaijhgaa

/- Chapter 8: the event that words tell, of the program, case by case. -/
import Derived.Test.YtggdnpaiaijhgaaBEvO
namespace Go.Proofs.Ytggdnpaiaijhgaa
open Go.RowKit
set_option linter.unusedVariables false
set_option linter.unusedSimpArgs false
set_option maxRecDepth 100000 in
set_option maxHeartbeats 2000000 in
theorem eventOf_cold (n : Nat) (l0 : List UInt8) (ls : List (List UInt8)) (hl : ls.length = n) (hlen : ∀ l ∈ ls, l.length ≤ 4000000) (hn : n ≤ 4000000) (b off c : Nat) (hcap : n + 1 ≤ c ∧ c ≤ maxLen) (hc1 : ¬ c = 1) (h0 : l0 = [99, 111, 108, 100]) (w : World) (hb : b < w.heap.size) (hc0 : w.cell? ⟨b, off, none⟩ = some (.string ⟨l0.toArray⟩)) (hrt : Rd w w.heap.size (some ⟨b, off + 1, none⟩) (strs ls)) :
    Calls Try.prog 81 #[.slice (some ⟨b, off, none⟩) (n + 1 : Nat) c] w (EvPost (⟨0, ls.map numW, 0, 0, 0⟩) w) := by
  have g1 : (1 : Int) ≤ ((n + 1 : Nat) : Int) := by omega
  have g2 : ((n + 1 : Nat) : Int) ≤ (c : Int) := by omega
  have g3 : n + 1 ≤ c := hcap.1
  clear hcap
  have hbw : ∀ o, Below w.heap.size w (w.alloc o) := fun o => (Below.refl _ _).alloc (Nat.le_refl _) o
  have hrt := fun o => (hrt.below (hbw o)).more (hbw o).size
  have cN := fun o => numbersOf_any n ls hl hlen hn _ (c - 1) (w.alloc o) (hrt o)
  have hzl : (ls.map numW).length = n := by rw [List.length_map]; exact hl
  generalize hzs : ls.map numW = zs at *
  clear hzs hn hlen hl
  subst h0
  go_enter Try.func81, Try.ntmps81
  go_wp2_with fail
  refine (cN _).mono ?_
  rintro e w1 ⟨A1, c1, rfl, o1, b1⟩
  have HX := Lib.hid (Bx.mk_ rfl hb hc0 o1 b1)
  obtain ⟨x0, k0⟩ := HX.out.cel 0 (by omega)
  obtain ⟨x1, k1⟩ := HX.out.cel 1 (by omega)
  obtain ⟨x2, k2⟩ := HX.out.cel 2 (by omega)
  obtain ⟨x3, k3⟩ := HX.out.cel 3 (by omega)
  obtain ⟨x4, k4⟩ := HX.out.cel 4 (by omega)
  have kf := HX.out.frz
  have kw := HX.out.wrd
  clear o1 b1 cN hrt hbw hc0
  go_wp2
  exact bodyPost_ret (v := .agg #[.int .i64 0, .slice A1 n c1, .int .i64 0, .int .i64 0, .int .i64 0]) (by simp [results, Try.results81, go_sem, k0, k1, k2, k3, k4]) rfl (evPost_mk hzl rfl (HX.out.five _ _ _ _ _).1 (HX.out.five _ _ _ _ _).2)
set_option maxRecDepth 100000 in
set_option maxHeartbeats 2000000 in
theorem eventOf_cold0 (l0 : List UInt8) (b off : Nat) (h0 : l0 = [99, 111, 108, 100]) (w : World) (hb : b < w.heap.size) (hc0 : w.cell? ⟨b, off, none⟩ = some (.string ⟨l0.toArray⟩)) :
    Calls Try.prog 81 #[.slice (some ⟨b, off, none⟩) 1 1] w (EvPost (⟨0, [], 0, 0, 0⟩) w) := by
  have cN := fun o => numbersOf_any 0 [] rfl (by simp) (by omega) (some ⟨b, off, none⟩) 0 (w.alloc o) Rd.nil_
  subst h0
  go_enter Try.func81, Try.ntmps81
  go_wp2_with fail
  refine (cN _).mono ?_
  rintro e w1 ⟨A1, c1, rfl, o1, b1⟩
  have HX := Lib.hid (Bx.mk_ rfl hb hc0 o1 b1)
  obtain ⟨x0, k0⟩ := HX.out.cel 0 (by omega)
  obtain ⟨x1, k1⟩ := HX.out.cel 1 (by omega)
  obtain ⟨x2, k2⟩ := HX.out.cel 2 (by omega)
  obtain ⟨x3, k3⟩ := HX.out.cel 3 (by omega)
  obtain ⟨x4, k4⟩ := HX.out.cel 4 (by omega)
  have kf := HX.out.frz
  have kw := HX.out.wrd
  clear o1 b1 cN hc0
  go_wp2
  exact bodyPost_ret (v := .agg #[.int .i64 0, .slice A1 0 c1, .int .i64 0, .int .i64 0, .int .i64 0]) (by simp [results, Try.results81, go_sem, k0, k1, k2, k3, k4]) rfl (evPost_mk rfl rfl (HX.out.five _ _ _ _ _).1 (HX.out.five _ _ _ _ _).2)
set_option maxRecDepth 100000 in
set_option maxHeartbeats 2000000 in
theorem eventOf_cut (n : Nat) (l0 : List UInt8) (ls : List (List UInt8)) (hl : ls.length = n) (hlen : ∀ l ∈ ls, l.length ≤ 4000000) (hn : n ≤ 4000000) (b off c : Nat) (hcap : n + 1 ≤ c ∧ c ≤ maxLen) (hn1 : n = 1) (h0 : l0 = [99, 117, 116]) (w : World) (hb : b < w.heap.size) (hc0 : w.cell? ⟨b, off, none⟩ = some (.string ⟨l0.toArray⟩)) (hrt : Rd w w.heap.size (some ⟨b, off + 1, none⟩) (strs ls)) :
    Calls Try.prog 81 #[.slice (some ⟨b, off, none⟩) (n + 1 : Nat) c] w (EvPost (⟨1, [], at_ (ls.map numW) 0, 0, 0⟩) w) := by
  have g1 : (1 : Int) ≤ ((n + 1 : Nat) : Int) := by omega
  have g2 : ((n + 1 : Nat) : Int) ≤ (c : Int) := by omega
  have g3 : n + 1 ≤ c := hcap.1
  clear hcap
  have hbw : ∀ o, Below w.heap.size w (w.alloc o) := fun o => (Below.refl _ _).alloc (Nat.le_refl _) o
  have hrt := fun o => (hrt.below (hbw o)).more (hbw o).size
  have cN := fun o => numbersOf_any n ls hl hlen hn _ (c - 1) (w.alloc o) (hrt o)
  have hzl : (ls.map numW).length = n := by rw [List.length_map]; exact hl
  generalize hzs : ls.map numW = zs at *
  clear hzs hn hlen hl
  have hc1 : ¬ c = 1 := by omega
  subst h0 hn1
  go_enter Try.func81, Try.ntmps81
  go_wp2_with fail
  refine (cN _).mono ?_
  rintro e w1 ⟨A1, c1, rfl, o1, b1⟩
  have HX := Lib.hid (Bx.mk_ rfl hb hc0 o1 b1)
  obtain ⟨x0, k0⟩ := HX.out.cel 0 (by omega)
  obtain ⟨x1, k1⟩ := HX.out.cel 1 (by omega)
  obtain ⟨x2, k2⟩ := HX.out.cel 2 (by omega)
  obtain ⟨x3, k3⟩ := HX.out.cel 3 (by omega)
  obtain ⟨x4, k4⟩ := HX.out.cel 4 (by omega)
  have kf := HX.out.frz
  have kw := HX.out.wrd
  clear o1 b1 cN hrt hbw hc0
  obtain ⟨g, hA, hg, hgl, _, _⟩ := own_some HX.out.own (by omega)
  subst hA
  have kz0 := own_cell HX.out.own (ints_at' (zs := zs) (k := 0) (by omega))
  go_wp2
  exact bodyPost_ret (v := .agg #[.int .i64 1, .slice none 0 0, .int .i64 (at_ zs 0), .int .i64 0, .int .i64 0]) (by simp [results, Try.results81, go_sem, k0, k1, k2, k3, k4]) rfl (evPost_mk rfl rfl ⟨by simp [ints], .inl ⟨rfl, rfl⟩⟩ (HX.out.five _ _ _ _ _).2)
set_option maxRecDepth 100000 in
set_option maxHeartbeats 2000000 in
theorem eventOf_cutN (n : Nat) (l0 : List UInt8) (ls : List (List UInt8)) (hl : ls.length = n) (hlen : ∀ l ∈ ls, l.length ≤ 4000000) (hn : n ≤ 4000000) (b off c : Nat) (hcap : n + 1 ≤ c ∧ c ≤ maxLen) (hc1 : ¬ c = 1) (hn1 : n ≠ 1) (h0 : l0 = [99, 117, 116]) (w : World) (hb : b < w.heap.size) (hc0 : w.cell? ⟨b, off, none⟩ = some (.string ⟨l0.toArray⟩)) (hrt : Rd w w.heap.size (some ⟨b, off + 1, none⟩) (strs ls)) :
    Calls Try.prog 81 #[.slice (some ⟨b, off, none⟩) (n + 1 : Nat) c] w (EvPost (⟨3, [], 0, 0, 0⟩) w) := by
  have g1 : (1 : Int) ≤ ((n + 1 : Nat) : Int) := by omega
  have g2 : ((n + 1 : Nat) : Int) ≤ (c : Int) := by omega
  have g3 : n + 1 ≤ c := hcap.1
  clear hcap
  have hbw : ∀ o, Below w.heap.size w (w.alloc o) := fun o => (Below.refl _ _).alloc (Nat.le_refl _) o
  have hrt := fun o => (hrt.below (hbw o)).more (hbw o).size
  have cN := fun o => numbersOf_any n ls hl hlen hn _ (c - 1) (w.alloc o) (hrt o)
  have hzl : (ls.map numW).length = n := by rw [List.length_map]; exact hl
  generalize hzs : ls.map numW = zs at *
  clear hzs hn hlen hl
  skip
  subst h0
  have hn2 : ((n : Int) == 1) = false := beq_eq_false_iff_ne.2 (by omega)
  go_enter Try.func81, Try.ntmps81
  go_wp2_with fail
  refine (cN _).mono ?_
  rintro e w1 ⟨A1, c1, rfl, o1, b1⟩
  have HX := Lib.hid (Bx.mk_ rfl hb hc0 o1 b1)
  obtain ⟨x0, k0⟩ := HX.out.cel 0 (by omega)
  obtain ⟨x1, k1⟩ := HX.out.cel 1 (by omega)
  obtain ⟨x2, k2⟩ := HX.out.cel 2 (by omega)
  obtain ⟨x3, k3⟩ := HX.out.cel 3 (by omega)
  obtain ⟨x4, k4⟩ := HX.out.cel 4 (by omega)
  have kf := HX.out.frz
  have kw := HX.out.wrd
  clear o1 b1 cN hrt hbw hc0
  go_wp2
  exact bodyPost_ret (v := .agg #[.int .i64 3, .slice none 0 0, .int .i64 0, .int .i64 0, .int .i64 0]) (by simp [results, Try.results81, go_sem, k0, k1, k2, k3, k4]) rfl (evPost_mk rfl rfl ⟨by simp [ints], .inl ⟨rfl, rfl⟩⟩ (HX.out.five _ _ _ _ _).2)
set_option maxRecDepth 100000 in
set_option maxHeartbeats 2000000 in
theorem eventOf_sellN (n : Nat) (l0 : List UInt8) (ls : List (List UInt8)) (hl : ls.length = n) (hlen : ∀ l ∈ ls, l.length ≤ 4000000) (hn : n ≤ 4000000) (b off c : Nat) (hcap : n + 1 ≤ c ∧ c ≤ maxLen) (hc1 : ¬ c = 1) (hn1 : n ≠ 2) (h0 : l0 = [115, 101, 108, 108]) (w : World) (hb : b < w.heap.size) (hc0 : w.cell? ⟨b, off, none⟩ = some (.string ⟨l0.toArray⟩)) (hrt : Rd w w.heap.size (some ⟨b, off + 1, none⟩) (strs ls)) :
    Calls Try.prog 81 #[.slice (some ⟨b, off, none⟩) (n + 1 : Nat) c] w (EvPost (⟨3, [], 0, 0, 0⟩) w) := by
  have g1 : (1 : Int) ≤ ((n + 1 : Nat) : Int) := by omega
  have g2 : ((n + 1 : Nat) : Int) ≤ (c : Int) := by omega
  have g3 : n + 1 ≤ c := hcap.1
  clear hcap
  have hbw : ∀ o, Below w.heap.size w (w.alloc o) := fun o => (Below.refl _ _).alloc (Nat.le_refl _) o
  have hrt := fun o => (hrt.below (hbw o)).more (hbw o).size
  have cN := fun o => numbersOf_any n ls hl hlen hn _ (c - 1) (w.alloc o) (hrt o)
  have hzl : (ls.map numW).length = n := by rw [List.length_map]; exact hl
  generalize hzs : ls.map numW = zs at *
  clear hzs hn hlen hl
  skip
  subst h0
  have hn2 : ((n : Int) == 2) = false := beq_eq_false_iff_ne.2 (by omega)
  go_enter Try.func81, Try.ntmps81
  go_wp2_with fail
  refine (cN _).mono ?_
  rintro e w1 ⟨A1, c1, rfl, o1, b1⟩
  have HX := Lib.hid (Bx.mk_ rfl hb hc0 o1 b1)
  obtain ⟨x0, k0⟩ := HX.out.cel 0 (by omega)
  obtain ⟨x1, k1⟩ := HX.out.cel 1 (by omega)
  obtain ⟨x2, k2⟩ := HX.out.cel 2 (by omega)
  obtain ⟨x3, k3⟩ := HX.out.cel 3 (by omega)
  obtain ⟨x4, k4⟩ := HX.out.cel 4 (by omega)
  have kf := HX.out.frz
  have kw := HX.out.wrd
  clear o1 b1 cN hrt hbw hc0
  go_wp2
  exact bodyPost_ret (v := .agg #[.int .i64 3, .slice none 0 0, .int .i64 0, .int .i64 0, .int .i64 0]) (by simp [results, Try.results81, go_sem, k0, k1, k2, k3, k4]) rfl (evPost_mk rfl rfl ⟨by simp [ints], .inl ⟨rfl, rfl⟩⟩ (HX.out.five _ _ _ _ _).2)
set_option maxRecDepth 100000 in
set_option maxHeartbeats 2000000 in
theorem eventOf_no (n : Nat) (l0 : List UInt8) (ls : List (List UInt8)) (hl : ls.length = n) (hlen : ∀ l ∈ ls, l.length ≤ 4000000) (hn : n ≤ 4000000) (b off c : Nat) (hcap : n + 1 ≤ c ∧ c ≤ maxLen) (hc1 : ¬ c = 1) (h0 : l0 ≠ [99, 111, 108, 100]) (h0b : l0 ≠ [99, 117, 116]) (h0c : l0 ≠ [115, 101, 108, 108]) (w : World) (hb : b < w.heap.size) (hc0 : w.cell? ⟨b, off, none⟩ = some (.string ⟨l0.toArray⟩)) (hrt : Rd w w.heap.size (some ⟨b, off + 1, none⟩) (strs ls)) :
    Calls Try.prog 81 #[.slice (some ⟨b, off, none⟩) (n + 1 : Nat) c] w (EvPost (⟨3, [], 0, 0, 0⟩) w) := by
  have g1 : (1 : Int) ≤ ((n + 1 : Nat) : Int) := by omega
  have g2 : ((n + 1 : Nat) : Int) ≤ (c : Int) := by omega
  have g3 : n + 1 ≤ c := hcap.1
  clear hcap
  have hbw : ∀ o, Below w.heap.size w (w.alloc o) := fun o => (Below.refl _ _).alloc (Nat.le_refl _) o
  have hrt := fun o => (hrt.below (hbw o)).more (hbw o).size
  have cN := fun o => numbersOf_any n ls hl hlen hn _ (c - 1) (w.alloc o) (hrt o)
  have hzl : (ls.map numW).length = n := by rw [List.length_map]; exact hl
  generalize hzs : ls.map numW = zs at *
  clear hzs hn hlen hl
  skip
  have q1 : (l0 == [99, 111, 108, 100]) = false := beq_eq_false_iff_ne.2 h0
  have q2 : (l0 == [99, 117, 116]) = false := beq_eq_false_iff_ne.2 h0b
  have q3 : (l0 == [115, 101, 108, 108]) = false := beq_eq_false_iff_ne.2 h0c
  clear h0 h0b h0c
  go_enter Try.func81, Try.ntmps81
  go_wp2_with fail
  refine (cN _).mono ?_
  rintro e w1 ⟨A1, c1, rfl, o1, b1⟩
  have HX := Lib.hid (Bx.mk_ rfl hb hc0 o1 b1)
  obtain ⟨x0, k0⟩ := HX.out.cel 0 (by omega)
  obtain ⟨x1, k1⟩ := HX.out.cel 1 (by omega)
  obtain ⟨x2, k2⟩ := HX.out.cel 2 (by omega)
  obtain ⟨x3, k3⟩ := HX.out.cel 3 (by omega)
  obtain ⟨x4, k4⟩ := HX.out.cel 4 (by omega)
  have kf := HX.out.frz
  have kw := HX.out.wrd
  clear o1 b1 cN hrt hbw hc0
  go_wp2
  exact bodyPost_ret (v := .agg #[.int .i64 3, .slice none 0 0, .int .i64 0, .int .i64 0, .int .i64 0]) (by simp [results, Try.results81, go_sem, k0, k1, k2, k3, k4]) rfl (evPost_mk rfl rfl ⟨by simp [ints], .inl ⟨rfl, rfl⟩⟩ (HX.out.five _ _ _ _ _).2)
set_option maxRecDepth 100000 in
set_option maxHeartbeats 2000000 in
theorem eventOf_cutN0 (l0 : List UInt8) (b off : Nat) (h0 : l0 = [99, 117, 116]) (w : World) (hb : b < w.heap.size) (hc0 : w.cell? ⟨b, off, none⟩ = some (.string ⟨l0.toArray⟩)) :
    Calls Try.prog 81 #[.slice (some ⟨b, off, none⟩) 1 1] w (EvPost (⟨3, [], 0, 0, 0⟩) w) := by
  have cN := fun o => numbersOf_any 0 [] rfl (by simp) (by omega) (some ⟨b, off, none⟩) 0 (w.alloc o) Rd.nil_
  skip
  subst h0
  go_enter Try.func81, Try.ntmps81
  go_wp2_with fail
  refine (cN _).mono ?_
  rintro e w1 ⟨A1, c1, rfl, o1, b1⟩
  have HX := Lib.hid (Bx.mk_ rfl hb hc0 o1 b1)
  obtain ⟨x0, k0⟩ := HX.out.cel 0 (by omega)
  obtain ⟨x1, k1⟩ := HX.out.cel 1 (by omega)
  obtain ⟨x2, k2⟩ := HX.out.cel 2 (by omega)
  obtain ⟨x3, k3⟩ := HX.out.cel 3 (by omega)
  obtain ⟨x4, k4⟩ := HX.out.cel 4 (by omega)
  have kf := HX.out.frz
  have kw := HX.out.wrd
  clear o1 b1 cN hc0
  go_wp2
  exact bodyPost_ret (v := .agg #[.int .i64 3, .slice none 0 0, .int .i64 0, .int .i64 0, .int .i64 0]) (by simp [results, Try.results81, go_sem, k0, k1, k2, k3, k4]) rfl (evPost_mk rfl rfl ⟨by simp [ints], .inl ⟨rfl, rfl⟩⟩ (HX.out.five _ _ _ _ _).2)
set_option maxRecDepth 100000 in
set_option maxHeartbeats 2000000 in
theorem eventOf_sellN0 (l0 : List UInt8) (b off : Nat) (h0 : l0 = [115, 101, 108, 108]) (w : World) (hb : b < w.heap.size) (hc0 : w.cell? ⟨b, off, none⟩ = some (.string ⟨l0.toArray⟩)) :
    Calls Try.prog 81 #[.slice (some ⟨b, off, none⟩) 1 1] w (EvPost (⟨3, [], 0, 0, 0⟩) w) := by
  have cN := fun o => numbersOf_any 0 [] rfl (by simp) (by omega) (some ⟨b, off, none⟩) 0 (w.alloc o) Rd.nil_
  skip
  subst h0
  go_enter Try.func81, Try.ntmps81
  go_wp2_with fail
  refine (cN _).mono ?_
  rintro e w1 ⟨A1, c1, rfl, o1, b1⟩
  have HX := Lib.hid (Bx.mk_ rfl hb hc0 o1 b1)
  obtain ⟨x0, k0⟩ := HX.out.cel 0 (by omega)
  obtain ⟨x1, k1⟩ := HX.out.cel 1 (by omega)
  obtain ⟨x2, k2⟩ := HX.out.cel 2 (by omega)
  obtain ⟨x3, k3⟩ := HX.out.cel 3 (by omega)
  obtain ⟨x4, k4⟩ := HX.out.cel 4 (by omega)
  have kf := HX.out.frz
  have kw := HX.out.wrd
  clear o1 b1 cN hc0
  go_wp2
  exact bodyPost_ret (v := .agg #[.int .i64 3, .slice none 0 0, .int .i64 0, .int .i64 0, .int .i64 0]) (by simp [results, Try.results81, go_sem, k0, k1, k2, k3, k4]) rfl (evPost_mk rfl rfl ⟨by simp [ints], .inl ⟨rfl, rfl⟩⟩ (HX.out.five _ _ _ _ _).2)
set_option maxRecDepth 100000 in
set_option maxHeartbeats 2000000 in
theorem eventOf_no0 (l0 : List UInt8) (b off : Nat) (h0 : l0 ≠ [99, 111, 108, 100]) (h0b : l0 ≠ [99, 117, 116]) (h0c : l0 ≠ [115, 101, 108, 108]) (w : World) (hb : b < w.heap.size) (hc0 : w.cell? ⟨b, off, none⟩ = some (.string ⟨l0.toArray⟩)) :
    Calls Try.prog 81 #[.slice (some ⟨b, off, none⟩) 1 1] w (EvPost (⟨3, [], 0, 0, 0⟩) w) := by
  have cN := fun o => numbersOf_any 0 [] rfl (by simp) (by omega) (some ⟨b, off, none⟩) 0 (w.alloc o) Rd.nil_
  skip
  have q1 : (l0 == [99, 111, 108, 100]) = false := beq_eq_false_iff_ne.2 h0
  have q2 : (l0 == [99, 117, 116]) = false := beq_eq_false_iff_ne.2 h0b
  have q3 : (l0 == [115, 101, 108, 108]) = false := beq_eq_false_iff_ne.2 h0c
  clear h0 h0b h0c
  go_enter Try.func81, Try.ntmps81
  go_wp2_with fail
  refine (cN _).mono ?_
  rintro e w1 ⟨A1, c1, rfl, o1, b1⟩
  have HX := Lib.hid (Bx.mk_ rfl hb hc0 o1 b1)
  obtain ⟨x0, k0⟩ := HX.out.cel 0 (by omega)
  obtain ⟨x1, k1⟩ := HX.out.cel 1 (by omega)
  obtain ⟨x2, k2⟩ := HX.out.cel 2 (by omega)
  obtain ⟨x3, k3⟩ := HX.out.cel 3 (by omega)
  obtain ⟨x4, k4⟩ := HX.out.cel 4 (by omega)
  have kf := HX.out.frz
  have kw := HX.out.wrd
  clear o1 b1 cN hc0
  go_wp2
  exact bodyPost_ret (v := .agg #[.int .i64 3, .slice none 0 0, .int .i64 0, .int .i64 0, .int .i64 0]) (by simp [results, Try.results81, go_sem, k0, k1, k2, k3, k4]) rfl (evPost_mk rfl rfl ⟨by simp [ints], .inl ⟨rfl, rfl⟩⟩ (HX.out.five _ _ _ _ _).2)
set_option maxRecDepth 100000 in
set_option maxHeartbeats 2000000 in
theorem eventOf_sell (n : Nat) (l0 : List UInt8) (ls : List (List UInt8)) (hl : ls.length = n) (hlen : ∀ l ∈ ls, l.length ≤ 4000000) (hn : n ≤ 4000000) (b off c : Nat) (hcap : n + 1 ≤ c ∧ c ≤ maxLen) (hn1 : n = 2) (h0 : l0 = [115, 101, 108, 108]) (w : World) (hb : b < w.heap.size) (hc0 : w.cell? ⟨b, off, none⟩ = some (.string ⟨l0.toArray⟩)) (hrt : Rd w w.heap.size (some ⟨b, off + 1, none⟩) (strs ls)) :
    Calls Try.prog 81 #[.slice (some ⟨b, off, none⟩) (n + 1 : Nat) c] w (EvPost (⟨2, [], 0, at_ (ls.map numW) 0, at_ (ls.map numW) 1⟩) w) := by
  have g1 : (1 : Int) ≤ ((n + 1 : Nat) : Int) := by omega
  have g2 : ((n + 1 : Nat) : Int) ≤ (c : Int) := by omega
  have g3 : n + 1 ≤ c := hcap.1
  clear hcap
  have hbw : ∀ o, Below w.heap.size w (w.alloc o) := fun o => (Below.refl _ _).alloc (Nat.le_refl _) o
  have hrt := fun o => (hrt.below (hbw o)).more (hbw o).size
  have cN := fun o => numbersOf_any n ls hl hlen hn _ (c - 1) (w.alloc o) (hrt o)
  have hzl : (ls.map numW).length = n := by rw [List.length_map]; exact hl
  generalize hzs : ls.map numW = zs at *
  clear hzs hn hlen hl
  have hc1 : ¬ c = 1 := by omega
  subst h0 hn1
  go_enter Try.func81, Try.ntmps81
  go_wp2_with fail
  refine (cN _).mono ?_
  rintro e w1 ⟨A1, c1, rfl, o1, b1⟩
  have HX := Lib.hid (Bx.mk_ rfl hb hc0 o1 b1)
  obtain ⟨x0, k0⟩ := HX.out.cel 0 (by omega)
  obtain ⟨x1, k1⟩ := HX.out.cel 1 (by omega)
  obtain ⟨x2, k2⟩ := HX.out.cel 2 (by omega)
  obtain ⟨x3, k3⟩ := HX.out.cel 3 (by omega)
  obtain ⟨x4, k4⟩ := HX.out.cel 4 (by omega)
  have kf := HX.out.frz
  have kw := HX.out.wrd
  clear o1 b1 cN hrt hbw hc0
  obtain ⟨g, hA, hg, hgl, _, _⟩ := own_some HX.out.own (by omega)
  subst hA
  have kz0 := own_cell HX.out.own (ints_at' (zs := zs) (k := 0) (by omega))
  have kz1 := own_cell HX.out.own (ints_at' (zs := zs) (k := 1) (by omega))
  go_wp2
  go_region
  all_goals
    go_wp2
    exact bodyPost_ret (v := .agg #[.int .i64 2, .slice none 0 0, .int .i64 0, .int .i64 (at_ zs 0), .int .i64 (at_ zs 1)]) (by simp [results, Try.results81, go_sem, k0, k1, k2, k3, k4]) rfl (evPost_mk rfl rfl ⟨by simp [ints], .inl ⟨rfl, rfl⟩⟩ (HX.out.five _ _ _ _ _).2.drew)
theorem eventOf_any (ws : List (List UInt8)) (hne : ws ≠ []) (hlen : ∀ l ∈ ws, l.length ≤ 4000000) (hn : ws.length ≤ 4000000) (A : Option Addr) (c : Nat) (hcap : ws.length ≤ c ∧ c ≤ maxLen) (w : World) (hr : Rd w w.heap.size A (strs ws)) :
    Calls Try.prog 81 #[.slice A ws.length c] w (EvPost (evOf ws) w) := by
  match ws, hne with
  | l0 :: ls, _ =>
    obtain ⟨b, off, x, rfl, hb, hz, hc0⟩ := hr.str_ (k := 0) (by simp)
    obtain rfl : l0 = x := by have := hz.out; simpa using this
    rw [Nat.add_zero] at hc0
    have hrt := Rd.tail_ hr
    have hll : ∀ l ∈ ls, l.length ≤ 4000000 := fun l hl => hlen l (List.mem_cons_of_mem _ hl)
    have hcap2 : ls.length + 1 ≤ c ∧ c ≤ maxLen := by simpa using hcap
    have hn2 : ls.length ≤ 4000000 := by simp at hn; omega
    unfold evOf
    simp only [List.head?_cons, List.tail_cons, Option.some.injEq]
    by_cases hc1 : c = 1
    · have hls : ls = [] := List.eq_nil_of_length_eq_zero (by omega)
      subst hls hc1
      by_cases h0 : l0 = coldL
      · rw [if_pos h0]; exact eventOf_cold0 l0 b off h0 w hb hc0
      · rw [if_neg h0]
        by_cases h1 : l0 = cutL
        · rw [if_neg (by simp), if_neg (by simp)]; exact eventOf_cutN0 l0 b off h1 w hb hc0
        · rw [if_neg (by simp), if_neg (by simp)]
          by_cases h2 : l0 = sellL
          · exact eventOf_sellN0 l0 b off h2 w hb hc0
          · exact eventOf_no0 l0 b off h0 h1 h2 w hb hc0
    · by_cases h0 : l0 = coldL
      · rw [if_pos h0]
        exact eventOf_cold _ l0 ls rfl hll hn2 b off c hcap2 hc1 h0 w hb hc0 hrt
      · rw [if_neg h0]
        by_cases h1 : l0 = cutL
        · by_cases h1n : ls.length = 1
          · rw [if_pos ⟨h1, h1n⟩]
            exact eventOf_cut _ l0 ls rfl hll hn2 b off c hcap2 h1n h1 w hb hc0 hrt
          · rw [if_neg (fun h => h1n h.2), if_neg (fun h => by rw [h1] at h; exact absurd h.1 (by decide))]
            exact eventOf_cutN _ l0 ls rfl hll hn2 b off c hcap2 hc1 h1n h1 w hb hc0 hrt
        · rw [if_neg (fun h => h1 h.1)]
          by_cases h2 : l0 = sellL
          · by_cases h2n : ls.length = 2
            · rw [if_pos ⟨h2, h2n⟩]
              exact eventOf_sell _ l0 ls rfl hll hn2 b off c hcap2 h2n h2 w hb hc0 hrt
            · rw [if_neg (fun h => h2n h.2)]
              exact eventOf_sellN _ l0 ls rfl hll hn2 b off c hcap2 hc1 h2n h2 w hb hc0 hrt
          · rw [if_neg (fun h => h2 h.1)]
            exact eventOf_no _ l0 ls rfl hll hn2 b off c hcap2 hc1 h0 h1 h2 w hb hc0 hrt

end Go.Proofs.Ytggdnpaiaijhgaa

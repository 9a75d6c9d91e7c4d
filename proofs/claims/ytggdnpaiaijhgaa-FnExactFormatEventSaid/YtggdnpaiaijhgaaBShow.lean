/- Chapter 8: the text of an event, of the model. -/
import Derived.BigQuiet
import Derived.Test.YtggdnpaiaijhgaaBFmt
import Derived.Test.YtggdnpaiaijhgaaTemps
import Derived.Test.YtggdnpaiaijhgaaRuns
import Derived.Test.YtggdnpaiaijhgaaReader
import Derived.Test.YtggdnpaiaijhgaaGrid
namespace Go.Proofs.Ytggdnpaiaijhgaa
open Go.RowKit
set_option linter.unusedVariables false
set_option linter.unusedSimpArgs false
theorem inS_is {n a b : Int} {q : Bool} (h : inB n a b = q) (w : World) :
    Calls Try.prog 61 #[.int .i64 n, .int .i64 a, .int .i64 b] w fun e w' => e = .returned (.bool q) ∧ w = w' := by
  rw [← h]; exact inRange_any n a b w
theorem allT_is {q : Bool} (n : Nat) (zs : List Int) (hn : zs.length = n) (A : Option Addr) (c : Nat) (w : World) (B : Nat) (hr : Rd w B A (ints zs)) (hm : n ≤ 1048576) (h : zs.all (fun z => inB z (-999999) 999999) = q) :
    Calls Try.prog 85 #[.slice A n c, .int .i64 (-999999), .int .i64 999999] w fun e w' => e = .returned (.bool q) ∧ w = w' := by
  subst hn
  rw [← h]; exact allIn_any zs A c w B hr _ _ hm
set_option maxRecDepth 100000 in
set_option maxHeartbeats 1000000 in
theorem sShow_x (k : Int) (ts : List Int) (x n p : Int) (m : Nat) (hl : ts.length = m) (A : Option Addr) (c : Nat) (w : World) (hr : Rd w w.heap.size A (ints ts)) (hm : m ≤ 1048576) (hx : inB x 0 999999 = false) :
    Calls Try.prog 77 #[.agg #[.int .i64 k, .slice A m c, .int .i64 x, .int .i64 n, .int .i64 p]] w (FmPost ([]) w) := by
  have hbw : ∀ o, Below w.heap.size w (w.alloc o) := fun o => (Below.refl _ _).alloc (Nat.le_refl _) o
  have cA := fun q (h : ts.all (fun z => inB z (-999999) 999999) = q) o => allT_is (q := q) m ts hl A c (w.alloc o) _ ((hr.below (hbw o)).more (hbw o).size) hm h
  have cx := inS_is hx
  have HB := Lib.hid (hbw (.cells #[.int .i64 k, .slice A m c, .int .i64 x, .int .i64 n, .int .i64 p] 43))
  go_enter Try.func77, Try.ntmps77
  go_wp2_with fail
  refine (cx _).mono ?_
  rintro e w' ⟨rfl, rfl⟩
  go_wp2
  go_ret
  exact ⟨rfl, HB.out⟩
set_option maxRecDepth 100000 in
set_option maxHeartbeats 1000000 in
theorem sShow_n (k : Int) (ts : List Int) (x n p : Int) (m : Nat) (hl : ts.length = m) (A : Option Addr) (c : Nat) (w : World) (hr : Rd w w.heap.size A (ints ts)) (hm : m ≤ 1048576) (hx : inB x 0 999999 = true) (hn : inB n 0 999999 = false) :
    Calls Try.prog 77 #[.agg #[.int .i64 k, .slice A m c, .int .i64 x, .int .i64 n, .int .i64 p]] w (FmPost ([]) w) := by
  have hbw : ∀ o, Below w.heap.size w (w.alloc o) := fun o => (Below.refl _ _).alloc (Nat.le_refl _) o
  have cA := fun q (h : ts.all (fun z => inB z (-999999) 999999) = q) o => allT_is (q := q) m ts hl A c (w.alloc o) _ ((hr.below (hbw o)).more (hbw o).size) hm h
  have cx := inS_is hx
  have cn := inS_is hn
  have HB := Lib.hid (hbw (.cells #[.int .i64 k, .slice A m c, .int .i64 x, .int .i64 n, .int .i64 p] 43))
  go_enter Try.func77, Try.ntmps77
  go_wp2_with fail
  refine (cx _).mono ?_
  rintro e w' ⟨rfl, rfl⟩
  go_wp2_with fail
  refine (cn _).mono ?_
  rintro e w' ⟨rfl, rfl⟩
  go_wp2
  go_ret
  exact ⟨rfl, HB.out⟩
set_option maxRecDepth 100000 in
set_option maxHeartbeats 1000000 in
theorem sShow_p (k : Int) (ts : List Int) (x n p : Int) (m : Nat) (hl : ts.length = m) (A : Option Addr) (c : Nat) (w : World) (hr : Rd w w.heap.size A (ints ts)) (hm : m ≤ 1048576) (hx : inB x 0 999999 = true) (hn : inB n 0 999999 = true) (hp : inB p 0 999999 = false) :
    Calls Try.prog 77 #[.agg #[.int .i64 k, .slice A m c, .int .i64 x, .int .i64 n, .int .i64 p]] w (FmPost ([]) w) := by
  have hbw : ∀ o, Below w.heap.size w (w.alloc o) := fun o => (Below.refl _ _).alloc (Nat.le_refl _) o
  have cA := fun q (h : ts.all (fun z => inB z (-999999) 999999) = q) o => allT_is (q := q) m ts hl A c (w.alloc o) _ ((hr.below (hbw o)).more (hbw o).size) hm h
  have cx := inS_is hx
  have cn := inS_is hn
  have cp := inS_is hp
  have HB := Lib.hid (hbw (.cells #[.int .i64 k, .slice A m c, .int .i64 x, .int .i64 n, .int .i64 p] 43))
  go_enter Try.func77, Try.ntmps77
  go_wp2_with fail
  refine (cx _).mono ?_
  rintro e w' ⟨rfl, rfl⟩
  go_wp2_with fail
  refine (cn _).mono ?_
  rintro e w' ⟨rfl, rfl⟩
  go_wp2_with fail
  refine (cp _).mono ?_
  rintro e w' ⟨rfl, rfl⟩
  go_wp2
  go_ret
  exact ⟨rfl, HB.out⟩
set_option maxRecDepth 100000 in
set_option maxHeartbeats 1000000 in
theorem sShow_t (k : Int) (ts : List Int) (x n p : Int) (m : Nat) (hl : ts.length = m) (A : Option Addr) (c : Nat) (w : World) (hr : Rd w w.heap.size A (ints ts)) (hm : m ≤ 1048576) (hx : inB x 0 999999 = true) (hn : inB n 0 999999 = true) (hp : inB p 0 999999 = true) (ht : okTs ts = false) :
    Calls Try.prog 77 #[.agg #[.int .i64 k, .slice A m c, .int .i64 x, .int .i64 n, .int .i64 p]] w (FmPost ([]) w) := by
  have hbw : ∀ o, Below w.heap.size w (w.alloc o) := fun o => (Below.refl _ _).alloc (Nat.le_refl _) o
  have cA := fun q (h : ts.all (fun z => inB z (-999999) 999999) = q) o => allT_is (q := q) m ts hl A c (w.alloc o) _ ((hr.below (hbw o)).more (hbw o).size) hm h
  have cx := inS_is hx
  have cn := inS_is hn
  have cp := inS_is hp
  have ct := cA _ ht
  have HB := Lib.hid (hbw (.cells #[.int .i64 k, .slice A m c, .int .i64 x, .int .i64 n, .int .i64 p] 43))
  go_enter Try.func77, Try.ntmps77
  go_wp2_with fail
  refine (cx _).mono ?_
  rintro e w' ⟨rfl, rfl⟩
  go_wp2_with fail
  refine (cn _).mono ?_
  rintro e w' ⟨rfl, rfl⟩
  go_wp2_with fail
  refine (cp _).mono ?_
  rintro e w' ⟨rfl, rfl⟩
  go_wp2_with fail
  refine (ct _).mono ?_
  rintro e w' ⟨rfl, rfl⟩
  go_wp2
  go_ret
  exact ⟨rfl, HB.out⟩
set_option maxRecDepth 100000 in
set_option maxHeartbeats 1000000 in
theorem sShow_melt (ts : List Int) (x n p : Int) (m : Nat) (hl : ts.length = m) (A : Option Addr) (c : Nat) (w : World) (hr : Rd w w.heap.size A (ints ts)) (hm : m ≤ 1048576) (hx : inB x 0 999999 = true) (hn : inB n 0 999999 = true) (hp : inB p 0 999999 = true) (ht : okTs ts = true) :
    Calls Try.prog 77 #[.agg #[.int .i64 3, .slice A m c, .int .i64 x, .int .i64 n, .int .i64 p]] w (FmPost (meltL) w) := by
  have hbw : ∀ o, Below w.heap.size w (w.alloc o) := fun o => (Below.refl _ _).alloc (Nat.le_refl _) o
  have cA := fun q (h : ts.all (fun z => inB z (-999999) 999999) = q) o => allT_is (q := q) m ts hl A c (w.alloc o) _ ((hr.below (hbw o)).more (hbw o).size) hm h
  have cx := inS_is hx
  have cn := inS_is hn
  have cp := inS_is hp
  have ct := cA _ ht
  have HB := Lib.hid (hbw (.cells #[.int .i64 3, .slice A m c, .int .i64 x, .int .i64 n, .int .i64 p] 43))
  go_enter Try.func77, Try.ntmps77
  go_wp2_with fail
  refine (cx _).mono ?_
  rintro e w' ⟨rfl, rfl⟩
  go_wp2_with fail
  refine (cn _).mono ?_
  rintro e w' ⟨rfl, rfl⟩
  go_wp2_with fail
  refine (cp _).mono ?_
  rintro e w' ⟨rfl, rfl⟩
  go_wp2_with fail
  refine (ct _).mono ?_
  rintro e w' ⟨rfl, rfl⟩
  go_wp2
  go_ret
  exact ⟨rfl, HB.out⟩
set_option maxRecDepth 100000 in
set_option maxHeartbeats 1000000 in
theorem sShow_cut (ts : List Int) (x n p : Int) (m : Nat) (hl : ts.length = m) (A : Option Addr) (c : Nat) (w : World) (hr : Rd w w.heap.size A (ints ts)) (hm : m ≤ 1048576) (hx : inB x 0 999999 = true) (hn : inB n 0 999999 = true) (hp : inB p 0 999999 = true) (ht : okTs ts = true) :
    Calls Try.prog 77 #[.agg #[.int .i64 1, .slice A m c, .int .i64 x, .int .i64 n, .int .i64 p]] w (FmPost (cutL ++ tailL [x]) w) := by
  have hbw : ∀ o, Below w.heap.size w (w.alloc o) := fun o => (Below.refl _ _).alloc (Nat.le_refl _) o
  have cA := fun q (h : ts.all (fun z => inB z (-999999) 999999) = q) o => allT_is (q := q) m ts hl A c (w.alloc o) _ ((hr.below (hbw o)).more (hbw o).size) hm h
  have cx := inS_is hx
  have cn := inS_is hn
  have cp := inS_is hp
  have ct := cA _ ht
  have HB := Lib.hid (hbw (.cells #[.int .i64 1, .slice A m c, .int .i64 x, .int .i64 n, .int .i64 p] 43))
  obtain ⟨y, rfl⟩ := Int.eq_ofNat_of_zero_le (inB_t hx).1
  have cN := fun w => number_any y y (Nat.le_refl _) (by have := (inB_t hx).2; omega) w
  have hres : cutL ++ tailL [(y : Int)] = [99, 117, 116, 32] ++ numL y := by rw [tailL_cons, sgnL_pos, tailL_nil, List.append_nil]; rfl
  rw [hres]
  have hadd := fun w => add_run (P := Try.prog) w [99, 117, 116, 32] (numL y) (by have := numL_len y; have := (inB_t hx).2; simp; omega)
  unfold FmPost str
  unfold str at cN
  generalize numL y = z at *
  generalize hzz : [99, 117, 116, 32] ++ z = zz at *
  clear hzz hres
  go_enter Try.func77, Try.ntmps77
  go_wp2_with fail
  refine (cx _).mono ?_
  rintro e w' ⟨rfl, rfl⟩
  go_wp2_with fail
  refine (cn _).mono ?_
  rintro e w' ⟨rfl, rfl⟩
  go_wp2_with fail
  refine (cp _).mono ?_
  rintro e w' ⟨rfl, rfl⟩
  go_wp2_with fail
  refine (ct _).mono ?_
  rintro e w' ⟨rfl, rfl⟩
  go_wp2_with fail
  refine (cN _).mono ?_
  rintro e w' ⟨rfl, rfl⟩
  go_wp2
  go_ret
  exact ⟨rfl, HB.out⟩
set_option maxRecDepth 100000 in
set_option maxHeartbeats 1000000 in
theorem sShow_sell (ts : List Int) (x n p : Int) (m : Nat) (hl : ts.length = m) (A : Option Addr) (c : Nat) (w : World) (hr : Rd w w.heap.size A (ints ts)) (hm : m ≤ 1048576) (hx : inB x 0 999999 = true) (hn : inB n 0 999999 = true) (hp : inB p 0 999999 = true) (ht : okTs ts = true) :
    Calls Try.prog 77 #[.agg #[.int .i64 2, .slice A m c, .int .i64 x, .int .i64 n, .int .i64 p]] w (FmPost (sellL ++ tailL [n, p]) w) := by
  have hbw : ∀ o, Below w.heap.size w (w.alloc o) := fun o => (Below.refl _ _).alloc (Nat.le_refl _) o
  have cA := fun q (h : ts.all (fun z => inB z (-999999) 999999) = q) o => allT_is (q := q) m ts hl A c (w.alloc o) _ ((hr.below (hbw o)).more (hbw o).size) hm h
  have cx := inS_is hx
  have cn := inS_is hn
  have cp := inS_is hp
  have ct := cA _ ht
  have HB := Lib.hid (hbw (.cells #[.int .i64 2, .slice A m c, .int .i64 x, .int .i64 n, .int .i64 p] 43))
  obtain ⟨y, rfl⟩ := Int.eq_ofNat_of_zero_le (inB_t hn).1
  obtain ⟨v, rfl⟩ := Int.eq_ofNat_of_zero_le (inB_t hp).1
  have cN := fun w => number_any y y (Nat.le_refl _) (by have := (inB_t hn).2; omega) w
  have cM := fun w => number_any v v (Nat.le_refl _) (by have := (inB_t hp).2; omega) w
  have hres : sellL ++ tailL [(y : Int), (v : Int)] = [115, 101, 108, 108, 32] ++ numL y ++ [32] ++ numL v := by rw [tailL_cons, tailL_cons, sgnL_pos, sgnL_pos, tailL_nil, List.append_nil]; simp [sellL]
  rw [hres]
  have hy := numL_len y
  have hv := numL_len v
  have hyb := (inB_t hn).2
  have hvb := (inB_t hp).2
  have hadd := fun w => add_run (P := Try.prog) w [115, 101, 108, 108, 32] (numL y) (by simp; omega)
  have hadd2 := fun w => add_run (P := Try.prog) w ([115, 101, 108, 108, 32] ++ numL y) [32] (by simp; omega)
  have hadd3 := fun w => add_run (P := Try.prog) w ([115, 101, 108, 108, 32] ++ numL y ++ [32]) (numL v) (by simp; omega)
  clear hy hv hyb hvb
  unfold FmPost str
  unfold str at cN cM
  generalize numL y = z1 at *
  generalize numL v = z2 at *
  generalize hz1 : [115, 101, 108, 108, 32] ++ z1 = s1 at *
  generalize hz2 : s1 ++ [32] = s2 at *
  generalize hz3 : s2 ++ z2 = s3 at *
  clear hz1 hz2 hz3 hres
  go_enter Try.func77, Try.ntmps77
  go_wp2_with fail
  refine (cx _).mono ?_
  rintro e w' ⟨rfl, rfl⟩
  go_wp2_with fail
  refine (cn _).mono ?_
  rintro e w' ⟨rfl, rfl⟩
  go_wp2_with fail
  refine (cp _).mono ?_
  rintro e w' ⟨rfl, rfl⟩
  go_wp2_with fail
  refine (ct _).mono ?_
  rintro e w' ⟨rfl, rfl⟩
  go_wp2
  refine wp_region_quiet_lit (by kernel_rfl) (by kernel_rfl) ?_
  repeat (go_big_quiet_step (fail))
  go_big_quiet_step ((go_at_call 110; exact quiet_same (cN _)))
  repeat (go_big_quiet_step (fail))
  go_big_quiet_step ((go_at_call 110; exact quiet_same (cM _)))
  repeat (go_big_quiet_step (fail))
  refine wpQuiet_nil ?_
  intro _ hw'
  obtain ⟨nq, hw''⟩ := hw'
  subst hw''
  go_wp2
  go_ret
  exact ⟨rfl, below_drewN HB.out _⟩
set_option maxRecDepth 100000 in
set_option maxHeartbeats 1000000 in
theorem sShow_cold (ts : List Int) (x n p : Int) (m : Nat) (hl : ts.length = m) (A : Option Addr) (c : Nat) (w : World) (hr : Rd w w.heap.size A (ints ts)) (hm : m ≤ 1048576) (hx : inB x 0 999999 = true) (hn : inB n 0 999999 = true) (hp : inB p 0 999999 = true) (ht : okTs ts = true) :
    Calls Try.prog 77 #[.agg #[.int .i64 0, .slice A m c, .int .i64 x, .int .i64 n, .int .i64 p]] w (FmPost (coldL ++ tailL ts) w) := by
  have hbw : ∀ o, Below w.heap.size w (w.alloc o) := fun o => (Below.refl _ _).alloc (Nat.le_refl _) o
  have cA := fun q (h : ts.all (fun z => inB z (-999999) 999999) = q) o => allT_is (q := q) m ts hl A c (w.alloc o) _ ((hr.below (hbw o)).more (hbw o).size) hm h
  have cx := inS_is hx
  have cn := inS_is hn
  have cp := inS_is hp
  have ct := cA _ ht
  have HB := Lib.hid (hbw (.cells #[.int .i64 0, .slice A m c, .int .i64 x, .int .i64 n, .int .i64 p] 43))
  have HL := Lib.hid hl
  have HK := Lib.hid ht
  clear hl ht
  go_enter Try.func77, Try.ntmps77
  go_wp2_with fail
  refine (cx _).mono ?_
  rintro e w' ⟨rfl, rfl⟩
  go_wp2_with fail
  refine (cn _).mono ?_
  rintro e w' ⟨rfl, rfl⟩
  go_wp2_with fail
  refine (cp _).mono ?_
  rintro e w' ⟨rfl, rfl⟩
  go_wp2_with fail
  refine (ct _).mono ?_
  rintro e w' ⟨rfl, rfl⟩
  go_wp2
  go_loop [3, 4] (fun v i => ∃ j : Nat, j ≤ m ∧ v = .string ⟨(coldL ++ tailL (ts.take j)).toArray⟩ ∧ i = .int .i64 j) (fun _ i => m - (intOf i).toNat)
  case atStart => exact ⟨0, Nat.zero_le _, rfl, rfl⟩
  case round =>
    obtain ⟨j, hj, rfl, rfl⟩ := hrel
    by_cases hlt : j < m
    · obtain ⟨b, off, z, rfl, hb, hz, hc0⟩ := hr.int_ (k := j) (by rw [HL.out]; exact hlt)
      have hc : ∀ o, (w.alloc o).cell? ⟨b, off + j, none⟩ = some (.int .i64 z) := fun o => by rw [World.cell?_alloc_lt w o _ hb]; exact hc0
      have hzb := okTs_at HK.out (List.mem_of_getElem? hz.out)
      have cS := fun w => signed_any z (by omega) (by omega) w
      have hlen := tailL_len (okTs_take HK.out j)
      rw [List.length_take, HL.out] at hlen
      have hlm : min j m * 1000003 ≤ 1048576 * 1000003 := Nat.mul_le_mul_right _ (by omega)
      have hsl := sgnL_len z
      have h4 : coldL.length = 4 := rfl
      have a1 := fun w => add_run (P := Try.prog) w (coldL ++ tailL (ts.take j)) [32] (by rw [List.length_append]; simp; omega)
      have a2 := fun w => add_run (P := Try.prog) w (coldL ++ tailL (ts.take j) ++ [32]) (sgnL z) (by rw [List.length_append, List.length_append]; simp; omega)
      have HN : Hid (coldL ++ tailL (ts.take (j + 1)) = coldL ++ tailL (ts.take j) ++ [32] ++ sgnL z) := Lib.hid (by rw [take_snoc hz.out, tailL_snoc]; simp)
      unfold str at cS
      clear hlen hlm hsl h4 hc0
      generalize coldL ++ tailL (ts.take j) = s1 at *
      generalize sgnL z = s2 at *
      generalize hg1 : s1 ++ [32] = s3 at *
      generalize hg2 : s3 ++ s2 = s4 at *
      clear hg1 hg2
      go_wp2_with fail
      refine (cS _).mono ?_
      rintro e w' ⟨rfl, rfl⟩
      go_wp2
      go_round
      case rel => exact ⟨j + 1, by omega, by rw [HN.out], by go_num⟩
      case measure => simp [intOf]; omega
    · obtain rfl : j = m := by omega
      rw [List.take_of_length_le (by rw [HL.out]; exact Nat.le_refl _)]
      unfold FmPost str
      generalize coldL ++ tailL ts = t at *
      go_wp2
      go_ret
      exact ⟨rfl, HB.out⟩
set_option maxRecDepth 100000 in
set_option maxHeartbeats 1000000 in
theorem sShow_none (k : Int) (ts : List Int) (x n p : Int) (m : Nat) (hl : ts.length = m) (A : Option Addr) (c : Nat) (w : World) (hr : Rd w w.heap.size A (ints ts)) (hm : m ≤ 1048576) (hx : inB x 0 999999 = true) (hn : inB n 0 999999 = true) (hp : inB p 0 999999 = true) (ht : okTs ts = true) (h0 : k ≠ 0) (h1 : k ≠ 1) (h2 : k ≠ 2) (h3 : k ≠ 3) :
    Calls Try.prog 77 #[.agg #[.int .i64 k, .slice A m c, .int .i64 x, .int .i64 n, .int .i64 p]] w (FmPost ([]) w) := by
  have hbw : ∀ o, Below w.heap.size w (w.alloc o) := fun o => (Below.refl _ _).alloc (Nat.le_refl _) o
  have cA := fun q (h : ts.all (fun z => inB z (-999999) 999999) = q) o => allT_is (q := q) m ts hl A c (w.alloc o) _ ((hr.below (hbw o)).more (hbw o).size) hm h
  have cx := inS_is hx
  have cn := inS_is hn
  have cp := inS_is hp
  have ct := cA _ ht
  have HB := Lib.hid (hbw (.cells #[.int .i64 k, .slice A m c, .int .i64 x, .int .i64 n, .int .i64 p] 43))
  go_enter Try.func77, Try.ntmps77
  go_wp2_with fail
  refine (cx _).mono ?_
  rintro e w' ⟨rfl, rfl⟩
  go_wp2_with fail
  refine (cn _).mono ?_
  rintro e w' ⟨rfl, rfl⟩
  go_wp2_with fail
  refine (cp _).mono ?_
  rintro e w' ⟨rfl, rfl⟩
  go_wp2_with fail
  refine (ct _).mono ?_
  rintro e w' ⟨rfl, rfl⟩
  go_wp2
  go_ret
  exact ⟨rfl, HB.out⟩
theorem sShow_any (e : Ev) (A : Option Addr) (c : Nat) (w : World) (hr : Rd w w.heap.size A (ints e.ts)) (hm : e.ts.length ≤ 1048576) :
    Calls Try.prog 77 #[evV e A c] w (FmPost (showL e) w) := by
  obtain ⟨k, ts, x, n, p⟩ := e
  unfold evV showL
  cases hx : inB x 0 999999
  · rw [if_neg (by unfold evB; simp only; rw [hx]; simp)]
    exact sShow_x k ts x n p _ rfl A c w hr hm hx
  · cases hn : inB n 0 999999
    · rw [if_neg (by unfold evB; simp only; rw [hn]; simp)]
      exact sShow_n k ts x n p _ rfl A c w hr hm hx hn
    · cases hp : inB p 0 999999
      · rw [if_neg (by unfold evB; simp only; rw [hp]; simp)]
        exact sShow_p k ts x n p _ rfl A c w hr hm hx hn hp
      · cases ht : okTs ts
        · rw [if_neg (by unfold evB; simp only; rw [ht]; simp)]
          exact sShow_t k ts x n p _ rfl A c w hr hm hx hn hp ht
        · rw [if_pos (by unfold evB; simp only; rw [hx, hn, hp, ht]; rfl)]
          unfold bodyL
          by_cases h0 : k = 0
          · subst h0; exact sShow_cold ts x n p _ rfl A c w hr hm hx hn hp ht
          · rw [if_neg (show ¬ (⟨k, ts, x, n, p⟩ : Ev).k = 0 from h0)]
            by_cases h1 : k = 1
            · subst h1; exact sShow_cut ts x n p _ rfl A c w hr hm hx hn hp ht
            · rw [if_neg (show ¬ (⟨k, ts, x, n, p⟩ : Ev).k = 1 from h1)]
              by_cases h2 : k = 2
              · subst h2; exact sShow_sell ts x n p _ rfl A c w hr hm hx hn hp ht
              · rw [if_neg (show ¬ (⟨k, ts, x, n, p⟩ : Ev).k = 2 from h2)]
                by_cases h3 : k = 3
                · subst h3; exact sShow_melt ts x n p _ rfl A c w hr hm hx hn hp ht
                · rw [if_neg (show ¬ (⟨k, ts, x, n, p⟩ : Ev).k = 3 from h3)]
                  exact sShow_none k ts x n p _ rfl A c w hr hm hx hn hp ht h0 h1 h2 h3

end Go.Proofs.Ytggdnpaiaijhgaa

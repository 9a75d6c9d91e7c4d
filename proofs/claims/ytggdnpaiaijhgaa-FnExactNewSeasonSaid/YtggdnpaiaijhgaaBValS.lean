/- Chapter 8: which seasons are valid, of the model and of the program. -/
import Derived.Test.YtggdnpaiaijhgaaBSeaW
import Derived.Test.YtggdnpaiaijhgaaValid
import Derived.Test.YtggdnpaiaijhgaaValidS
import Derived.Test.YtggdnpaiaijhgaaHBoxI
namespace Go.Proofs.Ytggdnpaiaijhgaa
open Go.RowKit
set_option linter.unusedVariables false
set_option linter.unusedSimpArgs false
theorem mul_bd {W D : Int} (hW : inB W 1 9 = true) (hD : inB D 1 9 = true) : 1 ≤ W * D ∧ W * D ≤ 81 := by
  have h1 := inB_t hW
  have h2 := inB_t hD
  have a1 : W * D ≤ 9 * 9 := Int.mul_le_mul h1.2 h2.2 (by omega) (by omega)
  have a2 : 1 * 1 ≤ W * D := Int.mul_le_mul h1.1 h2.1 (by omega) (by omega)
  omega
def VsPost (q : Bool) (w : World) (e : Ending) (w' : World) : Prop := e = .returned (.bool q) ∧ Below w.heap.size w w'
theorem sold_is {z : Int} {q : Bool} (h : inB z 0 100000 = q) (w : World) : Calls Try.prog 58 #[.int .i64 z] w fun e w' => e = .returned (.bool q) ∧ w = w' := by
  cases q
  · by_cases h0 : 0 ≤ z
    · have h1 : ¬ z ≤ 100000 := fun g => inB_f h ⟨h0, g⟩
      go_enter Try.func58, Try.ntmps58
      go_wp2
      go_ret
      exact ⟨rfl, rfl⟩
    · skip
      go_enter Try.func58, Try.ntmps58
      go_wp2
      go_ret
      exact ⟨rfl, rfl⟩
  · obtain ⟨h0, h1⟩ := inB_t h
    go_enter Try.func58, Try.ntmps58
    go_wp2
    go_ret
    exact ⟨rfl, rfl⟩
set_option maxRecDepth 100000 in
set_option maxHeartbeats 1000000 in
theorem sVs_hp (pp : List (List Int)) (W D st so lo cu mo : Int) (A : Option Addr) (c : Nat) (w : World) (hg : RdG w w.heap.size A pp) (hn : pp.length ≤ 1048576) (m : Nat) (hm : pp.length = m)  (hp : pondB pp = false) :
    Calls Try.prog 55 #[.agg #[.slice A m c, .int .i64 W, .int .i64 D, .int .i64 st, .int .i64 so, .int .i64 lo, .int .i64 cu, .int .i64 mo]] w (VsPost false w) := by
  have hV := fun o => sVal_is pp A c (w.alloc o) _ ((hg.below (below1 o)).more (below1 o).size) hn hp
  rw [hm] at hV
  have HV := Lib.hid hV
  clear hV hg hn hm
  go_enter Try.func55, Try.ntmps55
  go_wp2_with fail
  refine (HV.out _).mono ?_
  rintro e w' ⟨rfl, nv, rfl⟩
  go_wp2
  go_ret
  exact ⟨rfl, below_drewN (below1 _) _⟩
set_option maxRecDepth 100000 in
set_option maxHeartbeats 1000000 in
theorem sVs_hW (pp : List (List Int)) (W D st so lo cu mo : Int) (A : Option Addr) (c : Nat) (w : World) (hg : RdG w w.heap.size A pp) (hn : pp.length ≤ 1048576) (m : Nat) (hm : pp.length = m) (hp : pondB pp = true) (hW : inB W 1 9 = false) :
    Calls Try.prog 55 #[.agg #[.slice A m c, .int .i64 W, .int .i64 D, .int .i64 st, .int .i64 so, .int .i64 lo, .int .i64 cu, .int .i64 mo]] w (VsPost false w) := by
  have hV := fun o => sVal_is pp A c (w.alloc o) _ ((hg.below (below1 o)).more (below1 o).size) hn hp
  rw [hm] at hV
  have HV := Lib.hid hV
  clear hV hg hn hm
  go_enter Try.func55, Try.ntmps55
  go_wp2_with fail
  refine (HV.out _).mono ?_
  rintro e w' ⟨rfl, nv, rfl⟩
  go_wp2_with fail
  refine (inR_is hW _).mono ?_
  rintro e w' ⟨rfl, rfl⟩
  go_wp2
  go_ret
  exact ⟨rfl, below_drewN (below1 _) _⟩
set_option maxRecDepth 100000 in
set_option maxHeartbeats 1000000 in
theorem sVs_hD (pp : List (List Int)) (W D st so lo cu mo : Int) (A : Option Addr) (c : Nat) (w : World) (hg : RdG w w.heap.size A pp) (hn : pp.length ≤ 1048576) (m : Nat) (hm : pp.length = m) (hp : pondB pp = true) (hW : inB W 1 9 = true) (hD : inB D 1 9 = false) :
    Calls Try.prog 55 #[.agg #[.slice A m c, .int .i64 W, .int .i64 D, .int .i64 st, .int .i64 so, .int .i64 lo, .int .i64 cu, .int .i64 mo]] w (VsPost false w) := by
  have hV := fun o => sVal_is pp A c (w.alloc o) _ ((hg.below (below1 o)).more (below1 o).size) hn hp
  rw [hm] at hV
  have HV := Lib.hid hV
  clear hV hg hn hm
  go_enter Try.func55, Try.ntmps55
  go_wp2_with fail
  refine (HV.out _).mono ?_
  rintro e w' ⟨rfl, nv, rfl⟩
  go_wp2_with fail
  refine (inR_is hW _).mono ?_
  rintro e w' ⟨rfl, rfl⟩
  go_wp2_with fail
  refine (inR_is hD _).mono ?_
  rintro e w' ⟨rfl, rfl⟩
  go_wp2
  go_ret
  exact ⟨rfl, below_drewN (below1 _) _⟩
set_option maxRecDepth 100000 in
set_option maxHeartbeats 1000000 in
theorem sVs_hs (pp : List (List Int)) (W D st so lo cu mo : Int) (A : Option Addr) (c : Nat) (w : World) (hg : RdG w w.heap.size A pp) (hn : pp.length ≤ 1048576) (m : Nat) (hm : pp.length = m) (hp : pondB pp = true) (hW : inB W 1 9 = true) (hD : inB D 1 9 = true) (hs : inB st 0 (W * D * 12) = false) :
    Calls Try.prog 55 #[.agg #[.slice A m c, .int .i64 W, .int .i64 D, .int .i64 st, .int .i64 so, .int .i64 lo, .int .i64 cu, .int .i64 mo]] w (VsPost false w) := by
  have hV := fun o => sVal_is pp A c (w.alloc o) _ ((hg.below (below1 o)).more (below1 o).size) hn hp
  rw [hm] at hV
  have HV := Lib.hid hV
  clear hV hg hn hm
  have hmb := mul_bd hW hD
  obtain ⟨wd, hwd⟩ : ∃ wd, W * D = wd := ⟨_, rfl⟩
  rw [hwd] at hs hmb
  go_enter Try.func55, Try.ntmps55
  go_wp2_with fail
  refine (HV.out _).mono ?_
  rintro e w' ⟨rfl, nv, rfl⟩
  go_wp2_with fail
  refine (inR_is hW _).mono ?_
  rintro e w' ⟨rfl, rfl⟩
  go_wp2_with fail
  refine (inR_is hD _).mono ?_
  rintro e w' ⟨rfl, rfl⟩
  go_wp2_with fail
  refine (inR_is hs _).mono ?_
  rintro e w' ⟨rfl, rfl⟩
  go_wp2
  go_ret
  exact ⟨rfl, below_drewN (below1 _) _⟩
set_option maxRecDepth 100000 in
set_option maxHeartbeats 1000000 in
theorem sVs_h4 (pp : List (List Int)) (W D st so lo cu mo : Int) (A : Option Addr) (c : Nat) (w : World) (hg : RdG w w.heap.size A pp) (hn : pp.length ≤ 1048576) (m : Nat) (hm : pp.length = m) (hp : pondB pp = true) (hW : inB W 1 9 = true) (hD : inB D 1 9 = true) (hs : inB st 0 (W * D * 12) = true) (h4 : inB so 0 100000 = false) :
    Calls Try.prog 55 #[.agg #[.slice A m c, .int .i64 W, .int .i64 D, .int .i64 st, .int .i64 so, .int .i64 lo, .int .i64 cu, .int .i64 mo]] w (VsPost false w) := by
  have hV := fun o => sVal_is pp A c (w.alloc o) _ ((hg.below (below1 o)).more (below1 o).size) hn hp
  rw [hm] at hV
  have HV := Lib.hid hV
  clear hV hg hn hm
  have hmb := mul_bd hW hD
  obtain ⟨wd, hwd⟩ : ∃ wd, W * D = wd := ⟨_, rfl⟩
  rw [hwd] at hs hmb
  go_enter Try.func55, Try.ntmps55
  go_wp2_with fail
  refine (HV.out _).mono ?_
  rintro e w' ⟨rfl, nv, rfl⟩
  go_wp2_with fail
  refine (inR_is hW _).mono ?_
  rintro e w' ⟨rfl, rfl⟩
  go_wp2_with fail
  refine (inR_is hD _).mono ?_
  rintro e w' ⟨rfl, rfl⟩
  go_wp2_with fail
  refine (inR_is hs _).mono ?_
  rintro e w' ⟨rfl, rfl⟩
  go_wp2_with fail
  refine (inR_is h4 _).mono ?_
  rintro e w' ⟨rfl, rfl⟩
  go_wp2
  go_ret
  exact ⟨rfl, below_drewN (below1 _) _⟩
set_option maxRecDepth 100000 in
set_option maxHeartbeats 1000000 in
theorem sVs_h5 (pp : List (List Int)) (W D st so lo cu mo : Int) (A : Option Addr) (c : Nat) (w : World) (hg : RdG w w.heap.size A pp) (hn : pp.length ≤ 1048576) (m : Nat) (hm : pp.length = m) (hp : pondB pp = true) (hW : inB W 1 9 = true) (hD : inB D 1 9 = true) (hs : inB st 0 (W * D * 12) = true) (h4 : inB so 0 100000 = true) (h5 : inB lo 0 100000 = false) :
    Calls Try.prog 55 #[.agg #[.slice A m c, .int .i64 W, .int .i64 D, .int .i64 st, .int .i64 so, .int .i64 lo, .int .i64 cu, .int .i64 mo]] w (VsPost false w) := by
  have hV := fun o => sVal_is pp A c (w.alloc o) _ ((hg.below (below1 o)).more (below1 o).size) hn hp
  rw [hm] at hV
  have HV := Lib.hid hV
  clear hV hg hn hm
  have hmb := mul_bd hW hD
  obtain ⟨wd, hwd⟩ : ∃ wd, W * D = wd := ⟨_, rfl⟩
  rw [hwd] at hs hmb
  go_enter Try.func55, Try.ntmps55
  go_wp2_with fail
  refine (HV.out _).mono ?_
  rintro e w' ⟨rfl, nv, rfl⟩
  go_wp2_with fail
  refine (inR_is hW _).mono ?_
  rintro e w' ⟨rfl, rfl⟩
  go_wp2_with fail
  refine (inR_is hD _).mono ?_
  rintro e w' ⟨rfl, rfl⟩
  go_wp2_with fail
  refine (inR_is hs _).mono ?_
  rintro e w' ⟨rfl, rfl⟩
  go_wp2_with fail
  refine (inR_is h4 _).mono ?_
  rintro e w' ⟨rfl, rfl⟩
  go_wp2_with fail
  refine (inR_is h5 _).mono ?_
  rintro e w' ⟨rfl, rfl⟩
  go_wp2
  go_ret
  exact ⟨rfl, below_drewN (below1 _) _⟩
set_option maxRecDepth 100000 in
set_option maxHeartbeats 1000000 in
theorem sVs_h6 (pp : List (List Int)) (W D st so lo cu mo : Int) (A : Option Addr) (c : Nat) (w : World) (hg : RdG w w.heap.size A pp) (hn : pp.length ≤ 1048576) (m : Nat) (hm : pp.length = m) (hp : pondB pp = true) (hW : inB W 1 9 = true) (hD : inB D 1 9 = true) (hs : inB st 0 (W * D * 12) = true) (h4 : inB so 0 100000 = true) (h5 : inB lo 0 100000 = true) (h6 : inB cu 0 100000 = false) :
    Calls Try.prog 55 #[.agg #[.slice A m c, .int .i64 W, .int .i64 D, .int .i64 st, .int .i64 so, .int .i64 lo, .int .i64 cu, .int .i64 mo]] w (VsPost false w) := by
  have hV := fun o => sVal_is pp A c (w.alloc o) _ ((hg.below (below1 o)).more (below1 o).size) hn hp
  rw [hm] at hV
  have HV := Lib.hid hV
  clear hV hg hn hm
  have hmb := mul_bd hW hD
  obtain ⟨wd, hwd⟩ : ∃ wd, W * D = wd := ⟨_, rfl⟩
  rw [hwd] at hs hmb
  go_enter Try.func55, Try.ntmps55
  go_wp2_with fail
  refine (HV.out _).mono ?_
  rintro e w' ⟨rfl, nv, rfl⟩
  go_wp2_with fail
  refine (inR_is hW _).mono ?_
  rintro e w' ⟨rfl, rfl⟩
  go_wp2_with fail
  refine (inR_is hD _).mono ?_
  rintro e w' ⟨rfl, rfl⟩
  go_wp2_with fail
  refine (inR_is hs _).mono ?_
  rintro e w' ⟨rfl, rfl⟩
  go_wp2_with fail
  refine (inR_is h4 _).mono ?_
  rintro e w' ⟨rfl, rfl⟩
  go_wp2_with fail
  refine (inR_is h5 _).mono ?_
  rintro e w' ⟨rfl, rfl⟩
  go_wp2_with fail
  refine (inR_is h6 _).mono ?_
  rintro e w' ⟨rfl, rfl⟩
  go_wp2
  go_ret
  exact ⟨rfl, below_drewN (below1 _) _⟩
set_option maxRecDepth 100000 in
set_option maxHeartbeats 1000000 in
theorem sVs_h7 (pp : List (List Int)) (W D st so lo cu mo : Int) (A : Option Addr) (c : Nat) (w : World) (hg : RdG w w.heap.size A pp) (hn : pp.length ≤ 1048576) (m : Nat) (hm : pp.length = m) (hp : pondB pp = true) (hW : inB W 1 9 = true) (hD : inB D 1 9 = true) (hs : inB st 0 (W * D * 12) = true) (h4 : inB so 0 100000 = true) (h5 : inB lo 0 100000 = true) (h6 : inB cu 0 100000 = true) (h7 : inB mo 0 9000000 = false) :
    Calls Try.prog 55 #[.agg #[.slice A m c, .int .i64 W, .int .i64 D, .int .i64 st, .int .i64 so, .int .i64 lo, .int .i64 cu, .int .i64 mo]] w (VsPost false w) := by
  have hV := fun o => sVal_is pp A c (w.alloc o) _ ((hg.below (below1 o)).more (below1 o).size) hn hp
  rw [hm] at hV
  have HV := Lib.hid hV
  clear hV hg hn hm
  have hmb := mul_bd hW hD
  obtain ⟨wd, hwd⟩ : ∃ wd, W * D = wd := ⟨_, rfl⟩
  rw [hwd] at hs hmb
  go_enter Try.func55, Try.ntmps55
  go_wp2_with fail
  refine (HV.out _).mono ?_
  rintro e w' ⟨rfl, nv, rfl⟩
  go_wp2_with fail
  refine (inR_is hW _).mono ?_
  rintro e w' ⟨rfl, rfl⟩
  go_wp2_with fail
  refine (inR_is hD _).mono ?_
  rintro e w' ⟨rfl, rfl⟩
  go_wp2_with fail
  refine (inR_is hs _).mono ?_
  rintro e w' ⟨rfl, rfl⟩
  go_wp2_with fail
  refine (inR_is h4 _).mono ?_
  rintro e w' ⟨rfl, rfl⟩
  go_wp2_with fail
  refine (inR_is h5 _).mono ?_
  rintro e w' ⟨rfl, rfl⟩
  go_wp2_with fail
  refine (inR_is h6 _).mono ?_
  rintro e w' ⟨rfl, rfl⟩
  go_wp2_with fail
  refine (inR_is h7 _).mono ?_
  rintro e w' ⟨rfl, rfl⟩
  go_wp2
  go_ret
  exact ⟨rfl, below_drewN (below1 _) _⟩
set_option maxRecDepth 100000 in
set_option maxHeartbeats 1000000 in
theorem sVs_ok (pp : List (List Int)) (W D st so lo cu mo : Int) (A : Option Addr) (c : Nat) (w : World) (hg : RdG w w.heap.size A pp) (hn : pp.length ≤ 1048576) (m : Nat) (hm : pp.length = m) (hp : pondB pp = true) (hW : inB W 1 9 = true) (hD : inB D 1 9 = true) (hs : inB st 0 (W * D * 12) = true) (h4 : inB so 0 100000 = true) (h5 : inB lo 0 100000 = true) (h6 : inB cu 0 100000 = true) (h7 : inB mo 0 9000000 = true) (q : Bool) (hq : decide (st + so + lo = cu) = q) :
    Calls Try.prog 55 #[.agg #[.slice A m c, .int .i64 W, .int .i64 D, .int .i64 st, .int .i64 so, .int .i64 lo, .int .i64 cu, .int .i64 mo]] w (VsPost q w) := by
  have hV := fun o => sVal_is pp A c (w.alloc o) _ ((hg.below (below1 o)).more (below1 o).size) hn hp
  rw [hm] at hV
  have HV := Lib.hid hV
  clear hV hg hn hm
  have hmb := mul_bd hW hD
  obtain ⟨wd, hwd⟩ : ∃ wd, W * D = wd := ⟨_, rfl⟩
  rw [hwd] at hs hmb
  have b4 := inB_t h4
  have b5 := inB_t h5
  have b6 := inB_t h6
  have bs := inB_t hs
  go_enter Try.func55, Try.ntmps55
  go_wp2_with fail
  refine (HV.out _).mono ?_
  rintro e w' ⟨rfl, nv, rfl⟩
  go_wp2_with fail
  refine (inR_is hW _).mono ?_
  rintro e w' ⟨rfl, rfl⟩
  go_wp2_with fail
  refine (inR_is hD _).mono ?_
  rintro e w' ⟨rfl, rfl⟩
  go_wp2_with fail
  refine (inR_is hs _).mono ?_
  rintro e w' ⟨rfl, rfl⟩
  go_wp2_with fail
  refine (inR_is h4 _).mono ?_
  rintro e w' ⟨rfl, rfl⟩
  go_wp2_with fail
  refine (inR_is h5 _).mono ?_
  rintro e w' ⟨rfl, rfl⟩
  go_wp2_with fail
  refine (inR_is h6 _).mono ?_
  rintro e w' ⟨rfl, rfl⟩
  go_wp2_with fail
  refine (inR_is h7 _).mono ?_
  rintro e w' ⟨rfl, rfl⟩
  cases q
  · have hne : ¬ st + so + lo = cu := of_decide_eq_false hq
    go_wp2
    go_ret
    exact ⟨by first | rfl | simp [hne], below_drewN (below1 _) _⟩
  · have he : st + so + lo = cu := of_decide_eq_true hq
    go_wp2
    go_ret
    exact ⟨by first | rfl | simp [he], below_drewN (below1 _) _⟩
theorem sVs_any (s : Sea) (A : Option Addr) (c : Nat) (w : World) (hg : RdG w w.heap.size A s.pp) (hn : s.pp.length ≤ 1048576) :
    Calls Try.prog 55 #[seaV s A c] w (VsPost (seaB s) w) := by
  obtain ⟨pp, W, D, st, so, lo, cu, mo⟩ := s
  unfold seaV seaB
  simp only at *
  cases hp : pondB pp
  · simp only [Bool.false_and, Bool.true_and, Bool.and_false]; exact sVs_hp pp W D st so lo cu mo A c w hg hn _ rfl hp
  · skip
    cases hW : inB W 1 9
    · simp only [Bool.false_and, Bool.true_and, Bool.and_false]; exact sVs_hW pp W D st so lo cu mo A c w hg hn _ rfl hp hW
    · skip
      cases hD : inB D 1 9
      · simp only [Bool.false_and, Bool.true_and, Bool.and_false]; exact sVs_hD pp W D st so lo cu mo A c w hg hn _ rfl hp hW hD
      · skip
        cases hs : inB st 0 (W * D * 12)
        · simp only [Bool.false_and, Bool.true_and, Bool.and_false]; exact sVs_hs pp W D st so lo cu mo A c w hg hn _ rfl hp hW hD hs
        · skip
          cases h4 : inB so 0 100000
          · simp only [Bool.false_and, Bool.true_and, Bool.and_false]; exact sVs_h4 pp W D st so lo cu mo A c w hg hn _ rfl hp hW hD hs h4
          · skip
            cases h5 : inB lo 0 100000
            · simp only [Bool.false_and, Bool.true_and, Bool.and_false]; exact sVs_h5 pp W D st so lo cu mo A c w hg hn _ rfl hp hW hD hs h4 h5
            · skip
              cases h6 : inB cu 0 100000
              · simp only [Bool.false_and, Bool.true_and, Bool.and_false]; exact sVs_h6 pp W D st so lo cu mo A c w hg hn _ rfl hp hW hD hs h4 h5 h6
              · skip
                cases h7 : inB mo 0 9000000
                · simp only [Bool.false_and, Bool.true_and, Bool.and_false]; exact sVs_h7 pp W D st so lo cu mo A c w hg hn _ rfl hp hW hD hs h4 h5 h6 h7
                · skip
                  simp only [Bool.true_and]
                  exact sVs_ok pp W D st so lo cu mo A c w hg hn _ rfl hp hW hD hs h4 h5 h6 h7 _ rfl
set_option maxRecDepth 100000 in
set_option maxHeartbeats 1000000 in
theorem stock_is {q : Bool} (m : Nat) (W D st so lo cu mo : Int) (A : Option Addr) (c : Nat) (w : World) (h : (inB W 1 9 && (inB D 1 9 && inB st 0 (W * D * 12))) = q) :
    Calls Try.prog 57 #[.agg #[.slice A m c, .int .i64 W, .int .i64 D, .int .i64 st, .int .i64 so, .int .i64 lo, .int .i64 cu, .int .i64 mo]] w (VsPost q w) := by
  cases hh : (inB W 1 9 && inB D 1 9)
  · have hq : q = false := by
      rw [← h]
      cases h1 : inB W 1 9
      · rfl
      · rw [h1] at hh; simp at hh; rw [hh]; rfl
    subst hq
    have cH := fun w => vHouse_is W D w hh
    clear h
    go_enter Try.func57, Try.ntmps57
    go_wp2_with fail
    refine (cH _).mono ?_
    rintro e w' ⟨rfl, rfl⟩
    go_wp2
    go_ret
    exact ⟨rfl, below1 _⟩
  · have hb := hh
    rw [Bool.and_eq_true] at hb
    obtain ⟨hW, hD⟩ := hb
    rw [hW, hD, Bool.true_and, Bool.true_and] at h
    have cH := fun w => vHouse_is W D w hh
    have hmb := mul_bd hW hD
    obtain ⟨wd, hwd⟩ : ∃ wd, W * D = wd := ⟨_, rfl⟩
    rw [hwd] at h hmb
    clear hh hW hD
    cases q
    · by_cases h0 : 0 ≤ st
      · have h1 : ¬ st ≤ wd * 12 := fun g => inB_f h ⟨h0, g⟩
        clear h
        go_enter Try.func57, Try.ntmps57
        go_wp2_with fail
        refine (cH _).mono ?_
        rintro e w' ⟨rfl, rfl⟩
        go_wp2
        go_ret
        refine ⟨?_, below1 _⟩
        show Ending.returned (Value.bool (decide (st ≤ wd * 12))) = _
        rw [decide_eq_false (by omega)]
      · clear h
        go_enter Try.func57, Try.ntmps57
        go_wp2_with fail
        refine (cH _).mono ?_
        rintro e w' ⟨rfl, rfl⟩
        go_wp2
        go_ret
        exact ⟨rfl, below1 _⟩
    · obtain ⟨h0, h1⟩ := inB_t h
      clear h
      go_enter Try.func57, Try.ntmps57
      go_wp2_with fail
      refine (cH _).mono ?_
      rintro e w' ⟨rfl, rfl⟩
      go_wp2
      go_ret
      exact ⟨rfl, below1 _⟩
set_option maxRecDepth 100000 in
set_option maxHeartbeats 1000000 in
theorem iVs_hp (pp : List (List Int)) (W D st so lo cu mo : Int) (A : Option Addr) (c : Nat) (w : World) (hg : RdG w w.heap.size A pp) (m : Nat) (hm : pp.length = m)  (hp : pondB pp = false) :
    Calls Try.prog 16 #[.agg #[.slice A m c, .int .i64 W, .int .i64 D, .int .i64 st, .int .i64 so, .int .i64 lo, .int .i64 cu, .int .i64 mo]] w (VsPost false w) := by
  have hV := fun o => iVal_is pp A c (w.alloc o) _ ((hg.below (below1 o)).more (below1 o).size) hp
  rw [hm] at hV
  have HV := Lib.hid hV
  clear hV hg hm
  go_enter Try.func16, Try.ntmps16
  go_wp2_with fail
  refine (HV.out _).mono ?_
  rintro e w' ⟨rfl, rfl⟩
  go_wp2
  go_ret
  exact ⟨rfl, below1 _⟩
set_option maxRecDepth 100000 in
set_option maxHeartbeats 1000000 in
theorem iVs_hk (pp : List (List Int)) (W D st so lo cu mo : Int) (A : Option Addr) (c : Nat) (w : World) (hg : RdG w w.heap.size A pp) (m : Nat) (hm : pp.length = m) (hp : pondB pp = true) (hk : (inB W 1 9 && (inB D 1 9 && inB st 0 (W * D * 12))) = false) :
    Calls Try.prog 16 #[.agg #[.slice A m c, .int .i64 W, .int .i64 D, .int .i64 st, .int .i64 so, .int .i64 lo, .int .i64 cu, .int .i64 mo]] w (VsPost false w) := by
  have hV := fun o => iVal_is pp A c (w.alloc o) _ ((hg.below (below1 o)).more (below1 o).size) hp
  rw [hm] at hV
  have HV := Lib.hid hV
  clear hV hg hm
  have HK := Lib.hid (fun w => stock_is m W D st so lo cu mo A c w hk)
  clear hk
  go_enter Try.func16, Try.ntmps16
  go_wp2_with fail
  refine (HV.out _).mono ?_
  rintro e w' ⟨rfl, rfl⟩
  go_wp2_with fail
  refine (HK.out _).mono ?_
  rintro e w2 ⟨rfl, b2⟩
  have HB2 := Lib.hid ((below1 _).trans (b2.mono (below1 _).size))
  have HX2 := Lib.hid ((Box8.alloc_ w 27 (v0 := .slice A m c) (v1 := .int .i64 W) (v2 := .int .i64 D) (v3 := .int .i64 st) (v4 := .int .i64 so) (v5 := .int .i64 lo) (v6 := .int .i64 cu) (v7 := .int .i64 mo)).below b2 (by simp))
  obtain ⟨k0, k1, k2, k3, k4, k5, k6, k7, _, _⟩ := HX2.out
  clear b2
  go_wp2
  go_ret
  exact ⟨by first | rfl | simp [*], HB2.out⟩
set_option maxRecDepth 100000 in
set_option maxHeartbeats 1000000 in
theorem iVs_h4 (pp : List (List Int)) (W D st so lo cu mo : Int) (A : Option Addr) (c : Nat) (w : World) (hg : RdG w w.heap.size A pp) (m : Nat) (hm : pp.length = m) (hp : pondB pp = true) (hk : (inB W 1 9 && (inB D 1 9 && inB st 0 (W * D * 12))) = true) (h4 : inB so 0 100000 = false) :
    Calls Try.prog 16 #[.agg #[.slice A m c, .int .i64 W, .int .i64 D, .int .i64 st, .int .i64 so, .int .i64 lo, .int .i64 cu, .int .i64 mo]] w (VsPost false w) := by
  have hV := fun o => iVal_is pp A c (w.alloc o) _ ((hg.below (below1 o)).more (below1 o).size) hp
  rw [hm] at hV
  have HV := Lib.hid hV
  clear hV hg hm
  have HK := Lib.hid (fun w => stock_is m W D st so lo cu mo A c w hk)
  clear hk
  go_enter Try.func16, Try.ntmps16
  go_wp2_with fail
  refine (HV.out _).mono ?_
  rintro e w' ⟨rfl, rfl⟩
  go_wp2_with fail
  refine (HK.out _).mono ?_
  rintro e w2 ⟨rfl, b2⟩
  have HB2 := Lib.hid ((below1 _).trans (b2.mono (below1 _).size))
  have HX2 := Lib.hid ((Box8.alloc_ w 27 (v0 := .slice A m c) (v1 := .int .i64 W) (v2 := .int .i64 D) (v3 := .int .i64 st) (v4 := .int .i64 so) (v5 := .int .i64 lo) (v6 := .int .i64 cu) (v7 := .int .i64 mo)).below b2 (by simp))
  obtain ⟨k0, k1, k2, k3, k4, k5, k6, k7, _, _⟩ := HX2.out
  clear b2
  go_wp2_with fail
  refine (sold_is h4 _).mono ?_
  rintro e w' ⟨rfl, rfl⟩
  go_wp2
  go_ret
  exact ⟨by first | rfl | simp [*], HB2.out⟩
set_option maxRecDepth 100000 in
set_option maxHeartbeats 1000000 in
theorem iVs_h5 (pp : List (List Int)) (W D st so lo cu mo : Int) (A : Option Addr) (c : Nat) (w : World) (hg : RdG w w.heap.size A pp) (m : Nat) (hm : pp.length = m) (hp : pondB pp = true) (hk : (inB W 1 9 && (inB D 1 9 && inB st 0 (W * D * 12))) = true) (h4 : inB so 0 100000 = true) (h5 : inB lo 0 100000 = false) :
    Calls Try.prog 16 #[.agg #[.slice A m c, .int .i64 W, .int .i64 D, .int .i64 st, .int .i64 so, .int .i64 lo, .int .i64 cu, .int .i64 mo]] w (VsPost false w) := by
  have hV := fun o => iVal_is pp A c (w.alloc o) _ ((hg.below (below1 o)).more (below1 o).size) hp
  rw [hm] at hV
  have HV := Lib.hid hV
  clear hV hg hm
  have HK := Lib.hid (fun w => stock_is m W D st so lo cu mo A c w hk)
  clear hk
  go_enter Try.func16, Try.ntmps16
  go_wp2_with fail
  refine (HV.out _).mono ?_
  rintro e w' ⟨rfl, rfl⟩
  go_wp2_with fail
  refine (HK.out _).mono ?_
  rintro e w2 ⟨rfl, b2⟩
  have HB2 := Lib.hid ((below1 _).trans (b2.mono (below1 _).size))
  have HX2 := Lib.hid ((Box8.alloc_ w 27 (v0 := .slice A m c) (v1 := .int .i64 W) (v2 := .int .i64 D) (v3 := .int .i64 st) (v4 := .int .i64 so) (v5 := .int .i64 lo) (v6 := .int .i64 cu) (v7 := .int .i64 mo)).below b2 (by simp))
  obtain ⟨k0, k1, k2, k3, k4, k5, k6, k7, _, _⟩ := HX2.out
  clear b2
  go_wp2_with fail
  refine (sold_is h4 _).mono ?_
  rintro e w' ⟨rfl, rfl⟩
  go_wp2_with fail
  refine (sold_is h5 _).mono ?_
  rintro e w' ⟨rfl, rfl⟩
  go_wp2
  go_ret
  exact ⟨by first | rfl | simp [*], HB2.out⟩
set_option maxRecDepth 100000 in
set_option maxHeartbeats 1000000 in
theorem iVs_h6 (pp : List (List Int)) (W D st so lo cu mo : Int) (A : Option Addr) (c : Nat) (w : World) (hg : RdG w w.heap.size A pp) (m : Nat) (hm : pp.length = m) (hp : pondB pp = true) (hk : (inB W 1 9 && (inB D 1 9 && inB st 0 (W * D * 12))) = true) (h4 : inB so 0 100000 = true) (h5 : inB lo 0 100000 = true) (h6 : inB cu 0 100000 = false) :
    Calls Try.prog 16 #[.agg #[.slice A m c, .int .i64 W, .int .i64 D, .int .i64 st, .int .i64 so, .int .i64 lo, .int .i64 cu, .int .i64 mo]] w (VsPost false w) := by
  have hV := fun o => iVal_is pp A c (w.alloc o) _ ((hg.below (below1 o)).more (below1 o).size) hp
  rw [hm] at hV
  have HV := Lib.hid hV
  clear hV hg hm
  have HK := Lib.hid (fun w => stock_is m W D st so lo cu mo A c w hk)
  clear hk
  go_enter Try.func16, Try.ntmps16
  go_wp2_with fail
  refine (HV.out _).mono ?_
  rintro e w' ⟨rfl, rfl⟩
  go_wp2_with fail
  refine (HK.out _).mono ?_
  rintro e w2 ⟨rfl, b2⟩
  have HB2 := Lib.hid ((below1 _).trans (b2.mono (below1 _).size))
  have HX2 := Lib.hid ((Box8.alloc_ w 27 (v0 := .slice A m c) (v1 := .int .i64 W) (v2 := .int .i64 D) (v3 := .int .i64 st) (v4 := .int .i64 so) (v5 := .int .i64 lo) (v6 := .int .i64 cu) (v7 := .int .i64 mo)).below b2 (by simp))
  obtain ⟨k0, k1, k2, k3, k4, k5, k6, k7, _, _⟩ := HX2.out
  clear b2
  go_wp2_with fail
  refine (sold_is h4 _).mono ?_
  rintro e w' ⟨rfl, rfl⟩
  go_wp2_with fail
  refine (sold_is h5 _).mono ?_
  rintro e w' ⟨rfl, rfl⟩
  go_wp2_with fail
  refine (sold_is h6 _).mono ?_
  rintro e w' ⟨rfl, rfl⟩
  go_wp2
  go_ret
  exact ⟨by first | rfl | simp [*], HB2.out⟩
set_option maxRecDepth 100000 in
set_option maxHeartbeats 1000000 in
theorem iVs_h7 (pp : List (List Int)) (W D st so lo cu mo : Int) (A : Option Addr) (c : Nat) (w : World) (hg : RdG w w.heap.size A pp) (m : Nat) (hm : pp.length = m) (hp : pondB pp = true) (hk : (inB W 1 9 && (inB D 1 9 && inB st 0 (W * D * 12))) = true) (h4 : inB so 0 100000 = true) (h5 : inB lo 0 100000 = true) (h6 : inB cu 0 100000 = true) (h7 : inB mo 0 9000000 = false) :
    Calls Try.prog 16 #[.agg #[.slice A m c, .int .i64 W, .int .i64 D, .int .i64 st, .int .i64 so, .int .i64 lo, .int .i64 cu, .int .i64 mo]] w (VsPost false w) := by
  have hV := fun o => iVal_is pp A c (w.alloc o) _ ((hg.below (below1 o)).more (below1 o).size) hp
  rw [hm] at hV
  have HV := Lib.hid hV
  clear hV hg hm
  have HK := Lib.hid (fun w => stock_is m W D st so lo cu mo A c w hk)
  have b4 := inB_t h4
  have b5 := inB_t h5
  have b6 := inB_t h6
  have bs : 0 ≤ st ∧ st ≤ 972 := by
    rw [Bool.and_eq_true, Bool.and_eq_true] at hk
    have := mul_bd hk.1 hk.2.1
    have := inB_t hk.2.2
    omega
  clear hk
  by_cases h0 : 0 ≤ mo
  · skip
    have h1 : ¬ mo ≤ 9000000 := fun g => inB_f h7 ⟨h0, g⟩
    clear h7
    go_enter Try.func16, Try.ntmps16
    go_wp2_with fail
    refine (HV.out _).mono ?_
    rintro e w' ⟨rfl, rfl⟩
    go_wp2_with fail
    refine (HK.out _).mono ?_
    rintro e w2 ⟨rfl, b2⟩
    have HB2 := Lib.hid ((below1 _).trans (b2.mono (below1 _).size))
    have HX2 := Lib.hid ((Box8.alloc_ w 27 (v0 := .slice A m c) (v1 := .int .i64 W) (v2 := .int .i64 D) (v3 := .int .i64 st) (v4 := .int .i64 so) (v5 := .int .i64 lo) (v6 := .int .i64 cu) (v7 := .int .i64 mo)).below b2 (by simp))
    obtain ⟨k0, k1, k2, k3, k4, k5, k6, k7, _, _⟩ := HX2.out
    clear b2
    go_wp2_with fail
    refine (sold_is h4 _).mono ?_
    rintro e w' ⟨rfl, rfl⟩
    go_wp2_with fail
    refine (sold_is h5 _).mono ?_
    rintro e w' ⟨rfl, rfl⟩
    go_wp2_with fail
    refine (sold_is h6 _).mono ?_
    rintro e w' ⟨rfl, rfl⟩
    go_wp2
    go_ret
    exact ⟨by first | rfl | simp [*], HB2.out⟩
  · skip
    clear h7
    go_enter Try.func16, Try.ntmps16
    go_wp2_with fail
    refine (HV.out _).mono ?_
    rintro e w' ⟨rfl, rfl⟩
    go_wp2_with fail
    refine (HK.out _).mono ?_
    rintro e w2 ⟨rfl, b2⟩
    have HB2 := Lib.hid ((below1 _).trans (b2.mono (below1 _).size))
    have HX2 := Lib.hid ((Box8.alloc_ w 27 (v0 := .slice A m c) (v1 := .int .i64 W) (v2 := .int .i64 D) (v3 := .int .i64 st) (v4 := .int .i64 so) (v5 := .int .i64 lo) (v6 := .int .i64 cu) (v7 := .int .i64 mo)).below b2 (by simp))
    obtain ⟨k0, k1, k2, k3, k4, k5, k6, k7, _, _⟩ := HX2.out
    clear b2
    go_wp2_with fail
    refine (sold_is h4 _).mono ?_
    rintro e w' ⟨rfl, rfl⟩
    go_wp2_with fail
    refine (sold_is h5 _).mono ?_
    rintro e w' ⟨rfl, rfl⟩
    go_wp2_with fail
    refine (sold_is h6 _).mono ?_
    rintro e w' ⟨rfl, rfl⟩
    go_wp2
    go_ret
    exact ⟨by first | rfl | simp [*], HB2.out⟩
set_option maxRecDepth 100000 in
set_option maxHeartbeats 1000000 in
theorem iVs_ok (pp : List (List Int)) (W D st so lo cu mo : Int) (A : Option Addr) (c : Nat) (w : World) (hg : RdG w w.heap.size A pp) (m : Nat) (hm : pp.length = m) (hp : pondB pp = true) (hk : (inB W 1 9 && (inB D 1 9 && inB st 0 (W * D * 12))) = true) (h4 : inB so 0 100000 = true) (h5 : inB lo 0 100000 = true) (h6 : inB cu 0 100000 = true) (h7 : inB mo 0 9000000 = true) (q : Bool) (hq : decide (st + so + lo = cu) = q) :
    Calls Try.prog 16 #[.agg #[.slice A m c, .int .i64 W, .int .i64 D, .int .i64 st, .int .i64 so, .int .i64 lo, .int .i64 cu, .int .i64 mo]] w (VsPost q w) := by
  have hV := fun o => iVal_is pp A c (w.alloc o) _ ((hg.below (below1 o)).more (below1 o).size) hp
  rw [hm] at hV
  have HV := Lib.hid hV
  clear hV hg hm
  have HK := Lib.hid (fun w => stock_is m W D st so lo cu mo A c w hk)
  have b4 := inB_t h4
  have b5 := inB_t h5
  have b6 := inB_t h6
  have bs : 0 ≤ st ∧ st ≤ 972 := by
    rw [Bool.and_eq_true, Bool.and_eq_true] at hk
    have := mul_bd hk.1 hk.2.1
    have := inB_t hk.2.2
    omega
  clear hk
  have b7 := inB_t h7
  cases q
  · skip
    have hne : ¬ st + so + lo = cu := of_decide_eq_false hq
    go_enter Try.func16, Try.ntmps16
    go_wp2_with fail
    refine (HV.out _).mono ?_
    rintro e w' ⟨rfl, rfl⟩
    go_wp2_with fail
    refine (HK.out _).mono ?_
    rintro e w2 ⟨rfl, b2⟩
    have HB2 := Lib.hid ((below1 _).trans (b2.mono (below1 _).size))
    have HX2 := Lib.hid ((Box8.alloc_ w 27 (v0 := .slice A m c) (v1 := .int .i64 W) (v2 := .int .i64 D) (v3 := .int .i64 st) (v4 := .int .i64 so) (v5 := .int .i64 lo) (v6 := .int .i64 cu) (v7 := .int .i64 mo)).below b2 (by simp))
    obtain ⟨k0, k1, k2, k3, k4, k5, k6, k7, _, _⟩ := HX2.out
    clear b2
    go_wp2_with fail
    refine (sold_is h4 _).mono ?_
    rintro e w' ⟨rfl, rfl⟩
    go_wp2_with fail
    refine (sold_is h5 _).mono ?_
    rintro e w' ⟨rfl, rfl⟩
    go_wp2_with fail
    refine (sold_is h6 _).mono ?_
    rintro e w' ⟨rfl, rfl⟩
    go_wp2
    go_ret
    exact ⟨by first | rfl | simp [*], HB2.out⟩
  · skip
    have he : st + so + lo = cu := of_decide_eq_true hq
    go_enter Try.func16, Try.ntmps16
    go_wp2_with fail
    refine (HV.out _).mono ?_
    rintro e w' ⟨rfl, rfl⟩
    go_wp2_with fail
    refine (HK.out _).mono ?_
    rintro e w2 ⟨rfl, b2⟩
    have HB2 := Lib.hid ((below1 _).trans (b2.mono (below1 _).size))
    have HX2 := Lib.hid ((Box8.alloc_ w 27 (v0 := .slice A m c) (v1 := .int .i64 W) (v2 := .int .i64 D) (v3 := .int .i64 st) (v4 := .int .i64 so) (v5 := .int .i64 lo) (v6 := .int .i64 cu) (v7 := .int .i64 mo)).below b2 (by simp))
    obtain ⟨k0, k1, k2, k3, k4, k5, k6, k7, _, _⟩ := HX2.out
    clear b2
    go_wp2_with fail
    refine (sold_is h4 _).mono ?_
    rintro e w' ⟨rfl, rfl⟩
    go_wp2_with fail
    refine (sold_is h5 _).mono ?_
    rintro e w' ⟨rfl, rfl⟩
    go_wp2_with fail
    refine (sold_is h6 _).mono ?_
    rintro e w' ⟨rfl, rfl⟩
    go_wp2
    go_ret
    exact ⟨by first | rfl | simp [*], HB2.out⟩
theorem iVs_any (s : Sea) (A : Option Addr) (c : Nat) (w : World) (hg : RdG w w.heap.size A s.pp) :
    Calls Try.prog 16 #[seaV s A c] w (VsPost (seaB s) w) := by
  obtain ⟨pp, W, D, st, so, lo, cu, mo⟩ := s
  unfold seaV
  have hs : seaB ⟨pp, W, D, st, so, lo, cu, mo⟩ = (pondB pp && ((inB W 1 9 && (inB D 1 9 && inB st 0 (W * D * 12))) && (inB so 0 100000 && (inB lo 0 100000 && (inB cu 0 100000 && (inB mo 0 9000000 && decide (st + so + lo = cu))))))) := by
    unfold seaB
    simp only [Bool.and_assoc]
  rw [hs]
  simp only at *
  cases hp : pondB pp
  · simp only [Bool.false_and, Bool.true_and, Bool.and_false]; exact iVs_hp pp W D st so lo cu mo A c w hg _ rfl hp
  · skip
    cases hk : (inB W 1 9 && (inB D 1 9 && inB st 0 (W * D * 12)))
    · simp only [Bool.false_and, Bool.true_and, Bool.and_false]; exact iVs_hk pp W D st so lo cu mo A c w hg _ rfl hp hk
    · skip
      cases h4 : inB so 0 100000
      · simp only [Bool.false_and, Bool.true_and, Bool.and_false]; exact iVs_h4 pp W D st so lo cu mo A c w hg _ rfl hp hk h4
      · skip
        cases h5 : inB lo 0 100000
        · simp only [Bool.false_and, Bool.true_and, Bool.and_false]; exact iVs_h5 pp W D st so lo cu mo A c w hg _ rfl hp hk h4 h5
        · skip
          cases h6 : inB cu 0 100000
          · simp only [Bool.false_and, Bool.true_and, Bool.and_false]; exact iVs_h6 pp W D st so lo cu mo A c w hg _ rfl hp hk h4 h5 h6
          · skip
            cases h7 : inB mo 0 9000000
            · simp only [Bool.false_and, Bool.true_and, Bool.and_false]; exact iVs_h7 pp W D st so lo cu mo A c w hg _ rfl hp hk h4 h5 h6 h7
            · skip
              simp only [Bool.true_and]
              exact iVs_ok pp W D st so lo cu mo A c w hg _ rfl hp hk h4 h5 h6 h7 _ rfl

end Go.Proofs.Ytggdnpaiaijhgaa

/- Contracts of chapter 7: settled debts, the program. -/
import Derived.Deep.AppendSrc
import Derived.Test.YtiihenhddleooaaTSettle
import Derived.Test.YtiihenhddleooaaTBalS
import Derived.Test.YtiihenhddleooaaTExD
namespace Go.Proofs.Ytiihenhddleooaa
open Go.RowKit
set_option linter.unusedVariables false
set_option linter.unusedSimpArgs false
def fv (p : Int → Bool) (l : List Int) : Int := if fstF p l < l.length then (fstF p l : Nat) else -1
theorem fv_lt {p : Int → Bool} {l : List Int} (h : fstF p l < l.length) : fv p l = (fstF p l : Nat) := by unfold fv; rw [if_pos h]
theorem fv_no {p : Int → Bool} {l : List Int} (h : ¬ fstF p l < l.length) : fv p l = -1 := by unfold fv; rw [if_neg h]
theorem fv_hit {p : Int → Bool} {l : List Int} {i : Nat} (hi : i < l.length) (h : p (at_ l i) = true) (hb : ∀ j, j < i → p (at_ l j) = false) : fv p l = i := by
  have := fstF_hit hi h hb
  rw [fv_lt (by omega), this]
theorem fv_none {p : Int → Bool} {l : List Int} (hb : ∀ j, j < l.length → p (at_ l j) = false) : fv p l = -1 := by
  have := fstF_none hb
  exact fv_no (by omega)
def bdL (l : List Int) : Prop := ∀ i, -200000 ≤ at_ l i ∧ at_ l i ≤ 200000
theorem bdL_bal {cs : List Cu} (h : okV dbV cs = true) : bdL (balL cs) := fun i => by
  by_cases hi : i < 8
  · rw [balL_at_ hi]
    have := balR_to h (i : Int) cs.length
    rwa [List.take_length] at this
  · rw [at_out (by rw [balL_len]; omega)]; omega
theorem bdL_step {l : List Int} (h : bdL l) (hg : goS l = true) : bdL (stepS l) := fun i => by
  obtain ⟨g1, g2, hne⟩ := goS_vals hg
  obtain ⟨a1, a2, a3, _⟩ := amtF_bd hg
  have hi := h i
  rw [stepS_at hg]
  by_cases e1 : i = fstF negB l
  · rw [if_pos e1, if_neg (fun e => hne (e1.symm.trans e))]; rw [e1] at hi ⊢; omega
  · rw [if_neg e1]
    by_cases e2 : i = fstF posB l
    · rw [if_pos e2]; rw [e2] at hi ⊢; omega
    · rw [if_neg e2]; omega
set_option maxHeartbeats 800000 in
theorem iFirst_neg (n : Nat) (hn : n ≤ 1048576) (l : List Int) (hl : l.length = n) (hbd : bdL l) (A : Option Addr) (c : Nat) (w : World) (B : Nat) (hr : Rd w B A (ints l)) :
    Calls Try.prog 56 #[.slice A n c, .int .i64 (-1)] w fun e w' => e = .returned (.int .i64 (fv negB l)) ∧ w = w' := by
  have HL := Lib.hid hl
  have HBD := Lib.hid hbd
  clear hl hbd
  go_enter Try.func56, Try.ntmps56
  go_wp2
  go_loop [9] (fun i => ∃ k : Nat, k ≤ n ∧ i = .int .i64 k ∧ ∀ j, j < k → negB (at_ l j) = false) (fun i => n - (intOf i).toNat)
  case atStart => exact ⟨0, Nat.zero_le _, rfl, fun j h => by omega⟩
  case round =>
    obtain ⟨k, hk, rfl, hno⟩ := hrel
    have HNO := Lib.hid hno
    clear hno
    by_cases hlt : k < n
    · obtain ⟨b, off, z, rfl, hb, hz, hc⟩ := hr.int_ (k := k) (by rw [HL.out]; exact hlt)
      have hbz := HBD.out k
      rw [at_of hz.out] at hbz
      obtain ⟨hz1, hz2⟩ := hbz
      have HZ := Lib.hid (at_of hz.out)
      clear hz
      by_cases hq : z < 0
      · have HT : Hid (fv negB l = k) := Lib.hid (fv_hit (by rw [HL.out]; exact hlt) (by rw [HZ.out]; exact decide_eq_true hq) HNO.out)
        have hpos : decide (0 < -z) = true := decide_eq_true (by omega)
        have hpos2 : 0 < -z := by omega
        go_wp2
        go_ret
        exact ⟨ret_int HT.out.symm, rfl⟩
      · have hpos : decide (0 < -z) = false := decide_eq_false (by omega)
        have hpos2 : -z ≤ 0 := by omega
        go_wp2
        go_round
        case rel => exact ⟨k + 1, by omega, by go_num, fun j hj => by by_cases e : j = k; rw [e, HZ.out]; exact decide_eq_false hq; exact HNO.out j (by omega)⟩
        case measure => first | (simp [intOf]; omega) | simp [intOf]
    · obtain rfl : k = n := by omega
      have HT : Hid (fv negB l = -1) := Lib.hid (fv_none fun j hj => HNO.out j (by rw [HL.out] at hj; exact hj))
      go_wp2
      go_ret
      exact ⟨ret_int HT.out.symm, rfl⟩
set_option maxHeartbeats 800000 in
theorem iFirst_pos (n : Nat) (hn : n ≤ 1048576) (l : List Int) (hl : l.length = n) (hbd : bdL l) (A : Option Addr) (c : Nat) (w : World) (B : Nat) (hr : Rd w B A (ints l)) :
    Calls Try.prog 56 #[.slice A n c, .int .i64 1] w fun e w' => e = .returned (.int .i64 (fv posB l)) ∧ w = w' := by
  have HL := Lib.hid hl
  have HBD := Lib.hid hbd
  clear hl hbd
  go_enter Try.func56, Try.ntmps56
  go_wp2
  go_loop [9] (fun i => ∃ k : Nat, k ≤ n ∧ i = .int .i64 k ∧ ∀ j, j < k → posB (at_ l j) = false) (fun i => n - (intOf i).toNat)
  case atStart => exact ⟨0, Nat.zero_le _, rfl, fun j h => by omega⟩
  case round =>
    obtain ⟨k, hk, rfl, hno⟩ := hrel
    have HNO := Lib.hid hno
    clear hno
    by_cases hlt : k < n
    · obtain ⟨b, off, z, rfl, hb, hz, hc⟩ := hr.int_ (k := k) (by rw [HL.out]; exact hlt)
      have hbz := HBD.out k
      rw [at_of hz.out] at hbz
      obtain ⟨hz1, hz2⟩ := hbz
      have HZ := Lib.hid (at_of hz.out)
      clear hz
      by_cases hq : 0 < z
      · have HT : Hid (fv posB l = k) := Lib.hid (fv_hit (by rw [HL.out]; exact hlt) (by rw [HZ.out]; exact decide_eq_true hq) HNO.out)
        have hpos : decide (0 < z) = true := decide_eq_true (by omega)
        have hpos2 : 0 < z := by omega
        go_wp2
        go_ret
        exact ⟨ret_int HT.out.symm, rfl⟩
      · have hpos : decide (0 < z) = false := decide_eq_false (by omega)
        have hpos2 : z ≤ 0 := by omega
        go_wp2
        go_round
        case rel => exact ⟨k + 1, by omega, by go_num, fun j hj => by by_cases e : j = k; rw [e, HZ.out]; exact decide_eq_false hq; exact HNO.out j (by omega)⟩
        case measure => first | (simp [intOf]; omega) | simp [intOf]
    · obtain rfl : k = n := by omega
      have HT : Hid (fv posB l = -1) := Lib.hid (fv_none fun j hj => HNO.out j (by rw [HL.out] at hj; exact hj))
      go_wp2
      go_ret
      exact ⟨ret_int HT.out.symm, rfl⟩
theorem iLes_any (a b : Int) (w : World) : Calls Try.prog 57 #[.int .i64 a, .int .i64 b] w fun e w' => e = .returned (.int .i64 (if a < b then a else b)) ∧ w = w' := by
  by_cases g : a < b
  · rw [if_pos g]
    go_enter Try.func57, Try.ntmps57
    go_wp2
    go_ret
    exact ⟨rfl, rfl⟩
  · rw [if_neg g]
    have gi : decide (a < b) = false := decide_eq_false g
    go_enter Try.func57, Try.ntmps57
    go_wp2
    go_ret
    exact ⟨rfl, rfl⟩
def OutT (T : TypeId) (l : List Cu) (w : World) (e : Ending) (w' : World) : Prop :=
  ∃ A' c', e = .returned (.slice A' l.length c') ∧ w'.ownsRow w.heap.size T 3 (.slice A' l.length c') l.length (custV l) ∧ Below w.heap.size w w'
theorem outT_mk {T : TypeId} {w w' : World} {n : Nat} {v : Value} {l : List Cu} (hl : l.length = n) (h : w'.ownsRow w.heap.size T 3 v n (custV l)) (hb : Below w.heap.size w w') : OutT T l w (.returned v) w' := by
  subst hl
  obtain ⟨A', c', rfl⟩ := owz_form h
  exact ⟨A', c', rfl, h, hb⟩
/-- both lists behind the two stores of a turn -/
theorem set_two {w : World} {b1 b2 gl f t : Nat} {cl j : Nat} {T T2 : TypeId} {l : List Int} {v : Value} {xs : List Value} (o1 : w.ownsRow b1 T 1 (.slice (some ⟨gl, 0, none⟩) 8 cl) 8 (ints l)) (o2 : w.ownsRow b2 T2 3 v j xs) (hne : v.ownBlock ≠ some gl) (a b : Int) :
    ((w.setCell ⟨gl, f, none⟩ (.int .i64 a)).setCell ⟨gl, t, none⟩ (.int .i64 b)).ownsRow b1 T 1 (.slice (some ⟨gl, 0, none⟩) 8 cl) 8 (ints ((l.set f a).set t b)) ∧ ((w.setCell ⟨gl, f, none⟩ (.int .i64 a)).setCell ⟨gl, t, none⟩ (.int .i64 b)).ownsRow b2 T2 3 v j xs := by
  refine ⟨?_, ?_⟩
  · have := owz_put (owz_put o1 f (.int .i64 a)) t (.int .i64 b)
    rwa [ints_set, ints_set] at this
  · exact owz_grown o2 (only_set (only_set (World.grownBy.refl w (some gl)) (p := ⟨gl, f, none⟩) (.inl rfl) (.int .i64 a)) (p := ⟨gl, t, none⟩) (.inl rfl) (.int .i64 b)) (fun k hk => by injection hk with hk; rw [← hk]; exact hne)
set_option maxHeartbeats 8000000 in
theorem iSet_any (n : Nat) (cs : List Cu) (hl : cs.length = n) (A : Option Addr) (c : Nat) (hn : n ≤ maxLen) (w : World) (hr : Rd w w.heap.size A (custV cs)) :
    Calls Try.prog 24 #[.slice A n c] w (OutT 31 (setT cs) w) := by
  have C := Lib.hid (iVDb_any n cs hl A c hn w hr)
  cases hv : okV dbV cs
  · rw [setT_no hv]
    rw [hv] at C
    clear hr hv
    go_enter Try.func24, Try.ntmps24
    go_wp2_with fail
    refine (C.out).mono ?_
    rintro e w1 ⟨rfl, b1⟩
    go_wp2
    go_ret
    exact ⟨none, 0, rfl, ⟨rfl, .inl ⟨rfl, rfl⟩⟩, b1⟩
  · rw [setT_ok hv]
    rw [hv] at C
    have CB := Lib.hid fun (w1 : World) (b1 : Below w.heap.size w w1) => iBal_any n cs hl A c hn w1 ((hr.below b1).more b1.size)
    rw [balT_ok hv] at CB
    have HB0 := Lib.hid (And.intro (bdL_bal hv) (And.intro (balL_sum0 hv) (And.intro (balL_len cs) (nzF_le (balL cs)))))
    obtain ⟨i0, hi, hz0, hz1, hz2⟩ := info_parts info_debt
    generalize balL cs = B at *
    clear hr hv hl hn
    go_enter Try.func24, Try.ntmps24
    go_wp2_with fail
    refine (C.out).mono ?_
    rintro e w1 ⟨rfl, b1⟩
    have CQ := Lib.hid (CB.out w1 b1)
    go_wp2_with fail
    refine (CQ.out).mono ?_
    rintro e w2 ⟨A2, c2, rfl, o2, b2⟩
    rw [HB0.out.2.2.1] at o2 ⊢
    have hb2 := b1.trans (b2.mono b1.size)
    obtain ⟨gl, rfl, hgl1, hgl2, _, _⟩ := owz_some (by omega) o2 (by omega)
    have hz21 := b2.size
    have hz10 := b1.size
    have oe := owz_empty w2 31 3
    have HBE := Lib.hid (hb2.alloc hb2.size (.cells #[] 31))
    have o3 := owz_alloc o2 (.cells #[] 31)
    have CF1 := Lib.hid (iFirst_neg 8 (by omega) B HB0.out.2.2.1 HB0.out.1 _ c2 _ _ (Rd.own o3))
    have CF2 := Lib.hid (iFirst_pos 8 (by omega) B HB0.out.2.2.1 HB0.out.1 _ c2 _ _ (Rd.own o3))
    have HO := Lib.hid (And.intro oe o3)
    clear o2 oe o3 b1 b2 hb2
    go_wp2_with fail
    refine (CF1.out).mono ?_
    rintro e w' ⟨rfl, rfl⟩
    go_wp2_with fail
    refine (CF2.out).mono ?_
    rintro e w' ⟨rfl, rfl⟩
    go_wp2
    go_loopw [4, 5, 6, 7] (fun v fr tt _ wr => ∃ (j m : Nat) (L : List Int) (O : List Cu), stF 8 B = O ++ stF m L ∧ nzF L ≤ m ∧ m + j ≤ 8 ∧ O.length = j ∧ L.length = 8 ∧ L.sum = 0 ∧ bdL L ∧ fr = .int .i64 (fv negB L) ∧ tt = .int .i64 (fv posB L) ∧ wr.ownsRow w2.heap.size 31 3 v j (custV O) ∧ wr.ownsRow w1.heap.size 3 1 (.slice (some ⟨gl, 0, none⟩) 8 c2) 8 (ints L) ∧ Below w.heap.size w wr ∧ w2.heap.size ≤ wr.heap.size ∧ (∃ g c5, v = .slice (some ⟨g, 0, none⟩) j c5)) (fun v _ _ _ _ => 8 - (match v with | .slice _ j _ => j | _ => 0))
    case atStart => exact ⟨0, 8, B, [], rfl, by have := HB0.out.2.2.2; rw [HB0.out.2.2.1] at this; exact this, by omega, rfl, HB0.out.2.2.1, HB0.out.2.1, HB0.out.1, rfl, rfl, HO.out.1, HO.out.2, HBE.out, by simp, ⟨_, _, rfl⟩⟩
    case round =>
      obtain ⟨j, m, L, O, hst, hnz, hmj, hOl, hLl, hsum, hbd, rfl, rfl, hown, hleft, hbel, hsz, g, c5, rfl⟩ := hrel
      cases hg : goS L
      · have HE : Hid (stF 8 B = O) := Lib.hid (by rw [hst, stF_no hg, List.append_nil])
        have HR := Lib.hid (outT_mk (T := 31) (l := O) hOl (owz_base hown (by omega)) hbel)
        rw [← HE.out] at HR
        have hft : fv negB L = -1 ∨ (fv negB L ≠ -1 ∧ fv posB L = -1) := by
          unfold goS at hg
          by_cases h1 : fstF negB L < L.length
          · have h2 : ¬ fstF posB L < L.length := fun h2 => by rw [decide_eq_true h1, decide_eq_true h2] at hg; cases hg
            exact .inr ⟨by rw [fv_lt h1]; omega, fv_no h2⟩
          · exact .inl (fv_no h1)
        have hf0 : -1 ≤ fv negB L := by unfold fv; split <;> omega
        clear hst hown hleft hbel hg HE
        generalize fv negB L = F at *
        generalize fv posB L = T at *
        rcases hft with rfl | ⟨h1, rfl⟩
        · go_wp2
          go_ret
          exact HR.out
        · have h2 : 0 ≤ F := by omega
          have h3 : decide (F ≥ 0) = true := decide_eq_true h2
          go_wp2
          go_ret
          exact HR.out
      · obtain ⟨hf8, ht8⟩ := goS_t hg
        obtain ⟨vf, vt, hne⟩ := goS_vals hg
        obtain ⟨a1, a2, a3, _⟩ := amtF_bd hg
        have hm : 0 < m := by have := nzF_step hg; omega
        obtain ⟨m', rfl⟩ : ∃ m', m = m' + 1 := ⟨m - 1, by omega⟩
        rw [stF_go hg] at hst
        have HN : Hid (stF 8 B = (O ++ [owe L]) ++ stF m' (stepS L)) := Lib.hid (by rw [hst, List.append_assoc]; rfl)
        have HN2 : Hid (nzF (stepS L) ≤ m' ∧ (stepS L).length = 8 ∧ (stepS L).sum = 0 ∧ bdL (stepS L) ∧ (O ++ [owe L]).length = j + 1) := Lib.hid ⟨by have := nzF_step hg; omega, by rw [stepS_len]; exact hLl, by rw [stepS_sum hg]; exact hsum, bdL_step hbd hg, by rw [List.length_append, hOl]; rfl⟩
        have HSP : Hid (stepS L = (L.set (fstF negB L) (at_ L (fstF negB L) + amtF L)).set (fstF posB L) (at_ L (fstF posB L) - amtF L)) := Lib.hid rfl
        have HOW : Hid (owe L = (((fstF negB L : Nat) : Int), ((fstF posB L : Nat) : Int), amtF L)) := Lib.hid rfl
        have HAM : Hid (amtF L = if - at_ L (fstF negB L) < at_ L (fstF posB L) then - at_ L (fstF negB L) else at_ L (fstF posB L)) := Lib.hid rfl
        have hbf := hbd (fstF negB L)
        have hbt := hbd (fstF posB L)
        rw [fv_lt hf8, fv_lt ht8]
        rw [hLl] at hf8 ht8
        obtain ⟨f, hf⟩ : ∃ f, f = fstF negB L := ⟨_, rfl⟩
        obtain ⟨t, ht⟩ : ∃ t, t = fstF posB L := ⟨_, rfl⟩
        rw [← hf] at hf8 vf hne a2 hbf HSP HOW HAM ⊢
        rw [← ht] at ht8 vt hne a3 hbt HSP HOW HAM ⊢
        have hcf : (ints L)[f]? = some (.int .i64 (at_ L f)) := by rw [ints, List.getElem?_map, of_at (by omega)]; rfl
        have hct : (ints L)[t]? = some (.int .i64 (at_ L t)) := by rw [ints, List.getElem?_map, of_at (by omega)]; rfl
        have hgb := owz_block hown g rfl
        have hgl' := owz_lt hown g rfl
        have hng : ¬ g = gl := by omega
        have HLS : Hid (∀ k, (wr.drewN k).ownsRow w1.heap.size 3 1 (.slice (some ⟨gl, 0, none⟩) 8 c2) 8 (ints L) ∧ (wr.drewN k).ownsRow w2.heap.size 31 3 (.slice (some ⟨g, 0, none⟩) j c5) j (custV O) ∧ Below w.heap.size w (wr.drewN k)) := Lib.hid fun k => ⟨owz_drewN hleft k, owz_drewN hown k, below_drewN hbel k⟩
        have kf0 := owz_cell hleft hcf
        have kt0 := owz_cell hleft hct
        have HCF := Lib.hid (And.intro hcf hct)
        generalize at_ L f = x at *
        generalize at_ L t = y at *
        generalize amtF L = a at *
        obtain ⟨hx1, hx2⟩ := hbf
        obtain ⟨hy1, hy2⟩ := hbt
        have CL : Hid (∀ w : World, Calls Try.prog 57 #[.int .i64 (-x), .int .i64 y] w fun e w' => e = .returned (.int .i64 a) ∧ w = w') := Lib.hid fun w => by rw [HAM.out]; exact iLes_any (-x) y w
        clear hst hown hleft hbel hf ht hcf hct hg
        have hft : ¬ f = t := hne
        have htf : ¬ t = f := fun e => hne e.symm
        go_wp2
        refine wp_region_quiet_lit (by kernel_rfl) (by kernel_rfl) ?_
        repeat (go_big_quiet_step (fail))
        go_big_quiet_step ((go_at_call 57; exact quiet_same (CL.out _)))
        repeat (go_big_quiet_step (fail))
        refine wpQuiet_nil ?_
        intro _ hw'
        obtain ⟨nq, hw''⟩ := hw'
        subst hw''
        obtain ⟨hl4, ho4, hb4⟩ := HLS.out nq
        obtain ⟨wn, hwn⟩ : ∃ wn, wn = wr.drewN nq := ⟨_, rfl⟩
        rw [← hwn] at hl4 ho4 hb4 ⊢
        have hsn : w2.heap.size ≤ wn.heap.size := by rw [hwn]; exact hsz
        have k1 := owz_cell hl4 HCF.out.1
        have f1 := owz_frozen hl4 f
        have k2' := owz_cell (owz_put hl4 f (.int .i64 (x + a))) (k := t) (x := .int .i64 y) (by rw [List.getElem?_set_ne hft]; exact HCF.out.2)
        have f2 := owz_frozen (owz_put hl4 f (.int .i64 (x + a))) t
        obtain ⟨s1, s2⟩ := set_two (f := f) (t := t) hl4 ho4 (by simp [Value.ownBlock]; exact hng) (x + a) (y - a)
        have hb5 := (hb4.setCell (p := ⟨gl, f, none⟩) (by show w.heap.size ≤ gl; omega) (.int .i64 (x + a))).setCell (p := ⟨gl, t, none⟩) (by show w.heap.size ≤ gl; omega) (.int .i64 (y - a))
        rw [← HSP.out] at s1
        have hs5 : w2.heap.size ≤ ((wn.setCell ⟨gl, f, none⟩ (.int .i64 (x + a))).setCell ⟨gl, t, none⟩ (.int .i64 (y - a))).heap.size := by simpa [World.setCell] using hsn
        have HS := Lib.hid (And.intro s1 (And.intro s2 (And.intro hb5 hs5)))
        clear hl4 ho4 hb4 s1 s2 hb5 hs5 hwn
        go_wp2_with (at_builtin; refine wpList_append_own _ rfl _ _ 23 rfl (w2.heap.size) 31 i0 (.agg #[.int .i64 0, .int .i64 0, .int .i64 0]) 3 24 Try.underlying23 hi hz0 hz1 hz2 rfl (by decide) _ _ _ rfl (owz_alloc HS.out.2.1 _) ⟨wn.heap.size, 0, none⟩ 1 1 [.int .i64 (f : Int), .int .i64 (t : Int), .int .i64 a] rfl rfl (three_new _ _ _ _ _ _ (by simp [World.setCell])) (fun u hu => by simp at hu; rcases hu with rfl | rfl | rfl <;> rfl) (by unfold maxLen; omega) (by omega) (by have := HS.out.2.2.2; simp at this ⊢; omega) ?_)
        intro v' w11 hown' hgrow _
        obtain ⟨A6, c6, rfl⟩ := owz_form hown'
        obtain ⟨g6, rfl, _, _, _, _⟩ := owz_some (by omega) hown' (by omega)
        have hown5 : w11.ownsRow w2.heap.size 31 3 (.slice (some ⟨g6, 0, none⟩) (j + 1) c6) (j + 1) (custV (O ++ [owe L])) := by rw [HOW.out, custV_snoc]; exact hown'
        have hl6 := owz_grown (owz_alloc HS.out.1 (.cells #[.int .i64 (f : Int), .int .i64 (t : Int), .int .i64 a] 31)) hgrow (fun k hk => by simp [Value.ownBlock] at hk ⊢; omega)
        have hb6 : Below w.heap.size w w11 := only_belowK (HS.out.2.2.1.alloc HS.out.2.2.1.size (.cells #[.int .i64 (f : Int), .int .i64 (t : Int), .int .i64 a] 31)) hgrow (Nat.le_refl _) (fun k hk => by simp [Value.ownBlock] at hk; omega)
        have hs6 : w2.heap.size ≤ w11.heap.size := by have := hgrow.size; have := HS.out.2.2.2; simp at *; omega
        have CF1 := Lib.hid (iFirst_neg 8 (by omega) (stepS L) HN2.out.2.1 HN2.out.2.2.2.1 _ c2 w11 _ (Rd.own hl6))
        have CF2 := Lib.hid (iFirst_pos 8 (by omega) (stepS L) HN2.out.2.1 HN2.out.2.2.2.1 _ c2 w11 _ (Rd.own hl6))
        have HP := Lib.hid (And.intro hown5 (And.intro hl6 (And.intro hb6 hs6)))
        clear hown' hgrow hown5 hl6 hb6 hs6 HS HLS
        go_wp2_with fail
        refine (CF1.out).mono ?_
        rintro e w' ⟨rfl, rfl⟩
        go_wp2_with fail
        refine (CF2.out).mono ?_
        rintro e w' ⟨rfl, rfl⟩
        go_wp2
        go_roundw
        case rel => exact ⟨j + 1, m', stepS L, O ++ [owe L], HN.out, HN2.out.1, by omega, HN2.out.2.2.2.2, HN2.out.2.1, HN2.out.2.2.1, HN2.out.2.2.2.1, rfl, rfl, HP.out.1, HP.out.2.1, HP.out.2.2.1, HP.out.2.2.2, ⟨_, _, rfl⟩⟩
        case measure => simp; omega

end Go.Proofs.Ytiihenhddleooaa

/- Contracts of chapter 7: settled debts, the model. -/
import Derived.Deep.AppendSrc
import Derived.Deep.Upon
import Derived.Test.YtiihenhddleooaaTSetI
namespace Go.Proofs.Ytiihenhddleooaa
open Go.RowKit
set_option linter.unusedVariables false
set_option linter.unusedSimpArgs false
section
variable {P : Program} {w : World}
/-- An append of a whole list, that may be empty, onto a list that the call made. -/
theorem push_any {ops : Array Oper} {rest : List Oper} {o : Oper} {a : Act} {Q : Exit → Act → World → Prop} (hgd : o.guard = none) (s x : Operand) (t : TypeId)
    (ho : o.op = .call { callee := .builtin .append, args := #[s, x], argTypes := #[t, t] })
    (base : Nat) (e : TypeId) (i : TypeInfo) (z : Value) (bytes : Nat) (ht : P.underlying t = some (.slice e)) (hi : P.info? e = some i) (hz : i.zero = some z)
    (hsize : i.size = 1) (hby : i.bytes = bytes) (hzs : z.cells.size = 1)
    (v : Value) (n : Nat) (xs : List Value) (hs : a.eval s = v) (hown : w.ownsRow base e 1 v n xs)
    (A : Option Addr) (m c B : Nat) (news : List Value) (hx : a.eval x = .slice A m c) (hr : Rd w B A news) (hl : news.length = m) (h1 : ∀ u ∈ news, u.oneCell' = true)
    (h63 : n + m ≤ maxLen) (hbytes : (n + m) * bytes ≤ 140737488355328) (hbase : base ≤ w.heap.size)
    (h : ∀ v' w', w'.ownsRow base e 1 v' (n + m) (xs ++ news) → w.grownBy w' v.ownBlock → wpList P ops Q rest (a.put o.dst v') w') :
    wpList P ops Q (o :: rest) a w := by
  cases A with
  | some ad =>
    obtain ⟨ab, ao, sp⟩ := ad
    refine wpList_append_own_at w hgd s x t ho base e i z 1 bytes ht hi hz hsize hby hzs (by decide) v n xs hs hown ⟨ab, ao, sp⟩ m c news hx (by omega) (fun j u hj => ?_) h1 h63 hbytes hbase fun v' w' h2 h3 _ _ => h v' w' h2 h3
    obtain ⟨b', off', e', _, hc⟩ := hr.at_ hj
    injection e' with e'
    injection e' with e1 e2 e3
    subst e1 e2 e3
    rw [Addr.add_lit]
    exact hc
  | none =>
    have hn : news = [] := by
      false_or_by_contra
      next g =>
      obtain ⟨b', off', e', _⟩ := hr g
      cases e'
    subst hn
    obtain rfl : m = 0 := by simpa using hl.symm
    obtain ⟨A', c', rfl⟩ := own_form hown
    have hle : n ≤ c' := by
      rcases hown.2 with ⟨h0, rfl⟩ | ⟨g, cap, cur, hv, _, _, hnc, _⟩
      · injection h0 with _ q1 q2; omega
      · injection hv with _ q1 q2; omega
    refine wpList_plain hgd fun K hK => ?_
    have hrun := run_append_nothing (P := P) w t t o.type e i ht hi A' n c' hle (.slice none 0 c) (Src.ofNil (P := P) w ht c)
    unfold Oper.wp execOp
    simp only [ho, resolve, invoke, builtin, Sem.run_bind, Sem.run_pure, Result.andThen_ok, List.map_toArray, List.map_cons, List.map_nil, hs, hx, hrun]
    exact hK _ _ (h _ _ (by simpa using hown) (World.grownBy.refl _ _))
end
theorem oneCell_ints2 {zs : List Int} : ∀ v ∈ ints zs, v.oneCell' = true := fun v hv => by
  rw [ints, List.mem_map] at hv
  obtain ⟨b, _, rfl⟩ := hv
  rfl
set_option maxHeartbeats 800000 in
theorem sCopyA_any (row : List Int) (n : Nat) (hl : row.length = n) (hn : n ≤ 1048576) (A : Option Addr) (c : Nat) (w : World) (hr : Rd w w.heap.size A (ints row)) :
    Calls Try.prog 78 #[.slice A n c] w (OutI row w) := by
  obtain ⟨i0, hi, hz0, hz1, hz2⟩ := info_parts info_int
  have HL := Lib.hid hl
  clear hl
  go_enter Try.func78, Try.ntmps78
  go_wp2_with (at_builtin; refine push_any rfl _ _ 27 rfl w.heap.size 3 i0 (.int .i64 0) 8 Try.underlying27 hi hz0 hz1 hz2 rfl _ _ _ rfl (own_empty w 3) _ _ _ w.heap.size (ints row) rfl (hr.alloc (Nat.le_refl _) _) (by rw [ints_length]; exact HL.out) oneCell_ints2 (by unfold maxLen; omega) (by omega) (by simp) ?_)
  intro v' w5 hown' hgrow
  have hown2 : w5.ownsRow w.heap.size 3 1 v' n (ints row) := by simpa using hown'
  have hb5 : Below w.heap.size w w5 := ((Below.refl _ _).alloc (Nat.le_refl _) (.cells #[] 3)).grown hgrow (by simp) (own_block (own_empty w 3))
  have HR := Lib.hid (out_mk HL.out hown2 hb5)
  clear hown' hgrow hown2 hb5
  go_wp2
  go_ret
  exact HR.out
set_option maxHeartbeats 800000 in
theorem sFirst_neg (n : Nat) (hn : n ≤ 1048576) (l : List Int) (hl : l.length = n) (hbd : bdL l) (A : Option Addr) (c : Nat) (w : World) (B : Nat) (hr : Rd w B A (ints l)) :
    Calls Try.prog 79 #[.slice A n c, .int .i64 (-1)] w fun e w' => e = .returned (.int .i64 (fv negB l)) ∧ w = w' := by
  have HL := Lib.hid hl
  have HBD := Lib.hid hbd
  clear hl hbd
  go_enter Try.func79, Try.ntmps79
  go_wp2
  go_loop [5] (fun i => ∃ k : Nat, k ≤ n ∧ i = .int .i64 k ∧ ∀ j, j < k → negB (at_ l j) = false) (fun i => n - (intOf i).toNat)
  case atStart => exact ⟨0, Nat.zero_le _, rfl, fun j h => by omega⟩
  case round =>
    obtain ⟨k, hk, rfl, hno⟩ := hrel
    have HNO := Lib.hid hno
    clear hno
    by_cases hlt : k < n
    · obtain ⟨b, off, z, rfl, hb, hz, hc⟩ := hr.int_ (k := k) (by rw [HL.out]; exact hlt)
      have hbz := HBD.out k
      rw [at_of hz.out] at hbz
      obtain ⟨hz1, hz2⟩ := hbz
      have HZ := Lib.hid (at_of hz.out)
      clear hz
      by_cases hq : z < 0
      · have HT : Hid (fv negB l = k) := Lib.hid (fv_hit (by rw [HL.out]; exact hlt) (by rw [HZ.out]; exact decide_eq_true hq) HNO.out)
        have hpos : decide (0 < -z) = true := decide_eq_true (by omega)
        have hpos2 : 0 < -z := by omega
        go_wp2
        go_ret
        exact ⟨ret_int HT.out.symm, rfl⟩
      · have hpos : decide (0 < -z) = false := decide_eq_false (by omega)
        have hpos2 : -z ≤ 0 := by omega
        go_wp2
        go_round
        case rel => exact ⟨k + 1, by omega, by go_num, fun j hj => by by_cases e : j = k; rw [e, HZ.out]; exact decide_eq_false hq; exact HNO.out j (by omega)⟩
        case measure => first | (simp [intOf]; omega) | simp [intOf]
    · obtain rfl : k = n := by omega
      have HT : Hid (fv negB l = -1) := Lib.hid (fv_none fun j hj => HNO.out j (by rw [HL.out] at hj; exact hj))
      go_wp2
      go_ret
      exact ⟨ret_int HT.out.symm, rfl⟩
set_option maxHeartbeats 800000 in
theorem sFirst_pos (n : Nat) (hn : n ≤ 1048576) (l : List Int) (hl : l.length = n) (hbd : bdL l) (A : Option Addr) (c : Nat) (w : World) (B : Nat) (hr : Rd w B A (ints l)) :
    Calls Try.prog 79 #[.slice A n c, .int .i64 1] w fun e w' => e = .returned (.int .i64 (fv posB l)) ∧ w = w' := by
  have HL := Lib.hid hl
  have HBD := Lib.hid hbd
  clear hl hbd
  go_enter Try.func79, Try.ntmps79
  go_wp2
  go_loop [5] (fun i => ∃ k : Nat, k ≤ n ∧ i = .int .i64 k ∧ ∀ j, j < k → posB (at_ l j) = false) (fun i => n - (intOf i).toNat)
  case atStart => exact ⟨0, Nat.zero_le _, rfl, fun j h => by omega⟩
  case round =>
    obtain ⟨k, hk, rfl, hno⟩ := hrel
    have HNO := Lib.hid hno
    clear hno
    by_cases hlt : k < n
    · obtain ⟨b, off, z, rfl, hb, hz, hc⟩ := hr.int_ (k := k) (by rw [HL.out]; exact hlt)
      have hbz := HBD.out k
      rw [at_of hz.out] at hbz
      obtain ⟨hz1, hz2⟩ := hbz
      have HZ := Lib.hid (at_of hz.out)
      clear hz
      by_cases hq : 0 < z
      · have HT : Hid (fv posB l = k) := Lib.hid (fv_hit (by rw [HL.out]; exact hlt) (by rw [HZ.out]; exact decide_eq_true hq) HNO.out)
        have hpos : decide (0 < z) = true := decide_eq_true (by omega)
        have hpos2 : 0 < z := by omega
        go_wp2
        go_ret
        exact ⟨ret_int HT.out.symm, rfl⟩
      · have hpos : decide (0 < z) = false := decide_eq_false (by omega)
        have hpos2 : z ≤ 0 := by omega
        go_wp2
        go_round
        case rel => exact ⟨k + 1, by omega, by go_num, fun j hj => by by_cases e : j = k; rw [e, HZ.out]; exact decide_eq_false hq; exact HNO.out j (by omega)⟩
        case measure => first | (simp [intOf]; omega) | simp [intOf]
    · obtain rfl : k = n := by omega
      have HT : Hid (fv posB l = -1) := Lib.hid (fv_none fun j hj => HNO.out j (by rw [HL.out] at hj; exact hj))
      go_wp2
      go_ret
      exact ⟨ret_int HT.out.symm, rfl⟩
theorem owz_types {w : World} {b1 b2 z1 z2 n1 n2 c1 c2 g1 g2 : Nat} {T1 T2 : TypeId} {xs ys : List Value} (h1 : w.ownsRow b1 T1 z1 (.slice (some ⟨g1, 0, none⟩) n1 c1) n1 xs) (h2 : w.ownsRow b2 T2 z2 (.slice (some ⟨g2, 0, none⟩) n2 c2) n2 ys) (hne : T1 ≠ T2) : ¬ g1 = g2 := by
  intro e
  subst e
  rcases h1.2 with ⟨h0, _⟩ | ⟨g, cap, cur, hv, _, hh, _⟩
  · cases h0
  rcases h2.2 with ⟨h0, _⟩ | ⟨g', cap', cur', hv', _, hh', _⟩
  · cases h0
  obtain rfl : g1 = g := by injection hv with q1; injection q1 with q1; injection q1
  obtain rfl : g1 = g' := by injection hv' with q1; injection q1 with q1; injection q1
  rw [hh] at hh'
  injection hh' with e1
  injection e1 with e2 e3
  exact hne e3
set_option maxHeartbeats 8000000 in
theorem sSetL_any (B : List Int) (hB : bdL B) (hs0 : B.sum = 0) (hl : B.length = 8) (A : Option Addr) (c : Nat) (w : World) (hr : Rd w w.heap.size A (ints B)) :
    Calls Try.prog 58 #[.slice A 8 c] w (OutT 31 (stF 8 B) w) := by
  have HB0 := Lib.hid (And.intro hB (And.intro hs0 (And.intro hl (nzF_le B))))
  obtain ⟨i0, hi, hz0, hz1, hz2⟩ := info_parts info_debt
  obtain ⟨we, hwe⟩ : ∃ we, we = w.alloc (.cells #[] 31) := ⟨_, rfl⟩
  have bwe : Below w.heap.size w we := by rw [hwe]; exact (Below.refl _ _).alloc (Nat.le_refl _) _
  have CC := Lib.hid (sCopyA_any B 8 hl (by omega) A c we ((hr.below bwe).more bwe.size))
  have HWE := Lib.hid hwe
  have oe : we.ownsRow w.heap.size 31 3 (.slice (some ⟨w.heap.size, 0, none⟩) 0 0) 0 [] := by rw [hwe]; exact owz_empty w _ 3
  have hsw : w.heap.size < we.heap.size := by rw [hwe]; simp
  clear hB hs0 hr hwe
  go_enter Try.func58, Try.ntmps58
  go_wp2_with fail
  rw [← HWE.out]
  refine CC.out.mono ?_
  rintro e w2 ⟨A2, c2, rfl, o2, b2⟩
  rw [hl] at o2 ⊢
  obtain ⟨gl, rfl, hgl1, hgl2, _, _⟩ := owz_some (by omega) o2 (by omega)
  have oe2 := owz_below oe b2
  have HBE := Lib.hid (bwe.trans (b2.mono bwe.size))
  have hz2s := b2.size
  have HO := Lib.hid (And.intro oe2 o2)
  clear oe oe2 o2 b2 bwe
  go_wp2
  go_loopw [3, 4, 5, 6] (fun v _ _ _ wr => ∃ (j m : Nat) (L : List Int) (O : List Cu), stF 8 B = O ++ stF m L ∧ nzF L ≤ m ∧ m + j ≤ 8 ∧ O.length = j ∧ L.length = 8 ∧ L.sum = 0 ∧ bdL L ∧ wr.ownsRow w.heap.size 31 3 v j (custV O) ∧ wr.ownsRow we.heap.size 3 1 (.slice (some ⟨gl, 0, none⟩) 8 c2) 8 (ints L) ∧ Below w.heap.size w wr ∧ we.heap.size ≤ wr.heap.size ∧ (∃ g c5, v = .slice (some ⟨g, 0, none⟩) j c5 ∧ ¬ g = gl)) (fun v _ _ _ _ => 8 - (match v with | .slice _ j _ => j | _ => 0))
  case atStart => exact ⟨0, 8, B, [], rfl, by have := HB0.out.2.2.2; rw [hl] at this; exact this, by omega, rfl, hl, HB0.out.2.1, HB0.out.1, HO.out.1, HO.out.2, HBE.out, hz2s, ⟨_, _, rfl, by omega⟩⟩
  case round =>
    obtain ⟨j, m, L, O, hst, hnz, hmj, hOl, hLl, hsum, hbd, hown, hleft, hbel, hsz, g, c5, rfl, hng⟩ := hrel
    have CF1 := Lib.hid (sFirst_neg 8 (by omega) L hLl hbd _ c2 _ _ (Rd.own hleft))
    cases hg : goS L
    · have HE : Hid (stF 8 B = O) := Lib.hid (by rw [hst, stF_no hg, List.append_nil])
      have HR := Lib.hid (outT_mk (T := 31) (l := O) hOl hown hbel)
      rw [← HE.out] at HR
      have hf1 : fv negB L = -1 := by
        by_cases h1 : fstF negB L < L.length
        · have h2 := neg_pos hsum h1
          unfold goS at hg
          rw [decide_eq_true h1, decide_eq_true h2] at hg
          cases hg
        · exact fv_no h1
      rw [hf1] at CF1
      clear hst hown hleft hbel hg HE hf1
      go_wp2_with fail
      refine (CF1.out).mono ?_
      rintro e w' ⟨rfl, rfl⟩
      go_wp2
      go_ret
      exact HR.out
    · obtain ⟨hf8, ht8⟩ := goS_t hg
      obtain ⟨vf, vt, hne⟩ := goS_vals hg
      obtain ⟨a1, a2, a3, _⟩ := amtF_bd hg
      have CF2 := Lib.hid (sFirst_pos 8 (by omega) L hLl hbd _ c2 _ _ (Rd.own hleft))
      have hm : 0 < m := by have := nzF_step hg; omega
      obtain ⟨m', rfl⟩ : ∃ m', m = m' + 1 := ⟨m - 1, by omega⟩
      rw [stF_go hg] at hst
      have HN : Hid (stF 8 B = (O ++ [owe L]) ++ stF m' (stepS L)) := Lib.hid (by rw [hst, List.append_assoc]; rfl)
      have HN2 : Hid (nzF (stepS L) ≤ m' ∧ (stepS L).length = 8 ∧ (stepS L).sum = 0 ∧ bdL (stepS L) ∧ (O ++ [owe L]).length = j + 1) := Lib.hid ⟨by have := nzF_step hg; omega, by rw [stepS_len]; exact hLl, by rw [stepS_sum hg]; exact hsum, bdL_step hbd hg, by rw [List.length_append, hOl]; rfl⟩
      have HSP : Hid (stepS L = (L.set (fstF negB L) (at_ L (fstF negB L) + amtF L)).set (fstF posB L) (at_ L (fstF posB L) - amtF L)) := Lib.hid rfl
      have HOW : Hid (owe L = (((fstF negB L : Nat) : Int), ((fstF posB L : Nat) : Int), amtF L)) := Lib.hid rfl
      have HAM : Hid (amtF L = if - at_ L (fstF negB L) < at_ L (fstF posB L) then - at_ L (fstF negB L) else at_ L (fstF posB L)) := Lib.hid rfl
      have hbf := hbd (fstF negB L)
      have hbt := hbd (fstF posB L)
      rw [fv_lt hf8] at CF1
      rw [fv_lt ht8] at CF2
      rw [hLl] at hf8 ht8
      obtain ⟨f, hf⟩ : ∃ f, f = fstF negB L := ⟨_, rfl⟩
      obtain ⟨t, ht⟩ : ∃ t, t = fstF posB L := ⟨_, rfl⟩
      rw [← hf] at hf8 vf hne a2 hbf HSP HOW HAM CF1
      rw [← ht] at ht8 vt hne a3 hbt HSP HOW HAM CF2
      have hcf : (ints L)[f]? = some (.int .i64 (at_ L f)) := by rw [ints, List.getElem?_map, of_at (by omega)]; rfl
      have hct : (ints L)[t]? = some (.int .i64 (at_ L t)) := by rw [ints, List.getElem?_map, of_at (by omega)]; rfl
      have hgl' := owz_lt hown g rfl
      have HLS := Lib.hid (And.intro hleft (And.intro hown hbel))
      have kf0 := owz_cell hleft hcf
      have kt0 := owz_cell hleft hct
      have HCF := Lib.hid (And.intro hcf hct)
      generalize at_ L f = x at *
      generalize at_ L t = y at *
      generalize amtF L = a at *
      obtain ⟨hx1, hx2⟩ := hbf
      obtain ⟨hy1, hy2⟩ := hbt
      have hft : ¬ f = t := hne
      have htf : ¬ t = f := fun e => hne e.symm
      clear hst hown hleft hbel hf ht hcf hct hg
      go_wp2_with fail
      refine (CF1.out).mono ?_
      rintro e w' ⟨rfl, rfl⟩
      go_wp2_with fail
      refine (CF1.out).mono ?_
      rintro e w' ⟨rfl, rfl⟩
      go_wp2_with fail
      refine (CF2.out).mono ?_
      rintro e w' ⟨rfl, rfl⟩
      go_wp2
      have hmin : (if y < -x then y else -x) = a := by rw [HAM.out]; split <;> split <;> omega
      go_region
      obtain ⟨wn, hwn⟩ : ∃ wn, wn = wr.drew := ⟨_, rfl⟩
      rw [← hwn]
      have hl4 : wn.ownsRow we.heap.size 3 1 (.slice (some ⟨gl, 0, none⟩) 8 c2) 8 (ints L) := by rw [hwn]; exact HLS.out.1
      have ho4 : wn.ownsRow w.heap.size 31 3 (.slice (some ⟨g, 0, none⟩) j c5) j (custV O) := by rw [hwn]; exact HLS.out.2.1
      have hb4 : Below w.heap.size w wn := by rw [hwn]; exact below_drewN HLS.out.2.2 1
      have hsn : we.heap.size ≤ wn.heap.size := by rw [hwn]; exact hsz
      have hzw := hb4.size
      have HS := Lib.hid (And.intro hl4 (And.intro ho4 (And.intro hb4 hsn)))
      clear hl4 ho4 hb4 hwn kf0 kt0
      go_wp2_with (at_builtin; refine wpList_append_own _ rfl _ _ 23 rfl (w.heap.size) 31 i0 (.agg #[.int .i64 0, .int .i64 0, .int .i64 0]) 3 24 Try.underlying23 hi hz0 hz1 hz2 rfl (by decide) _ _ _ rfl (owz_alloc HS.out.2.1 _) ⟨wn.heap.size, 0, none⟩ 1 1 [.int .i64 (f : Int), .int .i64 (t : Int), .int .i64 a] rfl rfl (three_new _ _ _ _ _ _ rfl) (fun u hu => by simp at hu; rcases hu with rfl | rfl | rfl <;> rfl) (by unfold maxLen; omega) (by omega) (by simp; omega) ?_)
      intro v' w11 hown' hgrow _
      obtain ⟨A6, c6, rfl⟩ := owz_form hown'
      obtain ⟨g6, rfl, _, hg6, _, _⟩ := owz_some (by omega) hown' (by omega)
      have hown5 : w11.ownsRow w.heap.size 31 3 (.slice (some ⟨g6, 0, none⟩) (j + 1) c6) (j + 1) (custV (O ++ [owe L])) := by rw [HOW.out, custV_snoc]; exact hown'
      have hl6 := owz_grown (owz_alloc HS.out.1 (.cells #[.int .i64 (f : Int), .int .i64 (t : Int), .int .i64 a] 31)) hgrow (fun k hk => by simp [Value.ownBlock] at hk ⊢; omega)
      have hgb := owz_block HS.out.2.1 g rfl
      have hb6 : Below w.heap.size w w11 := only_belowK (HS.out.2.2.1.alloc HS.out.2.2.1.size (.cells #[.int .i64 (f : Int), .int .i64 (t : Int), .int .i64 a] 31)) hgrow (Nat.le_refl _) (fun k hk => by simp [Value.ownBlock] at hk; omega)
      have hs6 : we.heap.size ≤ w11.heap.size := by have := hgrow.size; simp at this; omega
      have hn6 : ¬ g6 = gl := owz_types hown5 hl6 (by decide)
      have k1 := owz_cell hl6 HCF.out.1
      have f1 := owz_frozen hl6 f
      have k2' := owz_cell (owz_put hl6 f (.int .i64 (x + a))) (k := t) (x := .int .i64 y) (by rw [List.getElem?_set_ne hft]; exact HCF.out.2)
      have f2 := owz_frozen (owz_put hl6 f (.int .i64 (x + a))) t
      obtain ⟨s1, s2⟩ := set_two (f := f) (t := t) hl6 hown5 (by simp [Value.ownBlock]; exact hn6) (x + a) (y - a)
      have hb7 := (hb6.setCell (p := ⟨gl, f, none⟩) (by show w.heap.size ≤ gl; omega) (.int .i64 (x + a))).setCell (p := ⟨gl, t, none⟩) (by show w.heap.size ≤ gl; omega) (.int .i64 (y - a))
      rw [← HSP.out] at s1
      have hs7 : we.heap.size ≤ ((w11.setCell ⟨gl, f, none⟩ (.int .i64 (x + a))).setCell ⟨gl, t, none⟩ (.int .i64 (y - a))).heap.size := by simpa [World.setCell] using hs6
      have HP := Lib.hid (And.intro s2 (And.intro s1 (And.intro hb7 hs7)))
      clear hown' hgrow hown5 hl6 hb6 hs6 HS HLS s1 s2 hb7 hs7
      go_wp2
      go_roundw
      case rel => exact ⟨j + 1, m', stepS L, O ++ [owe L], HN.out, HN2.out.1, by omega, HN2.out.2.2.2.2, HN2.out.2.1, HN2.out.2.2.1, HN2.out.2.2.2.1, HP.out.1, HP.out.2.1, HP.out.2.2.1, HP.out.2.2.2, ⟨_, _, rfl, hn6⟩⟩
      case measure => simp; omega
set_option maxHeartbeats 1000000 in
theorem sSet_any (n : Nat) (cs : List Cu) (hl : cs.length = n) (A : Option Addr) (c : Nat) (hn : n ≤ maxLen) (w : World) (hr : Rd w w.heap.size A (custV cs)) :
    Calls Try.prog 26 #[.slice A n c] w (OutT 31 (setT cs) w) := by
  have C := Lib.hid (sWDb_any n cs hl A c hn w hr)
  cases hv : okV dbV cs
  · rw [setT_no hv]
    rw [hv] at C
    clear hr hv
    go_enter Try.func26, Try.ntmps26
    go_wp2_with fail
    refine (C.out).mono ?_
    rintro e w1 ⟨rfl, b1⟩
    go_wp2
    go_ret
    exact ⟨none, 0, rfl, ⟨rfl, .inl ⟨rfl, rfl⟩⟩, b1⟩
  · rw [setT_ok hv]
    have CB := Lib.hid fun (w1 : World) (b1 : Below w.heap.size w w1) => sBalL_any n cs hl A c hv w1 ((hr.below b1).more b1.size)
    rw [hv] at C
    have CS := Lib.hid (sSetL_any (balL cs) (bdL_bal hv) (balL_sum0 hv) (balL_len cs))
    have HLB := Lib.hid (balL_len cs)
    generalize balL cs = L at *
    have HLS : Hid ((stF 8 L).length ≤ 8) := Lib.hid (stF_len 8 L)
    generalize stF 8 L = S at *
    clear hr hv
    go_enter Try.func26, Try.ntmps26
    go_wp2_with fail
    refine (C.out).mono ?_
    rintro e w1 ⟨rfl, b1⟩
    have CQ := Lib.hid (CB.out w1 b1)
    go_wp2_with fail
    refine (CQ.out).mono ?_
    rintro e w2 ⟨A2, c2, rfl, o2, b2⟩
    rw [HLB.out] at o2 ⊢
    have CZ := Lib.hid (CS.out A2 c2 w2 (Rd.own o2))
    have hb2 := b1.trans (b2.mono b1.size)
    have HB2 := Lib.hid hb2
    clear o2 b2 hb2
    go_wp2_with fail
    refine (CZ.out).mono ?_
    rintro e w3 ⟨A3, c3, rfl, o3, b3⟩
    have H := Lib.hid (And.intro (owz_base o3 HB2.out.size) (HB2.out.trans (b3.mono HB2.out.size)))
    clear o3 b3
    go_wp2
    go_ret
    exact ⟨A3, c3, rfl, H.out.1, H.out.2⟩
theorem sSet_t {ts cs : List Cu} (H : Hid (ts = setT cs)) (A : Option Addr) (c : Nat) (hn : cs.length ≤ maxLen) (w : World) (hr : Rd w w.heap.size A (custV cs)) :
    Calls Try.prog 26 #[.slice A cs.length c] w (OutT 31 ts w) := by
  rw [H.out]; exact sSet_any _ cs rfl A c hn w hr
theorem iSet_t {ts cs : List Cu} (H : Hid (ts = setT cs)) (A : Option Addr) (c : Nat) (hn : cs.length ≤ maxLen) (w : World) (hr : Rd w w.heap.size A (custV cs)) :
    Calls Try.prog 24 #[.slice A cs.length c] w (OutT 31 ts w) := by
  rw [H.out]; exact iSet_any _ cs rfl A c hn w hr

end Go.Proofs.Ytiihenhddleooaa

/- Contracts of chapter 3's model: the order in which cakes float out. -/
import Derived.Deep.AppendSrc
import Derived.Deep.Upon
import Derived.Test.YtjjddamblijffabCOrdI
import Derived.Test.YtjjddamblijffabCValidT
namespace Go.Proofs.Ytjjddamblijffab
open Go.RowKit
set_option linter.unusedVariables false
set_option linter.unusedSimpArgs false
section
variable {P : Program} {w : World}
/-- An append of a whole list, that may be empty, onto a list that the call made. -/
theorem push_any {ops : Array Oper} {rest : List Oper} {o : Oper} {a : Act} {Q : Exit → Act → World → Prop} (hgd : o.guard = none) (s x : Operand) (t : TypeId)
    (ho : o.op = .call { callee := .builtin .append, args := #[s, x], argTypes := #[t, t] })
    (base : Nat) (e : TypeId) (i : TypeInfo) (z : Value) (bytes : Nat) (ht : P.underlying t = some (.slice e)) (hi : P.info? e = some i) (hz : i.zero = some z)
    (hsize : i.size = 1) (hby : i.bytes = bytes) (hzs : z.cells.size = 1)
    (v : Value) (n : Nat) (xs : List Value) (hs : a.eval s = v) (hown : w.ownsRow base e 1 v n xs)
    (A : Option Addr) (m c B : Nat) (news : List Value) (hx : a.eval x = .slice A m c) (hr : Rd w B A news) (hl : news.length = m) (h1 : ∀ u ∈ news, u.oneCell' = true)
    (h63 : n + m ≤ maxLen) (hbytes : (n + m) * bytes ≤ 140737488355328) (hbase : base ≤ w.heap.size)
    (h : ∀ v' w', w'.ownsRow base e 1 v' (n + m) (xs ++ news) → w.grownBy w' v.ownBlock → wpList P ops Q rest (a.put o.dst v') w') :
    wpList P ops Q (o :: rest) a w := by
  cases A with
  | some ad =>
    obtain ⟨ab, ao, sp⟩ := ad
    refine wpList_append_own_at w hgd s x t ho base e i z 1 bytes ht hi hz hsize hby hzs (by decide) v n xs hs hown ⟨ab, ao, sp⟩ m c news hx (by omega) (fun j u hj => ?_) h1 h63 hbytes hbase fun v' w' h2 h3 _ _ => h v' w' h2 h3
    obtain ⟨b', off', e', _, hc⟩ := hr.at_ hj
    injection e' with e'
    injection e' with e1 e2 e3
    subst e1 e2 e3
    rw [Addr.add_lit]
    exact hc
  | none =>
    have hn : news = [] := by
      false_or_by_contra
      next g =>
      obtain ⟨b', off', e', _⟩ := hr g
      cases e'
    subst hn
    obtain rfl : m = 0 := by simpa using hl.symm
    obtain ⟨A', c', rfl⟩ := own_form hown
    have hle : n ≤ c' := by
      rcases hown.2 with ⟨h0, rfl⟩ | ⟨g, cap, cur, hv, _, _, hnc, _⟩
      · injection h0 with _ q1 q2; omega
      · injection hv with _ q1 q2; omega
    refine wpList_plain hgd fun K hK => ?_
    have hrun := run_append_nothing (P := P) w t t o.type e i ht hi A' n c' hle (.slice none 0 c) (Src.ofNil (P := P) w ht c)
    unfold Oper.wp execOp
    simp only [ho, resolve, invoke, builtin, Sem.run_bind, Sem.run_pure, Result.andThen_ok, List.map_toArray, List.map_cons, List.map_nil, hs, hx, hrun]
    exact hK _ _ (h _ _ (by simpa using hown) (World.grownBy.refl _ _))
end
theorem oneCell_ints2 {zs : List Int} : ∀ v ∈ ints zs, v.oneCell' = true := fun v hv => by
  rw [ints, List.mem_map] at hv
  obtain ⟨b, _, rfl⟩ := hv
  rfl
theorem own_take {w : World} {base n p c : Nat} {T : TypeId} {A : Option Addr} {xs : List Value} (h : w.ownsRow base T 1 (.slice A n c) n xs) (hp : p ≤ n) : w.ownsRow base T 1 (.slice A p c) p (xs.take p) := by
  obtain ⟨h0, h⟩ := h
  refine ⟨by rw [List.length_take]; omega, ?_⟩
  rcases h with ⟨e, rfl⟩ | ⟨g, cap, cur, e, h1, h2, h3, h4, h5, h6⟩
  · injection e with e1 e2 e3
    subst e1 e3
    exact .inl ⟨by rw [show p = 0 by omega], by omega⟩
  · injection e with e1 e2 e3
    subst e1 e3
    refine .inr ⟨g, c, cur, rfl, h1, h2, by omega, h4, h5, ?_⟩
    rw [← h6, List.take_take]
    congr 1
    omega
theorem ordF_nats {cs : List (Int × Int)} {k p : Nat} (hp : p = befF (plcF cs) k k) : ints (nats (ordF cs (k + 1))) = (ints (nats (ordF cs k))).take p ++ [.int .i64 (k : Int)] ++ ints ((nats (ordF cs k)).drop p) := by
  subst hp
  simp [ordF, nats, ints, List.map_take, List.map_drop]
set_option maxRecDepth 100000 in
set_option maxHeartbeats 800000 in
theorem sCopyA_any (row : List Int) (n : Nat) (hl : row.length = n) (hn : n ≤ 1048576) (A : Option Addr) (c : Nat) (w : World) (hr : Rd w w.heap.size A (ints row)) :
    Calls Try.prog 86 #[.slice A n c] w (OutI row w) := by
  obtain ⟨i0, hi, hz0, hz1, hz2⟩ := info_parts info_int
  have HL := Lib.hid hl
  clear hl
  go_enter Try.func86, Try.ntmps86
  go_wp2_with (at_builtin; refine push_any rfl _ _ 23 rfl w.heap.size 3 i0 (.int .i64 0) 8 Try.underlying23 hi hz0 hz1 hz2 rfl _ _ _ rfl (own_empty w 3) _ _ _ w.heap.size (ints row) rfl (hr.alloc (Nat.le_refl _) _) (by rw [ints_length]; exact HL.out) oneCell_ints2 (by unfold maxLen; omega) (by omega) (by simp) ?_)
  intro v' w5 hown' hgrow
  have hown2 : w5.ownsRow w.heap.size 3 1 v' n (ints row) := by simpa using hown'
  have hb5 : Below w.heap.size w w5 := ((Below.refl _ _).alloc (Nat.le_refl _) (.cells #[] 3)).grown hgrow (by simp) (own_block (own_empty w 3))
  have HR := Lib.hid (out_mk HL.out hown2 hb5)
  clear hown' hgrow hown2 hb5
  go_wp2
  go_ret
  exact HR.out
set_option maxRecDepth 100000 in
set_option maxHeartbeats 16000000 in
theorem sOrder_any (n : Nat) (hn : n ≤ 1048576) (cs : List (Int × Int)) (hl : cs.length = n) (A : Option Addr) (c0 : Nat) (w : World) (hr : Rd w w.heap.size A (cakeV cs)) (a b : Int) :
    Calls Try.prog 44 #[.slice A n c0, .int .i64 a, .int .i64 b] w (OutI (floatT a b cs) w) := by
  cases hv : cakesB a b cs
  · rw [floatT_no hv]
    have CV := Lib.hid (sVC_is n hn cs hl A c0 w _ hr a b hv)
    clear hv
    go_enter Try.func44, Try.ntmps44
    go_wp2_with fail
    refine (CV.out).mono ?_
    rintro e w1 ⟨rfl, nv, rfl⟩
    go_wp2
    go_ret
    exact ⟨none, 0, rfl, ⟨rfl, .inl ⟨rfl, rfl⟩⟩, below_drewN (Below.refl _ _) _⟩
  · rw [floatT_ok hv]
    have CV := Lib.hid (sVC_is n hn cs hl A c0 w _ hr a b hv)
    have hP := plc_cakes hv
    have HP := Lib.hid hP
    have HO : Hid (∀ k, k ≤ n → Ordd (plcF cs) k (ordF cs k)) := Lib.hid fun k hk => ordF_ok hP k (by omega)
    have HL := Lib.hid hl
    obtain ⟨i0, hi, hz0, hz1, hz2⟩ := info_parts info_int
    clear hv hP hl
    go_enter Try.func44, Try.ntmps44
    go_wp2_with fail
    refine (CV.out).mono ?_
    rintro e w1 ⟨rfl, nv, rfl⟩
    go_wp2
    go_loopw [7, 8] (fun v i wr => ∃ k g c : Nat, k ≤ n ∧ v = .slice (some ⟨g, 0, none⟩) k c ∧ i = .int .i64 k ∧ wr.ownsRow w.heap.size 3 1 (.slice (some ⟨g, 0, none⟩) k c) k (ints (nats (ordF cs k))) ∧ Below w.heap.size w wr) (fun _ i _ => n - (intOf i).toNat)
    case atStart => exact ⟨0, _, _, Nat.zero_le _, rfl, rfl, own_empty (w.drewN nv) _, (below_drewN (Below.refl _ _) _).alloc (Nat.le_refl _) _⟩
    case round =>
      obtain ⟨k, g, c, hk, rfl, rfl, hown0, hbel0⟩ := hrel
      by_cases hlt : k < n
      · obtain ⟨wo, rfl⟩ : ∃ wo, wo = wr := ⟨wr, rfl⟩
        have HOW := Lib.hid hown0
        have HBEL := Lib.hid hbel0
        have hORD := HO.out k hk
        have HORD := Lib.hid hORD
        have HLN : Hid ((nats (ordF cs k)).length = k) := Lib.hid (by rw [nats_length, hORD.len])
        have hcap : k ≤ c ∧ c ≤ maxLen := by
          rcases hown0.2 with ⟨e, _⟩ | ⟨g', cap, cur, e, _, _, h3, h4, _⟩
          · cases e
          · injection e with _ _ e3; subst e3; exact ⟨h3, h4⟩
        have hbk := befF_le (plcF cs) k k
        clear hown0 hbel0 hORD
        go_wp2
        go_loopw [9] (fun at' wr => ∃ p m : Nat, befF (plcF cs) k k ≤ p ∧ p ≤ k ∧ at' = .int .i64 p ∧ wr = wo.drewN m) (fun at' _ => (intOf at').toNat)
        case atStart => exact ⟨k, 0, hbk, Nat.le_refl _, rfl, rfl⟩
        case round =>
          obtain ⟨p, m, hp, hpk, rfl, hwr⟩ := hrel
          have hown : wr.ownsRow w.heap.size 3 1 (.slice (some ⟨g, 0, none⟩) k c) k (ints (nats (ordF cs k))) := by rw [hwr]; exact own_drewN HOW.out m
          have hbw : Below w.heap.size w wr := by rw [hwr]; exact below_drewN HBEL.out m
          have hsz := hbw.size
          have HW := Lib.hid hwr
          have HBW := Lib.hid hbw
          have l1 : p ≤ c := by omega
          have l2 : (p : Int) ≤ (c : Int) := by omega
          have l3 : (p : Int) ≤ (k : Int) := by omega
          have l4 : (k : Int) ≤ (c : Int) := by omega
          clear hwr
          by_cases hp0 : p = 0
          · have z1 : decide ((0 : Int) < (p : Int)) = false := decide_eq_false (by omega)
            have z2 : decide (0 < p) = false := decide_eq_false (by omega)
            have HP0 := Lib.hid hp0
            clear hp0 hbw
            go_wp2
            refine wp_region_quiet_lit (by kernel_rfl) (by kernel_rfl) ?_
            repeat (go_big_quiet_step (fail))
            refine wpQuiet_nil ?_
            intro _ hw'
            obtain ⟨nq, hw''⟩ := hw'
            subst hw''
            obtain ⟨wn, hwn⟩ : ∃ wn, wn = wr.drewN nq := ⟨_, rfl⟩
            have hownN : wn.ownsRow w.heap.size 3 1 (.slice (some ⟨g, 0, none⟩) k c) k (ints (nats (ordF cs k))) := by rw [hwn]; exact own_drewN hown nq
            have HBN : Hid (Below w.heap.size w wn) := Lib.hid (by rw [hwn]; exact below_drewN HBW.out nq)
            have hszN := HBN.out.size
            rw [← hwn]
            clear hwn hown HBW hsz HW
            obtain ⟨wr, rfl⟩ : ∃ wr, wr = wn := ⟨wn, rfl⟩
            have hown := hownN
            have HBW := HBN
            have hsz := hszN
            clear hownN HBN hszN
            by_cases hcp : c = p
            · as_aux_lemma =>
                have hpc := hcp.symm
                subst hpc
                have hpe : p = befF (plcF cs) k k := by have := HP0.out; omega
                have hkp : k - p = 0 := by omega
                obtain ⟨rs, hrs⟩ : ∃ rs, rs = (nats (ordF cs k)).drop p := ⟨_, rfl⟩
                have hdl : rs.length = 0 := by rw [hrs, List.length_drop, HLN.out]; exact hkp
                have hrd : ∀ A : Option Addr, Rd wr wr.heap.size A (ints rs) := by
                  intro A
                  rw [hrs, List.drop_eq_nil_of_le (by rw [HLN.out]; omega)]; exact Rd.nil_
                have HOWN := Lib.hid hown
                have HPE := Lib.hid hpe
                have HRS := Lib.hid hrs
                clear hown hpe hrs
                go_wp2_with fail
                refine (sCopyA_any rs 0 hdl (by omega) _ _ wr (by first | exact hrd () | exact hrd _)).mono ?_
                rintro e w5 ⟨A5, c5, rfl, o5, b5⟩
                rw [hdl] at o5 ⊢
                have HDL := Lib.hid hdl
                clear hdl
                have hpm : p + 0 = k := by omega
                have HPM := Lib.hid hpm
                clear hpm
                have hs5 := b5.size
                have hown5 := own_below HOWN.out b5
                have hpre := own_take hown5 hpk
                have hgl := own_lt HOWN.out g rfl
                have hbl5 := HBW.out.trans (b5.mono hsz)
                clear hrd
                go_wp2_with (at_builtin; refine wpList_append_own _ rfl _ _ 23 rfl (w.heap.size) 3 i0 (.int .i64 0) 1 8 Try.underlying23 hi hz0 hz1 hz2 rfl (by decide) _ _ _ rfl (own_alloc hpre _) ⟨w5.heap.size, 0, none⟩ 1 1 [.int .i64 (k : Int)] rfl rfl (one_new _ _ _ _ rfl) (fun u hu => by simp at hu; subst hu; rfl) (by unfold maxLen; omega) (by omega) (by simp; omega) ?_)
                intro v6 w6 own6 grow6 _
                have HO5 : Hid (w6.ownsRow wr.heap.size 3 1 (.slice A5 0 c5) 0 (ints rs)) := Lib.hid (own_far (g := 0) (own_alloc o5 (.cells #[.int .i64 (k : Int)] 3)) (fun q hq hq2 => grow6.block q hq2 (fun e => by simp [Value.ownBlock] at e; omega)))
                have hbl6 : Below w.heap.size w w6 := (hbl5.alloc (by omega) (.cells #[.int .i64 (k : Int)] 3)).grown grow6 (by simp; omega) (own_block hpre)
                have hs6 := hbl6.size
                clear o5 b5 hpre hown5 grow6
                go_wp2_with (at_builtin; refine push_any rfl _ _ 23 rfl w.heap.size 3 i0 (.int .i64 0) 8 Try.underlying23 hi hz0 hz1 hz2 rfl _ _ _ rfl own6 _ _ _ w6.heap.size (ints rs) rfl (Rd.own HO5.out) (by have := HO5.out.1; omega) oneCell_ints2 (by unfold maxLen; omega) (by omega) hs6 ?_)
                intro v7 w7 own7 grow7
                have hbl7 : Below w.heap.size w w7 := hbl6.grown grow7 hs6 (own_block own6)
                have own8 : w7.ownsRow w.heap.size 3 1 v7 (k + 1) (ints (nats (ordF cs (k + 1)))) := by
                  have h := own7
                  rw [show p + 1 + 0 = k + 1 by have := HPM.out; omega] at h
                  rw [ordF_nats HPE.out, ← HRS.out, List.append_assoc]
                  exact h
                obtain ⟨A8, c8, rfl⟩ := own_form own8
                obtain ⟨g8, rfl, _, _, _, _⟩ := own_some own8 (by omega)
                have HPP := Lib.hid (And.intro own8 hbl7)
                clear own7 own8 own6 grow7 hbl7 hbl6 hbl5
                go_wp2
                go_roundw
                case rel => exact ⟨k + 1, g8, c8, by omega, rfl, by go_num, HPP.out.1, HPP.out.2⟩
                case measure => simp [intOf]; omega
            · as_aux_lemma =>
                have hpe : p = befF (plcF cs) k k := by have := HP0.out; omega
                obtain ⟨rs, hrs⟩ : ∃ rs, rs = (nats (ordF cs k)).drop p := ⟨_, rfl⟩
                have hdl : rs.length = k - p := by rw [hrs, List.length_drop, HLN.out]
                have hrd : ∀ _ : Unit, Rd wr wr.heap.size (some ⟨g, p, none⟩) (ints rs) := by
                  intro _
                  rw [hrs]
                  have h := (Rd.own hown).drop p
                  have e : (⟨g, 0, none⟩ : Addr).add p = ⟨g, p, none⟩ := by rw [Addr.add_lit, Nat.zero_add]
                  rw [Option.map_some, e] at h
                  rw [← show ints ((nats (ordF cs k)).drop p) = (ints (nats (ordF cs k))).drop p from by rw [ints, ints, List.map_drop]] at h
                  exact h
                have HOWN := Lib.hid hown
                have HPE := Lib.hid hpe
                have HRS := Lib.hid hrs
                clear hown hpe hrs
                go_wp2_with fail
                refine (sCopyA_any rs (k - p) hdl (by omega) _ _ wr (by first | exact hrd () | exact hrd _)).mono ?_
                rintro e w5 ⟨A5, c5, rfl, o5, b5⟩
                rw [hdl] at o5 ⊢
                have HDL := Lib.hid hdl
                clear hdl
                generalize hm5 : k - p = m5 at *
                have hpm : p + m5 = k := by omega
                have HPM := Lib.hid hpm
                have hm5k : m5 ≤ 1048576 := by omega
                clear hm5 hpm
                have hs5 := b5.size
                have hown5 := own_below HOWN.out b5
                have hpre := own_take hown5 hpk
                have hgl := own_lt HOWN.out g rfl
                have hbl5 := HBW.out.trans (b5.mono hsz)
                clear hrd
                go_wp2_with (at_builtin; refine wpList_append_own _ rfl _ _ 23 rfl (w.heap.size) 3 i0 (.int .i64 0) 1 8 Try.underlying23 hi hz0 hz1 hz2 rfl (by decide) _ _ _ rfl (own_alloc hpre _) ⟨w5.heap.size, 0, none⟩ 1 1 [.int .i64 (k : Int)] rfl rfl (one_new _ _ _ _ rfl) (fun u hu => by simp at hu; subst hu; rfl) (by unfold maxLen; omega) (by omega) (by simp; omega) ?_)
                intro v6 w6 own6 grow6 _
                have HO5 : Hid (w6.ownsRow wr.heap.size 3 1 (.slice A5 m5 c5) m5 (ints rs)) := Lib.hid (own_far (g := 0) (own_alloc o5 (.cells #[.int .i64 (k : Int)] 3)) (fun q hq hq2 => grow6.block q hq2 (fun e => by simp [Value.ownBlock] at e; omega)))
                have hbl6 : Below w.heap.size w w6 := (hbl5.alloc (by omega) (.cells #[.int .i64 (k : Int)] 3)).grown grow6 (by simp; omega) (own_block hpre)
                have hs6 := hbl6.size
                clear o5 b5 hpre hown5 grow6
                go_wp2_with (at_builtin; refine push_any rfl _ _ 23 rfl w.heap.size 3 i0 (.int .i64 0) 8 Try.underlying23 hi hz0 hz1 hz2 rfl _ _ _ rfl own6 _ _ _ w6.heap.size (ints rs) rfl (Rd.own HO5.out) (by have := HO5.out.1; omega) oneCell_ints2 (by unfold maxLen; omega) (by omega) hs6 ?_)
                intro v7 w7 own7 grow7
                have hbl7 : Below w.heap.size w w7 := hbl6.grown grow7 hs6 (own_block own6)
                have own8 : w7.ownsRow w.heap.size 3 1 v7 (k + 1) (ints (nats (ordF cs (k + 1)))) := by
                  have h := own7
                  rw [show p + 1 + m5 = k + 1 by have := HPM.out; omega] at h
                  rw [ordF_nats HPE.out, ← HRS.out, List.append_assoc]
                  exact h
                obtain ⟨A8, c8, rfl⟩ := own_form own8
                obtain ⟨g8, rfl, _, _, _, _⟩ := own_some own8 (by omega)
                have HPP := Lib.hid (And.intro own8 hbl7)
                clear own7 own8 own6 grow7 hbl7 hbl6 hbl5
                go_wp2
                go_roundw
                case rel => exact ⟨k + 1, g8, c8, by omega, rfl, by go_num, HPP.out.1, HPP.out.2⟩
                case measure => simp [intOf]; omega
          · have z1 : decide ((0 : Int) < (p : Int)) = true := decide_eq_true (by omega)
            have z2 : decide (0 < p) = true := decide_eq_true (by omega)
            obtain ⟨q, hq⟩ : ∃ q, p = q + 1 := ⟨p - 1, by omega⟩
            have hqi : (p : Int) - 1 = (q : Int) := by omega
            have HQ := Lib.hid hq
            have hqw : IntKind.i64.wrap (q : Int) = (q : Int) := IntWalk.i64_in _ (by omega)
            have hqk : q < k := by omega
            obtain ⟨j, hj⟩ : ∃ j, (ordF cs k)[q]? = some j := ⟨_, List.getElem?_eq_getElem (by rw [HORD.out.len]; exact hqk)⟩
            have hjk := (HORD.out.of q j hj).1
            have HST := Lib.hid (HORD.out.stop HP.out (by rw [HL.out]; exact hlt) hj)
            have hcq := own_cell hown (k := q) (x := .int .i64 (j : Int)) (by rw [ints, nats, List.getElem?_map, List.getElem?_map, hj]; rfl)
            obtain ⟨b2, off, u, v, rfl, hb2, hz, hc, hc2⟩ := ((hr.below hbw)).cake_ (k := j) (by rw [HL.out]; omega)
            obtain ⟨b3, off3, x, y, hA3, hb3, hz3, hc3, hc4⟩ := ((hr.below hbw)).cake_ (k := k) (by rw [HL.out]; exact hlt)
            cases hA3
            have HCJ : Hid (cAt cs j = (u, v)) := Lib.hid (cAt_get hz.out)
            have HCK : Hid (cAt cs k = (x, y)) := Lib.hid (cAt_get hz3.out)
            have hjn : j < n := by omega
            clear hp0 hbw hj hz hz3 hq
            have hway : x < u ∨ (u = x ∧ y < v) ∨ (u = x ∧ ¬ y < v) ∨ u < x := by omega
            rcases hway with hway | hway | hway | hway
            · as_aux_lemma =>
                have f1 : decide (x < u) = true := decide_eq_true (by omega)
                have hbq : befF (plcF cs) k k ≤ q := (HST.out).1 (by unfold plcF ltC; rw [HCJ.out, HCK.out]; exact decide_eq_true (by omega))
                clear hway
                go_wp2
                refine wp_region_quiet_lit (by kernel_rfl) (by kernel_rfl) ?_
                repeat (go_big_quiet_step (fail))
                refine wpQuiet_nil ?_
                intro _ hw'
                obtain ⟨nq, hw''⟩ := hw'
                subst hw''
                go_wp2
                go_roundw
                case rel => exact ⟨q, _, hbq, by omega, by go_num, by first | (rw [HW.out, drewN_add]; done) | rfl⟩
                case measure => have := HQ.out; simp [intOf]; omega
            · as_aux_lemma =>
                have f1 : decide (x < u) = false := decide_eq_false (by omega)
                have f2 : (u == x) = true := beq_iff_eq.2 (by omega)
                have f3 : decide (y < v) = true := decide_eq_true (by omega)
                have hbq : befF (plcF cs) k k ≤ q := (HST.out).1 (by unfold plcF ltC; rw [HCJ.out, HCK.out]; exact decide_eq_true (by omega))
                clear hway
                go_wp2
                refine wp_region_quiet_lit (by kernel_rfl) (by kernel_rfl) ?_
                repeat (go_big_quiet_step (fail))
                refine wpQuiet_nil ?_
                intro _ hw'
                obtain ⟨nq, hw''⟩ := hw'
                subst hw''
                go_wp2
                go_roundw
                case rel => exact ⟨q, _, hbq, by omega, by go_num, by first | (rw [HW.out, drewN_add]; done) | rfl⟩
                case measure => have := HQ.out; simp [intOf]; omega
            · have f1 : decide (x < u) = false := decide_eq_false (by omega)
              have f2 : (u == x) = true := beq_iff_eq.2 (by omega)
              have f3 : decide (y < v) = false := decide_eq_false (by omega)
              have hbq : ¬ befF (plcF cs) k k ≤ q := fun h => by
                have h1 := (HST.out).2 h
                unfold plcF ltC at h1
                rw [HCJ.out, HCK.out, decide_eq_true_eq] at h1
                omega
              clear hway
              go_wp2
              refine wp_region_quiet_lit (by kernel_rfl) (by kernel_rfl) ?_
              repeat (go_big_quiet_step (fail))
              refine wpQuiet_nil ?_
              intro _ hw'
              obtain ⟨nq, hw''⟩ := hw'
              subst hw''
              obtain ⟨wn, hwn⟩ : ∃ wn, wn = wr.drewN nq := ⟨_, rfl⟩
              have hownN : wn.ownsRow w.heap.size 3 1 (.slice (some ⟨g, 0, none⟩) k c) k (ints (nats (ordF cs k))) := by rw [hwn]; exact own_drewN hown nq
              have HBN : Hid (Below w.heap.size w wn) := Lib.hid (by rw [hwn]; exact below_drewN HBW.out nq)
              have hszN := HBN.out.size
              rw [← hwn]
              clear hwn hown HBW hsz HW
              obtain ⟨wr, rfl⟩ : ∃ wr, wr = wn := ⟨wn, rfl⟩
              have hown := hownN
              have HBW := HBN
              have hsz := hszN
              clear hownN HBN hszN
              by_cases hcp : c = p
              · as_aux_lemma =>
                  have hpc := hcp.symm
                  subst hpc
                  have hpe : p = befF (plcF cs) k k := by have := HQ.out; omega
                  have hkp : k - p = 0 := by omega
                  obtain ⟨rs, hrs⟩ : ∃ rs, rs = (nats (ordF cs k)).drop p := ⟨_, rfl⟩
                  have hdl : rs.length = 0 := by rw [hrs, List.length_drop, HLN.out]; exact hkp
                  have hrd : ∀ A : Option Addr, Rd wr wr.heap.size A (ints rs) := by
                    intro A
                    rw [hrs, List.drop_eq_nil_of_le (by rw [HLN.out]; omega)]; exact Rd.nil_
                  have HOWN := Lib.hid hown
                  have HPE := Lib.hid hpe
                  have HRS := Lib.hid hrs
                  clear hown hpe hrs
                  go_wp2_with fail
                  refine (sCopyA_any rs 0 hdl (by omega) _ _ wr (by first | exact hrd () | exact hrd _)).mono ?_
                  rintro e w5 ⟨A5, c5, rfl, o5, b5⟩
                  rw [hdl] at o5 ⊢
                  have HDL := Lib.hid hdl
                  clear hdl
                  have hpm : p + 0 = k := by omega
                  have HPM := Lib.hid hpm
                  clear hpm
                  have hs5 := b5.size
                  have hown5 := own_below HOWN.out b5
                  have hpre := own_take hown5 hpk
                  have hgl := own_lt HOWN.out g rfl
                  have hbl5 := HBW.out.trans (b5.mono hsz)
                  clear hrd
                  go_wp2_with (at_builtin; refine wpList_append_own _ rfl _ _ 23 rfl (w.heap.size) 3 i0 (.int .i64 0) 1 8 Try.underlying23 hi hz0 hz1 hz2 rfl (by decide) _ _ _ rfl (own_alloc hpre _) ⟨w5.heap.size, 0, none⟩ 1 1 [.int .i64 (k : Int)] rfl rfl (one_new _ _ _ _ rfl) (fun u hu => by simp at hu; subst hu; rfl) (by unfold maxLen; omega) (by omega) (by simp; omega) ?_)
                  intro v6 w6 own6 grow6 _
                  have HO5 : Hid (w6.ownsRow wr.heap.size 3 1 (.slice A5 0 c5) 0 (ints rs)) := Lib.hid (own_far (g := 0) (own_alloc o5 (.cells #[.int .i64 (k : Int)] 3)) (fun q hq hq2 => grow6.block q hq2 (fun e => by simp [Value.ownBlock] at e; omega)))
                  have hbl6 : Below w.heap.size w w6 := (hbl5.alloc (by omega) (.cells #[.int .i64 (k : Int)] 3)).grown grow6 (by simp; omega) (own_block hpre)
                  have hs6 := hbl6.size
                  clear o5 b5 hpre hown5 grow6
                  go_wp2_with (at_builtin; refine push_any rfl _ _ 23 rfl w.heap.size 3 i0 (.int .i64 0) 8 Try.underlying23 hi hz0 hz1 hz2 rfl _ _ _ rfl own6 _ _ _ w6.heap.size (ints rs) rfl (Rd.own HO5.out) (by have := HO5.out.1; omega) oneCell_ints2 (by unfold maxLen; omega) (by omega) hs6 ?_)
                  intro v7 w7 own7 grow7
                  have hbl7 : Below w.heap.size w w7 := hbl6.grown grow7 hs6 (own_block own6)
                  have own8 : w7.ownsRow w.heap.size 3 1 v7 (k + 1) (ints (nats (ordF cs (k + 1)))) := by
                    have h := own7
                    rw [show p + 1 + 0 = k + 1 by have := HPM.out; omega] at h
                    rw [ordF_nats HPE.out, ← HRS.out, List.append_assoc]
                    exact h
                  obtain ⟨A8, c8, rfl⟩ := own_form own8
                  obtain ⟨g8, rfl, _, _, _, _⟩ := own_some own8 (by omega)
                  have HPP := Lib.hid (And.intro own8 hbl7)
                  clear own7 own8 own6 grow7 hbl7 hbl6 hbl5
                  go_wp2
                  go_roundw
                  case rel => exact ⟨k + 1, g8, c8, by omega, rfl, by go_num, HPP.out.1, HPP.out.2⟩
                  case measure => simp [intOf]; omega
              · as_aux_lemma =>
                  have hpe : p = befF (plcF cs) k k := by have := HQ.out; omega
                  obtain ⟨rs, hrs⟩ : ∃ rs, rs = (nats (ordF cs k)).drop p := ⟨_, rfl⟩
                  have hdl : rs.length = k - p := by rw [hrs, List.length_drop, HLN.out]
                  have hrd : ∀ _ : Unit, Rd wr wr.heap.size (some ⟨g, p, none⟩) (ints rs) := by
                    intro _
                    rw [hrs]
                    have h := (Rd.own hown).drop p
                    have e : (⟨g, 0, none⟩ : Addr).add p = ⟨g, p, none⟩ := by rw [Addr.add_lit, Nat.zero_add]
                    rw [Option.map_some, e] at h
                    rw [← show ints ((nats (ordF cs k)).drop p) = (ints (nats (ordF cs k))).drop p from by rw [ints, ints, List.map_drop]] at h
                    exact h
                  have HOWN := Lib.hid hown
                  have HPE := Lib.hid hpe
                  have HRS := Lib.hid hrs
                  clear hown hpe hrs
                  go_wp2_with fail
                  refine (sCopyA_any rs (k - p) hdl (by omega) _ _ wr (by first | exact hrd () | exact hrd _)).mono ?_
                  rintro e w5 ⟨A5, c5, rfl, o5, b5⟩
                  rw [hdl] at o5 ⊢
                  have HDL := Lib.hid hdl
                  clear hdl
                  generalize hm5 : k - p = m5 at *
                  have hpm : p + m5 = k := by omega
                  have HPM := Lib.hid hpm
                  have hm5k : m5 ≤ 1048576 := by omega
                  clear hm5 hpm
                  have hs5 := b5.size
                  have hown5 := own_below HOWN.out b5
                  have hpre := own_take hown5 hpk
                  have hgl := own_lt HOWN.out g rfl
                  have hbl5 := HBW.out.trans (b5.mono hsz)
                  clear hrd
                  go_wp2_with (at_builtin; refine wpList_append_own _ rfl _ _ 23 rfl (w.heap.size) 3 i0 (.int .i64 0) 1 8 Try.underlying23 hi hz0 hz1 hz2 rfl (by decide) _ _ _ rfl (own_alloc hpre _) ⟨w5.heap.size, 0, none⟩ 1 1 [.int .i64 (k : Int)] rfl rfl (one_new _ _ _ _ rfl) (fun u hu => by simp at hu; subst hu; rfl) (by unfold maxLen; omega) (by omega) (by simp; omega) ?_)
                  intro v6 w6 own6 grow6 _
                  have HO5 : Hid (w6.ownsRow wr.heap.size 3 1 (.slice A5 m5 c5) m5 (ints rs)) := Lib.hid (own_far (g := 0) (own_alloc o5 (.cells #[.int .i64 (k : Int)] 3)) (fun q hq hq2 => grow6.block q hq2 (fun e => by simp [Value.ownBlock] at e; omega)))
                  have hbl6 : Below w.heap.size w w6 := (hbl5.alloc (by omega) (.cells #[.int .i64 (k : Int)] 3)).grown grow6 (by simp; omega) (own_block hpre)
                  have hs6 := hbl6.size
                  clear o5 b5 hpre hown5 grow6
                  go_wp2_with (at_builtin; refine push_any rfl _ _ 23 rfl w.heap.size 3 i0 (.int .i64 0) 8 Try.underlying23 hi hz0 hz1 hz2 rfl _ _ _ rfl own6 _ _ _ w6.heap.size (ints rs) rfl (Rd.own HO5.out) (by have := HO5.out.1; omega) oneCell_ints2 (by unfold maxLen; omega) (by omega) hs6 ?_)
                  intro v7 w7 own7 grow7
                  have hbl7 : Below w.heap.size w w7 := hbl6.grown grow7 hs6 (own_block own6)
                  have own8 : w7.ownsRow w.heap.size 3 1 v7 (k + 1) (ints (nats (ordF cs (k + 1)))) := by
                    have h := own7
                    rw [show p + 1 + m5 = k + 1 by have := HPM.out; omega] at h
                    rw [ordF_nats HPE.out, ← HRS.out, List.append_assoc]
                    exact h
                  obtain ⟨A8, c8, rfl⟩ := own_form own8
                  obtain ⟨g8, rfl, _, _, _, _⟩ := own_some own8 (by omega)
                  have HPP := Lib.hid (And.intro own8 hbl7)
                  clear own7 own8 own6 grow7 hbl7 hbl6 hbl5
                  go_wp2
                  go_roundw
                  case rel => exact ⟨k + 1, g8, c8, by omega, rfl, by go_num, HPP.out.1, HPP.out.2⟩
                  case measure => simp [intOf]; omega
            · have f1 : decide (x < u) = false := decide_eq_false (by omega)
              have f2 : (u == x) = false := beq_eq_false_iff_ne.2 (by omega)
              have hbq : ¬ befF (plcF cs) k k ≤ q := fun h => by
                have h1 := (HST.out).2 h
                unfold plcF ltC at h1
                rw [HCJ.out, HCK.out, decide_eq_true_eq] at h1
                omega
              clear hway
              go_wp2
              refine wp_region_quiet_lit (by kernel_rfl) (by kernel_rfl) ?_
              repeat (go_big_quiet_step (fail))
              refine wpQuiet_nil ?_
              intro _ hw'
              obtain ⟨nq, hw''⟩ := hw'
              subst hw''
              obtain ⟨wn, hwn⟩ : ∃ wn, wn = wr.drewN nq := ⟨_, rfl⟩
              have hownN : wn.ownsRow w.heap.size 3 1 (.slice (some ⟨g, 0, none⟩) k c) k (ints (nats (ordF cs k))) := by rw [hwn]; exact own_drewN hown nq
              have HBN : Hid (Below w.heap.size w wn) := Lib.hid (by rw [hwn]; exact below_drewN HBW.out nq)
              have hszN := HBN.out.size
              rw [← hwn]
              clear hwn hown HBW hsz HW
              obtain ⟨wr, rfl⟩ : ∃ wr, wr = wn := ⟨wn, rfl⟩
              have hown := hownN
              have HBW := HBN
              have hsz := hszN
              clear hownN HBN hszN
              by_cases hcp : c = p
              · as_aux_lemma =>
                  have hpc := hcp.symm
                  subst hpc
                  have hpe : p = befF (plcF cs) k k := by have := HQ.out; omega
                  have hkp : k - p = 0 := by omega
                  obtain ⟨rs, hrs⟩ : ∃ rs, rs = (nats (ordF cs k)).drop p := ⟨_, rfl⟩
                  have hdl : rs.length = 0 := by rw [hrs, List.length_drop, HLN.out]; exact hkp
                  have hrd : ∀ A : Option Addr, Rd wr wr.heap.size A (ints rs) := by
                    intro A
                    rw [hrs, List.drop_eq_nil_of_le (by rw [HLN.out]; omega)]; exact Rd.nil_
                  have HOWN := Lib.hid hown
                  have HPE := Lib.hid hpe
                  have HRS := Lib.hid hrs
                  clear hown hpe hrs
                  go_wp2_with fail
                  refine (sCopyA_any rs 0 hdl (by omega) _ _ wr (by first | exact hrd () | exact hrd _)).mono ?_
                  rintro e w5 ⟨A5, c5, rfl, o5, b5⟩
                  rw [hdl] at o5 ⊢
                  have HDL := Lib.hid hdl
                  clear hdl
                  have hpm : p + 0 = k := by omega
                  have HPM := Lib.hid hpm
                  clear hpm
                  have hs5 := b5.size
                  have hown5 := own_below HOWN.out b5
                  have hpre := own_take hown5 hpk
                  have hgl := own_lt HOWN.out g rfl
                  have hbl5 := HBW.out.trans (b5.mono hsz)
                  clear hrd
                  go_wp2_with (at_builtin; refine wpList_append_own _ rfl _ _ 23 rfl (w.heap.size) 3 i0 (.int .i64 0) 1 8 Try.underlying23 hi hz0 hz1 hz2 rfl (by decide) _ _ _ rfl (own_alloc hpre _) ⟨w5.heap.size, 0, none⟩ 1 1 [.int .i64 (k : Int)] rfl rfl (one_new _ _ _ _ rfl) (fun u hu => by simp at hu; subst hu; rfl) (by unfold maxLen; omega) (by omega) (by simp; omega) ?_)
                  intro v6 w6 own6 grow6 _
                  have HO5 : Hid (w6.ownsRow wr.heap.size 3 1 (.slice A5 0 c5) 0 (ints rs)) := Lib.hid (own_far (g := 0) (own_alloc o5 (.cells #[.int .i64 (k : Int)] 3)) (fun q hq hq2 => grow6.block q hq2 (fun e => by simp [Value.ownBlock] at e; omega)))
                  have hbl6 : Below w.heap.size w w6 := (hbl5.alloc (by omega) (.cells #[.int .i64 (k : Int)] 3)).grown grow6 (by simp; omega) (own_block hpre)
                  have hs6 := hbl6.size
                  clear o5 b5 hpre hown5 grow6
                  go_wp2_with (at_builtin; refine push_any rfl _ _ 23 rfl w.heap.size 3 i0 (.int .i64 0) 8 Try.underlying23 hi hz0 hz1 hz2 rfl _ _ _ rfl own6 _ _ _ w6.heap.size (ints rs) rfl (Rd.own HO5.out) (by have := HO5.out.1; omega) oneCell_ints2 (by unfold maxLen; omega) (by omega) hs6 ?_)
                  intro v7 w7 own7 grow7
                  have hbl7 : Below w.heap.size w w7 := hbl6.grown grow7 hs6 (own_block own6)
                  have own8 : w7.ownsRow w.heap.size 3 1 v7 (k + 1) (ints (nats (ordF cs (k + 1)))) := by
                    have h := own7
                    rw [show p + 1 + 0 = k + 1 by have := HPM.out; omega] at h
                    rw [ordF_nats HPE.out, ← HRS.out, List.append_assoc]
                    exact h
                  obtain ⟨A8, c8, rfl⟩ := own_form own8
                  obtain ⟨g8, rfl, _, _, _, _⟩ := own_some own8 (by omega)
                  have HPP := Lib.hid (And.intro own8 hbl7)
                  clear own7 own8 own6 grow7 hbl7 hbl6 hbl5
                  go_wp2
                  go_roundw
                  case rel => exact ⟨k + 1, g8, c8, by omega, rfl, by go_num, HPP.out.1, HPP.out.2⟩
                  case measure => simp [intOf]; omega
              · as_aux_lemma =>
                  have hpe : p = befF (plcF cs) k k := by have := HQ.out; omega
                  obtain ⟨rs, hrs⟩ : ∃ rs, rs = (nats (ordF cs k)).drop p := ⟨_, rfl⟩
                  have hdl : rs.length = k - p := by rw [hrs, List.length_drop, HLN.out]
                  have hrd : ∀ _ : Unit, Rd wr wr.heap.size (some ⟨g, p, none⟩) (ints rs) := by
                    intro _
                    rw [hrs]
                    have h := (Rd.own hown).drop p
                    have e : (⟨g, 0, none⟩ : Addr).add p = ⟨g, p, none⟩ := by rw [Addr.add_lit, Nat.zero_add]
                    rw [Option.map_some, e] at h
                    rw [← show ints ((nats (ordF cs k)).drop p) = (ints (nats (ordF cs k))).drop p from by rw [ints, ints, List.map_drop]] at h
                    exact h
                  have HOWN := Lib.hid hown
                  have HPE := Lib.hid hpe
                  have HRS := Lib.hid hrs
                  clear hown hpe hrs
                  go_wp2_with fail
                  refine (sCopyA_any rs (k - p) hdl (by omega) _ _ wr (by first | exact hrd () | exact hrd _)).mono ?_
                  rintro e w5 ⟨A5, c5, rfl, o5, b5⟩
                  rw [hdl] at o5 ⊢
                  have HDL := Lib.hid hdl
                  clear hdl
                  generalize hm5 : k - p = m5 at *
                  have hpm : p + m5 = k := by omega
                  have HPM := Lib.hid hpm
                  have hm5k : m5 ≤ 1048576 := by omega
                  clear hm5 hpm
                  have hs5 := b5.size
                  have hown5 := own_below HOWN.out b5
                  have hpre := own_take hown5 hpk
                  have hgl := own_lt HOWN.out g rfl
                  have hbl5 := HBW.out.trans (b5.mono hsz)
                  clear hrd
                  go_wp2_with (at_builtin; refine wpList_append_own _ rfl _ _ 23 rfl (w.heap.size) 3 i0 (.int .i64 0) 1 8 Try.underlying23 hi hz0 hz1 hz2 rfl (by decide) _ _ _ rfl (own_alloc hpre _) ⟨w5.heap.size, 0, none⟩ 1 1 [.int .i64 (k : Int)] rfl rfl (one_new _ _ _ _ rfl) (fun u hu => by simp at hu; subst hu; rfl) (by unfold maxLen; omega) (by omega) (by simp; omega) ?_)
                  intro v6 w6 own6 grow6 _
                  have HO5 : Hid (w6.ownsRow wr.heap.size 3 1 (.slice A5 m5 c5) m5 (ints rs)) := Lib.hid (own_far (g := 0) (own_alloc o5 (.cells #[.int .i64 (k : Int)] 3)) (fun q hq hq2 => grow6.block q hq2 (fun e => by simp [Value.ownBlock] at e; omega)))
                  have hbl6 : Below w.heap.size w w6 := (hbl5.alloc (by omega) (.cells #[.int .i64 (k : Int)] 3)).grown grow6 (by simp; omega) (own_block hpre)
                  have hs6 := hbl6.size
                  clear o5 b5 hpre hown5 grow6
                  go_wp2_with (at_builtin; refine push_any rfl _ _ 23 rfl w.heap.size 3 i0 (.int .i64 0) 8 Try.underlying23 hi hz0 hz1 hz2 rfl _ _ _ rfl own6 _ _ _ w6.heap.size (ints rs) rfl (Rd.own HO5.out) (by have := HO5.out.1; omega) oneCell_ints2 (by unfold maxLen; omega) (by omega) hs6 ?_)
                  intro v7 w7 own7 grow7
                  have hbl7 : Below w.heap.size w w7 := hbl6.grown grow7 hs6 (own_block own6)
                  have own8 : w7.ownsRow w.heap.size 3 1 v7 (k + 1) (ints (nats (ordF cs (k + 1)))) := by
                    have h := own7
                    rw [show p + 1 + m5 = k + 1 by have := HPM.out; omega] at h
                    rw [ordF_nats HPE.out, ← HRS.out, List.append_assoc]
                    exact h
                  obtain ⟨A8, c8, rfl⟩ := own_form own8
                  obtain ⟨g8, rfl, _, _, _, _⟩ := own_some own8 (by omega)
                  have HPP := Lib.hid (And.intro own8 hbl7)
                  clear own7 own8 own6 grow7 hbl7 hbl6 hbl5
                  go_wp2
                  go_roundw
                  case rel => exact ⟨k + 1, g8, c8, by omega, rfl, by go_num, HPP.out.1, HPP.out.2⟩
                  case measure => simp [intOf]; omega
      · obtain rfl : k = n := by omega
        have hlen : (ordF cs cs.length).length = k := by rw [(HO.out k (Nat.le_refl _) |> fun h => by rw [HL.out]; exact h : Ordd (plcF cs) k (ordF cs cs.length)).len]
        have R : OutI (nats (ordF cs cs.length)) w (.returned (.slice (some ⟨g, 0, none⟩) k c)) wr := out_mk (by rw [nats_length, hlen]) (by rw [HL.out]; exact hown0) hbel0
        have HR := Lib.hid R
        clear R hown0 hbel0
        go_wp2
        go_ret
        exact HR.out

end Go.Proofs.Ytjjddamblijffab

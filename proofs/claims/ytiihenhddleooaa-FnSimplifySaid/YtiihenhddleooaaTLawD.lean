/- The laws of chapter 7: words in common. -/
import Derived.Lib.QuietBelow
import Derived.Deep.AppendSrc
import Derived.Maps.AppendAt
import Derived.Deep.AppendLies
import Derived.Deep.RegionHeld3
import Derived.Test.YtiihenhddleooaaTDraws
import Derived.Test.YtiihenhddleooaaTAucS
import Derived.Test.YtiihenhddleooaaTSetS
import Derived.Test.YtiihenhddleooaaTSimS
import Derived.Test.YtiihenhddleooaaHelps
namespace Go.Proofs.Ytiihenhddleooaa
open Go.RowKit
set_option linter.unusedVariables false
set_option linter.unusedSimpArgs false
theorem eqT_k (zs : List Int) (A A' : Option Addr) (c c' : Nat) (w : World) (B : Nat) (hr : Rd w B A (ints zs)) (hr' : Rd w B A' (ints zs)) (hn : zs.length ≤ 1048576) :
    Calls Try.prog 20 #[.slice A zs.length c, .slice A' zs.length c'] w fun e w' => e = .returned (.bool true) ∧ Below w.heap.size w w' :=
  (equalInts_same zs A A' c c' w B hr hr' hn).mono fun _ _ ⟨h, n, e⟩ => ⟨h, e ▸ below_drewN (Below.refl _ _) n⟩
theorem step_Db {ops : Array Oper} {o : Oper} {a : Act} {w : World} {K : Act → World → Prop} {Q : Exit → Act → World → Prop} {E : Prop} (hgd : o.guard = none) (s x : Operand)
    (ho : o.op = .call { callee := .builtin .append, args := #[s, x], argTypes := #[23, 23] }) (base n m c : Nat) (v : Value) (xs news : List Value) (ad : Addr)
    (hs : a.eval s = v) (hx : a.eval x = .slice (some ad) m c) (hown : w.ownsRow base 31 3 v n xs) (hl : news.length = m * 3)
    (hnews : ∀ j u, news[j]? = some u → w.cell? (ad.add j) = some u) (h1 : ∀ u ∈ news, u.oneCell' = true) (hnm : n + m ≤ 1000) (hbase : base ≤ w.heap.size)
    (h : ∀ v' w', w'.ownsRow base 31 3 v' (n + m) (xs ++ news) → w.grownBy w' v.ownBlock → K (a.put o.dst v') w') :
    if Region.wanted o (yielded ops a.tmps) = true then Oper.wp Try.prog o a w K Q else E := by
  have hw : Region.wanted o (yielded ops a.tmps) = true := by simp [Region.wanted, hgd]
  rw [if_pos hw]
  obtain ⟨i0, hi, hz0, hz1, hz2⟩ := info_parts info_debt2
  obtain ⟨v', w', hrun, h2, h3, _, _⟩ := run_append_own_at (P := Try.prog) w base 23 o.type 31 i0 (.agg #[.int .i64 0, .int .i64 0, .int .i64 0]) 3 24 Try.underlying23 hi hz0 hz1 hz2 rfl (by omega) v n xs hown ad m c news hl hnews h1 (by unfold maxLen; omega) (by omega) hbase
  unfold Oper.wp
  simp [execOp, ho, resolve, invoke, builtin, hs, hx, hrun, Result.andThen]
  exact h v' w' h2 h3
set_option maxRecDepth 100000 in
set_option maxHeartbeats 1000000 in
theorem eqDb_k (n : Nat) (ts : List Cu) (hl : ts.length = n) (A A' : Option Addr) (c c' : Nat) (w : World) (B : Nat) (hr : Rd w B A (custV ts)) (hr' : Rd w B A' (custV ts)) (hn : n ≤ 1048576) :
    Calls Try.prog 25 #[.slice A n c, .slice A' n c'] w fun e w' => e = .returned (.bool true) ∧ Below w.heap.size w w' := by
  have HL := Lib.hid hl
  clear hl
  go_enter Try.func25, Try.ntmps25
  go_wp2
  go_loopw [5] (fun i wr => ∃ k : Nat, k ≤ n ∧ i = .int .i64 k ∧ ∃ q, wr = w.drewN q) (fun i _ => n - (intOf i).toNat)
  case atStart => exact ⟨0, Nat.zero_le _, rfl, 0, rfl⟩
  case round =>
    obtain ⟨k, hk, rfl, q0, rfl⟩ := hrel
    by_cases hlt : k < n
    · obtain ⟨b, off, x, d, v, rfl, hb, hz, hc, hc2, hc3⟩ := (hr.drewN q0).cust_ (k := k) (by rw [HL.out]; exact hlt)
      obtain ⟨b', off', x', d', v', rfl, hb', hz', hc', hc2', hc3'⟩ := (hr'.drewN q0).cust_ (k := k) (by rw [HL.out]; exact hlt)
      obtain ⟨rfl, rfl, rfl⟩ : x = x' ∧ d = d' ∧ v = v' := by have h1 := hz.out; have h2 := hz'.out; rw [h1] at h2; injection h2 with h2 h3; injection h3 with h3 h4; exact ⟨h2, h3, h4⟩
      obtain ⟨wr, hwr⟩ : ∃ wr, wr = w.drewN q0 := ⟨_, rfl⟩
      rw [← hwr] at hc hc2 hc3 hc' hc2' hc3' ⊢
      have HW := Lib.hid hwr
      clear hwr hz hz'
      go_wp2
      refine wp_region_quiet_lit (by kernel_rfl) (by kernel_rfl) ?_
      repeat (go_big_quiet_step (fail))
      refine wpQuiet_nil ?_
      intro _ hw'
      obtain ⟨nq, hw''⟩ := hw'
      subst hw''
      go_wp2
      go_roundw
      case rel => exact ⟨k + 1, by omega, by go_num, q0 + nq, by rw [HW.out, drewN_add]⟩
      case measure => simp [intOf]; omega
    · go_wp2
      go_ret
      exact ⟨rfl, below_drewN (Below.refl _ _) q0⟩
theorem step_Cl {ops : Array Oper} {o : Oper} {a : Act} {w : World} {K : Act → World → Prop} {Q : Exit → Act → World → Prop} {E : Prop} (hgd : o.guard = none) (s x : Operand)
    (ho : o.op = .call { callee := .builtin .append, args := #[s, x], argTypes := #[43, 43] }) (base n m c : Nat) (v : Value) (xs news : List Value) (ad : Addr)
    (hs : a.eval s = v) (hx : a.eval x = .slice (some ad) m c) (hown : w.ownsRow base 54 3 v n xs) (hl : news.length = m * 3)
    (hnews : ∀ j u, news[j]? = some u → w.cell? (ad.add j) = some u) (h1 : ∀ u ∈ news, u.oneCell' = true) (hnm : n + m ≤ 1000) (hbase : base ≤ w.heap.size)
    (h : ∀ v' w', w'.ownsRow base 54 3 v' (n + m) (xs ++ news) → w.grownBy w' v.ownBlock → K (a.put o.dst v') w') :
    if Region.wanted o (yielded ops a.tmps) = true then Oper.wp Try.prog o a w K Q else E := by
  have hw : Region.wanted o (yielded ops a.tmps) = true := by simp [Region.wanted, hgd]
  rw [if_pos hw]
  obtain ⟨i0, hi, hz0, hz1, hz2⟩ := info_parts info_clau2
  obtain ⟨v', w', hrun, h2, h3, _, _⟩ := run_append_own_at (P := Try.prog) w base 43 o.type 54 i0 (.agg #[.int .i64 0, .int .i64 0, .int .i64 0]) 3 24 Try.underlying43 hi hz0 hz1 hz2 rfl (by omega) v n xs hown ad m c news hl hnews h1 (by unfold maxLen; omega) (by omega) hbase
  unfold Oper.wp
  simp [execOp, ho, resolve, invoke, builtin, hs, hx, hrun, Result.andThen]
  exact h v' w' h2 h3
set_option maxRecDepth 100000 in
set_option maxHeartbeats 1000000 in
theorem eqCl_k (n : Nat) (ts : List Cu) (hl : ts.length = n) (A A' : Option Addr) (c c' : Nat) (w : World) (B : Nat) (hr : Rd w B A (custV ts)) (hr' : Rd w B A' (custV ts)) (hn : n ≤ 1048576) :
    Calls Try.prog 48 #[.slice A n c, .slice A' n c'] w fun e w' => e = .returned (.bool true) ∧ Below w.heap.size w w' := by
  have HL := Lib.hid hl
  clear hl
  go_enter Try.func48, Try.ntmps48
  go_wp2
  go_loopw [5] (fun i wr => ∃ k : Nat, k ≤ n ∧ i = .int .i64 k ∧ ∃ q, wr = w.drewN q) (fun i _ => n - (intOf i).toNat)
  case atStart => exact ⟨0, Nat.zero_le _, rfl, 0, rfl⟩
  case round =>
    obtain ⟨k, hk, rfl, q0, rfl⟩ := hrel
    by_cases hlt : k < n
    · obtain ⟨b, off, x, d, v, rfl, hb, hz, hc, hc2, hc3⟩ := (hr.drewN q0).cust_ (k := k) (by rw [HL.out]; exact hlt)
      obtain ⟨b', off', x', d', v', rfl, hb', hz', hc', hc2', hc3'⟩ := (hr'.drewN q0).cust_ (k := k) (by rw [HL.out]; exact hlt)
      obtain ⟨rfl, rfl, rfl⟩ : x = x' ∧ d = d' ∧ v = v' := by have h1 := hz.out; have h2 := hz'.out; rw [h1] at h2; injection h2 with h2 h3; injection h3 with h3 h4; exact ⟨h2, h3, h4⟩
      obtain ⟨wr, hwr⟩ : ∃ wr, wr = w.drewN q0 := ⟨_, rfl⟩
      rw [← hwr] at hc hc2 hc3 hc' hc2' hc3' ⊢
      have HW := Lib.hid hwr
      clear hwr hz hz'
      go_wp2
      refine wp_region_quiet_lit (by kernel_rfl) (by kernel_rfl) ?_
      repeat (go_big_quiet_step (fail))
      refine wpQuiet_nil ?_
      intro _ hw'
      obtain ⟨nq, hw''⟩ := hw'
      subst hw''
      go_wp2
      go_roundw
      case rel => exact ⟨k + 1, by omega, by go_num, q0 + nq, by rw [HW.out, drewN_add]⟩
      case measure => simp [intOf]; omega
    · go_wp2
      go_ret
      exact ⟨rfl, below_drewN (Below.refl _ _) q0⟩
theorem add_offK (b off j : Nat) : (⟨b, off, none⟩ : Addr).add j = ⟨b, off + j, none⟩ := by
  by_cases hj : j = 0 <;> simp [Addr.add, hj]
def outK (cs : List Cu) (k : Nat) : List Cu := cs.take k ++ cs.drop (k + 1)
theorem outK_len {cs : List Cu} {k : Nat} (h : k < cs.length) : (outK cs k).length + 1 = cs.length := by
  unfold outK
  rw [List.length_append, List.length_take, List.length_drop]
  omega
theorem custV_out (cs : List Cu) (k : Nat) : (custV cs).take (k * 3) ++ (custV cs).drop ((k + 1) * 3) = custV (outK cs k) := by
  rw [custV_take, custV_drop]
  unfold outK
  rw [custV_app]
theorem okV_out {p : Cu → Bool} {cs : List Cu} (h : okV p cs = true) {k : Nat} (hk : k < cs.length) : okV p (outK cs k) = true := by
  obtain ⟨h1, h2⟩ := okV_mem.1 h
  have hl := outK_len hk
  refine okV_mem.2 ⟨by omega, fun c hc => h2 c ?_⟩
  unfold outK at hc
  rcases List.mem_append.1 hc with hc | hc
  · exact List.mem_of_mem_take hc
  · exact List.mem_of_mem_drop hc

end Go.Proofs.Ytiihenhddleooaa

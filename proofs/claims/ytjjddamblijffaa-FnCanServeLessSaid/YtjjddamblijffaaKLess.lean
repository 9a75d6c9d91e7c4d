/- The laws FnValidCustomers and FnCanServeLess: customers without one of them, and mirrored. -/
import Derived.Deep.AppendSrc
import Derived.Maps.AppendAt
import Derived.Deep.AppendLies
import Derived.Deep.RegionHeld3
import Derived.Lib.QuietBelow
import Derived.Test.YtjjddamblijffaaKLater
namespace Go.Proofs.Ytjjddamblijffaa
open Go.RowKit
set_option linter.unusedVariables false
set_option linter.unusedSimpArgs false
theorem step_custs {ops : Array Oper} {o : Oper} {a : Act} {w : World} {K : Act → World → Prop} {Q : Exit → Act → World → Prop} {E : Prop} (hgd : o.guard = none) (s x : Operand)
    (ho : o.op = .call { callee := .builtin .append, args := #[s, x], argTypes := #[23, 23] }) (base n m c : Nat) (v : Value) (xs news : List Value) (ad : Addr)
    (hs : a.eval s = v) (hx : a.eval x = .slice (some ad) m c) (hown : w.ownsRow base 33 3 v n xs) (hl : news.length = m * 3)
    (hnews : ∀ j u, news[j]? = some u → w.cell? (ad.add j) = some u) (h1 : ∀ u ∈ news, u.oneCell' = true) (hnm : n + m ≤ 1000) (hbase : base ≤ w.heap.size)
    (h : ∀ v' w', w'.ownsRow base 33 3 v' (n + m) (xs ++ news) → w.grownBy w' v.ownBlock → K (a.put o.dst v') w') :
    if Region.wanted o (yielded ops a.tmps) = true then Oper.wp Try.prog o a w K Q else E := by
  have hw : Region.wanted o (yielded ops a.tmps) = true := by simp [Region.wanted, hgd]
  rw [if_pos hw]
  obtain ⟨i0, hi, hz0, hz1, hz2⟩ := info_parts info_cust
  obtain ⟨v', w', hrun, h2, h3, _, _⟩ := run_append_own_at (P := Try.prog) w base 23 o.type 33 i0 (.agg #[.int .i64 0, .int .i64 0, .int .i64 0]) 3 24 Try.underlying23 hi hz0 hz1 hz2 rfl (by omega) v n xs hown ad m c news hl hnews h1 (by unfold maxLen; omega) (by omega) hbase
  unfold Oper.wp
  simp [execOp, ho, resolve, invoke, builtin, hs, hx, hrun, Result.andThen]
  exact h v' w' h2 h3
theorem add_offK (b off j : Nat) : (⟨b, off, none⟩ : Addr).add j = ⟨b, off + j, none⟩ := by
  by_cases hj : j = 0 <;> simp [Addr.add, hj]
def outK (cs : List Cu) (k : Nat) : List Cu := cs.take k ++ cs.drop (k + 1)
theorem outK_len {cs : List Cu} {k : Nat} (h : k < cs.length) : (outK cs k).length + 1 = cs.length := by
  unfold outK
  rw [List.length_append, List.length_take, List.length_drop]
  omega
theorem custV_out (cs : List Cu) (k : Nat) : (custV cs).take (k * 3) ++ (custV cs).drop ((k + 1) * 3) = custV (outK cs k) := by
  rw [custV_take, custV_drop]
  unfold outK
  rw [custV_app]
theorem vcB_out {cs : List Cu} (h : vcB cs = true) {k : Nat} (hk : k < cs.length) : vcB (outK cs k) = true := by
  obtain ⟨h1, h2⟩ := vcB_mem.1 h
  have hl := outK_len hk
  refine vcB_mem.2 ⟨by omega, fun c hc => h2 c ?_⟩
  unfold outK at hc
  rcases List.mem_append.1 hc with hc | hc
  · exact List.mem_of_mem_take hc
  · exact List.mem_of_mem_drop hc
theorem csvT_out {cs : List Cu} {st : Int} (h : csvT cs st = true) {k : Nat} (hk : k < cs.length) : csvT (outK cs k) st = true := by
  obtain ⟨h1, h2, h3⟩ := csvT_can.1 h
  refine csvT_can.2 ⟨vcB_out h1 hk, h2, ?_⟩
  have e : cs = cs.take k ++ cuA cs k :: cs.drop (k + 1) := by
    rw [← drop_succ' hk, List.take_append_drop]
  unfold outK
  rw [e] at h3
  exact can_less h3
/-- the first k mirrored -/
def mirF (ks : List Cu) (k : Nat) : List Cu := (List.range ks.length).map (fun i => if i < k then negC (cuA ks i) else cuA ks i)
theorem mirF_len (ks : List Cu) (k : Nat) : (mirF ks k).length = ks.length := by simp [mirF]
theorem mirF_get {ks : List Cu} {k i : Nat} (h : i < ks.length) : (mirF ks k)[i]? = some (if i < k then negC (cuA ks i) else cuA ks i) := by
  unfold mirF
  rw [List.getElem?_map, List.getElem?_range h]
  rfl
theorem mirF_zero (ks : List Cu) : mirF ks 0 = ks := by
  apply List.ext_getElem?
  intro i
  by_cases h : i < ks.length
  · rw [mirF_get h, if_neg (by omega), get_cuA h]
  · rw [List.getElem?_eq_none (by rw [mirF_len]; omega), List.getElem?_eq_none (by omega)]
theorem mirF_all (ks : List Cu) : mirF ks ks.length = ks.map negC := by
  apply List.ext_getElem?
  intro i
  by_cases h : i < ks.length
  · rw [mirF_get h, if_pos h, List.getElem?_map, get_cuA h]; rfl
  · rw [List.getElem?_eq_none (by rw [mirF_len]; omega), List.getElem?_eq_none (by simp; omega)]
theorem mirF_set {ks : List Cu} {k : Nat} {x d v : Int} (h : k < ks.length) (hc : cuA ks k = (x, d, v)) : (mirF ks k).set k (-x, d, v) = mirF ks (k + 1) := by
  apply List.ext_getElem?
  intro i
  rw [List.getElem?_set, mirF_len]
  by_cases hi : i < ks.length
  · rw [mirF_get hi, mirF_get hi]
    by_cases e : k = i
    · subst e; rw [if_pos rfl, if_pos h, if_pos (by omega), hc]; rfl
    · rw [if_neg e]
      by_cases g : i < k
      · rw [if_pos g, if_pos (by omega)]
      · rw [if_neg g, if_neg (by omega)]
  · rw [if_neg (by omega), List.getElem?_eq_none (by rw [mirF_len]; omega), List.getElem?_eq_none (by rw [mirF_len]; omega)]
theorem negC_neg (c : Cu) : negC (negC c) = c := by obtain ⟨x, r⟩ := c; simp [negC]
theorem vcB_neg {ks : List Cu} (h : vcB ks = true) : vcB (ks.map negC) = true := by
  obtain ⟨h1, h2⟩ := vcB_mem.1 h
  refine vcB_mem.2 ⟨by simpa using h1, fun c hc => ?_⟩
  rw [List.mem_map] at hc
  obtain ⟨d, hd, rfl⟩ := hc
  obtain ⟨a, b, c⟩ := cuV_t (h2 d hd)
  unfold cuV negC
  rw [inB_mk (n := -d.1) (by omega), inB_mk (n := d.2.1) b, inB_mk (n := d.2.2) c]
  rfl
theorem csvT_mir {ks : List Cu} {st : Int} (h : vcB ks = true) (hs : inB st (-100) 100 = true) : csvT (mirF ks ks.length) (-st) = csvT ks st := by
  rw [mirF_all, Bool.eq_iff_iff, csvT_can, csvT_can]
  have hi := inB_t hs
  constructor
  · rintro ⟨_, _, h3⟩
    refine ⟨h, hs, ?_⟩
    have h4 := can_neg h3
    rw [Int.neg_neg, List.map_map, show (negC ∘ negC) = id from funext negC_neg, List.map_id] at h4
    exact h4
  · rintro ⟨_, _, h3⟩
    exact ⟨vcB_neg h, inB_mk (by omega), can_neg h3⟩

end Go.Proofs.Ytjjddamblijffaa

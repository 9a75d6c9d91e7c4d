/- The law FnLateBy: customers with the latest Due; an append of a list of customers. -/
import Derived.Deep.AppendSrc
import Derived.Maps.AppendAt
import Derived.Lib.QuietBelow
import Derived.Test.YtjjddamblijffaaKLawE
namespace Go.Proofs.Ytjjddamblijffaa
open Go.RowKit
set_option linter.unusedVariables false
set_option linter.unusedSimpArgs false
section
variable {P : Program} {w : World}
/-- An append of a whole list, that may be empty, onto a list that the call made. -/
theorem push_anyK {ops : Array Oper} {rest : List Oper} {o : Oper} {a : Act} {Q : Exit → Act → World → Prop} (hgd : o.guard = none) (s x : Operand) (t : TypeId)
    (ho : o.op = .call { callee := .builtin .append, args := #[s, x], argTypes := #[t, t] })
    (base : Nat) (e : TypeId) (i : TypeInfo) (z : Value) (bytes : Nat) (ht : P.underlying t = some (.slice e)) (hi : P.info? e = some i) (hz : i.zero = some z)
    (hsize : i.size = 3) (hby : i.bytes = bytes) (hzs : z.cells.size = 3)
    (v : Value) (n : Nat) (xs : List Value) (hs : a.eval s = v) (hown : w.ownsRow base e 3 v n xs)
    (A : Option Addr) (m c B : Nat) (news : List Value) (hx : a.eval x = .slice A m c) (hr : Rd w B A news) (hl : news.length = m * 3) (h1 : ∀ u ∈ news, u.oneCell' = true)
    (h63 : n + m ≤ maxLen) (hbytes : (n + m) * bytes ≤ 140737488355328) (hbase : base ≤ w.heap.size)
    (h : ∀ v' w', w'.ownsRow base e 3 v' (n + m) (xs ++ news) → w.grownBy w' v.ownBlock → wpList P ops Q rest (a.put o.dst v') w') :
    wpList P ops Q (o :: rest) a w := by
  cases A with
  | some ad =>
    obtain ⟨ab, ao, sp⟩ := ad
    refine wpList_append_own_at w hgd s x t ho base e i z 3 bytes ht hi hz hsize hby hzs (by decide) v n xs hs hown ⟨ab, ao, sp⟩ m c news hx (by omega) (fun j u hj => ?_) h1 h63 hbytes hbase fun v' w' h2 h3 _ _ => h v' w' h2 h3
    obtain ⟨b', off', e', _, hc⟩ := hr.at_ hj
    injection e' with e'
    injection e' with e1 e2 e3
    subst e1 e2 e3
    rw [Addr.add_lit]
    exact hc
  | none =>
    have hn : news = [] := by
      false_or_by_contra
      next g =>
      obtain ⟨b', off', e', _⟩ := hr g
      cases e'
    subst hn
    obtain rfl : m = 0 := by simp at hl; omega
    obtain ⟨A', c', rfl⟩ := owz_form hown
    have hle : n ≤ c' := by
      rcases hown.2 with ⟨h0, rfl⟩ | ⟨g, cap, cur, hv, _, _, hnc, _⟩
      · injection h0 with _ q1 q2; omega
      · injection hv with _ q1 q2; omega
    refine wpList_plain hgd fun K hK => ?_
    have hrun := run_append_nothing (P := P) w t t o.type e i ht hi A' n c' hle (.slice none 0 c) (Src.ofNil (P := P) w ht c)
    unfold Oper.wp execOp
    simp only [ho, resolve, invoke, builtin, Sem.run_bind, Sem.run_pure, Result.andThen_ok, List.map_toArray, List.map_cons, List.map_nil, hs, hx, hrun]
    exact hK _ _ (h _ _ (by simpa using hown) (World.grownBy.refl _ _))
end
/-- the first k with the latest time -/
def laterF (ks : List Cu) (k : Nat) : List Cu := (List.range ks.length).map (fun i => if i < k then ((cuA ks i).1, (2000 : Int), (cuA ks i).2.2) else cuA ks i)
theorem laterF_len (ks : List Cu) (k : Nat) : (laterF ks k).length = ks.length := by simp [laterF]
theorem laterF_get {ks : List Cu} {k i : Nat} (h : i < ks.length) : (laterF ks k)[i]? = some (if i < k then ((cuA ks i).1, (2000 : Int), (cuA ks i).2.2) else cuA ks i) := by
  unfold laterF
  rw [List.getElem?_map, List.getElem?_range h]
  rfl
theorem laterF_zero (ks : List Cu) : laterF ks 0 = ks := by
  apply List.ext_getElem?
  intro i
  by_cases h : i < ks.length
  · rw [laterF_get h, if_neg (by omega), get_cuA h]
  · rw [List.getElem?_eq_none (by rw [laterF_len]; omega), List.getElem?_eq_none (by omega)]
theorem laterF_set {ks : List Cu} {k : Nat} {x d v : Int} (h : k < ks.length) (hc : cuA ks k = (x, d, v)) : (laterF ks k).set k (x, 2000, v) = laterF ks (k + 1) := by
  apply List.ext_getElem?
  intro i
  rw [List.getElem?_set, laterF_len]
  by_cases hi : i < ks.length
  · rw [laterF_get hi, laterF_get hi]
    by_cases e : k = i
    · subst e; rw [if_pos rfl, if_pos h, if_pos (by omega), hc]
    · rw [if_neg e]
      by_cases g : i < k
      · rw [if_pos g, if_pos (by omega)]
      · rw [if_neg g, if_neg (by omega)]
  · rw [if_neg (by omega), List.getElem?_eq_none (by rw [laterF_len]; omega), List.getElem?_eq_none (by rw [laterF_len]; omega)]
theorem later_at {ks : List Cu} {i : Nat} (h : i < ks.length) : cuA (laterF ks ks.length) i = ((cuA ks i).1, 2000, (cuA ks i).2.2) := cuA_get (by rw [laterF_get h, if_pos h])
theorem later_v {ks : List Cu} (h : vcB ks = true) : vcB (laterF ks ks.length) = true := by
  obtain ⟨h1, h2⟩ := vcB_t h
  unfold vcB
  rw [laterF_len, decide_eq_true h1, Bool.and_true]
  unfold cuTo
  rw [List.all_eq_true]
  intro i hi
  have hi := List.mem_range.1 hi
  rw [later_at hi]
  obtain ⟨a, b, c⟩ := cuV_t (cuTo_at h2 hi)
  show ((inB (cuA ks i).1 (-100) 100 && inB 2000 0 2000) && inB (cuA ks i).2.2 1 50) = true
  rw [inB_mk a, inB_mk c]
  rfl
theorem feas_easy : ∀ {l : List Cu} {a t : Int}, (∀ c ∈ l, c.2.1 = 2000) → t + endT a l ≤ 2000 → feas a t l
  | [], _, _, _, _ => trivial
  | c :: l, a, t, hd, h => by
    have h0 := hd c (List.mem_cons_self ..)
    have hg := endT_mem.endT_ge c.1 l
    have h' : t + (dst a c.1 + endT c.1 l) ≤ 2000 := h
    exact ⟨by omega, feas_easy (fun d hd' => hd d (List.mem_cons_of_mem _ hd')) (by omega)⟩
theorem late_later {ks : List Cu} {st : Int} {os : List Int} (h : rndB ks st os = true) : lateT (laterF ks ks.length) st os = 0 := by
  obtain ⟨h1, h2, h3⟩ := rndB_t h
  have hr : rndB (laterF ks ks.length) st os = true := by unfold rndB; rw [later_v h1, inB_mk h2, laterF_len, h3]; rfl
  rw [lateT_ok hr]
  have P := rndP hr
  rw [laterF_len] at P
  have ht := P.time (k := ks.length) (Nat.le_refl _)
  rw [show os.take ks.length = os from by rw [← P.olen, List.take_length]] at ht
  refine latR_feas.2 (feas_easy (fun c hc => ?_) (by omega))
  unfold pick at hc
  rw [List.mem_map] at hc
  obtain ⟨o, ho, rfl⟩ := hc
  obtain ⟨i, hi⟩ := List.mem_iff_getElem?.1 ho
  have hl := (List.getElem?_eq_some_iff.1 hi).1
  have hz := ordTo_in (ordB_t h3).2 (show i < ks.length by rw [← P.olen]; exact hl)
  rw [at_of hi] at hz
  rw [later_at (by omega)]

end Go.Proofs.Ytjjddamblijffaa

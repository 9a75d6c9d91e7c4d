/- Contracts of chapter 3's model: the order in which cakes float out. -/
import Derived.Deep.AppendSrc
import Derived.Deep.Upon
import Derived.Test.YtiihenhddleooacCOrdI
import Derived.Test.YtiihenhddleooacCValidT
namespace Go.Proofs.Ytiihenhddleooac
open Go.RowKit
set_option linter.unusedVariables false
set_option linter.unusedSimpArgs false
section
variable {P : Program} {w : World}
/-- An append of a whole list, that may be empty, onto a list that the call made. -/
theorem push_any {ops : Array Oper} {rest : List Oper} {o : Oper} {a : Act} {Q : Exit → Act → World → Prop} (hgd : o.guard = none) (s x : Operand) (t : TypeId)
    (ho : o.op = .call { callee := .builtin .append, args := #[s, x], argTypes := #[t, t] })
    (base : Nat) (e : TypeId) (i : TypeInfo) (z : Value) (bytes : Nat) (ht : P.underlying t = some (.slice e)) (hi : P.info? e = some i) (hz : i.zero = some z)
    (hsize : i.size = 1) (hby : i.bytes = bytes) (hzs : z.cells.size = 1)
    (v : Value) (n : Nat) (xs : List Value) (hs : a.eval s = v) (hown : w.ownsRow base e 1 v n xs)
    (A : Option Addr) (m c B : Nat) (news : List Value) (hx : a.eval x = .slice A m c) (hr : Rd w B A news) (hl : news.length = m) (h1 : ∀ u ∈ news, u.oneCell' = true)
    (h63 : n + m ≤ maxLen) (hbytes : (n + m) * bytes ≤ 140737488355328) (hbase : base ≤ w.heap.size)
    (h : ∀ v' w', w'.ownsRow base e 1 v' (n + m) (xs ++ news) → w.grownBy w' v.ownBlock → wpList P ops Q rest (a.put o.dst v') w') :
    wpList P ops Q (o :: rest) a w := by
  cases A with
  | some ad =>
    obtain ⟨ab, ao, sp⟩ := ad
    refine wpList_append_own_at w hgd s x t ho base e i z 1 bytes ht hi hz hsize hby hzs (by decide) v n xs hs hown ⟨ab, ao, sp⟩ m c news hx (by omega) (fun j u hj => ?_) h1 h63 hbytes hbase fun v' w' h2 h3 _ _ => h v' w' h2 h3
    obtain ⟨b', off', e', _, hc⟩ := hr.at_ hj
    injection e' with e'
    injection e' with e1 e2 e3
    subst e1 e2 e3
    rw [Addr.add_lit]
    exact hc
  | none =>
    have hn : news = [] := by
      false_or_by_contra
      next g =>
      obtain ⟨b', off', e', _⟩ := hr g
      cases e'
    subst hn
    obtain rfl : m = 0 := by simpa using hl.symm
    obtain ⟨A', c', rfl⟩ := own_form hown
    have hle : n ≤ c' := by
      rcases hown.2 with ⟨h0, rfl⟩ | ⟨g, cap, cur, hv, _, _, hnc, _⟩
      · injection h0 with _ q1 q2; omega
      · injection hv with _ q1 q2; omega
    refine wpList_plain hgd fun K hK => ?_
    have hrun := run_append_nothing (P := P) w t t o.type e i ht hi A' n c' hle (.slice none 0 c) (Src.ofNil (P := P) w ht c)
    unfold Oper.wp execOp
    simp only [ho, resolve, invoke, builtin, Sem.run_bind, Sem.run_pure, Result.andThen_ok, List.map_toArray, List.map_cons, List.map_nil, hs, hx, hrun]
    exact hK _ _ (h _ _ (by simpa using hown) (World.grownBy.refl _ _))
end
theorem oneCell_ints2 {zs : List Int} : ∀ v ∈ ints zs, v.oneCell' = true := fun v hv => by
  rw [ints, List.mem_map] at hv
  obtain ⟨b, _, rfl⟩ := hv
  rfl
theorem own_take {w : World} {base n p c : Nat} {T : TypeId} {A : Option Addr} {xs : List Value} (h : w.ownsRow base T 1 (.slice A n c) n xs) (hp : p ≤ n) : w.ownsRow base T 1 (.slice A p c) p (xs.take p) := by
  obtain ⟨h0, h⟩ := h
  refine ⟨by rw [List.length_take]; omega, ?_⟩
  rcases h with ⟨e, rfl⟩ | ⟨g, cap, cur, e, h1, h2, h3, h4, h5, h6⟩
  · injection e with e1 e2 e3
    subst e1 e3
    exact .inl ⟨by rw [show p = 0 by omega], by omega⟩
  · injection e with e1 e2 e3
    subst e1 e3
    refine .inr ⟨g, c, cur, rfl, h1, h2, by omega, h4, h5, ?_⟩
    rw [← h6, List.take_take]
    congr 1
    omega
theorem ordF_nats {cs : List (Int × Int)} {k p : Nat} (hp : p = befF (plcF cs) k k) : ints (nats (ordF cs (k + 1))) = (ints (nats (ordF cs k))).take p ++ [.int .i64 (k : Int)] ++ ints ((nats (ordF cs k)).drop p) := by
  subst hp
  simp [ordF, nats, ints, List.map_take, List.map_drop]
end Go.Proofs.Ytiihenhddleooac

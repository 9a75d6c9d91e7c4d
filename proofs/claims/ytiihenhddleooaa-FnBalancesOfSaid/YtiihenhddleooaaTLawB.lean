/- The law FnBalancesOf: debts the other way round. -/
import Derived.Test.YtiihenhddleooaaTLawE
namespace Go.Proofs.Ytiihenhddleooaa
open Go.RowKit
set_option linter.unusedVariables false
set_option linter.unusedSimpArgs false
def swC (c : Cu) : Cu := (c.2.1, c.1, c.2.2)
theorem dbV_sw (c : Cu) : dbV (swC c) = dbV c := by
  unfold dbV swC
  simp only
  have e : (c.2.1 == c.1) = (c.1 == c.2.1) := by
    by_cases h : c.1 = c.2.1
    · rw [h]
    · rw [beq_eq_false_iff_ne.2 h, beq_eq_false_iff_ne.2 (fun e => h e.symm)]
  rw [e, Bool.and_comm (inB c.2.1 0 7)]
theorem okV_sw {cs : List Cu} (h : okV dbV cs = true) : okV dbV (cs.map swC) = true := by
  obtain ⟨h1, h2⟩ := okV_mem.1 h
  refine okV_mem.2 ⟨by simpa using h1, fun c hc => ?_⟩
  obtain ⟨d, hd, rfl⟩ := List.mem_map.1 hc
  rw [dbV_sw]
  exact h2 d hd
theorem balR_sw (p : Int) : ∀ cs : List Cu, balR p (cs.map swC) = - balR p cs
  | [] => by simp [balR]
  | c :: l => by
    show (if (swC c).2.1 = p then (swC c).2.2 else 0) - (if (swC c).1 = p then (swC c).2.2 else 0) + balR p (l.map swC) = -((if c.2.1 = p then c.2.2 else 0) - (if c.1 = p then c.2.2 else 0) + balR p l)
    rw [balR_sw p l]
    show (if c.1 = p then c.2.2 else 0) - (if c.2.1 = p then c.2.2 else 0) + - balR p l = _
    omega
theorem sw_step {ks : List Cu} {k : Nat} {x d v : Int} (hk : k < ks.length) (hc : cuA ks k = (x, d, v)) : (ks.take (k + 1)).map swC = (ks.take k).map swC ++ [(d, x, v)] := by
  rw [take_snoc (get_cuA hk), List.map_append, hc]; rfl
theorem three_news (w : World) (x y z : Value) (T : TypeId) (b : Nat) (hb : b = w.heap.size) : ∀ (j : Nat) (u : Value), [x, y, z][j]? = some u → (w.alloc (.cells #[x, y, z] T)).cell? ((⟨b, 0, none⟩ : Addr).add j) = some u := three_new w x y z T b hb
theorem oneCell3 {a b c : Int} : ∀ u ∈ [Value.int .i64 a, .int .i64 b, .int .i64 c], u.oneCell' = true := fun u hu => by
  simp at hu; rcases hu with rfl | rfl | rfl <;> rfl

end Go.Proofs.Ytiihenhddleooaa

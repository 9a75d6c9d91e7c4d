/- The law FnLeastLate: two visits exchanged. -/
import Derived.Deep.AppendSrc
import Derived.Test.YtjjddamblijffaaKLawE
namespace Go.Proofs.Ytjjddamblijffaa
open Go.RowKit
set_option linter.unusedVariables false
set_option linter.unusedSimpArgs false
theorem swap_ord {n : Nat} {ts : List Int} (h : ordB n ts = true) {i k : Nat} {x y : Int} (hi : ts[i]? = some x) (hk : ts[k]? = some y) : ordB n ((ts.set i y).set k x) = true := by
  have hl := (ordB_t h).1
  have hil := (List.getElem?_eq_some_iff.1 hi).1
  have hkl := (List.getElem?_eq_some_iff.1 hk).1
  refine ordB_all (by simp [hl]) fun j hj => ?_
  obtain ⟨p, hp⟩ := List.mem_iff_getElem?.1 (ordB_has h hj)
  have hpl := (List.getElem?_eq_some_iff.1 hp).1
  by_cases e : p = i
  · subst e
    rw [hi] at hp
    injection hp with hp
    refine List.mem_of_getElem? (i := k) ?_
    rw [List.getElem?_set, if_pos rfl, if_pos (by simpa using hkl), hp]
  · by_cases e2 : p = k
    · subst e2
      rw [hk] at hp
      injection hp with hp
      refine List.mem_of_getElem? (i := i) ?_
      rw [List.getElem?_set, if_neg e, List.getElem?_set, if_pos rfl, if_pos hil, hp]
    · refine List.mem_of_getElem? (i := p) ?_
      rw [List.getElem?_set, if_neg (fun g => e2 g.symm), List.getElem?_set, if_neg (fun g => e g.symm)]
      exact hp
theorem leastT_pos {ks : List Cu} {st : Int} (h : 0 < (leastT ks st).length) : ((vcB ks && inB st (-100) 100) && decide (ks.length ≤ 6)) = true := by
  cases e : ((vcB ks && inB st (-100) 100) && decide (ks.length ≤ 6))
  · rw [leastT_no e] at h; simp at h
  · rfl

end Go.Proofs.Ytjjddamblijffaa

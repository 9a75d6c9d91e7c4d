/- The law FnSettleDebts: what settled debts are. -/
import Derived.Test.YtiihenhddleooaaTLawS
namespace Go.Proofs.Ytiihenhddleooaa
open Go.RowKit
set_option linter.unusedVariables false
set_option linter.unusedSimpArgs false
theorem stF_amt : ∀ {n : Nat} {l : List Int} {c : Cu}, bdL l → c ∈ stF n l → c.2.2 ≤ 200000
  | 0, _, _, _, h => by simp [stF] at h
  | n + 1, l, c, hb, h => by
    cases hg : goS l
    · rw [stF_no hg] at h; simp at h
    · rw [stF_go hg] at h
      obtain ⟨a1, a2, a3, _⟩ := amtF_bd hg
      rcases List.mem_cons.1 h with rfl | h
      · have := hb (fstF posB l)
        show amtF l ≤ 200000
        omega
      · exact stF_amt (bdL_step hb hg) h
theorem balR_bdM {p M : Int} (hM : 0 ≤ M) : ∀ {l : List Cu}, (∀ c ∈ l, 0 ≤ c.2.2 ∧ c.2.2 ≤ M) → -(M * (l.length : Int)) ≤ balR p l ∧ balR p l ≤ M * (l.length : Int)
  | [], _ => by simp [balR]
  | c :: l, h => by
    have h1 := h c (List.mem_cons_self ..)
    have h2 := balR_bdM (p := p) hM (l := l) fun d hd => h d (List.mem_cons_of_mem _ hd)
    have e : M * (((c :: l).length : Nat) : Int) = M * (l.length : Int) + M := by rw [List.length_cons]; push_cast; rw [Int.mul_add, Int.mul_one]
    rw [e]
    show -(M * (l.length : Int) + M) ≤ (if c.2.1 = p then c.2.2 else 0) - (if c.1 = p then c.2.2 else 0) + balR p l ∧ (if c.2.1 = p then c.2.2 else 0) - (if c.1 = p then c.2.2 else 0) + balR p l ≤ M * (l.length : Int) + M
    generalize M * (l.length : Int) = Q at *
    split <;> split <;> omega
theorem nzF_snoc (l : List Int) {k : Nat} {z : Int} (h : l[k]? = some z) : nzF (l.take (k + 1)) = nzF (l.take k) + (if z = 0 then 0 else 1) := by
  unfold nzF
  rw [take_snoc h, List.countP_append, List.countP_cons, List.countP_nil]
  by_cases e : z = 0 <;> simp [e]
/-- what is told of settled debts -/
structure Stl (B : List Int) (ts : List Cu) (L : Nat) : Prop where
  len : ts.length = L
  le : L ≤ 8
  one : ∀ i, i < L → ∃ f t : Nat, ∃ a : Int, cuA ts i = ((f : Int), (t : Int), a) ∧ f < 8 ∧ t < 8 ∧ ¬ f = t ∧ at_ B f < 0 ∧ 0 < at_ B t ∧ 1 ≤ a ∧ a ≤ 200000
  bd : ∀ (p : Int) (k : Nat), k ≤ L → -1600000 ≤ balR p (ts.take k) ∧ balR p (ts.take k) ≤ 1600000
  bal : ∀ p : Nat, p < 8 → balR p ts = at_ B p
  few : L < nzF B
theorem stl_of {ks : List Cu} (h : okV dbV ks = true) (h0 : 0 < (setT ks).length) : Stl (balL ks) (setT ks) (setT ks).length := by
  have e := setT_ok h
  have hb := bdL_bal h
  have hl := balL_len ks
  have hn8 : nzF (balL ks) ≤ 8 := by have := nzF_le (balL ks); rw [hl] at this; exact this
  have hmem : ∀ c ∈ setT ks, 0 ≤ c.2.2 ∧ c.2.2 ≤ 200000 := fun c hc => by
    rw [e] at hc
    obtain ⟨_, _, _, _, _, _, _, _, h7⟩ := stF_mem hc
    exact ⟨by omega, stF_amt hb hc⟩
  refine ⟨rfl, setT_le ks, fun i hi => ?_, fun p k hk => ?_, fun p hp => ?_, ?_⟩
  · have hc : cuA (setT ks) i ∈ setT ks := List.mem_of_getElem? (get_cuA hi)
    have hc2 := hc
    rw [e] at hc2
    obtain ⟨f, t, h1, h2, h3, h4, h5, h6, h7⟩ := stF_mem (l := balL ks) (n := 8) (c := cuA (setT ks) i) (by rw [← e]; exact hc)
    rw [hl] at h3 h4
    refine ⟨f, t, (cuA (setT ks) i).2.2, ?_, h3, h4, fun g => by rw [g] at h5; omega, h5, h6, h7, (hmem _ hc).2⟩
    rw [← h1, ← h2]
  · have h1 := balR_bdM (p := p) (M := 200000) (by omega) (l := (setT ks).take k) (fun c hc => hmem c (List.mem_of_mem_take hc))
    have h2 := setT_le ks
    have h3 : (((setT ks).take k).length : Int) ≤ 8 := by rw [List.length_take]; omega
    omega
  · rw [e, stF_bal (by exact hn8) (balL_sum0 h) p (by rw [hl]; exact hp)]
  · have hg : goS (balL ks) = true := by
      cases g : goS (balL ks)
      · rw [e, stF_no g] at h0; simp at h0
      · rfl
    rw [e]
    exact stF_few (balL_sum0 h) hg hn8

end Go.Proofs.Ytiihenhddleooaa

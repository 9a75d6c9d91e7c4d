/- Customers: lists of three numbers in memory, three cells each. -/
import Derived.Test.YtjjddamblijffaaCWords
import Derived.Test.YtjjddamblijffaaKServe
namespace Go.Proofs.Ytjjddamblijffaa
open Go.RowKit
set_option linter.unusedVariables false
set_option linter.unusedSimpArgs false
def custV (cs : List Cu) : List Value := cs.flatMap fun c => [.int .i64 c.1, .int .i64 c.2.1, .int .i64 c.2.2]
theorem custV_nil : custV [] = [] := rfl
theorem custV_cons (c : Cu) (cs : List Cu) : custV (c :: cs) = .int .i64 c.1 :: .int .i64 c.2.1 :: .int .i64 c.2.2 :: custV cs := rfl
theorem custV_len (cs : List Cu) : (custV cs).length = cs.length * 3 := by
  induction cs with
  | nil => rfl
  | cons c cs ih => rw [custV_cons]; simp only [List.length_cons]; omega
theorem custV_app (a b : List Cu) : custV (a ++ b) = custV a ++ custV b := by unfold custV; rw [List.flatMap_append]
theorem custV_snoc (a : List Cu) (x d v : Int) : custV (a ++ [(x, d, v)]) = custV a ++ [.int .i64 x, .int .i64 d, .int .i64 v] := custV_app a [(x, d, v)]
theorem custV_at {cs : List Cu} : ∀ {k : Nat} {x d v : Int}, cs[k]? = some (x, d, v) → (custV cs)[k * 3]? = some (.int .i64 x) ∧ (custV cs)[k * 3 + 1]? = some (.int .i64 d) ∧ (custV cs)[k * 3 + 2]? = some (.int .i64 v) := by
  induction cs with
  | nil => intro k x d v h; simp at h
  | cons c cs ih =>
    intro k x d v h
    cases k with
    | zero => simp at h; subst h; exact ⟨rfl, rfl, rfl⟩
    | succ k =>
      simp only [List.getElem?_cons_succ] at h
      have := ih h
      rw [custV_cons, show (k + 1) * 3 = k * 3 + 1 + 1 + 1 by omega, show k * 3 + 1 + 1 + 1 + 1 = (k * 3 + 1) + 1 + 1 + 1 by omega, show k * 3 + 1 + 1 + 1 + 2 = (k * 3 + 2) + 1 + 1 + 1 by omega]
      simpa [List.getElem?_cons_succ] using this
theorem custV_take (cs : List Cu) : ∀ n : Nat, (custV cs).take (n * 3) = custV (cs.take n) := by
  induction cs with
  | nil => intro n; simp [custV]
  | cons c cs ih =>
    intro n
    cases n with
    | zero => simp [custV]
    | succ n => rw [custV_cons, show (n + 1) * 3 = n * 3 + 1 + 1 + 1 by omega, List.take_succ_cons, List.take_succ_cons, List.take_succ_cons, ih n]; rfl
theorem custV_drop (cs : List Cu) : ∀ n : Nat, (custV cs).drop (n * 3) = custV (cs.drop n) := by
  induction cs with
  | nil => intro n; simp [custV]
  | cons c cs ih =>
    intro n
    cases n with
    | zero => simp
    | succ n => rw [custV_cons, show (n + 1) * 3 = n * 3 + 1 + 1 + 1 by omega, List.drop_succ_cons, List.drop_succ_cons, List.drop_succ_cons, ih n]; rfl
theorem oneCell_cust {cs : List Cu} : ∀ u ∈ custV cs, u.oneCell' = true := fun u hu => by
  unfold custV at hu
  rw [List.mem_flatMap] at hu
  obtain ⟨c, _, hu⟩ := hu
  simp at hu
  rcases hu with rfl | rfl | rfl <;> rfl
section
variable {w w' : World} {B B' : Nat} {A : Option Addr} {cs : List Cu}
theorem Rd.cust_ {k : Nat} (h : Rd w B A (custV cs)) (hk : k < cs.length) : ∃ b off x d v, A = some ⟨b, off, none⟩ ∧ b < B ∧ Hid (cuA cs k = (x, d, v)) ∧ w.cell? ⟨b, off + k * 3, none⟩ = some (.int .i64 x) ∧ w.cell? ⟨b, off + k * 3 + 1, none⟩ = some (.int .i64 d) ∧ w.cell? ⟨b, off + k * 3 + 2, none⟩ = some (.int .i64 v) := by
  have e : cs[k]? = some ((cuA cs k).1, (cuA cs k).2.1, (cuA cs k).2.2) := get_cuA hk
  obtain ⟨h1, h2, h3⟩ := custV_at e
  obtain ⟨b, off, hA, hb, hc⟩ := h.at_ h1
  obtain ⟨b', off', hA', _, hc'⟩ := h.at_ h2
  obtain ⟨b2, off2, hA2, _, hc2⟩ := h.at_ h3
  subst hA
  injection hA' with hA'
  injection hA' with e1 e2
  subst e1 e2
  injection hA2 with hA2
  injection hA2 with e1 e2
  subst e1 e2
  exact ⟨b, off, _, _, _, rfl, hb, Lib.hid rfl, hc, by rw [Nat.add_assoc]; exact hc', by rw [Nat.add_assoc]; exact hc2⟩
theorem Rd.cust_take (h : Rd w B A (custV cs)) (n : Nat) : Rd w B A (custV (cs.take n)) := by
  have := h.take (n * 3)
  rw [custV_take] at this
  exact this
end
theorem three_new (w : World) (x y z : Value) (T : TypeId) (b : Nat) (hb : b = w.heap.size) : ∀ (j : Nat) (u : Value), [x, y, z][j]? = some u → (w.alloc (.cells #[x, y, z] T)).cell? ((⟨b, 0, none⟩ : Addr).add j) = some u := by
  intro j u hj
  subst hb
  match j, hj with
  | 0, hj => simp at hj; subst hj; simp [Addr.add]
  | 1, hj => simp at hj; subst hj; simp [Addr.add]
  | 2, hj => simp at hj; subst hj; simp [Addr.add]
theorem info_cust : (Try.prog.info? 33).map (fun i => (i.zero, i.size, i.bytes)) = some (some (.agg #[.int .i64 0, .int .i64 0, .int .i64 0]), 3, 24) := by kernel_rfl
theorem iDst_any (x y : Int) (hx : -100 ≤ x ∧ x ≤ 100) (hy : -100 ≤ y ∧ y ≤ 100) (w : World) :
    Calls Try.prog 57 #[.int .i64 x, .int .i64 y] w fun e w' => e = .returned (.int .i64 (dst x y)) ∧ w = w' := by
  obtain ⟨h1, h2⟩ := hx
  obtain ⟨h3, h4⟩ := hy
  unfold dst
  by_cases h : x < y
  · rw [if_pos h]
    go_enter Try.func57, Try.ntmps57
    go_wp2
    go_ret
    exact ⟨rfl, rfl⟩
  · rw [if_neg h]
    go_enter Try.func57, Try.ntmps57
    go_wp2
    go_ret
    exact ⟨rfl, rfl⟩
theorem sWay_any (x y : Int) (hx : -100 ≤ x ∧ x ≤ 100) (hy : -100 ≤ y ∧ y ≤ 100) (w : World) :
    Calls Try.prog 77 #[.int .i64 x, .int .i64 y] w fun e w' => e = .returned (.int .i64 (dst x y)) ∧ w = w' := by
  obtain ⟨h1, h2⟩ := hx
  obtain ⟨h3, h4⟩ := hy
  by_cases h : x < y
  · have e : dst x y = y - x := by unfold dst; rw [if_pos h]
    rw [e]
    go_enter Try.func77, Try.ntmps77
    go_wp2
    all_goals go_ret
    all_goals refine ⟨ret_int ?_, rfl⟩
    all_goals (first | rfl | omega | (simp; omega) | (split <;> omega))
  · have e : dst x y = x - y := by unfold dst; rw [if_neg h]
    rw [e]
    go_enter Try.func77, Try.ntmps77
    go_wp2
    all_goals go_ret
    all_goals refine ⟨ret_int ?_, rfl⟩
    all_goals (first | rfl | omega | (simp; omega) | (split <;> omega))

end Go.Proofs.Ytjjddamblijffaa

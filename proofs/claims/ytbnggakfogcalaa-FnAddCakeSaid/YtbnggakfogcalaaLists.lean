/- Appends and copies on lists that a call made; small contracts of chapter 2 on lists of numbers. -/
import Derived.ArgAppend
import Derived.Deep.DeepAppendRoom
import Derived.Laws.CopyOwn
import Derived.Test.YtbnggakfogcalaaSafe
namespace Go.Proofs.Ytbnggakfogcalaa
open Go.RowKit
set_option linter.unusedVariables false
set_option linter.unusedSimpArgs false
section
variable {P : Program} {w : World}
/-- An append of one element onto a list that the call made: behind it the list lies where it lay, or in new memory. -/
theorem push_own {ops : Array Oper} {rest : List Oper} {o : Oper} {a : Act} {Q : Exit → Act → World → Prop} (hgd : o.guard = none) (s x : Operand) (t : TypeId)
    (ho : o.op = .call { callee := .builtin .append, args := #[s, x], argTypes := #[t, t] })
    (base : Nat) (e : TypeId) (i : TypeInfo) (z : Value) (bytes : Nat) (ht : P.underlying t = some (.slice e)) (hi : P.info? e = some i) (hz : i.zero = some z)
    (hsize : i.size = 1) (hby : i.bytes = bytes) (hzs : z.cells.size = 1)
    (g n cap : Nat) (xs : List Value) (hs : a.eval s = .slice (some ⟨g, 0, none⟩) n cap) (hown : w.ownsRow base e 1 (.slice (some ⟨g, 0, none⟩) n cap) n xs)
    (ad : Addr) (c : Nat) (y : Value) (hx : a.eval x = .slice (some ad) 1 c) (hnews : ∀ j u, [y][j]? = some u → w.cell? (ad.add j) = some u) (h1 : y.oneCell' = true)
    (h63 : n ≤ 1048576) (hb8 : bytes ≤ 64) (hbase : base ≤ w.heap.size)
    (h : ∀ g' cap' w', w'.ownsRow base e 1 (.slice (some ⟨g', 0, none⟩) (n + 1) cap') (n + 1) (xs ++ [y]) → w.grownBy w' (some g) → (g' = g ∨ w.heap.size ≤ g') → wpList P ops Q rest (a.put o.dst (.slice (some ⟨g', 0, none⟩) (n + 1) cap')) w') : wpList P ops Q (o :: rest) a w := by
  have h1' : ∀ u ∈ [y], u.oneCell' = true := fun u hu => by simp at hu; subst hu; exact h1
  by_cases hr : n + 1 ≤ cap
  · exact Go.wpList_append_own_spare w hgd s x t ho base e i 1 ht hi hsize g n cap xs hs hown ad 1 c [y] hx rfl hnews h1' hr fun w' h2 h3 => h _ _ _ h2 h3 (.inl rfl)
  · refine Go.wpList_append_grows w hgd s x t ho e i z 1 bytes ht hi hz hsize hby hzs (by decide) (some ⟨g, 0, none⟩) n cap xs hs (fun h => by cases h) (by have := hown.1; omega) (fun b hb j u hu => ?_) ad 1 c [y] hx rfl hnews h1' (by omega) (by unfold maxLen; omega) ?_ fun v' w' h2 h3 => ?_
    · injection hb with hb; subst hb; exact hown.cells rfl j u hu
    · have : (n + 1) * bytes ≤ (1048576 + 1) * 64 := Nat.mul_le_mul (by omega) hb8
      omega
    · obtain ⟨A, c', rfl⟩ := own_form h2
      obtain ⟨g', rfl, hg, _⟩ := own_some h2 (by omega)
      exact h _ _ _ (own_base h2 hbase) ⟨h3.os, h3.tape, h3.output, h3.size, fun k hk _ => h3.block k hk (by simp)⟩ (.inr hg)

/-- A copy that fills a list that the call made. -/
theorem copy_full {ops : Array Oper} {rest : List Oper} {o : Oper} {a : Act} {Q : Exit → Act → World → Prop} (hgd : o.guard = none) (d s : Operand) (dT sT : TypeId)
    (ho : o.op = .call { callee := .builtin .copy, args := #[d, s], argTypes := #[dT, sT] }) (e : TypeId) (hu : P.underlying dT = some (.slice e)) (hsz : (P.info? e).map (·.size) = some 1)
    (base g n c : Nat) (xs : List Value) (hd : a.eval d = .slice (some ⟨g, 0, none⟩) n c) (hown : w.ownsRow base e 1 (.slice (some ⟨g, 0, none⟩) n c) n xs)
    (A : Option Addr) (sc : Nat) (hs : a.eval s = .slice A n sc) (B : Nat) (ys : List Value) (hr : Rd w B A ys) (hl : ys.length = n) (hpos : 0 < n) (h1 : ∀ v ∈ ys, v.oneCell' = true)
    (h : ∀ w', w'.ownsRow base e 1 (.slice (some ⟨g, 0, none⟩) n c) n ys → w.grownBy w' (some g) → wpList P ops Q rest (a.put o.dst (goInt n)) w') : wpList P ops Q (o :: rest) a w := by
  obtain ⟨b, off, rfl, _, hc⟩ := hr (by rintro rfl; simp at hl; omega)
  have hx := hown.1
  rcases hown.2 with ⟨h0, _⟩ | ⟨g', cap, cur, hv, hg, hh, hnc, hcm, hs2, ht⟩
  · cases h0
  · obtain ⟨rfl, rfl⟩ : g = g' ∧ c = cap := by injection hv with h1 _ h3; injection h1 with h1; injection h1 with h1; exact ⟨h1, h3⟩
    have hz : cur.toList.length = c := by simp only [Array.length_toList]; omega
    refine Go.wpList_copy_own hgd d s dT sT ho e hu hsz g 0 n c ⟨b, off, none⟩ n sc hd hs cur e hh ys (by rw [hl]; exact (Nat.min_self n).symm) (fun j v hj => by rw [Addr.add_lit]; exact hc j v hj) (by omega) h1 ?_
    rw [hl]
    refine h _ ⟨by omega, .inr ⟨g, c, _, rfl, hg, setRow_heap w g cur _ e _ hh, hnc, hcm, ?_, ?_⟩⟩ ⟨rfl, rfl, rfl, by simp [World.setRow], fun k _ hk => setRow_other w g k _ (fun e => hk (by rw [e]))⟩
    · simp
      omega
    · simp [List.take_append, hl, Nat.mul_one]
end
theorem oneCell_bools {bs : List Bool} : ∀ v ∈ bools bs, v.oneCell' = true := fun v hv => by
  rw [bools, List.mem_map] at hv
  obtain ⟨b, _, rfl⟩ := hv
  rfl
theorem oneCell_ints {zs : List Int} : ∀ v ∈ ints zs, v.oneCell' = true := fun v hv => by
  rw [ints, List.mem_map] at hv
  obtain ⟨b, _, rfl⟩ := hv
  rfl

def mix (n k : Nat) : List Int := (List.range n).map (fun i : Nat => if i < k then (-1 : Int) else 0)
theorem mix_len (n k : Nat) : (mix n k).length = n := rg_len _ n
theorem mix_zero (n : Nat) : mix n 0 = List.replicate n 0 := by apply List.ext_getElem <;> simp [mix]
theorem mix_all (n : Nat) : mix n n = List.replicate n (-1) := by
  apply List.ext_getElem
  · simp [mix]
  · intro i h1 h2
    have : i < n := by simpa [mix] using h1
    simp [mix, this]
theorem mix_set {n k : Nat} (hk : k < n) : (mix n k).set k (-1) = mix n (k + 1) := by
  apply List.ext_getElem
  · simp [mix]
  · intro i h1 h2
    rw [List.getElem_set]
    simp only [mix, List.getElem_map, List.getElem_range]
    by_cases e : k = i
    · subst e; simp
    · rw [if_neg e]
      by_cases g : i < k
      · rw [if_pos g, if_pos (by omega)]
      · rw [if_neg g, if_neg (by omega)]
end Go.Proofs.Ytbnggakfogcalaa

/- Plain mathematics of chapter 2, third part: how many fields, fields without a cell. Nothing of the program. -/
import Derived.Test.YtiihenhddleooacGraphB
set_option linter.unusedVariables false
set_option linter.unusedSimpArgs false
namespace Go.Proofs.Ytiihenhddleooac

section
variable {n : Nat} {nb : Nat → List Nat} {ok : Nat → Bool} {fs : List Int}
theorem Lab.le (h : Lab n nb ok fs) : ∀ i : Nat, at_ fs i ≤ i := fun i => by
  induction i using Nat.strongRecOn with
  | _ i ih =>
    by_cases h0 : at_ fs i ≤ 0
    · omega
    · obtain ⟨j, hj, e⟩ := h.fst i (at_ fs i - 1) (by omega) (by omega)
      have := ih j hj
      omega
theorem Lab.hi_lt (h : Lab n nb ok fs) : hi fs < n := by
  by_cases h0 : 0 ≤ hi fs
  · obtain ⟨i, hl, e⟩ := hi_at h0
    have := h.le i
    have := h.len
    omega
  · omega
theorem Lab.bd (h : Lab n nb ok fs) : ∀ z ∈ fs, -1 ≤ z ∧ z < n := fun z hz => by
  obtain ⟨i, hi'⟩ := List.mem_iff_getElem?.1 hz
  have e := at_of hi'
  have h1 := hi_le hz
  have h2 := h.hi_lt
  refine ⟨?_, by omega⟩
  cases hk : ok i with
  | false => rw [h.neg i hk] at e; omega
  | true => have := h.pos i hk; omega
theorem Lab.occ (h : Lab n nb ok fs) {c : Int} (h0 : 0 ≤ c) (hc : c ≤ hi fs) : ∃ i, i < n ∧ at_ fs i = c := by
  obtain ⟨i, hl, e⟩ := hi_at (l := fs) (by omega)
  have hn := h.len
  rcases Int.lt_or_eq_of_le hc with g | g
  · obtain ⟨j, hj, e2⟩ := h.fst i c h0 (by omega)
    exact ⟨j, by omega, e2⟩
  · exact ⟨i, by omega, by omega⟩
theorem Lab.okp (h : Lab n nb ok fs) {i : Nat} : ok i = true ↔ 0 ≤ at_ fs i := by
  refine ⟨h.pos i, fun h0 => ?_⟩
  cases hk : ok i with
  | true => rfl
  | false => rw [h.neg i hk] at h0; omega
/-- a map of fields to fields that is one to one: not more fields. -/
theorem Lab.inj {n' : Nat} {nb' : Nat → List Nat} {ok' : Nat → Bool} {gs : List Int} (h : Lab n nb ok fs) (h' : Lab n' nb' ok' gs) (g : Int → Nat)
    (h1 : ∀ c, 0 ≤ c → c ≤ hi fs → 0 ≤ at_ gs (g c)) (h2 : ∀ c d, 0 ≤ c → c ≤ hi fs → 0 ≤ d → d ≤ hi fs → at_ gs (g c) = at_ gs (g d) → c = d) : hi fs ≤ hi gs := by
  have a := hi_ge fs
  have b := hi_ge gs
  have := inj_len (List.range (hi fs + 1).toNat) (List.range (hi gs + 1).toNat) (fun c => (at_ gs (g c)).toNat) List.nodup_range
    (fun x hx => by
      have hx := List.mem_range.1 hx
      have := h1 x (by omega) (by omega)
      have := at_hi gs (g x)
      exact List.mem_range.2 (by omega))
    (fun x hx y hy e => by
      have hx := List.mem_range.1 hx
      have hy := List.mem_range.1 hy
      have := h1 x (by omega) (by omega)
      have := h1 y (by omega) (by omega)
      have := h2 x y (by omega) (by omega) (by omega) (by omega) (by omega)
      omega)
  simp only [List.length_range] at this
  omega
/-- the narrow cells, ascending: without one of them there are more fields. -/
def MoreF (n : Nat) (nb : Nat → List Nat) (ok : Nat → Bool) (fs : List Int) (i : Nat) : Prop := ∃ gs, Lab n nb (okW ok i) gs ∧ hi fs < hi gs
structure IsNar (n : Nat) (nb : Nat → List Nat) (ok : Nat → Bool) (fs : List Int) (k : Nat) (ys : List Nat) : Prop where
  srt : ys.Pairwise (· < ·)
  mem : ∀ i, i ∈ ys ↔ i < k ∧ ok i = true ∧ MoreF n nb ok fs i
theorem IsNar.uniq {k : Nat} {ys zs : List Nat} (a : IsNar n nb ok fs k ys) (b : IsNar n nb ok fs k zs) : ys = zs := sorted_ext a.srt b.srt fun i => by rw [a.mem, b.mem]
theorem IsNar.start : IsNar n nb ok fs 0 [] := ⟨List.Pairwise.nil, fun i => by simp⟩
theorem IsNar.skip {k : Nat} {ys : List Nat} (a : IsNar n nb ok fs k ys) (h : ok k = true → ¬ MoreF n nb ok fs k) : IsNar n nb ok fs (k + 1) ys :=
  ⟨a.srt, fun i => by
    rw [a.mem]
    refine ⟨fun ⟨h1, h2, h3⟩ => ⟨by omega, h2, h3⟩, fun ⟨h1, h2, h3⟩ => ⟨?_, h2, h3⟩⟩
    rcases Nat.lt_or_ge i k with g | g
    · exact g
    · obtain rfl : i = k := by omega
      exact absurd h3 (h h2)⟩
theorem IsNar.add {k : Nat} {ys : List Nat} (a : IsNar n nb ok fs k ys) (h1 : ok k = true) (h2 : MoreF n nb ok fs k) : IsNar n nb ok fs (k + 1) (ys ++ [k]) :=
  ⟨by
    rw [List.pairwise_append]
    refine ⟨a.srt, by simp, fun x hx y hy => ?_⟩
    simp at hy
    subst hy
    exact ((a.mem x).1 hx).1, fun i => by
    rw [List.mem_append, a.mem]
    constructor
    · rintro (⟨g1, g2, g3⟩ | g)
      · exact ⟨by omega, g2, g3⟩
      · simp at g; subst g; exact ⟨by omega, h1, h2⟩
    · rintro ⟨g1, g2, g3⟩
      rcases Nat.lt_or_ge i k with g | g
      · exact .inl ⟨g, g2, g3⟩
      · exact .inr (by simp; omega)⟩
theorem IsNar.lt (hk : ∀ i, ok i = true → i < n) {k : Nat} {ys : List Nat} (a : IsNar n nb ok fs k ys) : ys.length ≤ n := nodup_lt_len (nodup_of_sorted a.srt) fun x hx => hk x ((a.mem x).1 hx).2.1
theorem moreF_iff {gs : List Int} {i : Nat} (h : Lab n nb (okW ok i) gs) : MoreF n nb ok fs i ↔ hi fs < hi gs :=
  ⟨fun ⟨gs', h1, h2⟩ => by rw [h.uniq h1]; exact h2, fun h2 => ⟨gs, h, h2⟩⟩
end

end Go.Proofs.Ytiihenhddleooac

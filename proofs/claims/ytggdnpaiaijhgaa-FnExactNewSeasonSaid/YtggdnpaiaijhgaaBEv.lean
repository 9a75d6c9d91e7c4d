/- Chapter 8: events and their texts (pure). -/
import Derived.Test.YtggdnpaiaijhgaaBRd
import Derived.Test.YtggdnpaiaijhgaaPure
import Derived.Test.YtggdnpaiaijhgaaGraph
namespace Go.Proofs.Ytggdnpaiaijhgaa
open Go.RowKit
set_option linter.unusedVariables false
set_option linter.unusedSimpArgs false
/-- an event -/
structure Ev where
  k : Int
  ts : List Int
  c : Int
  n : Int
  p : Int
def evZ : Ev := ⟨0, [], 0, 0, 0⟩
def coldL : List UInt8 := [99, 111, 108, 100]
def cutL : List UInt8 := [99, 117, 116]
def sellL : List UInt8 := [115, 101, 108, 108]
def meltL : List UInt8 := [109, 101, 108, 116]
def okTs (ts : List Int) : Bool := ts.all (fun z => inB z (-999999) 999999)
def evB (e : Ev) : Bool := inB e.c 0 999999 && inB e.n 0 999999 && inB e.p 0 999999 && okTs e.ts
def tailL (zs : List Int) : List UInt8 := (zs.map (fun z => 32 :: sgnL z)).flatten
def bodyL (e : Ev) : List UInt8 := if e.k = 0 then coldL ++ tailL e.ts else if e.k = 1 then cutL ++ tailL [e.c] else if e.k = 2 then sellL ++ tailL [e.n, e.p] else if e.k = 3 then meltL else []
def showL (e : Ev) : List UInt8 := if evB e then bodyL e else []
theorem tailL_cons (z : Int) (zs : List Int) : tailL (z :: zs) = 32 :: (sgnL z ++ tailL zs) := by simp [tailL]
theorem tailL_nil : tailL [] = [] := rfl
theorem tailL_snoc (zs : List Int) (z : Int) : tailL (zs ++ [z]) = tailL zs ++ (32 :: sgnL z) := by simp [tailL]
theorem sgnL_dig (z : Int) : ∀ b ∈ sgnL z, b = 45 ∨ digB b = true := by
  intro b hb
  by_cases h : z < 0
  · rw [sgnL_neg (n := z.natAbs) h (by omega)] at hb
    rcases List.mem_append.1 hb with hb | hb
    · exact .inl (List.mem_singleton.1 hb)
    · exact .inr (numL_dig _ b hb)
  · obtain ⟨n, rfl⟩ := Int.eq_ofNat_of_zero_le (show 0 ≤ z by omega)
    rw [sgnL_pos] at hb
    exact .inr (numL_dig _ b hb)
theorem sgnL_no (z : Int) (b : UInt8) (h1 : b ≠ 45) (h2 : digB b = false) : b ∉ sgnL z := fun h => by
  rcases sgnL_dig z b h with h | h
  · exact h1 h
  · rw [h] at h2; cases h2
theorem split_tail : ∀ (zs : List Int) (a : List UInt8), (32 : UInt8) ∉ a → splitL 32 (a ++ tailL zs) = a :: zs.map sgnL
  | [], a, h => by rw [tailL_nil, List.append_nil, splitL_no h]; rfl
  | z :: zs, a, h => by
    rw [tailL_cons, splitL_at h, split_tail zs (sgnL z) (sgnL_no z 32 (by decide) (by decide))]
    rfl
/-- what a word of digits is worth in the program's numbers -/
def numStep (z : Int) (b : UInt8) : Int := if b = 45 then z else IntKind.i64.wrap (IntKind.i64.wrap (z * 10) + IntKind.u8.wrap ((b.toNat : Int) - 48))
def numA (l : List UInt8) : Int := l.foldl numStep 0
def numW (l : List UInt8) : Int := if l.head? = some 45 then IntKind.i64.wrap (-(numA l)) else numA l
theorem numStep_dig {n : Nat} {b : UInt8} (h : digB b = true) (hn : n ≤ 100000000) : numStep (n : Int) b = ((10 * n + (b.toNat - 48) : Nat) : Int) := by
  have h := of_decide_eq_true h
  have hb : b ≠ 45 := fun e => by subst e; revert h; decide
  have h256 : b.toNat < 256 := UInt8.toNat_lt _
  unfold numStep
  have e1 : IntKind.i64.wrap ((n : Int) * 10) = (n : Int) * 10 := IntWalk.i64_in _ ⟨by omega, by omega⟩
  have e2 : IntKind.u8.wrap ((b.toNat : Int) - 48) = (b.toNat : Int) - 48 := IntWalk.u8_in _ ⟨by omega, by omega⟩
  rw [if_neg hb, e1, e2, IntWalk.i64_in _ ⟨by omega, by omega⟩]
  omega
theorem numF_dig : ∀ (l : List UInt8) (n : Nat), (∀ b ∈ l, digB b = true) → valF n l ≤ 100000000 → l.foldl numStep (n : Int) = ((valF n l : Nat) : Int)
  | [], n, _, _ => rfl
  | b :: l, n, h, hv => by
    have e : valF n (b :: l) = valF (10 * n + (b.toNat - 48)) l := rfl
    rw [e] at hv ⊢
    have := valF_ge l (10 * n + (b.toNat - 48))
    rw [List.foldl_cons, numStep_dig (h b (List.mem_cons_self ..)) (by omega)]
    exact numF_dig l _ (fun b hb => h b (List.mem_cons_of_mem _ hb)) hv
theorem numA_num {n : Nat} (h : n ≤ 1000000) : numA (numL n) = (n : Int) := by
  have hv : valF 0 (numL n) = n := numL_val n
  have := numF_dig (numL n) 0 (numL_dig n) (by rw [hv]; omega)
  rw [hv] at this
  exact this
theorem numW_sgn {z : Int} (h1 : -999999 ≤ z) (h2 : z ≤ 999999) : numW (sgnL z) = z := by
  by_cases h : z < 0
  · have e := sgnL_neg (n := z.natAbs) h (by omega)
    have e2 : numA (sgnL z) = (z.natAbs : Int) := by
      rw [e]
      have : numA ([45] ++ numL z.natAbs) = numA (numL z.natAbs) := rfl
      rw [this, numA_num (by omega)]
    unfold numW
    rw [e2, e, if_pos (by rfl), IntWalk.i64_in _ ⟨by omega, by omega⟩]
    omega
  · obtain ⟨n, rfl⟩ := Int.eq_ofNat_of_zero_le (show 0 ≤ z by omega)
    unfold numW
    rw [sgnL_pos, if_neg (numL_head n), numA_num (by omega)]
/-- the event that words tell -/
def evOf (ws : List (List UInt8)) : Ev :=
  if ws.head? = some coldL then ⟨0, ws.tail.map numW, 0, 0, 0⟩
  else if ws.head? = some cutL ∧ ws.tail.length = 1 then ⟨1, [], at_ (ws.tail.map numW) 0, 0, 0⟩
  else if ws.head? = some sellL ∧ ws.tail.length = 2 then ⟨2, [], 0, at_ (ws.tail.map numW) 0, at_ (ws.tail.map numW) 1⟩
  else ⟨3, [], 0, 0, 0⟩
def evL (l : List UInt8) : Ev := evOf (splitL 32 l)
def parB (l : List UInt8) : Bool := decide (showL (evL l) = l)
def parE (l : List UInt8) : Ev := if parB l then evL l else evZ
/-- what the text names of an event -/
def normE (e : Ev) : Ev := if e.k = 0 then ⟨0, e.ts, 0, 0, 0⟩ else if e.k = 1 then ⟨1, [], e.c, 0, 0⟩ else if e.k = 2 then ⟨2, [], 0, e.n, e.p⟩ else ⟨3, [], 0, 0, 0⟩
theorem okTs_at {ts : List Int} (h : okTs ts = true) {z : Int} (hz : z ∈ ts) : -999999 ≤ z ∧ z ≤ 999999 := inB_t (List.all_eq_true.1 h z hz)
theorem evB_def {e : Ev} (h : evB e = true) : (0 ≤ e.c ∧ e.c ≤ 999999) ∧ (0 ≤ e.n ∧ e.n ≤ 999999) ∧ (0 ≤ e.p ∧ e.p ≤ 999999) ∧ okTs e.ts = true := by
  unfold evB at h
  simp only [Bool.and_eq_true] at h
  exact ⟨inB_t h.1.1.1, inB_t h.1.1.2, inB_t h.1.2, h.2⟩
theorem numW_map : ∀ {zs : List Int}, okTs zs = true → (zs.map sgnL).map numW = zs
  | [], _ => rfl
  | z :: zs, h => by
    have hz := okTs_at h (List.mem_cons_self ..)
    have ht : okTs zs = true := by
      unfold okTs at h ⊢
      rw [List.all_cons, Bool.and_eq_true] at h
      exact h.2
    rw [List.map_cons, List.map_cons, numW_sgn hz.1 hz.2, numW_map ht]
theorem cold_no : (32 : UInt8) ∉ coldL := by decide
theorem cut_no : (32 : UInt8) ∉ cutL := by decide
theorem sell_no : (32 : UInt8) ∉ sellL := by decide
theorem melt_no : (32 : UInt8) ∉ meltL := by decide
theorem okTs_one {z : Int} (h1 : 0 ≤ z) (h2 : z ≤ 999999) : okTs [z] = true := by
  unfold okTs
  rw [List.all_cons, inB_mk ⟨by omega, h2⟩]; rfl
theorem okTs_two {z y : Int} (h1 : 0 ≤ z) (h2 : z ≤ 999999) (g1 : 0 ≤ y) (g2 : y ≤ 999999) : okTs [z, y] = true := by
  unfold okTs
  rw [List.all_cons, List.all_cons, inB_mk ⟨by omega, h2⟩, inB_mk ⟨by omega, g2⟩]; rfl
/-- the words of an event's text: a name, and numbers that can be written -/
def WordsOf (e : Ev) (ws : List (List UInt8)) : Prop := ∃ zs, okTs zs = true ∧ ws = (if e.k = 0 then coldL else if e.k = 1 then cutL else if e.k = 2 then sellL else meltL) :: zs.map sgnL ∧ (if e.k = 0 then zs = e.ts else if e.k = 1 then zs = [e.c] else if e.k = 2 then zs = [e.n, e.p] else zs = [])
theorem words_of {e : Ev} (h : showL e ≠ []) : WordsOf e (splitL 32 (showL e)) ∧ evB e = true ∧ (e.k = 0 ∨ e.k = 1 ∨ e.k = 2 ∨ e.k = 3) := by
  unfold showL at h ⊢
  by_cases hb : evB e = true
  · rw [if_pos hb] at h ⊢
    have hd := evB_def hb
    unfold bodyL at h ⊢
    by_cases h0 : e.k = 0
    · rw [if_pos h0]
      exact ⟨⟨e.ts, hd.2.2.2, by rw [split_tail _ _ cold_no, if_pos h0], by rw [if_pos h0]⟩, hb, .inl h0⟩
    · rw [if_neg h0] at h ⊢
      by_cases h1 : e.k = 1
      · rw [if_pos h1]
        exact ⟨⟨[e.c], okTs_one hd.1.1 hd.1.2, by rw [split_tail _ _ cut_no, if_neg h0, if_pos h1], by rw [if_neg h0, if_pos h1]⟩, hb, .inr (.inl h1)⟩
      · rw [if_neg h1] at h ⊢
        by_cases h2 : e.k = 2
        · rw [if_pos h2]
          exact ⟨⟨[e.n, e.p], okTs_two hd.2.1.1 hd.2.1.2 hd.2.2.1.1 hd.2.2.1.2, by rw [split_tail _ _ sell_no, if_neg h0, if_neg h1, if_pos h2], by rw [if_neg h0, if_neg h1, if_pos h2]⟩, hb, .inr (.inr (.inl h2))⟩
        · rw [if_neg h2] at h ⊢
          by_cases h3 : e.k = 3
          · rw [if_pos h3]
            exact ⟨⟨[], rfl, by rw [splitL_no melt_no, if_neg h0, if_neg h1, if_neg h2]; rfl, by rw [if_neg h0, if_neg h1, if_neg h2]⟩, hb, .inr (.inr (.inr h3))⟩
          · rw [if_neg h3] at h; exact absurd rfl h
  · rw [if_neg hb] at h; exact absurd rfl h
theorem names_ne : (coldL = cutL) = False ∧ (coldL = sellL) = False ∧ (cutL = coldL) = False ∧ (cutL = sellL) = False ∧ (sellL = coldL) = False ∧ (sellL = cutL) = False ∧ (meltL = coldL) = False ∧ (meltL = cutL) = False ∧ (meltL = sellL) = False := by decide
theorem evOf_words {e : Ev} {ws : List (List UInt8)} (h : WordsOf e ws) (hk : e.k = 0 ∨ e.k = 1 ∨ e.k = 2 ∨ e.k = 3) : evOf ws = normE e := by
  obtain ⟨zs, hz, rfl, he⟩ := h
  unfold evOf normE
  rcases hk with hk | hk | hk | hk <;> simp only [hk, List.head?_cons, List.tail_cons, numW_map hz, List.length_map] at he ⊢
  · subst he; simp
  · simp at he; subst he; simp [names_ne]; rfl
  · simp at he; subst he; simp [names_ne]; exact ⟨rfl, rfl⟩
  · simp at he; subst he; simp [names_ne]
theorem evB_norm {e : Ev} (h : evB e = true) : evB (normE e) = true := by
  have hd := evB_def h
  unfold normE evB
  split
  · simp [inB_mk, hd.2.2.2]
  · split
    · simp [inB_mk, hd.1, okTs]
    · split
      · simp [inB_mk, hd.2.1, hd.2.2.1, okTs]
      · simp [inB_mk, okTs]
theorem body_norm {e : Ev} (hk : e.k = 0 ∨ e.k = 1 ∨ e.k = 2 ∨ e.k = 3) : bodyL (normE e) = bodyL e := by
  unfold bodyL normE
  rcases hk with hk | hk | hk | hk <;> simp [hk]
theorem show_norm {e : Ev} (h : showL e ≠ []) : showL (normE e) = showL e := by
  have hw := words_of h
  unfold showL
  rw [if_pos hw.2.1, if_pos (evB_norm hw.2.1), body_norm hw.2.2]
/-- what is written is read back -/
theorem par_show {e : Ev} (h : showL e ≠ []) : parB (showL e) = true ∧ parE (showL e) = normE e := by
  have hw := words_of h
  have he : evL (showL e) = normE e := evOf_words hw.1 hw.2.2
  have hb : parB (showL e) = true := by
    unfold parB
    rw [he]
    exact decide_eq_true (show_norm h)
  exact ⟨hb, by unfold parE; rw [if_pos hb, he]⟩
theorem evL_nil : evL [] = ⟨3, [], 0, 0, 0⟩ := by
  unfold evL evOf
  simp [splitL, coldL, cutL, sellL]
theorem par_nil : parB [] = false := by
  unfold parB
  rw [evL_nil]
  decide
theorem par_ne {l : List UInt8} (h : parB l = true) : l ≠ [] := fun e => by rw [e, par_nil] at h; cases h
/-- what is read is written back -/
theorem show_par {l : List UInt8} (h : parB l = true) : showL (parE l) = l := by
  unfold parE
  rw [if_pos h]
  exact of_decide_eq_true h
/-- the words of a text that is read -/
theorem par_words {l : List UInt8} (h : parB l = true) : ∃ zs, okTs zs = true ∧ (splitL 32 l).tail = zs.map sgnL := by
  have e := show_par h
  have hne : showL (parE l) ≠ [] := by rw [e]; exact par_ne h
  obtain ⟨zs, h1, h2, _⟩ := (words_of hne).1
  rw [e] at h2
  exact ⟨zs, h1, by rw [h2]; rfl⟩
theorem par_bad {l w : List UInt8} (hw : w ∈ (splitL 32 l).tail) (h : ∀ y : Int, -999999 ≤ y → y ≤ 999999 → w ≠ sgnL y) : parB l = false := by
  cases hb : parB l with
  | false => rfl
  | true =>
    obtain ⟨zs, h1, h2⟩ := par_words hb
    rw [h2] at hw
    obtain ⟨y, hy, rfl⟩ := List.mem_map.1 hw
    exact absurd rfl (h y (okTs_at h1 hy).1 (okTs_at h1 hy).2)
theorem par_not {l : List UInt8} (hm : evL l = ⟨3, [], 0, 0, 0⟩) (h : splitL 32 l ≠ [meltL]) : parB l = false := by
  cases hb : parB l with
  | false => rfl
  | true =>
    have e := of_decide_eq_true hb
    rw [hm] at e
    have e2 : showL ⟨3, [], 0, 0, 0⟩ = meltL := by decide
    rw [e2] at e
    exact absurd (by rw [← e, splitL_no melt_no]) h
theorem parE_no {l : List UInt8} (h : parB l = false) : parE l = evZ := by unfold parE; rw [h]; rfl
theorem parE_yes {l : List UInt8} (h : parB l = true) : parE l = evL l := by unfold parE; rw [h]; rfl
theorem parB_mk {l : List UInt8} {q : Bool} (h : decide (showL (evL l) = l) = q) : parB l = q := h

end Go.Proofs.Ytggdnpaiaijhgaa

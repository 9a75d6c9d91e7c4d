/- Appends and copies on lists that a call made; small contracts of chapter 2 on lists of numbers. -/
import Derived.ArgAppend
import Derived.Deep.DeepAppendRoom
import Derived.Laws.CopyOwn
import Derived.Test.YtggdnpaiaijhgaaSafe
namespace Go.Proofs.Ytggdnpaiaijhgaa
open Go.RowKit
set_option linter.unusedVariables false
set_option linter.unusedSimpArgs false
section
variable {P : Program} {w : World}
/-- An append of one element onto a list that the call made: behind it the list lies where it lay, or in new memory. -/
theorem push_own {ops : Array Oper} {rest : List Oper} {o : Oper} {a : Act} {Q : Exit → Act → World → Prop} (hgd : o.guard = none) (s x : Operand) (t : TypeId)
    (ho : o.op = .call { callee := .builtin .append, args := #[s, x], argTypes := #[t, t] })
    (base : Nat) (e : TypeId) (i : TypeInfo) (z : Value) (bytes : Nat) (ht : P.underlying t = some (.slice e)) (hi : P.info? e = some i) (hz : i.zero = some z)
    (hsize : i.size = 1) (hby : i.bytes = bytes) (hzs : z.cells.size = 1)
    (g n cap : Nat) (xs : List Value) (hs : a.eval s = .slice (some ⟨g, 0, none⟩) n cap) (hown : w.ownsRow base e 1 (.slice (some ⟨g, 0, none⟩) n cap) n xs)
    (ad : Addr) (c : Nat) (y : Value) (hx : a.eval x = .slice (some ad) 1 c) (hnews : ∀ j u, [y][j]? = some u → w.cell? (ad.add j) = some u) (h1 : y.oneCell' = true)
    (h63 : n ≤ 1048576) (hb8 : bytes ≤ 64) (hbase : base ≤ w.heap.size)
    (h : ∀ g' cap' w', w'.ownsRow base e 1 (.slice (some ⟨g', 0, none⟩) (n + 1) cap') (n + 1) (xs ++ [y]) → w.grownBy w' (some g) → (g' = g ∨ w.heap.size ≤ g') → wpList P ops Q rest (a.put o.dst (.slice (some ⟨g', 0, none⟩) (n + 1) cap')) w') : wpList P ops Q (o :: rest) a w := by
  have h1' : ∀ u ∈ [y], u.oneCell' = true := fun u hu => by simp at hu; subst hu; exact h1
  by_cases hr : n + 1 ≤ cap
  · exact Go.wpList_append_own_spare w hgd s x t ho base e i 1 ht hi hsize g n cap xs hs hown ad 1 c [y] hx rfl hnews h1' hr fun w' h2 h3 => h _ _ _ h2 h3 (.inl rfl)
  · refine Go.wpList_append_grows w hgd s x t ho e i z 1 bytes ht hi hz hsize hby hzs (by decide) (some ⟨g, 0, none⟩) n cap xs hs (fun h => by cases h) (by have := hown.1; omega) (fun b hb j u hu => ?_) ad 1 c [y] hx rfl hnews h1' (by omega) (by unfold maxLen; omega) ?_ fun v' w' h2 h3 => ?_
    · injection hb with hb; subst hb; exact hown.cells rfl j u hu
    · have : (n + 1) * bytes ≤ (1048576 + 1) * 64 := Nat.mul_le_mul (by omega) hb8
      omega
    · obtain ⟨A, c', rfl⟩ := own_form h2
      obtain ⟨g', rfl, hg, _⟩ := own_some h2 (by omega)
      exact h _ _ _ (own_base h2 hbase) ⟨h3.os, h3.tape, h3.output, h3.size, fun k hk _ => h3.block k hk (by simp)⟩ (.inr hg)

/-- A copy that fills a list that the call made. -/
theorem copy_full {ops : Array Oper} {rest : List Oper} {o : Oper} {a : Act} {Q : Exit → Act → World → Prop} (hgd : o.guard = none) (d s : Operand) (dT sT : TypeId)
    (ho : o.op = .call { callee := .builtin .copy, args := #[d, s], argTypes := #[dT, sT] }) (e : TypeId) (hu : P.underlying dT = some (.slice e)) (hsz : (P.info? e).map (·.size) = some 1)
    (base g n c : Nat) (xs : List Value) (hd : a.eval d = .slice (some ⟨g, 0, none⟩) n c) (hown : w.ownsRow base e 1 (.slice (some ⟨g, 0, none⟩) n c) n xs)
    (A : Option Addr) (sc : Nat) (hs : a.eval s = .slice A n sc) (B : Nat) (ys : List Value) (hr : Rd w B A ys) (hl : ys.length = n) (hpos : 0 < n) (h1 : ∀ v ∈ ys, v.oneCell' = true)
    (h : ∀ w', w'.ownsRow base e 1 (.slice (some ⟨g, 0, none⟩) n c) n ys → w.grownBy w' (some g) → wpList P ops Q rest (a.put o.dst (goInt n)) w') : wpList P ops Q (o :: rest) a w := by
  obtain ⟨b, off, rfl, _, hc⟩ := hr (by rintro rfl; simp at hl; omega)
  have hx := hown.1
  rcases hown.2 with ⟨h0, _⟩ | ⟨g', cap, cur, hv, hg, hh, hnc, hcm, hs2, ht⟩
  · cases h0
  · obtain ⟨rfl, rfl⟩ : g = g' ∧ c = cap := by injection hv with h1 _ h3; injection h1 with h1; injection h1 with h1; exact ⟨h1, h3⟩
    have hz : cur.toList.length = c := by simp only [Array.length_toList]; omega
    refine Go.wpList_copy_own hgd d s dT sT ho e hu hsz g 0 n c ⟨b, off, none⟩ n sc hd hs cur e hh ys (by rw [hl]; exact (Nat.min_self n).symm) (fun j v hj => by rw [Addr.add_lit]; exact hc j v hj) (by omega) h1 ?_
    rw [hl]
    refine h _ ⟨by omega, .inr ⟨g, c, _, rfl, hg, setRow_heap w g cur _ e _ hh, hnc, hcm, ?_, ?_⟩⟩ ⟨rfl, rfl, rfl, by simp [World.setRow], fun k _ hk => setRow_other w g k _ (fun e => hk (by rw [e]))⟩
    · simp
      omega
    · simp [List.take_append, hl, Nat.mul_one]
end
theorem oneCell_bools {bs : List Bool} : ∀ v ∈ bools bs, v.oneCell' = true := fun v hv => by
  rw [bools, List.mem_map] at hv
  obtain ⟨b, _, rfl⟩ := hv
  rfl
theorem oneCell_ints {zs : List Int} : ∀ v ∈ ints zs, v.oneCell' = true := fun v hv => by
  rw [ints, List.mem_map] at hv
  obtain ⟨b, _, rfl⟩ := hv
  rfl

def mix (n k : Nat) : List Int := (List.range n).map (fun i : Nat => if i < k then (-1 : Int) else 0)
theorem mix_len (n k : Nat) : (mix n k).length = n := rg_len _ n
theorem mix_zero (n : Nat) : mix n 0 = List.replicate n 0 := by apply List.ext_getElem <;> simp [mix]
theorem mix_all (n : Nat) : mix n n = List.replicate n (-1) := by
  apply List.ext_getElem
  · simp [mix]
  · intro i h1 h2
    have : i < n := by simpa [mix] using h1
    simp [mix, this]
theorem mix_set {n k : Nat} (hk : k < n) : (mix n k).set k (-1) = mix n (k + 1) := by
  apply List.ext_getElem
  · simp [mix]
  · intro i h1 h2
    rw [List.getElem_set]
    simp only [mix, List.getElem_map, List.getElem_range]
    by_cases e : k = i
    · subst e; simp
    · rw [if_neg e]
      by_cases g : i < k
      · rw [if_pos g, if_pos (by omega)]
      · rw [if_neg g, if_neg (by omega)]
set_option maxRecDepth 100000 in
set_option maxHeartbeats 400000 in
theorem noneOf_any (n : Nat) (hn : n ≤ 1000) (w : World) :
    Calls Try.prog 132 #[.int .i64 n] w (OutI (List.replicate n (-1)) w) := by
  have hmk := run_make_row' (P := Try.prog) 37 3 (.int .i64 0) 8 Try.underlying37 info_int rfl .i64 .i64 n (by omega) (by omega)
  go_enter Try.func132, Try.ntmps132
  go_wp2
  go_loopw [9] (fun i wr => ∃ k : Nat, k ≤ n ∧ i = .int .i64 k ∧ wr.ownsRow w.heap.size 3 1 (.slice (some ⟨w.heap.size, 0, none⟩) n n) n (ints (mix n k)) ∧ Below w.heap.size w wr) (fun i _ => n - (intOf i).toNat)
  case atStart =>
    refine ⟨0, Nat.zero_le _, rfl, ?_, (Below.refl _ _).alloc (Nat.le_refl _) _⟩
    rw [mix_zero]
    have := own_made w (.int .i64 0) n 3 (by unfold maxLen; omega)
    simpa [ints] using this
  case round =>
    obtain ⟨k, hk, rfl, hown, hbel⟩ := hrel
    by_cases hlt : k < n
    · have hfz := own_frozen hown k
      have hcl := own_cell hown (ints_at' (zs := mix n k) (k := k) (by rw [mix_len]; exact hlt))
      go_wp2
      go_roundw
      case rel =>
        refine ⟨k + 1, by omega, by go_num, ?_, hbel.setCell (by simp) _⟩
        rw [← mix_set hlt, ← ints_set]
        exact own_put hown k _
      case measure => simp [intOf]; omega
    · obtain rfl : k = n := by omega
      have R := out_mk (l := List.replicate k (-1)) (n := k) (by simp) (by rw [← mix_all]; exact hown) hbel
      clear hown hbel
      go_wp2
      go_ret
      exact R
set_option maxRecDepth 100000 in
set_option maxHeartbeats 400000 in
theorem withoutCell_any (n : Nat) (bs : List Bool) (hl : bs.length = n) (A : Option Addr) (c : Nat) (w : World) (hr : Rd w w.heap.size A (bools bs)) (hn : n ≤ 1000) (k : Nat) (hk : k < n) :
    Calls Try.prog 108 #[.slice A n c, .int .i64 k] w (OutB (bs.set k false) w) := by
  have hmk := run_make_row' (P := Try.prog) 95 4 (.bool false) 1 Try.underlying95 info_bool rfl .i64 .i64 n (by omega) (by omega)
  have hown := own_made w (.bool false) n 4 (by unfold maxLen; omega)
  have hl2 : (bools bs).length = n := by rw [bools_length]; exact hl
  have HL := Lib.hid hl
  have HL2 := Lib.hid hl2
  have hr2 := hr.alloc (Nat.le_refl _) (.cells (madeCells #[Value.bool false] n) 4)
  clear hl hl2
  go_enter Try.func108, Try.ntmps108
  go_wp2_with (with_reducible refine copy_full rfl _ _ _ _ rfl 4 Try.underlying95 (by kernel_rfl) w.heap.size w.heap.size n n _ rfl hown _ _ rfl _ _ hr2 HL2.out (by omega) oneCell_bools ?_)
  · intro w1 hown1 hgrow
    have hfz := own_frozen hown1 k
    have hcl := own_cell hown1 (bools_at (bs := bs) (k := k) (by rw [HL.out]; exact hk))
    have hb1 : Below w.heap.size w w1 := ((Below.refl _ _).alloc (Nat.le_refl _) _).grown hgrow (by simp) (fun q hq => by injection hq with hq; omega)
    clear hown hr2 hgrow
    go_wp2
    go_ret
    refine outB_mk (n := n) (v := .slice (some ⟨w.heap.size, 0, none⟩) n n) (by rw [List.length_set]; exact HL.out) ?_ (hb1.setCell (by simp) _)
    rw [← bools_set]
    exact own_put hown1 k _

set_option maxRecDepth 100000 in
set_option maxHeartbeats 400000 in
theorem fieldCount_any (n : Nat) (zs : List Int) (hl : zs.length = n) (A : Option Addr) (c : Nat) (w : World) (B : Nat) (hr : Rd w B A (ints zs)) (hb : ∀ z ∈ zs, -1 ≤ z ∧ z ≤ 1000000) (hn : n ≤ 1048576) :
    Calls Try.prog 107 #[.slice A n c] w fun e w' => e = .returned (.int .i64 (hi zs + 1)) ∧ w = w' := by
  subst hl
  go_enter Try.func107, Try.ntmps107
  go_wp2
  go_loop [3, 8] (fun v i => ∃ k : Nat, k ≤ zs.length ∧ i = .int .i64 k ∧ v = .int .i64 (hi (zs.take k) + 1)) (fun _ i => zs.length - (intOf i).toNat)
  case atStart => exact ⟨0, Nat.zero_le _, rfl, rfl⟩
  case round =>
    obtain ⟨k, hk, rfl, rfl⟩ := hrel
    have h0 := hi_ge (zs.take k)
    have h1 : hi (zs.take k) ≤ 1000000 := by
      rcases hi_mem (zs.take k) with e | e
      · omega
      · exact (hb _ (List.mem_of_mem_take e)).2
    by_cases hlt : k < zs.length
    · obtain ⟨b, off, z, rfl, hbb, hz, hc⟩ := hr.int_ hlt
      have hzb := hb z (List.mem_of_getElem? hz.out)
      have Hs : Hid (hi (zs.take (k + 1)) = if hi (zs.take k) < z then z else hi (zs.take k)) := Lib.hid (by rw [take_snoc hz.out, hi_snoc])
      by_cases hg : hi (zs.take k) < z
      · have hg2 : hi (zs.take k) + 1 ≤ z := by omega
        go_wp2
        all_goals go_round
        all_goals first
          | (case rel => exact ⟨k + 1, by omega, by go_num, by rw [Hs.out, if_pos hg]⟩)
          | (case measure => simp [intOf]; omega)
      · have hg2 : z < hi (zs.take k) + 1 := by omega
        go_wp2
        all_goals go_round
        all_goals first
          | (case rel => exact ⟨k + 1, by omega, by go_num, by rw [Hs.out, if_neg hg]⟩)
          | (case measure => simp [intOf]; omega)
    · have Hk : Hid (zs.take k = zs) := Lib.hid (List.take_of_length_le (by omega))
      go_wp2
      go_ret
      exact ⟨ret_int (by rw [Hk.out]), rfl⟩
set_option maxRecDepth 100000 in
set_option maxHeartbeats 400000 in
theorem highest_any (n : Nat) (zs : List Int) (hl : zs.length = n) (A : Option Addr) (c : Nat) (w : World) (B : Nat) (hr : Rd w B A (ints zs)) (hn : n ≤ 1048576) :
    Calls Try.prog 104 #[.slice A n c] w fun e w' => e = .returned (.int .i64 (hi zs)) ∧ w = w' := by
  subst hl
  go_enter Try.func104, Try.ntmps104
  go_wp2
  go_loop [3, 4] (fun v i => ∃ k : Nat, k ≤ zs.length ∧ i = .int .i64 k ∧ v = .int .i64 (hi (zs.take k))) (fun _ i => zs.length - (intOf i).toNat)
  case atStart => exact ⟨0, Nat.zero_le _, rfl, rfl⟩
  case round =>
    obtain ⟨k, hk, rfl, rfl⟩ := hrel
    by_cases hlt : k < zs.length
    · obtain ⟨b, off, z, rfl, hbb, hz, hc⟩ := hr.int_ hlt
      have Hs : Hid (hi (zs.take (k + 1)) = if hi (zs.take k) < z then z else hi (zs.take k)) := Lib.hid (by rw [take_snoc hz.out, hi_snoc])
      go_wp2
      go_round
      case rel => exact ⟨k + 1, by omega, by go_num, by rw [Hs.out]⟩
      case measure => simp [intOf]; omega
    · have Hk : Hid (zs.take k = zs) := Lib.hid (List.take_of_length_le (by omega))
      go_wp2
      go_ret
      exact ⟨ret_int (by rw [Hk.out]), rfl⟩

end Go.Proofs.Ytggdnpaiaijhgaa

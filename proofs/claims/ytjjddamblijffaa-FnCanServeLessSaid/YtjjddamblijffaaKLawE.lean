/- The laws of chapter 6 over drawn customers: sweeps and the ways there and back, the least lateness. -/
import Derived.Test.YtjjddamblijffaaKLawD
import Derived.Test.YtjjddamblijffaaKLeastS
namespace Go.Proofs.Ytjjddamblijffaa
open Go.RowKit
set_option linter.unusedVariables false
set_option linter.unusedSimpArgs false
theorem nats_ord (n : Nat) : ordB n (nats (List.range n)) = true := ordB_perm.2 (List.Perm.refl _)
set_option maxHeartbeats 800000 in
theorem numbers_any (n : Nat) (hn : n ≤ 1000) (w : World) :
    Calls Try.prog 34 #[.int .i64 n] w (OutI (nats (List.range n)) w) := by
  obtain ⟨i0, hi, hz0, hz1, hz2⟩ := info_parts info_int
  go_enter Try.func34, Try.ntmps34
  go_wp2
  go_loopw [3, 4] (fun v i wr => ∃ k : Nat, k ≤ n ∧ i = .int .i64 k ∧ wr.ownsRow w.heap.size 3 1 v k (ints (nats (List.range k))) ∧ Below w.heap.size w wr) (fun _ i _ => n - (intOf i).toNat)
  case atStart => exact ⟨0, Nat.zero_le _, rfl, own_empty w _, (Below.refl _ _).alloc (Nat.le_refl _) _⟩
  case round =>
    obtain ⟨k, hk, rfl, hown, hbel⟩ := hrel
    have HBEL := Lib.hid hbel
    by_cases hlt : k < n
    · have HSN : Hid (ints (nats (List.range k)) ++ [.int .i64 (k : Int)] = ints (nats (List.range (k + 1)))) := Lib.hid (by simp [List.range_succ, nats, ints])
      have hsz := hbel.size
      have HO := Lib.hid hown
      clear hown hbel
      go_wp2_with (at_builtin; refine wpList_append_own _ rfl _ _ 27 rfl (w.heap.size) 3 i0 (.int .i64 0) 1 8 Try.underlying27 hi hz0 hz1 hz2 rfl (by decide) _ _ _ rfl (own_alloc HO.out _) ⟨wr.heap.size, 0, none⟩ 1 1 [.int .i64 (k : Int)] rfl rfl (one_new _ _ _ _ rfl) (fun u hu => by simp at hu; subst hu; rfl) (by unfold maxLen; omega) (by omega) (by simp; omega) ?_)
      intro v6 w6 own6 grow6 _
      have hb6 : Below w.heap.size w w6 := (HBEL.out.alloc hsz (.cells #[.int .i64 (k : Int)] 3)).grown grow6 (by simp; omega) (own_block HO.out)
      rw [HSN.out] at own6
      have HP6 := Lib.hid (And.intro own6 hb6)
      clear own6 hb6 grow6
      go_wp2
      go_roundw
      case rel => exact ⟨k + 1, by omega, by go_num, HP6.out.1, HP6.out.2⟩
      case measure => simp [intOf]; omega
    · obtain rfl : k = n := by omega
      obtain ⟨A', c', rfl⟩ := own_form hown
      have R : OutI (nats (List.range k)) w (.returned (.slice A' k c')) wr := out_mk (by rw [nats_length]; simp) hown hbel
      have HR := Lib.hid R
      clear R hown hbel
      go_wp2
      go_ret
      exact HR.out
theorem late_nums {ks : List Cu} {st : Int} : lateT ks st (nats (List.range ks.length)) = if vcB ks && inB st (-100) 100 then latR st 0 ks else -1 := by
  unfold lateT rndB
  rw [nats_ord, Bool.and_true, pick_all]
theorem serve_least {ks : List Cu} {st : Int} (h : (vcB ks && inB st (-100) 100) = true) (h6 : ks.length ≤ 6) : csvT ks st = decide (lateT ks st (leastT ks st) = 0) := by
  have hq : ((vcB ks && inB st (-100) 100) && decide (ks.length ≤ 6)) = true := by rw [h, decide_eq_true h6]; rfl
  rw [leastT_ok hq]
  have h2 := h
  rw [Bool.and_eq_true] at h2
  have hr : rndB ks st (bst ks st ks.length []) = true := by unfold rndB; rw [h, least_ord]; rfl
  rw [lateT_ok hr]
  rw [Bool.eq_iff_iff, decide_eq_true_eq, csvT_can, can_orders]
  constructor
  · rintro ⟨_, _, os, h3, h4⟩
    have := least_le (cs := ks) (st := st) h3
    have := latR_ge st 0 (pick ks (bst ks st ks.length []))
    unfold latO at *
    omega
  · intro h3
    exact ⟨h2.1, h2.2, _, least_ord, h3⟩
theorem late_least_bd {ks : List Cu} {st : Int} (os : List Int) : -1 ≤ lateT ks st os ∧ lateT ks st os ≤ 12800 := by
  cases h : rndB ks st os
  · rw [lateT_no h]; omega
  · rw [lateT_ok h]
    have P := rndP h
    have h1 := P.late (k := ks.length) (Nat.le_refl _)
    rw [show os.take ks.length = os from by rw [← P.olen, List.take_length]] at h1
    omega
/-! ways along the street -/
theorem srt_tail {c : Cu} {l : List Cu} (h : Srt (c :: l)) : Srt l := ⟨fun i j hij hj => by
  have := h.up (i + 1) (j + 1) (by omega) (by simp; omega)
  simpa [cuA] using this⟩
theorem endT_srt : ∀ {l : List Cu} {c : Cu} {a : Int}, Srt (c :: l) → endT a (c :: l) = dst a c.1 + ((cuA (c :: l) l.length).1 - c.1)
  | [], c, a, _ => by simp [endT, cuA]
  | d :: l, c, a, h => by
    have ih := endT_srt (a := c.1) (srt_tail h)
    have h1 := h.up 0 1 (by omega) (by simp)
    simp [cuA] at h1
    show dst a c.1 + endT c.1 (d :: l) = _
    rw [ih]
    have e : (cuA (c :: d :: l) (d :: l).length).1 = (cuA (d :: l) l.length).1 := by simp [cuA]
    rw [e]
    have : dst c.1 d.1 = d.1 - c.1 := by unfold dst; split <;> omega
    omega
theorem endT_sorted {S : List Cu} {n : Nat} {a : Int} (h : Srt S) (hl : S.length = n) (h0 : 0 < n) : endT a S = dst a (cuA S 0).1 + ((cuA S (n - 1)).1 - (cuA S 0).1) := by
  match S, hl, h with
  | [], hl, _ => simp at hl; omega
  | c :: l, hl, h =>
    rw [endT_srt h]
    simp at hl
    rw [show n - 1 = l.length by omega]
    rfl
theorem endT_neg : ∀ (l : List Cu) (a : Int), endT (-a) (l.map negC) = endT a l
  | [], _ => rfl
  | c :: l, a => by
    show dst (-a) (-c.1) + endT (-c.1) (l.map negC) = dst a c.1 + endT c.1 l
    rw [dst_neg, endT_neg l c.1]
theorem cuA_map {f : Cu → Cu} {l : List Cu} {i : Nat} (h : i < l.length) : cuA (l.map f) i = f (cuA l i) := cuA_get (by rw [List.getElem?_map, get_cuA h]; rfl)
theorem cuA_rev {l : List Cu} {i : Nat} (h : i < l.length) : cuA l.reverse i = cuA l (l.length - 1 - i) := cuA_get (by rw [List.getElem?_reverse h]; exact get_cuA (by omega))
theorem endT_rev {S : List Cu} {n : Nat} {a : Int} (h : Srt S) (hl : S.length = n) (h0 : 0 < n) : endT a S.reverse = dst a (cuA S (n - 1)).1 + ((cuA S (n - 1)).1 - (cuA S 0).1) := by
  rw [← endT_neg]
  have hs : Srt (S.reverse.map negC) := ⟨fun i j hij hj => by
    simp only [List.length_map, List.length_reverse] at hj
    rw [cuA_map (by simp; omega), cuA_map (by simp; omega), cuA_rev (by omega), cuA_rev (by omega)]
    have := h.up (S.length - 1 - j) (S.length - 1 - i) (by omega) (by omega)
    show -(cuA S (S.length - 1 - i)).1 ≤ -(cuA S (S.length - 1 - j)).1
    omega⟩
  rw [endT_sorted (n := n) hs (by simp [hl]) h0, cuA_map (by simp; omega), cuA_map (by simp; omega), cuA_rev (by omega), cuA_rev (by omega), hl]
  show dst (-a) (-(cuA S (n - 1 - 0)).1) + (-(cuA S (n - 1 - (n - 1))).1 - -(cuA S (n - 1 - 0)).1) = _
  rw [dst_neg, Nat.sub_zero, Nat.sub_self]
  omega
theorem pick_rev (ks : List Cu) (os : List Int) : pick ks os.reverse = (pick ks os).reverse := by unfold pick; rw [List.map_reverse]
theorem ordB_rev {n : Nat} {os : List Int} (h : ordB n os = true) : ordB n os.reverse = true := ordB_same h os.reverse_perm
theorem min_short {ks : List Cu} {st : Int} {n : Nat} (hl : ks.length = n) (h0 : 0 < n) : srF ks st = (if endT st (swS ks).reverse < endT st (swS ks) then endT st (swS ks).reverse else endT st (swS ks)) := by
  have h1 := swS_len ks
  have h2 := swS_srt ks
  rw [srF_ends (by omega), endT_rev (n := n) h2 (by omega) h0, endT_sorted (n := n) h2 (by omega) h0, hl]
  split <;> split <;> omega

end Go.Proofs.Ytjjddamblijffaa

/- Sizes of fields: their sum, and those of a turned pond. -/
import Derived.Test.YtiihenhddleooacGCnt
namespace Go.Proofs.Ytiihenhddleooac
open Go.RowKit
set_option linter.unusedVariables false
set_option linter.unusedSimpArgs false
theorem sum_set : ∀ (l : List Int) (q : Nat), q < l.length → (l.set q (at_ l q + 1)).sum = l.sum + 1
  | [], q, h => by simp at h
  | z :: l, 0, _ => by
    have e : at_ (z :: l) 0 = z := at_of rfl
    rw [e]
    simp only [List.set_cons_zero, List.sum_cons]
    omega
  | z :: l, q + 1, h => by
    have e : at_ (z :: l) (q + 1) = at_ l q := by simp [at_, List.getD_eq_getElem?_getD]
    have := sum_set l q (by simpa using h)
    rw [e]
    simp only [List.set_cons_succ, List.sum_cons]
    omega
theorem sum_rep : ∀ m : Nat, (List.replicate m (0 : Int)).sum = 0
  | 0 => rfl
  | m + 1 => by rw [List.replicate_succ, List.sum_cons, sum_rep m]; rfl
theorem sum_sz (fs : List Int) (M : Nat) (hM : ∀ i, at_ fs i < M) : ∀ k, k ≤ fs.length → (szT fs M k).sum = ((cntP (fun i => decide (0 ≤ at_ fs i)) k : Nat) : Int)
  | 0, _ => by rw [szT_zero, sum_rep]; rfl
  | k + 1, h => by
    have ih := sum_sz fs M hM k (by omega)
    have e := of_at (fs := fs) (i := k) (by omega)
    rw [cntP_succ]
    by_cases hz : 0 ≤ at_ fs k
    · obtain ⟨q, hq⟩ := Int.eq_ofNat_of_zero_le hz
      have hb := hM k
      rw [hq] at e hb
      rw [szT_pos e (by omega), sum_set _ _ (by rw [szT_len]; omega), ih, decide_eq_true hz]
      simp
    · rw [szT_neg e (by omega), ih, decide_eq_false hz]
      simp
theorem sz_sum {fs : List Int} {n : Nat} {nb : Nat → List Nat} {ok : Nat → Bool} (L : Lab n nb ok fs) : (szF fs).sum = ((cntP ok n : Nat) : Int) := by
  unfold szF
  rw [sum_sz fs _ (fun i => by have := at_hi fs i; have := hi_ge fs; omega) _ (Nat.le_refl _), L.len]
  have e : (fun i => decide (0 ≤ at_ fs i)) = ok := by
    funext i
    cases h : ok i
    · rw [L.neg i h]; rfl
    · exact decide_eq_true (L.pos i h)
  rw [e]
theorem sz_pos {fs : List Int} {n : Nat} {nb : Nat → List Nat} {ok : Nat → Bool} (L : Lab n nb ok fs) {c : Nat} (h : c < (szF fs).length) : 1 ≤ at_ (szF fs) c := by
  have hl : ((szF fs).length : Int) = hi fs + 1 := sz_len
  rw [sz_at h]
  obtain ⟨a, ha, hc⟩ := L.occ (c := (c : Int)) (by omega) (by omega)
  have := cntP_one (P := fun i => decide (at_ fs i = (c : Int))) (m := fs.length) (b := a) (by rw [L.len]; exact ha) (decide_eq_true hc)
  omega
/-- one graph laid into another, and back -/
theorem lab_map {n n' : Nat} {nb nb' : Nat → List Nat} {ok ok' : Nat → Bool} {fs gs : List Int} (L : Lab n nb ok fs) (M : Lab n' nb' ok' gs) (t t' : Nat → Nat) (hk : ∀ i, ok i = true → i < n) (hk' : ∀ i, ok' i = true → i < n')
    (hR : ∀ i j, Rch nb ok i j → Rch nb' ok' (t i) (t j)) (hR' : ∀ i j, Rch nb' ok' i j → Rch nb ok (t' i) (t' j)) (hinv : ∀ i, ok i = true → t' (t i) = i) :
    hi fs ≤ hi gs ∧ ∀ c : Int, 0 ≤ c → c ≤ hi fs → ∃ d : Int, 0 ≤ d ∧ d ≤ hi gs ∧ cntP (fun i => decide (at_ fs i = c)) n ≤ cntP (fun i => decide (at_ gs i = d)) n' := by
  have hok : ∀ i, ok i = true → ok' (t i) = true := fun i h => (hR i i (.refl h)).left
  constructor
  · have hex : ∀ c : Int, ∃ j, 0 ≤ c → c ≤ hi fs → at_ fs j = c := fun c => by
      by_cases hc : 0 ≤ c ∧ c ≤ hi fs
      · obtain ⟨j, _, hj⟩ := L.occ hc.1 hc.2
        exact ⟨j, fun _ _ => hj⟩
      · exact ⟨0, fun h1 h2 => absurd ⟨h1, h2⟩ hc⟩
    obtain ⟨g, hg⟩ := Classical.axiomOfChoice hex
    have hgo : ∀ c, 0 ≤ c → c ≤ hi fs → ok (g c) = true := fun c h1 h2 => by
      have := hg c h1 h2
      exact L.okp.2 (by omega)
    refine L.inj M (fun c => t (g c)) (fun c h1 h2 => M.pos _ (hok _ (hgo c h1 h2))) (fun c d h1 h2 h3 h4 e => ?_)
    have hr := hR' _ _ (M.sep _ _ (M.pos _ (hok _ (hgo c h1 h2))) e)
    rw [hinv _ (hgo c h1 h2), hinv _ (hgo d h3 h4)] at hr
    have e2 := L.con _ _ hr
    rw [hg c h1 h2, hg d h3 h4] at e2
    exact e2
  · intro c h1 h2
    obtain ⟨a, _, ha⟩ := L.occ h1 h2
    have hoa := L.okp.2 (show 0 ≤ at_ fs a by omega)
    refine ⟨at_ gs (t a), M.pos _ (hok a hoa), at_hi gs _, ?_⟩
    unfold cntP
    have hin : ∀ x ∈ (List.range n).filter (fun i => decide (at_ fs i = c)), at_ fs x = c ∧ ok x = true := fun x hx => by
      have := of_decide_eq_true (List.mem_filter.1 hx).2
      exact ⟨this, L.okp.2 (by omega)⟩
    refine inj_len _ _ t (List.nodup_range.filter _) (fun x hx => ?_) (fun x hx y hy e => ?_)
    · have h := hin x hx
      have hr := hR _ _ (L.sep a x (by omega) (by omega))
      exact List.mem_filter.2 ⟨List.mem_range.2 (hk' _ hr.right), decide_eq_true (M.con _ _ hr).symm⟩
    · rw [← hinv x (hin x hx).2, ← hinv y (hin y hy).2, e]
theorem co {W x : Nat} (y : Nat) (h : x < W) : (y * W + x) / W = y ∧ (y * W + x) % W = x := by
  refine ⟨?_, ?_⟩
  · rw [Nat.add_comm, Nat.add_mul_div_right _ _ (by omega), Nat.div_eq_of_lt h, Nat.zero_add]
  · rw [Nat.add_comm, Nat.add_mul_mod_self_right, Nat.mod_eq_of_lt h]
/-- where a cell comes to lie -/
def tu (W H c : Nat) : Nat := c % W * H + c / W
theorem tu_co {W H x : Nat} (y : Nat) (h : x < W) : tu W H (y * W + x) = x * H + y := by
  unfold tu
  rw [(co y h).1, (co y h).2]
theorem co_ex {W H c : Nat} (hW : 0 < W) (hc : c < H * W) : ∃ x y, x < W ∧ y < H ∧ c = y * W + x :=
  ⟨c % W, c / W, Nat.mod_lt _ hW, div_lt hc, by have := Nat.div_add_mod c W; rw [Nat.mul_comm] at this; exact this.symm⟩
theorem co_lt {W H x y : Nat} (hx : x < W) (hy : y < H) : y * W + x < H * W := by
  have : (y + 1) * W ≤ H * W := Nat.mul_le_mul_right _ hy
  rw [Nat.add_mul] at this
  omega
theorem tu_tu {W H c : Nat} (hW : 0 < W) (hc : c < H * W) : tu H W (tu W H c) = c := by
  obtain ⟨x, y, hx, hy, rfl⟩ := co_ex hW hc
  rw [tu_co y hx, tu_co x hy]
theorem tu_lt {W H c : Nat} (hW : 0 < W) (hc : c < H * W) : tu W H c < W * H := by
  obtain ⟨x, y, hx, hy, rfl⟩ := co_ex hW hc
  rw [tu_co y hx]
  exact co_lt hy hx
theorem tu_nb {W H c k : Nat} (hW : 0 < W) (hc : c < H * W) (hk : k ∈ nbs W (H * W) c) : tu W H k ∈ nbs H (W * H) (tu W H c) := by
  obtain ⟨x, y, hx, hy, rfl⟩ := co_ex hW hc
  rw [tu_co y hx]
  obtain ⟨_, m2⟩ := co x hy
  rw [nbs_mem, (co y hx).2] at hk
  rw [nbs_mem, m2]
  rcases hk with ⟨h1, h2⟩ | ⟨h1, h2⟩ | ⟨h1, h2⟩ | ⟨h1, h2⟩
  · cases y with
    | zero => omega
    | succ y =>
      have e : k = y * W + x := by rw [Nat.add_mul] at h2; omega
      rw [e, tu_co y hx]
      exact .inr (.inl ⟨by omega, by omega⟩)
  · cases x with
    | zero => omega
    | succ x =>
      have e : k = y * W + x := by omega
      rw [e, tu_co y (by omega), Nat.add_mul]
      exact .inl ⟨by omega, by omega⟩
  · have e : k = y * W + (x + 1) := by omega
    rw [e, tu_co y h1, Nat.add_mul]
    have := co_lt (W := H) (H := W) hy h1
    rw [Nat.add_mul] at this
    exact .inr (.inr (.inr ⟨by omega, by omega⟩))
  · have hy1 : y + 1 < H := by
      rcases Nat.lt_or_ge (y + 1) H with g | g
      · exact g
      · have : H * W ≤ (y + 1) * W := Nat.mul_le_mul_right _ g
        rw [Nat.add_mul] at this
        omega
    have e : k = (y + 1) * W + x := by rw [Nat.add_mul]; omega
    rw [e, tu_co (y + 1) hx]
    exact .inr (.inr (.inl ⟨hy1, by omega⟩))
theorem tu_rch {W H : Nat} {ok ok' : Nat → Bool} (hW : 0 < W) (hk : ∀ i, ok i = true → i < H * W) (ho : ∀ i, ok i = true → ok' (tu W H i) = true) {i j : Nat} (h : Rch (nbs W (H * W)) ok i j) : Rch (nbs H (W * H)) ok' (tu W H i) (tu W H j) := by
  induction h with
  | refl h => exact .refl (ho _ h)
  | step hj hn h ih => exact .step ih (tu_nb hW (hk _ hj.right) hn) (ho _ h)

end Go.Proofs.Ytiihenhddleooac

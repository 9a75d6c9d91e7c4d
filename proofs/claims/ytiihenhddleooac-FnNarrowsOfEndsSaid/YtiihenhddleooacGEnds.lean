/- A field of two cells or more has two cells that are no narrows. -/
import Derived.Test.YtiihenhddleooacGNar
namespace Go.Proofs.Ytiihenhddleooac
open Go.RowKit
set_option linter.unusedVariables false
set_option linter.unusedSimpArgs false
section
variable {n : Nat} {nb : Nat → List Nat} {ok : Nat → Bool} {fs gs : List Int} {a : Nat}
/-- cells found one after another, the newest first -/
inductive Tr (nb : Nat → List Nat) (ok : Nat → Bool) (a : Nat) : List Nat → Prop
  | one : ok a = true → Tr nb ok a [a]
  | add {l : List Nat} {x y : Nat} : Tr nb ok a l → y ∉ l → ok y = true → x ∈ l → y ∈ nb x → Tr nb ok a (y :: l)
theorem Tr.first {l : List Nat} (t : Tr nb ok a l) : a ∈ l := by
  induction t with
  | one _ => simp
  | add _ _ _ _ _ ih => exact List.mem_cons_of_mem _ ih
theorem Tr.oks {l : List Nat} (t : Tr nb ok a l) : ∀ x ∈ l, ok x = true := by
  induction t with
  | one h => intro x hx; simp at hx; rw [hx]; exact h
  | add _ _ h _ _ ih =>
    intro x hx
    rcases List.mem_cons.1 hx with rfl | hx
    · exact h
    · exact ih x hx
theorem Tr.nodup {l : List Nat} (t : Tr nb ok a l) : l.Nodup := by
  induction t with
  | one _ => simp
  | add _ h _ _ _ ih => exact List.nodup_cons.2 ⟨h, ih⟩
theorem Tr.rch {l : List Nat} (t : Tr nb ok a l) {v : Nat} (hv : v ∉ l) : ∀ x ∈ l, Rch nb (okW ok v) a x := by
  induction t with
  | one h =>
    intro x hx
    simp at hx hv
    rw [hx]
    exact .refl (okW_iff.2 ⟨h, fun e => hv e.symm⟩)
  | add _ _ h hx hy ih =>
    rw [List.mem_cons, not_or] at hv
    intro z hz
    rcases List.mem_cons.1 hz with rfl | hz
    · exact .step (ih hv.2 _ hx) hy (okW_iff.2 ⟨h, fun e => hv.1 e.symm⟩)
    · exact ih hv.2 z hz
theorem Tr.out {l : List Nat} (t : Tr nb ok a l) {y : Nat} (h : Rch nb ok a y) (hy : y ∉ l) : ∃ z, Tr nb ok a (z :: l) := by
  induction h with
  | refl _ => exact absurd t.first hy
  | @step j k hj hk ho ih =>
    by_cases hm : j ∈ l
    · exact ⟨k, t.add hy ho hm hk⟩
    · exact ih hm
theorem Tr.full (hk : ∀ i, ok i = true → i < n) : ∀ (m : Nat) (l : List Nat), Tr nb ok a l → n ≤ l.length + m → ∃ l, Tr nb ok a l ∧ ∀ x, Rch nb ok a x → x ∈ l
  | 0, l, t, h => by
    refine ⟨l, t, fun x hx => Classical.byContradiction fun hn => ?_⟩
    obtain ⟨z, t2⟩ := t.out hx hn
    have := nodup_lt_len t2.nodup fun x hx => hk x (t2.oks x hx)
    rw [List.length_cons] at this
    omega
  | m + 1, l, t, h => by
    by_cases hc : ∀ x, Rch nb ok a x → x ∈ l
    · exact ⟨l, t, hc⟩
    · obtain ⟨x, hx⟩ := Classical.not_forall.1 hc
      obtain ⟨hx1, hx2⟩ := Classical.not_imp.1 hx
      obtain ⟨z, t2⟩ := t.out hx1 hx2
      exact Tr.full hk m _ t2 (by rw [List.length_cons]; omega)
/-- the last cell found: the others are reached without it -/
theorem far_cell (hk : ∀ i, ok i = true → i < n) (ha : ok a = true) : ∃ b, Rch nb ok a b ∧ (∀ x, Rch nb ok a x → x ≠ b → Rch nb (okW ok b) a x) ∧ (b = a → ∀ x, Rch nb ok a x → x = a) := by
  obtain ⟨l, t, hc⟩ := Tr.full (n := n) hk n [a] (.one ha) (by simp)
  cases t with
  | one _ => exact ⟨a, .refl ha, fun x hx hn => by have := hc x hx; simp at this; exact absurd this hn, fun _ x hx => by have := hc x hx; simp at this; exact this⟩
  | @add l x y t hy ho hx hxy =>
    have hl := t.rch hy
    refine ⟨y, .step ((hl x hx).less) hxy ho, fun z hz hn => ?_, fun e => absurd (e ▸ t.first) hy⟩
    rcases List.mem_cons.1 (hc z hz) with rfl | h
    · exact absurd rfl hn
    · exact hl z h
theorem okW_lt (hk : ∀ i, ok i = true → i < n) {b : Nat} : ∀ i, okW ok b i = true → i < n := fun i h => hk i (okW_iff.1 h).1
theorem far_no (G : Gr n nb) (hk : ∀ i, ok i = true → i < n) (L : Lab n nb ok fs) {b : Nat} (hab : Rch nb ok a b) (hf : ∀ x, Rch nb ok a x → x ≠ b → Rch nb (okW ok b) a x) : ¬ MoreF n nb ok fs b := by
  rintro ⟨gs, M, hlt⟩
  have h0 := hi_ge gs
  have hex : ∀ c : Int, ∃ j, 0 ≤ c → c ≤ hi gs → at_ gs j = c := fun c => by
    by_cases hc : 0 ≤ c ∧ c ≤ hi gs
    · obtain ⟨j, _, hj⟩ := M.occ hc.1 hc.2
      exact ⟨j, fun _ _ => hj⟩
    · exact ⟨0, fun h1 h2 => absurd ⟨h1, h2⟩ hc⟩
  obtain ⟨g, hg⟩ := Classical.axiomOfChoice hex
  have hok : ∀ c, 0 ≤ c → c ≤ hi gs → ok (g c) = true ∧ g c ≠ b := fun c h1 h2 => by
    have := hg c h1 h2
    exact okW_iff.1 (M.okp.2 (by omega))
  have := M.inj L g (fun c h1 h2 => L.pos _ (hok c h1 h2).1) (fun c d h1 h2 h3 h4 e => by
    have hcd := L.sep _ _ (L.pos _ (hok c h1 h2).1) e
    have hr : Rch nb (okW ok b) (g c) (g d) := by
      by_cases hin : Rch nb ok (g c) b
      · have hac : Rch nb ok a (g c) := hab.trans (hin.symm G hk)
        exact ((hf _ hac (hok c h1 h2).2).symm G (okW_lt hk)).trans (hf _ (hac.trans hcd) (hok d h3 h4).2)
      · exact hcd.avoid hin
    have e2 := M.con _ _ hr
    rw [hg c h1 h2, hg d h3 h4] at e2
    exact e2)
  omega
/-- in each field a cell that is no narrow, and two if it has two cells -/
theorem ends_two (G : Gr n nb) (hk : ∀ i, ok i = true → i < n) (L : Lab n nb ok fs) {ys : List Nat} (N : IsNar n nb ok fs n ys) {c : Int} (h0 : 0 ≤ c) (hc : c ≤ hi fs) :
    ∃ b, b < n ∧ at_ fs b = c ∧ b ∉ ys ∧ ((∀ x, at_ fs x = c → x = b) ∨ ∃ d, d < n ∧ d ≠ b ∧ at_ fs d = c ∧ d ∉ ys) := by
  obtain ⟨a, _, ha⟩ := L.occ h0 hc
  have hoka := L.okp.2 (show 0 ≤ at_ fs a by omega)
  obtain ⟨b, hab, hf, h1⟩ := far_cell (nb := nb) (n := n) hk hoka
  have hlb := (L.con _ _ hab).symm.trans ha
  have hnb : b ∉ ys := fun h => far_no G hk L hab hf ((N.mem b).1 h).2.2
  refine ⟨b, hk _ hab.right, hlb, hnb, ?_⟩
  obtain ⟨d, hbd, hfd, h2⟩ := far_cell (nb := nb) (n := n) hk hab.right
  have hld := (L.con _ _ hbd).symm.trans hlb
  have hnd : d ∉ ys := fun h => far_no G hk L hbd hfd ((N.mem d).1 h).2.2
  by_cases e : d = b
  · left
    intro x hx
    exact h2 e x (L.sep _ _ (by omega) (by omega))
  · exact .inr ⟨d, hk _ hbd.right, e, hld, hnd⟩
end
/-- how many below m -/
def cntP (P : Nat → Bool) (m : Nat) : Nat := ((List.range m).filter P).length
theorem cntP_zero (P : Nat → Bool) : cntP P 0 = 0 := rfl
theorem cntP_succ (P : Nat → Bool) (m : Nat) : cntP P (m + 1) = cntP P m + if P m = true then 1 else 0 := by
  unfold cntP
  rw [List.range_succ, List.filter_append, List.length_append]
  cases h : P m <;> simp [h]
theorem cntP_le (P : Nat → Bool) (m : Nat) : cntP P m ≤ m := by
  have := List.length_filter_le P (List.range m)
  rw [List.length_range] at this
  exact this
theorem cntP_one {P : Nat → Bool} {m b : Nat} (hb : b < m) (h : P b = true) : 1 ≤ cntP P m :=
  List.length_pos_of_mem (List.mem_filter.2 ⟨List.mem_range.2 hb, h⟩)
theorem cntP_two {P : Nat → Bool} {m b d : Nat} (hb : b < m) (hd : d < m) (hne : d ≠ b) (h : P b = true) (h' : P d = true) : 2 ≤ cntP P m := by
  have := inj_len [b, d] ((List.range m).filter P) id (by simp; omega) (fun x hx => by
    simp at hx
    rcases hx with rfl | rfl
    · exact List.mem_filter.2 ⟨List.mem_range.2 hb, h⟩
    · exact List.mem_filter.2 ⟨List.mem_range.2 hd, h'⟩) (fun _ _ _ _ e => e)
  simpa [cntP] using this
theorem cntP_only {P : Nat → Bool} {m b : Nat} (h : ∀ x, P x = true → x = b) : cntP P m ≤ 1 := by
  have := inj_len ((List.range m).filter P) [b] id (List.nodup_range.filter _) (fun x hx => by
    have := h x (List.mem_filter.1 hx).2
    simp [this]) (fun _ _ _ _ e => e)
  simpa [cntP] using this
theorem count_P (fs : List Int) (z : Int) : ∀ m, m ≤ fs.length → (fs.take m).count z = cntP (fun i => decide (at_ fs i = z)) m
  | 0, _ => by simp [cntP_zero]
  | m + 1, h => by
    rw [cntP_succ, ← count_P fs z m (by omega)]
    have e := of_at (fs := fs) (i := m) (by omega)
    rw [take_snoc e, List.count_append]
    congr 1
    by_cases hz : at_ fs m = z
    · rw [hz]; simp
    · simp [hz]
theorem sz_at {fs : List Int} {c : Nat} (h : c < (szF fs).length) : at_ (szF fs) c = ((cntP (fun i => decide (at_ fs i = (c : Int))) fs.length : Nat) : Int) := by
  unfold szF at h ⊢
  rw [szT_len] at h
  rw [szT_at h, count_P _ _ _ (Nat.le_refl _)]
/-- the law's count -/
def endP (fs ts : List Int) (c : Nat) (i : Nat) : Bool := decide (at_ fs i = (c : Int)) && !memB ts (i : Int)
theorem ends_enough {pp : List (List Int)} {load : Int} {ts ss fs : List Int} {c : Nat} (hv : pondB pp = true) (ht : NarR pp load ts) (hs : SizesR pp load ss) (hf : Lab (cnt pp) (nbP pp) (okF pp load) fs) (hc : c < ss.length) :
    ((cntP (endP fs ts c) (cnt pp) : Nat) : Int) ≥ min 2 (at_ ss c) := by
  obtain ⟨fs1, ys, L, N, rfl⟩ := nar_rel ht hv
  obtain rfl := hf.uniq L
  obtain ⟨fs2, L2, rfl⟩ := sizes_rel hs hv
  obtain rfl := hf.uniq L2
  have hl : ((szF fs).length : Int) = hi fs + 1 := sz_len
  rw [sz_at hc]
  obtain ⟨b, hb, hlb, hnb, h⟩ := ends_two (gr_pond hv) (fun i hi => okF_lt i hi) L N (c := (c : Int)) (by omega) (by omega)
  have hP : ∀ x, at_ fs x = (c : Int) → x ∉ ys → endP fs (nats ys) c x = true := fun x h1 h2 => by
    unfold endP memB
    rw [decide_eq_true h1, decide_eq_false (fun h => h2 (nats_mem.1 h))]; rfl
  have h1 := cntP_one hb (hP b hlb hnb)
  rcases h with h | ⟨d, hd, hne, hld, hnd⟩
  · have := cntP_only (P := fun i => decide (at_ fs i = (c : Int))) (m := fs.length) (b := b) (fun x hx => h x (of_decide_eq_true hx))
    omega
  · have := cntP_two hb hd hne (hP b hlb hnb) (hP d hld hnd)
    omega

end Go.Proofs.Ytiihenhddleooac

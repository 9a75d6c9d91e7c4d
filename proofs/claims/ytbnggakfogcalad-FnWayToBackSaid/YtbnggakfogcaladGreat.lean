/- Contracts of GreatestLoad, of the program and of the model. -/
import Derived.Test.YtbnggakfogcaladWayToS
namespace Go.Proofs.Ytbnggakfogcalad
open Go.RowKit
set_option linter.unusedVariables false
set_option linter.unusedSimpArgs false
section
variable {pp : List (List Int)} {a b : Nat}
theorem okF_mono {l l' : Int} (h : l' ≤ l) : ∀ i, okF pp l i = true → okF pp l' i = true := fun i hi => by
  unfold okF at *
  simp only [Bool.and_eq_true, decide_eq_true_eq] at *
  exact ⟨hi.1, by omega⟩
theorem okF_le {l : Int} {i : Nat} (h : okF pp l i = true) : l ≤ thk pp i * thk pp i := by
  unfold okF at h
  simp only [Bool.and_eq_true, decide_eq_true_eq] at h
  exact h.2
def RchL (pp : List (List Int)) (a b : Nat) (l : Int) : Prop := Rch (nbP pp) (okF pp l) a b
theorem RchL.down {l l' : Int} (h : RchL pp a b l) (hl : l' ≤ l) : RchL pp a b l' := h.mono (okF_mono hl)
def ldF (t : Int) : Int := if t < 900000 then t else 900000
theorem ldF_le (t : Int) : ldF t ≤ t ∧ ldF t ≤ 900000 := by unfold ldF; split <;> omega
theorem ldF_ge {t l : Int} (h : l ≤ t) (h2 : l ≤ 900000) : l ≤ ldF t := by unfold ldF; split <;> omega
theorem RchL.cell {l : Int} (hl : l ≤ 900000) (h : RchL pp a b l) : ∃ i, i < cnt pp ∧ l ≤ ldF (thk pp i * thk pp i) ∧ RchL pp a b (ldF (thk pp i * thk pp i)) := by
  unfold RchL at h
  induction h with
  | refl h =>
    refine ⟨a, okF_lt a h, ldF_ge (okF_le h) hl, .refl ?_⟩
    unfold okF
    simp only [Bool.and_eq_true, decide_eq_true_eq]
    exact ⟨okF_lt a h, (ldF_le _).1⟩
  | @step j k _ h1 h2 ih =>
    obtain ⟨q, hq, hl2, hr⟩ := ih
    have hk := okF_lt k h2
    by_cases hc : ldF (thk pp k * thk pp k) ≤ ldF (thk pp q * thk pp q)
    · refine ⟨k, hk, ldF_ge (okF_le h2) hl, (hr.down hc).step h1 ?_⟩
      unfold okF
      simp only [Bool.and_eq_true, decide_eq_true_eq]
      exact ⟨hk, (ldF_le _).1⟩
    · refine ⟨q, hq, hl2, Rch.step hr h1 ?_⟩
      unfold okF
      simp only [Bool.and_eq_true, decide_eq_true_eq]
      have := (ldF_le (thk pp k * thk pp k)).1
      exact ⟨hk, by omega⟩
structure IsGL (pp : List (List Int)) (a b : Nat) (z : Int) : Prop where
  lo : 0 ≤ z
  up : z ≤ 900000
  thru : z = 0 ∨ RchL pp a b z
  top : ∀ l, z < l → l ≤ 900000 → ¬ RchL pp a b l
theorem IsGL.uniq {y z : Int} (h : IsGL pp a b y) (g : IsGL pp a b z) : y = z := by
  rcases Int.lt_trichotomy y z with e | e | e
  · rcases g.thru with h0 | h0
    · have := h.lo; omega
    · exact absurd h0 (h.top z e g.up)
  · exact e
  · rcases h.thru with h0 | h0
    · have := g.lo; omega
    · exact absurd h0 (g.top y e h.up)
theorem Lab.rch {n : Nat} {nb : Nat → List Nat} {ok : Nat → Bool} {fs : List Int} (h : Lab n nb ok fs) : Rch nb ok a b ↔ 0 ≤ at_ fs a ∧ at_ fs a = at_ fs b :=
  ⟨fun hr => ⟨h.pos a hr.left, h.con a b hr⟩, fun ⟨h1, h2⟩ => h.sep a b h1 h2⟩
end
def OutQ (P : Prop) (w : World) (e : Ending) (w' : World) : Prop := ∃ q : Bool, e = .returned (.bool q) ∧ (q = true ↔ P) ∧ Below w.heap.size w w'
def OutGL (pp : List (List Int)) (a b : Nat) (w : World) (e : Ending) (w' : World) : Prop := ∃ z, e = .returned (.int .i64 z) ∧ IsGL pp a b z ∧ Below w.heap.size w w'
set_option maxRecDepth 100000 in
set_option maxHeartbeats 800000 in
theorem getsThrough_any (pp : List (List Int)) (A : Option Addr) (c : Nat) (w : World) (hp : Pnd w w.heap.size A pp) (load : Int) (a b : Nat) (ha : a < cnt pp) (hb : b < cnt pp) :
    Calls Try.prog 93 #[.slice A pp.length c, .int .i64 load, .int .i64 a, .int .i64 b] w (OutQ (RchL pp a b load) w) := by
  have hc := pond_cnt hp.1
  go_enter Try.func93, Try.ntmps93
  go_wp2_with fail
  refine (iFields_ok pp A c w hp load).mono ?_
  rintro e w1 ⟨fs, hlab, A1, c1, hl1, rfl, o1, b1⟩
  obtain ⟨g, rfl, hg, hgl, _, _⟩ := own_some o1 (by omega)
  have hca := own_cell o1 (ints_at' (zs := fs) (k := a) (by rw [hl1]; exact ha))
  have hcb := own_cell o1 (ints_at' (zs := fs) (k := b) (by rw [hl1]; exact hb))
  have HR : Hid (RchL pp a b load ↔ 0 ≤ at_ fs a ∧ at_ fs a = at_ fs b) := Lib.hid hlab.rch
  have HB := Lib.hid b1
  clear hlab o1 b1 hl1
  generalize at_ fs a = x at *
  generalize at_ fs b = y at *
  by_cases h0 : 0 ≤ x
  · have h0b : decide (0 ≤ x) = true := decide_eq_true h0
    by_cases he : x = y
    · have heb : (x == y) = true := beq_iff_eq.2 he
      have hRR : Hid (RchL pp a b load) := Lib.hid (HR.out.2 ⟨h0, he⟩)
      subst he
      go_wp2
      refine wp_region_quiet_lit (by kernel_rfl) (by kernel_rfl) ?_
      repeat (go_big_quiet_step (fail))
      refine wpQuiet_nil ?_
      intro _ hw'
      obtain ⟨nq, hw''⟩ := hw'
      subst hw''
      go_wp2
      go_ret
      exact ⟨_, rfl, by simp [hRR.out], below_drewN HB.out _⟩
    · have heb : (x == y) = false := beq_eq_false_iff_ne.2 he
      have hRR : Hid (¬ RchL pp a b load) := Lib.hid (fun h => he (HR.out.1 h).2)
      go_wp2
      refine wp_region_quiet_lit (by kernel_rfl) (by kernel_rfl) ?_
      repeat (go_big_quiet_step (fail))
      refine wpQuiet_nil ?_
      intro _ hw'
      obtain ⟨nq, hw''⟩ := hw'
      subst hw''
      go_wp2
      go_ret
      exact ⟨false, rfl, by simp [hRR.out], below_drewN HB.out _⟩
  · have h0b : decide (0 ≤ x) = false := decide_eq_false h0
    have hRR : Hid (¬ RchL pp a b load) := Lib.hid (fun h => h0 (HR.out.1 h).1)
    go_wp2
    refine wp_region_quiet_lit (by kernel_rfl) (by kernel_rfl) ?_
    repeat (go_big_quiet_step (fail))
    refine wpQuiet_nil ?_
    intro _ hw'
    obtain ⟨nq, hw''⟩ := hw'
    subst hw''
    go_wp2
    go_ret
    exact ⟨false, rfl, by simp [hRR.out], below_drewN HB.out _⟩
set_option maxRecDepth 100000 in
set_option maxHeartbeats 1000000 in
theorem iGreat_ok (pp : List (List Int)) (A : Option Addr) (c : Nat) (w : World) (hp : Pnd w w.heap.size A pp) (a b : Nat) (ha : a < cnt pp) (hb : b < cnt pp) :
    Calls Try.prog 46 #[.slice A pp.length c, .int .i64 a, .int .i64 b] w (OutGL pp a b w) := by
  have hg := hp.2
  have Hv := Lib.hid hp.1
  have hc := pond_cnt hp.1
  have Hf : Hid (inB (a : Int) 0 ((cnt pp : Nat) - 1) = true) := Lib.hid (inB_mk (by omega))
  have Ht : Hid (inB (b : Int) 0 ((cnt pp : Nat) - 1) = true) := Lib.hid (inB_mk (by omega))
  go_enter Try.func46, Try.ntmps46
  go_wp2_with fail
  refine (iVal_is _ _ _ _ _ hg Hv.out).mono ?_
  rintro e w' ⟨rfl, rfl⟩
  go_wp2_with fail
  refine (vc_is hp Hf.out).mono ?_
  rintro e w' ⟨rfl, rfl⟩
  go_wp2_with fail
  refine (vc_is hp Ht.out).mono ?_
  rintro e w' ⟨rfl, rfl⟩
  go_wp2
  go_loopw [7, 8] (fun lo hi wr => ∃ l h : Int, lo = .int .i64 l ∧ hi = .int .i64 h ∧ 0 ≤ l ∧ l ≤ h ∧ h ≤ 900000 ∧ (l = 0 ∨ RchL pp a b l) ∧ (∀ q, h < q → q ≤ 900000 → ¬ RchL pp a b q) ∧ Below w.heap.size w wr) (fun lo hi _ => (intOf hi - intOf lo).toNat)
  case atStart => exact ⟨0, 900000, rfl, rfl, by omega, by omega, by omega, .inl rfl, fun q h1 h2 => by omega, Below.refl _ _⟩
  case round =>
    obtain ⟨l, h, rfl, rfl, hl, hlh, hh, hthru, htop, hbel⟩ := hrel
    have HT := Lib.hid hthru
    have HP := Lib.hid htop
    have hpr := hp.up hbel
    clear hthru htop
    have m1 : 0 ≤ (l + h + 1) / 2 := by omega
    have m2 : (l + h + 1) / 2 ≤ 900001 := by omega
    by_cases hlt : l < h
    · go_wp2_with fail
      refine (getsThrough_any pp A c wr hpr _ a b ha hb).mono ?_
      rintro e w2 ⟨q, rfl, hq, b2⟩
      have HQ := Lib.hid hq
      have hb2 := hbel.trans (b2.mono hbel.size)
      clear hq b2 hbel hpr
      cases q
      · go_wp2
        go_roundw
        case rel => exact ⟨l, (l + h + 1) / 2 - 1, rfl, rfl, hl, by omega, by omega, HT.out, fun q h1 h2 hr => absurd (HQ.out.2 (hr.down (by omega))) (by simp), hb2⟩
        case measure => simp [intOf]; omega
      · go_wp2
        go_roundw
        case rel => exact ⟨(l + h + 1) / 2, h, rfl, rfl, m1, by omega, hh, .inr (HQ.out.1 (by simp)), HP.out, hb2⟩
        case measure => simp [intOf]; omega
    · obtain rfl : l = h := by omega
      have R : OutGL pp a b w (.returned (.int .i64 l)) wr := ⟨l, rfl, ⟨hl, hh, HT.out, HP.out⟩, hbel⟩
      have HR := Lib.hid R
      clear R hbel hpr
      go_wp2
      go_ret
      exact HR.out
def GlRel (pp : List (List Int)) (w wr : World) (a b : Nat) (v i : Value) : Prop :=
  ∃ (k : Nat) (z : Int), k ≤ cnt pp ∧ i = .int .i64 k ∧ v = .int .i64 z ∧ 0 ≤ z ∧ z ≤ 900000 ∧ (z = 0 ∨ RchL pp a b z) ∧ (∀ q, q < k → RchL pp a b (ldF (thk pp q * thk pp q)) → ldF (thk pp q * thk pp q) ≤ z) ∧ Below w.heap.size w wr
theorem gl_step {pp : List (List Int)} {a b k : Nat} {z z' : Int} (h : ∀ q, q < k → RchL pp a b (ldF (thk pp q * thk pp q)) → ldF (thk pp q * thk pp q) ≤ z) (hz : z ≤ z') (hk : RchL pp a b (ldF (thk pp k * thk pp k)) → ldF (thk pp k * thk pp k) ≤ z') :
    ∀ q, q < k + 1 → RchL pp a b (ldF (thk pp q * thk pp q)) → ldF (thk pp q * thk pp q) ≤ z' := fun q hq hr => by
  rcases Nat.lt_or_ge q k with g | g
  · have := h q g hr; omega
  · obtain rfl : q = k := by omega
    exact hk hr
def OutNo (w : World) (e : Ending) (w' : World) : Prop := e = .returned (.int .i64 (-1)) ∧ Below w.heap.size w w'
set_option maxRecDepth 100000 in
set_option maxHeartbeats 800000 in
theorem iGreat_no (pp : List (List Int)) (A : Option Addr) (c : Nat) (w : World) (hg : RdG w w.heap.size A pp) (f t : Int) (hv : pondB pp = false ∨ inB f 0 ((cnt pp : Nat) - 1) = false ∨ inB t 0 ((cnt pp : Nat) - 1) = false) :
    Calls Try.prog 46 #[.slice A pp.length c, .int .i64 f, .int .i64 t] w (OutNo w) := by
  cases hpb : pondB pp
  · have Hv := Lib.hid hpb
    clear hpb hv
    go_enter Try.func46, Try.ntmps46
    go_wp2_with (go_at_call 23; refine (iVal_is _ _ _ _ _ hg Hv.out).mono ?_; rintro e w' ⟨rfl, rfl⟩)
    go_ret
    exact ⟨rfl, Below.refl _ _⟩
  · have Hv := Lib.hid hpb
    have hp : Pnd w w.heap.size A pp := ⟨hpb, hg⟩
    cases hf : inB f 0 ((cnt pp : Nat) - 1)
    · have Hf := Lib.hid hf
      clear hpb hv hf
      go_enter Try.func46, Try.ntmps46
      go_wp2_with (first | (go_at_call 23; refine (iVal_is _ _ _ _ _ hg Hv.out).mono ?_; rintro e w' ⟨rfl, rfl⟩) | (go_at_call 70; refine (vc_is hp Hf.out).mono ?_; rintro e w' ⟨rfl, rfl⟩))
      go_ret
      exact ⟨rfl, Below.refl _ _⟩
    · have Hf := Lib.hid hf
      have Ht : Hid (inB t 0 ((cnt pp : Nat) - 1) = false) := Lib.hid (by rcases hv with h | h | h; rw [hpb] at h; cases h; rw [hf] at h; cases h; exact h)
      clear hpb hv hf
      go_enter Try.func46, Try.ntmps46
      go_wp2_with fail
      refine (iVal_is _ _ _ _ _ hg Hv.out).mono ?_
      rintro e w' ⟨rfl, rfl⟩
      go_wp2_with fail
      refine (vc_is hp Hf.out).mono ?_
      rintro e w' ⟨rfl, rfl⟩
      go_wp2_with fail
      refine (vc_is hp Ht.out).mono ?_
      rintro e w' ⟨rfl, rfl⟩
      go_wp2
      go_ret
      exact ⟨rfl, Below.refl _ _⟩
end Go.Proofs.Ytbnggakfogcalad

/- Most cakes of a turned field (pure). -/
import Derived.Test.YtiihenhddleooacGMostM
namespace Go.Proofs.Ytiihenhddleooac
open Go.RowKit
set_option linter.unusedVariables false
set_option linter.unusedSimpArgs false
def turnR (ff : List (List Bool)) (x : Nat) : List Bool := (List.range ff.length).map fun y => ice ff y x
def turnF (ff : List (List Bool)) : List (List Bool) := (List.range (wideB ff)).map (turnR ff)
def TR (ff gg : List (List Bool)) : Prop := gg.length = wideB ff ∧ wideB gg = ff.length ∧ ∀ x y, x < wideB ff → y < ff.length → ice gg x y = ice ff y x
theorem TR.symm {ff gg : List (List Bool)} (h : TR ff gg) : TR gg ff := ⟨h.2.1.symm, h.1.symm, fun x y hx hy => (h.2.2 y x (by rw [← h.1]; exact hy) (by rw [← h.2.1]; exact hx)).symm⟩
theorem TR.whole {ff gg : List (List Bool)} (hr : TR ff gg) {w h x y : Nat} (hq : wholeB ff w h x y = true) : wholeB gg h w y x = true := by
  rw [wholeB_iff] at hq ⊢
  obtain ⟨⟨h1, h2⟩, h3⟩ := hq
  refine ⟨⟨by rw [hr.1]; exact h2, by rw [hr.2.1]; exact h1⟩, fun j hj i hi => ?_⟩
  rw [hr.2.2 (x + j) (y + i) (by omega) (by omega)]
  exact h3 i hi j hj
theorem turn_le {ff gg : List (List Bool)} {w h : Nat} (hr : TR ff gg) (hl : 1 ≤ ff.length ∧ ff.length ≤ 5) (hwd : 1 ≤ wideB ff ∧ wideB ff ≤ 5) (hw1 : 1 ≤ w) (hh1 : 1 ≤ h) : mostG w h ff (ff.length * wideB ff) 0 ≤ mostG h w gg (gg.length * wideB gg) 0 := by
  obtain ⟨L, ⟨ho1, ho2⟩, hb, he⟩ := most_ex w h (ff.length * wideB ff) 0 ff hl hwd.2
  rw [← he]
  have hin : ∀ b ∈ L, b % wideB ff + w ≤ wideB ff ∧ b / wideB ff + h ≤ ff.length := fun b hb' => by
    have := (wholeB_iff.1 (ho1 b hb')).1; omega
  have hd : ∀ b ∈ L, (b % wideB ff * wideB gg + b / wideB ff) % wideB gg = b / wideB ff ∧ (b % wideB ff * wideB gg + b / wideB ff) / wideB gg = b % wideB ff := fun b hb' => by
    have h1 := hin b hb'
    rw [hr.2.1]
    constructor
    · rw [Nat.add_comm, Nat.add_mul_mod_self_right]
      exact Nat.mod_eq_of_lt (by omega)
    · rw [Nat.add_comm, Nat.add_mul_div_right _ _ (by omega), Nat.div_eq_of_lt (by omega), Nat.zero_add]
  have := most_ge h w hh1 hw1 (gg.length * wideB gg) 0 gg (L.map fun b => b % wideB ff * wideB gg + b / wideB ff) ⟨by rw [hr.1]; omega, by rw [hr.1]; omega⟩ (by rw [hr.2.1]; omega) ⟨fun b hb' => ?_, ?_⟩ (fun b hb' => ?_)
  · rw [List.length_map] at this; exact this
  · obtain ⟨c, hc, rfl⟩ := List.mem_map.1 hb'
    rw [(hd c hc).1, (hd c hc).2]
    exact hr.whole (ho1 c hc)
  · rw [List.pairwise_map]
    refine List.Pairwise.imp_of_mem ?_ ho2
    intro b c hb' hc' hz
    have h1 := hin b hb'
    have h2 := hin c hc'
    have d1 := hd b hb'
    have d2 := hd c hc'
    rw [d1.1, d1.2, d2.1, d2.2]
    rw [mS_apart (by omega) (by omega)] at hz ⊢
    unfold overB at hz ⊢
    rw [decide_eq_false_iff_not] at hz ⊢
    simp only at hz ⊢
    omega
  · obtain ⟨c, hc, rfl⟩ := List.mem_map.1 hb'
    have h1 := hin c hc
    refine ⟨Nat.zero_le _, ?_⟩
    rw [hr.1, hr.2.1]
    have : (c % wideB ff + 1) * ff.length ≤ wideB ff * ff.length := Nat.mul_le_mul_right _ (by omega)
    rw [Nat.add_mul, Nat.one_mul] at this
    omega
theorem turn_eq {ff gg : List (List Bool)} {w h : Nat} (hr : TR ff gg) (hl : 1 ≤ ff.length ∧ ff.length ≤ 5) (hwd : 1 ≤ wideB ff ∧ wideB ff ≤ 5) (hw1 : 1 ≤ w) (hh1 : 1 ≤ h) : mostG h w gg (gg.length * wideB gg) 0 = mostG w h ff (ff.length * wideB ff) 0 := by
  have h1 := turn_le hr hl hwd hw1 hh1
  have h2 := turn_le (ff := gg) (gg := ff) (w := h) (h := w) hr.symm (by rw [hr.1]; exact hwd) (by rw [hr.2.1]; exact hl) hh1 hw1
  omega
theorem turnF_len (ff : List (List Bool)) : (turnF ff).length = wideB ff := by simp [turnF]
theorem turnR_len (ff : List (List Bool)) (x : Nat) : (turnR ff x).length = ff.length := by simp [turnR]
theorem turnF_get {ff : List (List Bool)} {x : Nat} (hx : x < wideB ff) : (turnF ff).getD x [] = turnR ff x := by
  unfold turnF
  rw [List.getD_eq_getElem?_getD, List.getElem?_map, List.getElem?_range hx]
  rfl
theorem turnF_wide {ff : List (List Bool)} (h : 1 ≤ wideB ff) : wideB (turnF ff) = ff.length := by
  unfold wideB
  rw [turnF_get (by omega), turnR_len]
theorem turnF_TR {ff : List (List Bool)} (h : 1 ≤ wideB ff) : TR ff (turnF ff) := ⟨turnF_len ff, turnF_wide h, fun x y hx hy => by
  have e : ice (turnF ff) x y = (turnR ff x).getD y false := by unfold ice; rw [turnF_get hx]
  rw [e]
  unfold turnR
  rw [List.getD_eq_getElem?_getD, List.getElem?_map, List.getElem?_range hy]
  rfl⟩
theorem turnF_ok {ff : List (List Bool)} (hl : 1 ≤ ff.length ∧ ff.length ≤ 9) (hw : 1 ≤ wideB ff ∧ wideB ff ≤ 9) : fieldB (turnF ff) = true := by
  unfold fieldB
  rw [Bool.and_eq_true, decide_eq_true_eq, turnF_len, turnF_wide hw.1]
  refine ⟨hw, ?_⟩
  unfold rowsF
  rw [List.all_eq_true]
  intro r hr
  unfold turnF at hr
  obtain ⟨x, _, rfl⟩ := List.mem_map.1 hr
  rw [decide_eq_true_eq, turnR_len]
  exact ⟨rfl, hl.1, hl.2⟩
theorem turnR_snoc (ff : List (List Bool)) {x k : Nat} (hk : k < ff.length) : (turnR ff x).take (k + 1) = (turnR ff x).take k ++ [ice ff k x] := by
  refine take_snoc ?_
  unfold turnR
  rw [List.getElem?_map, List.getElem?_range hk]
  rfl
theorem turnF_snoc (ff : List (List Bool)) {k : Nat} (hk : k < wideB ff) : (turnF ff).take (k + 1) = (turnF ff).take k ++ [turnR ff k] := by
  refine take_snoc ?_
  unfold turnF
  rw [List.getElem?_map, List.getElem?_range hk]
  rfl
/-- the law's value -/
theorem mostT_turn {ff : List (List Bool)} {a h : Int} (hm : smallB ff a h = true) : mostT (turnF ff) h a = mostT ff a h ∧ 0 ≤ mostT ff a h ∧ fieldB ff = true := by
  have hm' := hm
  unfold smallB at hm'
  rw [Bool.and_eq_true, Bool.and_eq_true, Bool.and_eq_true, Bool.and_eq_true, decide_eq_true_eq, decide_eq_true_eq] at hm'
  obtain ⟨⟨hv, h5, w5⟩, hs, h1⟩ := hm'
  obtain ⟨⟨s1, s2⟩, s3, s4⟩ := sidesB_t hs
  obtain ⟨_, _, _, _, M, _, -, -, hM, -⟩ := most_sum hm
  refine ⟨?_, by rw [hM]; omega, hv⟩
  obtain ⟨cw, rfl⟩ := Int.eq_ofNat_of_zero_le (show 0 ≤ a by omega)
  obtain ⟨ch, rfl⟩ := Int.eq_ofNat_of_zero_le (show 0 ≤ h by omega)
  have hl := field_len hv
  have hwd := field_wide hv
  have hv2 := turnF_ok (ff := ff) hl hwd
  have hwt := turnF_wide (ff := ff) hwd.1
  have hs2 : sidesB (ch : Int) (cw : Int) = true := by
    unfold sidesB at hs ⊢
    rw [Bool.and_eq_true] at hs ⊢
    exact ⟨hs.2, hs.1⟩
  have hm2 : smallB (turnF ff) (ch : Int) (cw : Int) = true := by
    unfold smallB
    rw [hv2, hs2, decide_eq_true (by rw [turnF_len]; exact w5), decide_eq_true (by rw [hwt]; exact h5), Int.mul_comm, h1]
    rfl
  have e : mostT ff (cw : Int) (ch : Int) = mostG cw ch ff (ff.length * wideB ff) 0 := by
    rw [mostG_all hv ⟨by omega, h5⟩ ⟨by omega, w5⟩ (by omega) (by omega)]
    unfold mostT
    rw [hm]
    rfl
  have e2 : mostT (turnF ff) (ch : Int) (cw : Int) = mostG ch cw (turnF ff) ((turnF ff).length * wideB (turnF ff)) 0 := by
    rw [mostG_all hv2 ⟨by rw [turnF_len]; omega, by rw [turnF_len]; exact w5⟩ ⟨by rw [hwt]; omega, by rw [hwt]; exact h5⟩ (by omega) (by omega)]
    unfold mostT
    rw [hm2]
    rfl
  rw [e, e2]
  exact turn_eq (turnF_TR hwd.1) ⟨hl.1, h5⟩ ⟨hwd.1, w5⟩ (by omega) (by omega)

end Go.Proofs.Ytiihenhddleooac

/- The laws of chapter 7: halves of contracts, long sums. -/
import Derived.Test.YtiihenhddleooaaTIsIn
namespace Go.Proofs.Ytiihenhddleooaa
open Go.RowKit
set_option linter.unusedVariables false
set_option linter.unusedSimpArgs false
theorem payT_half {cs : List Cu} (h : okV clV cs = true) (t : Int) (m : Nat) : payT (cs.take m) t + payT (cs.drop m) t = payT cs t ∧ -200000 ≤ payT (cs.take m) t ∧ payT (cs.take m) t ≤ 200000 ∧ -200000 ≤ payT (cs.drop m) t ∧ payT (cs.drop m) t ≤ 200000 := by
  obtain ⟨h1, h2⟩ := okV_mem.1 h
  have hv1 : okV clV (cs.take m) = true := okV_mem.2 ⟨by rw [List.length_take]; omega, fun c hc => h2 c (List.mem_of_mem_take hc)⟩
  have hv2 : okV clV (cs.drop m) = true := okV_mem.2 ⟨by rw [List.length_drop]; omega, fun c hc => h2 c (List.mem_of_mem_drop hc)⟩
  by_cases ht : 0 ≤ t ∧ t ≤ 999
  · rw [payT_ok h ht, payT_ok hv1 ht, payT_ok hv2 ht, ← payR_app, List.take_append_drop]
    have a := payR_ok hv1 t
    have b := payR_ok hv2 t
    exact ⟨rfl, a.1, a.2, b.1, b.2⟩
  · have e : ∀ ds, payT ds t = 0 := fun ds => by unfold payT; rw [inB_nk ht, Bool.and_false]; rfl
    rw [e, e, e]
    omega
theorem Rd.cust_drop_ {w : World} {B b off : Nat} {cs : List Cu} (h : Rd w B (some ⟨b, off, none⟩) (custV cs)) (m : Nat) : Rd w B (some ⟨b, off + m * 3, none⟩) (custV (cs.drop m)) := fun hn => by
  obtain ⟨b', off', e, hb, hc⟩ := h (fun e => by
    have : custV (cs.drop m) = (custV cs).drop (m * 3) := (custV_drop cs m).symm
    rw [this, e] at hn
    simp at hn)
  injection e with e
  injection e with e1 e2
  subst e1 e2
  refine ⟨b, off + m * 3, rfl, hb, fun j x hj => ?_⟩
  rw [← custV_drop, List.getElem?_drop] at hj
  have := hc _ _ hj
  rw [Nat.add_assoc]
  exact this
theorem sum_bd2 : ∀ (zs : List Int) {M : Int}, 0 ≤ M → (∀ z ∈ zs, -M ≤ z ∧ z ≤ M) → -M * (zs.length : Int) ≤ zs.sum ∧ zs.sum ≤ M * (zs.length : Int)
  | [], M, _, _ => by simp
  | z :: l, M, hM, h => by
    have h1 := h z (by simp)
    have h2 := sum_bd2 l hM (fun x hx => h x (by simp [hx]))
    have e1 : -M * (((z :: l).length : Nat) : Int) = -M * (l.length : Int) + -M := by rw [List.length_cons]; push_cast; rw [Int.mul_add, Int.mul_one]
    have e2 : M * (((z :: l).length : Nat) : Int) = M * (l.length : Int) + M := by rw [List.length_cons]; push_cast; rw [Int.mul_add, Int.mul_one]
    rw [e1, e2, List.sum_cons]
    omega
set_option maxRecDepth 100000 in
set_option maxHeartbeats 400000 in
theorem total_eight (zs : List Int) (hl : zs.length = 8) (A : Option Addr) (c : Nat) (w : World) (B : Nat) (hr : Rd w B A (ints zs)) (hz : ∀ z ∈ zs, -200000 ≤ z ∧ z ≤ 200000) :
    Calls Try.prog 22 #[.slice A 8 c] w fun e w' => e = .returned (.int .i64 zs.sum) ∧ w = w' := by
  have HL := Lib.hid hl
  have HZ := Lib.hid hz
  clear hl hz
  go_enter Try.func22, Try.ntmps22
  go_wp2
  go_loop [3, 4] (fun v i => ∃ k : Nat, k ≤ 8 ∧ i = .int .i64 k ∧ v = .int .i64 (zs.take k).sum) (fun _ i => 8 - (intOf i).toNat)
  case atStart => exact ⟨0, Nat.zero_le _, rfl, rfl⟩
  case round =>
    obtain ⟨k, hk, rfl, rfl⟩ := hrel
    by_cases hlt : k < 8
    · obtain ⟨b, off, z, rfl, hb, hx, hc⟩ := hr.int_ (k := k) (by rw [HL.out]; exact hlt)
      have hzb := HZ.out z (List.mem_of_getElem? hx.out)
      have hsb := sum_bd2 (zs.take k) (M := 200000) (by omega) (fun z hh => HZ.out z (List.mem_of_mem_take hh))
      have hlen : ((zs.take k).length : Int) ≤ 8 := by rw [List.length_take]; omega
      have hsb1 : -1600000 ≤ (zs.take k).sum := by omega
      have hsb2 : (zs.take k).sum ≤ 1600000 := by omega
      obtain ⟨hz1, hz2⟩ := hzb
      clear hsb hlen
      have Hs : Hid ((zs.take (k + 1)).sum = (zs.take k).sum + z) := Lib.hid (by rw [take_snoc hx.out, List.sum_append]; simp)
      generalize (zs.take k).sum = S at *
      clear hx
      go_wp2
      go_round
      case rel => exact ⟨k + 1, by omega, by go_num, by rw [Hs.out]⟩
      case measure => simp [intOf]; omega
    · have Hk : Hid (zs.take k = zs) := Lib.hid (List.take_of_length_le (by rw [HL.out]; omega))
      go_wp2
      go_ret
      exact ⟨ret_int (by rw [Hk.out]), rfl⟩

end Go.Proofs.Ytiihenhddleooaa

/- The generator of CountFloats' arguments by a contract; two rows of cakes. -/
import Derived.Test.YtjjddamblijffabSomeC
import Derived.Test.YtjjddamblijffabCCount
import Derived.Test.YtjjddamblijffabCCountS
import Derived.Test.YtjjddamblijffabDraws
namespace Go.Proofs.Ytjjddamblijffab
open Go.RowKit
set_option linter.unusedVariables false
set_option linter.unusedSimpArgs false
theorem rows_ten {a h : Int} (ha : 1 ≤ a ∧ a ≤ 3) (hh : 1 ≤ h ∧ h ≤ 3) : countT a h [(0, 0), (a, 0), (2 * a, 0), (0, h), (a, h)] = 10 ∧ countT a h [(a, 0), (0, 0), (2 * a, 0)] = 1 := by
  have h1 : a = 1 ∨ a = 2 ∨ a = 3 := by omega
  have h2 : h = 1 ∨ h = 2 ∨ h = 3 := by omega
  rcases h1 with rfl | rfl | rfl <;> rcases h2 with rfl | rfl | rfl <;> decide +kernel
theorem rd_lit {w : World} {b : Nat} {xs : List Value} {T : TypeId} {fr : Nat × Nat} (h : w.heap[b]? = some (.cells xs.toArray T fr)) : Rd w w.heap.size (some ⟨b, 0, none⟩) xs := fun _ => by
  refine ⟨b, 0, rfl, ?_, fun k x hk => ?_⟩
  · rcases Nat.lt_or_ge b w.heap.size with hlt | hge
    · exact hlt
    · rw [Array.getElem?_eq_none hge] at h; cases h
  · rw [Nat.zero_add, cell_of_row w b k _ _ _ h]
    simpa using hk
def CDraw (w : World) (cs : List (Int × Int)) (A : Option Addr) (c : Nat) : Prop := cs.length ≤ 9 ∧ cs.length ≤ c ∧ c ≤ maxLen ∧ Rd w w.heap.size A (cakeV cs)
theorem owz_caps {w : World} {base n : Nat} {T : TypeId} {z : Nat} {A : Option Addr} {c : Nat} {xs : List Value} (o : w.ownsRow base T z (.slice A n c) n xs) : n ≤ c ∧ c ≤ maxLen := by
  rcases o.2 with ⟨h0, hz⟩ | ⟨g, cap, cur, hv, _, _, hnc, hcm, _⟩
  · injection h0 with _ q1 q2; rw [q1, q2]; exact ⟨Nat.le_refl _, Nat.zero_le _⟩
  · injection hv with _ _ q2; subst q2; exact ⟨hnc, hcm⟩
def dCountFloatsPost (w : World) (e : Ending) (w' : World) : Prop := ∃ (ks : List (Int × Int)) (Ak : Option Addr) (ck : Nat) (a h : Int), e = .returned (.tuple #[.slice Ak ks.length ck, .int .i64 a, .int .i64 h]) ∧ CDraw w' ks Ak ck ∧ (1 ≤ a ∧ a ≤ 3) ∧ (1 ≤ h ∧ h ≤ 3) ∧ Below w.heap.size w w'
set_option maxRecDepth 100000 in
set_option maxHeartbeats 1000000 in
theorem dCountFloats (cs : List Int) (A : Option Addr) (c : Nat) (w : World) (hr : Rd w w.heap.size A (bytes cs)) (hb : ∀ z ∈ cs, 0 ≤ z ∧ z ≤ 255) (hn : cs.length ≤ c) (hm : c ≤ maxLen) :
    Calls Try.prog 46 #[.slice A cs.length c] w (dCountFloatsPost w) := by
  go_enter Try.func46, Try.ntmps46
  go_wp2_with fail
  refine (newReader_any _ _ _ _ hr hb hn hm).mono ?_
  rintro e w1 ⟨g, rfl, r1, b1⟩
  have hB := r1.1
  have hsz := b1.size
  go_wp2_with fail
  refine (one_any [5,6,4,8] 4 rfl _ _ _ _ _ (r1.alloc _) (by omega) (by omega) (by omega) (alloc_at (by simp)) (by have := r1.lt; omega)).mono ?_
  rintro e w2 ⟨k, rfl, hmk, rw2, gw2⟩
  have hbk : 4 ≤ k ∧ k ≤ 8 := by simp only [List.mem_cons, List.not_mem_nil, or_false] at hmk; omega
  clear hmk
  go_wp2_with fail
  refine (someCakes_any _ _ _ _ rw2 (by omega) k (by omega) (by omega)).mono ?_
  rintro e w3 ⟨ks, Ak, ck, q, a, h, rfl, ha, hh, hl, hq, o3, r3, g3⟩
  have hcaps := owz_caps o3
  have hd : CDraw w3 ks Ak ck := ⟨hl, hcaps.1, hcaps.2, Rd.ownz o3⟩
  have hbl := fin_below b1 r1 (only_trans (only_trans (only_alloc (only_refl _ g) _) gw2) g3)
  have HD := Lib.hid (And.intro hd hbl)
  clear hd hbl o3 r3 g3 gw2 rw2 r1 b1 hr
  go_wp2
  go_ret3
  exact ⟨ks, Ak, ck, a, h, rfl, HD.out.1, ha, hh, HD.out.2⟩

end Go.Proofs.Ytjjddamblijffab

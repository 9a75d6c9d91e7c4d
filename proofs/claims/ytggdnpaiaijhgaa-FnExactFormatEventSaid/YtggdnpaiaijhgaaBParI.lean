/- Chapter 8: the event of a text, of the program. -/
import Derived.Test.YtggdnpaiaijhgaaBBox
namespace Go.Proofs.Ytggdnpaiaijhgaa
open Go.RowKit
set_option linter.unusedVariables false
set_option linter.unusedSimpArgs false
theorem paPost_mk {e : Ev} {q : Bool} {w w' : World} {n : Nat} {A : Option Addr} {c : Nat} {e' : Ending} (hn : e.ts.length = n) (h1 : e' = .returned (.tuple #[.agg #[.int .i64 e.k, .slice A n c, .int .i64 e.c, .int .i64 e.n, .int .i64 e.p], .bool q]))
    (h2 : w'.ownsRow w.heap.size 3 1 (.slice A n c) n (ints e.ts)) (h3 : Below w.heap.size w w') : PaPost e q w e' w' := by
  subst hn
  exact ⟨A, c, h1, h2, h3⟩
set_option maxRecDepth 100000 in
set_option maxHeartbeats 2000000 in
theorem iPar_yes (e : Ev) (l t : List UInt8) (s : ByteArray) (hsl : s.toList = l) (hs : s = ⟨l.toArray⟩) (ws : List (List UInt8)) (hws : splitL 32 l = ws) (he : evOf ws = e) (ht : showL e = t) (hl : l.length ≤ 3000000) (hq : (t == l) = true) (w : World) :
    Calls Try.prog 48 #[.string s] w (PaPost e true w) := by
  have cW := fun w => words_any l (by omega) s hs w
  rw [hws] at cW
  have HW : Hid (ws ≠ [] ∧ (∀ p ∈ ws, p.length ≤ 4000000) ∧ ws.length ≤ 4000000) := Lib.hid (by rw [← hws]; exact ⟨splitL_ne 32 l, fun p hp => by have := splitL_mem l p hp; omega, by have := (splitL_len 32 l).2; omega⟩)
  have hel : e.ts.length ≤ 4000000 := by rw [← he]; have := evOf_len ws; have := HW.out.2.2; omega
  have hcE := fun (A : Option Addr) (c : Nat) (w : World) (hcap : ws.length ≤ c ∧ c ≤ maxLen) (hr : Rd w w.heap.size A (strs ws)) => eventOf_any ws HW.out.1 HW.out.2.1 HW.out.2.2 A c hcap w hr
  rw [he] at hcE
  have hcF := fun (A : Option Addr) (c : Nat) (w : World) (hr : Rd w w.heap.size A (ints e.ts)) => iFmt_any e A c w hr hel
  rw [ht] at hcF
  obtain ⟨k, ts, x, n, p⟩ := e
  unfold EvPost evV at hcE
  unfold FmPost evV str at hcF
  simp only at hcE hcF hel
  obtain ⟨m, hm⟩ : ∃ m, ts.length = m := ⟨_, rfl⟩
  obtain ⟨nw, hnw⟩ : ∃ nw, ws.length = nw := ⟨_, rfl⟩
  rw [hm] at hcE hcF hel
  unfold OutS at cW
  rw [hnw] at hcE cW
  have HM := Lib.hid hm
  have ha : ∀ o, Below w.heap.size w (w.alloc o) := fun o => (Below.refl _ _).alloc (Nat.le_refl _) o
  clear hws he ht hm hs hl hnw
  go_enter Try.func48, Try.ntmps48
  go_wp2_with fail
  refine (cW _).mono ?_
  rintro e w1 ⟨A1, c1, rfl, o1, b1⟩
  have c2 := hcE A1 c1 w1 (own_capB o1) (Rd.own o1)
  have HB1 := Lib.hid ((ha _).trans (b1.mono (ha _).size))
  have HX1 := Lib.hid ((Box5.alloc_ w 43).below b1 (by simp))
  have z1 : w.heap.size < w1.heap.size := by have := b1.size; simp at this; omega
  clear hcE o1 b1 cW
  go_wp2_with fail
  refine (c2).mono ?_
  rintro e w2 ⟨A2, c3, rfl, o2, b2⟩
  have HB2 := Lib.hid (HB1.out.trans (b2.mono HB1.out.size))
  have HX2 := Lib.hid (HX1.out.below b2 z1)
  have HO2 := Lib.hid o2
  have z2 := b2.size
  clear o2 b2 c2
  have hal : ∀ o, Below w2.heap.size w2 (w2.alloc o) := fun o => (Below.refl _ _).alloc (Nat.le_refl _) o
  have cF := fun o => hcF A2 c3 (w2.alloc o) (((Rd.own HO2.out).below (hal o)).more (hal o).size)
  have HCF := Lib.hid cF
  clear hcF cF ha
  go_wp2_with fail
  refine (HCF.out _).mono ?_
  rintro e w3 ⟨rfl, b3⟩
  have hf := hal (.cells #[.int .i64 k, .slice A2 m c3, .int .i64 x, .int .i64 n, .int .i64 p] 43)
  have HB3 := Lib.hid ((HB2.out.trans (hf.mono HB2.out.size)).trans (b3.mono (Nat.le_trans HB2.out.size hf.size)))
  have HX3 := Lib.hid ((HX2.out.below hf (by omega)).below b3 (by have := hf.size; omega))
  have HY3 := Lib.hid ((Box5.alloc_ w2 43 (v0 := .int .i64 k) (v1 := .slice A2 m c3) (v2 := .int .i64 x) (v3 := .int .i64 n) (v4 := .int .i64 p)).below b3 (by simp))
  have HO3 := Lib.hid (own_below (own_below HO2.out hf) b3)
  obtain ⟨k0, k1, k2, k3, k4, kf, _⟩ := HX3.out
  obtain ⟨j0, j1, j2, j3, j4, _, _⟩ := HY3.out
  clear HCF hal b3 hf
  go_wp2
  exact bodyPost_ret (v := .tuple #[.agg #[.int .i64 k, .slice A2 m c3, .int .i64 x, .int .i64 n, .int .i64 p], .bool true]) (by simp [results, Try.results48, go_sem, k0, k1, k2, k3, k4]) rfl (paPost_mk HM.out rfl (own_five (own_base HO3.out (by omega)) (own_apart HO3.out (by omega))) (HB3.out.trans (five_below _ (Nat.le_refl _) _ _ _ _ _)))
set_option maxRecDepth 100000 in
set_option maxHeartbeats 2000000 in
theorem iPar_no (e : Ev) (l t : List UInt8) (s : ByteArray) (hsl : s.toList = l) (hs : s = ⟨l.toArray⟩) (ws : List (List UInt8)) (hws : splitL 32 l = ws) (he : evOf ws = e) (ht : showL e = t) (hl : l.length ≤ 3000000) (hq : (t == l) = false) (w : World) :
    Calls Try.prog 48 #[.string s] w (PaPost evZ false w) := by
  have cW := fun w => words_any l (by omega) s hs w
  rw [hws] at cW
  have HW : Hid (ws ≠ [] ∧ (∀ p ∈ ws, p.length ≤ 4000000) ∧ ws.length ≤ 4000000) := Lib.hid (by rw [← hws]; exact ⟨splitL_ne 32 l, fun p hp => by have := splitL_mem l p hp; omega, by have := (splitL_len 32 l).2; omega⟩)
  have hel : e.ts.length ≤ 4000000 := by rw [← he]; have := evOf_len ws; have := HW.out.2.2; omega
  have hcE := fun (A : Option Addr) (c : Nat) (w : World) (hcap : ws.length ≤ c ∧ c ≤ maxLen) (hr : Rd w w.heap.size A (strs ws)) => eventOf_any ws HW.out.1 HW.out.2.1 HW.out.2.2 A c hcap w hr
  rw [he] at hcE
  have hcF := fun (A : Option Addr) (c : Nat) (w : World) (hr : Rd w w.heap.size A (ints e.ts)) => iFmt_any e A c w hr hel
  rw [ht] at hcF
  obtain ⟨k, ts, x, n, p⟩ := e
  unfold EvPost evV at hcE
  unfold FmPost evV str at hcF
  simp only at hcE hcF hel
  obtain ⟨m, hm⟩ : ∃ m, ts.length = m := ⟨_, rfl⟩
  obtain ⟨nw, hnw⟩ : ∃ nw, ws.length = nw := ⟨_, rfl⟩
  rw [hm] at hcE hcF hel
  unfold OutS at cW
  rw [hnw] at hcE cW
  have HM := Lib.hid hm
  have ha : ∀ o, Below w.heap.size w (w.alloc o) := fun o => (Below.refl _ _).alloc (Nat.le_refl _) o
  clear hws he ht hm hs hl hnw
  go_enter Try.func48, Try.ntmps48
  go_wp2_with fail
  refine (cW _).mono ?_
  rintro e w1 ⟨A1, c1, rfl, o1, b1⟩
  have c2 := hcE A1 c1 w1 (own_capB o1) (Rd.own o1)
  have HB1 := Lib.hid ((ha _).trans (b1.mono (ha _).size))
  have HX1 := Lib.hid ((Box5.alloc_ w 43).below b1 (by simp))
  have z1 : w.heap.size < w1.heap.size := by have := b1.size; simp at this; omega
  clear hcE o1 b1 cW
  go_wp2_with fail
  refine (c2).mono ?_
  rintro e w2 ⟨A2, c3, rfl, o2, b2⟩
  have HB2 := Lib.hid (HB1.out.trans (b2.mono HB1.out.size))
  have HX2 := Lib.hid (HX1.out.below b2 z1)
  have HO2 := Lib.hid o2
  have z2 := b2.size
  clear o2 b2 c2
  have hal : ∀ o, Below w2.heap.size w2 (w2.alloc o) := fun o => (Below.refl _ _).alloc (Nat.le_refl _) o
  have cF := fun o => hcF A2 c3 (w2.alloc o) (((Rd.own HO2.out).below (hal o)).more (hal o).size)
  have HCF := Lib.hid cF
  clear hcF cF ha
  go_wp2_with fail
  refine (HCF.out _).mono ?_
  rintro e w3 ⟨rfl, b3⟩
  have hf := hal (.cells #[.int .i64 k, .slice A2 m c3, .int .i64 x, .int .i64 n, .int .i64 p] 43)
  have HB3 := Lib.hid ((HB2.out.trans (hf.mono HB2.out.size)).trans (b3.mono (Nat.le_trans HB2.out.size hf.size)))
  have HX3 := Lib.hid ((HX2.out.below hf (by omega)).below b3 (by have := hf.size; omega))
  have HY3 := Lib.hid ((Box5.alloc_ w2 43 (v0 := .int .i64 k) (v1 := .slice A2 m c3) (v2 := .int .i64 x) (v3 := .int .i64 n) (v4 := .int .i64 p)).below b3 (by simp))
  have HO3 := Lib.hid (own_below (own_below HO2.out hf) b3)
  obtain ⟨k0, k1, k2, k3, k4, kf, _⟩ := HX3.out
  obtain ⟨j0, j1, j2, j3, j4, _, _⟩ := HY3.out
  clear HCF hal b3 hf
  go_wp2
  exact bodyPost_ret (v := .tuple #[.agg #[.int .i64 0, .slice none 0 0, .int .i64 0, .int .i64 0, .int .i64 0], .bool false]) (by simp [results, Try.results48, go_sem, k0, k1, k2, k3, k4]) rfl (paPost_mk (e := evZ) rfl rfl ⟨by simp [ints, evZ], .inl ⟨rfl, rfl⟩⟩ (HB3.out.trans (five_below _ (Nat.le_refl _) _ _ _ _ _)))
theorem iPar_any (l : List UInt8) (hl : l.length ≤ 3000000) (s : ByteArray) (hs : s = ⟨l.toArray⟩) (w : World) :
    Calls Try.prog 48 #[.string s] w (PaPost (parE l) (parB l) w) := by
  have hsl : s.toList = l := by rw [hs, ByteArray.toList_eq]
  by_cases h : showL (evL l) = l
  · have hb : parB l = true := parB_mk (decide_eq_true h)
    rw [hb, parE_yes hb]
    exact iPar_yes (evL l) l _ s hsl hs _ rfl rfl rfl hl (beq_iff_eq.2 h) w
  · have hb : parB l = false := parB_mk (decide_eq_false h)
    rw [hb, parE_no hb]
    exact iPar_no (evL l) l _ s hsl hs _ rfl rfl rfl hl (beq_eq_false_iff_ne.2 h) w

end Go.Proofs.Ytggdnpaiaijhgaa

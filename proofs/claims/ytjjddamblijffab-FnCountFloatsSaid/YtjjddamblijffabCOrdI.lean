/- Contracts of chapter 3: the order in which cakes float out, the program. -/
import Derived.Test.YtjjddamblijffabCOrd
import Derived.Test.YtjjddamblijffabFWords
namespace Go.Proofs.Ytjjddamblijffab
open Go.RowKit
set_option linter.unusedVariables false
set_option linter.unusedSimpArgs false
theorem rowIs_below {w w' : World} {g n : Nat} {T : TypeId} {f : Nat → Value} {B : Nat} (h : w.rowIs g T n f) (hb : Below B w w') (hg : g < B) : w'.rowIs g T n f := by
  obtain ⟨c, h1, h2, h3⟩ := h
  exact ⟨c, by rw [hb.block g hg]; exact h1, h2, h3⟩
theorem ord_all {cs : List (Int × Int)} {n : Nat} (hl : cs.length = n) (P : Plc (plcF cs) cs.length) {f : Nat → Nat} (hf : ∀ j, j < n → f (befF (plcF cs) n j) = j) : (List.range n).map f = ordF cs cs.length := by
  subst hl
  refine (ordF_ok P cs.length (Nat.le_refl _)).uniq (by simp) fun j hj => ?_
  have h1 : befF (plcF cs) cs.length j < cs.length := befF_lt hj (P.irr j hj)
  rw [List.getElem?_map, List.getElem?_range h1, Option.map_some, hf j hj]
set_option maxRecDepth 100000 in
set_option maxHeartbeats 2000000 in
theorem iOrder_any (n : Nat) (hn : n ≤ 1048576) (cs : List (Int × Int)) (hl : cs.length = n) (A : Option Addr) (c : Nat) (hcap : n ≤ c ∧ c ≤ maxLen) (w : World) (hr : Rd w w.heap.size A (cakeV cs)) (a b : Int) :
    Calls Try.prog 42 #[.slice A n c, .int .i64 a, .int .i64 b] w (OutI (floatT a b cs) w) := by
  have cV := iVC_any n hn cs hl A c hcap w hr a b
  cases hv : cakesB a b cs
  · rw [floatT_no hv]
    rw [hv] at cV
    have CV := Lib.hid cV
    clear hv cV
    go_enter Try.func42, Try.ntmps42
    go_wp2_with fail
    refine (CV.out).mono ?_
    rintro e w1 ⟨rfl, b1⟩
    go_wp2
    go_ret
    exact ⟨none, 0, rfl, ⟨rfl, .inl ⟨rfl, rfl⟩⟩, b1⟩
  · rw [floatT_ok hv]
    rw [hv] at cV
    have CV := Lib.hid cV
    have hP := plc_cakes hv
    have HP := Lib.hid hP
    have hO := ordF_ok hP cs.length (Nat.le_refl _)
    rw [hl] at hO
    have HINJ : Hid (∀ j k, j < n → k < n → befF (plcF cs) n j = befF (plcF cs) n k → j = k) := Lib.hid fun j k hj hk e => (hO.perm (hO.to j hj) (hO.to k hk)).2 e
    have HLT : Hid (∀ j, j < n → befF (plcF cs) n j < n) := Lib.hid fun j hj => befF_lt hj (hP.irr j (by omega))
    have HL := Lib.hid hl
    have hbf := fun (A : Option Addr) (w : World) (hr : Rd w w.heap.size A (cakeV cs)) (j : Nat) (x y : Int) (hj : cAt cs j = (x, y)) => iBefore_any n hn cs hl A c w hr j x y hj
    have HBF := Lib.hid hbf
    have hmk := run_make_row' (P := Try.prog) 23 3 (.int .i64 0) 8 Try.underlying23 info_int rfl .i64 .i64 n (by omega) (by omega)
    clear hv cV hP hO hl hbf
    go_enter Try.func42, Try.ntmps42
    go_wp2_with fail
    refine (CV.out).mono ?_
    rintro e w1 ⟨rfl, b1⟩
    have hr1 := (hr.below b1).more b1.size
    go_wp2
    go_loopw [20] (fun i wr => ∃ (k : Nat) (f : Nat → Nat), k ≤ n ∧ i = .int .i64 k ∧ wr.rowIs w1.heap.size 3 n (fun p => .int .i64 (f p : Nat)) ∧ (∀ j, j < k → f (befF (plcF cs) n j) = j) ∧ Below w1.heap.size w1 wr ∧ w1.heap.size < wr.heap.size) (fun i _ => n - (intOf i).toNat)
    case atStart => exact ⟨0, fun _ => 0, Nat.zero_le _, rfl, World.rowIs_made w1 (.int .i64 0) n 3, fun j hj => by omega, (Below.refl _ _).alloc (Nat.le_refl _) _, by simp⟩
    case round =>
      obtain ⟨k, f, hk, rfl, hrow, hf, hbel, hsz⟩ := hrel
      by_cases hlt : k < n
      · obtain ⟨b2, off, x, y, rfl, hb2, hz, hc, hc2⟩ := (hr1.below hbel).cake_ (k := k) (by rw [HL.out]; exact hlt)
        have HROW := Lib.hid hrow
        have HFK := Lib.hid hf
        have HBEL := Lib.hid hbel
        obtain ⟨wq, hwq⟩ : ∃ wq, wq = wr.alloc (.cells #[.int .i64 x, .int .i64 y] 83) := ⟨_, rfl⟩
        have b0 : Below wr.heap.size wr wq := by rw [hwq]; exact (Below.refl _ _).alloc (Nat.le_refl _) _
        have hbq := hbel.trans (b0.mono (by omega))
        have hrq := (hr1.below hbq).more hbq.size
        have cB := HBF.out _ wq hrq k x y (cAt_get hz.out)
        have d0 : wq.cell? ⟨wr.heap.size, 0, none⟩ = some (.int .i64 x) := by rw [hwq]; exact two_new wr (.int .i64 x) (.int .i64 y) _ _ rfl 0 _ rfl
        have d1 : wq.cell? ⟨wr.heap.size, 1, none⟩ = some (.int .i64 y) := by rw [hwq]; exact two_new wr (.int .i64 x) (.int .i64 y) _ _ rfl 1 _ rfl
        have CB := Lib.hid cB
        have B0 := Lib.hid b0
        rw [hwq] at d0 d1
        have HWQ := Lib.hid hwq
        clear hrow hf hbel hbq hrq cB b0 hz hwq
        go_wp2_with fail
        rw [← HWQ.out]
        refine CB.out.mono ?_
        rintro e w2 ⟨rfl, b2'⟩
        have b02 := B0.out.trans (b2'.mono B0.out.size)
        have hrow2 := rowIs_below HROW.out b02 hsz
        have hp := HLT.out k hlt
        have HINK : Hid (∀ j, j < k → befF (plcF cs) n j ≠ befF (plcF cs) n k) := Lib.hid fun j hj e => by have := HINJ.out j k (by omega) hlt e; omega
        generalize hpe : befF (plcF cs) n k = p at *
        have HPE := Lib.hid hpe
        have hc3 := hrow2.cell hp
        have hf3 := hrow2.frozen p
        have hst := (hrow2.set p (.int .i64 (k : Int))).congr (g := fun q => .int .i64 ((if q = p then k else f q : Nat) : Int)) fun q hq => by
          by_cases e : q = p
          · subst e; simp
          · simp [e]
        have hbw := (HBEL.out.trans (b02.mono (by omega))).setCell (p := ⟨w1.heap.size, p, none⟩) (Nat.le_refl _) (.int .i64 (k : Int))
        have hsz2 : w1.heap.size < w2.heap.size := by have := b02.size; omega
        have HST := Lib.hid (And.intro hst hbw)
        have HFN : Hid (∀ j, j < k + 1 → (fun q => if q = p then k else f q) (befF (plcF cs) n j) = j) := Lib.hid fun j hj => by
          by_cases e : j = k
          · subst e; simp [HPE.out]
          · simp only [if_neg (HINK.out j (by omega))]; exact HFK.out j (by omega)
        clear hpe hst hbw hrow2 b02 b2' d0 d1
        go_wp2
        go_roundw
        case rel => exact ⟨k + 1, _, by omega, by go_num, HST.out.1, HFN.out, HST.out.2, by simpa [World.setCell] using hsz2⟩
        case measure => simp [intOf]; omega
      · obtain rfl : k = n := by omega
        have hm := ord_all HL.out HP.out hf
        have hlen : (ordF cs cs.length).length = k := by rw [← hm]; simp
        have R : OutI (nats (ordF cs cs.length)) w (.returned (.slice (some ⟨w1.heap.size, 0, none⟩) k k)) wr := by
          refine out_mk (by rw [nats_length, hlen]) (own_base (own_of_row hrow (xs := ints (nats (ordF cs cs.length))) ?_ (fun i hi => ?_) (Nat.le_refl _) (by omega)) b1.size) (b1.trans (hbel.mono b1.size))
          · rw [ints_length, nats_length, hlen]
          · rw [← hm, ints, nats, List.getElem?_map, List.getElem?_map, List.getElem?_map, List.getElem?_range hi]; rfl
        have HR := Lib.hid R
        clear R hm hrow hf hbel
        go_wp2
        go_ret
        exact HR.out

end Go.Proofs.Ytjjddamblijffab

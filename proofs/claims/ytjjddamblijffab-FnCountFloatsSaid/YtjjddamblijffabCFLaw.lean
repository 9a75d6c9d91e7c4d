/- What the law FnFloatOrder asks: the order by places is one in which all cakes float out; the generator of its arguments. -/
import Derived.Lib.QuietBelow
import Derived.Test.YtjjddamblijffabCDraws
import Derived.Test.YtjjddamblijffabCFloat
import Derived.Test.YtjjddamblijffabCOrdS
import Derived.Test.YtjjddamblijffabCOrdI
import Derived.Test.YtjjddamblijffabHelps
namespace Go.Proofs.Ytjjddamblijffab
open Go.RowKit
set_option linter.unusedVariables false
set_option linter.unusedSimpArgs false
theorem memB_take {l : List Nat} {i k : Nat} (h : memB ((nats l).take i) (k : Int) = true) : ∃ p, p < i ∧ l[p]? = some k := by
  unfold memB at h
  rw [decide_eq_true_eq] at h
  obtain ⟨p, hp, e⟩ := List.getElem_of_mem h
  rw [List.length_take] at hp
  rw [List.getElem_take] at e
  refine ⟨p, by omega, ?_⟩
  have hp2 : p < l.length := by rw [nats_length] at hp; omega
  rw [List.getElem?_eq_getElem hp2]
  simp only [nats, List.getElem_map] at e
  exact congrArg some (Int.ofNat.inj e)
theorem memB_mk {l : List Nat} {i p k : Nat} (hp : p < i) (h : l[p]? = some k) : memB ((nats l).take i) (k : Int) = true := by
  unfold memB
  rw [decide_eq_true_eq]
  have h2 : ((nats l).take i)[p]? = some (k : Int) := by
    rw [List.getElem?_take_of_lt hp, nats, List.getElem?_map, h]; rfl
  exact List.mem_of_getElem? h2
theorem vfT_float {a b : Int} {cs : List (Int × Int)} (h : cakesB a b cs = true) : vfT a b cs (floatT a b cs) = true := by
  have P := plc_cakes h
  have O := ordF_ok P cs.length (Nat.le_refl _)
  rw [floatT_ok h]
  unfold vfT vfB
  rw [h, nats_length, O.len, decide_eq_true rfl]
  show vfTo b cs (nats (ordF cs cs.length)) cs.length = true
  generalize hl : ordF cs cs.length = l at *
  unfold vfTo
  rw [List.all_eq_true]
  intro i hi
  rw [List.mem_range] at hi
  have hil : i < l.length := by rw [O.len]; exact hi
  have hli : l[i]? = some (l[i]'hil) := List.getElem?_eq_getElem hil
  generalize hj : l[i]'hil = j at hli
  obtain ⟨hjn, hbj⟩ := O.of i j hli
  have hat : at_ (nats l) i = (j : Int) := by
    have : (nats l)[i]? = some (j : Int) := by rw [nats, List.getElem?_map, hli]; rfl
    rw [of_at (by rw [nats_length]; exact hil)] at this
    injection this
  rw [hat]
  unfold stepB
  rw [inB_mk (by omega), Int.toNat_natCast]
  have hm : memB ((nats l).take i) (j : Int) = false := by
    cases e : memB ((nats l).take i) (j : Int)
    · rfl
    · obtain ⟨p, hp, hpk⟩ := memB_take e
      have := (O.of p j hpk).2
      omega
  have hh : heldTo b cs ((nats l).take i) (cAt cs j) cs.length = false := by
    unfold heldTo
    rw [List.any_eq_false]
    intro k hk
    rw [List.mem_range] at hk
    rw [Bool.and_eq_true]
    rintro ⟨h1, h2⟩
    unfold blkB at h2
    rw [decide_eq_true_eq] at h2
    have hlt : plcF cs k j = true := by
      unfold plcF ltC
      rw [decide_eq_true_eq]
      exact .inl h2.1
    have hs := befF_strict (lt := plcF cs) (a := k) (b := j) (j := k) cs.length (fun q hq hqk => P.tr q k j hq hk hjn hqk hlt) hk (P.irr k hk) hlt
    have := memB_mk (l := l) (i := i) (p := befF (plcF cs) cs.length k) (k := k) (by omega) (O.to k hk)
    rw [this] at h1
    cases h1
  rw [hm, hh]
  rfl
theorem float_len {a b : Int} {cs : List (Int × Int)} (h : cakesB a b cs = true) : (floatT a b cs).length = cs.length := by
  have O := ordF_ok (plc_cakes h) cs.length (Nat.le_refl _)
  rw [floatT_ok h, nats_length, O.len]
theorem float_le (a b : Int) (cs : List (Int × Int)) : (floatT a b cs).length ≤ cs.length := by
  cases h : cakesB a b cs
  · rw [floatT_no h]; simp
  · rw [float_len h]; exact Nat.le_refl _
set_option maxRecDepth 100000 in
set_option maxHeartbeats 1000000 in
theorem dFloatOrder (cs : List Int) (A : Option Addr) (c : Nat) (w : World) (hr : Rd w w.heap.size A (bytes cs)) (hb : ∀ z ∈ cs, 0 ≤ z ∧ z ≤ 255) (hn : cs.length ≤ c) (hm : c ≤ maxLen) :
    Calls Try.prog 41 #[.slice A cs.length c] w (dCountFloatsPost w) := by
  go_enter Try.func41, Try.ntmps41
  go_wp2_with fail
  refine (newReader_any _ _ _ _ hr hb hn hm).mono ?_
  rintro e w1 ⟨g, rfl, r1, b1⟩
  have hB := r1.1
  have hsz := b1.size
  go_wp2_with fail
  refine (someCakes_any _ _ _ _ r1 (by omega) 8 (by omega) (by omega)).mono ?_
  rintro e w3 ⟨ks, Ak, ck, q, a, h, rfl, ha, hh, hl, hq, o3, r3, g3⟩
  have hcaps := owz_caps o3
  have hd : CDraw w3 ks Ak ck := ⟨hl, hcaps.1, hcaps.2, Rd.ownz o3⟩
  have hbl := fin_below b1 r1 (only_trans (only_refl _ g) g3)
  have HD := Lib.hid (And.intro hd hbl)
  clear hd hbl o3 r3 g3 r1 b1 hr
  go_wp2
  go_ret3
  exact ⟨ks, Ak, ck, a, h, rfl, HD.out.1, ha, hh, HD.out.2⟩
theorem eqI_b2 (zs : List Int) (A A' : Option Addr) (c c' : Nat) (w : World) (B : Nat) (hr : Rd w B A (ints zs)) (hr' : Rd w B A' (ints zs)) (hn : zs.length ≤ 1048576) :
    Calls Try.prog 43 #[.slice A zs.length c, .slice A' zs.length c'] w fun e w' => e = .returned (.bool true) ∧ Below w.heap.size w w' :=
  (equalInts_same zs A A' c c' w B hr hr' hn).mono fun _ _ ⟨h, n, e⟩ => ⟨h, e ▸ below_drewN (Below.refl _ _) n⟩

end Go.Proofs.Ytjjddamblijffab

/- Contracts of chapter 6: visits, how late they are, the load that they need. -/
import Derived.Lib.QuietBelow
import Derived.Test.YtjjddamblijffaaKValid
import Derived.Test.YtjjddamblijffaaVOrd
import Derived.Test.YtjjddamblijffaaVOrdS
namespace Go.Proofs.Ytjjddamblijffaa
open Go.RowKit
set_option linter.unusedVariables false
set_option linter.unusedSimpArgs false
set_option maxHeartbeats 800000 in
theorem iStr_any (n : Nat) (cs : List Cu) (hl : cs.length = n) (A : Option Addr) (c : Nat) (hn : n ≤ maxLen) (w : World) (hr : Rd w w.heap.size A (custV cs)) (st : Int) :
    Calls Try.prog 61 #[.slice A n c, .int .i64 st] w fun e w' => e = .returned (.bool (vcB cs && inB st (-100) 100)) ∧ Below w.heap.size w w' := by
  have cV := iVCs_any n cs hl A c hn w hr
  cases hv : vcB cs
  · rw [hv] at cV
    have CV := Lib.hid cV
    clear hv cV
    go_enter Try.func61, Try.ntmps61
    go_wp2_with fail
    refine (CV.out).mono ?_
    rintro e w1 ⟨rfl, b1⟩
    have B1 := Lib.hid b1
    clear b1
    go_wp2
    go_ret
    exact ⟨rfl, B1.out⟩
  · rw [hv] at cV
    have CV := Lib.hid cV
    clear hv cV
    cases hs : inB st (-100) 100
    all_goals
      have HS := Lib.hid hs
      clear hs
      go_enter Try.func61, Try.ntmps61
      go_wp2_with fail
      refine (CV.out).mono ?_
      rintro e w1 ⟨rfl, b1⟩
      have B1 := Lib.hid b1
      clear b1
      go_wp2_with fail
      refine (iPlace_is HS.out _).mono ?_
      rintro e w' ⟨rfl, rfl⟩
      go_wp2
      go_ret
      exact ⟨rfl, B1.out⟩
set_option maxHeartbeats 800000 in
theorem iRnd_any (n m : Nat) (cs : List Cu) (hl : cs.length = n) (A : Option Addr) (c : Nat) (hn : n ≤ maxLen) (os : List Int) (hlo : os.length = m) (hm : m ≤ 1048576) (Ao : Option Addr) (co : Nat) (w : World) (hr : Rd w w.heap.size A (custV cs)) (hro : Rd w w.heap.size Ao (ints os)) (st : Int) :
    Calls Try.prog 56 #[.slice A n c, .int .i64 st, .slice Ao m co] w fun e w' => e = .returned (.bool (rndB cs st os)) ∧ Below w.heap.size w w' := by
  have cS := iStr_any n cs hl A c hn w hr st
  have HR : Hid (rndB cs st os = ((vcB cs && inB st (-100) 100) && ordB n os)) := Lib.hid (by unfold rndB; rw [hl])
  have HV8 : Hid ((vcB cs && inB st (-100) 100) = true → n ≤ 8) := Lib.hid fun h => by rw [Bool.and_eq_true] at h; have := (vcB_t h.1).1; omega
  generalize hq : (vcB cs && inB st (-100) 100) = q at *
  have CS := Lib.hid cS
  clear cS hq
  cases q
  · have HT : Hid (rndB cs st os = false) := Lib.hid (by rw [HR.out]; rfl)
    go_enter Try.func56, Try.ntmps56
    go_wp2_with fail
    refine (CS.out).mono ?_
    rintro e w1 ⟨rfl, b1⟩
    have B1 := Lib.hid b1
    clear b1
    go_wp2
    go_ret
    exact ⟨ret_bool HT.out.symm, B1.out⟩
  · have HT : Hid (rndB cs st os = ordB n os) := Lib.hid (by rw [HR.out]; rfl)
    have h8 := HV8.out rfl
    have hO := fun w (hro : Rd w w.heap.size Ao (ints os)) => iVOrd_any n m (by omega) os hlo hm Ao co w hro
    rw [HT.out]
    generalize ordB n os = q at *
    have HO := Lib.hid hO
    clear hO
    go_enter Try.func56, Try.ntmps56
    go_wp2_with fail
    refine (CS.out).mono ?_
    rintro e w1 ⟨rfl, b1⟩
    have hro1 := (hro.below b1).more b1.size
    have B1 := Lib.hid b1
    clear b1
    go_wp2_with fail
    refine (HO.out _ hro1).mono ?_
    rintro e w2 ⟨rfl, b2⟩
    have B2 := Lib.hid (B1.out.trans (b2.mono B1.out.size))
    clear b2
    go_wp2
    go_ret
    exact ⟨rfl, B2.out⟩
/-- the first times of an order, and zeros behind them -/
def halfT (cs : List Cu) (st : Int) (os : List Int) (n k : Nat) : List Int := tmL st 0 (pick cs (os.take k)) ++ List.replicate (n - k) 0
theorem halfT_set {cs : List Cu} {st : Int} {os : List Int} {n k t : Nat} (hk : k < n) (hn : os.length = n) (h : os[k]? = some (t : Int)) :
    (halfT cs st os n k).set k (endT st (pick cs (os.take (k + 1)))) = halfT cs st os n (k + 1) := by
  unfold halfT
  have e1 : (tmL st 0 (pick cs (os.take k))).length = k := by rw [tmL_len, pick_len, List.length_take]; omega
  rw [List.set_append, e1, if_neg (by omega), Nat.sub_self, show n - k = (n - (k + 1)) + 1 by omega, List.replicate_succ, List.set_cons_zero, pick_snoc h, tmL_snoc, List.append_assoc, Int.zero_add]
  rfl
theorem halfT_len {cs : List Cu} {st : Int} {os : List Int} {n k : Nat} (hk : k ≤ n) (hn : os.length = n) : (halfT cs st os n k).length = n := by
  unfold halfT
  rw [List.length_append, tmL_len, pick_len, List.length_take, List.length_replicate]
  omega
theorem halfT_all {cs : List Cu} {st : Int} {os : List Int} {n : Nat} (hn : os.length = n) : halfT cs st os n n = tmL st 0 (pick cs os) := by
  unfold halfT
  rw [List.take_of_length_le (by omega)]
  simp
/-- what a loop over visits knows -/
structure RndP (cs : List Cu) (st : Int) (os : List Int) (n : Nat) : Prop where
  len : cs.length = n
  olen : os.length = n
  n8 : n ≤ 8
  ok : vcB cs = true
  ord : ordB n os = true
  s1 : -100 ≤ st
  s2 : st ≤ 100
theorem rndP {cs : List Cu} {st : Int} {os : List Int} (h : rndB cs st os = true) : RndP cs st os cs.length := by
  obtain ⟨h1, h2, h3⟩ := rndB_t h
  exact ⟨rfl, (ordB_t h3).1, (vcB_t h1).1, h1, h3, h2.1, h2.2⟩
section
variable {cs : List Cu} {st : Int} {os : List Int} {n : Nat}
theorem RndP.at_ (P : RndP cs st os n) {k : Nat} {z : Int} (hk : k < n) (h : os[k]? = some z) : ∃ t : Nat, z = (t : Int) ∧ t < n := by
  have h1 := ordTo_in (ordB_t P.ord).2 hk
  rw [at_of h] at h1
  exact ⟨z.toNat, by omega, by omega⟩
theorem RndP.pos (P : RndP cs st os n) (k : Nat) : -100 ≤ endP st (pick cs (os.take k)) ∧ endP st (pick cs (os.take k)) ≤ 100 := endP_bd ⟨P.s1, P.s2⟩ (pick_vk P.ok P.len P.ord k)
theorem RndP.time (P : RndP cs st os n) {k : Nat} (hk : k ≤ n) : 0 ≤ endT st (pick cs (os.take k)) ∧ endT st (pick cs (os.take k)) ≤ 1600 := by
  have h := endT_bd ⟨P.s1, P.s2⟩ (pick_vk P.ok P.len P.ord k)
  rw [pick_len, List.length_take] at h
  have := P.n8
  omega
theorem RndP.cu (P : RndP cs st os n) {t : Nat} {x d v : Int} (ht : t < n) (h : cuA cs t = (x, d, v)) : (-100 ≤ x ∧ x ≤ 100) ∧ (0 ≤ d ∧ d ≤ 2000) ∧ (1 ≤ v ∧ v ≤ 50) := by
  have h1 := cuTo_at (vcB_t P.ok).2 (show t < cs.length by rw [P.len]; exact ht)
  rw [h] at h1
  exact cuV_t h1
theorem RndP.next (P : RndP cs st os n) {k t : Nat} {x d v : Int} (h : os[k]? = some (t : Int)) (hc : cuA cs t = (x, d, v)) : endP st (pick cs (os.take (k + 1))) = x ∧ endT st (pick cs (os.take (k + 1))) = endT st (pick cs (os.take k)) + dst (endP st (pick cs (os.take k))) x := by
  rw [pick_snoc h, endP_snoc, endT_snoc, hc]
  exact ⟨rfl, rfl⟩
theorem RndP.rnd (P : RndP cs st os n) : rndB cs st os = true := by
  unfold rndB
  rw [P.ok, inB_mk ⟨P.s1, P.s2⟩, P.len, P.ord]
  rfl
end
set_option maxHeartbeats 2000000 in
theorem iVis_any (n m : Nat) (cs : List Cu) (hl : cs.length = n) (A : Option Addr) (c : Nat) (hn : n ≤ maxLen) (os : List Int) (hlo : os.length = m) (hm : m ≤ 1048576) (Ao : Option Addr) (co : Nat) (w : World) (hr : Rd w w.heap.size A (custV cs)) (hro : Rd w w.heap.size Ao (ints os)) (st : Int) :
    Calls Try.prog 19 #[.slice A n c, .int .i64 st, .slice Ao m co] w (OutI (visT cs st os) w) := by
  have cR := iRnd_any n m cs hl A c hn os hlo hm Ao co w hr hro st
  cases hv : rndB cs st os
  · rw [visT_no hv]
    rw [hv] at cR
    have CR := Lib.hid cR
    clear hv cR
    go_enter Try.func19, Try.ntmps19
    go_wp2_with fail
    refine (CR.out).mono ?_
    rintro e w1 ⟨rfl, b1⟩
    have B1 := Lib.hid b1
    clear b1
    go_wp2
    go_ret
    exact ⟨none, 0, rfl, ⟨rfl, .inl ⟨rfl, rfl⟩⟩, B1.out⟩
  · rw [visT_ok hv]
    rw [hv] at cR
    have CR := Lib.hid cR
    have hP := rndP hv
    rw [hl] at hP
    have hmn : m = n := by rw [← hlo]; exact hP.olen
    subst hmn
    have h8 := hP.n8
    have HP := Lib.hid hP
    have HL := Lib.hid hl
    have HLO := Lib.hid hlo
    clear hv cR hl hlo hP
    have hmk := run_make_row' (P := Try.prog) 27 3 (.int .i64 0) 8 Try.underlying27 info_int rfl .i64 .i64 m (by omega) (by omega)
    go_enter Try.func19, Try.ntmps19
    go_wp2_with fail
    refine (CR.out).mono ?_
    rintro e w1 ⟨rfl, b1⟩
    have B1 := Lib.hid b1
    have hs1 := b1.size
    clear b1
    go_wp2
    go_loopw [8, 9, 23] (fun tt aa i wr => ∃ k : Nat, k ≤ m ∧ i = .int .i64 k ∧ tt = .int .i64 (endT st (pick cs (os.take k))) ∧ aa = .int .i64 (endP st (pick cs (os.take k))) ∧ wr.ownsRow w1.heap.size 3 1 (.slice (some ⟨w1.heap.size, 0, none⟩) m m) m (ints (halfT cs st os m k)) ∧ Below w1.heap.size w1 wr) (fun _ _ i _ => m - (intOf i).toNat)
    case atStart =>
      refine ⟨0, Nat.zero_le _, rfl, rfl, rfl, ?_, (Below.refl _ _).alloc (Nat.le_refl _) _⟩
      have := own_made w1 (.int .i64 0) m 3 (by unfold maxLen; omega)
      simpa [ints, halfT, pick, tmL] using this
    case round =>
      obtain ⟨k, hk, rfl, rfl, rfl, hown, hbel⟩ := hrel
      have hbw := B1.out.trans (hbel.mono hs1)
      have HBW := Lib.hid hbw
      by_cases hlt : k < m
      · obtain ⟨b3, off3, z, rfl, hb3, hz, hcz⟩ := (hro.below hbw).int_ (k := k) (by rw [HLO.out]; exact hlt)
        obtain ⟨t, rfl, htm⟩ := HP.out.at_ hlt hz.out
        obtain ⟨b1, off, x, d, v, rfl, hb1, hzc, hc0, hc1, hc2⟩ := (hr.below hbw).cust_ (k := t) (by rw [HL.out]; exact htm)
        have hcu := (HP.out.cu htm hzc.out).1
        obtain ⟨hx1, hx2⟩ := hcu
        have hp := HP.out.pos k
        obtain ⟨hp1, hp2⟩ := hp
        have ht1 := HP.out.time hk
        obtain ⟨ht1, ht2⟩ := ht1
        have HNX := Lib.hid (HP.out.next hz.out hzc.out)
        have hd := dst_bd ⟨hp1, hp2⟩ ⟨hx1, hx2⟩
        obtain ⟨hd1, hd2⟩ := hd
        have cD := fun w => iDst_any (endP st (pick cs (os.take k))) x ⟨hp1, hp2⟩ ⟨hx1, hx2⟩ w
        have hfz := own_frozen hown k
        have hlk : k < (halfT cs st os m k).length := by rw [halfT_len hk HLO.out]; exact hlt
        obtain ⟨y, hy⟩ : ∃ y, (halfT cs st os m k)[k]? = some y := ⟨_, List.getElem?_eq_getElem hlk⟩
        have hcl := own_cell hown (k := k) (x := .int .i64 y) (by rw [ints, List.getElem?_map, hy]; rfl)
        have hput := own_put hown k (.int .i64 (endT st (pick cs (os.take k)) + dst (endP st (pick cs (os.take k))) x))
        have hset := halfT_set (cs := cs) (st := st) hlt HLO.out hz.out
        have e1 : (ints (halfT cs st os m k)).set k (.int .i64 (endT st (pick cs (os.take k)) + dst (endP st (pick cs (os.take k))) x)) = ints (halfT cs st os m (k + 1)) := by
          rw [← hset, HNX.out.2, ints, ints, List.map_set]
        rw [e1] at hput
        have HPT := Lib.hid (And.intro hput (hbel.setCell (by simp) (.int .i64 (endT st (pick cs (os.take k)) + dst (endP st (pick cs (os.take k))) x)) (p := ⟨w1.heap.size, k, none⟩)))
        generalize dst (endP st (pick cs (os.take k))) x = D at *
        generalize endT st (pick cs (os.take k)) = T at *
        generalize endP st (pick cs (os.take k)) = Q at *
        have CD := Lib.hid cD
        clear hput hown hbel hbw hset e1 hy hlk cD hz hzc
        go_wp2_with fail
        refine (CD.out _).mono ?_
        rintro e w' ⟨rfl, rfl⟩
        go_wp2
        go_roundw
        case rel => exact ⟨k + 1, by omega, by go_num, by rw [HNX.out.2], by rw [HNX.out.1], HPT.out.1, HPT.out.2⟩
        case measure => simp [intOf]; omega
      · obtain rfl : k = m := by omega
        have R : OutI (tmL st 0 (pick cs os)) w (.returned (.slice (some ⟨w1.heap.size, 0, none⟩) k k)) wr := by
          rw [halfT_all HLO.out] at hown
          exact out_mk (by rw [tmL_len, pick_len, HLO.out]) (own_base hown hs1) hbw
        have HR := Lib.hid R
        clear R hown hbel hbw
        go_wp2
        go_ret
        exact HR.out

end Go.Proofs.Ytjjddamblijffaa

/- Contracts of WayTo, of the program and of the model. -/
import Derived.Test.YtbnggakfogcaladWays
namespace Go.Proofs.Ytbnggakfogcalad
open Go.RowKit
set_option linter.unusedVariables false
set_option linter.unusedSimpArgs false
def OutWay (n : Nat) (nb : Nat → List Nat) (ok : Nat → Bool) (rk : Nat → Int) (a b : Nat) (w : World) (e : Ending) (w' : World) : Prop :=
  ∃ rs, IsRisk n nb ok rk a rs ∧ ((at_ rs b < 0 ∧ OutL 0 [] w e w') ∨ (0 ≤ at_ rs b ∧ ∃ l, Back rk rs nb a b l ∧ OutI (nats l) w e w'))
section
variable {n : Nat} {nb : Nat → List Nat} {ok : Nat → Bool} {rk : Nat → Int} {a : Nat} {rs : List Int}
theorem Back.first {l : List Nat} (h : Back rk rs nb a a l) : l = [a] := Back.uniq h .base
theorem Back.split {c k : Nat} {l : List Nat} (h : Back rk rs nb a c l) (hc : c ≠ a) (hk : prevF rk rs nb c = some k) : ∃ l', l = l' ++ [c] ∧ Back rk rs nb a k l' := by
  cases h with
  | base => exact absurd rfl hc
  | step h1 h2 h3 =>
    rw [hk] at h2
    injection h2 with e
    subst e
    exact ⟨_, rfl, h3⟩
theorem IsRisk.bnds (hp : ∀ i, 1 ≤ rk i) (x : IsRisk n nb ok rk a rs) : ∀ i, -1 ≤ at_ rs i ∧ at_ rs i ≤ 1000000 := fun i => by
  refine ⟨?_, x.bnd i⟩
  rcases x.val i with ⟨h, _⟩ | ⟨h, _⟩
  · omega
  · have := h.ge hp; have := hp i; omega
theorem IsRisk.okp (hp : ∀ i, 1 ≤ rk i) (x : IsRisk n nb ok rk a rs) {c : Nat} (h : 0 ≤ at_ rs c) : ok a = true := ((x.nn hp).1 h).left
end
def WayR (w wr : World) (n g c lo : Nat) (nb : Nat → List Nat) (rk : Nat → Int) (rs : List Int) (a : Nat) (full : List Nat) (v s : Value) : Prop :=
  ∃ (m : Nat) (bs : List Nat) (z : Int), s = .int .i64 z ∧ m = bs.length ∧ wr.ownsRow lo 3 1 v m (ints (nats bs)) ∧ wr.ownsRow w.heap.size 3 1 (.slice (some ⟨g, 0, none⟩) n c) n (ints rs) ∧ Below w.heap.size w wr ∧ g < lo ∧ lo ≤ wr.heap.size ∧ m ≤ 1000001 ∧
    ((z = -1 ∧ bs.reverse = full) ∨ ∃ (ci : Nat) (l : List Nat), z = ci ∧ ci < n ∧ Back rk rs nb a ci l ∧ l ++ bs.reverse = full ∧ 0 ≤ at_ rs ci ∧ (m : Int) + at_ rs ci ≤ 1000000)
def wayM (rs : List Int) (v : Value) : Nat := if intOf v < 0 then 0 else (at_ rs (intOf v).toNat).toNat + 1
theorem wayM_nat (rs : List Int) (k : Nat) : wayM rs (.int .i64 (k : Int)) = (at_ rs k).toNat + 1 := by
  have : ¬ intOf (Value.int .i64 (k : Int)) < 0 := by simp [intOf]
  unfold wayM
  rw [if_neg this]
  simp [intOf]
theorem wayM_neg (rs : List Int) : wayM rs (.int .i64 (-1)) = 0 := by
  have : intOf (Value.int .i64 (-1)) < 0 := by simp [intOf]
  unfold wayM
  rw [if_pos this]
set_option maxRecDepth 100000 in
set_option maxHeartbeats 2000000 in
theorem iWay_ok (pp : List (List Int)) (A : Option Addr) (c : Nat) (w : World) (hp : Pnd w w.heap.size A pp) (load : Int) (a b : Nat) (ha : a < cnt pp) (hb : b < cnt pp) :
    Calls Try.prog 37 #[.slice A pp.length c, .int .i64 load, .int .i64 a, .int .i64 b] w (OutWay (cnt pp) (nbP pp) (okF pp load) (rkF pp) a b w) := by
  have hg := hp.2
  have Hv := Lib.hid hp.1
  have hc := pond_cnt hp.1
  have Gr0 := gr_pond hp.1
  have HOK : Hid (∀ i, okF pp load i = true → i < cnt pp) := Lib.hid fun i hi => okF_lt i hi
  have HR1 : Hid (∀ k, 1 ≤ rkF pp k) := Lib.hid (rkF_ge pp)
  have Hf : Hid (inB (a : Int) 0 ((cnt pp : Nat) - 1) = true) := Lib.hid (inB_mk (by omega))
  have Ht : Hid (inB (b : Int) 0 ((cnt pp : Nat) - 1) = true) := Lib.hid (inB_mk (by omega))
  obtain ⟨i0, hi, hz0, hz1, hz2⟩ := info_parts info_int
  go_enter Try.func37, Try.ntmps37
  go_wp2_with fail
  refine (iVal_is _ _ _ _ _ hg Hv.out).mono ?_
  rintro e w' ⟨rfl, rfl⟩
  go_wp2_with fail
  refine (vc_is hp Hf.out).mono ?_
  rintro e w' ⟨rfl, rfl⟩
  go_wp2_with fail
  refine (vc_is hp Ht.out).mono ?_
  rintro e w' ⟨rfl, rfl⟩
  go_wp2_with fail
  refine (iRisks_ok pp A c w hp load a ha).mono ?_
  rintro e w1 ⟨rs, hrs, A1, c1, hl1, rfl, o1, b1⟩
  obtain ⟨g, rfl, hg1, hgl, _, _⟩ := own_some o1 (by omega)
  have HRS := Lib.hid hrs
  have HL := Lib.hid hl1
  have hbd := hrs.bnds HR1.out b
  have hcb := own_cell o1 (ints_at' (zs := rs) (k := b) (by rw [hl1]; exact hb))
  clear hrs hl1
  by_cases hneg : at_ rs b < 0
  · have R : OutWay (cnt pp) (nbP pp) (okF pp load) (rkF pp) a b w (.returned (.slice none 0 0)) w1 := ⟨rs, HRS.out, .inl ⟨hneg, _, _, rfl, rfl, ⟨rfl, .inl ⟨rfl, rfl⟩⟩, b1⟩⟩
    have HR := Lib.hid R
    clear R o1 b1
    go_wp2
    go_ret
    exact HR.out
  · have h0 : 0 ≤ at_ rs b := by omega
    obtain ⟨full, hfull⟩ := HRS.out.back Gr0 HOK.out HR1.out _ (Nat.le_refl _) h0
    have HFull := Lib.hid hfull
    have one : (w1.alloc (.cells #[] 3)).ownsRow w1.heap.size 3 1 (.slice (some ⟨w1.heap.size, 0, none⟩) 0 0) 0 (ints (nats [])) := own_empty w1 _
    have HST := Lib.hid (show WayR w (w1.alloc (.cells #[] 3)) (cnt pp) g c1 w1.heap.size (nbP pp) (rkF pp) rs a full (.slice (some ⟨w1.heap.size, 0, none⟩) 0 0) (.int .i64 (b : Int)) from
      ⟨0, [], b, rfl, rfl, one, own_alloc o1 _, b1.alloc b1.size _, hgl, by simp, by omega, .inr ⟨b, full, rfl, hb, hfull, by simp, h0, by have := hbd.2; simpa using this⟩⟩)
    clear one o1 b1 hfull hgl
    go_wp2
    generalize hlo : w1.heap.size = lo at HST
    go_loopw [10, 11] (fun v s wr => WayR w wr (cnt pp) g c1 lo (nbP pp) (rkF pp) rs a full v s) (fun _ s _ => wayM rs s)
    case atStart => rw [← hlo] at HST ⊢; exact HST.out
    case round =>
      obtain ⟨m, bs, z, rfl, hm, hown, hor, hbel, hglo, hlos, hm1, hcase⟩ := hrel
      have HM := Lib.hid hm
      clear hm
      rcases hcase with ⟨rfl, hrev⟩ | ⟨ci, l, rfl, hcn, hback, hcat, hc0, hms⟩
      · have HRev := Lib.hid hrev
        clear hrev
        have HBS : Hid ((nats bs).length = m) := Lib.hid (by rw [nats_length]; exact HM.out.symm)
        obtain ⟨A7, c7, rfl⟩ := own_form hown
        have hrb := Rd.own hown
        go_wp2_with fail
        refine (turnedList_any m (nats bs) HBS.out _ _ wr hrb (by omega)).mono ?_
        intro e w5 h5
        have hrv : (nats bs).reverse = nats full := by rw [← HRev.out]; simp [nats]
        rw [hrv] at h5
        have hfl : (nats full).length = m := by rw [← hrv, List.length_reverse]; exact HBS.out
        obtain ⟨A8, c8, _, rfl, h52, h53⟩ := out_n (n := m) hfl h5
        have R : OutWay (cnt pp) (nbP pp) (okF pp load) (rkF pp) a b w (.returned (.slice A8 m c8)) w5 :=
          ⟨rs, HRS.out, .inr ⟨h0, full, HFull.out, out_mk (n := m) hfl (own_base h52 hbel.size) (hbel.trans (h53.mono hbel.size))⟩⟩
        have HR := Lib.hid R
        clear h5 hrv hfl h52 h53
        clear R hown hor hbel hrb
        go_wp2
        go_ret
        exact HR.out
      · have HBack := Lib.hid hback
        have HCat := Lib.hid hcat
        have hms1 : m ≤ 1000000 := by omega
        clear hback hcat
        go_wp2_with (at_builtin; refine wpList_append_own _ rfl _ _ 26 rfl (lo) 3 i0 (.int .i64 0) 1 8 Try.underlying26 hi hz0 hz1 hz2 rfl (by decide) _ _ _ rfl (hown.alloc _) ⟨wr.heap.size, 0, none⟩ 1 1 [.int .i64 (ci : Int)] rfl rfl ?c1 ?c2 ?c3 ?c4 ?c5 ?_)
        first | (case c1 => first | exact one_new _ _ _ _ rfl | exact one_new _ _ _ _ (by simp)) | skip
        case c2 => first | rfl | (intro u hu; simp at hu; subst hu; rfl)
        case c3 => unfold maxLen; omega
        case c4 => omega
        case c5 => have := hbel.size; simp; omega
        · intro v' w5 hown' hgrow _
          have hR : w5.ownsRow lo 3 1 v' (m + 1) (ints (nats (bs ++ [ci]))) := by rw [← ints_nats_snoc]; exact hown'
          have hor5 := own_grown (own_alloc hor _) hgrow (fun q hq e => by have := own_block hown q hq; simp [Value.ownBlock] at e; omega)
          have hb5 : Below w.heap.size w w5 := (hbel.alloc hbel.size _).grown hgrow (by have := hbel.size; simp; omega) (fun q hq => by have := own_block hown q hq; have := own_block hor g rfl; omega)
          have hlo5 : lo ≤ w5.heap.size := by have := hgrow.size; simp at this; omega
          have hp5 := hp.up hb5
          have hr5 := Rd.own hor5
          have HO := Lib.hid hR
          clear hown' hgrow hR hown hor hbel
          go_wp2_with fail
          refine (cellBefore_any pp A c w5 hp5 rs HL.out _ _ hr5 ci hcn (HRS.out.bnds HR1.out)).mono ?_
          rw [HRS.out.look Gr0 HOK.out HR1.out hc0 (HRS.out.okp HR1.out hc0)]
          rintro e w6 ⟨z, rfl, hz, b6⟩
          have ho6 := own_below HO.out b6
          have hor6 := own_below hor5 b6
          have hb6 := hb5.trans (b6.mono hb5.size)
          have hlo6 : lo ≤ w6.heap.size := by have := b6.size; omega
          have hnew : (z = -1 ∧ (bs ++ [ci]).reverse = full) ∨ ∃ (ck : Nat) (l' : List Nat), z = ck ∧ ck < cnt pp ∧ Back (rkF pp) rs (nbP pp) a ck l' ∧ l' ++ (bs ++ [ci]).reverse = full ∧ 0 ≤ at_ rs ck ∧ ((m + 1 : Nat) : Int) + at_ rs ck ≤ 1000000 ∧ at_ rs ck < at_ rs ci := by
            by_cases hca : ci = a
            · subst hca
              rw [if_pos rfl] at hz
              rcases hz with ⟨_, rfl⟩ | ⟨k, hk, _⟩
              · refine .inl ⟨rfl, ?_⟩
                have := HBack.out.first
                rw [← HCat.out, this]; simp
              · cases hk
            · rw [if_neg hca] at hz
              obtain ⟨k0, hk0⟩ := HRS.out.prev Gr0 HOK.out HR1.out hc0 hca
              rcases hz with ⟨h, _⟩ | ⟨k, hk, rfl⟩
              · rw [hk0] at h; cases h
              · obtain ⟨hk1, hk2, hk3⟩ := prevF_some hk
                obtain ⟨l', rfl, hl'⟩ := HBack.out.split hca hk
                have := HR1.out ci
                exact .inr ⟨k, l', rfl, Gr0.lt ci k hcn hk1, hl', by rw [← HCat.out]; simp, hk2, by omega, by omega⟩
          have HNew := Lib.hid hnew
          have HO6 := Lib.hid ho6
          have HOr6 := Lib.hid hor6
          clear hnew hz ho6 hor6 hr5 hor5 hp5 b6 hb5
          have hz3 : -1 ≤ z := by rcases HNew.out with ⟨h, _⟩ | ⟨ck, _, h, _⟩ <;> omega
          go_wp2
          go_roundw
          case rel =>
            refine ⟨m + 1, bs ++ [ci], z, rfl, by rw [List.length_append, ← HM.out]; rfl, HO6.out, HOr6.out, hb6, hglo, hlo6, by omega, ?_⟩
            rcases HNew.out with h | ⟨ck, l', h1, h2, h3, h4, h5, h6, _⟩
            · exact .inl h
            · exact .inr ⟨ck, l', h1, h2, h3, h4, h5, h6⟩
          case measure =>
            show wayM rs (.int .i64 z) < wayM rs (Value.int IntKind.i64 (ci : Int))
            rw [wayM_nat]
            rcases HNew.out with ⟨rfl, _⟩ | ⟨ck, l', rfl, _, _, _, h5, _, h7⟩
            · rw [wayM_neg]; omega
            · rw [wayM_nat]; omega

end Go.Proofs.Ytbnggakfogcalad

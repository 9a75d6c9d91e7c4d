/- What the law FnWayTo asks of a way. -/
import Derived.Test.YtbnggakfogcaladLawM
import Derived.Test.YtbnggakfogcaladHelps
namespace Go.Proofs.Ytbnggakfogcalad
open Go.RowKit
set_option linter.unusedVariables false
set_option linter.unusedSimpArgs false
theorem Back.facts {rk : Nat → Int} {rs : List Int} {nb : Nat → List Nat} {a c : Nat} {l : List Nat} (hs : at_ rs a = rk a) (hp : ∀ i, 1 ≤ rk i) (h : Back rk rs nb a c l) :
    0 < l.length ∧ l[0]? = some a ∧ l[l.length - 1]? = some c ∧ (∀ x ∈ l, 0 ≤ at_ rs x) ∧ ∀ i d e, l[i]? = some d → l[i + 1]? = some e → d ∈ nb e ∧ at_ rs e = at_ rs d + rk e := by
  induction h with
  | base =>
    refine ⟨by simp, rfl, rfl, fun x hx => ?_, fun i d e h1 h2 => ?_⟩
    · obtain rfl : x = a := by simpa using hx
      rw [hs]
      have := hp x
      omega
    · simp at h2
  | @step c k l hc hpv hb ih =>
    obtain ⟨i1, i2, i3, i4, i5⟩ := ih
    obtain ⟨p1, p2, p3⟩ := prevF_some hpv
    have hk := hp c
    refine ⟨by simp, ?_, ?_, fun x hx => ?_, fun i d e h1 h2 => ?_⟩
    · rw [List.getElem?_append_left i1]; exact i2
    · simp
    · rcases List.mem_append.1 hx with h | h
      · exact i4 x h
      · obtain rfl : x = c := by simpa using h
        omega
    · by_cases hi : i + 1 < l.length
      · rw [List.getElem?_append_left (by omega)] at h1
        rw [List.getElem?_append_left hi] at h2
        exact i5 i d e h1 h2
      · by_cases hj : i + 1 = l.length
        · rw [List.getElem?_append_left (by omega)] at h1
          have e1 : l.length - 1 = i := by omega
          rw [e1, h1] at i3
          injection i3 with i3
          rw [List.getElem?_append_right (by omega), hj] at h2
          simp at h2
          subst i3 h2
          exact ⟨p1, by omega⟩
        · rw [List.getElem?_eq_none (by simp; omega)] at h2; cases h2
theorem path_incr {rk : Nat → Int} {rs : List Int} {nb : Nat → List Nat} {l : List Nat} (hp : ∀ i, 1 ≤ rk i) (H : ∀ i d e, l[i]? = some d → l[i + 1]? = some e → d ∈ nb e ∧ at_ rs e = at_ rs d + rk e) :
    ∀ (j i d e : Nat), i < j → l[i]? = some d → l[j]? = some e → at_ rs d < at_ rs e := by
  intro j
  induction j with
  | zero => intro i d e h; omega
  | succ j ih =>
    intro i d e h hd he
    have hj : j < l.length := by have := (List.getElem?_eq_some_iff.1 he).1; omega
    have hf : l[j]? = some (l[j]'hj) := List.getElem?_eq_getElem hj
    have h1 := (H j _ e hf he).2
    have h2 := hp e
    by_cases hij : i = j
    · subst hij
      rw [hf] at hd
      injection hd with hd
      rw [hd] at h1
      omega
    · have := ih i d _ (by omega) hd hf
      omega
/-- what is added up before a step -/
def cumF (rs : List Int) (l : List Nat) (i : Nat) : Int := if i = 0 then 0 else at_ rs (l.getD (i - 1) 0)
theorem cumF_succ {rs : List Int} {l : List Nat} {i c : Nat} (h : l[i]? = some c) : cumF rs l (i + 1) = at_ rs c := by
  unfold cumF
  rw [if_neg (by omega), List.getD_eq_getElem?_getD, show i + 1 - 1 = i by omega, h]; rfl
theorem step_sq {W n c d : Nat} (hW : 0 < W) (h : d ∈ nbs W n c) : (((d % W : Nat) : Int) - ((c % W : Nat) : Int)) * (((d % W : Nat) : Int) - ((c % W : Nat) : Int)) + (((d / W : Nat) : Int) - ((c / W : Nat) : Int)) * (((d / W : Nat) : Int) - ((c / W : Nat) : Int)) = 1 := by
  have hc := Nat.div_add_mod c W
  have hcm := Nat.mod_lt c hW
  have key : ∀ q r : Nat, d = W * q + r → r < W → d % W = r ∧ d / W = q := by
    intro q r e hr
    subst e
    exact ⟨by rw [Nat.mul_add_mod, Nat.mod_eq_of_lt hr], by rw [Nat.mul_add_div hW, Nat.div_eq_of_lt hr]; omega⟩
  rcases nbs_mem.1 h with ⟨h1, h2⟩ | ⟨h1, h2⟩ | ⟨h1, h2⟩ | ⟨h1, h2⟩
  · have hq : 0 < c / W := Nat.div_pos h1 hW
    obtain ⟨q, hq1⟩ : ∃ q, c / W = q + 1 := ⟨c / W - 1, by omega⟩
    obtain ⟨e1, e2⟩ := key q (c % W) (by rw [hq1, Nat.mul_add] at hc; omega) hcm
    rw [e1, e2, hq1, show ((c % W : Nat) : Int) - ((c % W : Nat) : Int) = 0 by omega, show ((q : Nat) : Int) - ((q + 1 : Nat) : Int) = -1 by omega]; rfl
  · obtain ⟨e1, e2⟩ := key (c / W) (c % W - 1) (by omega) (by omega)
    rw [e1, e2, show ((c % W - 1 : Nat) : Int) - ((c % W : Nat) : Int) = -1 by omega, show ((c / W : Nat) : Int) - ((c / W : Nat) : Int) = 0 by omega]; rfl
  · obtain ⟨e1, e2⟩ := key (c / W) (c % W + 1) (by omega) (by omega)
    rw [e1, e2, show ((c % W + 1 : Nat) : Int) - ((c % W : Nat) : Int) = 1 by omega, show ((c / W : Nat) : Int) - ((c / W : Nat) : Int) = 0 by omega]; rfl
  · obtain ⟨e1, e2⟩ := key (c / W + 1) (c % W) (by rw [Nat.mul_add]; omega) hcm
    rw [e1, e2, show ((c % W : Nat) : Int) - ((c % W : Nat) : Int) = 0 by omega, show ((c / W + 1 : Nat) : Int) - ((c / W : Nat) : Int) = 1 by omega]; rfl
structure WayF (pp : List (List Int)) (load : Int) (a b : Nat) (ts rs : List Int) (S : Nat → Int) : Prop where
  pos : 0 < ts.length
  fst : ts[0]? = some (a : Int)
  lst : ts[ts.length - 1]? = some (b : Int)
  risk : IsRisk (cnt pp) (nbP pp) (okF pp load) (rkF pp) a rs
  zero : S 0 = 0
  all : S ts.length = at_ rs b
  at_ : ∀ i, i < ts.length → ∃ c : Nat, ts[i]? = some (c : Int) ∧ c < cnt pp ∧ okF pp load c = true ∧ S (i + 1) = S i + rkF pp c ∧ 0 ≤ S i ∧ S (i + 1) ≤ 1000000 ∧ (∀ j z, j < i → ts[j]? = some z → z ≠ (c : Int)) ∧
    (0 < i → ∃ d : Nat, ts[i - 1]? = some (d : Int) ∧ d < cnt pp ∧ d ∈ nbP pp c)
theorem nats_of_at {l : List Nat} {i c : Nat} (h : l[i]? = some c) : (nats l)[i]? = some (c : Int) := by unfold nats; rw [List.getElem?_map, h]; rfl
theorem way_facts {pp : List (List Int)} {load : Int} {a b : Nat} {ts : List Int} (h : WayRel pp load (a : Int) (b : Int) ts) (hv : pondB pp = true) (ha : a < cnt pp) (hb : b < cnt pp) (h0 : 0 < ts.length) : ∃ rs S, WayF pp load a b ts rs S := by
  have hrch := (way_pos h hv ha hb).1 h0
  obtain ⟨rs, hr, h2⟩ := way_rel h hv ha hb
  rcases h2 with ⟨_, rfl⟩ | ⟨h4, l, h5, rfl⟩
  · simp at h0
  have hok : okF pp load a = true := Rch.left hrch
  have hself := hr.self (rkF_ge pp) hok
  obtain ⟨f1, f2, f3, f4, f5⟩ := h5.facts hself (rkF_ge pp)
  have hlen := nats_length l
  have okc : ∀ {i c : Nat}, l[i]? = some c → okF pp load c = true ∧ c < cnt pp ∧ 0 ≤ at_ rs c := fun {i c} hc => by
    have h1 := f4 c (List.mem_of_getElem? hc)
    have h2 := ((hr.nn (rkF_ge pp)).1 h1).right
    exact ⟨h2, okF_lt c h2, h1⟩
  refine ⟨rs, cumF rs l, ⟨h0, nats_of_at f2, by rw [hlen]; exact nats_of_at f3, hr, rfl, ?_, ?_⟩⟩
  · rw [hlen]
    have := cumF_succ (rs := rs) f3
    rwa [show l.length - 1 + 1 = l.length by omega] at this
  · intro i hi
    rw [hlen] at hi
    have hc : l[i]? = some (l[i]'hi) := List.getElem?_eq_getElem hi
    generalize l[i]'hi = c at hc
    obtain ⟨g1, g2, g3⟩ := okc hc
    refine ⟨c, nats_of_at hc, g2, g1, ?_, ?_, ?_, ?_, ?_⟩
    · rw [cumF_succ hc]
      cases i with
      | zero =>
        rw [f2] at hc
        injection hc with hc
        subst hc
        show _ = cumF rs l 0 + _
        rw [hself]
        simp [cumF]
      | succ j =>
        have hj : l[j]? = some (l[j]'(by omega)) := List.getElem?_eq_getElem (by omega)
        rw [cumF_succ hj]
        exact (f5 j _ c hj hc).2
    · cases i with
      | zero => simp [cumF]
      | succ j =>
        have hj : l[j]? = some (l[j]'(by omega)) := List.getElem?_eq_getElem (by omega)
        rw [cumF_succ hj]
        exact (okc hj).2.2
    · rw [cumF_succ hc]; exact hr.bnd c
    · intro j z hj hz he
      have hjl : l[j]? = some (l[j]'(by omega)) := List.getElem?_eq_getElem (by omega)
      rw [nats_of_at hjl] at hz
      injection hz with hz
      have hlt := path_incr (rkF_ge pp) f5 i j _ c hj hjl hc
      have : l[j]'(by omega) = c := by omega
      rw [this] at hlt
      omega
    · intro hi0
      obtain ⟨j, rfl⟩ : ∃ j, i = j + 1 := ⟨i - 1, by omega⟩
      have hj : l[j]? = some (l[j]'(by omega)) := List.getElem?_eq_getElem (by omega)
      exact ⟨_, nats_of_at hj, (okc hj).2.1, (f5 j _ c hj hc).1⟩
theorem isIn_no (zs : List Int) (i : Nat) (hi : i ≤ zs.length) (A : Option Addr) (c : Nat) (w : World) (B : Nat) (hr : Rd w B A (ints zs)) (n : Int) (hl : zs.length ≤ 1048576) (hn : Hid (∀ j z, j < i → zs[j]? = some z → z ≠ n)) :
    Calls Try.prog 31 #[.slice A i c, .int .i64 n] w fun e w' => e = .returned (.bool false) ∧ w = w' := by
  go_enter Try.func31, Try.ntmps31
  go_wp2
  go_loop [5] (fun q => ∃ k : Nat, k ≤ i ∧ q = .int .i64 k) (fun q => i - (intOf q).toNat)
  case atStart => exact ⟨0, Nat.zero_le _, rfl⟩
  case round =>
    obtain ⟨k, hk, rfl⟩ := hrel
    by_cases hlt : k < i
    · obtain ⟨b, off, z, rfl, hb, hz, hc⟩ := hr.int_ (k := k) (by omega)
      have hne : (z == n) = false := beq_eq_false_iff_ne.2 (hn.out k z hlt hz.out)
      go_wp2
      go_round
      case rel => exact ⟨k + 1, by omega, by go_num⟩
      case measure => simp [intOf]; omega
    · go_wp2
      go_ret
      exact ⟨rfl, rfl⟩

end Go.Proofs.Ytbnggakfogcalad

/- Contracts of chapter 6's model: whether all customers can be served in time. -/
import Derived.Test.YtjjddamblijffaaKServeI
import Derived.Test.YtjjddamblijffaaKVisitS
import Derived.Test.YtjjddamblijffaaKSweepS
namespace Go.Proofs.Ytjjddamblijffaa
open Go.RowKit
set_option linter.unusedVariables false
set_option linter.unusedSimpArgs false
theorem sooF_bd {S : List Cu} {n : Nat} {st : Int} (hV : AllV S n) : ∀ {d f : Nat} {high : Bool}, f + d < n → -1 ≤ sooF S st d f high ∧ sooF S st d f high ≤ 2000
  | 0, f, high, h => by
    have := (hV f (by omega)).2
    have := dst_ge st (cuA S f).1
    unfold sooF
    split <;> omega
  | d + 1, f, high, h => by
    have hE : (endC S f (d + 1) high).2.1 ≤ 2000 := by
      unfold endC
      split
      · exact (hV _ h).2.2
      · exact (hV f (by omega)).2.2
    have g0 : ∀ t0 o0, -1 ≤ soo1 t0 o0 (endC S f (d + 1) high) ∧ soo1 t0 o0 (endC S f (d + 1) high) ≤ 2000 := fun t0 o0 => by
      unfold soo1
      split
      · next g => have := g.1; unfold sooC at *; have := dst_ge o0.1 (endC S f (d + 1) high).1; omega
      · omega
    unfold sooF
    generalize endC S f (d + 1) high = c at *
    generalize sooF S st d (inner f high) true = t1
    generalize endC S (inner f high) d true = o1
    have h1 := g0 (sooF S st d (inner f high) false) (endC S (inner f high) d false)
    unfold soo2
    split
    · next g => have := g.1; unfold sooC at *; have := dst_ge o1.1 c.1; omega
    · exact h1
structure SooP (cs : List Cu) (n : Nat) (st : Int) : Prop where
  len : cs.length = n
  n8 : n ≤ 8
  ok : vcB cs = true
  s1 : -100 ≤ st
  s2 : st ≤ 100
theorem SooP.allV {cs : List Cu} {n : Nat} {st : Int} (P : SooP cs n st) : AllV (swS cs) n := allV_sw P.ok P.len
/-- the customer at a place of the sweep: its number, and its three cells -/
theorem SooP.at_ {cs : List Cu} {n : Nat} {st : Int} (P : SooP cs n st) {w : World} {B B' br oro c : Nat} {bl ol : Nat} (hr : Rd w B (some ⟨bl, ol, none⟩) (custV cs)) (hro : Rd w B' (some ⟨br, oro, none⟩) (ints (nats (ordS cs n)))) {p : Nat} (hp : p < n) :
    ∃ (i : Nat) (x d : Int), i < n ∧ Hid (cuA (swS cs) p = (x, d, (cuA cs i).2.2)) ∧ ((-100 ≤ x ∧ x ≤ 100) ∧ (0 ≤ d ∧ d ≤ 2000)) ∧ w.cell? ⟨br, oro + p, none⟩ = some (.int .i64 (i : Int)) ∧ w.cell? ⟨bl, ol + i * 3, none⟩ = some (.int .i64 x) ∧ w.cell? ⟨bl, ol + i * 3 + 1, none⟩ = some (.int .i64 d) := by
  have hO := ordS_ok cs n
  obtain ⟨i, hi⟩ : ∃ i, (ordS cs n)[p]? = some i := ⟨_, List.getElem?_eq_getElem (by rw [hO.len]; exact hp)⟩
  have hin := (hO.of p i hi).1
  obtain ⟨b1, off, x, d, v, e, hb1, hz, hc, hc2, hc3⟩ := hr.cust_ (k := i) (by rw [P.len]; exact hin)
  injection e with e
  injection e with e1 e2
  subst e1 e2
  obtain ⟨b2, off2, e, hb2, hcz⟩ := hro.at_ (k := p) (x := .int .i64 (i : Int)) (by rw [ints, nats, List.getElem?_map, List.getElem?_map, hi]; rfl)
  injection e with e
  injection e with e1 e2
  subst e1 e2
  have hS : cuA (swS cs) p = cuA cs i := swS_at (by rw [P.len]; exact hi)
  have hv := P.allV p hp
  rw [hS, hz.out] at hv
  exact ⟨i, x, d, hin, Lib.hid (by rw [hS, hz.out]), hv, hcz, hc, hc2⟩
def bstF (S : List Cu) (st : Int) (d f : Nat) (high : Bool) (k : Nat) : Int := if k = 0 then -1 else if k = 1 then soo1 (sooF S st d (inner f high) false) (endC S (inner f high) d false) (endC S f (d + 1) high) else sooF S st (d + 1) f high
def SoonOK (cs : List Cu) (n : Nat) (st : Int) (d : Nat) : Prop := ∀ (f to : Nat) (high : Bool) (A Ar : Option Addr) (c cr : Nat) (w : World), to = f + d → to < n → Rd w w.heap.size A (custV cs) → Rd w w.heap.size Ar (ints (nats (ordS cs n))) →
  Calls Try.prog 69 #[.slice A n c, .slice Ar n cr, .int .i64 st, .int .i64 f, .int .i64 to, .bool high] w fun e w' => e = .returned (.int .i64 (sooF (swS cs) st d f high)) ∧ w = w'
theorem some_rd {w : World} {B : Nat} {A : Option Addr} {xs : List Value} (h : Rd w B A xs) (hn : xs ≠ []) : ∃ b off, A = some ⟨b, off, none⟩ := by
  obtain ⟨b, off, h1, _⟩ := h hn
  exact ⟨b, off, h1⟩
set_option maxRecDepth 100000 in
set_option maxHeartbeats 4000000 in
theorem soon_zero {cs : List Cu} {n : Nat} {st : Int} (P : SooP cs n st) : SoonOK cs n st 0 := fun f to high A Ar c cr w hto hn hr hro => by
  obtain rfl : to = f := by omega
  clear hto
  have hne : custV cs ≠ [] := fun e => by have := custV_len cs; rw [e, P.len] at this; simp at this; omega
  have hne2 : ints (nats (ordS cs n)) ≠ [] := fun e => by have := ints_length (nats (ordS cs n)); rw [e, ordS_len] at this; simp at this; omega
  obtain ⟨bl, ol, rfl⟩ := some_rd hr hne
  obtain ⟨br, oro, rfl⟩ := some_rd hro hne2
  obtain ⟨ci, cx, cd, hci, hzc, ⟨⟨cx1, cx2⟩, ⟨cd1, cd2⟩⟩, kc1, kc2, kc3⟩ := P.at_ (c := c) hr hro (p := to) hn
  have cA := fun w => sWay_any st cx ⟨P.s1, P.s2⟩ ⟨cx1, cx2⟩ w
  obtain ⟨w1a, w1b⟩ := dst_bd ⟨P.s1, P.s2⟩ ⟨cx1, cx2⟩
  have HR : Hid (sooF (swS cs) st 0 to high = if cd < dst st cx then -1 else dst st cx) := Lib.hid (by rw [sooF, hzc.out])
  generalize sooF (swS cs) st 0 to high = R at *
  generalize dst st cx = D at *
  have CW := Lib.hid cA
  have e3 : ((to : Int) == (to : Int)) = true := beq_iff_eq.2 rfl
  clear cA hro hr hzc
  by_cases hd : cd < D
  · have HT : Hid (R = -1) := Lib.hid (by rw [HR.out, if_pos hd])
    cases high
    all_goals
      go_enter Try.func69, Try.ntmps69
      go_wp2_with (go_at_call 77; refine (CW.out _).mono ?_; rintro e w' ⟨rfl, rfl⟩)
      go_ret
      exact ⟨ret_int HT.out.symm, rfl⟩
  · have HT : Hid (R = D) := Lib.hid (by rw [HR.out, if_neg hd])
    have hd2 : D ≤ cd := by omega
    cases high
    all_goals
      go_enter Try.func69, Try.ntmps69
      go_wp2_with (go_at_call 77; refine (CW.out _).mono ?_; rintro e w' ⟨rfl, rfl⟩)
      go_ret
      exact ⟨ret_int HT.out.symm, rfl⟩
set_option maxRecDepth 100000 in
set_option maxHeartbeats 8000000 in
theorem soon_low {cs : List Cu} {n d : Nat} {st : Int} (P : SooP cs n st) (IH : SoonOK cs n st d) (f : Nat) (A Ar : Option Addr) (c cr : Nat) (w : World) (hn : f + (d + 1) < n) (hr : Rd w w.heap.size A (custV cs)) (hro : Rd w w.heap.size Ar (ints (nats (ordS cs n)))) :
    Calls Try.prog 69 #[.slice A n c, .slice Ar n cr, .int .i64 st, .int .i64 f, .int .i64 ((f + (d + 1) : Nat) : Int), .bool false] w fun e w' => e = .returned (.int .i64 (sooF (swS cs) st (d + 1) f false)) ∧ w = w' := by
  have hne : custV cs ≠ [] := fun e => by have := custV_len cs; rw [e, P.len] at this; simp at this; omega
  have hne2 : ints (nats (ordS cs n)) ≠ [] := fun e => by have := ints_length (nats (ordS cs n)); rw [e, ordS_len] at this; simp at this; omega
  obtain ⟨bl, ol, rfl⟩ := some_rd hr hne
  obtain ⟨br, oro, rfl⟩ := some_rd hro hne2
  have h8 := P.n8
  have HP := Lib.hid P
  clear P hne hne2
  obtain ⟨to, hto⟩ : ∃ to, to = f + (d + 1) := ⟨_, rfl⟩
  obtain ⟨ci, cx, cd, hci, hzc, ⟨⟨cx1, cx2⟩, ⟨cd1, cd2⟩⟩, kc1, kc2, kc3⟩ := HP.out.at_ (c := c) hr hro (p := f) (by omega)
  have HE : Hid (endC (swS cs) f (d + 1) false = (cx, cd, (cuA cs ci).2.2)) := Lib.hid (by
    have h := hzc.out
    show cuA (swS cs) f = _
    exact h)
  obtain ⟨a, ha⟩ : ∃ a, a = f + 1 := ⟨_, rfl⟩
  obtain ⟨b, hb⟩ : ∃ b, b = a + d := ⟨_, rfl⟩
  obtain ⟨ai, ax, ad, hai, hza, ⟨⟨ax1, ax2⟩, _⟩, ka1, ka2, _⟩ := HP.out.at_ (c := c) hr hro (p := a) (by omega)
  obtain ⟨bi, bx, bd, hbi, hzb, ⟨⟨bx1, bx2⟩, _⟩, kb1, kb2, _⟩ := HP.out.at_ (c := c) hr hro (p := b) (by omega)
  have HIN : Hid (inner f false = a) := Lib.hid (by rw [ha]; rfl)
  have HO0 : Hid (endC (swS cs) a d false = (ax, ad, (cuA cs ai).2.2)) := Lib.hid hza.out
  have HO1 : Hid (endC (swS cs) a d true = (bx, bd, (cuA cs bi).2.2)) := Lib.hid (by show cuA (swS cs) (a + d) = _; rw [← hb]; exact hzb.out)
  have C0 := Lib.hid (IH a b false (some ⟨bl, ol, none⟩) (some ⟨br, oro, none⟩) c cr w (by rw [hb]) (by omega) hr hro)
  have C1 := Lib.hid (IH a b true (some ⟨bl, ol, none⟩) (some ⟨br, oro, none⟩) c cr w (by rw [hb]) (by omega) hr hro)
  obtain ⟨u1, u2⟩ := sooF_bd (st := st) HP.out.allV (d := d) (f := a) (high := false) (by omega)
  obtain ⟨u3, u4⟩ := sooF_bd (st := st) HP.out.allV (d := d) (f := a) (high := true) (by omega)
  obtain ⟨u5, u6⟩ := sooF_bd (st := st) HP.out.allV (d := d + 1) (f := f) (high := false) (by omega)
  have HB0 : Hid (bstF (swS cs) st d f false 0 = -1) := Lib.hid rfl
  have HB1 : Hid (bstF (swS cs) st d f false 1 = soo1 (sooF (swS cs) st d a false) (ax, ad, (cuA cs ai).2.2) (cx, cd, (cuA cs ci).2.2)) := Lib.hid (by unfold bstF; rw [if_neg (by omega), if_pos rfl, HIN.out, HO0.out, HE.out])
  have HB2 : Hid (bstF (swS cs) st d f false 2 = soo2 (bstF (swS cs) st d f false 1) (sooF (swS cs) st d a true) (bx, bd, (cuA cs bi).2.2) (cx, cd, (cuA cs ci).2.2)) := Lib.hid (by rw [HB1.out]; unfold bstF; rw [if_neg (by omega), if_neg (by omega), sooF, HIN.out, HO0.out, HO1.out, HE.out])
  have HBR : Hid (sooF (swS cs) st (d + 1) f false = bstF (swS cs) st d f false 2) := Lib.hid rfl
  obtain ⟨v1, v2⟩ : -1 ≤ bstF (swS cs) st d f false 1 ∧ bstF (swS cs) st d f false 1 ≤ 2000 := by
    rw [HB1.out]
    unfold soo1
    split
    · next g => have := g.1; have := g.2; unfold sooC at *; have := dst_ge ax cx; simp only at *; omega
    · omega
  rw [HBR.out] at u5 u6 ⊢
  have cA := fun w => sWay_any ax cx ⟨ax1, ax2⟩ ⟨cx1, cx2⟩ w
  have cB := fun w => sWay_any bx cx ⟨bx1, bx2⟩ ⟨cx1, cx2⟩ w
  obtain ⟨w1a, w1b⟩ := dst_bd ⟨ax1, ax2⟩ ⟨cx1, cx2⟩
  obtain ⟨w2a, w2b⟩ := dst_bd ⟨bx1, bx2⟩ ⟨cx1, cx2⟩
  have HS1 : Hid (∀ T, soo1 T (ax, ad, (cuA cs ai).2.2) (cx, cd, (cuA cs ci).2.2) = if 0 ≤ T ∧ T + dst ax cx ≤ cd then T + dst ax cx else -1) := Lib.hid fun T => rfl
  have HS2 : Hid (∀ b T, soo2 b T (bx, bd, (cuA cs bi).2.2) (cx, cd, (cuA cs ci).2.2) = if 0 ≤ T ∧ T + dst bx cx ≤ cd ∧ (b < 0 ∨ T + dst bx cx < b) then T + dst bx cx else b) := Lib.hid fun b T => rfl
  rw [HS1.out] at HB1
  rw [HS2.out] at HB2
  generalize bstF (swS cs) st d f false 1 = R1 at *
  generalize bstF (swS cs) st d f false 2 = R2 at *
  generalize sooF (swS cs) st d a false = T0 at *
  generalize sooF (swS cs) st d a true = T1 at *
  generalize dst ax cx = D0 at *
  generalize dst bx cx = D1 at *
  have CA := Lib.hid cA
  have CB := Lib.hid cB
  have e2 : (f : Int) + 1 = (a : Int) := by omega
  have e3 : ((f : Int) == (to : Int)) = false := beq_eq_false_iff_ne.2 (by omega)
  have e4 : ¬ (f : Int) = (to : Int) := by omega
  have e5 : to = b := by omega
  subst e5
  clear ha
  have hfl : f < n := by omega
  have htl : to < n := by omega
  have hal : a < n := by omega
  clear cA cB IH hro hr hzc hza hzb HE HO0 HO1 HIN HS1 HS2 HBR HB0
  rw [← hto] at hn ⊢
  clear hto hb
  -- low
  go_enter Try.func69, Try.ntmps69
  go_wp2
  go_loop [16, 17] (fun q i => ∃ k : Nat, k ≤ 2 ∧ i = .int .i64 k ∧ ((k = 0 ∧ q = .int .i64 (-1)) ∨ (k = 1 ∧ q = .int .i64 R1) ∨ (k = 2 ∧ q = .int .i64 R2))) (fun _ i => 2 - (intOf i).toNat)
  case atStart => exact ⟨0, by omega, rfl, .inl ⟨rfl, rfl⟩⟩
  case round =>
    obtain ⟨k, hk, rfl, hq⟩ := hrel
    rcases hq with ⟨rfl, rfl⟩ | ⟨rfl, rfl⟩ | ⟨rfl, rfl⟩
    · have CW := CA
      by_cases h0 : 0 ≤ T0
      · by_cases h1 : T0 + D0 ≤ cd
        · skip
          have HT : Hid (R1 = T0 + D0) := Lib.hid (by rw [HB1.out]; split <;> omega)
          go_wp2_with fail
          refine (C0.out).mono ?_
          rintro e w' ⟨rfl, rfl⟩
          go_wp2_with (go_at_call 77; refine (CW.out _).mono ?_; rintro e w' ⟨rfl, rfl⟩)
          go_round
          case rel => exact ⟨1, by omega, by go_num, .inr (.inl ⟨rfl, by rw [HT.out]⟩)⟩
          case measure => simp [intOf]
        · have h1' : cd < T0 + D0 := by omega
          have HT : Hid (R1 = -1) := Lib.hid (by rw [HB1.out]; split <;> omega)
          go_wp2_with fail
          refine (C0.out).mono ?_
          rintro e w' ⟨rfl, rfl⟩
          go_wp2_with (go_at_call 77; refine (CW.out _).mono ?_; rintro e w' ⟨rfl, rfl⟩)
          go_round
          case rel => exact ⟨1, by omega, by go_num, .inr (.inl ⟨rfl, by rw [HT.out]⟩)⟩
          case measure => simp [intOf]
      · have h0' : T0 < 0 := by omega
        have HT : Hid (R1 = -1) := Lib.hid (by rw [HB1.out]; split <;> omega)
        go_wp2_with fail
        refine (C0.out).mono ?_
        rintro e w' ⟨rfl, rfl⟩
        go_wp2_with (go_at_call 77; refine (CW.out _).mono ?_; rintro e w' ⟨rfl, rfl⟩)
        go_round
        case rel => exact ⟨1, by omega, by go_num, .inr (.inl ⟨rfl, by rw [HT.out]⟩)⟩
        case measure => simp [intOf]
    · have CW := CB
      by_cases h0 : 0 ≤ T1
      · by_cases h1 : T1 + D1 ≤ cd
        · by_cases h2 : R1 < 0
          · skip
            have HT : Hid (R2 = T1 + D1) := Lib.hid (by rw [HB2.out]; split <;> omega)
            go_wp2_with fail
            refine (C1.out).mono ?_
            rintro e w' ⟨rfl, rfl⟩
            go_wp2_with (go_at_call 77; refine (CW.out _).mono ?_; rintro e w' ⟨rfl, rfl⟩)
            go_round
            case rel => exact ⟨2, by omega, by go_num, .inr (.inr ⟨rfl, by rw [HT.out]⟩)⟩
            case measure => simp [intOf]
          · by_cases h3 : T1 + D1 < R1
            · have h2' : 0 ≤ R1 := by omega
              have HT : Hid (R2 = T1 + D1) := Lib.hid (by rw [HB2.out]; split <;> omega)
              go_wp2_with fail
              refine (C1.out).mono ?_
              rintro e w' ⟨rfl, rfl⟩
              go_wp2_with (go_at_call 77; refine (CW.out _).mono ?_; rintro e w' ⟨rfl, rfl⟩)
              go_round
              case rel => exact ⟨2, by omega, by go_num, .inr (.inr ⟨rfl, by rw [HT.out]⟩)⟩
              case measure => simp [intOf]
            · have h2' : 0 ≤ R1 := by omega
              have h3' : R1 ≤ T1 + D1 := by omega
              have HT : Hid (R2 = R1) := Lib.hid (by rw [HB2.out]; split <;> omega)
              go_wp2_with fail
              refine (C1.out).mono ?_
              rintro e w' ⟨rfl, rfl⟩
              go_wp2_with (go_at_call 77; refine (CW.out _).mono ?_; rintro e w' ⟨rfl, rfl⟩)
              go_round
              case rel => exact ⟨2, by omega, by go_num, .inr (.inr ⟨rfl, by rw [HT.out]⟩)⟩
              case measure => simp [intOf]
        · have h1' : cd < T1 + D1 := by omega
          have HT : Hid (R2 = R1) := Lib.hid (by rw [HB2.out]; split <;> omega)
          go_wp2_with fail
          refine (C1.out).mono ?_
          rintro e w' ⟨rfl, rfl⟩
          go_wp2_with (go_at_call 77; refine (CW.out _).mono ?_; rintro e w' ⟨rfl, rfl⟩)
          go_round
          case rel => exact ⟨2, by omega, by go_num, .inr (.inr ⟨rfl, by rw [HT.out]⟩)⟩
          case measure => simp [intOf]
      · have h0' : T1 < 0 := by omega
        have HT : Hid (R2 = R1) := Lib.hid (by rw [HB2.out]; split <;> omega)
        go_wp2_with fail
        refine (C1.out).mono ?_
        rintro e w' ⟨rfl, rfl⟩
        go_wp2_with (go_at_call 77; refine (CW.out _).mono ?_; rintro e w' ⟨rfl, rfl⟩)
        go_round
        case rel => exact ⟨2, by omega, by go_num, .inr (.inr ⟨rfl, by rw [HT.out]⟩)⟩
        case measure => simp [intOf]
    · go_wp2
      go_ret
      exact ⟨rfl, rfl⟩
set_option maxRecDepth 100000 in
set_option maxHeartbeats 8000000 in
theorem soon_high {cs : List Cu} {n d : Nat} {st : Int} (P : SooP cs n st) (IH : SoonOK cs n st d) (f : Nat) (A Ar : Option Addr) (c cr : Nat) (w : World) (hn : f + (d + 1) < n) (hr : Rd w w.heap.size A (custV cs)) (hro : Rd w w.heap.size Ar (ints (nats (ordS cs n)))) :
    Calls Try.prog 69 #[.slice A n c, .slice Ar n cr, .int .i64 st, .int .i64 f, .int .i64 ((f + (d + 1) : Nat) : Int), .bool true] w fun e w' => e = .returned (.int .i64 (sooF (swS cs) st (d + 1) f true)) ∧ w = w' := by
  have hne : custV cs ≠ [] := fun e => by have := custV_len cs; rw [e, P.len] at this; simp at this; omega
  have hne2 : ints (nats (ordS cs n)) ≠ [] := fun e => by have := ints_length (nats (ordS cs n)); rw [e, ordS_len] at this; simp at this; omega
  obtain ⟨bl, ol, rfl⟩ := some_rd hr hne
  obtain ⟨br, oro, rfl⟩ := some_rd hro hne2
  have h8 := P.n8
  have HP := Lib.hid P
  clear P hne hne2
  obtain ⟨to, hto⟩ : ∃ to, to = f + (d + 1) := ⟨_, rfl⟩
  obtain ⟨ci, cx, cd, hci, hzc, ⟨⟨cx1, cx2⟩, ⟨cd1, cd2⟩⟩, kc1, kc2, kc3⟩ := HP.out.at_ (c := c) hr hro (p := to) (by omega)
  have HE : Hid (endC (swS cs) f (d + 1) true = (cx, cd, (cuA cs ci).2.2)) := Lib.hid (by
    have h := hzc.out
    show cuA (swS cs) (f + (d + 1)) = _
    rw [← hto]; exact h)
  obtain ⟨a, ha⟩ : ∃ a, a = f := ⟨_, rfl⟩
  obtain ⟨b, hb⟩ : ∃ b, b = a + d := ⟨_, rfl⟩
  obtain ⟨ai, ax, ad, hai, hza, ⟨⟨ax1, ax2⟩, _⟩, ka1, ka2, _⟩ := HP.out.at_ (c := c) hr hro (p := a) (by omega)
  obtain ⟨bi, bx, bd, hbi, hzb, ⟨⟨bx1, bx2⟩, _⟩, kb1, kb2, _⟩ := HP.out.at_ (c := c) hr hro (p := b) (by omega)
  have HIN : Hid (inner f true = a) := Lib.hid (by rw [ha]; rfl)
  have HO0 : Hid (endC (swS cs) a d false = (ax, ad, (cuA cs ai).2.2)) := Lib.hid hza.out
  have HO1 : Hid (endC (swS cs) a d true = (bx, bd, (cuA cs bi).2.2)) := Lib.hid (by show cuA (swS cs) (a + d) = _; rw [← hb]; exact hzb.out)
  have C0 := Lib.hid (IH a b false (some ⟨bl, ol, none⟩) (some ⟨br, oro, none⟩) c cr w (by rw [hb]) (by omega) hr hro)
  have C1 := Lib.hid (IH a b true (some ⟨bl, ol, none⟩) (some ⟨br, oro, none⟩) c cr w (by rw [hb]) (by omega) hr hro)
  obtain ⟨u1, u2⟩ := sooF_bd (st := st) HP.out.allV (d := d) (f := a) (high := false) (by omega)
  obtain ⟨u3, u4⟩ := sooF_bd (st := st) HP.out.allV (d := d) (f := a) (high := true) (by omega)
  obtain ⟨u5, u6⟩ := sooF_bd (st := st) HP.out.allV (d := d + 1) (f := f) (high := true) (by omega)
  have HB0 : Hid (bstF (swS cs) st d f true 0 = -1) := Lib.hid rfl
  have HB1 : Hid (bstF (swS cs) st d f true 1 = soo1 (sooF (swS cs) st d a false) (ax, ad, (cuA cs ai).2.2) (cx, cd, (cuA cs ci).2.2)) := Lib.hid (by unfold bstF; rw [if_neg (by omega), if_pos rfl, HIN.out, HO0.out, HE.out])
  have HB2 : Hid (bstF (swS cs) st d f true 2 = soo2 (bstF (swS cs) st d f true 1) (sooF (swS cs) st d a true) (bx, bd, (cuA cs bi).2.2) (cx, cd, (cuA cs ci).2.2)) := Lib.hid (by rw [HB1.out]; unfold bstF; rw [if_neg (by omega), if_neg (by omega), sooF, HIN.out, HO0.out, HO1.out, HE.out])
  have HBR : Hid (sooF (swS cs) st (d + 1) f true = bstF (swS cs) st d f true 2) := Lib.hid rfl
  obtain ⟨v1, v2⟩ : -1 ≤ bstF (swS cs) st d f true 1 ∧ bstF (swS cs) st d f true 1 ≤ 2000 := by
    rw [HB1.out]
    unfold soo1
    split
    · next g => have := g.1; have := g.2; unfold sooC at *; have := dst_ge ax cx; simp only at *; omega
    · omega
  rw [HBR.out] at u5 u6 ⊢
  have cA := fun w => sWay_any ax cx ⟨ax1, ax2⟩ ⟨cx1, cx2⟩ w
  have cB := fun w => sWay_any bx cx ⟨bx1, bx2⟩ ⟨cx1, cx2⟩ w
  obtain ⟨w1a, w1b⟩ := dst_bd ⟨ax1, ax2⟩ ⟨cx1, cx2⟩
  obtain ⟨w2a, w2b⟩ := dst_bd ⟨bx1, bx2⟩ ⟨cx1, cx2⟩
  have HS1 : Hid (∀ T, soo1 T (ax, ad, (cuA cs ai).2.2) (cx, cd, (cuA cs ci).2.2) = if 0 ≤ T ∧ T + dst ax cx ≤ cd then T + dst ax cx else -1) := Lib.hid fun T => rfl
  have HS2 : Hid (∀ b T, soo2 b T (bx, bd, (cuA cs bi).2.2) (cx, cd, (cuA cs ci).2.2) = if 0 ≤ T ∧ T + dst bx cx ≤ cd ∧ (b < 0 ∨ T + dst bx cx < b) then T + dst bx cx else b) := Lib.hid fun b T => rfl
  rw [HS1.out] at HB1
  rw [HS2.out] at HB2
  generalize bstF (swS cs) st d f true 1 = R1 at *
  generalize bstF (swS cs) st d f true 2 = R2 at *
  generalize sooF (swS cs) st d a false = T0 at *
  generalize sooF (swS cs) st d a true = T1 at *
  generalize dst ax cx = D0 at *
  generalize dst bx cx = D1 at *
  have CA := Lib.hid cA
  have CB := Lib.hid cB
  have e2 : (to : Int) - 1 = (b : Int) := by omega
  have e3 : ((f : Int) == (to : Int)) = false := beq_eq_false_iff_ne.2 (by omega)
  have e4 : ¬ (f : Int) = (to : Int) := by omega
  have e5 : f = a := ha.symm
  subst e5
  have hfl : f < n := by omega
  have htl : to < n := by omega
  have hbl : b < n := by omega
  clear cA cB IH hro hr hzc hza hzb HE HO0 HO1 HIN HS1 HS2 HBR HB0
  rw [← hto] at hn ⊢
  clear hto hb
  -- high
  go_enter Try.func69, Try.ntmps69
  go_wp2
  go_loop [16, 17] (fun q i => ∃ k : Nat, k ≤ 2 ∧ i = .int .i64 k ∧ ((k = 0 ∧ q = .int .i64 (-1)) ∨ (k = 1 ∧ q = .int .i64 R1) ∨ (k = 2 ∧ q = .int .i64 R2))) (fun _ i => 2 - (intOf i).toNat)
  case atStart => exact ⟨0, by omega, rfl, .inl ⟨rfl, rfl⟩⟩
  case round =>
    obtain ⟨k, hk, rfl, hq⟩ := hrel
    rcases hq with ⟨rfl, rfl⟩ | ⟨rfl, rfl⟩ | ⟨rfl, rfl⟩
    · have CW := CA
      by_cases h0 : 0 ≤ T0
      · by_cases h1 : T0 + D0 ≤ cd
        · skip
          have HT : Hid (R1 = T0 + D0) := Lib.hid (by rw [HB1.out]; split <;> omega)
          go_wp2_with fail
          refine (C0.out).mono ?_
          rintro e w' ⟨rfl, rfl⟩
          go_wp2_with (go_at_call 77; refine (CW.out _).mono ?_; rintro e w' ⟨rfl, rfl⟩)
          go_round
          case rel => exact ⟨1, by omega, by go_num, .inr (.inl ⟨rfl, by rw [HT.out]⟩)⟩
          case measure => simp [intOf]
        · have h1' : cd < T0 + D0 := by omega
          have HT : Hid (R1 = -1) := Lib.hid (by rw [HB1.out]; split <;> omega)
          go_wp2_with fail
          refine (C0.out).mono ?_
          rintro e w' ⟨rfl, rfl⟩
          go_wp2_with (go_at_call 77; refine (CW.out _).mono ?_; rintro e w' ⟨rfl, rfl⟩)
          go_round
          case rel => exact ⟨1, by omega, by go_num, .inr (.inl ⟨rfl, by rw [HT.out]⟩)⟩
          case measure => simp [intOf]
      · have h0' : T0 < 0 := by omega
        have HT : Hid (R1 = -1) := Lib.hid (by rw [HB1.out]; split <;> omega)
        go_wp2_with fail
        refine (C0.out).mono ?_
        rintro e w' ⟨rfl, rfl⟩
        go_wp2_with (go_at_call 77; refine (CW.out _).mono ?_; rintro e w' ⟨rfl, rfl⟩)
        go_round
        case rel => exact ⟨1, by omega, by go_num, .inr (.inl ⟨rfl, by rw [HT.out]⟩)⟩
        case measure => simp [intOf]
    · have CW := CB
      by_cases h0 : 0 ≤ T1
      · by_cases h1 : T1 + D1 ≤ cd
        · by_cases h2 : R1 < 0
          · skip
            have HT : Hid (R2 = T1 + D1) := Lib.hid (by rw [HB2.out]; split <;> omega)
            go_wp2_with fail
            refine (C1.out).mono ?_
            rintro e w' ⟨rfl, rfl⟩
            go_wp2_with (go_at_call 77; refine (CW.out _).mono ?_; rintro e w' ⟨rfl, rfl⟩)
            go_round
            case rel => exact ⟨2, by omega, by go_num, .inr (.inr ⟨rfl, by rw [HT.out]⟩)⟩
            case measure => simp [intOf]
          · by_cases h3 : T1 + D1 < R1
            · have h2' : 0 ≤ R1 := by omega
              have HT : Hid (R2 = T1 + D1) := Lib.hid (by rw [HB2.out]; split <;> omega)
              go_wp2_with fail
              refine (C1.out).mono ?_
              rintro e w' ⟨rfl, rfl⟩
              go_wp2_with (go_at_call 77; refine (CW.out _).mono ?_; rintro e w' ⟨rfl, rfl⟩)
              go_round
              case rel => exact ⟨2, by omega, by go_num, .inr (.inr ⟨rfl, by rw [HT.out]⟩)⟩
              case measure => simp [intOf]
            · have h2' : 0 ≤ R1 := by omega
              have h3' : R1 ≤ T1 + D1 := by omega
              have HT : Hid (R2 = R1) := Lib.hid (by rw [HB2.out]; split <;> omega)
              go_wp2_with fail
              refine (C1.out).mono ?_
              rintro e w' ⟨rfl, rfl⟩
              go_wp2_with (go_at_call 77; refine (CW.out _).mono ?_; rintro e w' ⟨rfl, rfl⟩)
              go_round
              case rel => exact ⟨2, by omega, by go_num, .inr (.inr ⟨rfl, by rw [HT.out]⟩)⟩
              case measure => simp [intOf]
        · have h1' : cd < T1 + D1 := by omega
          have HT : Hid (R2 = R1) := Lib.hid (by rw [HB2.out]; split <;> omega)
          go_wp2_with fail
          refine (C1.out).mono ?_
          rintro e w' ⟨rfl, rfl⟩
          go_wp2_with (go_at_call 77; refine (CW.out _).mono ?_; rintro e w' ⟨rfl, rfl⟩)
          go_round
          case rel => exact ⟨2, by omega, by go_num, .inr (.inr ⟨rfl, by rw [HT.out]⟩)⟩
          case measure => simp [intOf]
      · have h0' : T1 < 0 := by omega
        have HT : Hid (R2 = R1) := Lib.hid (by rw [HB2.out]; split <;> omega)
        go_wp2_with fail
        refine (C1.out).mono ?_
        rintro e w' ⟨rfl, rfl⟩
        go_wp2_with (go_at_call 77; refine (CW.out _).mono ?_; rintro e w' ⟨rfl, rfl⟩)
        go_round
        case rel => exact ⟨2, by omega, by go_num, .inr (.inr ⟨rfl, by rw [HT.out]⟩)⟩
        case measure => simp [intOf]
    · go_wp2
      go_ret
      exact ⟨rfl, rfl⟩
theorem soon_any {cs : List Cu} {n : Nat} {st : Int} (P : SooP cs n st) : ∀ d, SoonOK cs n st d
  | 0 => soon_zero P
  | d + 1 => fun f to high A Ar c cr w hto hn hr hro => by
    subst hto
    cases high
    · exact soon_low P (soon_any P d) f A Ar c cr w hn hr hro
    · exact soon_high P (soon_any P d) f A Ar c cr w hn hr hro
set_option maxRecDepth 100000 in
set_option maxHeartbeats 2000000 in
theorem sServe_any (n : Nat) (cs : List Cu) (hl : cs.length = n) (A : Option Addr) (c : Nat) (hn : n ≤ maxLen) (w : World) (hr : Rd w w.heap.size A (custV cs)) (st : Int) :
    Calls Try.prog 33 #[.slice A n c, .int .i64 st] w fun e w' => e = .returned (.bool (csvT cs st)) ∧ Below w.heap.size w w' := by
  have cV := sVCs_any n cs hl A c hn w _ hr
  cases hv : vcB cs
  · rw [show csvT cs st = false by unfold csvT; rw [hv]; rfl]
    rw [hv] at cV
    have CV := Lib.hid cV
    clear hv cV
    go_enter Try.func33, Try.ntmps33
    go_wp2_with fail
    refine (CV.out).mono ?_
    rintro e w1 ⟨rfl, q1, rfl⟩
    go_wp2
    go_ret
    exact ⟨rfl, below_drewN (Below.refl _ _) _⟩
  rw [hv] at cV
  have CV := Lib.hid cV
  have h8 : n ≤ 8 := by rw [← hl]; exact (vcB_t hv).1
  cases hs : inB st (-100) 100
  · rw [show csvT cs st = false by unfold csvT; rw [hs]; simp]
    have HS := Lib.hid hs
    clear hv cV hs
    go_enter Try.func33, Try.ntmps33
    go_wp2_with fail
    refine (CV.out).mono ?_
    rintro e w1 ⟨rfl, q1, rfl⟩
    go_wp2_with fail
    refine (inR_is HS.out _).mono ?_
    rintro e w' ⟨rfl, rfl⟩
    go_wp2
    go_ret
    exact ⟨rfl, below_drewN (Below.refl _ _) _⟩
  have HF : Hid (csvT cs st = csvB cs st) := Lib.hid (by unfold csvT; rw [hv, hs]; rfl)
  obtain ⟨s1, s2⟩ := inB_t hs
  have HS := Lib.hid hs
  have HP : Hid (SooP cs n st) := Lib.hid ⟨hl, h8, hv, s1, s2⟩
  by_cases h0 : n = 0
  · subst h0
    have HT : Hid (csvT cs st = true) := Lib.hid (by rw [HF.out]; unfold csvB; rw [hl]; rfl)
    clear cV hv hs
    go_enter Try.func33, Try.ntmps33
    go_wp2_with fail
    refine (CV.out).mono ?_
    rintro e w1 ⟨rfl, q1, rfl⟩
    go_wp2_with fail
    refine (inR_is HS.out _).mono ?_
    rintro e w' ⟨rfl, rfl⟩
    go_wp2
    go_ret
    exact ⟨ret_bool HT.out.symm, below_drewN (Below.refl _ _) _⟩
  obtain ⟨m, hm⟩ : ∃ m, n = m + 1 := ⟨n - 1, by omega⟩
  have HT : Hid (csvT cs st = (decide (0 ≤ sooF (swS cs) st m 0 false) || decide (0 ≤ sooF (swS cs) st m 0 true))) := Lib.hid (by rw [HF.out]; exact soo_serve (by omega))
  have hne : ((n : Int) == 0) = false := beq_eq_false_iff_ne.2 (by omega)
  have hne2 : ¬ (n : Int) = 0 := by omega
  have hlast : (n : Int) - 1 = (m : Int) := by omega
  have hmn : m < n := by omega
  have CB := Lib.hid (fun (q : Nat) => sBy_any n (by omega) cs hl A c (w.drewN q) (hr.drewN q))
  have HLN : Hid ((nats (ordS cs n)).length = n) := Lib.hid (ordS_len cs n)
  clear cV hv hs hm hl HF
  generalize csvT cs st = R at *
  go_enter Try.func33, Try.ntmps33
  go_wp2_with fail
  refine (CV.out).mono ?_
  rintro e w1 ⟨rfl, q1, rfl⟩
  go_wp2_with fail
  refine (inR_is HS.out _).mono ?_
  rintro e w' ⟨rfl, rfl⟩
  go_wp2_with fail
  refine (CB.out q1).mono ?_
  rintro e w2 ⟨A2, c2, rfl, o2, b2⟩
  rw [HLN.out] at o2 ⊢
  have b02 := (below_drewN (Below.refl w.heap.size w) q1).trans b2
  have hr2 := (hr.below b02).more b02.size
  have rt2 := Rd.own o2
  have c0 := soon_any HP.out m 0 m false A A2 c c2 w2 (by omega) hmn hr2 rt2
  have c1 := soon_any HP.out m 0 m true A A2 c c2 w2 (by omega) hmn hr2 rt2
  have HB := Lib.hid b02
  generalize sooF (swS cs) st m 0 false = T0 at *
  generalize sooF (swS cs) st m 0 true = T1 at *
  have C0 := Lib.hid c0
  have C1 := Lib.hid c1
  clear c0 c1 hr2 rt2 b02 b2 o2
  by_cases g0 : 0 ≤ T0
  · have HR : Hid (R = true) := Lib.hid (by rw [HT.out, decide_eq_true g0]; rfl)
    go_wp2_with fail
    refine (C0.out).mono ?_
    rintro e w' ⟨rfl, rfl⟩
    go_wp2
    go_ret
    exact ⟨ret_bool HR.out.symm, HB.out⟩
  · have g0' : T0 < 0 := by omega
    have HR : Hid (R = decide (0 ≤ T1)) := Lib.hid (by rw [HT.out, decide_eq_false g0, Bool.false_or])
    clear g0
    by_cases g1 : 0 ≤ T1
    · have HR2 : Hid (R = true) := Lib.hid (by rw [HR.out, decide_eq_true g1])
      go_wp2_with fail
      refine (C0.out).mono ?_
      rintro e w' ⟨rfl, rfl⟩
      go_wp2_with fail
      refine (C1.out).mono ?_
      rintro e w' ⟨rfl, rfl⟩
      go_wp2
      go_ret
      exact ⟨ret_bool (by first | exact HR2.out.symm | (rw [HR2.out]; simp; omega)), HB.out⟩
    · have HR2 : Hid (R = false) := Lib.hid (by rw [HR.out, decide_eq_false g1])
      have g1' : T1 < 0 := by omega
      go_wp2_with fail
      refine (C0.out).mono ?_
      rintro e w' ⟨rfl, rfl⟩
      go_wp2_with fail
      refine (C1.out).mono ?_
      rintro e w' ⟨rfl, rfl⟩
      go_wp2
      go_ret
      exact ⟨ret_bool (by first | exact HR2.out.symm | (rw [HR2.out]; simp; omega)), HB.out⟩

end Go.Proofs.Ytjjddamblijffaa

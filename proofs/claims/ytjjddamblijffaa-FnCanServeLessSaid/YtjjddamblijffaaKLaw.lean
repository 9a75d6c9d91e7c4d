/- The laws of chapter 6: contracts in the forms that they use. -/
import Derived.Test.YtjjddamblijffaaKVisitS
import Derived.Test.YtjjddamblijffaaKSweepS
namespace Go.Proofs.Ytjjddamblijffaa
open Go.RowKit
set_option linter.unusedVariables false
set_option linter.unusedSimpArgs false
theorem sVC_k (cs : List Cu) (A : Option Addr) (c : Nat) (hn : cs.length ≤ maxLen) (w : World) (hr : Rd w w.heap.size A (custV cs)) :
    Calls Try.prog 17 #[.slice A cs.length c] w fun e w' => e = .returned (.bool (vcB cs)) ∧ Below w.heap.size w w' :=
  (sVCP_any _ cs rfl A c hn w _ hr).mono fun _ _ ⟨h, n, e⟩ => ⟨h, e ▸ below_drewN (Below.refl _ _) n⟩
theorem sVis_t {ts : List Int} {cs : List Cu} {st : Int} {os : List Int} (H : Hid (ts = visT cs st os)) (cs' : List Cu) (A : Option Addr) (c : Nat) (hn : cs.length ≤ maxLen) (os' : List Int) (hm : os.length ≤ 1048576) (Ao : Option Addr) (co : Nat) (w : World) (hr : Rd w w.heap.size A (custV cs)) (hro : Rd w w.heap.size Ao (ints os)) (st' : Int) (hcap : os.length ≤ co ∧ co ≤ maxLen) :
    Calls Try.prog 21 #[.slice A cs.length c, .int .i64 st, .slice Ao os.length co] w (OutI ts w) := by
  rw [H.out]; exact sVis_any _ _ cs rfl A c hn os rfl hm Ao co hcap w hr hro st
theorem iVis_t {ts : List Int} {cs : List Cu} {st : Int} {os : List Int} (H : Hid (ts = visT cs st os)) (cs' : List Cu) (A : Option Addr) (c : Nat) (hn : cs.length ≤ maxLen) (os' : List Int) (hm : os.length ≤ 1048576) (Ao : Option Addr) (co : Nat) (w : World) (hr : Rd w w.heap.size A (custV cs)) (hro : Rd w w.heap.size Ao (ints os)) (st' : Int) :
    Calls Try.prog 19 #[.slice A cs.length c, .int .i64 st, .slice Ao os.length co] w (OutI ts w) := by
  rw [H.out]; exact iVis_any _ _ cs rfl A c hn os rfl hm Ao co w hr hro st
theorem sSw_t {ts : List Int} {cs : List Cu} (H : Hid (ts = swT cs)) (cs' : List Cu) (A : Option Addr) (c : Nat) (hn : cs.length ≤ maxLen) (w : World) (hr : Rd w w.heap.size A (custV cs)) :
    Calls Try.prog 40 #[.slice A cs.length c] w (OutI ts w) := by
  rw [H.out]; exact sSweep_any _ cs rfl A c hn w hr
theorem iSw_t {ts : List Int} {cs : List Cu} (H : Hid (ts = swT cs)) (cs' : List Cu) (A : Option Addr) (c : Nat) (hn : cs.length ≤ maxLen) (w : World) (hr : Rd w w.heap.size A (custV cs)) :
    Calls Try.prog 29 #[.slice A cs.length c] w (OutI ts w) := by
  rw [H.out]; exact iSweep_any _ cs rfl A c hn w hr
def wantsTo (cs : List Cu) : Nat → Int
  | 0 => 0
  | k + 1 => wantsTo cs k + (cuA cs k).2.2
theorem wanS_perm {l m : List Cu} (h : l.Perm m) : wanS l = wanS m := by
  induction h with
  | nil => rfl
  | cons x _ ih => show x.2.2 + _ = x.2.2 + _; rw [ih]
  | swap x y l => show y.2.2 + (x.2.2 + wanS l) = x.2.2 + (y.2.2 + wanS l); omega
  | trans _ _ h1 h2 => rw [h1, h2]
theorem wantsTo_take (cs : List Cu) : ∀ k, k ≤ cs.length → wantsTo cs k = wanS (cs.take k)
  | 0, _ => by simp [wantsTo, wanS]
  | k + 1, h => by rw [wantsTo, wantsTo_take cs k (by omega), take_snoc (get_cuA (show k < cs.length by omega)), wanS_snoc]
theorem wants_pick {cs : List Cu} {os : List Int} (h : ordB cs.length os = true) : wantsTo cs cs.length = wanS (pick cs os) := by
  rw [wantsTo_take cs _ (Nat.le_refl _), List.take_length]
  exact (wanS_perm (pick_perm h)).symm
theorem wantsTo_bd {ks : List Cu} {n : Nat} (hv : ∀ i, i < n → 1 ≤ (cuA ks i).2.2 ∧ (cuA ks i).2.2 ≤ 50) : ∀ {k}, k ≤ n → 0 ≤ wantsTo ks k ∧ wantsTo ks k ≤ 50 * (k : Int)
  | 0, _ => by simp [wantsTo]
  | k + 1, h => by
    have h1 := wantsTo_bd hv (k := k) (by omega)
    have h2 := hv k (by omega)
    rw [wantsTo]
    omega
theorem endT_up {ks : List Cu} {st : Int} {os : List Int} {n k : Nat} (P : RndP ks st os n) (hk : k < n) : endT st (pick ks (os.take k)) ≤ endT st (pick ks (os.take (k + 1))) := by
  obtain ⟨t, ht, _⟩ := P.at_ hk (of_at (show k < os.length by rw [P.olen]; exact hk))
  have hg := of_at (show k < os.length by rw [P.olen]; exact hk)
  rw [ht] at hg
  have := (P.next hg (x := (cuA ks t).1) (d := (cuA ks t).2.1) (v := (cuA ks t).2.2) rfl).2
  have := dst_ge (endP st (pick ks (os.take k))) (cuA ks t).1
  omega
set_option maxHeartbeats 1000000 in
theorem greatT_any {ks : List Cu} {st : Int} {os : List Int} {m : Nat} (P : RndP ks st os m) (A : Option Addr) (c : Nat) (w : World) (B : Nat) (hr : Rd w B A (ints (tmL st 0 (pick ks os)))) :
    Calls Try.prog 38 #[.slice A m c] w fun e w' => e = .returned (.int .i64 (endT st (pick ks os))) ∧ w = w' := by
  have HP := Lib.hid P
  have h8 := P.n8
  have HL : Hid ((tmL st 0 (pick ks os)).length = m) := Lib.hid (by rw [tmL_len, pick_len, P.olen])
  have HE : Hid (pick ks (os.take m) = pick ks os) := Lib.hid (by rw [← P.olen, List.take_length])
  clear P
  go_enter Try.func38, Try.ntmps38
  go_wp2
  go_loop [3, 4] (fun v i => ∃ k : Nat, k ≤ m ∧ i = .int .i64 k ∧ v = .int .i64 (endT st (pick ks (os.take k)))) (fun _ i => m - (intOf i).toNat)
  case atStart => exact ⟨0, Nat.zero_le _, rfl, rfl⟩
  case round =>
    obtain ⟨k, hk, rfl, rfl⟩ := hrel
    by_cases hlt : k < m
    · obtain ⟨b, off, y, rfl, hb, hy, hc⟩ := hr.int_ (k := k) (by rw [HL.out]; exact hlt)
      obtain rfl : y = endT st (pick ks (os.take (k + 1))) := by have h1 := hy.out; rw [tm_at (by rw [HP.out.olen]; exact hlt)] at h1; injection h1 with h1; exact h1.symm
      have hup := endT_up HP.out hlt
      have h1 := HP.out.time hk
      have h2 := HP.out.time (k := k + 1) (by omega)
      have HN : Hid (endT st (pick ks (os.take (k + 1))) = endT st (pick ks (os.take (k + 1)))) := Lib.hid rfl
      generalize endT st (pick ks (os.take k)) = T0 at *
      generalize hT1 : endT st (pick ks (os.take (k + 1))) = T1 at *
      have HT1 := Lib.hid hT1
      clear hy hT1
      by_cases hq : T0 < T1
      · go_wp2
        all_goals
          go_round
          case rel => exact ⟨k + 1, by omega, by go_num, by first | (rw [HT1.out]; done) | (rw [HT1.out]; congr 1; omega)⟩
          case measure => simp [intOf]; omega
      · have hq2 : T0 = T1 := by omega
        subst hq2
        go_wp2
        all_goals
          go_round
          case rel => exact ⟨k + 1, by omega, by go_num, by first | (rw [HT1.out]; done) | (rw [HT1.out]; congr 1; omega)⟩
          case measure => simp [intOf]; omega
    · obtain rfl : k = m := by omega
      go_wp2
      go_ret
      exact ⟨ret_int (by rw [HE.out]), rfl⟩
/-- a way to two places is at least the way between them -/
theorem endT_mem : ∀ {l : List Cu} {a : Int} {x : Cu}, x ∈ l → dst a x.1 ≤ endT a l
  | c :: l, a, x, h => by
    show dst a x.1 ≤ dst a c.1 + endT c.1 l
    have hg : 0 ≤ endT c.1 l := endT_ge c.1 l
    rcases List.mem_cons.1 h with rfl | h
    · omega
    · have := endT_mem (a := c.1) h
      have := dst_tri a c.1 x.1
      omega
where
  endT_ge : ∀ (a : Int) (l : List Cu), 0 ≤ endT a l
    | _, [] => Int.le_refl _
    | a, c :: l => by
      have := endT_ge c.1 l
      have := dst_ge a c.1
      show 0 ≤ dst a c.1 + endT c.1 l
      omega
theorem endT_two : ∀ {l : List Cu} {a : Int} {x y : Cu}, x ∈ l → y ∈ l → dst a x.1 + dst x.1 y.1 ≤ endT a l ∨ dst a y.1 + dst y.1 x.1 ≤ endT a l
  | c :: l, a, x, y, hx, hy => by
    show dst a x.1 + dst x.1 y.1 ≤ dst a c.1 + endT c.1 l ∨ dst a y.1 + dst y.1 x.1 ≤ dst a c.1 + endT c.1 l
    rcases List.mem_cons.1 hx with e1 | hx <;> rcases List.mem_cons.1 hy with e2 | hy
    · left; rw [e1, e2, dst_self]; have := endT_mem.endT_ge c.1 l; omega
    · left; rw [e1]; have := endT_mem (a := c.1) hy; omega
    · right; rw [e2]; have := endT_mem (a := c.1) hx; omega
    · have h := endT_two (a := c.1) hx hy
      have h1 := dst_tri a c.1 x.1
      have h2 := dst_tri a c.1 y.1
      rcases h with h | h
      · left; omega
      · right; omega

end Go.Proofs.Ytjjddamblijffaa

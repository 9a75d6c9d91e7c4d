/- Chapter 8: readSigned of the model. -/
import Derived.Test.YtggdnpaiaijhgaaBVal
namespace Go.Proofs.Ytggdnpaiaijhgaa
open Go.RowKit
set_option linter.unusedVariables false
set_option linter.unusedSimpArgs false
theorem mk_inj {a b : List UInt8} : ByteArray.mk a.toArray = ByteArray.mk b.toArray ↔ a = b := ⟨fun e => by injection e with e; exact List.toArray_inj e, fun e => by rw [e]⟩
def RdPost (l : List UInt8) (w : World) (e : Ending) (w' : World) : Prop := ∃ z q, RdR l z q ∧ e = .returned (.tuple #[.int .i64 z, .bool q]) ∧ w = w'
set_option maxRecDepth 100000 in
set_option maxHeartbeats 2000000 in
theorem readSigned_any (l : List UInt8) (hl : l.length ≤ 4000000) (s : ByteArray) (hs : s = ⟨l.toArray⟩) (w : World) :
    Calls Try.prog 114 #[.string s] w (RdPost l w) := by
  have hn := size_of hs
  have HS := Lib.hid hs
  clear hs
  by_cases h0 : l.length = 0
  · have hl1 : l = [] := List.eq_nil_of_length_eq_zero h0
    have hsl : s.toList = [] := by rw [HS.out, ByteArray.toList_eq, hl1]
    have HR : Hid (RdR l 0 false) := Lib.hid ⟨fun h => Bool.noConfusion h, fun _ y _ _ e => by
      have := (sgnL_len y).1
      rw [← e, hl1] at this
      simp at this⟩
    have hs0 : s.size = 0 := by omega
    clear hl1 hn
    go_enter Try.func114, Try.ntmps114
    go_wp2
    go_loop [5, 6] (fun v i => v = .int .i64 0 ∧ i = .int .i64 0) (fun _ i => 0)
    case atStart => exact ⟨rfl, rfl⟩
    case round =>
      obtain ⟨rfl, rfl⟩ := hrel
      go_wp2
      go_ret2
      exact ⟨0, false, HR.out, rfl, rfl⟩
  · have hks : 0 < s.size := by omega
    have hb := idx_of HS.out hks
    by_cases he : s[0]'hks = 45
    · have heq : (((s[0]'hks).toNat : Int) == 45) = true := by rw [he]; rfl
      have HOF : Hid (offL l = 1) := Lib.hid (by unfold offL; rw [List.head?_eq_getElem?, hb, he]; rfl)
      have HZV : Hid (∀ n : Nat, szV l n = - (n : Int)) := Lib.hid fun n => by unfold szV; rw [List.head?_eq_getElem?, hb, he]; rfl
      clear hb he
      go_enter Try.func114, Try.ntmps114
      go_wp2
      go_loop [5, 6] (fun v i => ∃ k : Nat, 1 ≤ k ∧ k ≤ l.length ∧ v = .int .i64 (valL ((l.drop 1).take (k - 1)) : Nat) ∧ i = .int .i64 k ∧ valL ((l.drop 1).take (k - 1)) ≤ 999999) (fun _ i => l.length - (intOf i).toNat)
      case atStart => exact ⟨1, Nat.le_refl _, by omega, by simp [valL, valF], rfl, by simp [valL, valF]⟩
      case round =>
        obtain ⟨k, hok, hk, rfl, rfl, hv⟩ := hrel
        by_cases hlt : k < l.length
        · have hks : k < s.size := by omega
          have hb := idx_of HS.out hks
          have hbad : (digB (s[k]'hks) = false ∨ 99999 < valL ((l.drop 1).take (k - 1))) → RdR l 0 false := fun h => rdR_bad hb (by rw [HOF.out]; exact hok) (by rw [HOF.out]; exact h)
          have hnx : valL ((l.drop 1).take (k + 1 - 1)) = 10 * valL ((l.drop 1).take (k - 1)) + ((s[k]'hks).toNat - 48) := by rw [drop_more hb hok, valL_snoc]
          have hdg : digB (s[k]'hks) = decide (48 ≤ (s[k]'hks).toNat ∧ (s[k]'hks).toNat ≤ 57) := rfl
          have HBAD := Lib.hid hbad
          have HNX := Lib.hid hnx
          have HDG := Lib.hid hdg
          clear hb hbad hnx hdg
          have hb256 : (s[k]'hks).toNat < 256 := UInt8.toNat_lt _
          generalize valL ((l.drop 1).take (k - 1)) = n at *
          generalize digB (s[k]'hks) = q at *
          by_cases h1 : (s[k]'hks).toNat < 48
          · have i1 : decide (((s[k]'hks).toNat : Int) < 48) = true := decide_eq_true (by omega)
            go_wp2
            go_ret2
            exact ⟨0, false, HBAD.out (.inl (by rw [HDG.out]; exact decide_eq_false (by omega))), rfl, rfl⟩
          · have i1 : decide (((s[k]'hks).toNat : Int) < 48) = false := decide_eq_false (by omega)
            by_cases h2 : 57 < (s[k]'hks).toNat
            · have i2 : decide (((s[k]'hks).toNat : Int) > 57) = true := decide_eq_true (by omega)
              go_wp2
              go_ret2
              exact ⟨0, false, HBAD.out (.inl (by rw [HDG.out]; exact decide_eq_false (by omega))), rfl, rfl⟩
            · have i2 : decide (((s[k]'hks).toNat : Int) > 57) = false := decide_eq_false (by omega)
              by_cases h3 : 99999 < n
              · have i3 : decide ((n : Int) > 99999) = true := decide_eq_true (by omega)
                go_wp2
                go_ret2
                exact ⟨0, false, HBAD.out (.inr h3), rfl, rfl⟩
              · have i3 : decide ((n : Int) > 99999) = false := decide_eq_false (by omega)
                obtain ⟨d, hd⟩ : ∃ d : Nat, (s[k]'hks).toNat = 48 + d := ⟨(s[k]'hks).toNat - 48, by omega⟩
                have HNX2 : Hid (valL ((l.drop 1).take (k + 1 - 1)) = 10 * n + d) := Lib.hid (by rw [HNX.out, hd]; omega)
                have hd9 : d ≤ 9 := by omega
                go_wp2
                go_round
                case rel => exact ⟨k + 1, by omega, by omega, by rw [HNX2.out]; exact congrArg (Value.int .i64) (by omega), by go_num, by rw [HNX2.out]; omega⟩
                case measure => simp [intOf]; omega
        · obtain rfl : k = l.length := by omega
          have ht : (l.drop 1).take (l.length - 1) = l.drop 1 := List.take_of_length_le (by simp)
          rw [ht] at hv ⊢
          have hR := rdR_end (l := l) (by rw [HOF.out]; exact hv)
          rw [HOF.out] at hR
          have hz := HZV.out (valL (l.drop 1))
          generalize valL (l.drop 1) = n at *
          rw [hz] at hR
          have cS := signed_any (- (n : Int)) (by omega) (by omega) w
          generalize hsg : sgnL (- (n : Int)) = sg at *
          unfold str at cS
          have hsl : s.toList = l := by rw [HS.out, ByteArray.toList_eq]
          have hgl : (ByteArray.mk sg.toArray).toList = sg := by rw [ByteArray.toList_eq]
          have hl0 : ¬ l = [] := fun e => h0 (by rw [e]; rfl)
          have HR := Lib.hid hR
          clear hR ht hz hsg
          by_cases hq : sg = l
          · have hq1 : (sg == l) = true := beq_iff_eq.2 hq
            have hd1 : decide (sg = l) = true := decide_eq_true hq
            have HQ := Lib.hid hq
            go_wp2_with fail
            refine (cS).mono ?_
            rintro e w' ⟨rfl, rfl⟩
            go_wp2
            go_ret2
            exact ⟨_, true, by have := HR.out; rw [HQ.out, decide_eq_true rfl] at this; exact this, by first | rfl | (simp [hq]; done) | (simp [hq]; exact hl0), rfl⟩
          · have hq1 : (sg == l) = false := beq_eq_false_iff_ne.2 hq
            go_wp2_with fail
            refine (cS).mono ?_
            rintro e w' ⟨rfl, rfl⟩
            go_wp2
            go_ret2
            exact ⟨_, false, by have := HR.out; rw [decide_eq_false hq] at this; exact this, rfl, rfl⟩
    · have heq : (((s[0]'hks).toNat : Int) == 45) = false := beq_eq_false_iff_ne.2 fun e => he (UInt8.toNat_inj.1 (by have e2 : (45 : UInt8).toNat = 45 := rfl; omega))
      have hhd : ¬ l.head? = some 45 := by rw [List.head?_eq_getElem?, hb]; intro e; injection e with e; exact he e
      have HOF : Hid (offL l = 0) := Lib.hid (by unfold offL; rw [if_neg hhd])
      have HZV : Hid (∀ n : Nat, szV l n = (n : Int)) := Lib.hid fun n => by unfold szV; rw [if_neg hhd]
      clear hb he hhd
      go_enter Try.func114, Try.ntmps114
      go_wp2
      go_loop [5, 6] (fun v i => ∃ k : Nat, 0 ≤ k ∧ k ≤ l.length ∧ v = .int .i64 (valL ((l.drop 0).take (k - 0)) : Nat) ∧ i = .int .i64 k ∧ valL ((l.drop 0).take (k - 0)) ≤ 999999) (fun _ i => l.length - (intOf i).toNat)
      case atStart => exact ⟨0, Nat.le_refl _, by omega, by simp [valL, valF], rfl, by simp [valL, valF]⟩
      case round =>
        obtain ⟨k, hok, hk, rfl, rfl, hv⟩ := hrel
        by_cases hlt : k < l.length
        · have hks : k < s.size := by omega
          have hb := idx_of HS.out hks
          have hbad : (digB (s[k]'hks) = false ∨ 99999 < valL ((l.drop 0).take (k - 0))) → RdR l 0 false := fun h => rdR_bad hb (by rw [HOF.out]; exact hok) (by rw [HOF.out]; exact h)
          have hnx : valL ((l.drop 0).take (k + 1 - 0)) = 10 * valL ((l.drop 0).take (k - 0)) + ((s[k]'hks).toNat - 48) := by rw [drop_more hb hok, valL_snoc]
          have hdg : digB (s[k]'hks) = decide (48 ≤ (s[k]'hks).toNat ∧ (s[k]'hks).toNat ≤ 57) := rfl
          have HBAD := Lib.hid hbad
          have HNX := Lib.hid hnx
          have HDG := Lib.hid hdg
          clear hb hbad hnx hdg
          have hb256 : (s[k]'hks).toNat < 256 := UInt8.toNat_lt _
          generalize valL ((l.drop 0).take (k - 0)) = n at *
          generalize digB (s[k]'hks) = q at *
          by_cases h1 : (s[k]'hks).toNat < 48
          · have i1 : decide (((s[k]'hks).toNat : Int) < 48) = true := decide_eq_true (by omega)
            go_wp2
            go_ret2
            exact ⟨0, false, HBAD.out (.inl (by rw [HDG.out]; exact decide_eq_false (by omega))), rfl, rfl⟩
          · have i1 : decide (((s[k]'hks).toNat : Int) < 48) = false := decide_eq_false (by omega)
            by_cases h2 : 57 < (s[k]'hks).toNat
            · have i2 : decide (((s[k]'hks).toNat : Int) > 57) = true := decide_eq_true (by omega)
              go_wp2
              go_ret2
              exact ⟨0, false, HBAD.out (.inl (by rw [HDG.out]; exact decide_eq_false (by omega))), rfl, rfl⟩
            · have i2 : decide (((s[k]'hks).toNat : Int) > 57) = false := decide_eq_false (by omega)
              by_cases h3 : 99999 < n
              · have i3 : decide ((n : Int) > 99999) = true := decide_eq_true (by omega)
                go_wp2
                go_ret2
                exact ⟨0, false, HBAD.out (.inr h3), rfl, rfl⟩
              · have i3 : decide ((n : Int) > 99999) = false := decide_eq_false (by omega)
                obtain ⟨d, hd⟩ : ∃ d : Nat, (s[k]'hks).toNat = 48 + d := ⟨(s[k]'hks).toNat - 48, by omega⟩
                have HNX2 : Hid (valL ((l.drop 0).take (k + 1 - 0)) = 10 * n + d) := Lib.hid (by rw [HNX.out, hd]; omega)
                have hd9 : d ≤ 9 := by omega
                go_wp2
                go_round
                case rel => exact ⟨k + 1, by omega, by omega, by rw [HNX2.out]; exact congrArg (Value.int .i64) (by omega), by go_num, by rw [HNX2.out]; omega⟩
                case measure => simp [intOf]; omega
        · obtain rfl : k = l.length := by omega
          have ht : (l.drop 0).take (l.length - 0) = l.drop 0 := List.take_of_length_le (by simp)
          rw [ht] at hv ⊢
          have hR := rdR_end (l := l) (by rw [HOF.out]; exact hv)
          rw [HOF.out] at hR
          have hz := HZV.out (valL (l.drop 0))
          generalize valL (l.drop 0) = n at *
          rw [hz] at hR
          have cS := signed_any ((n : Int)) (by omega) (by omega) w
          generalize hsg : sgnL ((n : Int)) = sg at *
          unfold str at cS
          have hsl : s.toList = l := by rw [HS.out, ByteArray.toList_eq]
          have hgl : (ByteArray.mk sg.toArray).toList = sg := by rw [ByteArray.toList_eq]
          have hl0 : ¬ l = [] := fun e => h0 (by rw [e]; rfl)
          have HR := Lib.hid hR
          clear hR ht hz hsg
          by_cases hq : sg = l
          · have hq1 : (sg == l) = true := beq_iff_eq.2 hq
            have hd1 : decide (sg = l) = true := decide_eq_true hq
            have HQ := Lib.hid hq
            go_wp2_with fail
            refine (cS).mono ?_
            rintro e w' ⟨rfl, rfl⟩
            go_wp2
            go_ret2
            exact ⟨_, true, by have := HR.out; rw [HQ.out, decide_eq_true rfl] at this; exact this, by first | rfl | (simp [hq]; done) | (simp [hq]; exact hl0), rfl⟩
          · have hq1 : (sg == l) = false := beq_eq_false_iff_ne.2 hq
            go_wp2_with fail
            refine (cS).mono ?_
            rintro e w' ⟨rfl, rfl⟩
            go_wp2
            go_ret2
            exact ⟨_, false, by have := HR.out; rw [decide_eq_false hq] at this; exact this, rfl, rfl⟩

end Go.Proofs.Ytggdnpaiaijhgaa

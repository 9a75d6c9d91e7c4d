/- Chapter 8: the words of a text, of the program. -/
import Derived.Test.YtggdnpaiaijhgaaBEv
namespace Go.Proofs.Ytggdnpaiaijhgaa
open Go.RowKit
set_option linter.unusedVariables false
set_option linter.unusedSimpArgs false
def WdRel (w : World) (l : List UInt8) (v x i : Value) (wr : World) : Prop :=
  ∃ (f k : Nat) (D : List (List UInt8)), k ≤ l.length ∧ f ≤ k ∧ x = .int .i64 f ∧ i = .int .i64 k ∧ splitL 32 l = D ++ splitL 32 (l.drop f) ∧ (32 : UInt8) ∉ (l.drop f).take (k - f) ∧ D.length ≤ k ∧
    wr.ownsRow w.heap.size 9 1 v D.length (strs D) ∧ Below w.heap.size w wr
set_option maxRecDepth 100000 in
set_option maxHeartbeats 2000000 in
theorem words_any (l : List UInt8) (hl : l.length ≤ 4000000) (s : ByteArray) (hs : s = ⟨l.toArray⟩) (w : World) :
    Calls Try.prog 82 #[.string s] w (OutS (splitL 32 l) w) := by
  obtain ⟨i0, hi, hz0, hz1, hz2⟩ := info_parts info_str
  have hn := size_of hs
  have HE := Lib.hid (fun a b => ext_of hs a b)
  have HS := Lib.hid hs
  clear hs
  go_enter Try.func82, Try.ntmps82
  go_wp2
  go_loopw [3, 4, 5] (fun v x i wr => WdRel w l v x i wr) (fun _ _ i _ => l.length - (intOf i).toNat)
  case atStart => exact ⟨0, 0, [], Nat.zero_le _, Nat.le_refl _, rfl, rfl, by simp, by simp, by simp, own_empty w _, (Below.refl _ _).alloc (Nat.le_refl _) _⟩
  case round =>
    obtain ⟨f, k, D, hk, hf, rfl, rfl, hsp, hno, hD, hown, hbel⟩ := hrel
    by_cases hlt : k < l.length
    · have hks : k < s.size := by omega
      have hb := idx_of HS.out hks
      by_cases he : s[k]'hks = 32
      · have heq : (((s[k]'hks).toNat : Int) == 32) = true := by rw [he]; rfl
        rw [he] at hb
        have HB := Lib.hid hb
        have HNO := Lib.hid hno
        have HSP := Lib.hid hsp
        clear hb hno hsp he
        go_wp2_with (at_builtin; refine wpList_append_own _ rfl _ _ 83 rfl (w.heap.size) 9 i0 (.string ⟨#[]⟩) 1 16 Try.underlying83 hi hz0 hz1 hz2 rfl (by decide) _ _ _ rfl (hown.alloc _) ⟨wr.heap.size, 0, none⟩ 1 1 [.string (s.extract f k)] rfl rfl ?c1 ?c2 ?c3 ?c4 ?c5 ?_)
        case c1 => first | exact one_newB _ _ _ _ rfl | exact one_newB _ _ _ _ (by simp)
        case c2 => first | rfl | (intro u hu; simp at hu; subst hu; rfl)
        case c3 => unfold maxLen; omega
        case c4 => omega
        case c5 => have := hbel.size; simp; omega
        · intro v' w5 hown' hgrow _
          have hob := own_block hown
          have hb5 : Below w.heap.size w w5 := (hbel.alloc (by have := hbel.size; omega) _).grown hgrow (by have := hbel.size; simp; omega) hob
          have R : w5.ownsRow w.heap.size 9 1 v' (D ++ [(l.drop f).take (k - f)]).length (strs (D ++ [(l.drop f).take (k - f)])) := by
            rw [strs_snoc, ← HE.out, List.length_append]; exact hown'
          have hsp2 : splitL 32 l = D ++ [(l.drop f).take (k - f)] ++ splitL 32 (l.drop (k + 1)) := by
            rw [HSP.out, drop_cut HB.out hf, splitL_at HNO.out, List.append_assoc, ← drop_cut HB.out hf]
            rfl
          have HP := Lib.hid (And.intro R (And.intro hsp2 hb5))
          clear hown' hgrow hown hbel R hb5 hsp2
          go_wp2
          go_roundw
          case rel => exact ⟨k + 1, k + 1, _, by omega, Nat.le_refl _, by go_num, by go_num, HP.out.2.1, by simp, by rw [List.length_append]; simp; omega, HP.out.1, HP.out.2.2⟩
          case measure => simp [intOf]; omega
      · have heq : (((s[k]'hks).toNat : Int) == 32) = false := beq_eq_false_iff_ne.2 fun e => he (UInt8.toNat_inj.1 (by have e2 : (32 : UInt8).toNat = 32 := rfl; omega))
        have hno2 : (32 : UInt8) ∉ (l.drop f).take (k + 1 - f) := by
          rw [drop_more hb hf, List.mem_append, not_or]
          exact ⟨hno, fun h => he (List.mem_singleton.1 h).symm⟩
        have HNO := Lib.hid hno2
        have HSP := Lib.hid hsp
        have HOW := Lib.hid (And.intro hown hbel)
        clear hb hno hno2 hsp he hown hbel
        go_wp2
        go_roundw
        case rel => exact ⟨f, k + 1, D, by omega, by omega, rfl, by go_num, HSP.out, HNO.out, by omega, HOW.out.1, HOW.out.2⟩
        case measure => simp [intOf]; omega
    · obtain rfl : k = l.length := by omega
      have hno2 : (32 : UInt8) ∉ l.drop f := by rwa [List.take_of_length_le (by simp)] at hno
      rw [splitL_no hno2] at hsp
      have hsz : (l.drop f).take (l.length - f) = l.drop f := List.take_of_length_le (by simp)
      have HSP := Lib.hid hsp
      have HSZ := Lib.hid hsz
      clear hno hno2 hsp hsz
      go_wp2_with (at_builtin; refine wpList_append_own _ rfl _ _ 83 rfl (w.heap.size) 9 i0 (.string ⟨#[]⟩) 1 16 Try.underlying83 hi hz0 hz1 hz2 rfl (by decide) _ _ _ rfl (hown.alloc _) ⟨wr.heap.size, 0, none⟩ 1 1 [.string (s.extract f l.length)] rfl rfl ?c1 ?c2 ?c3 ?c4 ?c5 ?_)
      case c1 => first | exact one_newB _ _ _ _ rfl | exact one_newB _ _ _ _ (by simp)
      case c2 => first | rfl | (intro u hu; simp at hu; subst hu; rfl)
      case c3 => unfold maxLen; omega
      case c4 => omega
      case c5 => have := hbel.size; simp; omega
      · intro v' w5 hown' hgrow _
        have hob := own_block hown
        have hb5 : Below w.heap.size w w5 := (hbel.alloc (by have := hbel.size; omega) _).grown hgrow (by have := hbel.size; simp; omega) hob
        rw [HE.out, HSZ.out, ← strs_snoc, ← HSP.out] at hown'
        have hlen : D.length + 1 = (splitL 32 l).length := by rw [HSP.out]; simp
        rw [hlen] at hown'
        obtain ⟨A6, c6, rfl⟩ := own_form hown'
        have HP := Lib.hid (And.intro hown' hb5)
        clear hown' hgrow hown hbel hb5 hlen
        go_wp2
        go_ret
        exact ⟨A6, c6, rfl, HP.out.1, HP.out.2⟩

end Go.Proofs.Ytggdnpaiaijhgaa

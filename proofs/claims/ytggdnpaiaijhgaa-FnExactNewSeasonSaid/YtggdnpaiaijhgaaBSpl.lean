/- Chapter 8: a text cut at a byte. -/
import Derived.Test.YtggdnpaiaijhgaaBNum
namespace Go.Proofs.Ytggdnpaiaijhgaa
open Go.RowKit
set_option linter.unusedVariables false
set_option linter.unusedSimpArgs false
theorem info_str : (Try.prog.info? 9).map (fun i => (i.zero, i.size, i.bytes)) = some (some (.string ⟨#[]⟩), 1, 16) := by kernel_rfl
def strs (L : List (List UInt8)) : List Value := L.map str
theorem strs_snoc (L : List (List UInt8)) (l : List UInt8) : strs (L ++ [l]) = strs L ++ [str l] := by simp [strs]
def OutS (L : List (List UInt8)) (w : World) (e : Ending) (w' : World) : Prop :=
  ∃ A c, e = .returned (.slice A L.length c) ∧ w'.ownsRow w.heap.size 9 1 (.slice A L.length c) L.length (strs L) ∧ Below w.heap.size w w'
/-- the parts of a text between bytes c -/
def splitL (c : UInt8) : List UInt8 → List (List UInt8)
  | [] => [[]]
  | b :: t => if b = c then [] :: splitL c t else match splitL c t with
    | [] => [[b]]
    | p :: ps => (b :: p) :: ps
theorem splitL_no {c : UInt8} : ∀ {l : List UInt8}, c ∉ l → splitL c l = [l]
  | [], _ => rfl
  | b :: t, h => by
    rw [List.mem_cons, not_or] at h
    rw [splitL, if_neg (fun e => h.1 e.symm), splitL_no h.2]
theorem splitL_at {c : UInt8} : ∀ {a b : List UInt8}, c ∉ a → splitL c (a ++ c :: b) = a :: splitL c b
  | [], b, _ => by rw [List.nil_append, splitL, if_pos rfl]
  | x :: a, b, h => by
    rw [List.mem_cons, not_or] at h
    rw [List.cons_append, splitL, if_neg (fun e => h.1 e.symm), splitL_at h.2]
theorem splitL_len (c : UInt8) : ∀ l : List UInt8, 1 ≤ (splitL c l).length ∧ (splitL c l).length ≤ l.length + 1
  | [] => by simp [splitL]
  | b :: t => by
    have := splitL_len c t
    rw [splitL]
    split
    · simp; omega
    · split
      · simp
      · rename_i e; rw [e] at this; simp at this ⊢; omega
theorem ext_of {s : ByteArray} {l : List UInt8} (h : s = ⟨l.toArray⟩) (a b : Nat) : Value.string (s.extract a b) = str ((l.drop a).take (b - a)) := by
  rw [h, ByteArray.extract_mk]; rfl
theorem size_of {s : ByteArray} {l : List UInt8} (h : s = ⟨l.toArray⟩) : s.size = l.length := by rw [h]; simp [ByteArray.size]
theorem idx_of {s : ByteArray} {l : List UInt8} (h : s = ⟨l.toArray⟩) {k : Nat} (hk : k < s.size) : l[k]? = some (s[k]'hk) := by
  subst h
  have hk' : k < l.length := by simpa [ByteArray.size] using hk
  rw [List.getElem?_eq_getElem hk']
  rfl
theorem drop_cut {l : List UInt8} {f k : Nat} {b : UInt8} (h : l[k]? = some b) (hf : f ≤ k) : l.drop f = (l.drop f).take (k - f) ++ b :: l.drop (k + 1) := by
  have h1 := (List.getElem?_eq_some_iff.1 h).1
  have h2 := (List.getElem?_eq_some_iff.1 h).2
  have e : (l.drop f).drop (k - f) = b :: l.drop (k + 1) := by
    rw [List.drop_drop, show f + (k - f) = k by omega, List.drop_eq_getElem_cons h1, h2]
  rw [← e, List.take_append_drop]
theorem drop_more {l : List UInt8} {f k : Nat} {b : UInt8} (h : l[k]? = some b) (hf : f ≤ k) : (l.drop f).take (k + 1 - f) = (l.drop f).take (k - f) ++ [b] := by
  rw [show k + 1 - f = k - f + 1 by omega]
  refine take_snoc ?_
  rw [List.getElem?_drop, show f + (k - f) = k by omega, h]
theorem one_newB (w : World) (x : Value) (T : TypeId) (b : Nat) (hb : b = w.heap.size) : ∀ (j : Nat) (u : Value), [x][j]? = some u → (w.alloc (.cells #[x] T)).cell? ((⟨b, 0, none⟩ : Addr).add j) = some u := by
  intro j u hj
  subst hb
  match j, hj with
  | 0, hj => simp at hj; subst hj; simp [Addr.add]
def SpRel (w : World) (c : UInt8) (l : List UInt8) (v x i : Value) (wr : World) : Prop :=
  ∃ (f k : Nat) (D : List (List UInt8)), k ≤ l.length ∧ f ≤ k ∧ x = .int .i64 f ∧ i = .int .i64 k ∧ splitL c l = D ++ splitL c (l.drop f) ∧ c ∉ (l.drop f).take (k - f) ∧ D.length ≤ k ∧
    wr.ownsRow w.heap.size 9 1 v D.length (strs D) ∧ Below w.heap.size w wr
set_option maxRecDepth 100000 in
set_option maxHeartbeats 2000000 in
theorem splitAt_any (l : List UInt8) (hl : l.length ≤ 4000000) (s : ByteArray) (hs : s = ⟨l.toArray⟩) (c : UInt8) (w : World) :
    Calls Try.prog 113 #[.string s, .int .u8 (c.toNat : Nat)] w (OutS (splitL c l) w) := by
  obtain ⟨i0, hi, hz0, hz1, hz2⟩ := info_parts info_str
  have hn := size_of hs
  have HE := Lib.hid (fun a b => ext_of hs a b)
  have HS := Lib.hid hs
  clear hs
  go_enter Try.func113, Try.ntmps113
  go_wp2
  go_loopw [5, 6, 7] (fun v x i wr => SpRel w c l v x i wr) (fun _ _ i _ => l.length - (intOf i).toNat)
  case atStart => exact ⟨0, 0, [], Nat.zero_le _, Nat.le_refl _, rfl, rfl, by simp, by simp, by simp, own_empty w _, (Below.refl _ _).alloc (Nat.le_refl _) _⟩
  case round =>
    obtain ⟨f, k, D, hk, hf, rfl, rfl, hsp, hno, hD, hown, hbel⟩ := hrel
    by_cases hlt : k < l.length
    · have hks : k < s.size := by omega
      have hb := idx_of HS.out hks
      by_cases he : s[k]'hks = c
      · have heq : (((s[k]'hks).toNat : Int) == (c.toNat : Int)) = true := by rw [he]; exact beq_iff_eq.2 rfl
        rw [he] at hb
        have HB := Lib.hid hb
        have HNO := Lib.hid hno
        have HSP := Lib.hid hsp
        clear hb hno hsp he
        go_wp2_with (at_builtin; refine wpList_append_own _ rfl _ _ 83 rfl (w.heap.size) 9 i0 (.string ⟨#[]⟩) 1 16 Try.underlying83 hi hz0 hz1 hz2 rfl (by decide) _ _ _ rfl (hown.alloc _) ⟨wr.heap.size, 0, none⟩ 1 1 [.string (s.extract f k)] rfl rfl ?c1 ?c2 ?c3 ?c4 ?c5 ?_)
        case c1 => first | exact one_newB _ _ _ _ rfl | exact one_newB _ _ _ _ (by simp)
        case c2 => first | rfl | (intro u hu; simp at hu; subst hu; rfl)
        case c3 => unfold maxLen; omega
        case c4 => omega
        case c5 => have := hbel.size; simp; omega
        · intro v' w5 hown' hgrow _
          have hob := own_block hown
          have hb5 : Below w.heap.size w w5 := (hbel.alloc (by have := hbel.size; omega) _).grown hgrow (by have := hbel.size; simp; omega) hob
          have R : w5.ownsRow w.heap.size 9 1 v' (D ++ [(l.drop f).take (k - f)]).length (strs (D ++ [(l.drop f).take (k - f)])) := by
            rw [strs_snoc, ← HE.out, List.length_append]; exact hown'
          have hsp2 : splitL c l = D ++ [(l.drop f).take (k - f)] ++ splitL c (l.drop (k + 1)) := by
            rw [HSP.out, drop_cut HB.out hf, splitL_at HNO.out, List.append_assoc, ← drop_cut HB.out hf]
            rfl
          have HP := Lib.hid (And.intro R (And.intro hsp2 hb5))
          clear hown' hgrow hown hbel R hb5 hsp2
          go_wp2
          go_roundw
          case rel => exact ⟨k + 1, k + 1, _, by omega, Nat.le_refl _, by go_num, by go_num, HP.out.2.1, by simp, by rw [List.length_append]; simp; omega, HP.out.1, HP.out.2.2⟩
          case measure => simp [intOf]; omega
      · have heq : (((s[k]'hks).toNat : Int) == (c.toNat : Int)) = false := beq_eq_false_iff_ne.2 fun e => he (UInt8.toNat_inj.1 (by omega))
        have hno2 : c ∉ (l.drop f).take (k + 1 - f) := by
          rw [drop_more hb hf, List.mem_append, not_or]
          exact ⟨hno, fun h => he (List.mem_singleton.1 h).symm⟩
        have HNO := Lib.hid hno2
        have HSP := Lib.hid hsp
        have HOW := Lib.hid (And.intro hown hbel)
        clear hb hno hno2 hsp he hown hbel
        go_wp2
        go_roundw
        case rel => exact ⟨f, k + 1, D, by omega, by omega, rfl, by go_num, HSP.out, HNO.out, by omega, HOW.out.1, HOW.out.2⟩
        case measure => simp [intOf]; omega
    · obtain rfl : k = l.length := by omega
      have hno2 : c ∉ l.drop f := by rwa [List.take_of_length_le (by simp)] at hno
      rw [splitL_no hno2] at hsp
      have hsz : (l.drop f).take (l.length - f) = l.drop f := List.take_of_length_le (by simp)
      have HSP := Lib.hid hsp
      have HSZ := Lib.hid hsz
      clear hno hno2 hsp hsz
      go_wp2_with (at_builtin; refine wpList_append_own _ rfl _ _ 83 rfl (w.heap.size) 9 i0 (.string ⟨#[]⟩) 1 16 Try.underlying83 hi hz0 hz1 hz2 rfl (by decide) _ _ _ rfl (hown.alloc _) ⟨wr.heap.size, 0, none⟩ 1 1 [.string (s.extract f l.length)] rfl rfl ?c1 ?c2 ?c3 ?c4 ?c5 ?_)
      case c1 => first | exact one_newB _ _ _ _ rfl | exact one_newB _ _ _ _ (by simp)
      case c2 => first | rfl | (intro u hu; simp at hu; subst hu; rfl)
      case c3 => unfold maxLen; omega
      case c4 => omega
      case c5 => have := hbel.size; simp; omega
      · intro v' w5 hown' hgrow _
        have hob := own_block hown
        have hb5 : Below w.heap.size w w5 := (hbel.alloc (by have := hbel.size; omega) _).grown hgrow (by have := hbel.size; simp; omega) hob
        rw [HE.out, HSZ.out, ← strs_snoc, ← HSP.out] at hown'
        have hlen : D.length + 1 = (splitL c l).length := by rw [HSP.out]; simp
        rw [hlen] at hown'
        obtain ⟨A6, c6, rfl⟩ := own_form hown'
        have HP := Lib.hid (And.intro hown' hb5)
        clear hown' hgrow hown hbel hb5 hlen
        go_wp2
        go_ret
        exact ⟨A6, c6, rfl, HP.out.1, HP.out.2⟩

end Go.Proofs.Ytggdnpaiaijhgaa

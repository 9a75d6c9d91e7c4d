/- Chapter 8: a name and numbers, of the program. -/
import Derived.Test.YtggdnpaiaijhgaaBNumI
import Derived.Test.YtggdnpaiaijhgaaBApp
namespace Go.Proofs.Ytggdnpaiaijhgaa
open Go.RowKit
set_option linter.unusedVariables false
set_option linter.unusedSimpArgs false
theorem info_byte : (Try.prog.info? 5).map (fun i => (i.zero, i.size, i.bytes)) = some (some (.int .u8 0), 1, 1) := by kernel_rfl
theorem byteCells_str (l : List UInt8) : byteCells ⟨l.toArray⟩ = l.map byV := by
  unfold byteCells byV
  simp
theorem src_str (w : World) (l : List UInt8) : Src Try.prog 1 9 (str l) l.length (l.map byV) w := by
  have := Src.ofString (P := Try.prog) (w := w) Try.underlying9 ⟨l.toArray⟩
  rw [byteCells_str] at this
  unfold str
  simpa [ByteArray.size] using this
def TxRel (w : World) (nm : List UInt8) (ts : List Int) (v i : Value) (wr : World) : Prop :=
  ∃ k : Nat, k ≤ ts.length ∧ i = .int .i64 k ∧ OwnB wr w.heap.size v (nm ++ tailL (ts.take k)) ∧ Below w.heap.size w wr
theorem tailL_len : ∀ {ts : List Int}, okTs ts = true → (tailL ts).length ≤ ts.length * 1000003
  | [], _ => by simp [tailL]
  | z :: zs, h => by
    have hz := okTs_at h (List.mem_cons_self ..)
    have ht : okTs zs = true := by
      unfold okTs at h ⊢
      rw [List.all_cons, Bool.and_eq_true] at h
      exact h.2
    have := tailL_len ht
    have hs := sgnL_len z
    rw [tailL_cons, List.length_cons, List.length_append, List.length_cons]
    omega
theorem okTs_take {ts : List Int} (h : okTs ts = true) (k : Nat) : okTs (ts.take k) = true := by
  unfold okTs at h ⊢
  exact List.all_eq_true.2 fun z hz => List.all_eq_true.1 h z (List.mem_of_mem_take hz)
set_option maxRecDepth 100000 in
set_option maxHeartbeats 2000000 in
theorem textOf_any (nm : List UInt8) (hnm : nm.length ≤ 100) (s : ByteArray) (hs : s = ⟨nm.toArray⟩) (n : Nat) (ts : List Int) (hl : ts.length = n) (hok : okTs ts = true) (hn : n ≤ 4000000) (A : Option Addr) (c : Nat) (w : World) (hr : Rd w w.heap.size A (ints ts)) :
    Calls Try.prog 79 #[.string s, .slice A n c] w fun e w' => e = .returned (str (nm ++ tailL ts)) ∧ Below w.heap.size w w' := by
  obtain ⟨i0, hi, hz0, hz1, hz2⟩ := info_parts info_byte
  have hcv := fun w s => run_bytes_of_string (P := Try.prog) w 9 99 5 s Try.underlying9 Try.underlying99 Try.underlying5
  have HCV := Lib.hid (own_conv w nm s hs 5 (by unfold maxLen; omega))
  have HL := Lib.hid hl
  have HK := Lib.hid hok
  obtain ⟨t, ht⟩ : ∃ t, t = nm ++ tailL ts := ⟨_, rfl⟩
  rw [← ht]
  have HTT := Lib.hid ht
  unfold str
  clear hl hok hs ht
  go_enter Try.func79, Try.ntmps79
  go_wp2
  go_loopw [5, 12] (fun v i wr => TxRel w nm ts v i wr) (fun _ i _ => n - (intOf i).toNat)
  case atStart => exact ⟨0, Nat.zero_le _, rfl, by rw [List.take_zero, tailL_nil, List.append_nil]; exact (HCV.out _ rfl).1, (HCV.out _ rfl).2⟩
  case round =>
    clear hcv
    obtain ⟨k, hk, rfl, hown, hbel⟩ := hrel
    rw [HL.out] at hk
    by_cases hlt : k < n
    · obtain ⟨b, off, z, rfl, hb, hz, hc⟩ := (hr.below hbel).int_ (k := k) (by rw [HL.out]; exact hlt)
      have hzb := okTs_at HK.out (List.mem_of_getElem? hz.out)
      have HOW := Lib.hid hown
      have HBE := Lib.hid hbel
      have hlen : (nm ++ tailL (ts.take k)).length ≤ 100000000000000 := by
        have := tailL_len (okTs_take HK.out k)
        rw [List.length_take, HL.out] at this
        rw [List.length_append]
        have : min k n * 1000003 ≤ 4000000 * 1000003 := Nat.mul_le_mul_right _ (by omega)
        omega
      have HLN := Lib.hid hlen
      clear hown hlen
      go_wp2_with (at_builtin; refine wpList_appB _ rfl _ _ 99 99 rfl 5 i0 Try.underlying99 hi hz0 hz1 hz2 rfl (HOW.out.below ((Below.refl _ _).alloc (Nat.le_refl _) _)) ?c1 _ [32] rfl ?c2 ?c3 ?_)
      case c1 => have := HBE.out.size; simp; omega
      case c2 => exact Src.ofSlice _ Try.underlying99 _ 1 _ _ rfl (fun j u hu => one_newB _ _ _ _ rfl j u hu) (by intro u hu; simp at hu; subst hu; rfl)
      case c3 => have := HLN.out; simp at this ⊢; omega
      intro v1 w1 ho1 hb1
      have HP1 := Lib.hid ho1
      have HB1 := Lib.hid (HBE.out.trans (((Below.refl _ _).alloc HBE.out.size _).trans hb1))
      clear ho1 hb1 hbel
      have hd := decimal_any z (by omega) (by omega)
      unfold str at hd
      go_wp2_with fail
      refine (hd w1).mono ?_
      rintro e w' ⟨rfl, rfl⟩
      go_wp2_with (at_builtin; refine wpList_appB _ rfl _ _ 99 9 rfl 5 i0 Try.underlying99 hi hz0 hz1 hz2 rfl HP1.out ?d1 _ (sgnL z) rfl ?d2 ?d3 ?_)
      case d1 => have := HB1.out.size; omega
      case d2 => exact src_str _ _
      case d3 =>
        have h1 := HLN.out
        have h2 := sgnL_len z
        simp only [List.length_append] at h1 ⊢
        have h3 : [(32 : UInt8)].length = 1 := rfl
        omega
      intro v2 w2 ho2 hb2
      have HO2 : Hid (OwnB w2 w.heap.size v2 (nm ++ tailL (ts.take (k + 1)))) := Lib.hid (by
        rw [take_snoc hz.out, tailL_snoc]
        simpa using ho2)
      have HB2 := Lib.hid (HB1.out.trans hb2)
      clear ho2 hb2
      go_wp2
      go_roundw
      case rel => exact ⟨k + 1, by rw [HL.out]; omega, by go_num, HO2.out, HB2.out⟩
      case measure => simp [intOf]; omega
    · obtain rfl : k = n := by omega
      rw [List.take_of_length_le (by rw [HL.out]; exact Nat.le_refl _)] at hown
      obtain ⟨g, cap, rfl, h2, h3, h4, h5, h6, h7⟩ := hown
      rw [← HTT.out] at h6 ⊢
      have hbk := run_convert_bytes_back (P := Try.prog) wr 99 9 5 ⟨g, 0, none⟩ cap t Try.underlying99 Try.underlying5 Try.underlying9 (fun j hj => by
        rw [Addr.add_lit, Nat.zero_add]
        exact h6 j _ (by rw [List.getElem?_map, List.getElem?_eq_getElem hj]; rfl))
      have HB2 := Lib.hid hbel
      clear h2 h3 h4 h5 h6 h7 hbel
      go_wp2
      go_ret
      exact ⟨rfl, HB2.out⟩

end Go.Proofs.Ytggdnpaiaijhgaa

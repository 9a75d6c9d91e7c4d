/- The laws of chapter 6 over drawn customers: words in common. -/
import Derived.Lib.QuietBelow
import Derived.Test.YtjjddamblijffaaKDraws
import Derived.Test.YtjjddamblijffaaKLaw
import Derived.Test.YtjjddamblijffaaKHelp
import Derived.Test.YtjjddamblijffaaHelps
import Derived.Test.YtjjddamblijffaaKShort
import Derived.Test.YtjjddamblijffaaKServeS
namespace Go.Proofs.Ytjjddamblijffaa
open Go.RowKit
set_option linter.unusedVariables false
set_option linter.unusedSimpArgs false
theorem eqT_k (zs : List Int) (A A' : Option Addr) (c c' : Nat) (w : World) (B : Nat) (hr : Rd w B A (ints zs)) (hr' : Rd w B A' (ints zs)) (hn : zs.length ≤ 1048576) :
    Calls Try.prog 20 #[.slice A zs.length c, .slice A' zs.length c'] w fun e w' => e = .returned (.bool true) ∧ Below w.heap.size w w' :=
  (equalInts_same zs A A' c c' w B hr hr' hn).mono fun _ _ ⟨h, n, e⟩ => ⟨h, e ▸ below_drewN (Below.refl _ _) n⟩
theorem visT_pos {cs : List Cu} {st : Int} {os : List Int} (h : 0 < (visT cs st os).length) : rndB cs st os = true := by
  cases e : rndB cs st os
  · rw [visT_no e] at h; simp at h
  · rfl
theorem swT_pos {cs : List Cu} (h : 0 < (swT cs).length) : vcB cs = true := by
  cases e : vcB cs
  · rw [swT_no e] at h; simp at h
  · rfl
theorem visT_some {cs : List Cu} {st : Int} {os : List Int} (h : rndB cs st os = true) : (visT cs st os).length = os.length := by rw [visT_ok h, tmL_len, pick_len]
/-- a round is no shorter than the shortest one -/
theorem srF_le {ks : List Cu} {st : Int} {os : List Int} {n : Nat} (P : RndP ks st os n) (h0 : 0 < n) : srF ks st ≤ endT st (pick ks os) := by
  have hl := P.len
  rw [srF_ends (by omega)]
  have hpm := (pick_perm (cs := ks) (os := os) (by rw [hl]; exact P.ord))
  have hp := hpm.trans (swS_perm ks).symm
  have hsl := swS_len ks
  have hm : ∀ i, i < ks.length → cuA (swS ks) i ∈ pick ks os := fun i hi => hp.mem_iff.2 (List.mem_of_getElem? (get_cuA (by omega)))
  have h1 := hm 0 (by omega)
  have h2 := hm (ks.length - 1) (by omega)
  have hup := (swS_srt ks).up 0 (ks.length - 1) (by omega) (by omega)
  have h3 := endT_two (a := st) h1 h2
  generalize (cuA (swS ks) 0).1 = L at *
  generalize (cuA (swS ks) (ks.length - 1)).1 = G at *
  generalize endT st (pick ks os) = T at *
  clear hp hpm hm h1 h2
  unfold dst at *
  by_cases a1 : st < L <;> by_cases a2 : st < G <;> by_cases a3 : L < G <;> by_cases a4 : G < L <;> simp only [a1, a2, a3, a4, if_true, if_false] at h3 ⊢ <;> (try split) <;> omega
theorem mem_pick {ks : List Cu} {os : List Int} {k t : Nat} (h : os[k]? = some (t : Int)) : cuA ks t ∈ pick ks (os.take (k + 1)) := by
  rw [pick_snoc h]; simp

end Go.Proofs.Ytjjddamblijffaa

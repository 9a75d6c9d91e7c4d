/- The laws of chapter 6: contracts in the forms that they use. -/
import Derived.Test.YtjjddamblijffabKVisitS
import Derived.Test.YtjjddamblijffabKSweepS
namespace Go.Proofs.Ytjjddamblijffab
open Go.RowKit
set_option linter.unusedVariables false
set_option linter.unusedSimpArgs false
theorem sVis_t {ts : List Int} {cs : List Cu} {st : Int} {os : List Int} (H : Hid (ts = visT cs st os)) (cs' : List Cu) (A : Option Addr) (c : Nat) (hn : cs.length ≤ maxLen) (os' : List Int) (hm : os.length ≤ 1048576) (Ao : Option Addr) (co : Nat) (w : World) (hr : Rd w w.heap.size A (custV cs)) (hro : Rd w w.heap.size Ao (ints os)) (st' : Int) (hcap : os.length ≤ co ∧ co ≤ maxLen) :
    Calls Try.prog 16 #[.slice A cs.length c, .int .i64 st, .slice Ao os.length co] w (OutI ts w) := by
  rw [H.out]; exact sVis_any _ _ cs rfl A c hn os rfl hm Ao co hcap w hr hro st
theorem iVis_t {ts : List Int} {cs : List Cu} {st : Int} {os : List Int} (H : Hid (ts = visT cs st os)) (cs' : List Cu) (A : Option Addr) (c : Nat) (hn : cs.length ≤ maxLen) (os' : List Int) (hm : os.length ≤ 1048576) (Ao : Option Addr) (co : Nat) (w : World) (hr : Rd w w.heap.size A (custV cs)) (hro : Rd w w.heap.size Ao (ints os)) (st' : Int) :
    Calls Try.prog 19 #[.slice A cs.length c, .int .i64 st, .slice Ao os.length co] w (OutI ts w) := by
  rw [H.out]; exact iVis_any _ _ cs rfl A c hn os rfl hm Ao co w hr hro st
theorem iSw_t {ts : List Int} {cs : List Cu} (H : Hid (ts = swT cs)) (cs' : List Cu) (A : Option Addr) (c : Nat) (hn : cs.length ≤ maxLen) (w : World) (hr : Rd w w.heap.size A (custV cs)) :
    Calls Try.prog 72 #[.slice A cs.length c] w (OutI ts w) := by
  rw [H.out]; exact iSweep_any _ cs rfl A c hn w hr
def wantsTo (cs : List Cu) : Nat → Int
  | 0 => 0
  | k + 1 => wantsTo cs k + (cuA cs k).2.2
theorem wanS_perm {l m : List Cu} (h : l.Perm m) : wanS l = wanS m := by
  induction h with
  | nil => rfl
  | cons x _ ih => show x.2.2 + _ = x.2.2 + _; rw [ih]
  | swap x y l => show y.2.2 + (x.2.2 + wanS l) = x.2.2 + (y.2.2 + wanS l); omega
  | trans _ _ h1 h2 => rw [h1, h2]
theorem wantsTo_take (cs : List Cu) : ∀ k, k ≤ cs.length → wantsTo cs k = wanS (cs.take k)
  | 0, _ => by simp [wantsTo, wanS]
  | k + 1, h => by rw [wantsTo, wantsTo_take cs k (by omega), take_snoc (get_cuA (show k < cs.length by omega)), wanS_snoc]
theorem wants_pick {cs : List Cu} {os : List Int} (h : ordB cs.length os = true) : wantsTo cs cs.length = wanS (pick cs os) := by
  rw [wantsTo_take cs _ (Nat.le_refl _), List.take_length]
  exact (wanS_perm (pick_perm h)).symm
theorem wantsTo_bd {ks : List Cu} (hv : ∀ i, i < ks.length → 1 ≤ (cuA ks i).2.2 ∧ (cuA ks i).2.2 ≤ 50) : ∀ {k}, k ≤ ks.length → 0 ≤ wantsTo ks k ∧ wantsTo ks k ≤ 50 * (k : Int)
  | 0, _ => by simp [wantsTo]
  | k + 1, h => by
    have h1 := wantsTo_bd hv (k := k) (by omega)
    have h2 := hv k (by omega)
    rw [wantsTo]
    omega

end Go.Proofs.Ytjjddamblijffab

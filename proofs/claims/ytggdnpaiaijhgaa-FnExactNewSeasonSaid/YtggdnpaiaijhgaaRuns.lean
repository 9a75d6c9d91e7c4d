/- RunIce of parts of a list. -/
import Derived.Test.YtggdnpaiaijhgaaTemps
namespace Go.Proofs.Ytggdnpaiaijhgaa
open Go.RowKit
set_option linter.unusedVariables false
set_option linter.unusedSimpArgs false

theorem runT_neg {m : Int} {zs : List Int} (h : ¬(inB m 0 998001 = true ∧ tempsB zs = true)) : runT m zs = -1 := by
  unfold runT
  rw [if_neg]
  simpa using h
theorem tempsB_sub {zs ys : List Int} (h : tempsB zs = true) (hl : ys.length ≤ zs.length) (hs : ∀ y ∈ ys, y ∈ zs) : tempsB ys = true := by
  have h1 := tempsB_len h
  unfold tempsB at h ⊢
  simp only [Bool.and_eq_true, decide_eq_true_eq, List.all_eq_true] at h ⊢
  exact ⟨by omega, fun y hy => h.2 y (hs y hy)⟩
theorem rd_nil (w : World) (B : Nat) (A : Option Addr) : Rd w B A (ints []) := Rd.nil_
theorem rd_new (w : World) (T : TypeId) (l : List Int) : Rd (w.alloc (.cells (ints l).toArray T)) (w.heap.size + 1) (some ⟨w.heap.size, 0, none⟩) (ints l) := fun _ =>
  ⟨w.heap.size, 0, rfl, Nat.lt_succ_self _, fun k x hx => by
    have hh := heap_alloc_new w (.cells (ints l).toArray T)
    simp only [World.cell?, hh, Nat.zero_add]
    simpa using hx⟩
theorem Rd.some_ {w : World} {B b off : Nat} {zs : List Int} {k : Nat} (h : Rd w B (some ⟨b, off, none⟩) (ints zs)) (hk : k < zs.length) : ∃ z, Hid (zs[k]? = some z) ∧ z ∈ zs ∧ w.cell? ⟨b, off + k, none⟩ = some (.int .i64 z) := by
  obtain ⟨b', off', z, e, _, hz, hc⟩ := h.int_ hk
  injection e with e
  injection e with e1 e2
  subst e1 e2
  exact ⟨z, hz, List.mem_of_getElem? hz.out, hc⟩
theorem runF_append (m : Int) (a b : List Int) : runF m (a ++ b) = runF (runF m a) b := by simp [runF]
theorem quiet_same {P : Program} {f : FuncId} {args : Array Value} {w : World} {n : Nat} {v : Value}
    (h : Calls P f args (w.drewN n) fun e w' => e = .returned v ∧ w.drewN n = w') : Calls P f args (w.drewN n) fun e w'' => e = .returned v ∧ ∃ m, w'' = w.drewN m :=
  h.mono fun _ _ ⟨he, hm⟩ => ⟨he, n, hm.symm⟩
theorem Rd.drop {w : World} {B : Nat} {A : Option Addr} {xs : List Value} (h : Rd w B A xs) (j : Nat) : Rd w B (A.map (·.add j)) (xs.drop j) := fun hn => by
  obtain ⟨b, off, rfl, hb, hc⟩ := h (by rintro rfl; simp at hn)
  refine ⟨b, off + j, by simp [Addr.add], hb, fun k x hx => ?_⟩
  rw [List.getElem?_drop] at hx
  rw [Nat.add_assoc]
  exact hc _ x hx

theorem iRun_n (n : Nat) (ys : List Int) (hy : ys.length = n) (A : Option Addr) (c : Nat) (w : World) (B : Nat) (hr : Rd w B A (ints ys)) (m : Int) :
    Calls Try.prog 140 #[.int .i64 m, .slice A n c] w fun e w' => e = .returned (.int .i64 (runT m ys)) ∧ w = w' := by
  subst hy
  exact iRunIce_any ys A c w B hr m

end Go.Proofs.Ytggdnpaiaijhgaa

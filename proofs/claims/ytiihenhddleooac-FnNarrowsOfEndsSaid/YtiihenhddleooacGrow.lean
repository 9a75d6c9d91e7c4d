/- Contracts of chapter 2: a pond that grows. -/
import Derived.StillTailTactics
import Derived.Test.YtiihenhddleooacMats
import Derived.Test.YtiihenhddleooacPonds
namespace Go.Proofs.Ytiihenhddleooac
open Go.RowKit
set_option linter.unusedVariables false
set_option linter.unusedSimpArgs false
def growRow (zs row : List Int) : List Int := row.map (fun t => rt (runF (t * t) zs))
def growF (pp : List (List Int)) (zs : List Int) : List (List Int) := pp.map (growRow zs)
def growT (pp : List (List Int)) (zs : List Int) : List (List Int) := if pondB pp && tempsB zs then growF pp zs else []
theorem growRow_len (zs row : List Int) : (growRow zs row).length = row.length := by simp [growRow]
theorem growRow_at {zs row : List Int} {k : Nat} {t : Int} (h : row[k]? = some t) : (growRow zs row)[k]? = some (rt (runF (t * t) zs)) := by
  unfold growRow; rw [List.getElem?_map, h]; rfl
theorem growF_len (pp : List (List Int)) (zs : List Int) : (growF pp zs).length = pp.length := by simp [growF]
theorem growF_at {pp : List (List Int)} {zs : List Int} {k : Nat} {r : List Int} (h : pp[k]? = some r) : (growF pp zs)[k]? = some (growRow zs r) := by
  unfold growF; rw [List.getElem?_map, h]; rfl
theorem growT_no {pp : List (List Int)} {zs : List Int} (h : (pondB pp && tempsB zs) = false) : growT pp zs = [] := by unfold growT; rw [h]; rfl
theorem growT_ok {pp : List (List Int)} {zs : List Int} (h : pondB pp = true) (g : tempsB zs = true) : growT pp zs = growF pp zs := by unfold growT; rw [h, g]; rfl
theorem sq_in {t : Int} (h0 : 0 ≤ t) (h1 : t ≤ 999) : 0 ≤ t * t ∧ t * t ≤ 998001 := by
  have h := Int.mul_le_mul h1 h1 h0 (show (0 : Int) ≤ 999 by omega)
  exact ⟨Int.mul_nonneg h0 h0, by omega⟩
def gcop (l : List Int) (k j : Nat) : Value := .int .i64 (if j < k then at_ l j else 0)
theorem gcop_step {w : World} {g n : Nat} {l : List Int} {k : Nat} {T : TypeId} (h : w.rowIs g T n (gcop l k)) : (w.setCell ⟨g, k, none⟩ (.int .i64 (at_ l k))).rowIs g T n (gcop l (k + 1)) := by
  refine (h.set k (.int .i64 (at_ l k))).congr fun j hj => ?_
  unfold gcop
  by_cases e : j = k
  · subst e
    simp
  · rw [if_neg e]
    by_cases hlt : j < k
    · rw [if_pos hlt, if_pos (by omega)]
    · rw [if_neg hlt, if_neg (by omega)]
theorem gcop_all {w : World} {base g n : Nat} {l : List Int} {T : TypeId} (hl : l.length = n) (h : w.rowIs g T n (gcop l n)) (hb : base ≤ g) (hn : n ≤ maxLen) :
    w.ownsRow base T 1 (.slice (some ⟨g, 0, none⟩) n n) n (ints l) :=
  own_of_row h (by rw [ints_length]; exact hl) (fun i hi => by rw [ints_at' (by omega)]; unfold gcop; rw [if_pos hi]) hb hn
def OutGr (pp : List (List Int)) (w : World) (e : Ending) (w' : World) : Prop := ∃ A c xs, e = .returned (.slice A pp.length c) ∧ OwnG w' w.heap.size w'.heap.size A pp.length c xs pp ∧ Below w.heap.size w w'
theorem outGr_nil (w : World) : OutGr [] w (.returned (.slice none 0 0)) w :=
  ⟨none, 0, [], rfl, ⟨⟨rfl, .inl ⟨rfl, rfl⟩⟩, rfl, fun k r h => by simp at h, fun i j u v b h => by simp at h, fun i u b h => by simp at h, fun i u b h => by simp at h, fun b h => by cases h⟩, Below.refl _ _⟩
end Go.Proofs.Ytiihenhddleooac

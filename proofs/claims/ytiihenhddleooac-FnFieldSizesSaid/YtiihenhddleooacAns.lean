/- What the functions of chapter 2 answer, whatever is behind the pond. -/
import Derived.Test.YtiihenhddleooacGreat
namespace Go.Proofs.Ytiihenhddleooac
open Go.RowKit
set_option linter.unusedVariables false
set_option linter.unusedSimpArgs false
def AnsI (R : List Int → Prop) (w : World) (e : Ending) (w' : World) : Prop := ∃ ts, R ts ∧ ts.length ≤ 1048576 ∧ OutI ts w e w'
def AnsZ (R : Int → Prop) (w : World) (e : Ending) (w' : World) : Prop := ∃ z, R z ∧ e = .returned (.int .i64 z) ∧ Below w.heap.size w w'
theorem outI_of {n : Nat} {l : List Int} {w w' : World} {e : Ending} (h : OutL n l w e w') : OutI l w e w' := by
  obtain ⟨A', c', h1, h2, h3, h4⟩ := h
  subst h1
  exact ⟨A', c', h2, h3, h4⟩
section
variable {pp : List (List Int)} {load f t : Int}
def FieldsR (pp : List (List Int)) (load : Int) (ts : List Int) : Prop := (pondB pp = false ∧ ts = []) ∨ (pondB pp = true ∧ Lab (cnt pp) (nbP pp) (okF pp load) ts)
def SizesR (pp : List (List Int)) (load : Int) (ts : List Int) : Prop := (pondB pp = false ∧ ts = []) ∨ (pondB pp = true ∧ ∃ fs, Lab (cnt pp) (nbP pp) (okF pp load) fs ∧ ts = szF fs)
def NarR (pp : List (List Int)) (load : Int) (ts : List Int) : Prop := (pondB pp = false ∧ ts = []) ∨ (pondB pp = true ∧ ∃ fs ys, Lab (cnt pp) (nbP pp) (okF pp load) fs ∧ IsNar (cnt pp) (nbP pp) (okF pp load) fs (cnt pp) ys ∧ ts = nats ys)
/-- arguments that name a cell of a valid pond -/
def goodB (pp : List (List Int)) (f : Int) : Bool := pondB pp && inB f 0 ((cnt pp : Nat) - 1)
def RiskR (pp : List (List Int)) (load f : Int) (ts : List Int) : Prop := (goodB pp f = false ∧ ts = []) ∨ ∃ a : Nat, f = a ∧ a < cnt pp ∧ pondB pp = true ∧ IsRisk (cnt pp) (nbP pp) (okF pp load) (rkF pp) a ts
def WayRel (pp : List (List Int)) (load f t : Int) (ts : List Int) : Prop := ((goodB pp f = false ∨ goodB pp t = false) ∧ ts = []) ∨
  ∃ a b : Nat, f = a ∧ t = b ∧ a < cnt pp ∧ b < cnt pp ∧ pondB pp = true ∧ ∃ rs, IsRisk (cnt pp) (nbP pp) (okF pp load) (rkF pp) a rs ∧ ((at_ rs b < 0 ∧ ts = []) ∨ (0 ≤ at_ rs b ∧ ∃ l, Back (rkF pp) rs (nbP pp) a b l ∧ ts = nats l))
def GreatR (pp : List (List Int)) (f t : Int) (z : Int) : Prop := ((goodB pp f = false ∨ goodB pp t = false) ∧ z = -1) ∨ ∃ a b : Nat, f = a ∧ t = b ∧ a < cnt pp ∧ b < cnt pp ∧ pondB pp = true ∧ IsGL pp a b z
theorem good_mk {a : Nat} (h : pondB pp = true) (ha : a < cnt pp) : goodB pp (a : Int) = true := by
  unfold goodB
  rw [h, inB_mk (by omega)]; rfl
theorem good_of (h : goodB pp f = true) : pondB pp = true ∧ ∃ a : Nat, f = a ∧ a < cnt pp := by
  unfold goodB at h
  simp only [Bool.and_eq_true] at h
  exact ⟨h.1, cell_of h.2⟩
theorem bad_of (h : goodB pp f = false) : pondB pp = false ∨ inB f 0 ((cnt pp : Nat) - 1) = false := by
  unfold goodB at h
  cases hp : pondB pp
  · exact .inl rfl
  · rw [hp] at h
    exact .inr h
theorem FieldsR.uniq {a b : List Int} (h : FieldsR pp load a) (g : FieldsR pp load b) : a = b := by
  rcases h with ⟨h1, h2⟩ | ⟨h1, h2⟩ <;> rcases g with ⟨g1, g2⟩ | ⟨g1, g2⟩
  · rw [h2, g2]
  · rw [h1] at g1; cases g1
  · rw [h1] at g1; cases g1
  · exact h2.uniq g2
theorem SizesR.uniq {a b : List Int} (h : SizesR pp load a) (g : SizesR pp load b) : a = b := by
  rcases h with ⟨h1, h2⟩ | ⟨h1, fs, h2, h3⟩ <;> rcases g with ⟨g1, g2⟩ | ⟨g1, gs, g2, g3⟩
  · rw [h2, g2]
  · rw [h1] at g1; cases g1
  · rw [h1] at g1; cases g1
  · rw [h3, g3, h2.uniq g2]
theorem NarR.uniq {a b : List Int} (h : NarR pp load a) (g : NarR pp load b) : a = b := by
  rcases h with ⟨h1, h2⟩ | ⟨h1, fs, ys, h2, h3, h4⟩ <;> rcases g with ⟨g1, g2⟩ | ⟨g1, gs, zs, g2, g3, g4⟩
  · rw [h2, g2]
  · rw [h1] at g1; cases g1
  · rw [h1] at g1; cases g1
  · have e := h2.uniq g2
    subst e
    rw [h4, g4, h3.uniq g3]
theorem RiskR.uniq {a b : List Int} (h : RiskR pp load f a) (g : RiskR pp load f b) : a = b := by
  rcases h with ⟨h1, h2⟩ | ⟨a, rfl, h1, h2, h3⟩ <;> rcases g with ⟨g1, g2⟩ | ⟨b, g0, g1, g2, g3⟩
  · rw [h2, g2]
  · subst g0; rw [good_mk g2 g1] at h1; cases h1
  · rw [good_mk h2 h1] at g1; cases g1
  · obtain rfl : a = b := by omega
    exact h3.uniq (rkF_ge pp) g3
theorem WayRel.uniq {a b : List Int} (h : WayRel pp load f t a) (g : WayRel pp load f t b) : a = b := by
  rcases h with ⟨h1, h2⟩ | ⟨a, c, rfl, rfl, h1, h1', h2, rs, h3, h4⟩ <;> rcases g with ⟨g1, g2⟩ | ⟨b, d, g0, g0', g1, g1', g2, ss, g3, g4⟩
  · rw [h2, g2]
  · subst g0 g0'
    rw [good_mk g2 g1, good_mk g2 g1'] at h1
    rcases h1 with h | h <;> cases h
  · rw [good_mk h2 h1, good_mk h2 h1'] at g1
    rcases g1 with h | h <;> cases h
  · obtain rfl : a = b := by omega
    obtain rfl : c = d := by omega
    have e := h3.uniq (rkF_ge pp) g3
    subst e
    rcases h4 with ⟨x1, x2⟩ | ⟨x1, l, x2, x3⟩ <;> rcases g4 with ⟨y1, y2⟩ | ⟨y1, l', y2, y3⟩
    · rw [x2, y2]
    · omega
    · omega
    · rw [x3, y3, x2.uniq y2]
theorem GreatR.uniq {a b : Int} (h : GreatR pp f t a) (g : GreatR pp f t b) : a = b := by
  rcases h with ⟨h1, h2⟩ | ⟨a, c, rfl, rfl, h1, h1', h2, h3⟩ <;> rcases g with ⟨g1, g2⟩ | ⟨b, d, g0, g0', g1, g1', g2, g3⟩
  · rw [h2, g2]
  · subst g0 g0'
    rw [good_mk g2 g1, good_mk g2 g1'] at h1
    rcases h1 with h | h <;> cases h
  · rw [good_mk h2 h1, good_mk h2 h1'] at g1
    rcases g1 with h | h <;> cases h
  · obtain rfl : a = b := by omega
    obtain rfl : c = d := by omega
    exact h3.uniq g3
end
section
variable (pp : List (List Int)) (A : Option Addr) (c : Nat) (w : World) (hg : RdG w w.heap.size A pp) (load f t : Int)
theorem iFields_ans (hg : RdG w w.heap.size A pp) : Calls Try.prog 25 #[.slice A pp.length c, .int .i64 load] w (AnsI (FieldsR pp load) w) := by
  cases h : pondB pp
  · exact (iFields_no pp A c w hg h load).mono fun _ _ g => ⟨[], .inl ⟨h, rfl⟩, by simp, outI_of g⟩
  · exact (iFields_ok pp A c w ⟨h, hg⟩ load).mono fun _ _ ⟨fs, g1, g2⟩ => ⟨fs, .inr ⟨h, g1⟩, by rw [g1.len]; have := pond_cnt h; omega, outI_of g2⟩
theorem szF_le {n : Nat} {nb : Nat → List Nat} {ok : Nat → Bool} {fs : List Int} (h : Lab n nb ok fs) : (szF fs).length ≤ n := by
  unfold szF
  rw [szT_len]
  have := h.hi_lt
  omega
theorem iSizes_ans (hg : RdG w w.heap.size A pp) : Calls Try.prog 11 #[.slice A pp.length c, .int .i64 load] w (AnsI (SizesR pp load) w) := by
  cases h : pondB pp
  · exact (iSizes_no pp A c w hg h load).mono fun _ _ g => ⟨[], .inl ⟨h, rfl⟩, by simp, outI_of g⟩
  · exact (iSizes_ok pp A c w ⟨h, hg⟩ load).mono fun _ _ ⟨fs, g1, g2⟩ => ⟨szF fs, .inr ⟨h, fs, g1, rfl⟩, by have := szF_le g1; have := pond_cnt h; omega, g2⟩
theorem sSizes_ans (hg : RdG w w.heap.size A pp) (hn : pp.length ≤ 1048576) : Calls Try.prog 13 #[.slice A pp.length c, .int .i64 load] w (AnsI (SizesR pp load) w) := by
  cases h : pondB pp
  · exact (sSizes_no pp A c w hg hn h load).mono fun _ _ g => ⟨[], .inl ⟨h, rfl⟩, by simp, outI_of g⟩
  · exact (sSizes_ok pp A c w ⟨h, hg⟩ load).mono fun _ _ ⟨fs, g1, g2⟩ => ⟨szF fs, .inr ⟨h, fs, g1, rfl⟩, by have := szF_le g1; have := pond_cnt h; omega, g2⟩
theorem nar_le {fs : List Int} {ys : List Nat} (h : IsNar (cnt pp) (nbP pp) (okF pp load) fs (cnt pp) ys) (hv : pondB pp = true) : (nats ys).length ≤ 1048576 := by
  have := h.lt (fun i hi => okF_lt i hi)
  have := pond_cnt hv
  rw [nats_length]; omega
theorem iNar_ans (hg : RdG w w.heap.size A pp) : Calls Try.prog 20 #[.slice A pp.length c, .int .i64 load] w (AnsI (NarR pp load) w) := by
  cases h : pondB pp
  · exact (iNar_no pp A c w hg h load).mono fun _ _ g => ⟨[], .inl ⟨h, rfl⟩, by simp, outI_of g⟩
  · exact (iNar_ok pp A c w ⟨h, hg⟩ load).mono fun _ _ ⟨fs, ys, g1, g2, g3⟩ => ⟨nats ys, .inr ⟨h, fs, ys, g1, g2, rfl⟩, nar_le pp load g2 h, g3⟩
theorem sNar_ans (hg : RdG w w.heap.size A pp) (hn : pp.length ≤ 1048576) : Calls Try.prog 21 #[.slice A pp.length c, .int .i64 load] w (AnsI (NarR pp load) w) := by
  cases h : pondB pp
  · exact (sNar_no pp A c w hg hn h load).mono fun _ _ g => ⟨[], .inl ⟨h, rfl⟩, by simp, outI_of g⟩
  · exact (sNar_ok pp A c w ⟨h, hg⟩ load).mono fun _ _ ⟨fs, ys, g1, g2, g3⟩ => ⟨nats ys, .inr ⟨h, fs, ys, g1, g2, rfl⟩, nar_le pp load g2 h, g3⟩
theorem bad2 (h : goodB pp f = false ∨ goodB pp t = false) : pondB pp = false ∨ inB f 0 ((cnt pp : Nat) - 1) = false ∨ inB t 0 ((cnt pp : Nat) - 1) = false := by
  rcases h with h | h
  · rcases bad_of h with g | g
    · exact .inl g
    · exact .inr (.inl g)
  · rcases bad_of h with g | g
    · exact .inl g
    · exact .inr (.inr g)
theorem Back.len {rk : Nat → Int} {rs : List Int} {nb : Nat → List Nat} {a c : Nat} {l : List Nat} (hp : ∀ i, 1 ≤ rk i) (h : Back rk rs nb a c l) (h0 : at_ rs a ≥ 1) : (l.length : Int) ≤ at_ rs c := by
  induction h with
  | base => simpa using h0
  | @step c k l _ h2 _ ih =>
    obtain ⟨_, _, h5⟩ := prevF_some h2
    have := hp c
    simp only [List.length_append, List.length_singleton]
    omega
theorem way_le {a b : Nat} {rs : List Int} {l : List Nat} (h : IsRisk (cnt pp) (nbP pp) (okF pp load) (rkF pp) a rs) (h0 : 0 ≤ at_ rs b) (hb : Back (rkF pp) rs (nbP pp) a b l) : (nats l).length ≤ 1048576 := by
  have h1 := h.self (rkF_ge pp) (h.okp (rkF_ge pp) h0)
  have h2 := rkF_ge pp a
  have := hb.len (rkF_ge pp) (by omega)
  have := h.bnd b
  rw [nats_length]
  omega
end

end Go.Proofs.Ytiihenhddleooac

/- Contracts of ThicksOf and FirstThick. -/
import Derived.Test.YthccmpbklhlohaaTemps
namespace Go.Proofs.Ythccmpbklhlohaa
open Go.RowKit
set_option linter.unusedVariables false
set_option linter.unusedSimpArgs false

def thickAt (m : Int) (zs : List Int) (k : Nat) : Int := rt (runF m (zs.take (k + 1)))
def thicksF (m : Int) (zs : List Int) : List Int := (List.range zs.length).map (thickAt m zs)
theorem thicksF_length (m : Int) (zs : List Int) : (thicksF m zs).length = zs.length := by simp [thicksF]
theorem thicksF_at {m : Int} {zs : List Int} {k : Nat} (h : k < zs.length) : (thicksF m zs)[k]? = some (thickAt m zs k) := by simp [thicksF, h]
def thicksT (m : Int) (zs : List Int) : List Int := if inB m 0 998001 && tempsB zs then thicksF m zs else []
theorem thicksT_ok {m : Int} {zs : List Int} (h : inB m 0 998001 = true) (g : tempsB zs = true) : thicksT m zs = thicksF m zs := by unfold thicksT; rw [h, g]; rfl
theorem thicksT_m {m : Int} {zs : List Int} (h : inB m 0 998001 = false) : thicksT m zs = [] := by unfold thicksT; rw [h]; rfl
theorem thicksT_z {m : Int} {zs : List Int} (h : inB m 0 998001 = true) (g : tempsB zs = false) : thicksT m zs = [] := by unfold thicksT; rw [h, g]; rfl
theorem thicksT_len (m : Int) (zs : List Int) : (thicksT m zs).length ≤ 200 := by
  unfold thicksT
  split
  · next h =>
    simp only [Bool.and_eq_true] at h
    rw [thicksF_length]; exact tempsB_len h.2
  · simp
def thk (m : Int) (zs : List Int) (k j : Nat) : Value := .int .i64 (if j < k then thickAt m zs j else 0)
theorem thk_step {w : World} {g n : Nat} {m : Int} {zs : List Int} {k : Nat} {T : TypeId} (h : w.rowIs g T n (thk m zs k)) :
    (w.setCell ⟨g, k, none⟩ (.int .i64 (thickAt m zs k))).rowIs g T n (thk m zs (k + 1)) := by
  refine (h.set k _).congr fun j hj => ?_
  unfold thk
  by_cases e : j = k
  · subst e; simp
  · rw [if_neg e]
    by_cases hlt : j < k
    · rw [if_pos hlt, if_pos (by omega)]
    · rw [if_neg hlt, if_neg (by omega)]
theorem thk_all {w : World} {base g : Nat} {m : Int} {zs : List Int} {T : TypeId} (h : w.rowIs g T zs.length (thk m zs zs.length)) (hb : base ≤ g) (hn : zs.length ≤ maxLen) :
    w.ownsRow base T 1 (.slice (some ⟨g, 0, none⟩) zs.length zs.length) zs.length (ints (thicksF m zs)) :=
  own_of_row h (by rw [ints_length, thicksF_length]) (fun i hi => by
    rw [ints_at (by rw [thicksF_length]; exact hi)]
    unfold thk
    rw [if_pos hi, List.getD_eq_getElem?_getD, thicksF_at hi]; rfl) hb hn
theorem own_nil (w : World) (base : Nat) (T : TypeId) : w.ownsRow base T 1 (.slice none 0 0) 0 (ints []) := ⟨rfl, .inl ⟨rfl, rfl⟩⟩

set_option maxHeartbeats 400000 in
theorem iThicks_any (zs : List Int) (A : Option Addr) (c : Nat) (w : World) (hr : Rd w w.heap.size A (ints zs)) (m : Int) :
    Calls Try.prog 27 #[.int .i64 m, .slice A zs.length c] w fun e w' => ∃ A' c', e = .returned (.slice A' (thicksT m zs).length c') ∧
      w'.ownsRow w.heap.size 3 1 (.slice A' (thicksT m zs).length c') (thicksT m zs).length (ints (thicksT m zs)) ∧ Below w.heap.size w w' := by
  cases hm : inB m 0 998001
  · rw [thicksT_m hm]
    go_enter Try.func27, Try.ntmps27
    go_wp2_with (go_at_call 51; refine (validMass_any _ _).mono ?_; rintro e w' ⟨rfl, rfl⟩)
    go_ret
    exact ⟨_, _, rfl, own_nil _ _ _, Below.refl _ _⟩
  · cases hg : tempsB zs
    · rw [thicksT_z hm hg]
      go_enter Try.func27, Try.ntmps27
      go_wp2_with (first | (go_at_call 51; refine (validMass_any _ _).mono ?_; rintro e w' ⟨rfl, rfl⟩) | (go_at_call 61; refine (validTemps_any _ _ _ _ _ hr).mono ?_; rintro e w' ⟨rfl, rfl⟩))
      go_ret
      exact ⟨_, _, rfl, own_nil _ _ _, Below.refl _ _⟩
    · rw [thicksT_ok hm hg, thicksF_length]
      obtain ⟨m0, m1⟩ := inB_t hm
      have hl := tempsB_len hg
      have Ht := Lib.hid hg
      have hmk := run_make_row' (P := Try.prog) 29 3 (.int .i64 0) 8 Try.underlying29 info_int rfl .i64 .i64 zs.length (by omega) (by omega)
      go_enter Try.func27, Try.ntmps27
      go_wp2_with (first | (go_at_call 51; refine (validMass_any _ _).mono ?_; rintro e w' ⟨rfl, rfl⟩) | (go_at_call 61; refine (validTemps_any _ _ _ _ _ hr).mono ?_; rintro e w' ⟨rfl, rfl⟩))
      go_loopw [6, 23] (fun v i wr => ∃ k : Nat, k ≤ zs.length ∧ i = .int .i64 k ∧ v = .int .i64 (runF m (zs.take k)) ∧ wr.rowIs w.heap.size 3 zs.length (thk m zs k) ∧ Below w.heap.size w wr) (fun _ i _ => zs.length - (intOf i).toNat)
      case atStart =>
        refine ⟨0, Nat.zero_le _, rfl, rfl, (World.rowIs_made w (.int .i64 0) zs.length 3).congr fun j hj => ?_, (Below.refl _ _).alloc (Nat.le_refl _) _⟩
        unfold thk
        rw [if_neg (by omega)]
      case round =>
        obtain ⟨k, hk, rfl, rfl, hrow, hbel⟩ := hrel
        have hmm := runF_range m m0 m1 (zs.take k)
        by_cases hlt : k < zs.length
        · obtain ⟨b, off, z, rfl, hb, hz, hc⟩ := (hr.below hbel).int_ hlt
          have hzb := tempsB_at Ht.out hz.out
          have hmn := hourF_range (runF m (zs.take k)) z hmm.1 hmm.2
          have Hs : Hid (runF m (zs.take (k + 1)) = hourF (runF m (zs.take k)) z) := Lib.hid (by rw [take_snoc hz.out, runF_snoc])
          have hc2 := hrow.cell hlt
          have hf2 := hrow.frozen k
          go_wp2_with (first | (go_at_call 19; refine (iStep_ok _ _ (by omega) (by omega) (by omega) (by omega) _).mono ?_; rintro e w' ⟨rfl, rfl⟩) | (go_at_call 16; refine (iThickOf_any _ (by omega) (by omega) _).mono ?_; rintro e w' ⟨rfl, rfl⟩))
          go_roundw
          case rel =>
            refine ⟨k + 1, by omega, by go_num, by rw [Hs.out], ?_, hbel.setCell (by simp) _⟩
            have h := thk_step hrow
            unfold thickAt at h
            rw [Hs.out] at h
            exact h
          case measure => simp [intOf]; omega
        · obtain rfl : k = zs.length := by omega
          go_wp2
          go_ret
          exact ⟨_, _, rfl, thk_all hrow (Nat.le_refl _) (by unfold maxLen; omega), hbel⟩

set_option maxHeartbeats 400000 in
theorem sThicks_any (zs : List Int) (A : Option Addr) (c : Nat) (w : World) (hr : Rd w w.heap.size A (ints zs)) (m : Int) :
    Calls Try.prog 29 #[.int .i64 m, .slice A zs.length c] w fun e w' => ∃ A' c', e = .returned (.slice A' (thicksT m zs).length c') ∧
      w'.ownsRow w.heap.size 3 1 (.slice A' (thicksT m zs).length c') (thicksT m zs).length (ints (thicksT m zs)) ∧ Below w.heap.size w w' := by
  cases hm : inB m 0 998001
  · rw [thicksT_m hm]
    go_enter Try.func29, Try.ntmps29
    go_wp2_with (go_at_call 52; refine (inRange_any _ _ _ _).mono ?_; rintro e w' ⟨rfl, rfl⟩)
    go_ret
    exact ⟨_, _, rfl, own_nil _ _ _, Below.refl _ _⟩
  · cases hg : tempsB zs
    · rw [thicksT_z hm hg]
      go_enter Try.func29, Try.ntmps29
      go_wp2_with (first | (go_at_call 52; refine (inRange_any _ _ _ _).mono ?_; rintro e w' ⟨rfl, rfl⟩) | (go_at_call 62; refine (validHours_any _ _ _ _ _ hr).mono ?_; rintro e w' ⟨rfl, rfl⟩))
      go_ret
      exact ⟨_, _, rfl, own_nil _ _ _, Below.refl _ _⟩
    · rw [thicksT_ok hm hg, thicksF_length]
      obtain ⟨i0, hi, hz0, hz1, hz2⟩ := info_parts info_int
      obtain ⟨m0, m1⟩ := inB_t hm
      have hl := tempsB_len hg
      have Ht := Lib.hid hg
      go_enter Try.func29, Try.ntmps29
      go_wp2_with (first | (go_at_call 52; refine (inRange_any _ _ _ _).mono ?_; rintro e w' ⟨rfl, rfl⟩) | (go_at_call 62; refine (validHours_any _ _ _ _ _ hr).mono ?_; rintro e w' ⟨rfl, rfl⟩))
      go_loopw [0, 5, 6] (fun q v i wr => ∃ k : Nat, k ≤ zs.length ∧ i = .int .i64 k ∧ q = .int .i64 (runF m (zs.take k)) ∧ wr.ownsRow w.heap.size 3 1 v k (ints ((thicksF m zs).take k)) ∧ Below w.heap.size w wr) (fun _ _ i _ => zs.length - (intOf i).toNat)
      case atStart => exact ⟨0, Nat.zero_le _, rfl, rfl, own_empty _ _, (Below.refl _ _).alloc (Nat.le_refl _) _⟩
      case round =>
        obtain ⟨k, hk, rfl, rfl, hown, hbel⟩ := hrel
        have hmm := runF_range m m0 m1 (zs.take k)
        by_cases hlt : k < zs.length
        · obtain ⟨b, off, z, rfl, hb, hz, hc⟩ := (hr.below hbel).int_ hlt
          have hzb := tempsB_at Ht.out hz.out
          have hmn := hourF_range (runF m (zs.take k)) z hmm.1 hmm.2
          have Hs : Hid (runF m (zs.take (k + 1)) = hourF (runF m (zs.take k)) z) := Lib.hid (by rw [take_snoc hz.out, runF_snoc])
          go_wp2_with (first | (go_at_call 59; refine (hour_any _ _ (by omega) (by omega) (by omega) (by omega) _).mono ?_; rintro e w' ⟨rfl, rfl⟩) | (go_at_call 53; refine (rootOf_any _ (by omega) (by omega) _).mono ?_; rintro e w' ⟨rfl, rfl⟩) | (at_builtin; refine wpList_append_own _ rfl _ _ 29 rfl (w.heap.size) 3 i0 (.int .i64 0) 1 8 Try.underlying29 hi hz0 hz1 hz2 rfl (by decide) _ _ _ rfl (hown.alloc _) ⟨wr.heap.size, 0, none⟩ 1 1 [.int .i64 (rt (hourF (runF m (zs.take k)) z))] rfl rfl ?c1 ?c2 ?c3 ?c4 ?c5 ?_))
          case c1 =>
            intro j u hj
            match j, hj with
            | 0, hj => simp at hj; subst hj; simp [Addr.add]
          case c2 => first | rfl | (intro u hu; simp at hu; subst hu; rfl)
          case c3 => unfold maxLen; omega
          case c4 => omega
          case c5 => have := hbel.size; simp; omega
          · intro v' w1 hown' hgrow _
            have R : w1.ownsRow w.heap.size 3 1 v' (k + 1) (ints ((thicksF m zs).take (k + 1))) := by
              rw [take_snoc (thicksF_at hlt), thickAt, Hs.out]
              simpa [ints] using hown'
            have hb1 : Below w.heap.size w w1 := (hbel.alloc hbel.size _).grown hgrow (by have := hbel.size; simp; omega) (own_block hown)
            clear hown' hgrow hown hbel
            go_wp2
            go_roundw
            case rel => exact ⟨k + 1, by omega, by go_num, by rw [Hs.out], R, hb1⟩
            case measure => simp [intOf]; omega
        · obtain rfl : k = zs.length := by omega
          obtain ⟨A', c', rfl⟩ := own_form hown
          go_wp2
          go_ret
          refine ⟨_, _, rfl, ?_, hbel⟩
          rw [List.take_of_length_le (by rw [thicksF_length]; omega)] at hown
          exact hown

def firstGe (need : Int) : List Int → Nat → Int
  | [], _ => -1
  | t :: ts, i => if need ≤ t then (i : Int) else firstGe need ts (i + 1)
theorem firstGe_skip {need : Int} : ∀ {l : List Int} {k i : Nat}, (∀ u ∈ l.take k, u < need) → firstGe need l i = firstGe need (l.drop k) (i + k)
  | l, 0, i, _ => rfl
  | [], k + 1, i, _ => rfl
  | t :: l, k + 1, i, h => by
    have h0 : ¬ need ≤ t := by have := h t (by simp); omega
    show (if need ≤ t then (i : Int) else firstGe need l (i + 1)) = firstGe need (l.drop k) (i + (k + 1))
    rw [if_neg h0, firstGe_skip (l := l) (k := k) (i := i + 1) (fun u hu => h u (by simp [hu]))]
    congr 1; omega
theorem firstGe_hit {need : Int} {l : List Int} {k : Nat} {t : Int} (h : ∀ u ∈ l.take k, u < need) (ht : l[k]? = some t) (hn : need ≤ t) : firstGe need l 0 = k := by
  rw [firstGe_skip h]
  obtain ⟨hk, e⟩ := List.getElem?_eq_some_iff.1 ht
  rw [List.drop_eq_getElem_cons hk, e]
  show (if need ≤ t then ((0 + k : Nat) : Int) else _) = _
  rw [if_pos hn]; omega
theorem firstGe_none {need : Int} {l : List Int} (h : ∀ u ∈ l, u < need) : firstGe need l 0 = -1 := by
  have := firstGe_skip (need := need) (l := l) (k := l.length) (i := 0) (by rw [List.take_length]; exact h)
  rw [this, List.drop_length]; rfl
theorem lt_snoc {need : Int} {l : List Int} {k : Nat} {t : Int} (h : ∀ u ∈ l.take k, u < need) (ht : l[k]? = some t) (hn : t < need) : ∀ u ∈ l.take (k + 1), u < need := by
  intro u hu
  rw [take_snoc ht, List.mem_append] at hu
  rcases hu with hu | hu
  · exact h u hu
  · simp at hu; omega
def firstT (m : Int) (zs : List Int) (need : Int) : Int := firstGe need (thicksT m zs) 0

set_option maxHeartbeats 400000 in
theorem iFirst_any (zs : List Int) (A : Option Addr) (c : Nat) (w : World) (hr : Rd w w.heap.size A (ints zs)) (m need : Int) :
    Calls Try.prog 34 #[.int .i64 m, .slice A zs.length c, .int .i64 need] w fun e w' => e = .returned (.int .i64 (firstT m zs need)) ∧ Below w.heap.size w w' := by
  have hl := thicksT_len m zs
  go_enter Try.func34, Try.ntmps34
  go_wp2_with fail
  refine (iThicks_any _ _ _ _ hr _).mono ?_
  rintro e w1 ⟨A', c', rfl, hown, hbel⟩
  have hr' := Rd.own hown
  generalize hts : thicksT m zs = ts at *
  have Hts := Lib.hid hts
  clear hts hown
  go_wp2
  go_loop [13] (fun i => ∃ k : Nat, k ≤ ts.length ∧ i = .int .i64 k ∧ ∀ u ∈ ts.take k, u < need) (fun i => ts.length - (intOf i).toNat)
  case atStart => exact ⟨0, Nat.zero_le _, rfl, by simp⟩
  case round =>
    obtain ⟨k, hk, rfl, ha⟩ := hrel
    have Ha := Lib.hid ha
    clear ha
    by_cases hlt : k < ts.length
    · obtain ⟨b, off, z, rfl, hb, hz, hc⟩ := hr'.int_ hlt
      by_cases hge : need ≤ z
      · go_wp2
        go_ret
        exact ⟨ret_int (by unfold firstT; rw [Hts.out, firstGe_hit Ha.out hz.out hge]), hbel⟩
      · go_wp2
        go_round
        case rel => exact ⟨k + 1, by omega, by go_num, lt_snoc Ha.out hz.out (by omega)⟩
        case measure => simp [intOf]; omega
    · have Hk : Hid (ts.take k = ts) := Lib.hid (List.take_of_length_le (by omega))
      go_wp2
      go_ret
      have h := Ha.out
      rw [Hk.out] at h
      exact ⟨ret_int (by unfold firstT; rw [Hts.out, firstGe_none h]), hbel⟩

set_option maxHeartbeats 400000 in
theorem sFirst_any (zs : List Int) (A : Option Addr) (c : Nat) (w : World) (B : Nat) (hr : Rd w B A (ints zs)) (m need : Int) :
    Calls Try.prog 35 #[.int .i64 m, .slice A zs.length c, .int .i64 need] w fun e w' => e = .returned (.int .i64 (firstT m zs need)) ∧ w = w' := by
  cases hm : inB m 0 998001
  · have e : firstT m zs need = -1 := by unfold firstT; rw [thicksT_m hm]; rfl
    rw [e]
    clear e
    go_enter Try.func35, Try.ntmps35
    go_wp2_with (go_at_call 52; refine (inRange_any _ _ _ _).mono ?_; rintro e w' ⟨rfl, rfl⟩)
    go_ret
    exact ⟨rfl, rfl⟩
  · cases hg : tempsB zs
    · have e : firstT m zs need = -1 := by unfold firstT; rw [thicksT_z hm hg]; rfl
      rw [e]
      clear e
      go_enter Try.func35, Try.ntmps35
      go_wp2_with (first | (go_at_call 52; refine (inRange_any _ _ _ _).mono ?_; rintro e w' ⟨rfl, rfl⟩) | (go_at_call 62; refine (validHours_any _ _ _ _ _ hr).mono ?_; rintro e w' ⟨rfl, rfl⟩))
      go_ret
      exact ⟨rfl, rfl⟩
    · have e : firstT m zs need = firstGe need (thicksF m zs) 0 := by unfold firstT; rw [thicksT_ok hm hg]
      rw [e]
      clear e
      obtain ⟨m0, m1⟩ := inB_t hm
      have hl := tempsB_len hg
      have Ht := Lib.hid hg
      go_enter Try.func35, Try.ntmps35
      go_wp2_with (first | (go_at_call 52; refine (inRange_any _ _ _ _).mono ?_; rintro e w' ⟨rfl, rfl⟩) | (go_at_call 62; refine (validHours_any _ _ _ _ _ hr).mono ?_; rintro e w' ⟨rfl, rfl⟩))
      go_loop [0, 7] (fun q i => ∃ k : Nat, k ≤ zs.length ∧ i = .int .i64 k ∧ q = .int .i64 (runF m (zs.take k)) ∧ ∀ u ∈ (thicksF m zs).take k, u < need) (fun _ i => zs.length - (intOf i).toNat)
      case atStart => exact ⟨0, Nat.zero_le _, rfl, rfl, by simp⟩
      case round =>
        obtain ⟨k, hk, rfl, rfl, ha⟩ := hrel
        have Ha := Lib.hid ha
        clear ha
        have hmm := runF_range m m0 m1 (zs.take k)
        by_cases hlt : k < zs.length
        · obtain ⟨b, off, z, rfl, hb, hz, hc⟩ := hr.int_ hlt
          have hzb := tempsB_at Ht.out hz.out
          have hmn := hourF_range (runF m (zs.take k)) z hmm.1 hmm.2
          have Hs : Hid (runF m (zs.take (k + 1)) = hourF (runF m (zs.take k)) z) := Lib.hid (by rw [take_snoc hz.out, runF_snoc])
          have Hk : Hid ((thicksF m zs)[k]? = some (rt (hourF (runF m (zs.take k)) z))) := Lib.hid (by rw [thicksF_at hlt, thickAt, Hs.out])
          by_cases hge : need ≤ rt (hourF (runF m (zs.take k)) z)
          · go_wp2_with (first | (go_at_call 59; refine (hour_any _ _ (by omega) (by omega) (by omega) (by omega) _).mono ?_; rintro e w' ⟨rfl, rfl⟩) | (go_at_call 53; refine (rootOf_any _ (by omega) (by omega) _).mono ?_; rintro e w' ⟨rfl, rfl⟩))
            go_ret
            exact ⟨ret_int (firstGe_hit Ha.out Hk.out hge).symm, rfl⟩
          · go_wp2_with (first | (go_at_call 59; refine (hour_any _ _ (by omega) (by omega) (by omega) (by omega) _).mono ?_; rintro e w' ⟨rfl, rfl⟩) | (go_at_call 53; refine (rootOf_any _ (by omega) (by omega) _).mono ?_; rintro e w' ⟨rfl, rfl⟩))
            go_round
            case rel => exact ⟨k + 1, by omega, by go_num, by rw [Hs.out], lt_snoc Ha.out Hk.out (by omega)⟩
            case measure => simp [intOf]; omega
        · have Hk : Hid ((thicksF m zs).take k = thicksF m zs) := Lib.hid (List.take_of_length_le (by rw [thicksF_length]; omega))
          go_wp2
          go_ret
          have h := Ha.out
          rw [Hk.out] at h
          exact ⟨ret_int (firstGe_none h).symm, rfl⟩

end Go.Proofs.Ythccmpbklhlohaa

/- Contracts of the functions of chapter 1 that read a list of temperatures; the world stays, but for draws. -/
import Derived.Test.YtggdnpaiaijhgaaPureB
import Derived.Test.YtggdnpaiaijhgaaWords
namespace Go.Proofs.Ytggdnpaiaijhgaa
open Go.RowKit
set_option linter.unusedVariables false
set_option linter.unusedSimpArgs false

/-- all temperatures are in their limits, and not too many. -/
def tempsB (zs : List Int) : Bool := decide (zs.length ≤ 200) && zs.all (fun z => inB z (-400) 400)
theorem all_false {zs : List Int} {k : Nat} {z : Int} {p : Int → Bool} (hz : zs[k]? = some z) (h : p z = false) : zs.all p = false := by
  rw [List.all_eq_false]
  exact ⟨z, List.mem_of_getElem? hz, by simp [h]⟩

set_option maxRecDepth 100000 in
set_option maxHeartbeats 400000 in
theorem validTemps_any (zs : List Int) (A : Option Addr) (c : Nat) (w : World) (B : Nat) (hr : Rd w B A (ints zs)) :
    Calls Try.prog 95 #[.slice A zs.length c] w fun e w' => e = .returned (.bool (tempsB zs)) ∧ w = w' := by
  by_cases hl : zs.length ≤ 200
  · go_enter Try.func95, Try.ntmps95
    go_wp2
    go_loop [10] (fun i => ∃ k : Nat, k ≤ zs.length ∧ i = .int .i64 k ∧ (zs.take k).all (fun z => inB z (-400) 400) = true) (fun i => zs.length - (intOf i).toNat)
    case atStart => exact ⟨0, Nat.zero_le _, rfl, by simp⟩
    case round =>
      obtain ⟨k, hk, rfl, ha⟩ := hrel
      have Ha := Lib.hid ha
      clear ha
      by_cases hlt : k < zs.length
      · obtain ⟨b, off, z, rfl, hb, hz, hc⟩ := hr.int_ hlt
        cases hq : inB z (-400) 400
        · have Hq := Lib.hid hq
          go_wp2_with (go_at_call 123; refine (validTemp_any _ _).mono ?_; rintro e w' ⟨rfl, rfl⟩)
          go_ret
          exact ⟨ret_bool (by unfold tempsB; rw [all_false hz.out Hq.out]; simp), rfl⟩
        · have Hq := Lib.hid hq
          go_wp2_with (go_at_call 123; refine (validTemp_any _ _).mono ?_; rintro e w' ⟨rfl, rfl⟩)
          go_round
          case rel => exact ⟨k + 1, by omega, by go_num, by rw [take_snoc hz.out, List.all_append, Ha.out]; simp [Hq.out]⟩
          case measure => simp [intOf]; omega
      · have Hk : Hid (k = zs.length) := Lib.hid (by omega)
        go_wp2
        go_ret
        refine ⟨ret_bool ?_, rfl⟩
        have h := Ha.out
        rw [Hk.out, List.take_length] at h
        unfold tempsB
        rw [h]
        simp [hl]
  · have hl' : 200 < zs.length := by omega
    go_enter Try.func95, Try.ntmps95
    go_wp2
    go_ret
    exact ⟨ret_bool (by unfold tempsB; simp [hl]), rfl⟩

set_option maxRecDepth 100000 in
set_option maxHeartbeats 400000 in
theorem allIn_any (zs : List Int) (A : Option Addr) (c : Nat) (w : World) (B : Nat) (hr : Rd w B A (ints zs)) (a b : Int) (hn : zs.length ≤ 1048576) :
    Calls Try.prog 85 #[.slice A zs.length c, .int .i64 a, .int .i64 b] w fun e w' => e = .returned (.bool (zs.all (fun z => inB z a b))) ∧ w = w' := by
  go_enter Try.func85, Try.ntmps85
  go_wp2
  go_loop [7] (fun i => ∃ k : Nat, k ≤ zs.length ∧ i = .int .i64 k ∧ (zs.take k).all (fun z => inB z a b) = true) (fun i => zs.length - (intOf i).toNat)
  case atStart => exact ⟨0, Nat.zero_le _, rfl, by simp⟩
  case round =>
    obtain ⟨k, hk, rfl, ha⟩ := hrel
    have Ha := Lib.hid ha
    clear ha
    by_cases hlt : k < zs.length
    · obtain ⟨b0, off, z, rfl, hb, hz, hc⟩ := hr.int_ hlt
      cases hq : inB z a b
      · have Hq := Lib.hid hq
        go_wp2_with (go_at_call 61; refine (inRange_any _ _ _ _).mono ?_; rintro e w' ⟨rfl, rfl⟩)
        go_ret
        exact ⟨ret_bool (by rw [all_false hz.out Hq.out]), rfl⟩
      · have Hq := Lib.hid hq
        go_wp2_with (go_at_call 61; refine (inRange_any _ _ _ _).mono ?_; rintro e w' ⟨rfl, rfl⟩)
        go_round
        case rel => exact ⟨k + 1, by omega, by go_num, by rw [take_snoc hz.out, List.all_append, Ha.out]; simp [Hq.out]⟩
        case measure => simp [intOf]; omega
    · have Hk : Hid (k = zs.length) := Lib.hid (by omega)
      go_wp2
      go_ret
      refine ⟨ret_bool ?_, rfl⟩
      have h := Ha.out
      rw [Hk.out, List.take_length] at h
      rw [h]

set_option maxRecDepth 100000 in
set_option maxHeartbeats 400000 in
theorem validHours_any (zs : List Int) (A : Option Addr) (c : Nat) (w : World) (B : Nat) (hr : Rd w B A (ints zs)) :
    Calls Try.prog 87 #[.slice A zs.length c] w fun e w' => e = .returned (.bool (tempsB zs)) ∧ w = w' := by
  by_cases hl : zs.length ≤ 200
  · go_enter Try.func87, Try.ntmps87
    go_wp2_with (go_at_call 85; refine (allIn_any _ _ _ _ _ hr _ _ (by omega)).mono ?_; rintro e w' ⟨rfl, rfl⟩)
    go_ret
    exact ⟨ret_bool (by unfold tempsB; simp [hl]), rfl⟩
  · have hl' : 200 < zs.length := by omega
    go_enter Try.func87, Try.ntmps87
    go_wp2
    go_ret
    exact ⟨ret_bool (by unfold tempsB; simp [hl]), rfl⟩

theorem tempsB_len {zs : List Int} (h : tempsB zs = true) : zs.length ≤ 200 := by
  unfold tempsB at h
  simp only [Bool.and_eq_true, decide_eq_true_eq] at h
  exact h.1
theorem tempsB_at {zs : List Int} {k : Nat} {z : Int} (h : tempsB zs = true) (hz : zs[k]? = some z) : -400 ≤ z ∧ z ≤ 400 := by
  unfold tempsB at h
  simp only [Bool.and_eq_true] at h
  exact inB_t (List.all_eq_true.1 h.2 z (List.mem_of_getElem? hz))
/-- the mass after hours that are valid. -/
def runF (m : Int) (zs : List Int) : Int := zs.foldl hourF m
theorem runF_snoc (m : Int) (zs : List Int) (z : Int) : runF m (zs ++ [z]) = hourF (runF m zs) z := by simp [runF]
theorem runF_range (m : Int) (h0 : 0 ≤ m) (h1 : m ≤ 998001) (zs : List Int) : 0 ≤ runF m zs ∧ runF m zs ≤ 998001 := by
  induction zs generalizing m with
  | nil => exact ⟨h0, h1⟩
  | cons z zs ih =>
    have h := hourF_range m z h0 h1
    exact ih _ h.1 h.2
def runT (m : Int) (zs : List Int) : Int := if inB m 0 998001 && tempsB zs then runF m zs else -1
theorem runT_ok {m : Int} {zs : List Int} (h : inB m 0 998001 = true) (g : tempsB zs = true) : runT m zs = runF m zs := by unfold runT; rw [h, g]; rfl
theorem runT_m {m : Int} {zs : List Int} (h : inB m 0 998001 = false) : runT m zs = -1 := by unfold runT; rw [h]; rfl
theorem runT_z {m : Int} {zs : List Int} (h : inB m 0 998001 = true) (g : tempsB zs = false) : runT m zs = -1 := by unfold runT; rw [h, g]; rfl

set_option maxRecDepth 100000 in
set_option maxHeartbeats 400000 in
theorem run_any (zs : List Int) (A : Option Addr) (c : Nat) (w : World) (B : Nat) (hr : Rd w B A (ints zs)) (m : Int) (h0 : 0 ≤ m) (h1 : m ≤ 998001) (ht : tempsB zs = true) :
    Calls Try.prog 118 #[.int .i64 m, .slice A zs.length c] w fun e w' => e = .returned (.int .i64 (runF m zs)) ∧ w = w' := by
  have hl := tempsB_len ht
  have Ht := Lib.hid ht
  clear ht
  go_enter Try.func118, Try.ntmps118
  go_wp2
  go_loop [0, 5] (fun v i => ∃ k : Nat, k ≤ zs.length ∧ i = .int .i64 k ∧ v = .int .i64 (runF m (zs.take k))) (fun _ i => zs.length - (intOf i).toNat)
  case atStart => exact ⟨0, Nat.zero_le _, rfl, rfl⟩
  case round =>
    obtain ⟨k, hk, rfl, rfl⟩ := hrel
    have hm := runF_range m h0 h1 (zs.take k)
    by_cases hlt : k < zs.length
    · obtain ⟨b, off, z, rfl, hb, hz, hc⟩ := hr.int_ hlt
      have hzb := tempsB_at Ht.out hz.out
      have Hs : Hid (runF m (zs.take (k + 1)) = hourF (runF m (zs.take k)) z) := Lib.hid (by rw [take_snoc hz.out, runF_snoc])
      go_wp2_with (go_at_call 137; refine (hour_any _ _ (by omega) (by omega) (by omega) (by omega) _).mono ?_; rintro e w' ⟨rfl, rfl⟩)
      go_round
      case rel => exact ⟨k + 1, by omega, by go_num, by rw [Hs.out]⟩
      case measure => simp [intOf]; omega
    · have Hk : Hid (zs.take k = zs) := Lib.hid (List.take_of_length_le (by omega))
      go_wp2
      go_ret
      exact ⟨ret_int (by rw [Hk.out]), rfl⟩

theorem iStep_ok (m t : Int) (h0 : 0 ≤ m) (h1 : m ≤ 998001) (h2 : -400 ≤ t) (h3 : t ≤ 400) (w : World) :
    Calls Try.prog 147 #[.int .i64 m, .int .i64 t] w fun e w' => e = .returned (.int .i64 (hourF m t)) ∧ w = w' := by
  have h := iStep_any m t w
  rw [stepF_ok ⟨h0, h1⟩ ⟨h2, h3⟩] at h
  exact h

set_option maxRecDepth 100000 in
set_option maxHeartbeats 400000 in
theorem iRunIce_any (zs : List Int) (A : Option Addr) (c : Nat) (w : World) (B : Nat) (hr : Rd w B A (ints zs)) (m : Int) :
    Calls Try.prog 140 #[.int .i64 m, .slice A zs.length c] w fun e w' => e = .returned (.int .i64 (runT m zs)) ∧ w = w' := by
  cases hm : inB m 0 998001
  · rw [runT_m hm]
    go_enter Try.func140, Try.ntmps140
    go_wp2_with (go_at_call 146; refine (validMass_any _ _).mono ?_; rintro e w' ⟨rfl, rfl⟩)
    go_ret
    exact ⟨rfl, rfl⟩
  · cases hg : tempsB zs
    · rw [runT_z hm hg]
      go_enter Try.func140, Try.ntmps140
      go_wp2_with (first | (go_at_call 146; refine (validMass_any _ _).mono ?_; rintro e w' ⟨rfl, rfl⟩) | (go_at_call 95; refine (validTemps_any _ _ _ _ _ hr).mono ?_; rintro e w' ⟨rfl, rfl⟩))
      go_ret
      exact ⟨rfl, rfl⟩
    · rw [runT_ok hm hg]
      obtain ⟨m0, m1⟩ := inB_t hm
      have hl := tempsB_len hg
      have Ht := Lib.hid hg
      go_enter Try.func140, Try.ntmps140
      go_wp2_with (first | (go_at_call 146; refine (validMass_any _ _).mono ?_; rintro e w' ⟨rfl, rfl⟩) | (go_at_call 95; refine (validTemps_any _ _ _ _ _ hr).mono ?_; rintro e w' ⟨rfl, rfl⟩))
      go_loop [5, 19] (fun v i => ∃ k : Nat, k ≤ zs.length ∧ i = .int .i64 k ∧ v = .int .i64 (runF m (zs.take k))) (fun _ i => zs.length - (intOf i).toNat)
      case atStart => exact ⟨0, Nat.zero_le _, rfl, rfl⟩
      case round =>
        obtain ⟨k, hk, rfl, rfl⟩ := hrel
        have hmm := runF_range m m0 m1 (zs.take k)
        by_cases hlt : k < zs.length
        · obtain ⟨b, off, z, rfl, hb, hz, hc⟩ := hr.int_ hlt
          have hzb := tempsB_at Ht.out hz.out
          have Hs : Hid (runF m (zs.take (k + 1)) = hourF (runF m (zs.take k)) z) := Lib.hid (by rw [take_snoc hz.out, runF_snoc])
          go_wp2_with (go_at_call 147; refine (iStep_ok _ _ (by omega) (by omega) (by omega) (by omega) _).mono ?_; rintro e w' ⟨rfl, rfl⟩)
          go_round
          case rel => exact ⟨k + 1, by omega, by go_num, by rw [Hs.out]⟩
          case measure => simp [intOf]; omega
        · have Hk : Hid (zs.take k = zs) := Lib.hid (List.take_of_length_le (by omega))
          go_wp2
          go_ret
          exact ⟨ret_int (by rw [Hk.out]), rfl⟩

def coldF (z : Int) : Int := if z < 0 then -z else 0
theorem coldF_range (z : Int) (h0 : -400 ≤ z) : 0 ≤ coldF z ∧ coldF z ≤ 400 := by unfold coldF; split <;> omega
def frostF (zs : List Int) : Int := (zs.map coldF).sum
theorem frostF_snoc (zs : List Int) (z : Int) : frostF (zs ++ [z]) = frostF zs + coldF z := by simp [frostF]
theorem frostF_range (zs : List Int) (h : ∀ z ∈ zs, -400 ≤ z) : 0 ≤ frostF zs ∧ frostF zs ≤ 400 * zs.length := by
  induction zs with
  | nil => simp [frostF]
  | cons z zs ih =>
    have h1 := coldF_range z (h z (by simp))
    have h2 := ih (fun x hx => h x (by simp [hx]))
    simp only [frostF, List.map_cons, List.sum_cons, List.length_cons] at *
    omega
theorem frostF_take {zs : List Int} (h : tempsB zs = true) (k : Nat) : 0 ≤ frostF (zs.take k) ∧ frostF (zs.take k) ≤ 80000 := by
  have hl := tempsB_len h
  have g := frostF_range (zs.take k) (fun z hz => by
    obtain ⟨i, hi⟩ := List.mem_iff_getElem?.1 (List.mem_of_mem_take hz)
    exact (tempsB_at h hi).1)
  have : (zs.take k).length ≤ 200 := by rw [List.length_take]; omega
  omega
def frostT (zs : List Int) : Int := if tempsB zs then frostF zs else -1
theorem frostT_ok {zs : List Int} (g : tempsB zs = true) : frostT zs = frostF zs := by unfold frostT; rw [g]; rfl
theorem frostT_no {zs : List Int} (g : tempsB zs = false) : frostT zs = -1 := by unfold frostT; rw [g]; rfl

end Go.Proofs.Ytggdnpaiaijhgaa

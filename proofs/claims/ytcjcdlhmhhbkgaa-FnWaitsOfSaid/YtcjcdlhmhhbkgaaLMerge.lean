/- Contracts of chapter 4: merged times. -/
import Derived.Deep.Upon
import Derived.Test.YtcjcdlhmhhbkgaaLValid
namespace Go.Proofs.Ytcjcdlhmhhbkgaa
open Go.RowKit
set_option linter.unusedVariables false
set_option linter.unusedSimpArgs false
section
variable {P : Program} {w : World}
/-- An append of a whole list, that may be empty, onto a list that the call made. -/
theorem push_list {ops : Array Oper} {rest : List Oper} {o : Oper} {a : Act} {Q : Exit → Act → World → Prop} (hgd : o.guard = none) (s x : Operand) (t : TypeId)
    (ho : o.op = .call { callee := .builtin .append, args := #[s, x], argTypes := #[t, t] })
    (base : Nat) (e : TypeId) (i : TypeInfo) (z : Value) (bytes : Nat) (ht : P.underlying t = some (.slice e)) (hi : P.info? e = some i) (hz : i.zero = some z)
    (hsize : i.size = 1) (hby : i.bytes = bytes) (hzs : z.cells.size = 1)
    (v : Value) (n : Nat) (xs : List Value) (hs : a.eval s = v) (hown : w.ownsRow base e 1 v n xs)
    (A : Option Addr) (m c B : Nat) (news : List Value) (hx : a.eval x = .slice A m c) (hr : Rd w B A news) (hl : news.length = m) (h1 : ∀ u ∈ news, u.oneCell' = true)
    (h63 : n + m ≤ maxLen) (hbytes : (n + m) * bytes ≤ 140737488355328) (hbase : base ≤ w.heap.size)
    (h : ∀ v' w', w'.ownsRow base e 1 v' (n + m) (xs ++ news) → w.grownBy w' v.ownBlock → wpList P ops Q rest (a.put o.dst v') w') :
    wpList P ops Q (o :: rest) a w := by
  cases A with
  | some ad =>
    obtain ⟨ab, ao, sp⟩ := ad
    refine wpList_append_own_at w hgd s x t ho base e i z 1 bytes ht hi hz hsize hby hzs (by decide) v n xs hs hown ⟨ab, ao, sp⟩ m c news hx (by omega) (fun j u hj => ?_) h1 h63 hbytes hbase fun v' w' h2 h3 _ _ => h v' w' h2 h3
    obtain ⟨b', off', e', _, hc⟩ := hr.at_ hj
    injection e' with e'
    injection e' with e1 e2 e3
    subst e1 e2 e3
    rw [Addr.add_lit]
    exact hc
  | none =>
    have hn : news = [] := by
      false_or_by_contra
      next g =>
      obtain ⟨b', off', e', _⟩ := hr g
      cases e'
    subst hn
    obtain rfl : m = 0 := by simpa using hl.symm
    obtain ⟨A', c', rfl⟩ := own_form hown
    have hle : n ≤ c' := by
      rcases hown.2 with ⟨h0, rfl⟩ | ⟨g, cap, cur, hv, _, _, hnc, _⟩
      · injection h0 with _ q1 q2; omega
      · injection hv with _ q1 q2; omega
    refine wpList_plain hgd fun K hK => ?_
    have hrun := run_append_nothing (P := P) w t t o.type e i ht hi A' n c' hle (.slice none 0 c) (Src.ofNil (P := P) w ht c)
    unfold Oper.wp execOp
    simp only [ho, resolve, invoke, builtin, Sem.run_bind, Sem.run_pure, Result.andThen_ok, List.map_toArray, List.map_cons, List.map_nil, hs, hx, hrun]
    exact hK _ _ (h _ _ (by simpa using hown) (World.grownBy.refl _ _))
end
theorem oneCell_ints {zs : List Int} : ∀ v ∈ ints zs, v.oneCell' = true := fun v hv => by
  rw [ints, List.mem_map] at hv
  obtain ⟨b, _, rfl⟩ := hv
  rfl
def mergeB (a b : List Int) : Bool := timesB a && (timesB b && decide (a.length + b.length ≤ 40))
def mergeT (a b : List Int) : List Int := if mergeB a b then mg a b else []
theorem mergeT_no {a b : List Int} (h : mergeB a b = false) : mergeT a b = [] := by unfold mergeT; rw [h]; rfl
theorem mergeT_ok {a b : List Int} (h : mergeB a b = true) : mergeT a b = mg a b := by unfold mergeT; rw [h]; rfl
theorem mergeB_t {a b : List Int} (h : mergeB a b = true) : TimesP a ∧ TimesP b ∧ a.length + b.length ≤ 40 := by
  unfold mergeB at h
  simp only [Bool.and_eq_true, decide_eq_true_eq] at h
  exact ⟨timesB_t h.1, timesB_t h.2.1, h.2.2⟩
theorem mergeT_le (a b : List Int) : (mergeT a b).length ≤ 40 := by
  cases h : mergeB a b
  · rw [mergeT_no h]; simp
  · rw [mergeT_ok h, mg_length]; exact (mergeB_t h).2.2
/-- how far two lists are merged -/
def MgR (a b : List Int) (i k : Nat) (done : List Int) : Prop := i ≤ a.length ∧ k ≤ b.length ∧ done.length = i + k ∧ done ++ mg (a.drop i) (b.drop k) = mg a b
theorem MgR.a_ {a b : List Int} {i k : Nat} {done : List Int} (h : MgR a b i k done) (hi : i < a.length) (hq : b.length ≤ k ∨ (k < b.length ∧ el a i ≤ el b k)) : MgR a b (i + 1) k (done ++ [el a i]) :=
  ⟨by omega, h.2.1, by have := h.2.2.1; simp; omega, by have := h.2.2.2; rw [mg_a hi hq] at this; rw [List.append_assoc]; exact this⟩
theorem MgR.b_ {a b : List Int} {i k : Nat} {done : List Int} (h : MgR a b i k done) (hk : k < b.length) (hq : a.length ≤ i ∨ (i < a.length ∧ el b k < el a i)) : MgR a b i (k + 1) (done ++ [el b k]) :=
  ⟨h.1, by omega, by have := h.2.2.1; simp; omega, by have := h.2.2.2; rw [mg_b hk hq] at this; rw [List.append_assoc]; exact this⟩
theorem MgR.end_ {a b : List Int} {i k : Nat} {done : List Int} (h : MgR a b i k done) (hi : a.length ≤ i) : done ++ b.drop k = mg a b := by have := h.2.2.2; rwa [mg_end a b hi] at this
theorem MgR.all {a b : List Int} {i k : Nat} {done : List Int} (h : MgR a b i k done) (hi : a.length ≤ i) (hk : b.length ≤ k) : done = mg a b := by
  have := h.end_ hi; rwa [List.drop_eq_nil_of_le hk, List.append_nil] at this
theorem MgR.zero (a b : List Int) : MgR a b 0 0 [] := ⟨Nat.zero_le _, Nat.zero_le _, rfl, rfl⟩
set_option maxHeartbeats 2000000 in
theorem merged_any (a b : List Int) (Aa Ab : Option Addr) (ca cb : Nat) (w : World) (hra : Rd w w.heap.size Aa (ints a)) (hrb : Rd w w.heap.size Ab (ints b)) (ha : a.length ≤ 40) (hb : b.length ≤ 40) :
    Calls Try.prog 61 #[.slice Aa a.length ca, .slice Ab b.length cb] w (OutI (mg a b) w) := by
  obtain ⟨i0, hi, hz0, hz1, hz2⟩ := info_parts info_int
  go_enter Try.func61, Try.ntmps61
  go_wp2
  go_loopw [5, 6, 7] (fun v vi vk wr => ∃ (i k : Nat) (done : List Int), vi = .int .i64 i ∧ vk = .int .i64 k ∧ MgR a b i k done ∧ wr.ownsRow w.heap.size 3 1 v (i + k) (ints done) ∧ Below w.heap.size w wr) (fun _ vi vk _ => a.length + b.length - (intOf vi).toNat - (intOf vk).toNat)
  case atStart => exact ⟨0, 0, [], rfl, rfl, MgR.zero a b, own_empty _ _, (Below.refl _ _).alloc (Nat.le_refl _) _⟩
  case round =>
    obtain ⟨i, k, done, rfl, rfl, hm, hown, hbel⟩ := hrel
    have hia := hm.1
    have hkb := hm.2.1
    have HM := Lib.hid hm
    clear hm
    have hsz := hbel.size
    by_cases hla : i < a.length
    · obtain ⟨ba, offa, rfl, hba, hca⟩ := (hra.below hbel).el_ hla
      by_cases hlb : k < b.length
      · obtain ⟨bb, offb, rfl, hbb, hcb⟩ := (hrb.below hbel).el_ hlb
        have hne : ((k : Int) == (b.length : Int)) = false := beq_eq_false_iff_ne.2 (by omega)
        by_cases hq : el a i ≤ el b k
        · have HS := Lib.hid (HM.out.a_ hla (.inr ⟨hlb, hq⟩))
          go_wp2
          refine wp_region_quiet_lit (by kernel_rfl) (by kernel_rfl) ?_
          repeat (go_big_quiet_step (fail))
          refine wpQuiet_nil ?_
          intro _ hw'
          obtain ⟨nq, hw''⟩ := hw'
          subst hw''
          go_wp2_with (at_builtin; refine wpList_append_own _ rfl _ _ 23 rfl (w.heap.size) 3 i0 (.int .i64 0) 1 8 Try.underlying23 hi hz0 hz1 hz2 rfl (by decide) _ _ _ rfl (hown.alloc _) ⟨wr.heap.size, 0, none⟩ 1 1 [.int .i64 (el a i)] rfl rfl ?c1 ?c2 ?c3 ?c4 ?c5 ?_)
          first | (case c1 => first | exact one_new _ _ _ _ rfl | exact one_new _ _ _ _ (by simp)) | skip
          case c2 => first | rfl | (intro u hu; simp at hu; subst hu; rfl)
          case c3 => unfold maxLen; omega
          case c4 => omega
          case c5 => have := hbel.size; simp; omega
          · intro v' w1 hown' hgrow _
            have R : w1.ownsRow w.heap.size 3 1 v' (i + 1 + k) (ints (done ++ [el a i])) := by
              have e : (i + 1 + k) = i + k + 1 := by omega
              rw [e]; simpa [ints] using hown'
            have hb1 : Below w.heap.size w w1 := (below_drewN hbel nq |>.alloc (by exact hsz) _).grown hgrow (by simp; omega) (own_block hown)
            clear hown' hgrow hown hbel
            go_wp2
            go_roundw
            case rel => exact ⟨i + 1, k, done ++ [el a i], by go_num, by go_num, HS.out, R, hb1⟩
            case measure => simp [intOf]; omega
        · have HS := Lib.hid (HM.out.b_ hlb (.inr ⟨hla, by omega⟩))
          go_wp2
          refine wp_region_quiet_lit (by kernel_rfl) (by kernel_rfl) ?_
          repeat (go_big_quiet_step (fail))
          refine wpQuiet_nil ?_
          intro _ hw'
          obtain ⟨nq, hw''⟩ := hw'
          subst hw''
          go_wp2_with (at_builtin; refine wpList_append_own _ rfl _ _ 23 rfl (w.heap.size) 3 i0 (.int .i64 0) 1 8 Try.underlying23 hi hz0 hz1 hz2 rfl (by decide) _ _ _ rfl (hown.alloc _) ⟨wr.heap.size, 0, none⟩ 1 1 [.int .i64 (el b k)] rfl rfl ?c1x2 ?c2x2 ?c3x2 ?c4x2 ?c5x2 ?_)
          first | (case c1x2 => first | exact one_new _ _ _ _ rfl | exact one_new _ _ _ _ (by simp)) | skip
          case c2x2 => first | rfl | (intro u hu; simp at hu; subst hu; rfl)
          case c3x2 => unfold maxLen; omega
          case c4x2 => omega
          case c5x2 => have := hbel.size; simp; omega
          · intro v' w1 hown' hgrow _
            have R : w1.ownsRow w.heap.size 3 1 v' (i + (k + 1)) (ints (done ++ [el b k])) := by
              have e : (i + (k + 1)) = i + k + 1 := by omega
              rw [e]; simpa [ints] using hown'
            have hb1 : Below w.heap.size w w1 := (below_drewN hbel nq |>.alloc (by exact hsz) _).grown hgrow (by simp; omega) (own_block hown)
            clear hown' hgrow hown hbel
            go_wp2
            go_roundw
            case rel => exact ⟨i, k + 1, done ++ [el b k], by go_num, by go_num, HS.out, R, hb1⟩
            case measure => simp [intOf]; omega
      · have hne : ((k : Int) == (b.length : Int)) = true := beq_iff_eq.2 (by omega)
        have HS := Lib.hid (HM.out.a_ hla (.inl (by omega)))
        go_wp2
        refine wp_region_quiet_lit (by kernel_rfl) (by kernel_rfl) ?_
        repeat (go_big_quiet_step (fail))
        refine wpQuiet_nil ?_
        intro _ hw'
        obtain ⟨nq, hw''⟩ := hw'
        subst hw''
        go_wp2_with (at_builtin; refine wpList_append_own _ rfl _ _ 23 rfl (w.heap.size) 3 i0 (.int .i64 0) 1 8 Try.underlying23 hi hz0 hz1 hz2 rfl (by decide) _ _ _ rfl (hown.alloc _) ⟨wr.heap.size, 0, none⟩ 1 1 [.int .i64 (el a i)] rfl rfl ?c1x3 ?c2x3 ?c3x3 ?c4x3 ?c5x3 ?_)
        first | (case c1x3 => first | exact one_new _ _ _ _ rfl | exact one_new _ _ _ _ (by simp)) | skip
        case c2x3 => first | rfl | (intro u hu; simp at hu; subst hu; rfl)
        case c3x3 => unfold maxLen; omega
        case c4x3 => omega
        case c5x3 => have := hbel.size; simp; omega
        · intro v' w1 hown' hgrow _
          have R : w1.ownsRow w.heap.size 3 1 v' (i + 1 + k) (ints (done ++ [el a i])) := by
            have e : (i + 1 + k) = i + k + 1 := by omega
            rw [e]; simpa [ints] using hown'
          have hb1 : Below w.heap.size w w1 := (below_drewN hbel nq |>.alloc (by exact hsz) _).grown hgrow (by simp; omega) (own_block hown)
          clear hown' hgrow hown hbel
          go_wp2
          go_roundw
          case rel => exact ⟨i + 1, k, done ++ [el a i], by go_num, by go_num, HS.out, R, hb1⟩
          case measure => simp [intOf]; omega
    · by_cases hlb : k < b.length
      · obtain ⟨bb, offb, rfl, hbb, hcb⟩ := (hrb.below hbel).el_ hlb
        have hne : ((k : Int) == (b.length : Int)) = false := beq_eq_false_iff_ne.2 (by omega)
        have HS := Lib.hid (HM.out.b_ hlb (.inl (by omega)))
        go_wp2
        refine wp_region_quiet_lit (by kernel_rfl) (by kernel_rfl) ?_
        repeat (go_big_quiet_step (fail))
        refine wpQuiet_nil ?_
        intro _ hw'
        obtain ⟨nq, hw''⟩ := hw'
        subst hw''
        go_wp2_with (at_builtin; refine wpList_append_own _ rfl _ _ 23 rfl (w.heap.size) 3 i0 (.int .i64 0) 1 8 Try.underlying23 hi hz0 hz1 hz2 rfl (by decide) _ _ _ rfl (hown.alloc _) ⟨wr.heap.size, 0, none⟩ 1 1 [.int .i64 (el b k)] rfl rfl ?c1x4 ?c2x4 ?c3x4 ?c4x4 ?c5x4 ?_)
        first | (case c1x4 => first | exact one_new _ _ _ _ rfl | exact one_new _ _ _ _ (by simp)) | skip
        case c2x4 => first | rfl | (intro u hu; simp at hu; subst hu; rfl)
        case c3x4 => unfold maxLen; omega
        case c4x4 => omega
        case c5x4 => have := hbel.size; simp; omega
        · intro v' w1 hown' hgrow _
          have R : w1.ownsRow w.heap.size 3 1 v' (i + (k + 1)) (ints (done ++ [el b k])) := by
            have e : (i + (k + 1)) = i + k + 1 := by omega
            rw [e]; simpa [ints] using hown'
          have hb1 : Below w.heap.size w w1 := (below_drewN hbel nq |>.alloc (by exact hsz) _).grown hgrow (by simp; omega) (own_block hown)
          clear hown' hgrow hown hbel
          go_wp2
          go_roundw
          case rel => exact ⟨i, k + 1, done ++ [el b k], by go_num, by go_num, HS.out, R, hb1⟩
          case measure => simp [intOf]; omega
      · obtain ⟨A', c', rfl⟩ := own_form hown
        have e := HM.out.all (by omega) (by omega)
        have R := out_mk (l := mg a b) (n := i + k) (by rw [← e]; exact HM.out.2.2.1) (by rw [← e]; exact hown) hbel
        clear hown hbel e
        go_wp2
        go_ret
        exact R
def OutM (a b : List Int) (w : World) (e : Ending) (w' : World) : Prop :=
  ∃ A' c', e = .returned (.tuple #[.slice A' (mergeT a b).length c', .bool (mergeB a b)]) ∧ w'.ownsRow w.heap.size 3 1 (.slice A' (mergeT a b).length c') (mergeT a b).length (ints (mergeT a b)) ∧ Below w.heap.size w w'
theorem outM_no {a b : List Int} {w w' : World} (h : mergeB a b = false) (hb : Below w.heap.size w w') : OutM a b w (.returned (.tuple #[.slice none 0 0, .bool false])) w' := by
  unfold OutM
  rw [mergeT_no h, h]
  exact ⟨none, 0, rfl, ⟨rfl, .inl ⟨rfl, rfl⟩⟩, hb⟩
theorem outM_ok {a b : List Int} {w w' : World} {v : Value} {n : Nat} (h : mergeB a b = true) (hn : (mg a b).length = n) (ho : w'.ownsRow w.heap.size 3 1 v n (ints (mg a b))) (hb : Below w.heap.size w w') : OutM a b w (.returned (.tuple #[v, .bool true])) w' := by
  subst hn
  unfold OutM
  rw [mergeT_ok h, h]
  obtain ⟨A', c', rfl⟩ := own_form ho
  exact ⟨A', c', rfl, ho, hb⟩
set_option maxHeartbeats 800000 in
theorem sMerge_any (a b : List Int) (Aa Ab : Option Addr) (ca cb : Nat) (w : World) (hra : Rd w w.heap.size Aa (ints a)) (hrb : Rd w w.heap.size Ab (ints b)) (hna : a.length ≤ 1048576) (hnb : b.length ≤ 1048576) :
    Calls Try.prog 43 #[.slice Aa a.length ca, .slice Ab b.length cb] w (OutM a b w) := by
  cases hva : timesB a
  · have hm : mergeB a b = false := by unfold mergeB; rw [hva]; rfl
    have Ha := Lib.hid hva
    have HM := Lib.hid hm
    clear hva hm
    go_enter Try.func43, Try.ntmps43
    go_wp2_with (go_at_call 48; refine (sVT_is _ _ _ _ _ hra hna Ha.out).mono ?_; rintro e w' ⟨rfl, nv, rfl⟩)
    go_ret2
    exact outM_no HM.out (below_drewN (Below.refl _ _) _)
  · cases hvb : timesB b
    · have hm : mergeB a b = false := by unfold mergeB; rw [hva, hvb]; rfl
      have Ha := Lib.hid hva
      have Hb := Lib.hid hvb
      have HM := Lib.hid hm
      clear hva hvb hm
      go_enter Try.func43, Try.ntmps43
      go_wp2_with fail
      refine (sVT_is _ _ _ _ _ hra hna Ha.out).mono ?_
      rintro e w' ⟨rfl, nv, rfl⟩
      go_wp2_with (go_at_call 48; refine (sVT_is _ _ _ _ _ (hrb.drewN _) hnb Hb.out).mono ?_; rintro e w' ⟨rfl, nw, rfl⟩)
      go_ret2
      exact outM_no HM.out (below_drewN (Below.refl _ _) _)
    · have hla := (timesB_t hva).len
      have hlb := (timesB_t hvb).len
      have Ha := Lib.hid hva
      have Hb := Lib.hid hvb
      by_cases hs : a.length + b.length ≤ 40
      · have hm : mergeB a b = true := by unfold mergeB; rw [hva, hvb, decide_eq_true hs]; rfl
        have HM := Lib.hid hm
        have hs2 : ¬ (40 : Int) < (a.length : Int) + (b.length : Int) := by omega
        clear hva hvb hm
        go_enter Try.func43, Try.ntmps43
        go_wp2_with fail
        refine (sVT_is _ _ _ _ _ hra hna Ha.out).mono ?_
        rintro e w' ⟨rfl, nv, rfl⟩
        go_wp2_with (go_at_call 48; refine (sVT_is _ _ _ _ _ (hrb.drewN _) hnb Hb.out).mono ?_; rintro e w' ⟨rfl, nw, rfl⟩)
        go_wp2_with fail
        refine (merged_any a b _ _ _ _ _ (hra.drewN (nv + nw)) (hrb.drewN (nv + nw)) hla hlb).mono ?_
        rintro e w1 ⟨A1, c1, rfl, o1, b1⟩
        have R : OutM a b w (.returned (.tuple #[.slice A1 (mg a b).length c1, .bool true])) w1 := outM_ok HM.out rfl o1 ((below_drewN (Below.refl _ _) _).trans b1)
        clear o1 b1
        go_wp2
        go_ret2
        exact R
      · have hm : mergeB a b = false := by unfold mergeB; rw [hva, hvb, decide_eq_false hs]; rfl
        have HM := Lib.hid hm
        have hs2 : (40 : Int) < (a.length : Int) + (b.length : Int) := by omega
        clear hva hvb hm hs
        go_enter Try.func43, Try.ntmps43
        go_wp2_with fail
        refine (sVT_is _ _ _ _ _ hra hna Ha.out).mono ?_
        rintro e w' ⟨rfl, nv, rfl⟩
        go_wp2_with (go_at_call 48; refine (sVT_is _ _ _ _ _ (hrb.drewN _) hnb Hb.out).mono ?_; rintro e w' ⟨rfl, nw, rfl⟩)
        go_ret2
        exact outM_no HM.out (below_drewN (Below.refl _ _) _)
set_option maxHeartbeats 4000000 in
theorem iMerge_any (a b : List Int) (Aa Ab : Option Addr) (ca cb : Nat) (w : World) (hra : Rd w w.heap.size Aa (ints a)) (hrb : Rd w w.heap.size Ab (ints b)) (hcb : b.length ≤ cb ∧ cb ≤ maxLen) :
    Calls Try.prog 42 #[.slice Aa a.length ca, .slice Ab b.length cb] w (OutM a b w) := by
  cases hva : timesB a
  · have hm : mergeB a b = false := by unfold mergeB; rw [hva]; rfl
    have Ha := Lib.hid hva
    have HM := Lib.hid hm
    clear hva hm
    go_enter Try.func42, Try.ntmps42
    go_wp2_with (go_at_call 16; refine (iVT_is _ _ _ _ _ hra Ha.out).mono ?_; rintro e w' ⟨rfl, rfl⟩)
    go_ret2
    exact outM_no HM.out (Below.refl _ _)
  · cases hvb : timesB b
    · have hm : mergeB a b = false := by unfold mergeB; rw [hva, hvb]; rfl
      have Ha := Lib.hid hva
      have Hb := Lib.hid hvb
      have HM := Lib.hid hm
      clear hva hvb hm
      go_enter Try.func42, Try.ntmps42
      go_wp2_with fail
      refine (iVT_is _ _ _ _ _ hra Ha.out).mono ?_
      rintro e w' ⟨rfl, rfl⟩
      go_wp2_with (go_at_call 16; refine (iVT_is _ _ _ _ _ hrb Hb.out).mono ?_; rintro e w' ⟨rfl, rfl⟩)
      go_ret2
      exact outM_no HM.out (Below.refl _ _)
    · have hla := (timesB_t hva).len
      have hlb := (timesB_t hvb).len
      have Ha := Lib.hid hva
      have Hb := Lib.hid hvb
      by_cases hs : a.length + b.length ≤ 40
      · have hm : mergeB a b = true := by unfold mergeB; rw [hva, hvb, decide_eq_true hs]; rfl
        have HM := Lib.hid hm
        have hs2 : ¬ (40 : Int) < (a.length : Int) + (b.length : Int) := by omega
        obtain ⟨i0, hi, hz0, hz1, hz2⟩ := info_parts info_int
        clear hva hvb hm
        go_enter Try.func42, Try.ntmps42
        go_wp2_with fail
        refine (iVT_is _ _ _ _ _ hra Ha.out).mono ?_
        rintro e w' ⟨rfl, rfl⟩
        go_wp2_with (go_at_call 16; refine (iVT_is _ _ _ _ _ hrb Hb.out).mono ?_; rintro e w' ⟨rfl, rfl⟩)
        go_loopw [6, 7, 29] (fun v vk vi wr => ∃ (i k : Nat) (done : List Int), vi = .int .i64 i ∧ vk = .int .i64 k ∧ MgR a b i k done ∧ wr.ownsRow w.heap.size 3 1 v (i + k) (ints done) ∧ Below w.heap.size w wr) (fun _ _ vi _ => a.length - (intOf vi).toNat)
        case atStart => exact ⟨0, 0, [], rfl, rfl, MgR.zero a b, own_empty _ _, (Below.refl _ _).alloc (Nat.le_refl _) _⟩
        case round =>
          obtain ⟨i, k0, done0, rfl, rfl, hm0, hown0, hbel0⟩ := hrel
          have hia := hm0.1
          by_cases hla2 : i < a.length
          · obtain ⟨ba, offa, rfl, hba, hca⟩ := (hra.below hbel0).el_ hla2
            have HM0 := Lib.hid hm0
            have HO0 := Lib.hid (And.intro hown0 hbel0)
            clear hm0 hown0 hbel0
            go_wp2
            go_loopw [6, 7] (fun v vk wr => ∃ (k : Nat) (done : List Int), vk = .int .i64 k ∧ MgR a b i k done ∧ wr.ownsRow w.heap.size 3 1 v (i + k) (ints done) ∧ Below w.heap.size w wr) (fun _ vk _ => b.length - (intOf vk).toNat)
            case atStart => exact ⟨k0, done0, rfl, HM0.out, HO0.out.1, HO0.out.2⟩
            case round =>
              clear HM0 HO0 hca
              obtain ⟨k, done, rfl, hm, hown, hbel⟩ := hrel
              have hkb := hm.2.1
              have HMM := Lib.hid hm
              clear hm
              have hsz := hbel.size
              by_cases hlb2 : k < b.length
              · obtain ⟨bb, offb, rfl, hbb, hcb2⟩ := (hrb.below hbel).el_ hlb2
                by_cases hq : el b k < el a i
                · have HS := Lib.hid (HMM.out.b_ hlb2 (.inr ⟨hla2, hq⟩))
                  go_wp2_with (at_builtin; refine wpList_append_own _ rfl _ _ 23 rfl (w.heap.size) 3 i0 (.int .i64 0) 1 8 Try.underlying23 hi hz0 hz1 hz2 rfl (by decide) _ _ _ rfl (hown.alloc _) ⟨wr.heap.size, 0, none⟩ 1 1 [.int .i64 (el b k)] rfl rfl ?c1 ?c2 ?c3 ?c4 ?c5 ?_)
                  first | (case c1 => first | exact one_new _ _ _ _ rfl | exact one_new _ _ _ _ (by simp)) | skip
                  case c2 => first | rfl | (intro u hu; simp at hu; subst hu; rfl)
                  case c3 => unfold maxLen; omega
                  case c4 => omega
                  case c5 => have := hbel.size; simp; omega
                  · intro v' w1 hown' hgrow _
                    have R : w1.ownsRow w.heap.size 3 1 v' (i + (k + 1)) (ints (done ++ [el b k])) := by
                      have e : i + (k + 1) = i + k + 1 := by omega
                      rw [e]; simpa [ints] using hown'
                    have hb1 : Below w.heap.size w w1 := (hbel.alloc hbel.size _).grown hgrow (by simp; omega) (own_block hown)
                    clear hown' hgrow hown hbel
                    go_wp2
                    go_roundw
                    case rel => exact ⟨k + 1, done ++ [el b k], by go_num, HS.out, R, hb1⟩
                    case measure => simp [intOf]; omega
                · have HS := Lib.hid (HMM.out.a_ hla2 (.inr ⟨hlb2, by omega⟩))
                  have hq2 : ¬ el b k < el a i := hq
                  go_wp2_with (at_builtin; refine wpList_append_own _ rfl _ _ 23 rfl (w.heap.size) 3 i0 (.int .i64 0) 1 8 Try.underlying23 hi hz0 hz1 hz2 rfl (by decide) _ _ _ rfl (hown.alloc _) ⟨wr.heap.size, 0, none⟩ 1 1 [.int .i64 (el a i)] rfl rfl ?c1x2 ?c2x2 ?c3x2 ?c4x2 ?c5x2 ?_)
                  first | (case c1x2 => first | exact one_new _ _ _ _ rfl | exact one_new _ _ _ _ (by simp)) | skip
                  case c2x2 => first | rfl | (intro u hu; simp at hu; subst hu; rfl)
                  case c3x2 => unfold maxLen; omega
                  case c4x2 => omega
                  case c5x2 => have := hbel.size; simp; omega
                  · intro v' w1 hown' hgrow _
                    have R : w1.ownsRow w.heap.size 3 1 v' (i + 1 + k) (ints (done ++ [el a i])) := by
                      have e : i + 1 + k = i + k + 1 := by omega
                      rw [e]; simpa [ints] using hown'
                    have hb1 : Below w.heap.size w w1 := (hbel.alloc hbel.size _).grown hgrow (by simp; omega) (own_block hown)
                    clear hown' hgrow hown hbel
                    go_wp2
                    go_roundw
                    case rel => exact ⟨i + 1, k, done ++ [el a i], by go_num, rfl, HS.out, R, hb1⟩
                    case measure => simp [intOf]; omega
              · have HS := Lib.hid (HMM.out.a_ hla2 (.inl (by omega)))
                go_wp2_with (at_builtin; refine wpList_append_own _ rfl _ _ 23 rfl (w.heap.size) 3 i0 (.int .i64 0) 1 8 Try.underlying23 hi hz0 hz1 hz2 rfl (by decide) _ _ _ rfl (hown.alloc _) ⟨wr.heap.size, 0, none⟩ 1 1 [.int .i64 (el a i)] rfl rfl ?c1x3 ?c2x3 ?c3x3 ?c4x3 ?c5x3 ?_)
                first | (case c1x3 => first | exact one_new _ _ _ _ rfl | exact one_new _ _ _ _ (by simp)) | skip
                case c2x3 => first | rfl | (intro u hu; simp at hu; subst hu; rfl)
                case c3x3 => unfold maxLen; omega
                case c4x3 => omega
                case c5x3 => have := hbel.size; simp; omega
                · intro v' w1 hown' hgrow _
                  have R : w1.ownsRow w.heap.size 3 1 v' (i + 1 + k) (ints (done ++ [el a i])) := by
                    have e : i + 1 + k = i + k + 1 := by omega
                    rw [e]; simpa [ints] using hown'
                  have hb1 : Below w.heap.size w w1 := (hbel.alloc hbel.size _).grown hgrow (by simp; omega) (own_block hown)
                  clear hown' hgrow hown hbel
                  go_wp2
                  go_roundw
                  case rel => exact ⟨i + 1, k, done ++ [el a i], by go_num, rfl, HS.out, R, hb1⟩
                  case measure => simp [intOf]; omega
          · obtain ⟨hown, hbel, hkb⟩ := And.intro hown0 (And.intro hbel0 hm0.2.1)
            have hend := hm0.end_ (by omega)
            have hlen : i + k0 + (b.length - k0) = (mg a b).length := by rw [mg_length]; omega
            have HE := Lib.hid hend
            have HL := Lib.hid hlen
            have hdl : (ints (b.drop k0)).length = b.length - k0 := by rw [ints_length, List.length_drop]
            have HDL := Lib.hid hdl
            have hmax := hcb.2
            have hcb1 := hcb.1
            unfold maxLen at hmax
            obtain rfl : i = a.length := by omega
            clear hend hlen hdl hm0 hown0 hbel0
            have hsz := hbel.size
            have hkc : k0 ≤ cb := by omega
            have hkcI : (k0 : Int) ≤ (cb : Int) := by omega
            have hlcI : (b.length : Int) ≤ (cb : Int) := by omega
            have hkbI : (k0 : Int) ≤ (b.length : Int) := by omega
            have hrd := (hrb.below hbel).drop k0
            rw [← show ints (b.drop k0) = (ints b).drop k0 from by rw [ints, ints, List.map_drop]] at hrd
            have hbt : (a.length + k0 + (b.length - k0)) * 8 ≤ 140737488355328 := by omega
            cases Ab with
            | none =>
              have hb0 : b = [] := by
                false_or_by_contra
                next g =>
                obtain ⟨_, _, e', _⟩ := hrb (by intro h; apply g; have := ints_length b; rw [h] at this; exact List.eq_nil_of_length_eq_zero this.symm)
                cases e'
              subst hb0
              obtain rfl : k0 = 0 := by simpa using hkb
              go_wp2_with (at_builtin; refine push_list rfl _ _ 23 rfl w.heap.size 3 i0 (.int .i64 0) 8 Try.underlying23 hi hz0 hz1 hz2 rfl _ _ _ rfl hown _ _ _ w.heap.size (ints ([] : List Int)) rfl ?r1qa ?r2qa oneCell_ints ?r3qa ?r4qa ?r5qa ?_)
              case r1qa => exact Rd.nil_
              case r2qa => rfl
              case r3qa => unfold maxLen; simp; omega
              case r4qa => simp; omega
              case r5qa => exact hsz
              · intro v' w1 hown' hgrow
                have R := outM_ok (v := v') (n := a.length + 0 + 0) HM.out (by rw [← HL.out]; rfl) (by rw [← HE.out]; simpa [ints] using hown') (hbel.grown hgrow (by exact hsz) (own_block hown))
                clear hown' hgrow hown hbel
                go_wp2
                go_ret2
                exact R
            | some ad =>
              obtain ⟨bb, off, sp⟩ := ad
              by_cases hck : cb = k0
              · have hbk : b.length = k0 := by omega
                go_wp2_with (at_builtin; refine push_list rfl _ _ 23 rfl w.heap.size 3 i0 (.int .i64 0) 8 Try.underlying23 hi hz0 hz1 hz2 rfl _ _ _ rfl hown _ _ _ w.heap.size (ints (b.drop k0)) rfl ?r1qb ?r2qb oneCell_ints ?r3qb ?r4qb ?r5qb ?_)
                case r1qb => rw [List.drop_eq_nil_of_le (by omega)]; exact Rd.nil_
                case r2qb => rw [ints_length, List.length_drop]; omega
                case r3qb => unfold maxLen; omega
                case r4qb => omega
                case r5qb => exact hsz
                · intro v' w1 hown' hgrow
                  have R := outM_ok (v := v') (n := a.length + k0) HM.out (by rw [← HL.out]; omega) (by rw [← HE.out]; simpa [ints] using hown') (hbel.grown hgrow (by exact hsz) (own_block hown))
                  clear hown' hgrow hown hbel
                  go_wp2
                  go_ret2
                  exact R
              · go_wp2_with (at_builtin; refine push_list rfl _ _ 23 rfl w.heap.size 3 i0 (.int .i64 0) 8 Try.underlying23 hi hz0 hz1 hz2 rfl _ _ _ rfl hown _ _ _ w.heap.size (ints (b.drop k0)) rfl ?r1qc ?r2qc oneCell_ints ?r3qc ?r4qc ?r5qc ?_)
                case r1qc => exact hrd
                case r2qc => rw [ints_length, List.length_drop]
                case r3qc => unfold maxLen; omega
                case r4qc => omega
                case r5qc => exact hsz
                · intro v' w1 hown' hgrow
                  have R := outM_ok (v := v') (n := a.length + k0 + (b.length - k0)) HM.out (by rw [← HL.out]) (by rw [← HE.out]; simpa [ints] using hown') (hbel.grown hgrow (by exact hsz) (own_block hown))
                  clear hown' hgrow hown hbel
                  go_wp2
                  go_ret2
                  exact R
      · have hm : mergeB a b = false := by unfold mergeB; rw [hva, hvb, decide_eq_false hs]; rfl
        have HM := Lib.hid hm
        have hs2 : (40 : Int) < (a.length : Int) + (b.length : Int) := by omega
        clear hva hvb hm hs
        go_enter Try.func42, Try.ntmps42
        go_wp2_with fail
        refine (iVT_is _ _ _ _ _ hra Ha.out).mono ?_
        rintro e w' ⟨rfl, rfl⟩
        go_wp2_with (go_at_call 16; refine (iVT_is _ _ _ _ _ hrb Hb.out).mono ?_; rintro e w' ⟨rfl, rfl⟩)
        go_ret2
        exact outM_no HM.out (Below.refl _ _)

end Go.Proofs.Ytcjcdlhmhhbkgaa

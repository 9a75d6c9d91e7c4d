/- Plain mathematics of chapter 2, second part: search in breadth, the least risks, ways back. Nothing of the program. -/
import Derived.Test.YtggdnpaiaijhgaaGraph
set_option linter.unusedVariables false
set_option linter.unusedSimpArgs false
namespace Go.Proofs.Ytggdnpaiaijhgaa

section
variable {n : Nat} {nb : Nat → List Nat} {ok : Nat → Bool}

/-! ### Search in breadth -/

/-- the cells found; all steps from the first i of them are in. -/
structure BfsO (nb : Nat → List Nat) (ok : Nat → Bool) (a : Nat) (cs : List Nat) (i : Nat) : Prop where
  nd : cs.Nodup
  rch : ∀ c ∈ cs, Rch nb ok a c
  hd : a ∈ cs
  cls : ∀ j c k, j < i → cs[j]? = some c → k ∈ nb c → ok k = true → k ∈ cs
/-- .. and the first m steps from the cell c at i. -/
structure BfsI (nb : Nat → List Nat) (ok : Nat → Bool) (a : Nat) (cs : List Nat) (i c m : Nat) : Prop where
  o : BfsO nb ok a cs i
  cur : cs[i]? = some c
  part : ∀ t k, t < m → (nb c)[t]? = some k → ok k = true → k ∈ cs

theorem BfsO.start {a : Nat} (h : ok a = true) : BfsO nb ok a [a] 0 :=
  ⟨by simp, fun c hc => by simp at hc; subst hc; exact .refl h, by simp, fun j c k hj => by omega⟩
theorem BfsO.begin {a i c : Nat} {cs : List Nat} (b : BfsO nb ok a cs i) (h : cs[i]? = some c) : BfsI nb ok a cs i c 0 :=
  ⟨b, h, fun t k ht => by omega⟩
theorem BfsI.skip {a i c m k : Nat} {cs : List Nat} (b : BfsI nb ok a cs i c m) (hk : (nb c)[m]? = some k) (h : ok k = false ∨ k ∈ cs) : BfsI nb ok a cs i c (m + 1) :=
  ⟨b.o, b.cur, fun t k' ht hk' hok => by
    rcases Nat.lt_or_ge t m with h1 | h1
    · exact b.part t k' h1 hk' hok
    · obtain rfl : t = m := by omega
      rw [hk] at hk'
      injection hk' with e
      subst e
      rcases h with h | h
      · rw [h] at hok; cases hok
      · exact h⟩
theorem BfsI.rchk {a i c m k : Nat} {cs : List Nat} (b : BfsI nb ok a cs i c m) (hk : (nb c)[m]? = some k) (h : ok k = true) : Rch nb ok a k :=
  (b.o.rch c (List.mem_of_getElem? b.cur)).step (List.mem_of_getElem? hk) h
theorem BfsI.add {a i c m k : Nat} {cs : List Nat} (b : BfsI nb ok a cs i c m) (hk : (nb c)[m]? = some k) (h : ok k = true) (hn : k ∉ cs) : BfsI nb ok a (cs ++ [k]) i c (m + 1) := by
  have hi : i < cs.length := (List.getElem?_eq_some_iff.1 b.cur).1
  have old : ∀ j, j < cs.length → (cs ++ [k])[j]? = cs[j]? := fun j hj => List.getElem?_append_left hj
  refine ⟨⟨?_, ?_, by simp [b.o.hd], ?_⟩, by rw [old i hi]; exact b.cur, ?_⟩
  · rw [List.nodup_append]
    exact ⟨b.o.nd, by simp, fun x hx y hy => by simp at hy; subst hy; rintro rfl; exact hn hx⟩
  · intro x hx
    rw [List.mem_append] at hx
    rcases hx with hx | hx
    · exact b.o.rch x hx
    · simp at hx; subst hx; exact b.rchk hk h
  · intro j x y hj hx hy hok
    rw [old j (by omega)] at hx
    rw [List.mem_append]
    exact .inl (b.o.cls j x y hj hx hy hok)
  · intro t k' ht hk' hok
    rw [List.mem_append]
    rcases Nat.lt_or_ge t m with h1 | h1
    · exact .inl (b.part t k' h1 hk' hok)
    · obtain rfl : t = m := by omega
      rw [hk] at hk'
      injection hk' with e
      subst e
      exact .inr (by simp)
theorem BfsI.fin {a i c : Nat} {cs : List Nat} (b : BfsI nb ok a cs i c (nb c).length) : BfsO nb ok a cs (i + 1) :=
  ⟨b.o.nd, b.o.rch, b.o.hd, fun j x k hj hx hk hok => by
    rcases Nat.lt_or_ge j i with h1 | h1
    · exact b.o.cls j x k h1 hx hk hok
    · obtain rfl : j = i := by omega
      have hc := b.cur
      rw [hx] at hc
      injection hc with e
      subst e
      obtain ⟨t, ht⟩ := List.mem_iff_getElem?.1 hk
      exact b.part t k (List.getElem?_eq_some_iff.1 ht).1 ht hok⟩
theorem BfsO.done {a i : Nat} {cs : List Nat} (b : BfsO nb ok a cs i) (h : cs.length ≤ i) (c : Nat) : c ∈ cs ↔ Rch nb ok a c := by
  refine ⟨b.rch c, fun hr => ?_⟩
  induction hr with
  | refl _ => exact b.hd
  | step _ h1 h2 ih =>
    obtain ⟨j, hj⟩ := List.mem_iff_getElem?.1 ih
    exact b.cls j _ _ (by have := (List.getElem?_eq_some_iff.1 hj).1; omega) hj h1 h2
theorem BfsO.le (hk : ∀ i, ok i = true → i < n) {a i : Nat} {cs : List Nat} (b : BfsO nb ok a cs i) : cs.length ≤ n :=
  nodup_lt_len b.nd fun x hx => hk x (b.rch x hx).right

/-! ### Ways, and the least risks -/

inductive Way (nb : Nat → List Nat) (ok : Nat → Bool) (rk : Nat → Int) (a : Nat) : Nat → Int → Prop
  | start : ok a = true → Way nb ok rk a a (rk a)
  | step {c k : Nat} {r : Int} : Way nb ok rk a c r → k ∈ nb c → ok k = true → Way nb ok rk a k (r + rk k)

variable {rk : Nat → Int} {a : Nat}
theorem Way.rch {c : Nat} {r : Int} (h : Way nb ok rk a c r) : Rch nb ok a c := by
  induction h with
  | start h => exact .refl h
  | step _ h1 h2 ih => exact ih.step h1 h2
theorem Rch.way {c : Nat} (h : Rch nb ok a c) : ∃ r, Way nb ok rk a c r := by
  induction h with
  | refl h => exact ⟨_, .start h⟩
  | step _ h1 h2 ih => obtain ⟨r, hr⟩ := ih; exact ⟨_, hr.step h1 h2⟩
theorem Way.ge (hp : ∀ i, 1 ≤ rk i) {c : Nat} {r : Int} (h : Way nb ok rk a c r) : rk c ≤ r := by
  cases h with
  | start _ => exact Int.le_refl _
  | step h _ _ =>
    have : ∀ {x : Nat} {y : Int}, Way nb ok rk a x y → 0 ≤ y := fun h => by
      induction h with
      | start _ => have := hp a; omega
      | @step c k r _ _ _ ih => have := hp k; omega
    have := this h
    omega
theorem Way.pre {b z : Nat} {r : Int} (h : Way nb ok rk a b r) (hz : ok z = true) (ha : a ∈ nb z) : Way nb ok rk z b (rk z + r) := by
  induction h with
  | start h => exact (Way.start hz).step ha h
  | step _ h1 h2 ih =>
    have := ih.step h1 h2
    rwa [Int.add_assoc] at this
theorem Way.back (G : Gr n nb) (hk : ∀ i, ok i = true → i < n) {c : Nat} {r : Int} (h : Way nb ok rk a c r) : Way nb ok rk c a r := by
  induction h with
  | start h => exact .start h
  | @step d k r h0 h1 h2 ih =>
    have := ih.pre h2 (G.sym _ _ (hk _ h0.rch.right) h1)
    rwa [Int.add_comm] at this

/-- the least risks of all cells, -1 where there is no way. -/
structure IsRisk (n : Nat) (nb : Nat → List Nat) (ok : Nat → Bool) (rk : Nat → Int) (a : Nat) (rs : List Int) : Prop where
  len : rs.length = n
  val : ∀ c, (at_ rs c = -1 ∧ ∀ r, ¬ Way nb ok rk a c r) ∨ (Way nb ok rk a c (at_ rs c) ∧ ∀ r, Way nb ok rk a c r → at_ rs c ≤ r)
  bnd : ∀ c, at_ rs c ≤ 1000000

theorem IsRisk.uniq (hp : ∀ i, 1 ≤ rk i) {rs ss : List Int} (x : IsRisk n nb ok rk a rs) (y : IsRisk n nb ok rk a ss) : rs = ss := by
  refine ext_at (by rw [x.len, y.len]) fun c => ?_
  rcases x.val c with ⟨h1, h2⟩ | ⟨h1, h2⟩ <;> rcases y.val c with ⟨g1, g2⟩ | ⟨g1, g2⟩
  · rw [h1, g1]
  · exact absurd g1 (h2 _)
  · exact absurd h1 (g2 _)
  · have := h2 _ g1
    have := g2 _ h1
    omega
theorem IsRisk.none_ (h : ok a = false) : IsRisk n nb ok rk a (List.replicate n (-1)) :=
  ⟨by simp, fun c => .inl ⟨at_rep n c, fun r hr => by rw [hr.rch.left] at h; cases h⟩, fun c => by rw [at_rep]; omega⟩
theorem IsRisk.nn (hp : ∀ i, 1 ≤ rk i) {rs : List Int} (x : IsRisk n nb ok rk a rs) {c : Nat} : 0 ≤ at_ rs c ↔ Rch nb ok a c := by
  rcases x.val c with ⟨h1, h2⟩ | ⟨h1, h2⟩
  · rw [h1]
    refine ⟨fun h => by omega, fun h => ?_⟩
    obtain ⟨r, hr⟩ := h.way (rk := rk)
    exact absurd hr (h2 r)
  · refine ⟨fun _ => h1.rch, fun _ => ?_⟩
    have := h1.ge hp
    have := hp c
    omega
theorem IsRisk.way (hp : ∀ i, 1 ≤ rk i) {rs : List Int} (x : IsRisk n nb ok rk a rs) {c : Nat} (h : 0 ≤ at_ rs c) : Way nb ok rk a c (at_ rs c) ∧ ∀ r, Way nb ok rk a c r → at_ rs c ≤ r := by
  rcases x.val c with ⟨h1, _⟩ | h1
  · omega
  · exact h1
theorem IsRisk.self (hp : ∀ i, 1 ≤ rk i) {rs : List Int} (x : IsRisk n nb ok rk a rs) (h : ok a = true) : at_ rs a = rk a := by
  have h0 := (x.nn hp).2 (.refl h)
  obtain ⟨h1, h2⟩ := x.way hp h0
  have := h2 _ (.start h)
  have := h1.ge hp
  omega
theorem IsRisk.ge (hp : ∀ i, 1 ≤ rk i) {rs : List Int} (x : IsRisk n nb ok rk a rs) {c : Nat} (h : 0 ≤ at_ rs c) : rk c ≤ at_ rs c := (x.way hp h).1.ge hp
/-- the last step of a best way -/
theorem IsRisk.pred (G : Gr n nb) (hk : ∀ i, ok i = true → i < n) (hp : ∀ i, 1 ≤ rk i) {rs : List Int} (x : IsRisk n nb ok rk a rs) {c : Nat} (h : 0 ≤ at_ rs c) (hc : c ≠ a) :
    ∃ d, d ∈ nb c ∧ 0 ≤ at_ rs d ∧ at_ rs d + rk c = at_ rs c := by
  obtain ⟨h1, h2⟩ := x.way hp h
  generalize e : at_ rs c = v at *
  cases h1 with
  | start _ => exact absurd rfl hc
  | @step d k r w1 w2 w3 =>
    have h0 := (x.nn hp).2 w1.rch
    obtain ⟨y1, y2⟩ := x.way hp h0
    have := y2 _ w1
    have := h2 _ (y1.step w2 w3)
    exact ⟨d, G.sym _ _ (hk _ w1.rch.right) w2, h0, by omega⟩
theorem IsRisk.tri (hp : ∀ i, 1 ≤ rk i) {rs : List Int} (x : IsRisk n nb ok rk a rs) {c d : Nat} (h : 0 ≤ at_ rs d) (hd : c ∈ nb d) (hc : ok c = true) : at_ rs c ≤ at_ rs d + rk c := by
  obtain ⟨y1, y2⟩ := x.way hp h
  have w := y1.step hd hc
  exact (x.way hp ((x.nn hp).2 w.rch)).2 _ w

/-! ### The search for them -/

def isd (dn : List Bool) (i : Nat) : Bool := dn.getD i false
theorem isd_of {dn : List Bool} {i : Nat} {b : Bool} (h : dn[i]? = some b) : isd dn i = b := by simp [isd, List.getD_eq_getElem?_getD, h]
theorem isd_set (dn : List Bool) (i j : Nat) (h : i < dn.length) : isd (dn.set i true) j = if j = i then true else isd dn j := by
  unfold isd
  rw [List.getD_eq_getElem?_getD, List.getElem?_set]
  by_cases e : i = j
  · subst e; simp [h]
  · rw [if_neg e, if_neg (fun x => e x.symm), List.getD_eq_getElem?_getD]
theorem isd_rep (n j : Nat) : isd (List.replicate n false) j = false := by
  unfold isd
  rw [List.getD_eq_getElem?_getD, List.getElem?_replicate]
  split <;> rfl
/-- how many are not done -/
def opens (dn : List Bool) : Nat := dn.count false
theorem opens_set : ∀ {dn : List Bool} {i : Nat}, dn[i]? = some false → opens (dn.set i true) + 1 = opens dn
  | [], i, h => by simp at h
  | b :: dn, 0, h => by simp at h; subst h; simp [opens]
  | b :: dn, i + 1, h => by
    have := opens_set (dn := dn) (i := i) (by simpa using h)
    unfold opens at *
    cases b <;> simp [List.count_cons] at * <;> omega
theorem opens_le (dn : List Bool) : opens dn ≤ dn.length := List.count_le_length

/-- between two turns: q cells are done. -/
structure Dij (n : Nat) (nb : Nat → List Nat) (ok : Nat → Bool) (rk : Nat → Int) (a : Nat) (q : Int) (rs : List Int) (dn : List Bool) : Prop where
  len : rs.length = n
  dlen : dn.length = n
  val : ∀ c, at_ rs c = -1 ∨ Way nb ok rk a c (at_ rs c)
  frm : 0 ≤ at_ rs a ∧ at_ rs a ≤ rk a
  pos : ∀ d, isd dn d = true → 0 ≤ at_ rs d
  ord : ∀ d c, isd dn d = true → isd dn c = false → 0 ≤ at_ rs c → at_ rs d ≤ at_ rs c
  bnd : ∀ c, at_ rs c ≤ 201 * (q + 1)
  rel : ∀ d k, isd dn d = true → k ∈ nb d → ok k = true → 0 ≤ at_ rs k ∧ at_ rs k ≤ at_ rs d + rk k
/-- in the turn of the cell c: its first m steps are looked at. -/
structure DijI (n : Nat) (nb : Nat → List Nat) (ok : Nat → Bool) (rk : Nat → Int) (a : Nat) (q : Int) (rs : List Int) (dn : List Bool) (c m : Nat) : Prop where
  len : rs.length = n
  dlen : dn.length = n
  val : ∀ c, at_ rs c = -1 ∨ Way nb ok rk a c (at_ rs c)
  frm : 0 ≤ at_ rs a ∧ at_ rs a ≤ rk a
  pos : ∀ d, isd dn d = true → 0 ≤ at_ rs d
  ord : ∀ d c, isd dn d = true → isd dn c = false → 0 ≤ at_ rs c → at_ rs d ≤ at_ rs c
  bnd : ∀ c, at_ rs c ≤ 201 * (q + 1)
  bndc : at_ rs c ≤ 201 * q
  cur : isd dn c = true
  top : ∀ d, isd dn d = true → at_ rs d ≤ at_ rs c
  rel : ∀ d k, isd dn d = true → d ≠ c → k ∈ nb d → ok k = true → 0 ≤ at_ rs k ∧ at_ rs k ≤ at_ rs d + rk k
  part : ∀ t k, t < m → (nb c)[t]? = some k → ok k = true → 0 ≤ at_ rs k ∧ at_ rs k ≤ at_ rs c + rk k

theorem Dij.start (hn : a < n) (h : ok a = true) (hp : 1 ≤ rk a) (hq : rk a ≤ 201) : Dij n nb ok rk a 0 ((List.replicate n (-1)).set a (rk a)) (List.replicate n false) := by
  have e : ∀ c, at_ ((List.replicate n (-1)).set a (rk a)) c = if c = a then rk a else -1 := fun c => by rw [at_set _ _ _ _ (by simpa using hn), at_rep]
  refine ⟨by simp, by simp, fun c => ?_, ?_, (fun d hd => by rw [isd_rep] at hd; cases hd), (fun d c hd => by rw [isd_rep] at hd; cases hd), fun c => ?_, (fun d k hd => by rw [isd_rep] at hd; cases hd)⟩
  · rw [e]
    by_cases h1 : c = a
    · subst h1; rw [if_pos rfl]; exact .inr (.start h)
    · rw [if_neg h1]; exact .inl rfl
  · rw [e, if_pos rfl]; omega
  · rw [e]; split <;> omega
theorem Dij.turn {q : Int} {rs : List Int} {dn : List Bool} (x : Dij n nb ok rk a q rs dn) {c : Nat} (hc : c < n) (h0 : 0 ≤ at_ rs c) (hd : isd dn c = false) (hl : ∀ i, 0 ≤ at_ rs i → isd dn i = false → at_ rs c ≤ at_ rs i) :
    DijI n nb ok rk a (q + 1) rs (dn.set c true) c 0 := by
  have e : ∀ i, isd (dn.set c true) i = if i = c then true else isd dn i := fun i => isd_set dn c i (by rw [x.dlen]; exact hc)
  have old : ∀ i, isd (dn.set c true) i = true → i = c ∨ isd dn i = true := fun i hi => by
    rw [e] at hi
    by_cases h : i = c
    · exact .inl h
    · rw [if_neg h] at hi; exact .inr hi
  have new : ∀ i, isd (dn.set c true) i = false → isd dn i = false := fun i hi => by
    rw [e] at hi
    by_cases h : i = c
    · rw [if_pos h] at hi; cases hi
    · rw [if_neg h] at hi; exact hi
  refine ⟨x.len, by simpa using x.dlen, x.val, x.frm, ?_, ?_, fun c => by have := x.bnd c; omega, by have := x.bnd c; omega, by rw [e, if_pos rfl], ?_, ?_, fun t k ht => by omega⟩
  · intro d hd'
    rcases old d hd' with rfl | h
    · exact h0
    · exact x.pos d h
  · intro d i hd' hi h1
    rcases old d hd' with rfl | h
    · exact hl i h1 (new i hi)
    · exact x.ord d i h (new i hi) h1
  · intro d hd'
    rcases old d hd' with rfl | h
    · exact Int.le_refl _
    · exact x.ord d c h hd h0
  · intro d k hd' hne
    rcases old d hd' with rfl | h
    · exact absurd rfl hne
    · exact x.rel d k h
theorem DijI.skip {q : Int} {rs : List Int} {dn : List Bool} {c m k : Nat} (x : DijI n nb ok rk a q rs dn c m) (hk : (nb c)[m]? = some k) (h : ok k = false ∨ (0 ≤ at_ rs k ∧ at_ rs k ≤ at_ rs c + rk k)) :
    DijI n nb ok rk a q rs dn c (m + 1) :=
  ⟨x.len, x.dlen, x.val, x.frm, x.pos, x.ord, x.bnd, x.bndc, x.cur, x.top, x.rel, fun t k' ht hk' hok => by
    rcases Nat.lt_or_ge t m with h1 | h1
    · exact x.part t k' h1 hk' hok
    · obtain rfl : t = m := by omega
      rw [hk] at hk'
      injection hk' with e
      subst e
      rcases h with h | h
      · rw [h] at hok; cases hok
      · exact h⟩
theorem DijI.less {q : Int} {rs : List Int} {dn : List Bool} {c m k : Nat} (hp : ∀ i, 1 ≤ rk i) (hq : ∀ i, rk i ≤ 201) (hkn : k < n) (x : DijI n nb ok rk a q rs dn c m) (hk : (nb c)[m]? = some k) (hok : ok k = true) (h : at_ rs k < 0 ∨ at_ rs c + rk k < at_ rs k) :
    DijI n nb ok rk a q (rs.set k (at_ rs c + rk k)) dn c (m + 1) := by
  have e : ∀ i, at_ (rs.set k (at_ rs c + rk k)) i = if i = k then at_ rs c + rk k else at_ rs i := fun i => at_set rs k i _ (by rw [x.len]; exact hkn)
  have hc0 := x.pos c x.cur
  have hk1 := hp k
  have hund : isd dn k = false := by
    cases hd : isd dn k with
    | false => rfl
    | true =>
      have := x.pos k hd
      have := x.top k hd
      omega
  have hdk : ∀ d, isd dn d = true → d ≠ k := fun d hd => by rintro rfl; rw [hund] at hd; cases hd
  have keep : ∀ d, isd dn d = true → at_ (rs.set k (at_ rs c + rk k)) d = at_ rs d := fun d hd => by rw [e, if_neg (hdk d hd)]
  have wc : Way nb ok rk a c (at_ rs c) := by
    rcases x.val c with h1 | h1
    · omega
    · exact h1
  have le : ∀ i, 0 ≤ at_ rs i → 0 ≤ at_ (rs.set k (at_ rs c + rk k)) i ∧ at_ (rs.set k (at_ rs c + rk k)) i ≤ at_ rs i := fun i hi => by
    rw [e]
    by_cases h1 : i = k
    · subst h1; rw [if_pos rfl]; omega
    · rw [if_neg h1]; omega
  refine ⟨by simpa using x.len, x.dlen, ?_, ?_, ?_, ?_, ?_, ?_, x.cur, ?_, ?_, ?_⟩
  · intro i
    rw [e]
    by_cases h1 : i = k
    · subst h1; rw [if_pos rfl]; exact .inr (wc.step (List.mem_of_getElem? hk) hok)
    · rw [if_neg h1]; exact x.val i
  · have := le a x.frm.1
    have := x.frm
    omega
  · intro d hd; rw [keep d hd]; exact x.pos d hd
  · intro d i hd hi h1
    rw [keep d hd]
    rw [e] at h1 ⊢
    by_cases h2 : i = k
    · subst h2; rw [if_pos rfl]; have := x.top d hd; omega
    · rw [if_neg h2] at h1 ⊢; exact x.ord d i hd hi h1
  · intro i
    rw [e]
    have := x.bndc
    have := hq k
    split
    · omega
    · exact x.bnd i
  · rw [keep c x.cur]; exact x.bndc
  · intro d hd
    rw [keep d hd, keep c x.cur]; exact x.top d hd
  · intro d i hd hne hi hoki
    rw [keep d hd]
    have := x.rel d i hd hne hi hoki
    have := le i this.1
    omega
  · intro t i ht hi hoki
    rw [keep c x.cur]
    rcases Nat.lt_or_ge t m with h1 | h1
    · have := x.part t i h1 hi hoki
      have := le i this.1
      omega
    · obtain rfl : t = m := by omega
      rw [hk] at hi
      injection hi with e1
      subst e1
      rw [e, if_pos rfl]
      omega
theorem DijI.fin {q : Int} {rs : List Int} {dn : List Bool} {c : Nat} (x : DijI n nb ok rk a q rs dn c (nb c).length) : Dij n nb ok rk a q rs dn :=
  ⟨x.len, x.dlen, x.val, x.frm, x.pos, x.ord, x.bnd, fun d k hd hk hok => by
    by_cases h : d = c
    · subst h
      obtain ⟨t, ht⟩ := List.mem_iff_getElem?.1 hk
      exact x.part t k (List.getElem?_eq_some_iff.1 ht).1 ht hok
    · exact x.rel d k hd h hk hok⟩
theorem Dij.done {q : Int} {rs : List Int} {dn : List Bool} (hp : ∀ i, 1 ≤ rk i) (x : Dij n nb ok rk a q rs dn) (hq : q ≤ 1000) (h : ∀ i, 0 ≤ at_ rs i → isd dn i = true) : IsRisk n nb ok rk a rs := by
  have key : ∀ c r, Way nb ok rk a c r → 0 ≤ at_ rs c ∧ at_ rs c ≤ r := fun c r hw => by
    induction hw with
    | start _ => exact x.frm
    | @step d k r _ h1 h2 ih =>
      have := x.rel d k (h d ih.1) h1 h2
      omega
  refine ⟨x.len, fun c => ?_, fun c => by have := x.bnd c; omega⟩
  rcases x.val c with h1 | h1
  · exact .inl ⟨h1, fun r hr => by have := key c r hr; omega⟩
  · exact .inr ⟨h1, fun r hr => (key c r hr).2⟩

/-- the open cell with the least risk of the first k, -1 if there is none. -/
def Least (rs : List Int) (dn : List Bool) (k : Nat) (l : Int) : Prop :=
  (l = -1 ∧ ∀ i, i < k → 0 ≤ at_ rs i → isd dn i = true) ∨
  ∃ c : Nat, l = c ∧ c < k ∧ 0 ≤ at_ rs c ∧ isd dn c = false ∧ ∀ i, i < k → 0 ≤ at_ rs i → isd dn i = false → at_ rs c ≤ at_ rs i
theorem Least.skip {rs : List Int} {dn : List Bool} {k : Nat} {l : Int} (h : Least rs dn k l) (hk : 0 ≤ at_ rs k → isd dn k = false → ∃ c : Nat, l = c ∧ at_ rs c ≤ at_ rs k) : Least rs dn (k + 1) l := by
  rcases h with ⟨e, h1⟩ | ⟨c, e, hc, h0, hd, h1⟩
  · refine .inl ⟨e, fun i hi hi0 => ?_⟩
    rcases Nat.lt_or_ge i k with g | g
    · exact h1 i g hi0
    · obtain rfl : i = k := by omega
      cases hd : isd dn i with
      | true => rfl
      | false => obtain ⟨c, e2, _⟩ := hk hi0 hd; omega
  · refine .inr ⟨c, e, by omega, h0, hd, fun i hi hi0 hdi => ?_⟩
    rcases Nat.lt_or_ge i k with g | g
    · exact h1 i g hi0 hdi
    · obtain rfl : i = k := by omega
      obtain ⟨c', e2, h3⟩ := hk hi0 hdi
      obtain rfl : c = c' := by omega
      exact h3
theorem Least.take {rs : List Int} {dn : List Bool} {k : Nat} {l : Int} (h : Least rs dn k l) (h0 : 0 ≤ at_ rs k) (hd : isd dn k = false) (hk : ∀ c : Nat, l = c → at_ rs k ≤ at_ rs c) : Least rs dn (k + 1) k := by
  refine .inr ⟨k, rfl, by omega, h0, hd, fun i hi hi0 hdi => ?_⟩
  rcases Nat.lt_or_ge i k with g | g
  · rcases h with ⟨e, h1⟩ | ⟨c, e, hc, _, _, h1⟩
    · rw [h1 i g hi0] at hdi; cases hdi
    · have := h1 i g hi0 hdi
      have := hk c e
      omega
  · obtain rfl : i = k := by omega
    exact Int.le_refl _

/-! ### The way back -/

def prevF (rk : Nat → Int) (rs : List Int) (nb : Nat → List Nat) (c : Nat) : Option Nat := (nb c).find? (fun k => decide (0 ≤ at_ rs k ∧ at_ rs k + rk c = at_ rs c))
inductive Back (rk : Nat → Int) (rs : List Int) (nb : Nat → List Nat) (a : Nat) : Nat → List Nat → Prop
  | base : Back rk rs nb a a [a]
  | step {c k : Nat} {l : List Nat} : c ≠ a → prevF rk rs nb c = some k → Back rk rs nb a k l → Back rk rs nb a c (l ++ [c])
theorem Back.uniq {rs : List Int} {c : Nat} {l l' : List Nat} (h : Back rk rs nb a c l) (h' : Back rk rs nb a c l') : l = l' := by
  induction h generalizing l' with
  | base =>
    cases h' with
    | base => rfl
    | step h _ _ => exact absurd rfl h
  | step h1 h2 _ ih =>
    cases h' with
    | base => exact absurd rfl h1
    | step g1 g2 g3 =>
      rw [h2] at g2
      injection g2 with e
      subst e
      rw [ih g3]
theorem prevF_some {rs : List Int} {c k : Nat} (h : prevF rk rs nb c = some k) : k ∈ nb c ∧ 0 ≤ at_ rs k ∧ at_ rs k + rk c = at_ rs c := by
  have h1 := List.mem_of_find?_eq_some h
  have h2 := List.find?_some h
  simp only [decide_eq_true_eq] at h2
  exact ⟨h1, h2⟩
theorem IsRisk.prev (G : Gr n nb) (hk : ∀ i, ok i = true → i < n) (hp : ∀ i, 1 ≤ rk i) {rs : List Int} (x : IsRisk n nb ok rk a rs) {c : Nat} (h : 0 ≤ at_ rs c) (hc : c ≠ a) : ∃ k, prevF rk rs nb c = some k := by
  obtain ⟨d, h1, h2, h3⟩ := x.pred G hk hp h hc
  cases e : prevF rk rs nb c with
  | some k => exact ⟨k, rfl⟩
  | none =>
    have := List.find?_eq_none.1 e d h1
    simp [h2, h3] at this
theorem IsRisk.back (G : Gr n nb) (hk : ∀ i, ok i = true → i < n) (hp : ∀ i, 1 ≤ rk i) {rs : List Int} (x : IsRisk n nb ok rk a rs) : ∀ (m : Nat) {c : Nat}, (at_ rs c).toNat ≤ m → 0 ≤ at_ rs c → ∃ l, Back rk rs nb a c l := by
  intro m
  induction m with
  | zero =>
    intro c hm h
    have := x.ge hp h
    have := hp c
    omega
  | succ m ih =>
    intro c hm h
    by_cases hc : c = a
    · subst hc; exact ⟨_, .base⟩
    · obtain ⟨k, e⟩ := x.prev G hk hp h hc
      obtain ⟨_, h2, h3⟩ := prevF_some e
      have := hp c
      obtain ⟨l, hl⟩ := ih (c := k) (by omega) h2
      exact ⟨_, .step hc e hl⟩
/-- what the program looks for: the first cell beside from which the risk is just that of the cell less. -/
theorem IsRisk.look (G : Gr n nb) (hk : ∀ i, ok i = true → i < n) (hp : ∀ i, 1 ≤ rk i) {rs : List Int} (x : IsRisk n nb ok rk a rs) {c : Nat} (h : 0 ≤ at_ rs c) (hok : ok a = true) :
    (nb c).find? (fun k => decide (at_ rs k = at_ rs c - rk c)) = if c = a then none else prevF rk rs nb c := by
  by_cases hc : c = a
  · subst hc
    rw [if_pos rfl, List.find?_eq_none]
    intro k _ hh
    simp only [decide_eq_true_eq] at hh
    rw [x.self hp hok] at hh
    have := x.ge hp (c := k) (by omega)
    have := hp k
    omega
  · rw [if_neg hc]
    obtain ⟨d, _, h2, h3⟩ := x.pred G hk hp h hc
    unfold prevF
    congr 1
    funext k
    exact decide_eq_decide.2 ⟨fun e => by omega, fun e => by omega⟩
end

end Go.Proofs.Ytggdnpaiaijhgaa

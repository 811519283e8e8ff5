/- Cells in which ids are searched, as plain lists. Nothing of the dump. -/
namespace Go.Arb

abbrev Cell := Int × Int

theorem least (P : Nat → Prop) (n : Nat) (h : P n) : ∃ m, m ≤ n ∧ P m ∧ ∀ k, k < m → ¬ P k := by
  induction n using Nat.strongRecOn with
  | _ n ih =>
    by_cases hx : ∃ k, k < n ∧ P k
    · obtain ⟨k, hk, hp⟩ := hx
      obtain ⟨m, h1, h2, h3⟩ := ih k hk hp
      exact ⟨m, by omega, h2, h3⟩
    · exact ⟨n, Nat.le_refl _, h, fun k hk hp => hx ⟨k, hk, hp⟩⟩

/-- The cell from which on an id is searched, among N. (The letter stands behind: so nobody reckons the product by unfolding.) -/
def homeN (N id : Nat) : Nat := (11400714819323198485 * id % 18446744073709551616) / (18446744073709551616 / N)
theorem homeN_eq (N id : Nat) : homeN N id = (id * 11400714819323198485 % 18446744073709551616) / (18446744073709551616 / N) := by
  unfold homeN; rw [Nat.mul_comm]

theorem two64 {s : Nat} (hs : s ≤ 22) : 18446744073709551616 = 2 ^ s * 2 ^ (64 - s) := by
  rw [← Nat.pow_add, show s + (64 - s) = 64 from by omega]
theorem homeN_pow {s id : Nat} (hs : s ≤ 22) : homeN (2 ^ s) id = (id * 11400714819323198485 % 18446744073709551616) / 2 ^ (64 - s) := by
  rw [homeN_eq]
  have h0 : 0 < 2 ^ s := Nat.pow_pos (by omega)
  rw [show 18446744073709551616 / 2 ^ s = 2 ^ (64 - s) from by rw [two64 hs, Nat.mul_div_cancel_left _ h0]]
theorem homeN_lt {s id : Nat} (hs : s ≤ 22) : homeN (2 ^ s) id < 2 ^ s := by
  rw [homeN_pow hs]
  refine Nat.div_lt_of_lt_mul ?_
  have h := Nat.mod_lt (id * 11400714819323198485) (show 18446744073709551616 > 0 by omega)
  rw [Nat.mul_comm (2 ^ (64 - s)), ← two64 hs]; exact h

def pos (N h t : Nat) : Nat := (h + t) % N
theorem pos_zero {N h : Nat} (hh : h < N) : pos N h 0 = h := by simp [pos, Nat.mod_eq_of_lt hh]
theorem pos_succ (N h t : Nat) : pos N h (t + 1) = (pos N h t + 1) % N := by
  unfold pos; rw [Nat.mod_add_mod, Nat.add_assoc]
theorem pos_lt {N h t : Nat} (hN : 0 < N) : pos N h t < N := Nat.mod_lt _ hN
theorem pos_all {N h q : Nat} (hh : h < N) (hq : q < N) : ∃ t, pos N h t = q :=
  ⟨q + N - h, by unfold pos; rw [show h + (q + N - h) = q + N from by omega, Nat.add_mod_right, Nat.mod_eq_of_lt hq]⟩

def keyAt (cs : List Cell) (p : Nat) : Int := (cs.getD p (0, 0)).1
theorem keyAt_of {cs : List Cell} {p : Nat} {c : Cell} (h : cs[p]? = some c) : keyAt cs p = c.1 := by simp [keyAt, List.getD_eq_getElem?_getD, h]
theorem keyAt_get {cs : List Cell} {p : Nat} (h : p < cs.length) : keyAt cs p = cs[p].1 := keyAt_of (List.getElem?_eq_getElem h)
theorem keyAt_set {cs : List Cell} {p : Nat} (c : Cell) (h : p < cs.length) (q : Nat) : keyAt (cs.set p c) q = if q = p then c.1 else keyAt cs q := by
  unfold keyAt
  rw [List.getD_eq_getElem?_getD, List.getD_eq_getElem?_getD, List.getElem?_set]
  by_cases hq : q = p
  · subst hq; simp [h]
  · simp [hq, Ne.symm hq]

def liveF (c : Cell) : Option Cell := if 0 < c.1 then some (c.1 - 1, c.2) else none
/-- The ids that are there, each with its number. -/
def live (cs : List Cell) : List Cell := cs.filterMap liveF
/-- How many cells are not free. -/
def busy (cs : List Cell) : Nat := cs.countP (fun c => c.1 != 0)

theorem perm_set {α : Type} (l : List α) (p : Nat) (h : p < l.length) (x : α) : (l[p] :: l.set p x).Perm (x :: l) := by
  induction l generalizing p with
  | nil => simp at h
  | cons a l ih =>
    cases p with
    | zero => simp only [List.getElem_cons_zero, List.set_cons_zero]; exact List.Perm.swap _ _ _
    | succ p =>
      simp only [List.getElem_cons_succ, List.set_cons_succ]
      have h1 := ih p (by simpa using h)
      exact (List.Perm.swap _ _ _).trans ((h1.cons a).trans (List.Perm.swap _ _ _))

theorem mem_live {cs : List Cell} {id n : Int} (h : 0 ≤ id) : (id, n) ∈ live cs ↔ (id + 1, n) ∈ cs := by
  unfold live
  rw [List.mem_filterMap]
  constructor
  · rintro ⟨c, hc, he⟩
    unfold liveF at he
    split at he
    · simp at he
      obtain ⟨h1, h2⟩ := he
      have : c = (id + 1, n) := by
        obtain ⟨c1, c2⟩ := c
        simp at h1 h2 ⊢
        exact ⟨by omega, h2⟩
      rw [← this]; exact hc
    · cases he
  · intro hc
    exact ⟨_, hc, by unfold liveF; rw [if_pos (by simp; omega)]; simp⟩

theorem live_set {cs : List Cell} {p : Nat} (h : p < cs.length) (x : Cell) : (live [cs[p]] ++ live (cs.set p x)).Perm (live [x] ++ live cs) := by
  have := (perm_set cs p h x).filterMap liveF
  unfold live
  rw [← List.filterMap_append, ← List.filterMap_append]
  exact this
theorem busy_set {cs : List Cell} {p : Nat} (h : p < cs.length) (x : Cell) : busy [cs[p]] + busy (cs.set p x) = busy [x] + busy cs := by
  have := (perm_set cs p h x).countP_eq (fun c => c.1 != 0)
  unfold busy
  rw [← List.countP_append, ← List.countP_append]
  exact this

structure Hash (cs : List Cell) (L : List Cell) : Prop where
  pow : ∃ s, 3 ≤ s ∧ s ≤ 22 ∧ cs.length = 2 ^ s
  perm : (live cs).Perm L
  reach : ∀ p, p < cs.length → 0 < keyAt cs p → ∃ t, p = pos cs.length (homeN cs.length (keyAt cs p - 1).toNat) t ∧ ∀ t', t' < t → keyAt cs (pos cs.length (homeN cs.length (keyAt cs p - 1).toNat) t') ≠ 0

theorem Hash.home {cs L : List Cell} (h : Hash cs L) (id : Nat) : homeN cs.length id < cs.length := by
  obtain ⟨s, _, h2, h3⟩ := h.pow; rw [h3]; exact homeN_lt h2
theorem Hash.posN {cs L : List Cell} (h : Hash cs L) : 8 ≤ cs.length ∧ cs.length ≤ 4194304 := by
  obtain ⟨s, h1, h2, h3⟩ := h.pow
  rw [h3]
  exact ⟨Nat.pow_le_pow_right (n := 2) (by omega) h1, Nat.pow_le_pow_right (n := 2) (by omega) h2⟩
theorem Hash.free {cs L : List Cell} (h : Hash cs L) (hb : busy cs < cs.length) (id : Nat) : ∃ t, keyAt cs (pos cs.length (homeN cs.length id) t) = 0 := by
  have hx : ∃ q, q < cs.length ∧ keyAt cs q = 0 := by
    apply Classical.byContradiction
    intro hn
    have : busy cs = cs.length := by
      unfold busy
      rw [List.countP_eq_length]
      intro c hc
      obtain ⟨q, hq, rfl⟩ := List.mem_iff_getElem.1 hc
      simp only [bne_iff_ne, ne_eq]
      intro h0
      exact hn ⟨q, hq, by rw [keyAt_get hq]; exact h0⟩
    omega
  obtain ⟨q, hq, h0⟩ := hx
  obtain ⟨t, ht⟩ := pos_all (h.home id) hq
  exact ⟨t, by rw [ht]; exact h0⟩

/-- Where the search for an id ends. -/
theorem Hash.search {cs L : List Cell} (h : Hash cs L) (hb : busy cs < cs.length) (id : Nat) :
    ∃ t0, (∀ t, t < t0 → keyAt cs (pos cs.length (homeN cs.length id) t) ≠ id + 1 ∧ keyAt cs (pos cs.length (homeN cs.length id) t) ≠ 0) ∧
      ((keyAt cs (pos cs.length (homeN cs.length id) t0) = id + 1 ∧ ∃ n, cs[pos cs.length (homeN cs.length id) t0]? = some ((id : Int) + 1, n) ∧ ((id : Int), n) ∈ L) ∨
       (keyAt cs (pos cs.length (homeN cs.length id) t0) = 0 ∧ ∀ n, ((id : Int), n) ∉ L)) := by
  obtain ⟨tf, hf⟩ := h.free hb id
  obtain ⟨t0, _, h2, h3⟩ := least (fun t => keyAt cs (pos cs.length (homeN cs.length id) t) = id + 1 ∨ keyAt cs (pos cs.length (homeN cs.length id) t) = 0) tf (.inr hf)
  have hN := h.posN
  refine ⟨t0, fun t ht => ⟨fun e => h3 t ht (.inl e), fun e => h3 t ht (.inr e)⟩, ?_⟩
  have hp := pos_lt (h := homeN cs.length id) (t := t0) (show 0 < cs.length by omega)
  rcases h2 with h2 | h2
  · left
    refine ⟨h2, cs[pos cs.length (homeN cs.length id) t0].2, ?_, ?_⟩
    · rw [List.getElem?_eq_getElem hp]
      rw [keyAt_get hp] at h2
      rw [← h2]
    · rw [← h.perm.mem_iff, mem_live (by omega)]
      rw [keyAt_get hp] at h2
      rw [← h2]
      exact List.getElem_mem hp
  · right
    refine ⟨h2, fun n hn => ?_⟩
    rw [← h.perm.mem_iff, mem_live (by omega)] at hn
    obtain ⟨p, hpl, hpe⟩ := List.mem_iff_getElem.1 hn
    have hk : keyAt cs p = id + 1 := by rw [keyAt_get hpl, hpe]
    obtain ⟨t, ht1, ht2⟩ := h.reach p hpl (by omega)
    rw [hk, show ((id : Int) + 1 - 1).toNat = id from by omega] at ht1 ht2
    rcases Nat.lt_trichotomy t t0 with hlt | heq | hgt
    · exact h3 t hlt (.inl (by rw [← ht1]; exact hk))
    · subst heq; rw [← ht1, hk] at h2; omega
    · exact ht2 t0 hgt h2

theorem live_one {c : Cell} (h : 0 < c.1) : live [c] = [(c.1 - 1, c.2)] := by simp [live, liveF, h]
theorem live_no {c : Cell} (h : ¬ 0 < c.1) : live [c] = [] := by simp [live, liveF, h]

theorem Hash.turn {cs L L' : List Cell} (h : Hash cs L) {p : Nat} (hp : p < cs.length) {c : Cell} (hc : c.1 ≠ 0) (hL : (live (cs.set p c)).Perm L')
    (hr : 0 < c.1 → ∃ t, p = pos cs.length (homeN cs.length (c.1 - 1).toNat) t ∧ ∀ t', t' < t → keyAt cs (pos cs.length (homeN cs.length (c.1 - 1).toNat) t') ≠ 0) : Hash (cs.set p c) L' := by
  refine ⟨by simpa using h.pow, hL, fun q hq hk => ?_⟩
  rw [List.length_set] at *
  have hnz : ∀ x, keyAt cs x ≠ 0 → keyAt (cs.set p c) x ≠ 0 := fun x hx => by
    rw [keyAt_set c hp]; split
    · exact hc
    · exact hx
  by_cases e : q = p
  · subst e
    rw [keyAt_set c hp, if_pos rfl] at hk ⊢
    obtain ⟨t, h1, h2⟩ := hr hk
    exact ⟨t, h1, fun t' ht' => hnz _ (h2 t' ht')⟩
  · rw [keyAt_set c hp, if_neg e] at hk ⊢
    obtain ⟨t, h1, h2⟩ := h.reach q hq hk
    exact ⟨t, h1, fun t' ht' => hnz _ (h2 t' ht')⟩

theorem Hash.lay {cs L : List Cell} (h : Hash cs L) (id : Nat) (n : Int) (t0 : Nat) (h0 : keyAt cs (pos cs.length (homeN cs.length id) t0) = 0) (hlt : ∀ t, t < t0 → keyAt cs (pos cs.length (homeN cs.length id) t) ≠ 0) :
    Hash (cs.set (pos cs.length (homeN cs.length id) t0) ((id : Int) + 1, n)) (((id : Int), n) :: L) ∧ busy (cs.set (pos cs.length (homeN cs.length id) t0) ((id : Int) + 1, n)) = busy cs + 1 := by
  have hN := h.posN
  have hp := pos_lt (h := homeN cs.length id) (t := t0) (show 0 < cs.length by omega)
  generalize hpp : pos cs.length (homeN cs.length id) t0 = p at *
  have hk := keyAt_get hp
  have h1 := live_set hp ((id : Int) + 1, n)
  have h2 := busy_set hp ((id : Int) + 1, n)
  rw [live_no (by rw [← hk, h0]; omega), live_one (by show (0 : Int) < (id : Int) + 1; omega)] at h1
  simp only [List.nil_append, List.cons_append, show (id : Int) + 1 - 1 = id from by omega] at h1
  refine ⟨h.turn hp (by simp; omega) (h1.trans (h.perm.cons _)) (fun _ => ⟨t0, ?_, ?_⟩), ?_⟩
  · simp only [show ((id : Int) + 1 - 1).toNat = id from by omega]; exact hpp.symm
  · simp only [show ((id : Int) + 1 - 1).toNat = id from by omega]; exact hlt
  · rw [show busy [cs[p]] = 0 from by simp [busy, ← hk, h0], show busy [((id : Int) + 1, n)] = 1 from by simp [busy]; omega] at h2
    omega

theorem Hash.drop {cs L L' : List Cell} (h : Hash cs L) {p : Nat} {id n : Int} (h0 : 0 ≤ id) (hp : cs[p]? = some (id + 1, n)) (hL : L.Perm ((id, n) :: L')) :
    Hash (cs.set p (-1, 0)) L' ∧ busy (cs.set p (-1, 0)) = busy cs := by
  obtain ⟨hlt, he⟩ := List.getElem?_eq_some_iff.1 hp
  have h1 := live_set hlt (-1, 0)
  have h2 := busy_set hlt (-1, 0)
  rw [he, live_one (by show (0 : Int) < id + 1; omega), live_no (by simp)] at h1
  simp only [List.nil_append, List.cons_append, show id + 1 - 1 = id from by omega] at h1
  refine ⟨h.turn hlt (by simp) ?_ (fun hh => by simp at hh), ?_⟩
  · exact ((h1.trans h.perm).trans hL).cons_inv
  · rw [he, show busy [(id + 1, n)] = 1 from by simp [busy]; omega, show busy [((-1 : Int), (0 : Int))] = 1 from by simp [busy]] at h2
    omega

theorem live_replicate (k : Nat) : live (List.replicate k (0, 0)) = [] := by
  induction k with
  | zero => rfl
  | succ k ih => simp only [List.replicate_succ, live, List.filterMap_cons] at *; simp [liveF]
theorem busy_replicate (k : Nat) : busy (List.replicate k (0, 0)) = 0 := by
  unfold busy; rw [List.countP_replicate]; simp
theorem keyAt_replicate (k p : Nat) : keyAt (List.replicate k (0, 0)) p = 0 := by
  unfold keyAt; rw [List.getD_eq_getElem?_getD, List.getElem?_replicate]; split <;> rfl
theorem hash_new {s : Nat} (h1 : 3 ≤ s) (h2 : s ≤ 22) : Hash (List.replicate (2 ^ s) (0, 0)) [] :=
  ⟨⟨s, h1, h2, by simp⟩, by rw [live_replicate], fun p _ hk => by rw [keyAt_replicate] at hk; omega⟩

theorem live_take_succ {cs : List Cell} {i : Nat} (h : i < cs.length) : live (cs.take (i + 1)) = live (cs.take i) ++ live [cs[i]] := by
  unfold live; rw [List.take_succ_eq_append_getElem h, List.filterMap_append]
theorem live_length_le (cs : List Cell) : (live cs).length ≤ busy cs := by
  induction cs with
  | nil => simp [live, busy]
  | cons c cs ih =>
    simp only [live, busy, List.filterMap_cons, List.countP_cons] at *
    unfold liveF at *
    by_cases h : 0 < c.1
    · simp [h, show c.1 ≠ 0 from by omega]; omega
    · simp [h]; omega
theorem Hash.perm' {cs L L' : List Cell} (h : Hash cs L) (hp : L.Perm L') : Hash cs L' := ⟨h.pow, h.perm.trans hp, h.reach⟩
end Go.Arb

/- Pools whose sequences are known, in plain mathematics. -/
import Derived.Test.YtbkneonbpcmepaaG2
namespace Go.Proofs.Ytbkneonbpcmepaa
set_option linter.unusedVariables false
set_option linter.unusedSimpArgs false

/-- A pool whose sequences are these. -/
abbrev st (n : Nat) (L : List (List Nat)) (W : Nat → Int) : Se := ⟨n, L, W⟩

section
variable {n : Nat} {L : List (List Nat)} {W : Nat → Int} {l m : List Nat} {u v k : Nat}
theorem st_in (hl : l ∈ L) (hv : v ∈ l) : v ∈ L.flatten := List.mem_flatten.2 ⟨l, hl, hv⟩
theorem st_has (hl : l ∈ L) (hv : v ∈ l) : (st n L W).hasI v = true := by rw [Se.hasI_nat]; simpa using st_in hl hv
theorem st_seqI (nd : L.flatten.Nodup) (hl : l ∈ L) (hv : v ∈ l) : (st n L W).seqI v = l := by
  rw [Se.seqI_nat (A := st n L W) (st_in hl hv)]
  exact Se.seq_eq (A := st n L W) nd hl hv
theorem st_len (nd : L.flatten.Nodup) (hl : l ∈ L) (hv : v ∈ l) : (st n L W).lenI v = l.length := by rw [Se.lenI, st_seqI nd hl hv]
theorem st_rank (nd : L.flatten.Nodup) (hl : l ∈ L) (hv : v ∈ l) : (st n L W).rankI v = l.idxOf v := by
  rw [Se.rankI, if_pos (st_has hl hv), Int.toNat_natCast, Se.seq_eq (A := st n L W) nd hl hv]
theorem st_at (nd : L.flatten.Nodup) (hl : l ∈ L) (hv : v ∈ l) (hk : k < l.length) : (st n L W).atI v k = (l.getD k 0 : Nat) := by
  rw [Se.atI, st_len nd hl hv, st_seqI nd hl hv, if_pos (by omega), Int.toNat_natCast]
theorem st_at_no (nd : L.flatten.Nodup) (hl : l ∈ L) (hv : v ∈ l) : (st n L W).atI v (l.length : Nat) = -1 := by
  rw [Se.atI, st_len nd hl hv, if_neg (by omega)]
theorem st_same (nd : L.flatten.Nodup) (hl : l ∈ L) (hu : u ∈ l) (hv : v ∈ l) : (st n L W).sameI u v = true := by
  simp [Se.sameI, st_has hl hu, st_has hl hv, st_seqI nd hl hu, hv]
theorem st_apart (nd : L.flatten.Nodup) (hl : l ∈ L) (hu : u ∈ l) (hv : v ∉ l) : (st n L W).sameI u v = false := by
  simp [Se.sameI, st_seqI nd hl hu, hv]
theorem st_get (hl : l ∈ L) (hv : v ∈ l) : (st n L W).getI v = W v := by rw [Se.getI, if_pos (st_has hl hv), Int.toNat_natCast]
theorem st_all (nd : L.flatten.Nodup) (hl : l ∈ L) (hv : v ∈ l) : (st n L W).allI v = ofR (l.map W) := by rw [Se.allI, st_seqI nd hl hv]
theorem st_before (nd : L.flatten.Nodup) (hl : l ∈ L) (hv : v ∈ l) (hr : 0 < l.idxOf v) : (st n L W).beforeB v = true ∧ (st n L W).beforeA v = st n (L.erase l ++ [l.take (l.idxOf v), l.drop (l.idxOf v)]) W := by
  have h : (st n L W).beforeB v = true := by rw [Se.beforeB, st_rank nd hl hv]; simpa using hr
  refine ⟨h, ?_⟩
  rw [Se.beforeA, if_pos h, st_rank nd hl hv, st_seqI nd hl hv, Int.toNat_natCast]
theorem st_before_no (nd : L.flatten.Nodup) (hl : l ∈ L) (hv : v ∈ l) (hr : l.idxOf v = 0) : (st n L W).beforeB v = false ∧ (st n L W).beforeA v = st n L W := by
  have h : (st n L W).beforeB v = false := by rw [Se.beforeB, st_rank nd hl hv, hr]; simp
  refine ⟨h, ?_⟩
  rw [Se.beforeA, h]; rfl
theorem st_join (nd : L.flatten.Nodup) (hl : l ∈ L) (hm : m ∈ L) (hu : u ∈ l) (hv : v ∈ m) (hn : v ∉ l) : (st n L W).joinB u v = true ∧ (st n L W).joinA u v = st n ((L.erase l).erase m ++ [l ++ m]) W := by
  have h : (st n L W).joinB u v = true := by simp [Se.joinB, st_has hl hu, st_has hm hv, st_apart nd hl hu hn]
  refine ⟨h, ?_⟩
  rw [Se.joinA, if_pos h, st_seqI nd hl hu, st_seqI nd hm hv]
theorem st_add {x : Int} (hk : v < n) (hv : v ∉ L.flatten) (hx : fitB x = true) : (st n L W).addOk v x = true ∧ (st n L W).addA v x = st n (L ++ [[v]]) (fun u => if u = v then x else W u) := by
  have h : (st n L W).addOk v x = true := by
    have : (st n L W).hasI v = false := by rw [Se.hasI_nat]; simpa using hv
    simp only [Se.addOk, this, hx]
    simp
    exact hk
  refine ⟨h, ?_⟩
  rw [Se.addA, if_pos h, Int.toNat_natCast]
theorem st_set {x : Int} (hl : l ∈ L) (hv : v ∈ l) (hx : fitB x = true) : (st n L W).setB v x = true ∧ (st n L W).setA v x = st n L (fun u => if u = v then x else W u) := by
  have h : (st n L W).setB v x = true := by simp [Se.setB, st_has hl hv, hx]
  exact ⟨h, by rw [Se.setA, if_pos h, Int.toNat_natCast]⟩
theorem idx_get (nd : l.Nodup) {i : Nat} (hi : i < l.length) : l.idxOf (l.getD i 0) = i := by
  have e : l.getD i 0 = l[i] := by rw [List.getD_eq_getElem?_getD, List.getElem?_eq_getElem hi]; rfl
  rw [e]
  exact nd.idxOf_getElem i hi
theorem get_idx (hv : v ∈ l) : l.getD (l.idxOf v) 0 = v := by
  have hi : l.idxOf v < l.length := List.idxOf_lt_length_of_mem hv
  rw [List.getD_eq_getElem?_getD, List.getElem?_eq_getElem hi]
  exact List.getElem_idxOf hi
theorem get_mem {i : Nat} (hi : i < l.length) : l.getD i 0 ∈ l := by
  rw [List.getD_eq_getElem?_getD, List.getElem?_eq_getElem hi]
  exact List.getElem_mem hi
end

section
variable {s a b i v : Nat}
/-- Numbers one behind the other. -/
abbrev rg (s a : Nat) : List Nat := List.range' s a
theorem rg_mem : v ∈ rg s a ↔ s ≤ v ∧ v < s + a := List.mem_range'_1
theorem rg_nd : (rg s a).Nodup := List.nodup_range'
theorem rg_len : (rg s a).length = a := List.length_range'
theorem rg_get (h : i < a) : (rg s a).getD i 0 = s + i := by
  rw [List.getD_eq_getElem?_getD, List.getElem?_eq_getElem (by rw [rg_len]; exact h)]
  simp
theorem rg_idx (h1 : s ≤ v) (h2 : v < s + a) : (rg s a).idxOf v = v - s := by
  have := idx_get (rg_nd (s := s) (a := a)) (i := v - s) (by rw [rg_len]; omega)
  rwa [rg_get (by omega), show s + (v - s) = v by omega] at this
theorem rg_app : rg s a ++ rg (s + a) b = rg s (a + b) := by simp [rg, List.range'_append_1]
theorem rg_take (h : i ≤ a) : (rg s a).take i = rg s i := by
  rw [show a = i + (a - i) by omega, ← rg_app, List.take_left' rg_len]
theorem rg_drop (h : i ≤ a) : (rg s a).drop i = rg (s + i) (a - i) := by
  rw [show a = i + (a - i) by omega, ← rg_app, List.drop_left' rg_len, show i + (a - i) - i = a - i by omega]
theorem rg_one : rg s 1 = [s] := rfl
theorem rg_ne (h : 0 < a) : rg s a ≠ [] := by intro e; have := congrArg List.length e; rw [rg_len] at this; simp at this; omega
end

/-- The first m of n items stand in one sequence; g: their weights. -/
def lnL (m : Nat) : List (List Nat) := if m = 0 then [] else [rg 0 m]
def gW (m : Nat) (g : Nat → Int) : Nat → Int := fun v => if v < m then g v else 0
abbrev ln (n m : Nat) (g : Nat → Int) : Se := st n (lnL m) (gW m g)
def Fits16 (g : Nat → Int) : Prop := ∀ i, -32768 ≤ g i ∧ g i ≤ 32767
def wF (ws : List Int) : Nat → Int := fun i => ws.getD i 0
theorem wF_fit {ws : List Int} (h : ∀ z ∈ ws, -32768 ≤ z ∧ z ≤ 32767) : Fits16 (wF ws) := fun i => by
  unfold wF
  rw [List.getD_eq_getElem?_getD]
  cases e : ws[i]? with
  | none => simp
  | some z => exact h z (List.mem_of_getElem? e)
theorem wF_nil (i : Nat) : wF [] i = 0 := by simp [wF]

section
variable {n m : Nat} {g : Nat → Int}
theorem ln_new (g : Nat → Int) : ln n 0 g = Se.new n := by
  simp only [ln, lnL, Se.new, if_true]
  congr 1
theorem ln_pos (h : 0 < m) : lnL m = [rg 0 m] := by rw [lnL, if_neg (by omega)]
theorem ln_mem {v : Nat} : v ∈ (lnL m).flatten ↔ v < m := by
  unfold lnL
  split
  · simp; omega
  · simp [rg_mem]
theorem gW_add : (fun v => if v = m then g m else gW m g v) = gW (m + 1) g := by
  funext v
  unfold gW
  by_cases e : v = m
  · subst e; simp
  · rw [if_neg e]; congr 1; rw [eq_iff_iff]; omega
theorem ln_add (h : m < n) (hg : fitB (g m) = true) : (ln n m g).addOk m (g m) = true ∧ (ln n m g).addA m (g m) = st n (lnL m ++ [[m]]) (gW (m + 1) g) := by
  have := st_add (n := n) (L := lnL m) (W := gW m g) (v := m) h (by rw [ln_mem]; omega) hg
  rw [gW_add] at this
  exact this
theorem ln_first : st n (lnL 0 ++ [[0]]) (gW (0 + 1) g) = ln n (0 + 1) g := rfl
theorem ln_join (h : 0 < m) : (st n (lnL m ++ [[m]]) (gW (m + 1) g)).joinB ((0 : Nat) : Int) m = true ∧ (st n (lnL m ++ [[m]]) (gW (m + 1) g)).joinA ((0 : Nat) : Int) m = ln n (m + 1) g := by
  rw [ln_pos h]
  have nd : ([rg 0 m] ++ [[m]]).flatten.Nodup := by
    have : ([rg 0 m] ++ [[m]]).flatten = rg 0 (m + 1) := by simp [← rg_app (s := 0) (a := m) (b := 1), rg_one]
    rw [this]; exact rg_nd
  have := st_join (n := n) (W := gW (m + 1) g) nd (l := rg 0 m) (m := [m]) (u := 0) (v := m) (by simp) (by simp) (by rw [rg_mem]; omega) (by simp) (by rw [rg_mem]; omega)
  refine ⟨this.1, this.2.trans ?_⟩
  have e1 : ([rg 0 m] ++ [[m]]).erase (rg 0 m) = [[m]] := by simp
  rw [e1]
  have e2 : ([[m]] : List (List Nat)).erase [m] = [] := by simp
  rw [e2]
  unfold ln
  rw [ln_pos (show 0 < m + 1 by omega), ← rg_app (s := 0) (a := m) (b := 1), rg_one]
  simp
end

section
variable {k c : Nat} {g : Nat → Int}
theorem two_nd (h : c ≤ k) : ([rg 0 c, rg c (k - c)] : List (List Nat)).flatten.Nodup := by
  have : ([rg 0 c, rg c (k - c)] : List (List Nat)).flatten = rg 0 k := by
    have := rg_app (s := 0) (a := c) (b := k - c)
    rw [Nat.zero_add, show c + (k - c) = k by omega] at this
    simpa using this
  rw [this]; exact rg_nd
theorem one_nd (k : Nat) : ([rg 0 k] : List (List Nat)).flatten.Nodup := by simpa using rg_nd (s := 0) (a := k)
theorem rg_differ (h0 : 0 < c) (h : c < k) : rg 0 c ≠ rg c (k - c) := fun e => by
  have : 0 ∈ rg c (k - c) := by rw [← e, rg_mem]; omega
  rw [rg_mem] at this; omega
/-- A sequence cut ahead of its item c. -/
theorem one_cut (h0 : 0 < c) (h : c < k) : (st k [rg 0 k] g).beforeB (c : Int) = true ∧ (st k [rg 0 k] g).beforeA (c : Int) = st k [rg 0 c, rg c (k - c)] g := by
  have e : (rg 0 k).idxOf c = c := by have := rg_idx (s := 0) (a := k) (v := c) (by omega) (by omega); simpa using this
  have := st_before (n := k) (W := g) (one_nd k) (l := rg 0 k) (v := c) (by simp) (by rw [rg_mem]; omega) (by omega)
  rw [e, rg_take (by omega), rg_drop (by omega)] at this
  simpa using this
theorem two_join (h0 : 0 < c) (h : c < k) : (st k [rg 0 c, rg c (k - c)] g).joinB 0 (c : Int) = true ∧ (st k [rg 0 c, rg c (k - c)] g).joinA 0 (c : Int) = st k [rg 0 k] g := by
  have := st_join (n := k) (W := g) (two_nd (c := c) (k := k) (by omega)) (l := rg 0 c) (m := rg c (k - c)) (u := 0) (v := c) (by simp) (by simp) (by rw [rg_mem]; omega) (by rw [rg_mem]; omega) (by rw [rg_mem]; omega)
  refine ⟨this.1, this.2.trans ?_⟩
  have e1 : ([rg 0 c, rg c (k - c)] : List (List Nat)).erase (rg 0 c) = [rg c (k - c)] := by simp
  rw [e1]
  have e2 : ([rg c (k - c)] : List (List Nat)).erase (rg c (k - c)) = [] := by simp
  rw [e2]
  have e3 := rg_app (s := 0) (a := c) (b := k - c)
  rw [Nat.zero_add, show c + (k - c) = k by omega] at e3
  rw [e3]; rfl
/-- Joined the other way round. -/
theorem two_turn (h0 : 0 < c) (h : c < k) : (st k [rg 0 c, rg c (k - c)] g).joinB (c : Int) 0 = true ∧ (st k [rg 0 c, rg c (k - c)] g).joinA (c : Int) 0 = st k [rg c (k - c) ++ rg 0 c] g := by
  have := st_join (n := k) (W := g) (two_nd (c := c) (k := k) (by omega)) (l := rg c (k - c)) (m := rg 0 c) (u := c) (v := 0) (by simp) (by simp) (by rw [rg_mem]; omega) (by rw [rg_mem]; omega) (by rw [rg_mem]; omega)
  refine ⟨this.1, this.2.trans ?_⟩
  have e1 : ([rg 0 c, rg c (k - c)] : List (List Nat)).erase (rg c (k - c)) = [rg 0 c] := by
    rw [List.erase_cons, if_neg (by simpa using rg_differ h0 h)]
    simp
  rw [e1]
  have e2 : ([rg 0 c] : List (List Nat)).erase (rg 0 c) = [] := by simp
  rw [e2]; rfl
theorem turn_nd (h : c ≤ k) : ([rg c (k - c) ++ rg 0 c] : List (List Nat)).flatten.Nodup := by
  have h1 := two_nd (c := c) (k := k) h
  have : ([rg 0 c, rg c (k - c)] : List (List Nat)).flatten.Perm ([rg c (k - c) ++ rg 0 c] : List (List Nat)).flatten := by
    simpa using List.perm_append_comm
  exact this.nodup h1
theorem turn_rank {i : Nat} (h0 : 0 < c) (h : c < k) (hi : i < k) : (st k [rg c (k - c) ++ rg 0 c] g).rankI (i : Int) = (((i + k - c) % k : Nat) : Int) := by
  rw [st_rank (turn_nd (by omega)) (l := rg c (k - c) ++ rg 0 c) (by simp) (by simp only [List.mem_append, rg_mem]; omega)]
  congr 1
  by_cases hc : i < c
  · rw [List.idxOf_append, if_neg (by rw [rg_mem]; omega), rg_idx (by omega) (by omega), rg_len, Nat.mod_eq_of_lt (by omega)]
    omega
  · rw [List.idxOf_append, if_pos (by rw [rg_mem]; omega), rg_idx (by omega) (by omega), show i + k - c = (i - c) + k by omega, Nat.add_mod_right, Nat.mod_eq_of_lt (by omega)]
theorem turn_cut (h0 : 0 < c) (h : c < k) : (st k [rg c (k - c) ++ rg 0 c] g).beforeB 0 = true ∧ (st k [rg c (k - c) ++ rg 0 c] g).beforeA 0 = st k [rg c (k - c), rg 0 c] g := by
  have e : (rg c (k - c) ++ rg 0 c).idxOf 0 = k - c := by
    rw [List.idxOf_append, if_neg (by rw [rg_mem]; omega), rg_idx (by omega) (by omega), rg_len]; omega
  have := st_before (n := k) (W := g) (turn_nd (c := c) (k := k) (by omega)) (l := rg c (k - c) ++ rg 0 c) (v := 0) (by simp) (by simp only [List.mem_append, rg_mem]; omega) (by omega)
  rw [e, List.take_left' rg_len, List.drop_left' rg_len] at this
  simpa using this
theorem back_join (h0 : 0 < c) (h : c < k) : (st k [rg c (k - c), rg 0 c] g).joinB 0 (c : Int) = true ∧ (st k [rg c (k - c), rg 0 c] g).joinA 0 (c : Int) = st k [rg 0 k] g := by
  have nd : ([rg c (k - c), rg 0 c] : List (List Nat)).flatten.Nodup := by
    have := turn_nd (c := c) (k := k) (by omega)
    simpa using this
  have := st_join (n := k) (W := g) nd (l := rg 0 c) (m := rg c (k - c)) (u := 0) (v := c) (by simp) (by simp) (by rw [rg_mem]; omega) (by rw [rg_mem]; omega) (by rw [rg_mem]; omega)
  refine ⟨this.1, this.2.trans ?_⟩
  have e1 : ([rg c (k - c), rg 0 c] : List (List Nat)).erase (rg 0 c) = [rg c (k - c)] := by
    rw [List.erase_cons, if_neg (by simpa using (rg_differ h0 h).symm)]
    simp
  rw [e1]
  have e2 : ([rg c (k - c)] : List (List Nat)).erase (rg c (k - c)) = [] := by simp
  rw [e2]
  have e3 := rg_app (s := 0) (a := c) (b := k - c)
  rw [Nat.zero_add, show c + (k - c) = k by omega] at e3
  rw [e3]; rfl
theorem one_rank {i : Nat} (hi : i < k) : (st k [rg 0 k] g).rankI (i : Int) = (i : Int) := by
  rw [st_rank (one_nd k) (l := rg 0 k) (by simp) (by rw [rg_mem]; omega), rg_idx (by omega) (by omega)]; simp
theorem one_at {i j : Nat} (hi : i < k) (hj : j < k) : (st k [rg 0 k] g).atI (i : Int) (j : Int) = (j : Int) := by
  rw [st_at (one_nd k) (l := rg 0 k) (by simp) (by rw [rg_mem]; omega) (by rw [rg_len]; exact hj), rg_get hj]; simp
theorem one_len {i : Nat} (hi : i < k) : (st k [rg 0 k] g).lenI (i : Int) = (k : Int) := by
  rw [st_len (one_nd k) (l := rg 0 k) (by simp) (by rw [rg_mem]; omega), rg_len]
theorem two_len {i : Nat} (h : c ≤ k) (hi : i < c) : (st k [rg 0 c, rg c (k - c)] g).lenI (i : Int) = (c : Int) := by
  rw [st_len (two_nd h) (l := rg 0 c) (by simp) (by rw [rg_mem]; omega), rg_len]
theorem two_len' {i : Nat} (h : c ≤ k) (hi : c ≤ i) (hk : i < k) : (st k [rg 0 c, rg c (k - c)] g).lenI (i : Int) = ((k - c : Nat) : Int) := by
  rw [st_len (two_nd h) (l := rg c (k - c)) (by simp) (by rw [rg_mem]; omega), rg_len]
theorem two_apart (h0 : 0 < c) (h : c ≤ k) : (st k [rg 0 c, rg c (k - c)] g).sameI 0 (c : Int) = false :=
  st_apart (u := 0) (v := c) (two_nd h) (l := rg 0 c) (by simp) (by rw [rg_mem]; omega) (by rw [rg_mem]; omega)
theorem two_rank {i : Nat} (h : c ≤ k) (hi : i < c) : (st k [rg 0 c, rg c (k - c)] g).rankI (i : Int) = (i : Int) := by
  rw [st_rank (two_nd h) (l := rg 0 c) (by simp) (by rw [rg_mem]; omega), rg_idx (by omega) (by omega)]; simp
theorem two_rank' {i : Nat} (h : c ≤ k) (hi : c ≤ i) (hk : i < k) : (st k [rg 0 c, rg c (k - c)] g).rankI (i : Int) = ((i - c : Nat) : Int) := by
  rw [st_rank (two_nd h) (l := rg c (k - c)) (by simp) (by rw [rg_mem]; omega), rg_idx (by omega) (by omega)]
theorem two_at {i : Nat} (h : c ≤ k) (hi : i < c) : (st k [rg 0 c, rg c (k - c)] g).atI (i : Int) (i : Int) = (i : Int) := by
  rw [st_at (two_nd h) (l := rg 0 c) (by simp) (by rw [rg_mem]; omega) (by rw [rg_len]; exact hi), rg_get hi]; simp
theorem two_at' {i : Nat} (h : c ≤ k) (hi : c ≤ i) (hk : i < k) : (st k [rg 0 c, rg c (k - c)] g).atI (i : Int) ((i - c : Nat) : Int) = (i : Int) := by
  rw [st_at (two_nd h) (l := rg c (k - c)) (by simp) (by rw [rg_mem]; omega) (by rw [rg_len]; omega), rg_get (by omega)]; congr 1; omega
end
end Go.Proofs.Ytbkneonbpcmepaa

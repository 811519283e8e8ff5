/- Pools whose sequences are known, in plain mathematics. -/
import Derived.Test.YtbkneonbpcmepaaJ5
import Derived.Deep.OwnRows
import Derived.Test.YtbkneonbpcmepaaAp
import Derived.Deep.DeepCutAuto
import Derived.Deep.RegionLaw
import Derived.Deep.DrawnRows
namespace Go.Proofs.Ytbkneonbpcmepaa
set_option linter.unusedVariables false
set_option linter.unusedSimpArgs false

/-- A pool whose sequences are these. -/
abbrev st (n : Nat) (L : List (List Nat)) (W : Nat → Int) : Se := ⟨n, L, W⟩

section
variable {n : Nat} {L : List (List Nat)} {W : Nat → Int} {l m : List Nat} {u v k : Nat}
theorem st_in (hl : l ∈ L) (hv : v ∈ l) : v ∈ L.flatten := List.mem_flatten.2 ⟨l, hl, hv⟩
theorem st_has (hl : l ∈ L) (hv : v ∈ l) : (st n L W).hasI v = true := by rw [Se.hasI_nat]; simpa using st_in hl hv
theorem st_seqI (nd : L.flatten.Nodup) (hl : l ∈ L) (hv : v ∈ l) : (st n L W).seqI v = l := by
  rw [Se.seqI_nat (A := st n L W) (st_in hl hv)]
  exact Se.seq_eq (A := st n L W) nd hl hv
theorem st_len (nd : L.flatten.Nodup) (hl : l ∈ L) (hv : v ∈ l) : (st n L W).lenI v = l.length := by rw [Se.lenI, st_seqI nd hl hv]
theorem st_rank (nd : L.flatten.Nodup) (hl : l ∈ L) (hv : v ∈ l) : (st n L W).rankI v = l.idxOf v := by
  rw [Se.rankI, if_pos (st_has hl hv), Int.toNat_natCast, Se.seq_eq (A := st n L W) nd hl hv]
theorem st_at (nd : L.flatten.Nodup) (hl : l ∈ L) (hv : v ∈ l) (hk : k < l.length) : (st n L W).atI v k = (l.getD k 0 : Nat) := by
  rw [Se.atI, st_len nd hl hv, st_seqI nd hl hv, if_pos (by omega), Int.toNat_natCast]
theorem st_at_no (nd : L.flatten.Nodup) (hl : l ∈ L) (hv : v ∈ l) : (st n L W).atI v (l.length : Nat) = -1 := by
  rw [Se.atI, st_len nd hl hv, if_neg (by omega)]
theorem st_same (nd : L.flatten.Nodup) (hl : l ∈ L) (hu : u ∈ l) (hv : v ∈ l) : (st n L W).sameI u v = true := by
  simp [Se.sameI, st_has hl hu, st_has hl hv, st_seqI nd hl hu, hv]
theorem st_apart (nd : L.flatten.Nodup) (hl : l ∈ L) (hu : u ∈ l) (hv : v ∉ l) : (st n L W).sameI u v = false := by
  simp [Se.sameI, st_seqI nd hl hu, hv]
theorem st_get (hl : l ∈ L) (hv : v ∈ l) : (st n L W).getI v = W v := by rw [Se.getI, if_pos (st_has hl hv), Int.toNat_natCast]
theorem st_all (nd : L.flatten.Nodup) (hl : l ∈ L) (hv : v ∈ l) : (st n L W).allI v = ofR (l.map W) := by rw [Se.allI, st_seqI nd hl hv]
theorem st_before (nd : L.flatten.Nodup) (hl : l ∈ L) (hv : v ∈ l) (hr : 0 < l.idxOf v) : (st n L W).beforeB v = true ∧ (st n L W).beforeA v = st n (L.erase l ++ [l.take (l.idxOf v), l.drop (l.idxOf v)]) W := by
  have h : (st n L W).beforeB v = true := by rw [Se.beforeB, st_rank nd hl hv]; simpa using hr
  refine ⟨h, ?_⟩
  rw [Se.beforeA, if_pos h, st_rank nd hl hv, st_seqI nd hl hv, Int.toNat_natCast]
theorem st_before_no (nd : L.flatten.Nodup) (hl : l ∈ L) (hv : v ∈ l) (hr : l.idxOf v = 0) : (st n L W).beforeB v = false ∧ (st n L W).beforeA v = st n L W := by
  have h : (st n L W).beforeB v = false := by rw [Se.beforeB, st_rank nd hl hv, hr]; simp
  refine ⟨h, ?_⟩
  rw [Se.beforeA, h]; rfl
theorem st_join (nd : L.flatten.Nodup) (hl : l ∈ L) (hm : m ∈ L) (hu : u ∈ l) (hv : v ∈ m) (hn : v ∉ l) : (st n L W).joinB u v = true ∧ (st n L W).joinA u v = st n ((L.erase l).erase m ++ [l ++ m]) W := by
  have h : (st n L W).joinB u v = true := by simp [Se.joinB, st_has hl hu, st_has hm hv, st_apart nd hl hu hn]
  refine ⟨h, ?_⟩
  rw [Se.joinA, if_pos h, st_seqI nd hl hu, st_seqI nd hm hv]
theorem st_add {x : Int} (hk : v < n) (hv : v ∉ L.flatten) (hx : fitB x = true) : (st n L W).addOk v x = true ∧ (st n L W).addA v x = st n (L ++ [[v]]) (fun u => if u = v then x else W u) := by
  have h : (st n L W).addOk v x = true := by
    have : (st n L W).hasI v = false := by rw [Se.hasI_nat]; simpa using hv
    simp only [Se.addOk, this, hx]
    simp
    exact hk
  refine ⟨h, ?_⟩
  rw [Se.addA, if_pos h, Int.toNat_natCast]
theorem st_set {x : Int} (hl : l ∈ L) (hv : v ∈ l) (hx : fitB x = true) : (st n L W).setB v x = true ∧ (st n L W).setA v x = st n L (fun u => if u = v then x else W u) := by
  have h : (st n L W).setB v x = true := by simp [Se.setB, st_has hl hv, hx]
  exact ⟨h, by rw [Se.setA, if_pos h, Int.toNat_natCast]⟩
theorem idx_get (nd : l.Nodup) {i : Nat} (hi : i < l.length) : l.idxOf (l.getD i 0) = i := by
  have e : l.getD i 0 = l[i] := by rw [List.getD_eq_getElem?_getD, List.getElem?_eq_getElem hi]; rfl
  rw [e]
  exact nd.idxOf_getElem i hi
theorem get_idx (hv : v ∈ l) : l.getD (l.idxOf v) 0 = v := by
  have hi : l.idxOf v < l.length := List.idxOf_lt_length_of_mem hv
  rw [List.getD_eq_getElem?_getD, List.getElem?_eq_getElem hi]
  exact List.getElem_idxOf hi
theorem get_mem {i : Nat} (hi : i < l.length) : l.getD i 0 ∈ l := by
  rw [List.getD_eq_getElem?_getD, List.getElem?_eq_getElem hi]
  exact List.getElem_mem hi
end

section
variable {s a b i v : Nat}
/-- Numbers one behind the other. -/
abbrev rg (s a : Nat) : List Nat := List.range' s a
theorem rg_mem : v ∈ rg s a ↔ s ≤ v ∧ v < s + a := List.mem_range'_1
theorem rg_nd : (rg s a).Nodup := List.nodup_range'
theorem rg_len : (rg s a).length = a := List.length_range'
theorem rg_get (h : i < a) : (rg s a).getD i 0 = s + i := by
  rw [List.getD_eq_getElem?_getD, List.getElem?_eq_getElem (by rw [rg_len]; exact h)]
  simp
theorem rg_idx (h1 : s ≤ v) (h2 : v < s + a) : (rg s a).idxOf v = v - s := by
  have := idx_get (rg_nd (s := s) (a := a)) (i := v - s) (by rw [rg_len]; omega)
  rwa [rg_get (by omega), show s + (v - s) = v by omega] at this
theorem rg_app : rg s a ++ rg (s + a) b = rg s (a + b) := by simp [rg, List.range'_append_1]
theorem rg_take (h : i ≤ a) : (rg s a).take i = rg s i := by
  rw [show a = i + (a - i) by omega, ← rg_app, List.take_left' rg_len]
theorem rg_drop (h : i ≤ a) : (rg s a).drop i = rg (s + i) (a - i) := by
  rw [show a = i + (a - i) by omega, ← rg_app, List.drop_left' rg_len, show i + (a - i) - i = a - i by omega]
theorem rg_one : rg s 1 = [s] := rfl
theorem rg_ne (h : 0 < a) : rg s a ≠ [] := by intro e; have := congrArg List.length e; rw [rg_len] at this; simp at this; omega
end

/-- The first m of n items stand in one sequence; g: their weights. -/
def lnL (m : Nat) : List (List Nat) := if m = 0 then [] else [rg 0 m]
def gW (m : Nat) (g : Nat → Int) : Nat → Int := fun v => if v < m then g v else 0
abbrev ln (n m : Nat) (g : Nat → Int) : Se := st n (lnL m) (gW m g)
def Fits16 (g : Nat → Int) : Prop := ∀ i, -32768 ≤ g i ∧ g i ≤ 32767
def wF (ws : List Int) : Nat → Int := fun i => ws.getD i 0
theorem wF_fit {ws : List Int} (h : ∀ z ∈ ws, -32768 ≤ z ∧ z ≤ 32767) : Fits16 (wF ws) := fun i => by
  unfold wF
  rw [List.getD_eq_getElem?_getD]
  cases e : ws[i]? with
  | none => simp
  | some z => exact h z (List.mem_of_getElem? e)
theorem wF_nil (i : Nat) : wF [] i = 0 := by simp [wF]

section
variable {n m : Nat} {g : Nat → Int}
theorem ln_new (g : Nat → Int) : ln n 0 g = Se.new n := by
  simp only [ln, lnL, Se.new, if_true]
  congr 1
theorem ln_pos (h : 0 < m) : lnL m = [rg 0 m] := by rw [lnL, if_neg (by omega)]
theorem ln_mem {v : Nat} : v ∈ (lnL m).flatten ↔ v < m := by
  unfold lnL
  split
  · simp; omega
  · simp [rg_mem]
theorem gW_add : (fun v => if v = m then g m else gW m g v) = gW (m + 1) g := by
  funext v
  unfold gW
  by_cases e : v = m
  · subst e; simp
  · rw [if_neg e]; congr 1; rw [eq_iff_iff]; omega
theorem ln_add (h : m < n) (hg : fitB (g m) = true) : (ln n m g).addOk m (g m) = true ∧ (ln n m g).addA m (g m) = st n (lnL m ++ [[m]]) (gW (m + 1) g) := by
  have := st_add (n := n) (L := lnL m) (W := gW m g) (v := m) h (by rw [ln_mem]; omega) hg
  rw [gW_add] at this
  exact this
theorem ln_first : st n (lnL 0 ++ [[0]]) (gW (0 + 1) g) = ln n (0 + 1) g := rfl
theorem ln_join (h : 0 < m) : (st n (lnL m ++ [[m]]) (gW (m + 1) g)).joinB ((0 : Nat) : Int) m = true ∧ (st n (lnL m ++ [[m]]) (gW (m + 1) g)).joinA ((0 : Nat) : Int) m = ln n (m + 1) g := by
  rw [ln_pos h]
  have nd : ([rg 0 m] ++ [[m]]).flatten.Nodup := by
    have : ([rg 0 m] ++ [[m]]).flatten = rg 0 (m + 1) := by simp [← rg_app (s := 0) (a := m) (b := 1), rg_one]
    rw [this]; exact rg_nd
  have := st_join (n := n) (W := gW (m + 1) g) nd (l := rg 0 m) (m := [m]) (u := 0) (v := m) (by simp) (by simp) (by rw [rg_mem]; omega) (by simp) (by rw [rg_mem]; omega)
  refine ⟨this.1, this.2.trans ?_⟩
  have e1 : ([rg 0 m] ++ [[m]]).erase (rg 0 m) = [[m]] := by simp
  rw [e1]
  have e2 : ([[m]] : List (List Nat)).erase [m] = [] := by simp
  rw [e2]
  unfold ln
  rw [ln_pos (show 0 < m + 1 by omega), ← rg_app (s := 0) (a := m) (b := 1), rg_one]
  simp
end

section
variable {k c : Nat} {g : Nat → Int}
theorem two_nd (h : c ≤ k) : ([rg 0 c, rg c (k - c)] : List (List Nat)).flatten.Nodup := by
  have : ([rg 0 c, rg c (k - c)] : List (List Nat)).flatten = rg 0 k := by
    have := rg_app (s := 0) (a := c) (b := k - c)
    rw [Nat.zero_add, show c + (k - c) = k by omega] at this
    simpa using this
  rw [this]; exact rg_nd
theorem one_nd (k : Nat) : ([rg 0 k] : List (List Nat)).flatten.Nodup := by simpa using rg_nd (s := 0) (a := k)
theorem rg_differ (h0 : 0 < c) (h : c < k) : rg 0 c ≠ rg c (k - c) := fun e => by
  have : 0 ∈ rg c (k - c) := by rw [← e, rg_mem]; omega
  rw [rg_mem] at this; omega
/-- A sequence cut ahead of its item c. -/
theorem one_cut (h0 : 0 < c) (h : c < k) : (st k [rg 0 k] g).beforeB (c : Int) = true ∧ (st k [rg 0 k] g).beforeA (c : Int) = st k [rg 0 c, rg c (k - c)] g := by
  have e : (rg 0 k).idxOf c = c := by have := rg_idx (s := 0) (a := k) (v := c) (by omega) (by omega); simpa using this
  have := st_before (n := k) (W := g) (one_nd k) (l := rg 0 k) (v := c) (by simp) (by rw [rg_mem]; omega) (by omega)
  rw [e, rg_take (by omega), rg_drop (by omega)] at this
  simpa using this
theorem two_join (h0 : 0 < c) (h : c < k) : (st k [rg 0 c, rg c (k - c)] g).joinB 0 (c : Int) = true ∧ (st k [rg 0 c, rg c (k - c)] g).joinA 0 (c : Int) = st k [rg 0 k] g := by
  have := st_join (n := k) (W := g) (two_nd (c := c) (k := k) (by omega)) (l := rg 0 c) (m := rg c (k - c)) (u := 0) (v := c) (by simp) (by simp) (by rw [rg_mem]; omega) (by rw [rg_mem]; omega) (by rw [rg_mem]; omega)
  refine ⟨this.1, this.2.trans ?_⟩
  have e1 : ([rg 0 c, rg c (k - c)] : List (List Nat)).erase (rg 0 c) = [rg c (k - c)] := by simp
  rw [e1]
  have e2 : ([rg c (k - c)] : List (List Nat)).erase (rg c (k - c)) = [] := by simp
  rw [e2]
  have e3 := rg_app (s := 0) (a := c) (b := k - c)
  rw [Nat.zero_add, show c + (k - c) = k by omega] at e3
  rw [e3]; rfl
/-- Joined the other way round. -/
theorem two_turn (h0 : 0 < c) (h : c < k) : (st k [rg 0 c, rg c (k - c)] g).joinB (c : Int) 0 = true ∧ (st k [rg 0 c, rg c (k - c)] g).joinA (c : Int) 0 = st k [rg c (k - c) ++ rg 0 c] g := by
  have := st_join (n := k) (W := g) (two_nd (c := c) (k := k) (by omega)) (l := rg c (k - c)) (m := rg 0 c) (u := c) (v := 0) (by simp) (by simp) (by rw [rg_mem]; omega) (by rw [rg_mem]; omega) (by rw [rg_mem]; omega)
  refine ⟨this.1, this.2.trans ?_⟩
  have e1 : ([rg 0 c, rg c (k - c)] : List (List Nat)).erase (rg c (k - c)) = [rg 0 c] := by
    rw [List.erase_cons, if_neg (by simpa using rg_differ h0 h)]
    simp
  rw [e1]
  have e2 : ([rg 0 c] : List (List Nat)).erase (rg 0 c) = [] := by simp
  rw [e2]; rfl
theorem turn_nd (h : c ≤ k) : ([rg c (k - c) ++ rg 0 c] : List (List Nat)).flatten.Nodup := by
  have h1 := two_nd (c := c) (k := k) h
  have : ([rg 0 c, rg c (k - c)] : List (List Nat)).flatten.Perm ([rg c (k - c) ++ rg 0 c] : List (List Nat)).flatten := by
    simpa using List.perm_append_comm
  exact this.nodup h1
theorem turn_rank {i : Nat} (h0 : 0 < c) (h : c < k) (hi : i < k) : (st k [rg c (k - c) ++ rg 0 c] g).rankI (i : Int) = (((i + k - c) % k : Nat) : Int) := by
  rw [st_rank (turn_nd (by omega)) (l := rg c (k - c) ++ rg 0 c) (by simp) (by simp only [List.mem_append, rg_mem]; omega)]
  congr 1
  by_cases hc : i < c
  · rw [List.idxOf_append, if_neg (by rw [rg_mem]; omega), rg_idx (by omega) (by omega), rg_len, Nat.mod_eq_of_lt (by omega)]
    omega
  · rw [List.idxOf_append, if_pos (by rw [rg_mem]; omega), rg_idx (by omega) (by omega), show i + k - c = (i - c) + k by omega, Nat.add_mod_right, Nat.mod_eq_of_lt (by omega)]
theorem turn_cut (h0 : 0 < c) (h : c < k) : (st k [rg c (k - c) ++ rg 0 c] g).beforeB 0 = true ∧ (st k [rg c (k - c) ++ rg 0 c] g).beforeA 0 = st k [rg c (k - c), rg 0 c] g := by
  have e : (rg c (k - c) ++ rg 0 c).idxOf 0 = k - c := by
    rw [List.idxOf_append, if_neg (by rw [rg_mem]; omega), rg_idx (by omega) (by omega), rg_len]; omega
  have := st_before (n := k) (W := g) (turn_nd (c := c) (k := k) (by omega)) (l := rg c (k - c) ++ rg 0 c) (v := 0) (by simp) (by simp only [List.mem_append, rg_mem]; omega) (by omega)
  rw [e, List.take_left' rg_len, List.drop_left' rg_len] at this
  simpa using this
theorem back_join (h0 : 0 < c) (h : c < k) : (st k [rg c (k - c), rg 0 c] g).joinB 0 (c : Int) = true ∧ (st k [rg c (k - c), rg 0 c] g).joinA 0 (c : Int) = st k [rg 0 k] g := by
  have nd : ([rg c (k - c), rg 0 c] : List (List Nat)).flatten.Nodup := by
    have := turn_nd (c := c) (k := k) (by omega)
    simpa using this
  have := st_join (n := k) (W := g) nd (l := rg 0 c) (m := rg c (k - c)) (u := 0) (v := c) (by simp) (by simp) (by rw [rg_mem]; omega) (by rw [rg_mem]; omega) (by rw [rg_mem]; omega)
  refine ⟨this.1, this.2.trans ?_⟩
  have e1 : ([rg c (k - c), rg 0 c] : List (List Nat)).erase (rg 0 c) = [rg c (k - c)] := by
    rw [List.erase_cons, if_neg (by simpa using (rg_differ h0 h).symm)]
    simp
  rw [e1]
  have e2 : ([rg c (k - c)] : List (List Nat)).erase (rg c (k - c)) = [] := by simp
  rw [e2]
  have e3 := rg_app (s := 0) (a := c) (b := k - c)
  rw [Nat.zero_add, show c + (k - c) = k by omega] at e3
  rw [e3]; rfl
theorem one_rank {i : Nat} (hi : i < k) : (st k [rg 0 k] g).rankI (i : Int) = (i : Int) := by
  rw [st_rank (one_nd k) (l := rg 0 k) (by simp) (by rw [rg_mem]; omega), rg_idx (by omega) (by omega)]; simp
theorem one_at {i j : Nat} (hi : i < k) (hj : j < k) : (st k [rg 0 k] g).atI (i : Int) (j : Int) = (j : Int) := by
  rw [st_at (one_nd k) (l := rg 0 k) (by simp) (by rw [rg_mem]; omega) (by rw [rg_len]; exact hj), rg_get hj]; simp
theorem one_len {i : Nat} (hi : i < k) : (st k [rg 0 k] g).lenI (i : Int) = (k : Int) := by
  rw [st_len (one_nd k) (l := rg 0 k) (by simp) (by rw [rg_mem]; omega), rg_len]
theorem two_len {i : Nat} (h : c ≤ k) (hi : i < c) : (st k [rg 0 c, rg c (k - c)] g).lenI (i : Int) = (c : Int) := by
  rw [st_len (two_nd h) (l := rg 0 c) (by simp) (by rw [rg_mem]; omega), rg_len]
theorem two_len' {i : Nat} (h : c ≤ k) (hi : c ≤ i) (hk : i < k) : (st k [rg 0 c, rg c (k - c)] g).lenI (i : Int) = ((k - c : Nat) : Int) := by
  rw [st_len (two_nd h) (l := rg c (k - c)) (by simp) (by rw [rg_mem]; omega), rg_len]
theorem two_apart (h0 : 0 < c) (h : c ≤ k) : (st k [rg 0 c, rg c (k - c)] g).sameI 0 (c : Int) = false :=
  st_apart (u := 0) (v := c) (two_nd h) (l := rg 0 c) (by simp) (by rw [rg_mem]; omega) (by rw [rg_mem]; omega)
theorem two_rank {i : Nat} (h : c ≤ k) (hi : i < c) : (st k [rg 0 c, rg c (k - c)] g).rankI (i : Int) = (i : Int) := by
  rw [st_rank (two_nd h) (l := rg 0 c) (by simp) (by rw [rg_mem]; omega), rg_idx (by omega) (by omega)]; simp
theorem two_rank' {i : Nat} (h : c ≤ k) (hi : c ≤ i) (hk : i < k) : (st k [rg 0 c, rg c (k - c)] g).rankI (i : Int) = ((i - c : Nat) : Int) := by
  rw [st_rank (two_nd h) (l := rg c (k - c)) (by simp) (by rw [rg_mem]; omega), rg_idx (by omega) (by omega)]
theorem two_at {i : Nat} (h : c ≤ k) (hi : i < c) : (st k [rg 0 c, rg c (k - c)] g).atI (i : Int) (i : Int) = (i : Int) := by
  rw [st_at (two_nd h) (l := rg 0 c) (by simp) (by rw [rg_mem]; omega) (by rw [rg_len]; exact hi), rg_get hi]; simp
theorem two_at' {i : Nat} (h : c ≤ k) (hi : c ≤ i) (hk : i < k) : (st k [rg 0 c, rg c (k - c)] g).atI (i : Int) ((i - c : Nat) : Int) = (i : Int) := by
  rw [st_at (two_nd h) (l := rg c (k - c)) (by simp) (by rw [rg_mem]; omega) (by rw [rg_len]; omega), rg_get (by omega)]; congr 1; omega
end
end Go.Proofs.Ytbkneonbpcmepaa
/- The document's pool in memory: a row of rows, and a row of weights. -/

namespace Go.Proofs.Ytbkneonbpcmepaa
open Go.RowKit Go.Arb
set_option linter.unusedVariables false
set_option linter.unusedSimpArgs false

def inV (f : Nat → Int) : Nat → Value := fun x => .int .i64 (f x)
theorem inV_set (P : Nat → Int) (i : Nat) (k : Int) : (fun j => if j = i then Value.int .i64 k else inV P j) = inV (fun j => if j = i then k else P j) := by
  funext j
  by_cases e : j = i
  · simp [e, inV]
  · simp [e, inV]
/-- A row of items that is never written again. -/
def Hd (w : World) (u : Value) (l : List Nat) : Prop := ∃ b cap, u = .slice (some ⟨b, 0, none⟩) l.length cap ∧ l.length ≤ cap ∧ cap ≤ maxLen ∧ b < w.heap.size ∧ ∀ j, j < l.length → w.cell? ⟨b, j, none⟩ = some (.int .i64 ((l.getD j 0 : Nat) : Int))
/-- The object, the row of its sequences, the row of its weights. -/
structure RIn (w : World) (q : Nat) (vL : Value) (bw n : Nat) (hs : List Value) (L : List (List Nat)) (fw : Nat → Int) : Prop where
  blk : w.heap[q]? = some (.cells #[.int .i64 (n : Int), vL, .slice (some ⟨bw, 0, none⟩) n n] 64)
  rl : w.ownsRow 0 61 1 vL L.length hs
  rw : w.rowIs bw 3 n (inV fw)
  hd : ∀ i, i < L.length → Hd w (hs.getD i undef) (L.getD i [])
  n1 : q ≠ bw
  n2 : q ∉ own vL
  n3 : bw ∉ own vL
  n4 : ∀ u ∈ hs, ∀ b ∈ own u, b ≠ q ∧ b ≠ bw ∧ b ∉ own vL

section
variable {w w' : World} {u : Value} {l : List Nat} {ks : List Nat} {q bw n : Nat} {vL : Value} {hs : List Value} {L : List (List Nat)} {fw : Nat → Int}
theorem Hd.keep (h : Hd w u l) (hk : Keep ks w w') (ho : Off (own u) ks) : Hd w' u l := by
  obtain ⟨b, cap, rfl, h1, h2, h3, h4⟩ := h
  refine ⟨b, cap, rfl, h1, h2, Nat.lt_of_lt_of_le h3 hk.size, fun j hj => ?_⟩
  rw [hk.cell (p := ⟨b, j, none⟩) h3 (ho b (by simp [own, Value.ownBlock]))]
  exact h4 j hj
theorem Hd.lt (h : Hd w u l) : ∀ k ∈ own u, k < w.heap.size := by
  obtain ⟨b, cap, rfl, h1, h2, h3, h4⟩ := h
  intro k hk
  simp [own, Value.ownBlock] at hk
  omega
theorem RIn.hl (h : RIn w q vL bw n hs L fw) : hs.length = L.length := by have := h.rl.1; omega
/-- The blocks of it. -/
def rfp (q bw : Nat) (vL : Value) (hs : List Value) : List Nat := q :: bw :: (own vL ++ hs.flatMap own)
theorem RIn.hdm (h : RIn w q vL bw n hs L fw) {u : Value} (hu : u ∈ hs) : ∃ l, Hd w u l := by
  obtain ⟨i, hi, rfl⟩ := List.mem_iff_getElem.1 hu
  have := h.hd i (by rw [← h.hl]; exact hi)
  rw [List.getD_eq_getElem?_getD, List.getElem?_eq_getElem hi] at this
  exact ⟨_, this⟩
theorem RIn.lt (h : RIn w q vL bw n hs L fw) : ∀ k ∈ rfp q bw vL hs, k < w.heap.size := fun k hk => by
  simp only [rfp, List.mem_cons, List.mem_append, List.mem_flatMap] at hk
  rcases hk with rfl | rfl | hk | ⟨u, hu, hk⟩
  · exact (Array.getElem?_eq_some_iff.1 h.blk).1
  · exact h.rw.lt
  · exact row_lt h.rl k hk
  · obtain ⟨l, hl⟩ := h.hdm hu
    exact hl.lt k hk
theorem RIn.keep (h : RIn w q vL bw n hs L fw) (hk : Keep ks w w') (ho : Off (rfp q bw vL hs) ks) : RIn w' q vL bw n hs L fw := by
  have hq := ho q (by simp [rfp])
  have hb := ho bw (by simp [rfp])
  refine ⟨?_, row_keep h.rl hk (fun k hk' => ho k (by simp [rfp, hk'])), h.rw.of_block (hk.block _ h.rw.lt hb), fun i hi => ?_, h.n1, h.n2, h.n3, h.n4⟩
  · rw [hk.block q (Array.getElem?_eq_some_iff.1 h.blk).1 hq]; exact h.blk
  · refine (h.hd i hi).keep hk (fun k hk' => ho k ?_)
    have hi' : i < hs.length := by rw [h.hl]; exact hi
    rw [List.getD_eq_getElem?_getD, List.getElem?_eq_getElem hi'] at hk'
    simp only [rfp, List.mem_cons, List.mem_append, List.mem_flatMap]
    exact .inr (.inr (.inr ⟨_, List.getElem_mem hi', hk'⟩))
theorem RIn.below (h : RIn w q vL bw n hs L fw) (hb : Below w.heap.size w w') : RIn w' q vL bw n hs L fw := h.keep (Keep.ofBelow hb []) (fun _ _ => by simp)
theorem RIn.cells (h : RIn w q vL bw n hs L fw) : w.cell? ⟨q, 0, none⟩ = some (.int .i64 (n : Int)) ∧ w.cell? ⟨q, 1, none⟩ = some vL ∧ w.cell? ⟨q, 2, none⟩ = some (.slice (some ⟨bw, 0, none⟩) n n) ∧ w.frozen? ⟨q, 1, none⟩ = false := by
  simp [World.cell?, World.frozen?, h.blk]
/-- What the row of sequences reads. -/
theorem RIn.outer (h : RIn w q vL bw n hs L fw) : ∃ x cap, vL = .slice x L.length cap ∧ L.length ≤ cap ∧ cap ≤ maxLen ∧ (0 < L.length → ∃ g, x = some ⟨g, 0, none⟩ ∧ g < w.heap.size ∧ ∀ i, i < L.length → w.cell? ⟨g, i, none⟩ = some (hs.getD i undef)) := by
  obtain ⟨x, cap, hv, h1, h2, h3⟩ := row_form h.rl
  refine ⟨x, cap, hv, h1, h2, fun h0 => ?_⟩
  obtain ⟨g, rfl, h4, _, h5⟩ := h3 h0
  refine ⟨g, rfl, h4, fun i hi => ?_⟩
  rw [(h5 i (by omega)).1, List.getD_eq_getElem?_getD, List.getElem?_eq_getElem (by rw [h.hl]; exact hi)]
  rfl
end

/-- Where an item stands: its sequence, its place in it. -/
inductive Pos (L : List (List Nat)) (x : Int) : Int → Int → Prop where
  | yes (i k : Nat) (hi : i < L.length) (hk : k < (L.getD i []).length) (he : (((L.getD i []).getD k 0 : Nat) : Int) = x) (h1 : ∀ j, j < i → ∀ v ∈ L.getD j [], (v : Int) ≠ x) (h2 : ∀ j, j < k → (((L.getD i []).getD j 0 : Nat) : Int) ≠ x) : Pos L x i k
  | no (h : ∀ l ∈ L, ∀ v ∈ l, (v : Int) ≠ x) : Pos L x (-1) (-1)

set_option maxRecDepth 100000 in
set_option maxHeartbeats 4000000 in
theorem rat_any (x : Int) (w : World) (q bw n : Nat) (vL : Value) (hs : List Value) (L : List (List Nat)) (fw : Nat → Int) (h : RIn w q vL bw n hs L fw) (hL : L.length ≤ 4194304) (hl : ∀ l ∈ L, l.length ≤ 4194304) :
    Calls Try.prog 48 #[.pointer (some ⟨q, 0, none⟩), .int .i64 x] w fun e w' => (∃ i k, Pos L x i k ∧ e = .returned (.tuple #[.int .i64 i, .int .i64 k])) ∧ w = w' := by
  obtain ⟨c0, c1, c2, _⟩ := h.cells
  obtain ⟨xo, cap, rfl, k1, k2, k3⟩ := h.outer
  have HO := hide k3
  have HD := hide h.hd
  have HLL := hide hl
  unfold maxLen at k2
  clear k3 h hl c0 c2
  obtain ⟨N, hN⟩ : ∃ N, L.length = N := ⟨_, rfl⟩
  rw [hN] at c1 k1 hL
  have HN := hide hN
  clear hN
  go_enter Try.func48, Try.ntmps48
  go_wp2
  go_loopw [6] (fun iv w' => ∃ i : Nat, i ≤ N ∧ iv = .int .i64 (i : Int) ∧ w' = w ∧ Hid (∀ j, j < i → ∀ v ∈ L.getD j [], (v : Int) ≠ x)) (fun iv _ => N - (intOf iv).toNat)
  case atStart => exact ⟨0, by omega, rfl, rfl, fun j hj => by omega⟩
  case round =>
    obtain ⟨i, hi, rfl, rfl, HA⟩ := hrel
    by_cases hlt : i < N
    · have e1 : (i : Int) < (N : Int) := by omega
      have e0 : (0 : Int) ≤ (i : Int) := by omega
      obtain ⟨g, rfl, hg, hc⟩ := unhide HO (by rw [unhide HN]; omega)
      have d1 := hc i (by rw [unhide HN]; exact hlt)
      obtain ⟨b, cap', hu, m1, m2, m3, m4⟩ := unhide HD i (by rw [unhide HN]; exact hlt)
      rw [hu] at d1
      have HM := hide m4
      have hll := unhide HLL (L.getD i []) (by
        have : i < L.length := by rw [unhide HN]; exact hlt
        rw [List.getD_eq_getElem?_getD, List.getElem?_eq_getElem this]; exact List.getElem_mem this)
      unfold maxLen at m2
      clear hu m4 hc
      obtain ⟨M, hM⟩ : ∃ M, (L.getD i []).length = M := ⟨_, rfl⟩
      rw [hM] at d1 m1 hll
      have HMM := hide hM
      clear hM
      go_wp2
      go_loopw [7] (fun kv w' => ∃ k : Nat, k ≤ M ∧ kv = .int .i64 (k : Int) ∧ w' = wr ∧ Hid (∀ j, j < k → (((L.getD i []).getD j 0 : Nat) : Int) ≠ x)) (fun kv _ => M - (intOf kv).toNat)
      case atStart => exact ⟨0, by omega, rfl, rfl, fun j hj => by omega⟩
      case round =>
        obtain ⟨k, hk, rfl, rfl, HB⟩ := hrel
        by_cases hkl : k < M
        · have e2 : (k : Int) < (M : Int) := by omega
          have e3 : (0 : Int) ≤ (k : Int) := by omega
          have d2 := unhide HM k (by rw [unhide HMM]; exact hkl)
          obtain ⟨y, hy⟩ : ∃ y, (L.getD i []).getD k 0 = y := ⟨_, rfl⟩
          rw [hy] at d2
          have HYY := hide hy
          clear hy
          by_cases hxy : (y : Int) = x
          · have hq : ((y : Int) == x) = true := by rw [beq_iff_eq]; exact hxy
            go_wp2
            exact bodyPost_ret (v := .tuple #[.int .i64 (i : Int), .int .i64 (k : Int)]) (by simp [results, Try.results48, go_sem]) rfl ⟨⟨_, _, Pos.yes i k (by rw [unhide HN]; exact hlt) (by rw [unhide HMM]; exact hkl) (by rw [unhide HYY]; exact hxy) (unhide HA) (unhide HB), rfl⟩, rfl⟩
          · have hq : ((y : Int) == x) = false := by rw [beq_eq_false_iff_ne]; exact hxy
            go_wp2
            go_roundw
            case rel =>
              refine ⟨k + 1, by omega, by go_num, by trivial, fun j hj => ?_⟩
              by_cases e : j = k
              · subst e; rw [unhide HYY]; exact hxy
              · exact unhide HB j (by omega)
            case measure => simp [intOf]; omega
        · obtain rfl : k = M := by omega
          have e2 : ¬ (k : Int) < (k : Int) := by omega
          go_wp2
          go_roundw
          case rel =>
            refine ⟨i + 1, by omega, by go_num, by trivial, fun j hj v hv => ?_⟩
            by_cases e : j = i
            · subst e
              obtain ⟨t, ht, rfl⟩ := List.mem_iff_getElem.1 hv
              have := unhide HB t (by rw [← unhide HMM]; exact ht)
              rw [List.getD_eq_getElem?_getD, List.getElem?_eq_getElem ht] at this
              exact this
            · exact unhide HA j (by omega) v hv
          case measure => simp [intOf]; omega
    · obtain rfl : i = N := by omega
      have e1 : ¬ (i : Int) < (i : Int) := by omega
      go_wp2
      refine bodyPost_ret (v := .tuple #[.int .i64 (-1), .int .i64 (-1)]) (by simp [results, Try.results48, go_sem]) rfl ⟨⟨_, _, Pos.no (fun l hl v hv => ?_), rfl⟩, rfl⟩
      obtain ⟨t, ht, rfl⟩ := List.mem_iff_getElem.1 hl
      have := unhide HA t (by rw [← unhide HN]; exact ht) v
      rw [List.getD_eq_getElem?_getD, List.getElem?_eq_getElem ht] at this
      exact this hv
end Go.Proofs.Ytbkneonbpcmepaa
/- The document's pool: what it tells. -/

namespace Go.Proofs.Ytbkneonbpcmepaa
open Go.RowKit Go.Arb
set_option linter.unusedVariables false
set_option linter.unusedSimpArgs false

/-- The document's pool, and the plain one that it holds. -/
structure RA (w : World) (q : Nat) (vL : Value) (bw : Nat) (hs : List Value) (fw : Nat → Int) (A : Se) : Prop where
  rin : RIn w q vL bw A.n hs A.L fw
  wt : ∀ v ∈ A.L.flatten, fw v = A.W v
  nd : A.L.flatten.Nodup
  ne : ∀ l ∈ A.L, l ≠ []
  lt : ∀ v ∈ A.L.flatten, v < A.n
  fit : ∀ v ∈ A.L.flatten, -1099511627776 ≤ A.W v ∧ A.W v ≤ 1099511627776
  nn : A.n ≤ 4194304

theorem flat_lenR : ∀ (L : List (List Nat)), (∀ l ∈ L, l ≠ []) → L.length ≤ L.flatten.length
  | [], _ => by simp
  | l :: L, h => by
    have h1 := flat_lenR L (fun m hm => h m (by simp [hm]))
    have h2 := List.length_pos_iff.2 (h l (by simp))
    simp only [List.flatten_cons, List.length_append, List.length_cons]
    omega
section
variable {w w' : World} {q bw : Nat} {vL : Value} {hs : List Value} {fw : Nat → Int} {A : Se} {x : Int} {i k : Int}
theorem RA.len (h : RA w q vL bw hs fw A) : A.L.length ≤ 4194304 := by
  have h1 := flat_lenR A.L h.ne
  have h2 := length_le h.nd h.lt
  have := h.nn
  omega
theorem RA.lenl (h : RA w q vL bw hs fw A) : ∀ l ∈ A.L, l.length ≤ 4194304 := fun l hl => by
  have h2 := length_le (nodup_flatten h.nd hl) (fun v hv => h.lt v (List.mem_flatten.2 ⟨l, hl, hv⟩))
  have := h.nn
  omega
theorem RA.below (h : RA w q vL bw hs fw A) (hb : Below w.heap.size w w') : RA w' q vL bw hs fw A := ⟨h.rin.below hb, h.wt, h.nd, h.ne, h.lt, h.fit, h.nn⟩
theorem getD_mem {L : List (List Nat)} {i : Nat} (h : i < L.length) : L.getD i [] ∈ L := by
  rw [List.getD_eq_getElem?_getD, List.getElem?_eq_getElem h]; exact List.getElem_mem h
/-- What standing somewhere says of the plain pool. -/
theorem pos_facts (nd : A.L.flatten.Nodup) (h : Pos A.L x i k) :
    (A.hasI x = true ∧ ∃ (v ii kk : Nat), x = (v : Int) ∧ i = (ii : Int) ∧ k = (kk : Int) ∧ ii < A.L.length ∧ A.L.getD ii [] = A.seqI x ∧ kk < (A.seqI x).length ∧ A.rankI x = (kk : Int) ∧ (A.seqI x).getD kk 0 = v ∧ v ∈ A.L.flatten) ∨ (A.hasI x = false ∧ i = -1 ∧ k = -1) := by
  cases h with
  | yes ii kk hi hk he h1 h2 =>
    left
    obtain ⟨v, hv⟩ : ∃ v, (A.L.getD ii []).getD kk 0 = v := ⟨_, rfl⟩
    rw [hv] at he
    subst he
    have hl := getD_mem hi
    have hm : v ∈ A.L.getD ii [] := by rw [← hv]; exact get_mem hk
    have hs : A.seqI (v : Int) = A.L.getD ii [] := st_seqI (n := A.n) (W := A.W) nd hl hm
    have hr : A.rankI (v : Int) = ((A.L.getD ii []).idxOf v : Nat) := st_rank (n := A.n) (W := A.W) nd hl hm
    have hix : (A.L.getD ii []).idxOf v = kk := by rw [← hv]; exact idx_get (nodup_flatten nd hl) hk
    refine ⟨st_has (n := A.n) (W := A.W) hl hm, v, ii, kk, rfl, rfl, rfl, hi, hs.symm, by rw [hs]; exact hk, by rw [hr, hix], by rw [hs]; exact hv, List.mem_flatten.2 ⟨_, hl, hm⟩⟩
  | no h =>
    right
    refine ⟨?_, rfl, rfl⟩
    rw [Se.hasI]
    by_cases h0 : 0 ≤ x
    · have : x.toNat ∉ A.L.flatten := fun hm => by
        obtain ⟨l, hl, hv⟩ := List.mem_flatten.1 hm
        exact h l hl _ hv (by omega)
      simp [this]
    · simp [h0]
theorem rpos_any (x : Int) (h : RA w q vL bw hs fw A) : Calls Try.prog 48 #[.pointer (some ⟨q, 0, none⟩), .int .i64 x] w fun e w' => (∃ i k, Pos A.L x i k ∧ e = .returned (.tuple #[.int .i64 i, .int .i64 k])) ∧ w = w' :=
  rat_any x w q bw A.n vL hs A.L fw h.rin h.len h.lenl

set_option maxHeartbeats 1000000 in
theorem rhas_any (x : Int) (h : RA w q vL bw hs fw A) : Calls Try.prog 30 #[.pointer (some ⟨q, 0, none⟩), .int .i64 x] w fun e w' => e = .returned (.bool (A.hasI x)) ∧ w = w' := by
  have h1 := hide (rpos_any x h)
  have nd := hide h.nd
  clear h
  go_enter Try.func30, Try.ntmps30
  go_wp2_with fail
  refine (unhide h1).mono ?_
  rintro e w1 ⟨⟨i, k, hp, rfl⟩, rfl⟩
  rcases pos_facts (unhide nd) hp with ⟨f1, v, ii, kk, rfl, rfl, rfl, _⟩ | ⟨f1, rfl, rfl⟩
  · have F1 := hide f1
    have e1 : (0 : Int) ≤ (ii : Int) := by omega
    clear f1 hp
    go_wp2
    go_ret
    exact ⟨by rw [unhide F1]; rfl, rfl⟩
  · have F1 := hide f1
    clear f1 hp
    go_wp2
    go_ret
    exact ⟨by rw [unhide F1]; rfl, rfl⟩
set_option maxHeartbeats 1000000 in
theorem rrank_any (x : Int) (h : RA w q vL bw hs fw A) : Calls Try.prog 34 #[.pointer (some ⟨q, 0, none⟩), .int .i64 x] w fun e w' => e = .returned (.int .i64 (A.rankI x)) ∧ w = w' := by
  have h1 := hide (rpos_any x h)
  have nd := hide h.nd
  clear h
  go_enter Try.func34, Try.ntmps34
  go_wp2_with fail
  refine (unhide h1).mono ?_
  rintro e w1 ⟨⟨i, k, hp, rfl⟩, rfl⟩
  have f : A.rankI x = k := by
    rcases pos_facts (unhide nd) hp with ⟨f1, v, ii, kk, rfl, rfl, rfl, _, _, _, f2, _⟩ | ⟨f1, rfl, rfl⟩
    · exact f2
    · rw [Se.rankI, f1]; rfl
  have F1 := hide f
  clear f hp
  go_wp2
  go_ret
  exact ⟨by rw [unhide F1]; rfl, rfl⟩
/-- What the row of an item's sequence reads. -/
theorem RA.seqAt (h : RA w q vL bw hs fw A) {ii : Nat} (hi : ii < A.L.length) : ∃ g N cap b M cap', vL = .slice (some ⟨g, 0, none⟩) N cap ∧ N = A.L.length ∧ N ≤ cap ∧ cap ≤ maxLen ∧ w.cell? ⟨g, ii, none⟩ = some (.slice (some ⟨b, 0, none⟩) M cap') ∧ M = (A.L.getD ii []).length ∧ M ≤ cap' ∧ cap' ≤ maxLen ∧ ∀ j, j < M → w.cell? ⟨b, j, none⟩ = some (.int .i64 (((A.L.getD ii []).getD j 0 : Nat) : Int)) := by
  obtain ⟨xo, cap, hv, k1, k2, k3⟩ := h.rin.outer
  obtain ⟨g, rfl, hg, hc⟩ := k3 (by omega)
  obtain ⟨b, cap', hu, m1, m2, m3, m4⟩ := h.rin.hd ii hi
  exact ⟨g, _, cap, b, _, cap', hv, rfl, k1, k2, by rw [hc ii hi, hu], rfl, m1, m2, m4⟩
set_option maxHeartbeats 1000000 in
theorem rlen_any (x : Int) (h : RA w q vL bw hs fw A) : Calls Try.prog 32 #[.pointer (some ⟨q, 0, none⟩), .int .i64 x] w fun e w' => e = .returned (.int .i64 (A.lenI x)) ∧ w = w' := by
  have h1 := hide (rpos_any x h)
  obtain ⟨c0, c1, c2, _⟩ := h.rin.cells
  have HH := hide h
  have hLn := h.len
  clear h c0 c2
  go_enter Try.func32, Try.ntmps32
  go_wp2_with fail
  refine (unhide h1).mono ?_
  rintro e w1 ⟨⟨i, k, hp, rfl⟩, rfl⟩
  rcases pos_facts (unhide HH).nd hp with ⟨f1, v, ii, kk, rfl, rfl, rfl, hi, hs1, hk, f2, _⟩ | ⟨f1, rfl, rfl⟩
  · obtain ⟨g, N, cap, b, M, cap', rfl, rfl, m1, m2, d1, rfl, m3, m4, _⟩ := (unhide HH).seqAt hi
    rw [hs1] at d1 m3
    obtain ⟨MM, hMM⟩ : ∃ z, (A.seqI (v : Int)).length = z := ⟨_, rfl⟩
    obtain ⟨NN, hNN⟩ : ∃ z, A.L.length = z := ⟨_, rfl⟩
    rw [hMM] at d1 m3
    rw [hNN] at c1 m1 hLn hi
    have F1 : Hid (A.lenI (v : Int) = (MM : Int)) := by show _ = _; rw [Se.lenI, hMM]
    have e1 : (0 : Int) ≤ (ii : Int) := by omega
    have e2 : ¬ (ii : Int) < 0 := by omega
    have e3 : (ii : Int) < (NN : Int) := by omega
    unfold maxLen at m2 m4
    clear f1 hp hs1 hk f2 HH h1 hMM hNN
    go_wp2
    go_ret
    exact ⟨by rw [unhide F1]; rfl, rfl⟩
  · have F1 : Hid (A.lenI x = 0) := by show _ = _; rw [Se.lenI, Se.seqI, f1]; rfl
    clear f1 hp HH h1
    go_wp2
    go_ret
    exact ⟨by rw [unhide F1]; rfl, rfl⟩
end
end Go.Proofs.Ytbkneonbpcmepaa
/- The document's pool: what it tells of places and weights. -/

namespace Go.Proofs.Ytbkneonbpcmepaa
open Go.RowKit Go.Arb
set_option linter.unusedVariables false
set_option linter.unusedSimpArgs false

theorem same_idx {L : List (List Nat)} (nd : L.flatten.Nodup) {i j v : Nat} (hi : i < L.length) (hj : j < L.length) (h1 : v ∈ L.getD i []) (h2 : v ∈ L.getD j []) : i = j := by
  rw [List.getD_eq_getElem?_getD, List.getElem?_eq_getElem hi] at h1
  rw [List.getD_eq_getElem?_getD, List.getElem?_eq_getElem hj] at h2
  rw [List.Nodup, List.pairwise_flatten] at nd
  rcases Nat.lt_trichotomy i j with h | h | h
  · exact absurd rfl (List.pairwise_iff_getElem.1 nd.2 i j hi hj h v h1 v h2)
  · exact h
  · exact absurd rfl (List.pairwise_iff_getElem.1 nd.2 j i hj hi h v h2 v h1)
section
variable {w w' : World} {q bw : Nat} {vL : Value} {hs : List Value} {fw : Nat → Int} {A : Se}
set_option maxHeartbeats 1000000 in
theorem rplace_any (x y : Int) (h : RA w q vL bw hs fw A) : Calls Try.prog 36 #[.pointer (some ⟨q, 0, none⟩), .int .i64 x, .int .i64 y] w fun e w' => e = .returned (.int .i64 (A.atI x y)) ∧ w = w' := by
  have h1 := hide (rpos_any x h)
  obtain ⟨c0, c1, c2, _⟩ := h.rin.cells
  have HH := hide h
  have hLn := h.len
  clear h c0 c2
  go_enter Try.func36, Try.ntmps36
  go_wp2_with fail
  refine (unhide h1).mono ?_
  rintro e w1 ⟨⟨i, k, hp, rfl⟩, rfl⟩
  rcases pos_facts (unhide HH).nd hp with ⟨f1, v, ii, kk, rfl, rfl, rfl, hi, hs1, hk, f2, _⟩ | ⟨f1, rfl, rfl⟩
  · obtain ⟨g, N, cap, b, M, cap', rfl, rfl, m1, m2, d1, rfl, m3, m4, m5⟩ := (unhide HH).seqAt hi
    rw [hs1] at d1 m3 m5
    have hll : (A.seqI (v : Int)).length ≤ 4194304 := by rw [← hs1]; exact (unhide HH).lenl _ (getD_mem hi)
    obtain ⟨MM, hMM⟩ : ∃ z, (A.seqI (v : Int)).length = z := ⟨_, rfl⟩
    obtain ⟨NN, hNN⟩ : ∃ z, A.L.length = z := ⟨_, rfl⟩
    rw [hMM] at d1 m3 m5 hll
    rw [hNN] at c1 m1 hLn hi
    have hlen : A.lenI (v : Int) = (MM : Int) := by rw [Se.lenI, hMM]
    have e1 : (0 : Int) ≤ (ii : Int) := by omega
    have e2 : ¬ (ii : Int) < 0 := by omega
    have e3 : (ii : Int) < (NN : Int) := by omega
    unfold maxLen at m2 m4
    by_cases hy : 0 ≤ y ∧ y < (MM : Int)
    · obtain ⟨j, rfl⟩ := Int.eq_ofNat_of_zero_le hy.1
      have d2 := m5 j (by omega)
      have F1 : Hid (A.atI (v : Int) (j : Int) = (((A.seqI (v : Int)).getD j 0 : Nat) : Int)) := by show _ = _; rw [Se.atI, hlen, if_pos (by omega), Int.toNat_natCast]
      generalize (A.seqI (v : Int)).getD j 0 = z at *
      have e4 : (0 : Int) ≤ (j : Int) := by omega
      have e5 : ¬ (j : Int) < 0 := by omega
      have e6 : (j : Int) < (MM : Int) := hy.2
      have e7 : ¬ (MM : Int) ≤ (j : Int) := by omega
      clear f1 hp hs1 hk f2 HH h1 hMM hNN m5 hlen hy
      go_wp2
      go_ret
      exact ⟨by rw [unhide F1]; rfl, rfl⟩
    · have F1 : Hid (A.atI (v : Int) y = -1) := by show _ = _; rw [Se.atI, hlen, if_neg hy]
      by_cases h0 : y < 0
      · clear f1 hp hs1 hk f2 HH h1 hMM hNN m5 hlen hy
        go_wp2
        go_ret
        exact ⟨by rw [unhide F1]; rfl, rfl⟩
      · have e7 : (MM : Int) ≤ y := by omega
        clear f1 hp hs1 hk f2 HH h1 hMM hNN m5 hlen hy
        go_wp2
        go_ret
        exact ⟨by rw [unhide F1]; rfl, rfl⟩
  · have F1 : Hid (A.atI x y = -1) := by
      show _ = _
      rw [Se.atI, if_neg]
      have : A.lenI x = 0 := by rw [Se.lenI, Se.seqI, f1]; rfl
      omega
    clear f1 hp HH h1
    go_wp2
    go_ret
    exact ⟨by rw [unhide F1]; rfl, rfl⟩
set_option maxHeartbeats 1000000 in
theorem rsame_any (x y : Int) (h : RA w q vL bw hs fw A) : Calls Try.prog 38 #[.pointer (some ⟨q, 0, none⟩), .int .i64 x, .int .i64 y] w fun e w' => e = .returned (.bool (A.sameI x y)) ∧ w = w' := by
  have h1 := hide (rpos_any x h)
  have h2 := hide (rpos_any y h)
  have HH := hide h
  clear h
  go_enter Try.func38, Try.ntmps38
  go_wp2_with fail
  refine (unhide h1).mono ?_
  rintro e w1 ⟨⟨i, k, hp, rfl⟩, rfl⟩
  have HP := hide hp
  clear hp
  go_wp2_with fail
  refine (unhide h2).mono ?_
  rintro e w1 ⟨⟨i', k', hp', rfl⟩, rfl⟩
  rcases pos_facts (unhide HH).nd (unhide HP) with ⟨f1, v, ii, kk, rfl, rfl, rfl, hi, hs1, hk, f2, f3, f4⟩ | ⟨f1, rfl, rfl⟩
  · have e1 : (0 : Int) ≤ (ii : Int) := by omega
    rcases pos_facts (unhide HH).nd hp' with ⟨g1, v', jj, ll, rfl, rfl, rfl, hj, gs1, gk, g2, g3, g4⟩ | ⟨g1, rfl, rfl⟩
    · have gm : v' ∈ A.seqI (v' : Int) := by have := get_mem gk; rwa [g3] at this
      by_cases hE : ii = jj
      · subst hE
        have F1 : Hid (A.sameI (v : Int) (v' : Int) = true) := by
          show _ = _
          simp only [Se.sameI, f1, g1, Bool.true_and, decide_eq_true_eq, Int.toNat_natCast]
          rw [← hs1, gs1]
          exact gm
        clear f1 f2 f3 f4 g1 g2 g3 g4 hi hs1 hk hj gs1 gk gm HH HP hp' h1 h2
        go_wp2
        go_ret
        exact ⟨by rw [unhide F1]; simp, rfl⟩
      · have F1 : Hid (A.sameI (v : Int) (v' : Int) = false) := by
          show _ = _
          simp only [Se.sameI, f1, g1, Bool.true_and, decide_eq_false_iff_not, Int.toNat_natCast]
          rw [← hs1]
          intro hm
          have hm' : v' ∈ A.L.getD jj [] := by rw [gs1]; exact gm
          exact hE (same_idx (unhide HH).nd hi hj hm hm')
        have e2 : ((ii : Int) == (jj : Int)) = false := by rw [beq_eq_false_iff_ne]; omega
        clear f1 f2 f3 f4 g1 g2 g3 g4 hi hs1 hk hj gs1 gk gm HH HP hp' h1 h2
        go_wp2
        go_ret
        exact ⟨by rw [unhide F1]; simp, rfl⟩
    · have F1 : Hid (A.sameI (v : Int) y = false) := by show _ = _; simp [Se.sameI, g1]
      have e2 : ((ii : Int) == (-1 : Int)) = false := by rw [beq_eq_false_iff_ne]; omega
      clear f1 f2 f3 f4 g1 hi hs1 hk HH HP hp' h1 h2
      go_wp2
      go_ret
      exact ⟨by rw [unhide F1]; simp, rfl⟩
  · have F1 : Hid (A.sameI x y = false) := by show _ = _; simp [Se.sameI, f1]
    clear f1 HH HP hp' h1 h2
    go_wp2
    go_ret
    exact ⟨by rw [unhide F1]; simp, rfl⟩
end
end Go.Proofs.Ytbkneonbpcmepaa
/- The document's pool: weights. -/

namespace Go.Proofs.Ytbkneonbpcmepaa
open Go.RowKit Go.Arb
set_option linter.unusedVariables false
set_option linter.unusedSimpArgs false

section
variable {w w' : World} {q bw n : Nat} {vL : Value} {hs : List Value} {L : List (List Nat)} {fw : Nat → Int} {A : Se}
theorem RIn.setW (h : RIn w q vL bw n hs L fw) (i : Nat) (x : Int) : RIn (w.setCell ⟨bw, i, none⟩ (.int .i64 x)) q vL bw n hs L (fun j => if j = i then x else fw j) ∧ Keep [bw] w (w.setCell ⟨bw, i, none⟩ (.int .i64 x)) := by
  have hk : Keep [bw] w (w.setCell ⟨bw, i, none⟩ (.int .i64 x)) := (Keep.refl _ _).setCell (p := ⟨bw, i, none⟩) (.inl (by simp)) _
  refine ⟨⟨?_, row_keep h.rl hk (fun k hk' hm => ?_), ?_, fun j hj => (h.hd j hj).keep hk (fun k hk' hm => ?_), h.n1, h.n2, h.n3, h.n4⟩, hk⟩
  · rw [hk.block q (Array.getElem?_eq_some_iff.1 h.blk).1 (by simp; exact h.n1)]; exact h.blk
  · simp at hm; subst hm; exact h.n3 hk'
  · rw [← inV_set]; exact h.rw.set i _
  · simp at hm; subst hm
    have hj' : j < hs.length := by rw [h.hl]; exact hj
    rw [List.getD_eq_getElem?_getD, List.getElem?_eq_getElem hj'] at hk'
    exact (h.n4 _ (List.getElem_mem hj') k hk').2.1 rfl
theorem RA.setW (h : RA w q vL bw hs fw A) {v : Nat} {x : Int} (hx : fitB x = true) : RA (w.setCell ⟨bw, v, none⟩ (.int .i64 x)) q vL bw hs (fun j => if j = v then x else fw j) { A with W := fun u => if u = v then x else A.W u } := by
  simp only [fitB, decide_eq_true_eq] at hx
  refine ⟨(h.rin.setW v x).1, fun u hu => ?_, h.nd, h.ne, h.lt, fun u hu => ?_, h.nn⟩
  · dsimp only
    split
    · rfl
    · exact h.wt u hu
  · dsimp only
    split
    · exact hx
    · exact h.fit u hu
set_option maxHeartbeats 1000000 in
theorem rget_any (x : Int) (h : RA w q vL bw hs fw A) : Calls Try.prog 28 #[.pointer (some ⟨q, 0, none⟩), .int .i64 x] w fun e w' => e = .returned (.tuple #[.int .i64 (A.getI x), .bool (A.hasI x)]) ∧ w = w' := by
  have h1 := hide (rhas_any x h)
  obtain ⟨c0, c1, c2, _⟩ := h.rin.cells
  have hn := h.nn
  cases hh : A.hasI x
  · rw [hh] at h1
    have hg : A.getI x = 0 := by rw [Se.getI, hh]; rfl
    rw [hg]
    clear h hh hg c0 c1 c2
    go_enter Try.func28, Try.ntmps28
    go_wp2_with fail
    refine (unhide h1).mono ?_
    rintro e w1 ⟨rfl, rfl⟩
    go_wp2
    exact bodyPost_ret (v := .tuple #[.int .i64 0, .bool false]) (by simp [results, Try.results28, go_sem]) rfl ⟨rfl, rfl⟩
  · rw [hh] at h1
    obtain ⟨v, rfl, hv⟩ := Se.hasI_true hh
    have hvn := h.lt v hv
    have d := h.rin.rw.cell hvn
    unfold inV at d
    rw [h.wt v hv] at d
    have hg : A.getI (v : Int) = A.W v := by rw [Se.getI, if_pos hh, Int.toNat_natCast]
    rw [hg]
    have e1 : (0 : Int) ≤ (v : Int) := by omega
    have e2 : (v : Int) < (A.n : Int) := by omega
    generalize A.W v = z at *
    generalize A.n = NN at *
    clear h hh hg c0 c1 hv
    go_enter Try.func28, Try.ntmps28
    go_wp2_with fail
    refine (unhide h1).mono ?_
    rintro e w1 ⟨rfl, rfl⟩
    go_wp2
    exact bodyPost_ret (v := .tuple #[.int .i64 z, .bool true]) (by simp [results, Try.results28, go_sem]) rfl ⟨rfl, rfl⟩
set_option maxHeartbeats 1000000 in
theorem rset_any (x y : Int) (h : RA w q vL bw hs fw A) : Calls Try.prog 22 #[.pointer (some ⟨q, 0, none⟩), .int .i64 x, .int .i64 y] w fun e w' => e = .returned (.bool (A.setB x y)) ∧ ∃ fw', RA w' q vL bw hs fw' (A.setA x y) ∧ Keep [bw] w w' := by
  have h1 := hide (rhas_any x h)
  obtain ⟨c0, c1, c2, _⟩ := h.rin.cells
  have hn := h.nn
  cases hh : A.hasI x
  · rw [hh] at h1
    have hb : A.setB x y = false := by simp [Se.setB, hh]
    have ha : A.setA x y = A := by rw [Se.setA, hb]; rfl
    rw [hb, ha]
    have HH := hide h
    clear h hh hb ha c0 c1 c2
    go_enter Try.func22, Try.ntmps22
    go_wp2_with fail
    refine (unhide h1).mono ?_
    rintro e w1 ⟨rfl, rfl⟩
    go_wp2
    go_ret
    exact ⟨rfl, fw, unhide HH, Keep.refl _ _⟩
  · rw [hh] at h1
    obtain ⟨v, rfl, hv⟩ := Se.hasI_true hh
    have hvn := h.lt v hv
    cases hf : fitB y
    · have hb : A.setB (v : Int) y = false := by simp [Se.setB, hf]
      have ha : A.setA (v : Int) y = A := by rw [Se.setA, hb]; rfl
      rw [hb, ha]
      have HH := hide h
      have HF := hide hf
      clear h hh hb ha c0 c1 c2 hf hv
      go_enter Try.func22, Try.ntmps22
      go_wp2_with fail
      refine (unhide h1).mono ?_
      rintro e w1 ⟨rfl, rfl⟩
      go_wp2_with fail
      refine (rfits_any _ _).mono ?_
      rw [unhide HF]
      rintro e w1 ⟨rfl, rfl⟩
      go_wp2
      go_ret
      exact ⟨rfl, fw, unhide HH, Keep.refl _ _⟩
    · have hb : A.setB (v : Int) y = true := by simp [Se.setB, hf, hh]
      have ha : A.setA (v : Int) y = { A with W := fun u => if u = v then y else A.W u } := by rw [Se.setA, if_pos hb, Int.toNat_natCast]
      have d := h.rin.rw.cell hvn
      have f := h.rin.rw.frozen v
      unfold inV at d
      have e1 : (0 : Int) ≤ (v : Int) := by omega
      have e2 : (v : Int) < (A.n : Int) := by omega
      have HZ := hide (And.intro (h.setW (v := v) hf) (h.rin.setW v y).2)
      rw [hb, ha]
      have HF := hide hf
      have hn' := hn
      obtain ⟨NN, hNN⟩ : ∃ z, A.n = z := ⟨_, rfl⟩
      rw [hNN] at c2 e2 hn'
      clear h hh hb ha c0 c1 hf hv hNN hvn hn
      go_enter Try.func22, Try.ntmps22
      go_wp2_with fail
      refine (unhide h1).mono ?_
      rintro e w1 ⟨rfl, rfl⟩
      go_wp2_with fail
      refine (rfits_any _ _).mono ?_
      rw [unhide HF]
      rintro e w1 ⟨rfl, rfl⟩
      go_wp2
      go_ret
      exact ⟨rfl, _, (unhide HZ).1, (unhide HZ).2⟩
end
end Go.Proofs.Ytbkneonbpcmepaa
/- The document's pool: a sequence less. -/

namespace Go.Proofs.Ytbkneonbpcmepaa
open Go.RowKit Go.Arb
set_option linter.unusedVariables false
set_option linter.unusedSimpArgs false
attribute [local go_sem ↓] Go.wp_at_zero Go.wp_at_succ

theorem add_none (b off i : Nat) : (⟨b, off, none⟩ : Addr).add i = ⟨b, off + i, none⟩ := by unfold Addr.add; split <;> simp_all
theorem elem62 : Try.prog.underlying 62 = some (.slice (Try.prog.elem 62)) := by kernel_rfl
theorem size62 (w : World) : (sizeOf (Try.prog.elem 62)).run Try.prog w = .ok 1 w := by kernel_rfl
theorem elem61 : Try.prog.underlying 61 = some (.slice (Try.prog.elem 61)) := by kernel_rfl
theorem size61 (w : World) : (sizeOf (Try.prog.elem 61)).run Try.prog w = .ok 1 w := by kernel_rfl
theorem Try.info61 : (Try.prog.info? 61).map (fun i => (i.zero, i.size, i.bytes)) = some (some (.slice none 0 0), 1, 24) := by kernel_rfl

/-- Cells that lie in a row, to be read. -/
def Rc (W : World) (v : Value) (n : Nat) (xs : List Value) : Prop := (v = .slice none 0 0 ∧ n = 0 ∧ xs = []) ∨ ∃ g cap, v = .slice (some ⟨g, 0, none⟩) n cap ∧ n ≤ cap ∧ cap ≤ maxLen ∧ xs.length = n ∧ ∀ j x, xs[j]? = some x → W.cell? ⟨g, j, none⟩ = some x
theorem Rc.of {W : World} {B : Nat} {e : TypeId} {v : Value} {n : Nat} {xs : List Value} (h : W.ownsRow B e 1 v n xs) : Rc W v n xs := by
  have hl := h.1
  rcases h.2 with ⟨rfl, rfl⟩ | ⟨g, cap, cur, rfl, _, hg, hn, hm, _, _⟩
  · exact .inl ⟨rfl, rfl, List.length_eq_zero_iff.1 (by omega)⟩
  · refine .inr ⟨g, cap, rfl, hn, hm, by omega, fun j x hj => ?_⟩
    have := (List.getElem?_eq_some_iff.1 hj).1
    rw [h.cellAt j (by omega)]; exact hj
section
variable {W : World} {t : TypeId} {v : Value} {n k : Nat} {xs : List Value}
theorem rc_lo (he : Try.prog.underlying t = some (.slice (Try.prog.elem t))) (hz : ∀ w, (sizeOf (Try.prog.elem t)).run Try.prog w = .ok 1 w) (h : Rc W v n xs) (hk : k ≤ n) :
    ∃ u, (∀ w, (Instr.sliceAt t v none (some (.int .i64 (k : Int))) none).run Try.prog w = .ok u w) ∧ Src W u k (xs.take k) ∧ ∀ x ∈ own u, x ∈ own v := by
  rcases h with ⟨rfl, rfl, rfl⟩ | ⟨g, cap, rfl, hn, hm, hl, hc⟩
  · have hk0 : k = 0 := by omega
    subst hk0
    refine ⟨.slice none 0 0, fun w => ?_, .inl ⟨rfl, rfl, rfl⟩, fun x hx => hx⟩
    rw [run_sliceAt_slice _ _ _ _ _ _ he, run_slice_h _ _ _ _ _ he _ _ (by omega) (by simp), hz]
    simp [Result.andThen, sliced]
  · refine ⟨.slice (some ⟨g, 0, none⟩) k cap, fun w => ?_, .inr ⟨⟨g, 0, none⟩, cap, rfl, by simp; omega, fun j x hj => ?_⟩, fun x hx => hx⟩
    · rw [run_sliceAt_slice _ _ _ _ _ _ he, run_slice_h _ _ _ _ _ he _ _ (by omega) (by omega), hz]
      simp [Result.andThen, sliced, add_none]
    · have hjk : j < k := by have := (List.getElem?_eq_some_iff.1 hj).1; simp at this; omega
      rw [add_none, Nat.zero_add]
      refine hc j x ?_
      rw [← hj]
      simp [hjk]
theorem rc_hi (he : Try.prog.underlying t = some (.slice (Try.prog.elem t))) (hz : ∀ w, (sizeOf (Try.prog.elem t)).run Try.prog w = .ok 1 w) (h : Rc W v n xs) (hk : k ≤ n) (i : Int) (hi : i = (k : Int)) :
    ∃ u, (∀ w, (Instr.sliceAt t v (some (.int .i64 i)) none none).run Try.prog w = .ok u w) ∧ Src W u (n - k) (xs.drop k) ∧ ∀ x ∈ own u, x ∈ own v := by
  subst hi
  rcases h with ⟨rfl, rfl, rfl⟩ | ⟨g, cap, rfl, hn, hm, hl, hc⟩
  · have hk0 : k = 0 := by omega
    subst hk0
    refine ⟨.slice none 0 0, fun w => ?_, .inl ⟨rfl, rfl, rfl⟩, fun x hx => hx⟩
    rw [run_sliceAt_slice _ _ _ _ _ _ he, run_slice_l _ _ _ _ _ he _ _ (by omega) (by simp), hz]
    simp [Result.andThen, sliced]
  · by_cases hcap : cap = k
    · refine ⟨.slice (some ⟨g, 0, none⟩) (n - k) (cap - k), fun w => ?_, .inr ⟨⟨g, 0, none⟩, cap - k, rfl, by simp; omega, fun j x hj => ?_⟩, fun x hx => hx⟩
      · rw [run_sliceAt_slice _ _ _ _ _ _ he, run_slice_l _ _ _ _ _ he _ _ (by omega) (by omega), hz]
        simp [Result.andThen, sliced, hcap]
      · rw [List.drop_of_length_le (by omega)] at hj; simp at hj
    · refine ⟨.slice (some ⟨g, k, none⟩) (n - k) (cap - k), fun w => ?_, .inr ⟨⟨g, k, none⟩, cap - k, rfl, by simp; omega, fun j x hj => ?_⟩, fun x hx => hx⟩
      · rw [run_sliceAt_slice _ _ _ _ _ _ he, run_slice_l _ _ _ _ _ he _ _ (by omega) (by omega), hz]
        simp [Result.andThen, sliced, hcap, add_none]
      · rw [add_none]
        refine hc (k + j) x ?_
        rw [← hj]
        simp
end
theorem Src.below {W W' : World} {u : Value} {m : Nat} {ys : List Value} (h : Src W u m ys) (hs : ∀ x ∈ own u, x < W.heap.size) (hb : Below W.heap.size W W') : Src W' u m ys :=
  Src.keep h (Keep.ofBelow hb []) (fun k hk => ⟨hs k hk, by simp⟩)
theorem empty_row (W : World) (e : TypeId) : (W.alloc (.cells #[] e)).ownsRow W.heap.size e 1 (.slice (some ⟨W.heap.size, 0, none⟩) 0 0) 0 [] := World.ownsRow_made W #[] 0 (Nat.le_refl _) (Nat.zero_le _) rfl
theorem first_below {W W6 : World} {e : TypeId} (g6 : ((W.alloc (.cells #[] e)).drew).grownBy W6 (Value.slice (some ⟨W.heap.size, 0, none⟩) 0 0).ownBlock) : Below W.heap.size W W6 :=
  Below.grown (((Below.refl _ _).alloc (Nat.le_refl _) _).drew) g6 (by simp) (fun k hk => by simp [Value.ownBlock] at hk; omega)
theorem next_below {W W6 W7 : World} {v6 : Value} {e : TypeId} {n : Nat} {xs : List Value} (b6 : Below W.heap.size W W6) (o6 : W6.ownsRow W.heap.size e 1 v6 n xs) (g7 : W6.grownBy W7 v6.ownBlock) : Below W.heap.size W W7 :=
  b6.grown g7 b6.size (fun k hk => (o6.lt k hk).1)
theorem row_shape {W : World} {B : Nat} {e : TypeId} {s n : Nat} {v : Value} {xs : List Value} (h : W.ownsRow B e s v n xs) : ∃ x c, v = .slice x n c := by
  obtain ⟨x, cap, hv, _⟩ := row_form h
  exact ⟨x, cap, hv⟩
theorem own_zero {W : World} {B : Nat} {e : TypeId} {s n : Nat} {v : Value} {xs : List Value} (h : W.ownsRow B e s v n xs) : W.ownsRow 0 e s v n xs := ⟨h.1, h.2.imp id (fun ⟨g, cap, cur, a, _, c⟩ => ⟨g, cap, cur, a, Nat.zero_le _, c⟩)⟩
end Go.Proofs.Ytbkneonbpcmepaa
/- The document's pool: a sequence goes. -/

namespace Go.Proofs.Ytbkneonbpcmepaa
open Go.RowKit Go.Arb
set_option linter.unusedVariables false
set_option linter.unusedSimpArgs false
attribute [local go_sem ↓] Go.wp_at_zero Go.wp_at_succ

section
variable {w W : World} {q bw n : Nat} {vL vL' : Value} {hs hs' : List Value} {L L' : List (List Nat)} {fw : Nat → Int}
theorem RIn.one (h : RIn w q vL bw n hs L fw) : ∀ u ∈ hs, u.oneCell' = true := fun u hu => by
  obtain ⟨l, b, cap, rfl, _⟩ := h.hdm hu
  rfl
/-- The row of the sequences is another one. -/
theorem RIn.newL (h : RIn w q vL bw n hs L fw) (hb : Below w.heap.size w W) (hr : W.ownsRow w.heap.size 61 1 vL' L'.length hs') (hd : ∀ j, j < L'.length → Hd W (hs'.getD j undef) (L'.getD j []))
    (hn4 : ∀ u ∈ hs', ∀ b ∈ own u, b ≠ q ∧ b ≠ bw ∧ b ∉ own vL') : RIn (W.setCell ⟨q, 1, none⟩ vL') q vL' bw n hs' L' fw ∧ Keep [q] w (W.setCell ⟨q, 1, none⟩ vL') := by
  have h1 := h.below hb
  have hq := (Array.getElem?_eq_some_iff.1 h.blk).1
  have hbw := h.rw.lt
  have hge := row_ge hr
  have hk : Keep [q] W (W.setCell ⟨q, 1, none⟩ vL') := (Keep.refl _ _).setCell (p := ⟨q, 1, none⟩) (.inl (by simp)) _
  refine ⟨⟨?_, row_keep (own_zero hr) hk (fun k hk' hm => ?_), h1.rw.of_block (hk.block _ h1.rw.lt (by simp; exact fun e => h.n1 e.symm)), fun j hj => (hd j hj).keep hk (fun k hk' hm => ?_), h.n1, fun hm => ?_, fun hm => ?_, hn4⟩, (Keep.ofBelow hb [q]).tr hk⟩
  · have := h1.blk
    simp [World.setCell, Array.getElem?_modify, this]
  · simp at hm; subst hm; have := hge k hk'; omega
  · simp at hm; subst hm
    have hj' : j < hs'.length := by have := hr.1; omega
    rw [List.getD_eq_getElem?_getD, List.getElem?_eq_getElem hj'] at hk'
    exact (hn4 _ (List.getElem_mem hj') k hk').1 rfl
  · have := hge q hm; omega
  · have := hge bw hm; omega
theorem hd_cut (hd : ∀ j, j < L.length → Hd W (hs.getD j undef) (L.getD j [])) (hl : hs.length = L.length) {i : Nat} (hi : i < L.length) :
    ∀ j, j < (L.take i ++ L.drop (i + 1)).length → Hd W ((hs.take i ++ hs.drop (i + 1)).getD j undef) ((L.take i ++ L.drop (i + 1)).getD j []) := fun j hj => by
  simp only [List.length_append, List.length_take, List.length_drop] at hj
  by_cases h : j < i
  · have := hd j (by omega)
    rw [List.getD_eq_getElem?_getD, List.getD_eq_getElem?_getD] at this ⊢
    rw [List.getElem?_append_left (by simp; omega), List.getElem?_append_left (by simp; omega), List.getElem?_take, List.getElem?_take, if_pos h, if_pos h]
    exact this
  · have := hd (j + 1) (by omega)
    rw [List.getD_eq_getElem?_getD, List.getD_eq_getElem?_getD] at this ⊢
    rw [List.getElem?_append_right (by simp; omega), List.getElem?_append_right (by simp; omega), List.getElem?_drop, List.getElem?_drop, List.length_take, List.length_take, show i + 1 + (j - min i hs.length) = j + 1 by omega, show i + 1 + (j - min i L.length) = j + 1 by omega]
    exact this
theorem mem_cut {α : Type} {xs : List α} {i : Nat} {u : α} (h : u ∈ xs.take i ++ xs.drop (i + 1)) : u ∈ xs := by
  rcases List.mem_append.1 h with h | h
  · exact List.mem_of_mem_take h
  · exact List.mem_of_mem_drop h
end

set_option maxRecDepth 100000 in
set_option maxHeartbeats 4000000 in
theorem rwithout_any (i : Nat) (w : World) (q bw n : Nat) (vL : Value) (hs : List Value) (L : List (List Nat)) (fw : Nat → Int) (h : RIn w q vL bw n hs L fw) (hi : i < L.length) (hL : L.length ≤ 4194304) :
    Calls Try.prog 49 #[.pointer (some ⟨q, 0, none⟩), .int .i64 (i : Int)] w fun e w' => e = .returned (.tuple #[]) ∧ ∃ vL', RIn w' q vL' bw n (hs.take i ++ hs.drop (i + 1)) (L.take i ++ L.drop (i + 1)) fw ∧ Keep [q] w w' ∧ ∀ x ∈ own vL', w.heap.size ≤ x := by
  obtain ⟨i0, hi0, hz0, hz1, hz2⟩ : ∃ i0, Try.prog.info? 61 = some i0 ∧ i0.zero = some (.slice none 0 0) ∧ i0.size = 1 ∧ i0.bytes = 24 := by
    obtain ⟨i0, a, b⟩ := Option.map_eq_some_iff.1 Try.info61
    simp only [Prod.mk.injEq] at b
    exact ⟨i0, a, b⟩
  obtain ⟨_, c1, _, f1⟩ := h.cells
  have hq := (Array.getElem?_eq_some_iff.1 h.blk).1
  have hlt := row_lt h.rl
  obtain ⟨u1, s1, r1, t1⟩ := rc_lo elem62 size62 (Rc.of h.rl) (k := i) (by omega)
  obtain ⟨u2, s2, r2, t2⟩ := rc_hi elem62 size62 (Rc.of h.rl) (k := i + 1) (by omega) ((i : Int) + 1) (by omega)
  have hb0 : Below w.heap.size w (w.alloc (.cells #[] 61)).drew := ((Below.refl _ w).alloc (Nat.le_refl _) _).drew
  have q1 := Src.below r1 (fun x hx => hlt x (t1 x hx)) hb0
  have q2 : ∀ W', Below w.heap.size w W' → Src W' u2 (L.length - (i + 1)) (hs.drop (i + 1)) := fun W' hb => Src.below r2 (fun x hx => hlt x (t2 x hx)) hb
  have hl := h.hl
  have o1 : ∀ u ∈ hs.take i, u.oneCell' = true := fun u hu => h.one u (List.mem_of_mem_take hu)
  have o2 : ∀ u ∈ hs.drop (i + 1), u.oneCell' = true := fun u hu => h.one u (List.mem_of_mem_drop hu)
  have HS := hide (And.intro q1 (And.intro q2 (And.intro o1 o2)))
  have B1 : 0 + i ≤ maxLen := by unfold maxLen; omega
  have B2 : (0 + i) * 24 ≤ 140737488355328 := by omega
  have B3 : 0 + i + (L.length - (i + 1)) ≤ maxLen := by unfold maxLen; omega
  have B4 : (0 + i + (L.length - (i + 1))) * 24 ≤ 140737488355328 := by omega
  have HB := hide (And.intro B1 (And.intro B2 (And.intro B3 B4)))
  have HH := hide h
  have HL := hide (And.intro hl hi)
  have fin : ∀ (W : World) (v7 : Value), Below w.heap.size w W → W.ownsRow w.heap.size 61 1 v7 (0 + i + (L.length - (i + 1))) ([] ++ hs.take i ++ hs.drop (i + 1)) → Hid (RIn (W.setCell ⟨q, 1, none⟩ v7) q v7 bw n (hs.take i ++ hs.drop (i + 1)) (L.take i ++ L.drop (i + 1)) fw ∧ Keep [q] w (W.setCell ⟨q, 1, none⟩ v7) ∧ ∀ x ∈ own v7, w.heap.size ≤ x) := fun W v7 hb ho => by
    have e1 : (L.take i ++ L.drop (i + 1)).length = 0 + i + (L.length - (i + 1)) := by simp; omega
    rw [List.nil_append] at ho
    have hb1 := h.below hb
    have := h.newL (L' := L.take i ++ L.drop (i + 1)) (hs' := hs.take i ++ hs.drop (i + 1)) hb (by rw [e1]; exact ho) (hd_cut hb1.hd hl hi) (fun u hu b hbm => ?_)
    · exact ⟨this.1, this.2, row_ge ho⟩
    · obtain ⟨a1, a2, _⟩ := h.n4 u (mem_cut hu) b hbm
      refine ⟨a1, a2, fun hm => ?_⟩
      obtain ⟨l, hl'⟩ := h.hdm (mem_cut hu)
      have := hl'.lt b hbm
      have := row_ge ho b hm
      omega
  have FIN := hide fin
  clear h r1 r2 t1 t2 hb0 q1 q2 o1 o2 B1 B2 B3 B4 hlt fin
  have W1 : IntKind.i64.wrap ((i : Int) + 1) = (i : Int) + 1 := IntWalk.i64_in _ (by omega)
  go_enter Try.func49, Try.ntmps49
  go_wp2
  go_region_law
    ((first
      | (refine step_append_src _ (by rfl) (.tmp 5) (.tmp 11) 62 (by rfl) w.heap.size 61 i0 (.slice none 0 0) 24 Try.underlying62 hi0 hz0 hz1 hz2 rfl (.slice (some ⟨w.heap.size, 0, none⟩) 0 0) 0 [] (by rfl) (World.ownsRow.drew (empty_row w 61)) u1 i _ (by rfl) (unhide HS).1 (unhide HS).2.2.1 (unhide HB).1 (unhide HB).2.1 (by simp) ?_; intro v6 w6 o6 g6 a6; have b6 := first_below g6; have cz6 : w6.cell? ⟨q, 1, none⟩ = some vL := (by rw [b6.cell (p := ⟨q, 1, none⟩) hq]; exact c1))
      | (refine step_append_src _ (by rfl) (.tmp 12) (.tmp 19) 62 (by rfl) w.heap.size 61 i0 (.slice none 0 0) 24 Try.underlying62 hi0 hz0 hz1 hz2 rfl v6 (0 + i) _ (by rfl) o6 u2 _ _ (by rfl) ((unhide HS).2.1 _ b6) (unhide HS).2.2.2 (unhide HB).2.2.1 (unhide HB).2.2.2 b6.size ?_; intro v7 w7 o7 g7 a7; have b7 := next_below b6 o6 g7; have Z7 := unhide FIN w7 v7 b7 o7; (obtain ⟨x7, cap7, hv7⟩ := row_shape o7); clear o7 g7 a7; subst hv7; have cz7 : w7.cell? ⟨q, 1, none⟩ = some vL := (by rw [b7.cell (p := ⟨q, 1, none⟩) hq]; exact c1); have fz7 : w7.frozen? ⟨q, 1, none⟩ = false := (by rw [b7.frozen (p := ⟨q, 1, none⟩) hq]; exact f1))))
  all_goals
    go_wp2
    go_end0
    have Z8 := unhide Z7
    simp only [Nat.zero_add] at Z8
    exact ⟨rfl, _, Z8⟩
end Go.Proofs.Ytbkneonbpcmepaa
/- The document's pool: an item goes. -/

namespace Go.Proofs.Ytbkneonbpcmepaa
open Go.RowKit Go.Arb
set_option linter.unusedVariables false
set_option linter.unusedSimpArgs false

theorem erase_at : ∀ (L : List (List Nat)) (i : Nat), i < L.length → (∀ j, j < i → L.getD j [] ≠ L.getD i []) → L.erase (L.getD i []) = L.take i ++ L.drop (i + 1)
  | [], i, h, _ => by simp at h
  | l :: L, 0, h, _ => by simp
  | l :: L, i + 1, h, hne => by
    have h0 := hne 0 (by omega)
    simp only [List.getD_cons_zero, List.getD_cons_succ] at h0 ⊢
    rw [List.erase_cons, if_neg (by simpa using h0), erase_at L i (by simpa using h) (fun j hj => by have := hne (j + 1) (by omega); simpa using this)]
    simp
section
variable {w w' : World} {q bw : Nat} {vL : Value} {hs : List Value} {fw : Nat → Int} {A : Se}
theorem RA.erase (h : RA w q vL bw hs fw A) {i : Nat} (hi : i < A.L.length) : A.L.erase (A.L.getD i []) = A.L.take i ++ A.L.drop (i + 1) := by
  refine erase_at _ _ hi (fun j hj e => ?_)
  have hl := getD_mem hi
  obtain ⟨v, hv⟩ := List.exists_mem_of_ne_nil _ (h.ne _ hl)
  have := same_idx h.nd (i := j) (j := i) (by omega) hi (by rw [e]; exact hv) hv
  omega
theorem cut_sub (L : List (List Nat)) (i : Nat) : (L.take i ++ L.drop (i + 1)).Sublist L := by
  have := List.take_append_drop i L
  rw [← List.eraseIdx_eq_take_drop_succ]
  exact List.eraseIdx_sublist L i
theorem flat_sub {L L' : List (List Nat)} (h : L'.Sublist L) : L'.flatten.Sublist L.flatten := by
  induction h with
  | slnil => exact List.Sublist.refl _
  | cons a _ ih => rw [List.flatten_cons]; exact ih.trans (List.sublist_append_right _ _)
  | cons_cons a _ ih => rw [List.flatten_cons, List.flatten_cons]; exact List.Sublist.append (List.Sublist.refl _) ih
/-- A pool of some of the sequences. -/
theorem RA.less (h : RA w q vL bw hs fw A) {vL' : Value} {hs' : List Value} {L' : List (List Nat)} (hr : RIn w' q vL' bw A.n hs' L' fw) (hs2 : L'.Sublist A.L) : RA w' q vL' bw hs' fw { A with L := L' } :=
  ⟨hr, fun v hv => h.wt v ((flat_sub hs2).subset hv), (flat_sub hs2).nodup h.nd, fun l hl => h.ne l (hs2.subset hl), fun v hv => h.lt v ((flat_sub hs2).subset hv), fun v hv => h.fit v ((flat_sub hs2).subset hv), h.nn⟩
set_option maxHeartbeats 2000000 in
theorem rdrop_any (x : Int) (h : RA w q vL bw hs fw A) : Calls Try.prog 16 #[.pointer (some ⟨q, 0, none⟩), .int .i64 x] w fun e w' => e = .returned (.bool (A.dropB x)) ∧ ∃ vL' hs', RA w' q vL' bw hs' fw (A.dropA x) ∧ Keep [q] w w' ∧ (∀ u ∈ hs', u ∈ hs) ∧ ∀ k ∈ own vL', k ∈ own vL ∨ w.heap.size ≤ k := by
  have h1 := hide (rpos_any x h)
  obtain ⟨c0, c1, c2, _⟩ := h.rin.cells
  have HH := hide h
  have hLn := h.len
  clear h c0 c2
  go_enter Try.func16, Try.ntmps16
  go_wp2_with fail
  refine (unhide h1).mono ?_
  rintro e w1 ⟨⟨i, k, hp, rfl⟩, rfl⟩
  rcases pos_facts (unhide HH).nd hp with ⟨f1, v, ii, kk, rfl, rfl, rfl, hi, hs1, hk, f2, f3, f4⟩ | ⟨f1, rfl, rfl⟩
  · obtain ⟨g, N, cap, b, M, cap', rfl, rfl, m1, m2, d1, rfl, m3, m4, m5⟩ := (unhide HH).seqAt hi
    rw [hs1] at d1 m3 m5
    have hll : (A.seqI (v : Int)).length ≤ 4194304 := by rw [← hs1]; exact (unhide HH).lenl _ (getD_mem hi)
    obtain ⟨MM, hMM⟩ : ∃ z, (A.seqI (v : Int)).length = z := ⟨_, rfl⟩
    obtain ⟨NN, hNN⟩ : ∃ z, A.L.length = z := ⟨_, rfl⟩
    rw [hMM] at d1 m3 m5 hll
    have hlen : A.lenI (v : Int) = (MM : Int) := by rw [Se.lenI, hMM]
    have e1 : (0 : Int) ≤ (ii : Int) := by omega
    have e2 : ¬ (ii : Int) < 0 := by omega
    have e3 : (ii : Int) < (NN : Int) := by omega
    unfold maxLen at m2 m4
    by_cases hM1 : MM = 1
    · have hwo := hide (rwithout_any ii w q bw A.n _ hs A.L fw (unhide HH).rin hi hLn)
      have hone : A.seqI (v : Int) = [v] := by
        match hq : A.seqI (v : Int), hMM with
        | [u], _ => rw [hq] at f3 hk; simp at hk; subst hk; simp at f3; rw [f3]
        | [], h => simp at h; omega
        | _ :: _ :: _, h => simp at h; omega
      have F1 : Hid (A.dropB (v : Int) = true ∧ A.dropA (v : Int) = { A with L := A.L.take ii ++ A.L.drop (ii + 1) }) := by
        have hb : A.dropB (v : Int) = true := by rw [Se.dropB, hlen, hM1]; rfl
        refine ⟨hb, ?_⟩
        rw [Se.dropA, if_pos hb, Int.toNat_natCast, ← hone, ← hs1, (unhide HH).erase hi]
      rw [hNN] at c1 m1
      have e4 : ¬ (1 : Int) < (MM : Int) := by omega
      clear f1 f2 f3 f4 hp hs1 hk h1 hMM m5 hlen hone
      go_wp2_with fail
      refine (unhide hwo).mono ?_
      rintro e w2 ⟨rfl, vL', r1, r2, r3⟩
      have HR := hide (And.intro ((unhide HH).less r1 (cut_sub _ _)) (And.intro r2 r3))
      clear r1 r2 r3 hwo
      go_wp2
      go_ret
      exact ⟨by rw [(unhide F1).1]; rfl, _, _, by rw [(unhide F1).2]; exact (unhide HR).1, (unhide HR).2.1, fun u hu => mem_cut hu, fun k hk => .inr ((unhide HR).2.2 k hk)⟩
    · have F1 : Hid (A.dropB (v : Int) = false ∧ A.dropA (v : Int) = A) := by
        have hb : A.dropB (v : Int) = false := by rw [Se.dropB, hlen, beq_eq_false_iff_ne]; omega
        exact ⟨hb, by rw [Se.dropA, hb]; rfl⟩
      have hM2 : 0 < MM := by omega
      have e4 : (1 : Int) < (MM : Int) := by omega
      rw [hNN] at c1 m1
      clear f1 f2 f3 f4 hp hs1 hk h1 hMM m5 hlen
      go_wp2
      go_ret
      exact ⟨by rw [(unhide F1).1]; rfl, _, _, by rw [(unhide F1).2]; exact unhide HH, Keep.refl _ _, fun u hu => hu, fun k hk => .inl hk⟩
  · have F1 : Hid (A.dropB x = false ∧ A.dropA x = A) := by
      have hb : A.dropB x = false := by
        have : A.lenI x = 0 := by rw [Se.lenI, Se.seqI, f1]; rfl
        rw [Se.dropB, this]; rfl
      exact ⟨hb, by rw [Se.dropA, hb]; rfl⟩
    clear f1 hp h1
    go_wp2
    go_ret
    exact ⟨by rw [(unhide F1).1]; rfl, _, _, by rw [(unhide F1).2]; exact unhide HH, Keep.refl _ _, fun u hu => hu, fun k hk => .inl hk⟩
end
end Go.Proofs.Ytbkneonbpcmepaa
/- The document's pool: a new one. -/

namespace Go.Proofs.Ytbkneonbpcmepaa
open Go.RowKit Go.Arb
set_option linter.unusedVariables false
set_option linter.unusedSimpArgs false

theorem Try.info3 : (Try.prog.info? 3).map (fun i => (i.zero, i.size, i.bytes)) = some (some (.int .i64 0), 1, 8) := by kernel_rfl
theorem make_ints (k : Nat) (hk : k ≤ 4194304) (w : World) :
    (Instr.makeSlice 61 (.int .i64 (k : Int)) (.int .i64 (k : Int))).run Try.prog w = .ok (.slice (some ⟨w.heap.size, 0, none⟩) k k) (w.alloc (.cells (madeCells #[.int .i64 0] k) 3)) := by
  obtain ⟨i, hi, hzz⟩ := Option.map_eq_some_iff.1 Try.info3
  simp only [Prod.mk.injEq] at hzz
  obtain ⟨hz, hs, hb⟩ := hzz
  have hr := run_make (P := Try.prog) w 61 3 i _ Try.underlying61 hi hz .i64 .i64 k k (by omega) (Int.le_refl _) (by rw [hb]; omega) (by omega)
  simp only [Int.toNat_natCast, hs, Nat.mul_one] at hr
  exact hr
/-- A new one. -/
structure NewR (w w' : World) (q n : Nat) : Prop where
  ex : ∃ bw fw, RA w' q (.slice none 0 0) bw [] fw (Se.new n) ∧ w.heap.size ≤ bw
  bel : Below w.heap.size w w'
  hq : w.heap.size ≤ q
set_option maxHeartbeats 1000000 in
theorem rnew_any (n : Nat) (w : World) (h1 : n ≤ 4194304) :
    Calls Try.prog 12 #[.int .i64 (n : Int)] w fun e w' => ∃ q, e = .returned (.pointer (some ⟨q, 0, none⟩)) ∧ NewR w w' q n := by
  have hmk := make_ints n h1
  have hn1 : ¬ (4194304 : Int) < (n : Int) := by omega
  have hn0 : ¬ (n : Int) < 0 := by omega
  have hn2 : (0 : Int) ≤ (n : Int) := by omega
  go_enter Try.func12, Try.ntmps12
  go_wp2
  have hb1 : Below w.heap.size w (w.alloc (.cells (madeCells #[.int .i64 0] n) 3)) := (Below.refl _ _).alloc (Nat.le_refl _) _
  have hr := World.rowIs_made w (.int .i64 0) n 3
  have hblk := heap_alloc_new (w.alloc (.cells (madeCells #[.int .i64 0] n) 3)) (.cells #[.int .i64 (n : Int), .slice none 0 0, .slice (some ⟨w.heap.size, 0, none⟩) n n] 64)
  rw [show (w.alloc (.cells (madeCells #[.int .i64 0] n) 3)).heap.size = w.heap.size + 1 by simp] at hblk
  have hRI : RIn ((w.alloc (.cells (madeCells #[.int .i64 0] n) 3)).alloc (.cells #[.int .i64 (n : Int), .slice none 0 0, .slice (some ⟨w.heap.size, 0, none⟩) n n] 64)) (w.heap.size + 1) (.slice none 0 0) w.heap.size n [] [] (fun _ => 0) :=
    ⟨hblk, ⟨rfl, .inl ⟨rfl, rfl⟩⟩, World.rowIs.alloc hr _, fun i hi => absurd hi (by simp), by omega, by simp [own, Value.ownBlock], by simp [own, Value.ownBlock], by simp⟩
  have hRA : RA ((w.alloc (.cells (madeCells #[.int .i64 0] n) 3)).alloc (.cells #[.int .i64 (n : Int), .slice none 0 0, .slice (some ⟨w.heap.size, 0, none⟩) n n] 64)) (w.heap.size + 1) (.slice none 0 0) w.heap.size [] (fun _ => 0) (Se.new n) :=
    ⟨hRI, fun v hv => by simp [Se.new] at hv, by simp [Se.new], fun l hl => by simp [Se.new] at hl, fun v hv => by simp [Se.new] at hv, fun v hv => by simp [Se.new] at hv, h1⟩
  exact bodyPost_ret (v := .pointer (some ⟨w.heap.size + 1, 0, none⟩)) (by simp [results, Try.results12, go_sem]) rfl ⟨_, rfl, ⟨_, _, hRA, Nat.le_refl _⟩, hb1.alloc (by simp) _, by omega⟩
end Go.Proofs.Ytbkneonbpcmepaa
/- The document's pool: sequences more. -/

namespace Go.Proofs.Ytbkneonbpcmepaa
open Go.RowKit Go.Arb
set_option linter.unusedVariables false
set_option linter.unusedSimpArgs false

section
variable {w W1 W2 : World} {q bw n : Nat} {vL v' : Value} {hs us : List Value} {L ls : List (List Nat)} {fw : Nat → Int}
/-- What stands behind an append onto the row of the sequences. -/
structure Pu (w W : World) (q bw n : Nat) (vL v' : Value) (hs' : List Value) (L' : List (List Nat)) (fw : Nat → Int) : Prop where
  rin : RIn W q v' bw n hs' L' fw
  kp : Keep (q :: own vL) w W
  gr : ∀ k ∈ own v', k ∈ own vL ∨ w.heap.size ≤ k
theorem RIn.push (h : RIn w q vL bw n hs L fw) (hb : Below w.heap.size w W1) (hu : us.length = ls.length) (hd : ∀ j, j < ls.length → Hd W1 (us.getD j undef) (ls.getD j [])) (hn : ∀ u ∈ us, ∀ b ∈ own u, w.heap.size ≤ b)
    (hgrow : W1.grownBy W2 vL.ownBlock) (hown : W2.ownsRow 0 61 1 v' (L.length + ls.length) (hs ++ us)) (hat : v'.ownBlock = vL.ownBlock ∨ v'.ownBlock = some W1.heap.size) :
    Pu w (W2.setCell ⟨q, 1, none⟩ v') q bw n vL v' (hs ++ us) (L ++ ls) fw := by
  have hq := (Array.getElem?_eq_some_iff.1 h.blk).1
  have hbw := h.rw.lt
  have hsz := hb.size
  have hlt := row_lt h.rl
  have K1 : Keep (own vL) w W2 := (Keep.ofBelow hb (own vL)).grown hgrow (fun k hk => .inl (mem_own.2 hk))
  have K12 : Keep (own vL) W1 W2 := (Keep.refl _ _).grown hgrow (fun k hk => .inl (mem_own.2 hk))
  have K2 : Keep [q] W2 (W2.setCell ⟨q, 1, none⟩ v') := (Keep.refl _ _).setCell (p := ⟨q, 1, none⟩) (.inl (by simp)) _
  have hov : ∀ k ∈ own v', k ∈ own vL ∨ k = W1.heap.size := fun k hk => by
    rw [mem_own] at hk
    rcases hat with e | e
    · left; rw [mem_own, ← e]; exact hk
    · right; rw [e] at hk; injection hk with hk; exact hk.symm
  have hul : ∀ u ∈ us, ∃ l, Hd W1 u l := fun u hm => by
    obtain ⟨j, hj, rfl⟩ := List.mem_iff_getElem.1 hm
    have := hd j (by omega)
    rw [List.getD_eq_getElem?_getD, List.getElem?_eq_getElem hj] at this
    exact ⟨_, this⟩
  have Ka : Keep (q :: own vL) w W2 := K1.mono (fun k hk => .inl (List.mem_cons_of_mem _ hk))
  have K3 : Keep (q :: own vL) w (W2.setCell ⟨q, 1, none⟩ v') := Ka.trans K2 (fun i hi => .inl (by simp at hi; simp [hi]))
  refine ⟨⟨?_, ?_, ?_, fun j hj => ?_, h.n1, fun hm => ?_, fun hm => ?_, fun u hm b hbm => ?_⟩, K3, fun k hk => ?_⟩
  · have := h.blk
    rw [← K1.block q hq h.n2] at this
    simp [World.setCell, Array.getElem?_modify, this]
  · have e : (L ++ ls).length = L.length + ls.length := by simp
    rw [e]
    refine row_keep hown K2 (fun k hk hm => ?_)
    simp at hm; subst hm
    rcases hov k hk with h1 | h1
    · exact h.n2 h1
    · omega
  · exact h.rw.of_block (K3.block _ hbw (by simp; exact ⟨fun e => h.n1 e.symm, h.n3⟩))
  · have hl := h.hl
    by_cases h1 : j < L.length
    · have := h.hd j h1
      rw [List.getD_eq_getElem?_getD, List.getD_eq_getElem?_getD] at this ⊢
      rw [List.getElem?_append_left (by omega), List.getElem?_append_left h1]
      refine this.keep K3 (fun k hk hm => ?_)
      rw [List.getElem?_eq_getElem (by omega)] at hk
      obtain ⟨a1, _, a3⟩ := h.n4 _ (List.getElem_mem (by omega)) k hk
      rcases List.mem_cons.1 hm with e | e
      · exact a1 e
      · exact a3 e
    · simp only [List.length_append] at hj
      have := hd (j - L.length) (by omega)
      rw [List.getD_eq_getElem?_getD, List.getD_eq_getElem?_getD] at this ⊢
      rw [List.getElem?_append_right (by omega), List.getElem?_append_right (by omega), hl]
      have hj' : j - L.length < us.length := by omega
      rw [List.getElem?_eq_getElem hj'] at this ⊢
      have hge := hn _ (List.getElem_mem hj')
      refine (this.keep K12 (fun k hk hm => ?_)).keep K2 (fun k hk hm => ?_)
      · have := hge k hk; have := hlt k hm; omega
      · simp at hm; subst hm; have := hge k hk; omega
  · rcases hov q hm with h1 | h1
    · exact h.n2 h1
    · omega
  · rcases hov bw hm with h1 | h1
    · exact h.n3 h1
    · omega
  · rcases List.mem_append.1 hm with hm | hm
    · obtain ⟨a1, a2, a3⟩ := h.n4 u hm b hbm
      refine ⟨a1, a2, fun hk => ?_⟩
      obtain ⟨l, hl'⟩ := h.hdm hm
      have := hl'.lt b hbm
      rcases hov b hk with h1 | h1
      · exact a3 h1
      · omega
    · have h1 := hn u hm b hbm
      obtain ⟨l, hl'⟩ := hul u hm
      have h2 := hl'.lt b hbm
      refine ⟨by omega, by omega, fun hk => ?_⟩
      rcases hov b hk with h3 | h3
      · have := hlt b h3; omega
      · omega
  · rcases hov k hk with h1 | h1
    · exact .inl h1
    · right; omega
end
end Go.Proofs.Ytbkneonbpcmepaa
/- The document's pool: an item more. -/

namespace Go.Proofs.Ytbkneonbpcmepaa
open Go.RowKit Go.Arb
set_option linter.unusedVariables false
set_option linter.unusedSimpArgs false

/-- What a call has left of the document's pool. -/
structure Ch (w w' : World) (q bw : Nat) (vL : Value) (hs : List Value) (A' : Se) : Prop where
  ex : ∃ vL' hs' fw', RA w' q vL' bw hs' fw' A' ∧ (∀ k ∈ own vL', k ∈ own vL ∨ w.heap.size ≤ k) ∧ ∀ u ∈ hs', u ∈ hs ∨ ∀ b ∈ own u, w.heap.size ≤ b
  kp : Keep (q :: bw :: own vL) w w'
theorem info61 : ∃ i0, Try.prog.info? 61 = some i0 ∧ i0.zero = some (.slice none 0 0) ∧ i0.size = 1 ∧ i0.bytes = 24 := by
  obtain ⟨i0, a, b⟩ := Option.map_eq_some_iff.1 Try.info61
  simp only [Prod.mk.injEq] at b
  exact ⟨i0, a, b⟩
section
variable {w w' : World} {q bw : Nat} {vL : Value} {hs : List Value} {fw : Nat → Int} {A : Se}
theorem RA.ch (h : RA w q vL bw hs fw A) : Ch w w q bw vL hs A := ⟨⟨vL, hs, fw, h, fun k hk => .inl hk, fun u hu => .inl hu⟩, Keep.refl _ _⟩
theorem addOk_no {x y : Int} (h : A.addOk x y = false) : A.addA x y = A := by rw [Se.addA, h]; rfl
theorem hd_one (W : World) (v : Nat) (o : Obj) : Hd ((W.alloc (.cells #[.int .i64 (v : Int)] 3)).alloc o) (.slice (some ⟨W.heap.size, 0, none⟩) 1 1) [v] := by
  refine ⟨W.heap.size, 1, rfl, Nat.le_refl _, by unfold maxLen; omega, by simp; omega, fun j hj => ?_⟩
  have hj0 : j = 0 := by simp at hj; exact hj
  subst hj0
  have hb := (Below.refl (W.alloc (.cells #[.int .i64 (v : Int)] 3)).heap.size (W.alloc (.cells #[.int .i64 (v : Int)] 3))).alloc (Nat.le_refl _) o
  rw [hb.cell (p := ⟨W.heap.size, 0, none⟩) (by simp)]
  have e := heap_alloc_new W (.cells #[.int .i64 (v : Int)] 3)
  simp only [World.cell?, e]
  rfl
set_option maxRecDepth 100000 in
set_option maxHeartbeats 4000000 in
theorem rput_any (x y : Int) (h : RA w q vL bw hs fw A) : Calls Try.prog 14 #[.pointer (some ⟨q, 0, none⟩), .int .i64 x, .int .i64 y] w fun e w' => e = .returned (.bool (A.addOk x y)) ∧ Ch w w' q bw vL hs (A.addA x y) := by
  have h1 := hide (rhas_any x h)
  obtain ⟨c0, c1, c2, f1⟩ := h.rin.cells
  have hn := h.nn
  have HH := hide h
  obtain ⟨NN, hNN⟩ : ∃ z, A.n = z := ⟨_, rfl⟩
  rw [hNN] at c0 c2 hn
  by_cases hx0 : x < 0
  · have hb : A.addOk x y = false := by simp [Se.addOk]; intro; omega
    rw [hb, addOk_no hb]
    clear h hb hNN
    go_enter Try.func14, Try.ntmps14
    go_wp2
    go_ret
    exact ⟨rfl, (unhide HH).ch⟩
  by_cases hxn : (NN : Int) ≤ x
  · have hb : A.addOk x y = false := by simp [Se.addOk]; intro; omega
    rw [hb, addOk_no hb]
    clear h hb hNN
    have e1 : ¬ x < 0 := hx0
    go_enter Try.func14, Try.ntmps14
    go_wp2
    go_ret
    exact ⟨rfl, (unhide HH).ch⟩
  have e2 : ¬ (NN : Int) ≤ x := hxn
  cases hh : A.hasI x
  · rw [hh] at h1
    cases hf : fitB y
    · have hb : A.addOk x y = false := by simp [Se.addOk, hf]
      rw [hb, addOk_no hb]
      have HF := hide hf
      clear h hb hNN hh hf
      go_enter Try.func14, Try.ntmps14
      go_wp2_with fail
      refine (unhide h1).mono ?_
      rintro e w1 ⟨rfl, rfl⟩
      go_wp2_with fail
      refine (rfits_any _ _).mono ?_
      rw [unhide HF]
      rintro e w1 ⟨rfl, rfl⟩
      go_wp2
      go_ret
      exact ⟨rfl, (unhide HH).ch⟩
    · obtain ⟨v, rfl⟩ := Int.eq_ofNat_of_zero_le (by omega : 0 ≤ x)
      have hb : A.addOk (v : Int) y = true := by simp only [Se.addOk, hh, hf]; simp; omega
      have ha : A.addA (v : Int) y = { A with L := A.L ++ [[v]], W := fun u => if u = v then y else A.W u } := by rw [Se.addA, if_pos hb, Int.toNat_natCast]
      rw [hb, ha]
      have hvn : v < A.n := by omega
      have hv : v ∉ A.L.flatten := by rw [Se.hasI_nat] at hh; simpa using hh
      obtain ⟨i0, hi0, hz0, hz1, hz2⟩ := info61
      have hq := (Array.getElem?_eq_some_iff.1 h.rin.blk).1
      have hne : ¬ q = bw := h.rin.n1
      have hne' : ¬ bw = q := fun e => hne e.symm
      have hLn := h.len
      have hbel : Below w.heap.size w ((w.alloc (.cells #[.int .i64 (v : Int)] 3)).alloc (.cells #[.slice (some ⟨w.heap.size, 0, none⟩) 1 1] 61)) := ((Below.refl _ _).alloc (Nat.le_refl _) _).alloc (by simp) _
      have HOWN := hide (row_keep h.rin.rl (Keep.ofBelow hbel []) (fun _ _ => by simp))
      have HSRC : Hid (Src ((w.alloc (.cells #[.int .i64 (v : Int)] 3)).alloc (.cells #[.slice (some ⟨w.heap.size, 0, none⟩) 1 1] 61)) (.slice (some ⟨w.heap.size + 1, 0, none⟩) 1 1) 1 [.slice (some ⟨w.heap.size, 0, none⟩) 1 1]) := by
        refine .inr ⟨⟨w.heap.size + 1, 0, none⟩, 1, rfl, rfl, fun j x hj => ?_⟩
        have hj0 : j = 0 := by have := (List.getElem?_eq_some_iff.1 hj).1; simp at this; exact this
        subst hj0
        simp at hj
        subst hj
        have e := heap_alloc_new (w.alloc (.cells #[.int .i64 (v : Int)] 3)) (.cells #[.slice (some ⟨w.heap.size, 0, none⟩) 1 1] 61)
        rw [show (w.alloc (.cells #[.int .i64 (v : Int)] 3)).heap.size = w.heap.size + 1 by simp] at e
        rw [add_none]
        simp only [World.cell?, e]
        rfl
      have FIN : Hid (∀ (W2 : World) (v' : Value), ((w.alloc (.cells #[.int .i64 (v : Int)] 3)).alloc (.cells #[.slice (some ⟨w.heap.size, 0, none⟩) 1 1] 61)).grownBy W2 vL.ownBlock → W2.ownsRow 0 61 1 v' (A.L.length + 1) (hs ++ [.slice (some ⟨w.heap.size, 0, none⟩) 1 1]) → (v'.ownBlock = vL.ownBlock ∨ v'.ownBlock = some ((w.alloc (.cells #[.int .i64 (v : Int)] 3)).alloc (.cells #[.slice (some ⟨w.heap.size, 0, none⟩) 1 1] 61)).heap.size) → Pu w (W2.setCell ⟨q, 1, none⟩ v') q bw A.n vL v' (hs ++ [.slice (some ⟨w.heap.size, 0, none⟩) 1 1]) (A.L ++ [[v]]) fw) := fun W2 v' hg ho hat =>
        h.rin.push (us := [.slice (some ⟨w.heap.size, 0, none⟩) 1 1]) (ls := [[v]]) hbel rfl (fun j hj => by
          have hj0 : j = 0 := by simp at hj; exact hj
          subst hj0
          exact hd_one w v _) (fun u hu b hb => by
          simp at hu; subst hu; simp [own, Value.ownBlock] at hb; omega) hg ho hat
      have HV := hide (And.intro hv hvn)
      have HF := hide hf
      have HLL : Hid (A.L.length + 1 ≤ maxLen ∧ (A.L.length + 1) * 24 ≤ 140737488355328) := ⟨by unfold maxLen; omega, by omega⟩
      have e3 : (0 : Int) ≤ (v : Int) := by omega
      have e4 : (v : Int) < (NN : Int) := by omega
      have HNN := hide hNN
      obtain ⟨LN, hLN⟩ : ∃ z, A.L.length = z := ⟨_, rfl⟩
      rw [hLN] at HOWN FIN HLL
      clear h hb ha hh hf hv hvn hbel hLn hNN hLN hxn hx0
      go_enter Try.func14, Try.ntmps14
      go_wp2_with fail
      refine (unhide h1).mono ?_
      rintro e w1 ⟨rfl, rfl⟩
      go_wp2_with fail
      refine (rfits_any _ _).mono ?_
      rw [unhide HF]
      rintro e w1 ⟨rfl, rfl⟩
      go_wp2_with (at_builtin; refine wpList_append_src _ rfl _ _ 62 rfl 0 61 i0 (.slice none 0 0) 24 Try.underlying62 hi0 hz0 hz1 hz2 rfl vL LN hs rfl (unhide HOWN) (.slice (some ⟨w1.heap.size + 1, 0, none⟩) 1 1) 1 [.slice (some ⟨w1.heap.size, 0, none⟩) 1 1] rfl (unhide HSRC) (fun u hu => by simp at hu; subst hu; rfl) (unhide HLL).1 (unhide HLL).2 (Nat.zero_le _) ?_)
      intro v' w2 hown hgrow hat
      have HP := hide (unhide FIN w2 v' hgrow hown (by simpa using hat))
      have K1 : Keep (own vL) w1 w2 := (Keep.ofBelow (((Below.refl w1.heap.size w1).alloc (Nat.le_refl _) (.cells #[.int .i64 (v : Int)] 3)).alloc (by simp) (.cells #[.slice (some ⟨w1.heap.size, 0, none⟩) 1 1] 61)) (own vL)).grown hgrow (fun k hk => .inl (mem_own.2 hk))
      have cz1 : w2.cell? ⟨q, 1, none⟩ = some vL := by rw [K1.cell (p := ⟨q, 1, none⟩) hq (unhide HH).rin.n2]; exact c1
      have cz2 : w2.cell? ⟨q, 2, none⟩ = some (.slice (some ⟨bw, 0, none⟩) NN NN) := by rw [K1.cell (p := ⟨q, 2, none⟩) hq (unhide HH).rin.n2]; exact c2
      have fz1 : w2.frozen? ⟨q, 1, none⟩ = false := by rw [K1.frozen (p := ⟨q, 1, none⟩) hq (unhide HH).rin.n2]; exact f1
      have d1 : w2.cell? ⟨bw, v, none⟩ = some (.int .i64 (fw v)) := by
        rw [K1.cell (p := ⟨bw, v, none⟩) (unhide HH).rin.rw.lt (unhide HH).rin.n3]
        exact (unhide HH).rin.rw.cell (unhide HV).2
      have d2 : w2.frozen? ⟨bw, v, none⟩ = false := by
        rw [K1.frozen (p := ⟨bw, v, none⟩) (unhide HH).rin.rw.lt (unhide HH).rin.n3]
        exact (unhide HH).rin.rw.frozen v
      obtain ⟨x7, cap7, hv7⟩ := row_shape hown
      subst hv7
      generalize fw v = fwv at d1
      clear hown hgrow hat K1 c0 c1 c2 f1 HOWN HSRC FIN h1
      go_wp2
      go_ret
      have hf2 := unhide HF
      simp only [fitB, decide_eq_true_eq] at hf2
      have hR := (unhide HP).rin.setW v y
      have hA := unhide HH
      obtain ⟨hv, hvn⟩ := unhide HV
      have hfl : (A.L ++ [[v]]).flatten = A.L.flatten ++ [v] := by simp
      refine ⟨rfl, ⟨_, _, _, ⟨hR.1, ?_, ?_, ?_, ?_, ?_, hA.nn⟩, (unhide HP).gr, fun u hu => ?_⟩, ?_⟩
      · intro u hu
        dsimp only at hu ⊢
        split
        · rfl
        · rename_i hne2
          rw [hfl] at hu
          rcases List.mem_append.1 hu with hu | hu
          · exact hA.wt u hu
          · simp at hu; exact absurd hu hne2
      · dsimp only
        rw [hfl, List.nodup_append]
        refine ⟨hA.nd, by simp, fun a ha b hb e => ?_⟩
        simp at hb; subst hb; subst e; exact hv ha
      · intro l hl
        rcases List.mem_append.1 hl with hl | hl
        · exact hA.ne l hl
        · simp at hl; subst hl; simp
      · intro u hu
        dsimp only at hu ⊢
        rw [hfl] at hu
        rcases List.mem_append.1 hu with hu | hu
        · exact hA.lt u hu
        · simp at hu; subst hu; exact hvn
      · intro u hu
        dsimp only at hu ⊢
        split
        · exact hf2
        · rename_i hne2
          rw [hfl] at hu
          rcases List.mem_append.1 hu with hu | hu
          · exact hA.fit u hu
          · simp at hu; exact absurd hu hne2
      · rcases List.mem_append.1 hu with hu | hu
        · exact .inl hu
        · right
          intro b hb
          simp at hu; subst hu; simp [own, Value.ownBlock] at hb; omega
      · exact ((unhide HP).kp.mono (js := q :: bw :: own vL) (fun k hk => .inl (by simp at hk ⊢; rcases hk with h | h <;> simp [h]))).trans hR.2 (fun i hi => .inl (by simp at hi; simp [hi]))
  · rw [hh] at h1
    have hb : A.addOk x y = false := by simp [Se.addOk, hh]
    rw [hb, addOk_no hb]
    clear h hb hNN hh
    go_enter Try.func14, Try.ntmps14
    go_wp2_with fail
    refine (unhide h1).mono ?_
    rintro e w1 ⟨rfl, rfl⟩
    go_wp2
    go_ret
    exact ⟨rfl, (unhide HH).ch⟩
end
end Go.Proofs.Ytbkneonbpcmepaa

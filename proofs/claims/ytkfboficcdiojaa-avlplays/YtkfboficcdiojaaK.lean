/- Plain facts on slots of trees in one list, with no Go in sight: what a part is, what it holds, and when it stays. -/
import Derived.Test.YtkfboficcdiojaaM
namespace Go.Proofs.Ytkfboficcdiojaa

structure Sl where
  up : Nat
  l : Nat
  r : Nat
  h : Nat
  wt : Int
  wa : Int
  sm : Sm
def Sl.zero : Sl := ⟨0, 0, 0, 0, 0, 0, Go.Proofs.Ytkfboficcdiojaa.zero⟩
abbrev Ss := Nat → Sl
def upd (S : Ss) (t : Nat) (x : Sl) : Ss := fun j => if j = t then x else S j
theorem upd_same (S : Ss) (t : Nat) (x : Sl) : upd S t x t = x := by simp [upd]
theorem upd_ne (S : Ss) {t u : Nat} (x : Sl) (h : u ≠ t) : upd S t x u = S u := by simp [upd, h]

abbrev It := Nat × Int
def rz (d : Int) (xs : List It) : List It := xs.map fun x => (x.1, x.2 + d)
def ids (xs : List It) : List Nat := xs.map Prod.fst
def smL (xs : List It) : Sm := ofR (xs.map Prod.snd)
def FitL (xs : List It) : Prop := ∀ x ∈ xs, -1099511627776 ≤ x.2 ∧ x.2 ≤ 1099511627776

theorem ids_rz (d : Int) (xs : List It) : ids (rz d xs) = ids xs := by simp [ids, rz, Function.comp_def]
theorem ids_append (xs ys : List It) : ids (xs ++ ys) = ids xs ++ ids ys := by simp [ids]
theorem ids_cons (x : It) (ys : List It) : ids (x :: ys) = x.1 :: ids ys := by simp [ids]
theorem rz_zero (xs : List It) : rz 0 xs = xs := by simp [rz]
theorem rz_rz (a b : Int) (xs : List It) : rz a (rz b xs) = rz (b + a) xs := by simp [rz, Function.comp_def, Int.add_assoc]
theorem rz_append (d : Int) (xs ys : List It) : rz d (xs ++ ys) = rz d xs ++ rz d ys := by simp [rz]
theorem rz_cons (d : Int) (x : It) (ys : List It) : rz d (x :: ys) = (x.1, x.2 + d) :: rz d ys := by simp [rz]
theorem rz_length (d : Int) (xs : List It) : (rz d xs).length = xs.length := by simp [rz]
theorem rz_take (d : Int) (n : Nat) (xs : List It) : (rz d xs).take n = rz d (xs.take n) := by simp [rz, List.map_take]
theorem rz_drop (d : Int) (n : Nat) (xs : List It) : (rz d xs).drop n = rz d (xs.drop n) := by simp [rz, List.map_drop]
theorem smL_append (xs ys : List It) : smL (xs ++ ys) = jn (smL xs) (smL ys) := by simp [smL, ofR_append]
theorem smL_nil : smL [] = zero := rfl
theorem smL_one (x : It) : smL [x] = one x.2 := by simp [smL, ofR, jn_zero_right (ok_one _)]
theorem smL_cons (x : It) (ys : List It) : smL (x :: ys) = jn (one x.2) (smL ys) := by simp [smL, ofR]
theorem smL_ok (xs : List It) : (smL xs).ok := ok_ofR _
theorem smL_c (xs : List It) : (smL xs).c = xs.length := by simp [smL, ofR_c]
theorem smL_rz (d : Int) (xs : List It) : smL (rz d xs) = lf (smL xs) d := by
  simp only [smL, lf_ofR]; congr 1; simp [rz, Function.comp_def]
theorem smL_bd {xs : List It} (h : FitL xs) (hl : xs.length ≤ 4194304) : -4611686018427387904 ≤ (smL xs).s ∧ (smL xs).s ≤ 4611686018427387904 := by
  have := ofR_s (-1099511627776) 1099511627776 (xs.map Prod.snd) (fun n hn => by
    obtain ⟨x, hx, rfl⟩ := List.mem_map.1 hn; exact h x hx)
  rw [List.length_map] at this
  unfold smL
  omega
theorem smL_ends {xs : List It} (h : FitL xs) (hn : xs ≠ []) : -1099511627776 ≤ (smL xs).a ∧ (smL xs).a ≤ (smL xs).b ∧ (smL xs).b ≤ 1099511627776 := by
  have := ofR_bd (-1099511627776) 1099511627776 (xs.map Prod.snd) (fun n hn => by
    obtain ⟨x, hx, rfl⟩ := List.mem_map.1 hn; exact h x hx) (by simpa using hn)
  exact ⟨this.1, this.2.1, this.2.2.1⟩
theorem ofR_mem (l : List Int) (n : Int) (hn : n ∈ l) : (ofR l).a ≤ n ∧ n ≤ (ofR l).b := by
  induction l with
  | nil => simp at hn
  | cons m l ih =>
    rw [ofR, jn, if_neg (by simp [one])]
    split
    · rename_i h
      have : l = [] := by rw [ofR_c] at h; exact List.length_eq_zero_iff.1 (by omega)
      subst this; simp at hn; subst hn; simp [one]
    · rename_i h
      simp only [one]
      rcases List.mem_cons.1 hn with rfl | hn
      · omega
      · have := ih hn; omega
theorem ofR_has (l : List Int) (hl : l ≠ []) : (ofR l).a ∈ l ∧ (ofR l).b ∈ l := by
  induction l with
  | nil => exact absurd rfl hl
  | cons m l ih =>
    rw [ofR, jn, if_neg (by simp [one])]
    split
    · simp [one]
    · rename_i h
      have hne : l ≠ [] := fun e => h (by rw [e]; rfl)
      have := ih hne
      simp only [one]
      constructor
      · by_cases h1 : m ≤ (ofR l).a
        · rw [Int.min_eq_left h1]; simp
        · rw [Int.min_eq_right (by omega)]; simp [this.1]
      · by_cases h1 : m ≤ (ofR l).b
        · rw [Int.max_eq_right h1]; simp [this.2]
        · rw [Int.max_eq_left (by omega)]; simp
theorem FitL.append {xs ys : List It} : FitL (xs ++ ys) ↔ FitL xs ∧ FitL ys := by
  simp only [FitL, List.mem_append]
  exact ⟨fun h => ⟨fun x hx => h x (.inl hx), fun x hx => h x (.inr hx)⟩, fun h x hx => hx.elim (h.1 x) (h.2 x)⟩
theorem FitL.cons {x : It} {ys : List It} : FitL (x :: ys) ↔ (-1099511627776 ≤ x.2 ∧ x.2 ≤ 1099511627776) ∧ FitL ys := by
  simp only [FitL, List.mem_cons]
  exact ⟨fun h => ⟨h x (.inl rfl), fun y hy => h y (.inr hy)⟩, fun h y hy => hy.elim (fun e => e ▸ h.1) (h.2 y)⟩
theorem FitL.nil : FitL [] := fun x hx => by simp at hx

/-- What a slot tells, of the parts below it. -/
structure Nd (S : Ss) (t : Nat) (xl xr xs : List It) : Prop where
  ne : t ≠ 0
  eq : xs = rz (S t).wa xl ++ (t, (S t).wt) :: rz (S t).wa xr
  h : (S t).h = 1 + max (S (S t).l).h (S (S t).r).h
  b1 : (S (S t).l).h ≤ (S (S t).r).h + 1
  b2 : (S (S t).r).h ≤ (S (S t).l).h + 1
  sm : (S t).sm = smL xs
  fit : FitL xs
  ul : (S t).l ≠ 0 → (S (S t).l).up = t
  ur : (S t).r ≠ 0 → (S (S t).r).up = t
  wa : (S t).l = 0 → (S t).r = 0 → (S t).wa = 0

def Pf (S : Ss) : Nat → Nat → List It → Prop
  | 0, t, xs => t = 0 ∧ xs = []
  | n + 1, t, xs => (t = 0 ∧ xs = []) ∨ ∃ xl xr, Pf S n (S t).l xl ∧ Pf S n (S t).r xr ∧ Nd S t xl xr xs
/-- The part of t holds xs, in their order, but for what waits above it. -/
def Pt (S : Ss) (t : Nat) (xs : List It) : Prop := ∃ n, Pf S n t xs
/-- Slot 0 is no item's. -/
def Z (S : Ss) : Prop := S 0 = Sl.zero

section
variable {S S' : Ss} {t u n m : Nat} {xs ys xl xr : List It}
theorem Pf.mono (h : Pf S n t xs) (hm : n ≤ m) : Pf S m t xs := by
  induction n generalizing t xs m with
  | zero =>
    cases m with
    | zero => exact h
    | succ m => exact .inl h
  | succ n ih =>
    cases m with
    | zero => omega
    | succ m =>
      rcases h with h | ⟨xl, xr, h1, h2, h3⟩
      · exact .inl h
      · exact .inr ⟨xl, xr, ih h1 (by omega), ih h2 (by omega), h3⟩
theorem Pt.nil : Pt S 0 [] := ⟨0, rfl, rfl⟩
theorem Pt.mk (h1 : Pt S (S t).l xl) (h2 : Pt S (S t).r xr) (h3 : Nd S t xl xr xs) : Pt S t xs := by
  obtain ⟨n, h1⟩ := h1
  obtain ⟨m, h2⟩ := h2
  exact ⟨max n m + 1, .inr ⟨xl, xr, h1.mono (by omega), h2.mono (by omega), h3⟩⟩
theorem Pt.open (h : Pt S t xs) : (t = 0 ∧ xs = []) ∨ ∃ xl xr, Pt S (S t).l xl ∧ Pt S (S t).r xr ∧ Nd S t xl xr xs := by
  obtain ⟨n, h⟩ := h
  cases n with
  | zero => exact .inl h
  | succ n =>
    rcases h with h | ⟨xl, xr, h1, h2, h3⟩
    · exact .inl h
    · exact .inr ⟨xl, xr, ⟨n, h1⟩, ⟨n, h2⟩, h3⟩
theorem Pt.node (h : Pt S t xs) (ht : t ≠ 0) : ∃ xl xr, Pt S (S t).l xl ∧ Pt S (S t).r xr ∧ Nd S t xl xr xs := by
  rcases h.open with h | h
  · exact absurd h.1 ht
  · exact h
theorem Pt.of0 (h : Pt S 0 xs) : xs = [] := by
  rcases h.open with h | ⟨_, _, _, _, h⟩
  · exact h.2
  · exact absurd rfl h.ne
theorem Pt.rec' {P : Nat → List It → Prop} (h0 : P 0 []) (hs : ∀ t xl xr xs, Pt S (S t).l xl → Pt S (S t).r xr → Nd S t xl xr xs → P (S t).l xl → P (S t).r xr → P t xs) : Pt S t xs → P t xs := by
  rintro ⟨n, h⟩
  induction n generalizing t xs with
  | zero => obtain ⟨rfl, rfl⟩ := h; exact h0
  | succ n ih =>
    rcases h with ⟨rfl, rfl⟩ | ⟨xl, xr, h1, h2, h3⟩
    · exact h0
    · exact hs t xl xr xs ⟨n, h1⟩ ⟨n, h2⟩ h3 (ih h1) (ih h2)
theorem Nd.idl (h : Nd S t xl xr xs) : ids xs = ids xl ++ t :: ids xr := by rw [h.eq, ids_append, ids_cons, ids_rz, ids_rz]
theorem Nd.length (h : Nd S t xl xr xs) : xs.length = xl.length + 1 + xr.length := by rw [h.eq]; simp [rz]; omega
theorem Nd.mem (h : Nd S t xl xr xs) : t ∈ ids xs := by rw [h.idl]; simp
theorem Pt.ne_nil (h : Pt S t xs) (ht : t ≠ 0) : xs ≠ [] := by
  obtain ⟨xl, xr, _, _, h⟩ := h.node ht
  intro e; have := h.length; rw [e] at this; simp at this; omega
theorem Pt.mem (h : Pt S t xs) (ht : t ≠ 0) : t ∈ ids xs := by
  obtain ⟨xl, xr, _, _, h⟩ := h.node ht; exact h.mem
theorem Pt.zero_of (h : Pt S t []) : t = 0 := Classical.byContradiction fun ht => h.ne_nil ht rfl
theorem Pt.ne0 (h : Pt S t xs) : ∀ u ∈ ids xs, u ≠ 0 := by
  refine Pt.rec' (P := fun _ xs => ∀ u ∈ ids xs, u ≠ 0) (by simp [ids]) ?_ h
  intro t xl xr xs _ _ h3 h4 h5 u hu
  rw [h3.idl] at hu
  rcases List.mem_append.1 hu with h | h
  · exact h4 u h
  · rcases List.mem_cons.1 h with rfl | h
    · exact h3.ne
    · exact h5 u h
theorem Pt.fit (h : Pt S t xs) : FitL xs := by
  rcases h.open with ⟨rfl, rfl⟩ | ⟨_, _, _, _, h⟩
  · exact FitL.nil
  · exact h.fit
theorem Pt.sm (h : Pt S t xs) (z : Z S) : (S t).sm = smL xs := by
  rcases h.open with ⟨rfl, rfl⟩ | ⟨_, _, _, _, h⟩
  · rw [z]; rfl
  · exact h.sm
theorem Pt.c (h : Pt S t xs) (z : Z S) : (S t).sm.c = xs.length := by rw [h.sm z, smL_c]
theorem Pt.h0 (h : Pt S t xs) (z : Z S) : (S t).h = 0 ↔ t = 0 := by
  constructor
  · intro e
    apply Classical.byContradiction
    intro ht
    obtain ⟨_, _, _, _, h⟩ := h.node ht
    have := h.h; omega
  · rintro rfl; rw [z]; rfl
theorem Pt.h_le (h : Pt S t xs) (z : Z S) : (S t).h ≤ xs.length := by
  refine Pt.rec' (P := fun t xs => (S t).h ≤ xs.length) (by rw [z]; simp [Sl.zero]) ?_ h
  intro t xl xr xs _ _ h3 h4 h5
  rw [h3.h, h3.length]; omega

/-- Two slots are the same but for what they are below. -/
def Bt (x y : Sl) : Prop := x.l = y.l ∧ x.r = y.r ∧ x.h = y.h ∧ x.wt = y.wt ∧ x.wa = y.wa ∧ x.sm = y.sm
theorem Bt.refl (x : Sl) : Bt x x := ⟨rfl, rfl, rfl, rfl, rfl, rfl⟩
theorem Bt.of {x y : Sl} (h : x = y) : Bt x y := h ▸ Bt.refl _
theorem Nd.congr (h : Nd S t xl xr xs) (ht : Bt (S' t) (S t)) (hl : (S' (S t).l).h = (S (S t).l).h) (hr : (S' (S t).r).h = (S (S t).r).h) (ul : (S t).l ≠ 0 → (S' (S t).l).up = (S (S t).l).up) (ur : (S t).r ≠ 0 → (S' (S t).r).up = (S (S t).r).up) : Nd S' t xl xr xs := by
  obtain ⟨a1, a2, a3, a4, a5, a6⟩ := ht
  exact ⟨h.ne, by rw [a5, a4]; exact h.eq, by rw [a3, a1, a2, hl, hr]; exact h.h, by rw [a1, a2, hl, hr]; exact h.b1, by rw [a1, a2, hl, hr]; exact h.b2, by rw [a6]; exact h.sm, h.fit,
    fun h0 => by rw [a1] at h0 ⊢; rw [ul h0]; exact h.ul h0, fun h0 => by rw [a2] at h0 ⊢; rw [ur h0]; exact h.ur h0, fun h1 h2 => by rw [a1] at h1; rw [a2] at h2; rw [a5]; exact h.wa h1 h2⟩
/-- A part stays, if its slots do, but for what its top is below. -/
theorem Pt.congr (h : Pt S t xs) (h0 : S' 0 = S 0) (nd : (ids xs).Nodup) (hc : ∀ u ∈ ids xs, u ≠ t → S' u = S u) (ht : Bt (S' t) (S t)) : Pt S' t xs := by
  revert nd hc ht
  refine Pt.rec' (P := fun t xs => (ids xs).Nodup → (∀ u ∈ ids xs, u ≠ t → S' u = S u) → Bt (S' t) (S t) → Pt S' t xs) (fun _ _ _ => Pt.nil) ?_ h
  intro t xl xr xs p1 p2 h3 h4 h5 nd hc ht
  rw [h3.idl] at nd hc
  rw [List.nodup_append] at nd
  obtain ⟨n1, n2, n3⟩ := nd
  rw [List.nodup_cons] at n2
  have hl : ∀ u ∈ ids xl, S' u = S u := fun u hu => hc u (by simp [hu]) (fun e => n3 u hu t (by simp) e)
  have hr : ∀ u ∈ ids xr, S' u = S u := fun u hu => hc u (by simp [hu]) (fun e => n2.1 (e ▸ hu))
  have el : S' (S t).l = S (S t).l := by
    by_cases e : (S t).l = 0
    · rw [e, h0]
    · exact hl _ (p1.mem e)
  have er : S' (S t).r = S (S t).r := by
    by_cases e : (S t).r = 0
    · rw [e, h0]
    · exact hr _ (p2.mem e)
  have q1 := h4 n1 (fun u hu _ => hl u hu) (Bt.of el)
  have q2 := h5 n2.2 (fun u hu _ => hr u hu) (Bt.of er)
  refine Pt.mk (xl := xl) (xr := xr) (by rw [ht.1]; exact q1) (by rw [ht.2.1]; exact q2) (h3.congr ht (by rw [el]) (by rw [er]) (fun _ => by rw [el]) (fun _ => by rw [er]))
/-- A part stays, if its slots do. -/
theorem Pt.frame (h : Pt S t xs) (h0 : S' 0 = S 0) (nd : (ids xs).Nodup) (hc : ∀ u ∈ ids xs, S' u = S u) : Pt S' t xs := by
  refine h.congr h0 nd (fun u hu _ => hc u hu) ?_
  by_cases e : t = 0
  · subst e; rw [h0]; exact Bt.refl _
  · exact Bt.of (hc t (h.mem e))
end
end Go.Proofs.Ytkfboficcdiojaa

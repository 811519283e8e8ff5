/- Items with their weights, and parts of lists of them. -/
import Derived.Test.YtbkneonbpcmepaaM
namespace Go.Proofs.Ytbkneonbpcmepaa

abbrev It := (Nat × Nat) × Int
def rz (d : Int) (xs : List It) : List It := xs.map fun x => (x.1, x.2 + d)
def ids (xs : List It) : List (Nat × Nat) := xs.map Prod.fst
def smL (xs : List It) : Sm := ofR (xs.map Prod.snd)
def FitL (xs : List It) : Prop := ∀ x ∈ xs, -1099511627776 ≤ x.2 ∧ x.2 ≤ 1099511627776

theorem ids_rz (d : Int) (xs : List It) : ids (rz d xs) = ids xs := by simp [ids, rz, Function.comp_def]
theorem ids_append (xs ys : List It) : ids (xs ++ ys) = ids xs ++ ids ys := by simp [ids]
theorem ids_cons (x : It) (ys : List It) : ids (x :: ys) = x.1 :: ids ys := by simp [ids]
theorem rz_zero (xs : List It) : rz 0 xs = xs := by simp [rz]
theorem rz_rz (a b : Int) (xs : List It) : rz a (rz b xs) = rz (b + a) xs := by simp [rz, Function.comp_def, Int.add_assoc]
theorem rz_append (d : Int) (xs ys : List It) : rz d (xs ++ ys) = rz d xs ++ rz d ys := by simp [rz]
theorem rz_cons (d : Int) (x : It) (ys : List It) : rz d (x :: ys) = (x.1, x.2 + d) :: rz d ys := by simp [rz]
theorem rz_length (d : Int) (xs : List It) : (rz d xs).length = xs.length := by simp [rz]
theorem rz_take (d : Int) (n : Nat) (xs : List It) : (rz d xs).take n = rz d (xs.take n) := by simp [rz, List.map_take]
theorem rz_drop (d : Int) (n : Nat) (xs : List It) : (rz d xs).drop n = rz d (xs.drop n) := by simp [rz, List.map_drop]
theorem smL_append (xs ys : List It) : smL (xs ++ ys) = jn (smL xs) (smL ys) := by simp [smL, ofR_append]
theorem smL_nil : smL [] = zero := rfl
theorem smL_one (x : It) : smL [x] = one x.2 := by simp [smL, ofR, jn_zero_right (ok_one _)]
theorem smL_cons (x : It) (ys : List It) : smL (x :: ys) = jn (one x.2) (smL ys) := by simp [smL, ofR]
theorem smL_ok (xs : List It) : (smL xs).ok := ok_ofR _
theorem smL_c (xs : List It) : (smL xs).c = xs.length := by simp [smL, ofR_c]
theorem smL_rz (d : Int) (xs : List It) : smL (rz d xs) = lf (smL xs) d := by
  simp only [smL, lf_ofR]; congr 1; simp [rz, Function.comp_def]
theorem smL_bd {xs : List It} (h : FitL xs) (hl : xs.length ≤ 4194304) : -4611686018427387904 ≤ (smL xs).s ∧ (smL xs).s ≤ 4611686018427387904 := by
  have := ofR_s (-1099511627776) 1099511627776 (xs.map Prod.snd) (fun n hn => by
    obtain ⟨x, hx, rfl⟩ := List.mem_map.1 hn; exact h x hx)
  rw [List.length_map] at this
  unfold smL
  omega
theorem smL_ends {xs : List It} (h : FitL xs) (hn : xs ≠ []) : -1099511627776 ≤ (smL xs).a ∧ (smL xs).a ≤ (smL xs).b ∧ (smL xs).b ≤ 1099511627776 := by
  have := ofR_bd (-1099511627776) 1099511627776 (xs.map Prod.snd) (fun n hn => by
    obtain ⟨x, hx, rfl⟩ := List.mem_map.1 hn; exact h x hx) (by simpa using hn)
  exact ⟨this.1, this.2.1, this.2.2.1⟩
theorem ofR_mem (l : List Int) (n : Int) (hn : n ∈ l) : (ofR l).a ≤ n ∧ n ≤ (ofR l).b := by
  induction l with
  | nil => simp at hn
  | cons m l ih =>
    rw [ofR, jn, if_neg (by simp [one])]
    split
    · rename_i h
      have : l = [] := by rw [ofR_c] at h; exact List.length_eq_zero_iff.1 (by omega)
      subst this; simp at hn; subst hn; simp [one]
    · rename_i h
      simp only [one]
      rcases List.mem_cons.1 hn with rfl | hn
      · omega
      · have := ih hn; omega
theorem ofR_has (l : List Int) (hl : l ≠ []) : (ofR l).a ∈ l ∧ (ofR l).b ∈ l := by
  induction l with
  | nil => exact absurd rfl hl
  | cons m l ih =>
    rw [ofR, jn, if_neg (by simp [one])]
    split
    · simp [one]
    · rename_i h
      have hne : l ≠ [] := fun e => h (by rw [e]; rfl)
      have := ih hne
      simp only [one]
      constructor
      · by_cases h1 : m ≤ (ofR l).a
        · rw [Int.min_eq_left h1]; simp
        · rw [Int.min_eq_right (by omega)]; simp [this.1]
      · by_cases h1 : m ≤ (ofR l).b
        · rw [Int.max_eq_right h1]; simp [this.2]
        · rw [Int.max_eq_left (by omega)]; simp
theorem FitL.append {xs ys : List It} : FitL (xs ++ ys) ↔ FitL xs ∧ FitL ys := by
  simp only [FitL, List.mem_append]
  exact ⟨fun h => ⟨fun x hx => h x (.inl hx), fun x hx => h x (.inr hx)⟩, fun h x hx => hx.elim (h.1 x) (h.2 x)⟩
theorem FitL.cons {x : It} {ys : List It} : FitL (x :: ys) ↔ (-1099511627776 ≤ x.2 ∧ x.2 ≤ 1099511627776) ∧ FitL ys := by
  simp only [FitL, List.mem_cons]
  exact ⟨fun h => ⟨h x (.inl rfl), fun y hy => h y (.inr hy)⟩, fun h y hy => hy.elim (fun e => e ▸ h.1) (h.2 y)⟩
theorem FitL.nil : FitL [] := fun x hx => by simp at hx

/-- The places from f on to below t. -/
def slc {α : Type} (f t : Int) (xs : List α) : List α := (xs.take t.toNat).drop f.toNat
section
variable {α : Type} {f t d : Int} {xs ys : List α}
theorem slc_nil : slc f t ([] : List α) = [] := by simp [slc]
theorem slc_all (h1 : f ≤ 0) (h2 : (xs.length : Int) ≤ t) : slc f t xs = xs := by
  unfold slc
  rw [show f.toNat = 0 by omega, List.drop_zero, List.take_of_length_le (by omega)]
theorem slc_append (xs ys : List α) : slc f t (xs ++ ys) = slc f t xs ++ slc (f - xs.length) (t - xs.length) ys := by
  unfold slc
  rw [List.take_append, List.drop_append]
  congr 1
  have e1 : (t - (xs.length : Int)).toNat = t.toNat - xs.length := by omega
  rw [e1, List.length_take]
  by_cases h : xs.length ≤ t.toNat
  · congr 1; omega
  · rw [show t.toNat - xs.length = 0 by omega]; simp
theorem slc_cons (x : α) (ys : List α) : slc f t (x :: ys) = (if f ≤ 0 ∧ 0 < t then [x] else []) ++ slc (f - 1) (t - 1) ys := by
  have := slc_append (f := f) (t := t) [x] ys
  simp only [List.cons_append, List.nil_append, List.length_singleton] at this
  rw [this]
  congr 1
  unfold slc
  split
  · rename_i h
    rw [show f.toNat = 0 by omega]
    obtain ⟨k, hk⟩ : ∃ k, t.toNat = k + 1 := ⟨t.toNat - 1, by omega⟩
    rw [hk]; simp
  · rename_i h
    by_cases h0 : 0 < t
    · obtain ⟨k, hk⟩ : ∃ k, f.toNat = k + 1 := ⟨f.toNat - 1, by omega⟩
      rw [hk]
      exact List.drop_of_length_le (by rw [List.length_take]; simp; omega)
    · rw [show t.toNat = 0 by omega]; simp
theorem slc_none (h : (xs.length : Int) ≤ f) : slc f t xs = [] := by
  unfold slc
  exact List.drop_of_length_le (by rw [List.length_take]; omega)
theorem slc_none' (h : t ≤ 0) : slc f t xs = [] := by
  unfold slc
  rw [show t.toNat = 0 by omega]; simp
theorem slc_map {β : Type} (g : α → β) : slc f t (xs.map g) = (slc f t xs).map g := by simp [slc, List.map_take, List.map_drop]
theorem slc_mem {x : α} (h : x ∈ slc f t xs) : x ∈ xs := List.mem_of_mem_take (List.mem_of_mem_drop h)
theorem slc_len : (slc f t xs).length ≤ xs.length := by
  unfold slc
  rw [List.length_drop, List.length_take]; omega
end
theorem slc_rz (f t d : Int) (xs : List It) : slc f t (rz d xs) = rz d (slc f t xs) := slc_map _
theorem FitL.slc {f t : Int} {xs : List It} (h : FitL xs) : FitL (slc f t xs) := fun x hx => h x (slc_mem hx)
/-- The places from f on to below e raised by d. -/
def rrL (f e d : Int) : List It → List It
  | [] => []
  | x :: xs => (if f ≤ 0 ∧ 0 < e then (x.1, x.2 + d) else x) :: rrL (f - 1) (e - 1) d xs
section
variable {f e d c : Int} {xs ys : List It}
theorem rrL_length (f e d : Int) (xs : List It) : (rrL f e d xs).length = xs.length := by
  induction xs generalizing f e with
  | nil => rfl
  | cons x xs ih => simp [rrL, ih]
theorem rrL_ids (f e d : Int) (xs : List It) : ids (rrL f e d xs) = ids xs := by
  induction xs generalizing f e with
  | nil => rfl
  | cons x xs ih =>
    rw [rrL, ids_cons, ids_cons, ih]
    split <;> rfl
theorem rrL_append (f e d : Int) (xs ys : List It) : rrL f e d (xs ++ ys) = rrL f e d xs ++ rrL (f - xs.length) (e - xs.length) d ys := by
  induction xs generalizing f e with
  | nil => simp [rrL]
  | cons x xs ih =>
    rw [List.cons_append, rrL, ih, rrL, List.cons_append]
    congr 2
    simp only [List.length_cons]
    congr 1 <;> omega
theorem rrL_all (h1 : f ≤ 0) (h2 : (xs.length : Int) ≤ e) : rrL f e d xs = rz d xs := by
  induction xs generalizing f e with
  | nil => rfl
  | cons x xs ih =>
    simp only [List.length_cons] at h2
    rw [rrL, if_pos (by omega), ih (by omega) (by omega), rz_cons]
theorem rrL_none (h : (xs.length : Int) ≤ f ∨ e ≤ 0) : rrL f e d xs = xs := by
  induction xs generalizing f e with
  | nil => rfl
  | cons x xs ih =>
    simp only [List.length_cons] at h
    rw [rrL, if_neg (by omega), ih (by omega)]
theorem rrL_rz (f e d c : Int) (xs : List It) : rrL f e d (rz c xs) = rz c (rrL f e d xs) := by
  induction xs generalizing f e with
  | nil => rfl
  | cons x xs ih =>
    rw [rz_cons, rrL, ih, rrL, rz_cons]
    congr 1
    split
    · dsimp only; congr 1; omega
    · rfl
theorem rrL_cons (x : It) (f e d : Int) (xs : List It) : rrL f e d (x :: xs) = (if f ≤ 0 ∧ 0 < e then (x.1, x.2 + d) else x) :: rrL (f - 1) (e - 1) d xs := rfl
theorem FitL.rr_part (h : FitL (rrL f e d xs)) {ys : List It} (hy : ∀ y ∈ ys, y ∈ rrL f e d xs) : FitL ys := fun y hy' => h y (hy y hy')
end

section
variable {xs : List It}
theorem FitL.mid {a b : Int} (h1 : FitL xs) (h2 : FitL (rz b xs)) (h : (0 ≤ a ∧ a ≤ b) ∨ (b ≤ a ∧ a ≤ 0)) : FitL (rz a xs) := by
  intro x hx
  obtain ⟨y, hy, rfl⟩ := List.mem_map.1 hx
  have k1 := h1 y hy
  have k2 := h2 (y.1, y.2 + b) (List.mem_map.2 ⟨y, hy, rfl⟩)
  dsimp only at *
  omega
theorem FitL.by {b : Int} (h1 : FitL xs) (h2 : FitL (rz b xs)) (h : xs ≠ []) : -2199023255552 ≤ b ∧ b ≤ 2199023255552 := by
  obtain ⟨y, hy⟩ := List.exists_mem_of_ne_nil _ h
  have k1 := h1 y hy
  have k2 := h2 (y.1, y.2 + b) (List.mem_map.2 ⟨y, hy, rfl⟩)
  dsimp only at *
  omega
end
end Go.Proofs.Ytbkneonbpcmepaa

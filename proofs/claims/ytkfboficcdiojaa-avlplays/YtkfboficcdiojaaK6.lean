/- Plain facts on parts of lists. -/
import Derived.Test.YtkfboficcdiojaaK5
namespace Go.Proofs.Ytkfboficcdiojaa

/-- The places from f on to below t. -/
def slc {α : Type} (f t : Int) (xs : List α) : List α := (xs.take t.toNat).drop f.toNat
section
variable {α : Type} {f t d : Int} {xs ys : List α}
theorem slc_nil : slc f t ([] : List α) = [] := by simp [slc]
theorem slc_all (h1 : f ≤ 0) (h2 : (xs.length : Int) ≤ t) : slc f t xs = xs := by
  unfold slc
  rw [show f.toNat = 0 by omega, List.drop_zero, List.take_of_length_le (by omega)]
theorem slc_append (xs ys : List α) : slc f t (xs ++ ys) = slc f t xs ++ slc (f - xs.length) (t - xs.length) ys := by
  unfold slc
  rw [List.take_append, List.drop_append]
  congr 1
  have e1 : (t - (xs.length : Int)).toNat = t.toNat - xs.length := by omega
  rw [e1, List.length_take]
  by_cases h : xs.length ≤ t.toNat
  · congr 1; omega
  · rw [show t.toNat - xs.length = 0 by omega]; simp
theorem slc_cons (x : α) (ys : List α) : slc f t (x :: ys) = (if f ≤ 0 ∧ 0 < t then [x] else []) ++ slc (f - 1) (t - 1) ys := by
  have := slc_append (f := f) (t := t) [x] ys
  simp only [List.cons_append, List.nil_append, List.length_singleton] at this
  rw [this]
  congr 1
  unfold slc
  split
  · rename_i h
    rw [show f.toNat = 0 by omega]
    obtain ⟨k, hk⟩ : ∃ k, t.toNat = k + 1 := ⟨t.toNat - 1, by omega⟩
    rw [hk]; simp
  · rename_i h
    by_cases h0 : 0 < t
    · obtain ⟨k, hk⟩ : ∃ k, f.toNat = k + 1 := ⟨f.toNat - 1, by omega⟩
      rw [hk]
      exact List.drop_of_length_le (by rw [List.length_take]; simp; omega)
    · rw [show t.toNat = 0 by omega]; simp
theorem slc_none (h : (xs.length : Int) ≤ f) : slc f t xs = [] := by
  unfold slc
  exact List.drop_of_length_le (by rw [List.length_take]; omega)
theorem slc_none' (h : t ≤ 0) : slc f t xs = [] := by
  unfold slc
  rw [show t.toNat = 0 by omega]; simp
theorem slc_map {β : Type} (g : α → β) : slc f t (xs.map g) = (slc f t xs).map g := by simp [slc, List.map_take, List.map_drop]
theorem slc_mem {x : α} (h : x ∈ slc f t xs) : x ∈ xs := List.mem_of_mem_take (List.mem_of_mem_drop h)
theorem slc_len : (slc f t xs).length ≤ xs.length := by
  unfold slc
  rw [List.length_drop, List.length_take]; omega
end
theorem slc_rz (f t d : Int) (xs : List It) : slc f t (rz d xs) = rz d (slc f t xs) := slc_map _
/-- The sum of a part of what a slot's part holds. -/
theorem slc_nd {S : Ss} {t : Nat} {xl xr xs : List It} (nd : Nd S t xl xr xs) (f e : Int) : slc f e xs = rz (S t).wa (slc f e xl) ++ ((if f ≤ (xl.length : Int) ∧ (xl.length : Int) < e then [(t, (S t).wt)] else []) ++ rz (S t).wa (slc (f - xl.length - 1) (e - xl.length - 1) xr)) := by
  rw [nd.eq, slc_append, slc_cons, slc_rz, slc_rz, rz_length]
  congr 2
  have : (f - (xl.length : Int) ≤ 0 ∧ 0 < e - (xl.length : Int)) ↔ (f ≤ (xl.length : Int) ∧ (xl.length : Int) < e) := by omega
  simp only [this]
theorem FitL.slc {f t : Int} {xs : List It} (h : FitL xs) : FitL (slc f t xs) := fun x hx => h x (slc_mem hx)
theorem jn_swap {a m b : List It} : smL (a ++ (m ++ b)) = jn (smL (a ++ b)) (smL m) := by
  rw [smL_append, smL_append, smL_append, jn_comm (smL_ok m) (smL_ok b), ← jn_assoc (smL_ok a) (smL_ok b) (smL_ok m)]
end Go.Proofs.Ytkfboficcdiojaa

/- Sums of a sequence's parts, in plain mathematics. -/
import Derived.Test.YtbkneonbpcmepaaA1
namespace Go.Proofs.Ytbkneonbpcmepaa
set_option linter.unusedVariables false
set_option linter.unusedSimpArgs false

section
variable {n m c k i : Nat} {g W : Nat → Int}
theorem ofR_sum (l : List Int) : (ofR l).s = l.sum := by
  induction l with
  | nil => rfl
  | cons x l ih =>
    rw [ofR, jn, if_neg (by simp [one])]
    split
    · rename_i h
      have : l = [] := List.length_eq_zero_iff.1 (by have := ofR_c l; omega)
      subst this; simp [one]
    · simp [one, ih]
theorem gW_in (h : i < m) : gW m g i = g i := by simp [gW, h]
theorem one_all : (st k [rg 0 k] W).allI 0 = ofR ((rg 0 k).map W) := by
  by_cases h : 0 < k
  · exact st_all (v := 0) (one_nd k) (l := rg 0 k) (by simp) (by rw [rg_mem]; omega)
  · obtain rfl : k = 0 := by omega
    rfl
theorem two_all (h0 : 0 < c) (h : c < k) : (st k [rg 0 c, rg c (k - c)] W).allI 0 = ofR ((rg 0 c).map W) ∧ (st k [rg 0 c, rg c (k - c)] W).allI (c : Int) = ofR ((rg c (k - c)).map W) :=
  ⟨st_all (v := 0) (two_nd (by omega)) (l := rg 0 c) (by simp) (by rw [rg_mem]; omega), st_all (v := c) (two_nd (by omega)) (l := rg c (k - c)) (by simp) (by rw [rg_mem]; omega)⟩
theorem all_split (h : c ≤ k) : ofR ((rg 0 k).map W) = jn (ofR ((rg 0 c).map W)) (ofR ((rg c (k - c)).map W)) := by
  have e3 := rg_app (s := 0) (a := c) (b := k - c)
  rw [Nat.zero_add, show c + (k - c) = k by omega] at e3
  rw [← ofR_append, ← List.map_append, e3]
theorem ofR_four (l : List Int) (h : l ≠ []) : ∃ s a b, ofR l = ⟨(l.length : Int), s, a, b⟩ := ⟨(ofR l).s, (ofR l).a, (ofR l).b, by rw [← ofR_c]⟩
theorem map_ne {s a : Nat} (h : 0 < a) : (rg s a).map W ≠ [] := fun e => rg_ne (s := s) h (List.map_eq_nil_iff.1 e)
theorem sum_bd {s a : Nat} (h : ∀ v, s ≤ v → v < s + a → -32768 ≤ W v ∧ W v ≤ 32767) (ha : a ≤ 1000) : -32768000 ≤ (ofR ((rg s a).map W)).s ∧ (ofR ((rg s a).map W)).s ≤ 32768000 := by
  have := ofR_s (-32768) 32767 ((rg s a).map W) (fun x hx => by
    obtain ⟨v, hv, rfl⟩ := List.mem_map.1 hx
    rw [rg_mem] at hv
    exact h v hv.1 hv.2)
  rw [List.length_map, rg_len] at this
  omega
theorem sum_upd {x : Int} (h : c < k) : (ofR ((rg 0 k).map (fun u => if u = c then x else W u))).s = (ofR ((rg 0 k).map W)).s - W c + x := by
  rw [ofR_sum, ofR_sum]
  have e : rg 0 k = rg 0 c ++ (c :: rg (c + 1) (k - c - 1)) := by
    have h1 := rg_app (s := 0) (a := c) (b := k - c)
    have h2 := rg_app (s := c) (a := 1) (b := k - c - 1)
    rw [Nat.zero_add, show c + (k - c) = k by omega] at h1
    rw [show 1 + (k - c - 1) = k - c by omega] at h2
    rw [← h1, ← h2]; rfl
  rw [e, List.map_append, List.map_append, List.map_cons, List.map_cons, List.sum_append, List.sum_append, List.sum_cons, List.sum_cons, if_pos rfl]
  have e1 : (rg 0 c).map (fun u => if u = c then x else W u) = (rg 0 c).map W := List.map_congr_left fun v hv => if_neg (by rw [rg_mem] at hv; omega)
  have e2 : (rg (c + 1) (k - c - 1)).map (fun u => if u = c then x else W u) = (rg (c + 1) (k - c - 1)).map W := List.map_congr_left fun v hv => if_neg (by rw [rg_mem] at hv; omega)
  rw [e1, e2]
  omega
end
end Go.Proofs.Ytbkneonbpcmepaa

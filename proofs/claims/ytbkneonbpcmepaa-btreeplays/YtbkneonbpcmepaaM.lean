/- Plain facts on sums of weights, with no Go in sight: joining is associative and commutative, the sum of a list by joining, its bounds, and what raising does to it. -/
namespace Go.Proofs.Ytbkneonbpcmepaa

/-- A sum of weights: how many, what they come to, the least, the greatest. -/
structure Sm where
  c : Int
  s : Int
  a : Int
  b : Int

theorem Sm.same {x y : Sm} (h1 : x.c = y.c) (h2 : x.s = y.s) (h3 : x.a = y.a) (h4 : x.b = y.b) : x = y := by
  cases x; cases y; simp_all

def jn (x y : Sm) : Sm := if x.c = 0 then y else if y.c = 0 then x else ⟨x.c + y.c, x.s + y.s, min x.a y.a, max x.b y.b⟩
def lf (x : Sm) (n : Int) : Sm := if x.c = 0 then x else ⟨x.c, x.s + x.c * n, x.a + n, x.b + n⟩
def one (n : Int) : Sm := ⟨1, n, n, n⟩
def zero : Sm := ⟨0, 0, 0, 0⟩

/-- The sum of a list, from the left. -/
def ofL (l : List Int) : Sm := l.foldl (fun x n => jn x (one n)) zero
/-- The sum of a list, from the right. -/
def ofR : List Int → Sm
  | [] => zero
  | n :: l => jn (one n) (ofR l)

/-- A sum that there can be. -/
def Sm.ok (x : Sm) : Prop := 0 ≤ x.c ∧ (x.c = 0 → x = zero)

theorem ok_zero : zero.ok := ⟨by simp [zero], fun _ => rfl⟩
theorem ok_one (n : Int) : (one n).ok := ⟨by simp [one], fun h => by simp [one] at h⟩
theorem ok_jn {x y : Sm} (hx : x.ok) (hy : y.ok) : (jn x y).ok := by
  unfold jn
  split
  · exact hy
  · split
    · exact hx
    · rename_i h1 h2
      obtain ⟨h3, _⟩ := hx
      obtain ⟨h4, _⟩ := hy
      exact ⟨by simp; omega, fun h => by simp at h; omega⟩

theorem jn_zero_left (x : Sm) : jn zero x = x := by simp [jn, zero]
theorem jn_zero_right {x : Sm} (h : x.ok) : jn x zero = x := by
  unfold jn
  split
  · rename_i h0; exact (h.2 h0).symm
  · simp [zero]
theorem jn_comm {x y : Sm} (hx : x.ok) (hy : y.ok) : jn x y = jn y x := by
  by_cases h1 : x.c = 0
  · rw [hx.2 h1, jn_zero_left, jn_zero_right hy]
  · by_cases h2 : y.c = 0
    · rw [hy.2 h2, jn_zero_left, jn_zero_right hx]
    · simp only [jn, h1, h2, if_false]
      exact Sm.same (by simp; omega) (by simp; omega) (by simp; omega) (by simp; omega)
theorem jn_assoc {x y z : Sm} (hx : x.ok) (hy : y.ok) (hz : z.ok) : jn (jn x y) z = jn x (jn y z) := by
  by_cases h1 : x.c = 0
  · rw [hx.2 h1, jn_zero_left, jn_zero_left]
  · by_cases h2 : y.c = 0
    · rw [hy.2 h2, jn_zero_left, jn_zero_right hx]
    · by_cases h3 : z.c = 0
      · rw [hz.2 h3, jn_zero_right hy, jn_zero_right (ok_jn hx hy)]
      · have g1 : x.c + y.c ≠ 0 := by have := hx.1; have := hy.1; omega
        have g2 : y.c + z.c ≠ 0 := by have := hz.1; have := hy.1; omega
        simp only [jn, h1, h2, h3, g1, g2, if_false]
        exact Sm.same (by dsimp only; omega) (by dsimp only; omega) (by dsimp only; omega) (by dsimp only; omega)

theorem ok_ofR (l : List Int) : (ofR l).ok := by
  induction l with
  | nil => exact ok_zero
  | cons n l ih => exact ok_jn (ok_one n) ih
theorem foldl_eq (l : List Int) : ∀ x : Sm, x.ok → l.foldl (fun x n => jn x (one n)) x = jn x (ofR l) := by
  induction l with
  | nil => intro x hx; exact (jn_zero_right hx).symm
  | cons n l ih => intro x hx; rw [List.foldl_cons, ih _ (ok_jn hx (ok_one n))]; exact jn_assoc hx (ok_one n) (ok_ofR l)
theorem ofL_eq (l : List Int) : ofL l = ofR l := by rw [ofL, foldl_eq l zero ok_zero, jn_zero_left]
theorem ofR_append (l m : List Int) : ofR (l ++ m) = jn (ofR l) (ofR m) := by
  induction l with
  | nil => exact (jn_zero_left _).symm
  | cons n l ih => rw [List.cons_append, ofR, ih, ofR, jn_assoc (ok_one n) (ok_ofR l) (ok_ofR m)]
theorem ofL_append (l m : List Int) : ofL (l ++ m) = jn (ofL l) (ofL m) := by rw [ofL_eq, ofL_eq, ofL_eq, ofR_append]
theorem ofL_comm (l m : List Int) : jn (ofL l) (ofL m) = jn (ofL m) (ofL l) := by rw [ofL_eq, ofL_eq]; exact jn_comm (ok_ofR l) (ok_ofR m)
theorem ofL_one (n : Int) : ofL [n] = one n := by simp [ofL, jn_zero_left]

theorem ofR_c (l : List Int) : (ofR l).c = l.length := by
  induction l with
  | nil => rfl
  | cons n l ih =>
    rw [ofR, jn, if_neg (by simp [one])]
    split
    · rename_i h; rw [h] at ih; simp [one]; omega
    · simp [one]; omega

/-- What holds of a sum of numbers between two ends. -/
theorem ofR_bd (lo hi : Int) (l : List Int) (h : ∀ n ∈ l, lo ≤ n ∧ n ≤ hi) (hne : l ≠ []) :
    lo ≤ (ofR l).a ∧ (ofR l).a ≤ (ofR l).b ∧ (ofR l).b ≤ hi ∧ (ofR l).c * (ofR l).a ≤ (ofR l).s ∧ (ofR l).s ≤ (ofR l).c * (ofR l).b := by
  induction l with
  | nil => exact absurd rfl hne
  | cons n l ih =>
    have hn := h n (by simp)
    have hl : ∀ k ∈ l, lo ≤ k ∧ k ≤ hi := fun k hk => h k (by simp [hk])
    rw [ofR]
    by_cases h0 : l = []
    · subst h0
      rw [show ofR [] = zero from rfl, jn_zero_right (ok_one n)]
      simp [one]; omega
    · obtain ⟨i1, i2, i3, i4, i5⟩ := ih hl h0
      have hc : (ofR l).c ≠ 0 := by rw [ofR_c]; have := List.length_pos_iff.2 h0; omega
      have hc0 := (ok_ofR l).1
      generalize ofR l = y at *
      obtain ⟨c, s, a, b⟩ := y
      simp only at *
      rw [jn, if_neg (by simp [one]), if_neg hc]
      simp only [one]
      have m1 : c * min n a ≤ c * a := Int.mul_le_mul_of_nonneg_left (by omega) hc0
      have m2 : c * b ≤ c * max n b := Int.mul_le_mul_of_nonneg_left (by omega) hc0
      have e1 : (1 + c) * min n a = min n a + c * min n a := by rw [Int.add_mul]; omega
      have e2 : (1 + c) * max n b = max n b + c * max n b := by rw [Int.add_mul]; omega
      rw [e1, e2]
      refine ⟨by omega, by omega, by omega, by omega, by omega⟩

theorem ofR_s (lo hi : Int) (l : List Int) (h : ∀ n ∈ l, lo ≤ n ∧ n ≤ hi) : l.length * lo ≤ (ofR l).s ∧ (ofR l).s ≤ l.length * hi := by
  by_cases h0 : l = []
  · subst h0; simp [ofR, zero]
  · obtain ⟨i1, i2, i3, i4, i5⟩ := ofR_bd lo hi l h h0
    rw [ofR_c] at i4 i5
    have m1 : (l.length : Int) * lo ≤ l.length * (ofR l).a := Int.mul_le_mul_of_nonneg_left i1 (by omega)
    have m2 : (l.length : Int) * (ofR l).b ≤ l.length * hi := Int.mul_le_mul_of_nonneg_left i3 (by omega)
    omega

theorem lf_jn {x y : Sm} (hx : x.ok) (hy : y.ok) (n : Int) : lf (jn x y) n = jn (lf x n) (lf y n) := by
  by_cases h1 : x.c = 0
  · rw [hx.2 h1, jn_zero_left]; simp [lf, zero, jn]
  · by_cases h2 : y.c = 0
    · rw [hy.2 h2, jn_zero_right hx]; simp [lf, zero, jn, h1]
    · have g1 : x.c + y.c ≠ 0 := by have := hx.1; have := hy.1; omega
      simp only [jn, lf, h1, h2, g1, if_false]
      exact Sm.same rfl (by simp [Int.add_mul]; omega) (by dsimp only; omega) (by dsimp only; omega)
theorem lf_one (m n : Int) : lf (one m) n = one (m + n) := by simp [lf, one]
theorem lf_ofR (l : List Int) (n : Int) : lf (ofR l) n = ofR (l.map (· + n)) := by
  induction l with
  | nil => simp [ofR, lf, zero]
  | cons m l ih => rw [ofR, lf_jn (ok_one m) (ok_ofR l), lf_one, ih]; rfl
theorem lf_ofL (l : List Int) (n : Int) : lf (ofL l) n = ofL (l.map (· + n)) := by rw [ofL_eq, ofL_eq, lf_ofR]
theorem lf_back (x : Sm) (n : Int) : lf (lf x n) (-n) = x := by
  by_cases h : x.c = 0
  · simp [lf, h]
  · simp only [lf, h, if_false]
    exact Sm.same rfl (by simp [Int.mul_neg]; omega) (by simp; omega) (by simp; omega)

theorem ofL_take_bd (zs : List Int) (k : Nat) (hk : k ≤ 1048576) (hb : ∀ n ∈ zs, -1099511627776 ≤ n ∧ n ≤ 1099511627776) :
    (0 ≤ (ofL (zs.take k)).c ∧ (ofL (zs.take k)).c ≤ 1048576) ∧ (-1152921504606846976 ≤ (ofL (zs.take k)).s ∧ (ofL (zs.take k)).s ≤ 1152921504606846976) := by
  have hl : (zs.take k).length ≤ k := List.length_take_le _ _
  have h := ofR_s _ _ (zs.take k) (fun n hn => hb n (List.mem_of_mem_take hn))
  rw [ofL_eq, ofR_c]
  omega
theorem ofL_take_succ (zs : List Int) (k : Nat) (hk : k < zs.length) : ofL (zs.take (k + 1)) = jn (ofL (zs.take k)) (one (zs.getD k 0)) := by
  have e : zs.take (k + 1) = zs.take k ++ [zs.getD k 0] := by
    rw [List.take_succ_eq_append_getElem hk, List.getD_eq_getElem?_getD, List.getElem?_eq_getElem hk]; rfl
  rw [e, ofL_append, ofL_one]
end Go.Proofs.Ytbkneonbpcmepaa

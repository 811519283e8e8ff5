/- Plain facts that NumJoins asks: sums side by side, raised and lowered, and that nothing of it is great. -/
import Derived.Test.YtbibpigijgmcgaaM
namespace Go.Proofs.Ytbibpigijgmcgaa

theorem mul_bd (c d : Int) (h0 : 0 ≤ c) (h1 : c ≤ 1000) (hd : -32768 ≤ d) (hd' : d ≤ 32768) : -32768000 ≤ c * d ∧ c * d ≤ 32768000 := by
  have m1 : c * (-32768) ≤ c * d := Int.mul_le_mul_of_nonneg_left hd h0
  have m2 : c * d ≤ c * 32768 := Int.mul_le_mul_of_nonneg_left hd' h0
  omega

/-- What is true of the sum of at most a thousand numbers of 16 bits. -/
structure Tame (x : Sm) : Prop where
  ok : x.ok
  c1 : x.c ≤ 1000
  s0 : -32768000 ≤ x.s
  s1 : x.s ≤ 32768000
  a0 : -32768 ≤ x.a
  a1 : x.a ≤ 32768
  b0 : -32768 ≤ x.b
  b1 : x.b ≤ 32768

theorem tame_ofL (l : List Int) (h : ∀ n ∈ l, -32768 ≤ n ∧ n ≤ 32767) (hl : l.length ≤ 1000) : Tame (ofL l) := by
  rw [ofL_eq]
  have hs := ofR_s _ _ l h
  have hc := ofR_c l
  by_cases h0 : l = []
  · subst h0
    exact ⟨ok_zero, by simp [ofR, zero], by simp [ofR, zero], by simp [ofR, zero], by simp [ofR, zero], by simp [ofR, zero], by simp [ofR, zero], by simp [ofR, zero]⟩
  · obtain ⟨i1, i2, i3, i4, i5⟩ := ofR_bd _ _ l h h0
    exact ⟨ok_ofR l, by omega, by omega, by omega, by omega, by omega, by omega, by omega⟩

/-- The bounds under which a sum may be raised. -/
def LiftOk (x : Sm) (n : Int) : Prop :=
  (-4611686018427387904 ≤ x.c * n ∧ x.c * n ≤ 4611686018427387904) ∧ (-4611686018427387904 ≤ x.s + x.c * n ∧ x.s + x.c * n ≤ 4611686018427387904) ∧
  (-4611686018427387904 ≤ x.a + n ∧ x.a + n ≤ 4611686018427387904) ∧ (-4611686018427387904 ≤ x.b + n ∧ x.b + n ≤ 4611686018427387904)

theorem liftOk_tame {x : Sm} (h : Tame x) (d : Int) (hd : -32768 ≤ d) (hd' : d ≤ 32768) : LiftOk x d := by
  have m := mul_bd x.c d h.ok.1 h.c1 hd hd'
  have := h.s0; have := h.s1; have := h.a0; have := h.a1; have := h.b0; have := h.b1
  refine ⟨by omega, by omega, by omega, by omega⟩
theorem liftOk_back {x : Sm} (h : Tame x) (d : Int) (hd : -32768 ≤ d) (hd' : d ≤ 32768) : LiftOk (lf x d) (-d) := by
  have m := mul_bd x.c d h.ok.1 h.c1 hd hd'
  have m' := mul_bd x.c (-d) h.ok.1 h.c1 (by omega) (by omega)
  have := h.s0; have := h.s1; have := h.a0; have := h.a1; have := h.b0; have := h.b1
  unfold LiftOk lf
  split
  · refine ⟨by omega, by omega, by omega, by omega⟩
  · dsimp only
    refine ⟨by omega, by omega, by omega, by omega⟩

/-- The bounds under which two sums may be joined. -/
theorem joinOk {x y : Sm} (hx : Tame x) (hy : Tame y) : (-4611686018427387904 ≤ x.c + y.c ∧ x.c + y.c ≤ 4611686018427387904) ∧ (-4611686018427387904 ≤ x.s + y.s ∧ x.s + y.s ≤ 4611686018427387904) := by
  have := hx.ok.1; have := hy.ok.1; have := hx.c1; have := hy.c1; have := hx.s0; have := hx.s1; have := hy.s0; have := hy.s1
  refine ⟨by omega, by omega⟩
theorem ofL_c (l : List Int) : (ofL l).c = l.length := by rw [ofL_eq, ofR_c]
end Go.Proofs.Ytbibpigijgmcgaa

/- num.Lift, raise.Weight, raise.Can, raise.Sum. -/
import Derived.Test.YtbkneonbpcmepaaS
import Derived.Test.YtbkneonbpcmepaaK
namespace Go.Proofs.Ytbkneonbpcmepaa
open Go.RowKit
theorem hide {p : Prop} (h : p) : Hid p := h
theorem unhide {p : Prop} (h : Hid p) : p := h
def smV (x : Sm) : Value := .agg #[.int .i64 x.c, .int .i64 x.s, .int .i64 x.a, .int .i64 x.b]
set_option maxHeartbeats 400000 in
theorem lift_any (c s a b n q : Int) (w : World) (hq : c * n = q) (k1 : -4611686018427387904 ≤ q) (k2 : q ≤ 4611686018427387904) (k3 : -4611686018427387904 ≤ s + q) (k4 : s + q ≤ 4611686018427387904)
    (k5 : -4611686018427387904 ≤ a + n) (k6 : a + n ≤ 4611686018427387904) (k7 : -4611686018427387904 ≤ b + n) (k8 : b + n ≤ 4611686018427387904) :
    Calls Try.prog 89 #[.agg #[.int .i64 c, .int .i64 s, .int .i64 a, .int .i64 b], .int .i64 n] w fun r w' =>
      r = .returned (smV (lf ⟨c, s, a, b⟩ n)) ∧ Below w.heap.size w w' := by
  by_cases h0 : c = 0
  · subst h0
    go_enter Try.func89, Try.ntmps89
    go_wp2
    refine bodyPost_ret (v := .agg #[.int .i64 0, .int .i64 s, .int .i64 a, .int .i64 b]) (by simp [results, Try.results89, go_sem]) rfl ⟨by simp [lf, smV], b2 _ _ _⟩
  · have e0 : (c == 0) = false := by simpa using h0
    have hj : Hid (smV (lf ⟨c, s, a, b⟩ n) = .agg #[.int .i64 c, .int .i64 (s + q), .int .i64 (a + n), .int .i64 (b + n)]) := by simp [lf, h0, Hid, smV, hq]
    go_enter Try.func89, Try.ntmps89
    go_wp2
    rw [hj.out]
    refine bodyPost_ret (v := .agg #[.int .i64 c, .int .i64 (s + q), .int .i64 (a + n), .int .i64 (b + n)]) (by simp [results, Try.results89, go_sem]) rfl ⟨rfl, b2 _ _ _⟩

set_option maxHeartbeats 400000 in
theorem heavier_any (x n : Int) (w : World) : Calls Try.prog 61 #[.int .i64 x, .int .i64 n] w fun r w' => r = .returned (.int .i64 (addV x n)) ∧ w = w' := by
  go_enter Try.func61, Try.ntmps61
  go_wp2_with (go_at_call 72; refine (add_any _ _ _).mono ?_; rintro e w' ⟨rfl, rfl⟩)
  go_ret
  exact ⟨rfl, rfl⟩
set_option maxHeartbeats 400000 in
theorem canRise_any (c s a b n : Int) (w : World) : Calls Try.prog 54 #[.agg #[.int .i64 c, .int .i64 s, .int .i64 a, .int .i64 b], .int .i64 n] w fun r w' => r = .returned (.bool (addB a n && addB b n)) ∧ Below w.heap.size w w' := by
  cases h1 : addB a n
  · go_enter Try.func54, Try.ntmps54
    go_wp2_with (go_at_call 72; refine (add_any _ _ _).mono ?_; (first | rw [h1] | skip); rintro e w' ⟨rfl, rfl⟩)
    go_ret
    exact ⟨rfl, (Below.refl _ _).alloc (Nat.le_refl _) _⟩
  · go_enter Try.func54, Try.ntmps54
    go_wp2_with (go_at_call 72; refine (add_any _ _ _).mono ?_; (first | rw [h1] | skip); rintro e w' ⟨rfl, rfl⟩)
    go_ret
    exact ⟨rfl, (Below.refl _ _).alloc (Nat.le_refl _) _⟩

theorem mul_bd {c n : Int} (h0 : 0 ≤ c) (h1 : c ≤ 4194304) (h2 : -1099511627776 ≤ n) (h3 : n ≤ 1099511627776) : -4611686018427387904 ≤ c * n ∧ c * n ≤ 4611686018427387904 := by
  have a1 : c * n ≤ c * 1099511627776 := Int.mul_le_mul_of_nonneg_left h3 h0
  have a2 : c * (-1099511627776) ≤ c * n := Int.mul_le_mul_of_nonneg_left h2 h0
  omega

theorem lift_fit (xs : List It) (c s a b n c' s' a' b' : Int) (w : World) (hx : smL xs = ⟨c, s, a, b⟩) (hx' : smL (rz n xs) = ⟨c', s', a', b'⟩) (hl : xs.length ≤ 4194304) (hf : FitL xs) (hf' : FitL (rz n xs)) (h1 : -1099511627776 ≤ n) (h2 : n ≤ 1099511627776) :
    Calls Try.prog 89 #[.agg #[.int .i64 c, .int .i64 s, .int .i64 a, .int .i64 b], .int .i64 n] w fun r w' => r = .returned (.agg #[.int .i64 c', .int .i64 s', .int .i64 a', .int .i64 b']) ∧ Below w.heap.size w w' := by
  have hc := smL_c xs
  have hb := smL_bd hf hl
  have hb' := smL_bd hf' (by rw [rz_length]; exact hl)
  have hz := smL_rz n xs
  rw [hx'] at hz
  have he : xs = [] ∨ ((-1099511627776 ≤ (smL xs).a ∧ (smL xs).a ≤ (smL xs).b ∧ (smL xs).b ≤ 1099511627776)) := by
    by_cases e : xs = []
    · exact .inl e
    · exact .inr (smL_ends hf e)
  have he' : -1099511627776 ≤ (smL xs).a ∧ (smL xs).b ≤ 1099511627776 ∧ (smL xs).a ≤ 1099511627776 ∧ -1099511627776 ≤ (smL xs).b := by
    rcases he with e | e
    · subst e; rw [smL_nil]; simp [zero]
    · omega
  rw [hx'] at hb'
  rw [hx] at hc hb he' hz
  dsimp only at hc hb hb' he'
  obtain ⟨q1, q2⟩ := mul_bd (c := c) (n := n) (by omega) (by omega) h1 h2
  by_cases hc0 : c = 0
  · have e0 : xs = [] := List.length_eq_zero_iff.1 (by omega)
    subst e0
    rw [smL_nil] at hx
    obtain ⟨rfl, rfl, rfl, rfl⟩ : c = 0 ∧ s = 0 ∧ a = 0 ∧ b = 0 := by
      have := hx; simp only [zero, Sm.mk.injEq] at this; omega
    refine (lift_any 0 0 0 0 n 0 w (by omega) (by omega) (by omega) (by omega) (by omega) (by omega) (by omega) (by omega) (by omega)).mono ?_
    rintro e w' ⟨rfl, hb⟩
    refine ⟨?_, hb⟩
    rw [← hz]; rfl
  · have hz' := hz
    simp only [lf, hc0, if_false, Sm.mk.injEq] at hz'
    obtain ⟨z1, z2, z3, z4⟩ := hz'
    refine (lift_any c s a b n (c * n) w rfl q1 q2 (by omega) (by omega) (by omega) (by omega) (by omega) (by omega)).mono ?_
    rintro e w' ⟨rfl, hb⟩
    refine ⟨?_, hb⟩
    rw [← hz]; rfl

set_option maxHeartbeats 400000 in
theorem lifted_any (xs : List It) (c s a b n c' s' a' b' : Int) (w : World) (hx : smL xs = ⟨c, s, a, b⟩) (hx' : smL (rz n xs) = ⟨c', s', a', b'⟩) (hl : xs.length ≤ 4194304) (hf : FitL xs) (hf' : FitL (rz n xs)) (h1 : -2199023255552 ≤ n) (h2 : n ≤ 2199023255552) :
    Calls Try.prog 77 #[.agg #[.int .i64 c, .int .i64 s, .int .i64 a, .int .i64 b], .int .i64 n] w fun r w' => r = .returned (.agg #[.int .i64 c', .int .i64 s', .int .i64 a', .int .i64 b']) ∧ Below w.heap.size w w' := by
  have hh : Hid (∃ k : Int, n.tdiv 2 = k) := ⟨_, rfl⟩
  obtain ⟨k, hk⟩ := hh.out
  have hm : (0 ≤ k ∧ k ≤ n) ∨ (n ≤ k ∧ k ≤ 0) := by
    rcases Int.le_total 0 n with h | h
    · rw [Int.tdiv_eq_ediv_of_nonneg h] at hk; omega
    · have : n.tdiv 2 = -((-n).tdiv 2) := by rw [Int.neg_tdiv]; omega
      rw [this, Int.tdiv_eq_ediv_of_nonneg (by omega)] at hk; omega
  have hk1 : -1099511627776 ≤ k ∧ k ≤ 1099511627776 ∧ -1099511627776 ≤ n - k ∧ n - k ≤ 1099511627776 := by
    rcases Int.le_total 0 n with h | h
    · rw [Int.tdiv_eq_ediv_of_nonneg h] at hk; omega
    · have : n.tdiv 2 = -((-n).tdiv 2) := by rw [Int.neg_tdiv]; omega
      rw [this, Int.tdiv_eq_ediv_of_nonneg (by omega)] at hk; omega
  have fk := FitL.mid hf hf' hm
  have HY : Hid (∃ y, smL (rz k xs) = y) := ⟨_, rfl⟩
  obtain ⟨⟨d1, d2, d3, d4⟩, hy⟩ := HY.out
  have e1 : rz (n - k) (rz k xs) = rz n xs := by rw [rz_rz]; congr 1; omega
  have A1 := hide (fun W => lift_fit xs c s a b k d1 d2 d3 d4 W hx hy hl hf fk hk1.1 hk1.2.1)
  have A2 := hide (fun W => lift_fit (rz k xs) d1 d2 d3 d4 (n - k) c' s' a' b' W hy (by rw [e1]; exact hx') (by rw [rz_length]; exact hl) fk (by rw [e1]; exact hf') hk1.2.2.1 hk1.2.2.2)
  obtain ⟨k1, k2, k3, k4⟩ := hk1
  clear hx hx' hl hf hf' fk hy e1 HY hh hm
  have h0 : SumAt ((w.alloc (.cells #[.int .i64 c, .int .i64 s, .int .i64 a, .int .i64 b] 33)).alloc (.cells #[.int .i64 0, .int .i64 0, .int .i64 0, .int .i64 0] 33)) (w.heap.size + 1) zero := by simp [SumAt, zero, go_sem]
  have HS := hide h0
  clear h0
  go_enter Try.func77, Try.ntmps77
  go_wp2_with fail
  refine (unhide A1 _).mono ?_
  rintro e w1 ⟨rfl, hb1⟩
  have z1 : w.heap.size + 1 < w1.heap.size := by have := hb1.size; simp at this; omega
  have HS1 := hide ((unhide HS).below hb1 (by simp))
  have HB1 := hide ((b2 w _ _).trans (hb1.mono (by simp; omega)))
  clear HS hb1
  go_wp2_with fail
  refine (unhide A2 _).mono ?_
  rintro e w2 ⟨rfl, hb2⟩
  have h1 := (unhide HS1).below hb2 z1
  have HS2 := hide h1
  obtain ⟨⟨q0, q1, q2, q3⟩, f0, f1, f2, f3⟩ := h1
  have HB := hide ((unhide HB1).trans (hb2.mono (by omega)))
  clear HS1 HB1 hb2
  go_wp2
  obtain ⟨⟨p0, p1, p2, p3⟩, _⟩ := SumAt.put (x := ⟨c', s', a', b'⟩) (unhide HS2)
  refine bodyPost_ret (v := .agg #[.int .i64 c', .int .i64 s', .int .i64 a', .int .i64 b']) ?_ rfl ⟨rfl, below_put (x := ⟨c', s', a', b'⟩) (unhide HB) (by omega)⟩
  simp only [putSum] at p0 p1 p2 p3
  simp [results, Try.results77, go_sem, p0, p1, p2, p3]

end Go.Proofs.Ytbkneonbpcmepaa

import Derived.Test.YtbkneonbpcmepaaRows
import Derived.WalkKit
import Derived.WalkSpells
import Derived.RowKit3
import Derived.Below
import Derived.Test.YtbkneonbpcmepaaM
namespace Go.Proofs.Ytbkneonbpcmepaa
open Go.RowKit

def fitB (w : Int) : Bool := decide (-1099511627776 ≤ w ∧ w ≤ 1099511627776)
def inB (n e : Int) : Bool := decide (-e ≤ n ∧ n ≤ e)

set_option maxHeartbeats 400000 in
theorem within_any (n e : Int) (w : World) (h0 : 0 ≤ e) (h1 : e ≤ 4398046511104) :
    Calls Try.prog 66 #[.int .i64 n, .int .i64 e] w fun r w' => r = .returned (.bool (inB n e)) ∧ w' = w := by
  by_cases c1 : -e ≤ n
  · by_cases c2 : n ≤ e
    · go_enter Try.func66, Try.ntmps66
      go_wp2
      go_ret
      exact ⟨by simp [inB, c1, c2], rfl⟩
    · go_enter Try.func66, Try.ntmps66
      go_wp2
      go_ret
      exact ⟨by simp [inB, c1, c2], rfl⟩
  · go_enter Try.func66, Try.ntmps66
    go_wp2
    go_ret
    exact ⟨by simp [inB]; omega, rfl⟩

set_option maxHeartbeats 400000 in
theorem fits_any (n : Int) (w : World) :
    Calls Try.prog 44 #[.int .i64 n] w fun r w' => r = .returned (.bool (fitB n)) ∧ w' = w := by
  go_enter Try.func44, Try.ntmps44
  go_wp2_with (go_at_call 66; refine (within_any _ _ _ (by omega) (by omega)).mono ?_; rintro e w' ⟨rfl, rfl⟩)
  go_ret
  exact ⟨by simp [inB, fitB], rfl⟩

set_option maxHeartbeats 400000 in
theorem rfits_any (n : Int) (w : World) :
    Calls Try.prog 47 #[.int .i64 n] w fun r w' => r = .returned (.bool (fitB n)) ∧ w' = w := by
  by_cases c1 : -1099511627776 ≤ n
  · by_cases c2 : n ≤ 1099511627776
    · go_enter Try.func47, Try.ntmps47
      go_wp2
      go_ret
      exact ⟨by simp [fitB, c1, c2], rfl⟩
    · go_enter Try.func47, Try.ntmps47
      go_wp2
      go_ret
      exact ⟨by simp [fitB, c1, c2], rfl⟩
  · go_enter Try.func47, Try.ntmps47
    go_wp2
    go_ret
    exact ⟨by simp [fitB]; omega, rfl⟩


theorem bcell {W w1 : World} (hb : Below W.heap.size W w1) : (∀ b o, b < W.heap.size → w1.cell? ⟨b, o, none⟩ = W.cell? ⟨b, o, none⟩) ∧ (∀ b o, b < W.heap.size → w1.frozen? ⟨b, o, none⟩ = W.frozen? ⟨b, o, none⟩) :=
  ⟨fun b o h => hb.cell (p := ⟨b, o, none⟩) h, fun b o h => hb.frozen (p := ⟨b, o, none⟩) h⟩

set_option maxHeartbeats 400000 in
theorem one_any (n : Int) (w : World) :
    Calls Try.prog 46 #[.int .i64 n] w fun r w' => r = .returned (.agg #[.int .i64 1, .int .i64 n, .int .i64 n, .int .i64 n]) ∧ Below w.heap.size w w' := by
  go_enter Try.func46, Try.ntmps46
  go_wp2
  refine bodyPost_ret (v := .agg #[.int .i64 1, .int .i64 n, .int .i64 n, .int .i64 n]) (by simp [results, Try.results46, go_sem]) rfl ⟨rfl, ?_⟩
  exact (Below.refl _ _).alloc (Nat.le_refl _) _

set_option maxHeartbeats 400000 in
theorem rone_any (n : Int) (w : World) :
    Calls Try.prog 59 #[.int .i64 n] w fun r w' => r = .returned (.agg #[.int .i64 1, .int .i64 n, .int .i64 n, .int .i64 n]) ∧ Below w.heap.size w w' := by
  go_enter Try.func59, Try.ntmps59
  go_wp2
  refine bodyPost_ret (v := .agg #[.int .i64 1, .int .i64 n, .int .i64 n, .int .i64 n]) (by simp [results, Try.results59, go_sem]) rfl ⟨rfl, ?_⟩
  exact (Below.refl _ _).alloc (Nat.le_refl _) _

theorem b3 (w : World) (o1 o2 o3 : Obj) : Below w.heap.size w (((w.alloc o1).alloc o2).alloc o3) :=
  (((Below.refl _ _).alloc (Nat.le_refl _) _).alloc (by simp) _).alloc (by simp; omega) _

theorem b2 (w : World) (o1 o2 : Obj) : Below w.heap.size w ((w.alloc o1).alloc o2) :=
  ((Below.refl _ _).alloc (Nat.le_refl _) _).alloc (by simp) _

set_option maxHeartbeats 400000 in
theorem join_any (c s a b c' s' a' b' : Int) (w : World) (k1 : -4611686018427387904 ≤ c + c') (k2 : c + c' ≤ 4611686018427387904) (k3 : -4611686018427387904 ≤ s + s') (k4 : s + s' ≤ 4611686018427387904) :
    Calls Try.prog 76 #[.agg #[.int .i64 c, .int .i64 s, .int .i64 a, .int .i64 b], .agg #[.int .i64 c', .int .i64 s', .int .i64 a', .int .i64 b']] w fun r w' =>
      r = .returned (.agg #[.int .i64 (jn ⟨c, s, a, b⟩ ⟨c', s', a', b'⟩).c, .int .i64 (jn ⟨c, s, a, b⟩ ⟨c', s', a', b'⟩).s, .int .i64 (jn ⟨c, s, a, b⟩ ⟨c', s', a', b'⟩).a, .int .i64 (jn ⟨c, s, a, b⟩ ⟨c', s', a', b'⟩).b]) ∧ Below w.heap.size w w' := by
  by_cases h0 : c = 0
  · subst h0
    go_enter Try.func76, Try.ntmps76
    go_wp2
    refine bodyPost_ret (v := .agg #[.int .i64 c', .int .i64 s', .int .i64 a', .int .i64 b']) (by simp [results, Try.results76, go_sem]) rfl ⟨by simp [jn], b3 _ _ _ _⟩
  · have e0 : (c == 0) = false := by simpa using h0
    by_cases h1 : c' = 0
    · subst h1
      go_enter Try.func76, Try.ntmps76
      go_wp2
      refine bodyPost_ret (v := .agg #[.int .i64 c, .int .i64 s, .int .i64 a, .int .i64 b]) (by simp [results, Try.results76, go_sem]) rfl ⟨by simp [jn, h0], b3 _ _ _ _⟩
    · have e1 : (c' == 0) = false := by simpa using h1
      have hj : Hid (jn ⟨c, s, a, b⟩ ⟨c', s', a', b'⟩ = ⟨c + c', s + s', min a a', max b b'⟩) := by simp [jn, h0, h1, Hid]
      go_enter Try.func76, Try.ntmps76
      go_wp2
      all_goals
        rw [hj.out]
        refine bodyPost_ret (v := .agg #[.int .i64 (c + c'), .int .i64 (s + s'), .int .i64 (min a a'), .int .i64 (max b b')]) (by simp [results, Try.results76, go_sem]; omega) rfl ⟨rfl, b3 _ _ _ _⟩


set_option maxHeartbeats 400000 in
theorem rjoin_any (c s a b c' s' a' b' : Int) (w : World) (k1 : -4611686018427387904 ≤ c + c') (k2 : c + c' ≤ 4611686018427387904) (k3 : -4611686018427387904 ≤ s + s') (k4 : s + s' ≤ 4611686018427387904) :
    Calls Try.prog 58 #[.agg #[.int .i64 c, .int .i64 s, .int .i64 a, .int .i64 b], .agg #[.int .i64 c', .int .i64 s', .int .i64 a', .int .i64 b']] w fun r w' =>
      r = .returned (.agg #[.int .i64 (jn ⟨c, s, a, b⟩ ⟨c', s', a', b'⟩).c, .int .i64 (jn ⟨c, s, a, b⟩ ⟨c', s', a', b'⟩).s, .int .i64 (jn ⟨c, s, a, b⟩ ⟨c', s', a', b'⟩).a, .int .i64 (jn ⟨c, s, a, b⟩ ⟨c', s', a', b'⟩).b]) ∧ Below w.heap.size w w' := by
  by_cases h0 : c = 0
  · subst h0
    go_enter Try.func58, Try.ntmps58
    go_wp2
    refine bodyPost_ret (v := .agg #[.int .i64 c', .int .i64 s', .int .i64 a', .int .i64 b']) (by simp [results, Try.results58, go_sem]) rfl ⟨by simp [jn], b3 _ _ _ _⟩
  · have e0 : (c == 0) = false := by simpa using h0
    by_cases h1 : c' = 0
    · subst h1
      go_enter Try.func58, Try.ntmps58
      go_wp2
      refine bodyPost_ret (v := .agg #[.int .i64 c, .int .i64 s, .int .i64 a, .int .i64 b]) (by simp [results, Try.results58, go_sem]) rfl ⟨by simp [jn, h0], b3 _ _ _ _⟩
    · have e1 : (c' == 0) = false := by simpa using h1
      have hj : Hid (jn ⟨c, s, a, b⟩ ⟨c', s', a', b'⟩ = ⟨c + c', s + s', min a a', max b b'⟩) := by simp [jn, h0, h1, Hid]
      go_enter Try.func58, Try.ntmps58
      go_wp2
      all_goals
        rw [hj.out]
        refine bodyPost_ret (v := .agg #[.int .i64 (c + c'), .int .i64 (s + s'), .int .i64 (min a a'), .int .i64 (max b b')]) (by simp [results, Try.results58, go_sem]; omega) rfl ⟨rfl, b3 _ _ _ _⟩


/-- May a weight be raised by that much? -/
def addB (w n : Int) : Bool := fitB w && inB n 2199023255552 && fitB (w + n)
def addV (w n : Int) : Int := if addB w n then w + n else 0

set_option maxHeartbeats 400000 in
theorem add_any (x n : Int) (w : World) :
    Calls Try.prog 72 #[.int .i64 x, .int .i64 n] w fun r w' => r = .returned (.tuple #[.int .i64 (addV x n), .bool (addB x n)]) ∧ w' = w := by
  cases h1 : fitB x
  · go_enter Try.func72, Try.ntmps72
    go_wp2_with (go_at_call 44; refine (fits_any _ _).mono ?_; rintro e w' ⟨rfl, rfl⟩)
    go_ret2
    exact ⟨by simp [addV, addB, h1], rfl⟩
  · cases h2 : inB n 2199023255552
    · go_enter Try.func72, Try.ntmps72
      go_wp2_with (first | (go_at_call 44; refine (fits_any _ _).mono ?_; rintro e w' ⟨rfl, rfl⟩) | (go_at_call 66; refine (within_any _ _ _ (by omega) (by omega)).mono ?_; rintro e w' ⟨rfl, rfl⟩))
      go_ret2
      exact ⟨by simp [addV, addB, h2], rfl⟩
    · have g1 : -1099511627776 ≤ x ∧ x ≤ 1099511627776 := by simpa [fitB] using h1
      have g2 : -2199023255552 ≤ n ∧ n ≤ 2199023255552 := by simpa [inB] using h2
      obtain ⟨g1, g1'⟩ := g1
      obtain ⟨g2, g2'⟩ := g2
      cases h3 : fitB (x + n)
      · go_enter Try.func72, Try.ntmps72
        go_wp2_with (first | (go_at_call 44; refine (fits_any _ _).mono ?_; rintro e w' ⟨rfl, rfl⟩) | (go_at_call 66; refine (within_any _ _ _ (by omega) (by omega)).mono ?_; rintro e w' ⟨rfl, rfl⟩))
        go_ret2
        exact ⟨by simp [addV, addB, h3], rfl⟩
      · go_enter Try.func72, Try.ntmps72
        go_wp2_with (first | (go_at_call 44; refine (fits_any _ _).mono ?_; rintro e w' ⟨rfl, rfl⟩) | (go_at_call 66; refine (within_any _ _ _ (by omega) (by omega)).mono ?_; rintro e w' ⟨rfl, rfl⟩))
        go_ret2
        exact ⟨by simp [addV, addB, h1, h2, h3], rfl⟩

set_option maxHeartbeats 400000 in
theorem radd_any (x n : Int) (w : World) :
    Calls Try.prog 57 #[.int .i64 x, .int .i64 n] w fun r w' => r = .returned (.tuple #[.int .i64 (addV x n), .bool (addB x n)]) ∧ w' = w := by
  cases h1 : fitB x
  · go_enter Try.func57, Try.ntmps57
    go_wp2_with (go_at_call 47; refine (rfits_any _ _).mono ?_; rintro e w' ⟨rfl, rfl⟩)
    go_ret2
    exact ⟨by simp [addV, addB, h1], rfl⟩
  · by_cases h2 : 2199023255552 < n
    · have hf : inB n 2199023255552 = false := by simp [inB]; omega
      go_enter Try.func57, Try.ntmps57
      go_wp2_with (go_at_call 47; refine (rfits_any _ _).mono ?_; rintro e w' ⟨rfl, rfl⟩)
      go_ret2
      exact ⟨by simp [addV, addB, hf], rfl⟩
    · by_cases h3 : n < -2199023255552
      · have hf : inB n 2199023255552 = false := by simp [inB]; omega
        go_enter Try.func57, Try.ntmps57
        go_wp2_with (go_at_call 47; refine (rfits_any _ _).mono ?_; rintro e w' ⟨rfl, rfl⟩)
        go_ret2
        exact ⟨by simp [addV, addB, hf], rfl⟩
      · have g1 : -1099511627776 ≤ x ∧ x ≤ 1099511627776 := by simpa [fitB] using h1
        have g2 : inB n 2199023255552 = true := by simp [inB]; omega
        obtain ⟨g1, g1'⟩ := g1
        have H2 : Hid (inB n 2199023255552 = true) := g2
        clear g2
        cases h4 : fitB (x + n)
        · go_enter Try.func57, Try.ntmps57
          go_wp2_with (go_at_call 47; refine (rfits_any _ _).mono ?_; rintro e w' ⟨rfl, rfl⟩)
          go_ret2
          exact ⟨by simp [addV, addB, h4], rfl⟩
        · go_enter Try.func57, Try.ntmps57
          go_wp2_with (go_at_call 47; refine (rfits_any _ _).mono ?_; rintro e w' ⟨rfl, rfl⟩)
          go_ret2
          exact ⟨by simp [addV, addB, h1, H2.out, h4], rfl⟩
/-- Four cells of a block hold a sum, and may be written. -/
def SumAt (w : World) (b : Nat) (x : Sm) : Prop :=
  (w.cell? ⟨b, 0, none⟩ = some (.int .i64 x.c) ∧ w.cell? ⟨b, 1, none⟩ = some (.int .i64 x.s) ∧ w.cell? ⟨b, 2, none⟩ = some (.int .i64 x.a) ∧ w.cell? ⟨b, 3, none⟩ = some (.int .i64 x.b)) ∧
  w.frozen? ⟨b, 0, none⟩ = false ∧ w.frozen? ⟨b, 1, none⟩ = false ∧ w.frozen? ⟨b, 2, none⟩ = false ∧ w.frozen? ⟨b, 3, none⟩ = false

theorem SumAt.below {W w1 : World} {b : Nat} {x : Sm} (h : SumAt W b x) (hb : Below W.heap.size W w1) (hl : b < W.heap.size) : SumAt w1 b x := by
  obtain ⟨⟨q0, q1, q2, q3⟩, f0, f1, f2, f3⟩ := h
  refine ⟨⟨?_, ?_, ?_, ?_⟩, ?_, ?_, ?_, ?_⟩
  · rw [hb.cell (p := ⟨b, 0, none⟩) hl]; exact q0
  · rw [hb.cell (p := ⟨b, 1, none⟩) hl]; exact q1
  · rw [hb.cell (p := ⟨b, 2, none⟩) hl]; exact q2
  · rw [hb.cell (p := ⟨b, 3, none⟩) hl]; exact q3
  · rw [hb.frozen (p := ⟨b, 0, none⟩) hl]; exact f0
  · rw [hb.frozen (p := ⟨b, 1, none⟩) hl]; exact f1
  · rw [hb.frozen (p := ⟨b, 2, none⟩) hl]; exact f2
  · rw [hb.frozen (p := ⟨b, 3, none⟩) hl]; exact f3

/-- Four cells of a block written with a sum. -/
def putSum (w : World) (b : Nat) (x : Sm) : World :=
  (((w.setCell ⟨b, 0, none⟩ (.int .i64 x.c)).setCell ⟨b, 1, none⟩ (.int .i64 x.s)).setCell ⟨b, 2, none⟩ (.int .i64 x.a)).setCell ⟨b, 3, none⟩ (.int .i64 x.b)

theorem SumAt.put {w : World} {b : Nat} {x y : Sm} (h : SumAt w b y) : SumAt (putSum w b x) b x := by
  obtain ⟨⟨q0, q1, q2, q3⟩, f0, f1, f2, f3⟩ := h
  simp [SumAt, putSum, go_sem, q0, q1, q2, q3, f0, f1, f2, f3]
theorem SumAt.put_other {w : World} {b c : Nat} {x y : Sm} (h : SumAt w c y) (hne : c ≠ b) : SumAt (putSum w b x) c y := by
  obtain ⟨⟨q0, q1, q2, q3⟩, f0, f1, f2, f3⟩ := h
  simp [SumAt, putSum, go_sem, q0, q1, q2, q3, f0, f1, f2, f3]
theorem below_put {B b : Nat} {w w' : World} {x : Sm} (h : Below B w w') (hb : B ≤ b) : Below B w (putSum w' b x) :=
  (((h.setCell (p := ⟨b, 0, none⟩) hb _).setCell (p := ⟨b, 1, none⟩) hb _).setCell (p := ⟨b, 2, none⟩) hb _).setCell (p := ⟨b, 3, none⟩) hb _
theorem putSum_size (w : World) (b : Nat) (x : Sm) : (putSum w b x).heap.size = w.heap.size := by simp [putSum, go_sem]

end Go.Proofs.Ytbkneonbpcmepaa

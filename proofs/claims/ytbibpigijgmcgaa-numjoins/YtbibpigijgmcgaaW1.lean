import Derived.Test.YtbibpigijgmcgaaRows
import Derived.WalkKit
import Derived.WalkSpells
import Derived.RowKit3
import Derived.Below
import Derived.Test.YtbibpigijgmcgaaM
namespace Go.Proofs.Ytbibpigijgmcgaa
open Go.RowKit

def fitB (w : Int) : Bool := decide (-1099511627776 ≤ w ∧ w ≤ 1099511627776)
def inB (n e : Int) : Bool := decide (-e ≤ n ∧ n ≤ e)

set_option maxHeartbeats 400000 in
theorem within_any (n e : Int) (w : World) (h0 : 0 ≤ e) (h1 : e ≤ 4398046511104) :
    Calls Try.prog 17 #[.int .i64 n, .int .i64 e] w fun r w' => r = .returned (.bool (inB n e)) ∧ w' = w := by
  by_cases c1 : -e ≤ n
  · by_cases c2 : n ≤ e
    · go_enter Try.func17, Try.ntmps17
      go_wp2
      go_ret
      exact ⟨by simp [inB, c1, c2], rfl⟩
    · go_enter Try.func17, Try.ntmps17
      go_wp2
      go_ret
      exact ⟨by simp [inB, c1, c2], rfl⟩
  · go_enter Try.func17, Try.ntmps17
    go_wp2
    go_ret
    exact ⟨by simp [inB]; omega, rfl⟩

set_option maxHeartbeats 400000 in
theorem fits_any (n : Int) (w : World) :
    Calls Try.prog 10 #[.int .i64 n] w fun r w' => r = .returned (.bool (fitB n)) ∧ w' = w := by
  go_enter Try.func10, Try.ntmps10
  go_wp2_with (go_at_call 17; refine (within_any _ _ _ (by omega) (by omega)).mono ?_; rintro e w' ⟨rfl, rfl⟩)
  go_ret
  exact ⟨by simp [inB, fitB], rfl⟩

set_option maxHeartbeats 400000 in
theorem rfits_any (n : Int) (w : World) :
    Calls Try.prog 11 #[.int .i64 n] w fun r w' => r = .returned (.bool (fitB n)) ∧ w' = w := by
  by_cases c1 : -1099511627776 ≤ n
  · by_cases c2 : n ≤ 1099511627776
    · go_enter Try.func11, Try.ntmps11
      go_wp2
      go_ret
      exact ⟨by simp [fitB, c1, c2], rfl⟩
    · go_enter Try.func11, Try.ntmps11
      go_wp2
      go_ret
      exact ⟨by simp [fitB, c1, c2], rfl⟩
  · go_enter Try.func11, Try.ntmps11
    go_wp2
    go_ret
    exact ⟨by simp [fitB]; omega, rfl⟩


theorem bcell {W w1 : World} (hb : Below W.heap.size W w1) : (∀ b o, b < W.heap.size → w1.cell? ⟨b, o, none⟩ = W.cell? ⟨b, o, none⟩) ∧ (∀ b o, b < W.heap.size → w1.frozen? ⟨b, o, none⟩ = W.frozen? ⟨b, o, none⟩) :=
  ⟨fun b o h => hb.cell (p := ⟨b, o, none⟩) h, fun b o h => hb.frozen (p := ⟨b, o, none⟩) h⟩

set_option maxHeartbeats 400000 in
theorem one_any (n : Int) (w : World) :
    Calls Try.prog 12 #[.int .i64 n] w fun r w' => r = .returned (.agg #[.int .i64 1, .int .i64 n, .int .i64 n, .int .i64 n]) ∧ Below w.heap.size w w' := by
  go_enter Try.func12, Try.ntmps12
  go_wp2
  refine bodyPost_ret (v := .agg #[.int .i64 1, .int .i64 n, .int .i64 n, .int .i64 n]) (by simp [results, Try.results12, go_sem]) rfl ⟨rfl, ?_⟩
  exact (Below.refl _ _).alloc (Nat.le_refl _) _

set_option maxHeartbeats 400000 in
theorem rone_any (n : Int) (w : World) :
    Calls Try.prog 13 #[.int .i64 n] w fun r w' => r = .returned (.agg #[.int .i64 1, .int .i64 n, .int .i64 n, .int .i64 n]) ∧ Below w.heap.size w w' := by
  go_enter Try.func13, Try.ntmps13
  go_wp2
  refine bodyPost_ret (v := .agg #[.int .i64 1, .int .i64 n, .int .i64 n, .int .i64 n]) (by simp [results, Try.results13, go_sem]) rfl ⟨rfl, ?_⟩
  exact (Below.refl _ _).alloc (Nat.le_refl _) _

theorem b3 (w : World) (o1 o2 o3 : Obj) : Below w.heap.size w (((w.alloc o1).alloc o2).alloc o3) :=
  (((Below.refl _ _).alloc (Nat.le_refl _) _).alloc (by simp) _).alloc (by simp; omega) _

theorem b2 (w : World) (o1 o2 : Obj) : Below w.heap.size w ((w.alloc o1).alloc o2) :=
  ((Below.refl _ _).alloc (Nat.le_refl _) _).alloc (by simp) _

set_option maxHeartbeats 400000 in
theorem join_any (c s a b c' s' a' b' : Int) (w : World) (k1 : -4611686018427387904 ≤ c + c') (k2 : c + c' ≤ 4611686018427387904) (k3 : -4611686018427387904 ≤ s + s') (k4 : s + s' ≤ 4611686018427387904) :
    Calls Try.prog 14 #[.agg #[.int .i64 c, .int .i64 s, .int .i64 a, .int .i64 b], .agg #[.int .i64 c', .int .i64 s', .int .i64 a', .int .i64 b']] w fun r w' =>
      r = .returned (.agg #[.int .i64 (jn ⟨c, s, a, b⟩ ⟨c', s', a', b'⟩).c, .int .i64 (jn ⟨c, s, a, b⟩ ⟨c', s', a', b'⟩).s, .int .i64 (jn ⟨c, s, a, b⟩ ⟨c', s', a', b'⟩).a, .int .i64 (jn ⟨c, s, a, b⟩ ⟨c', s', a', b'⟩).b]) ∧ Below w.heap.size w w' := by
  by_cases h0 : c = 0
  · subst h0
    go_enter Try.func14, Try.ntmps14
    go_wp2
    refine bodyPost_ret (v := .agg #[.int .i64 c', .int .i64 s', .int .i64 a', .int .i64 b']) (by simp [results, Try.results14, go_sem]) rfl ⟨by simp [jn], b3 _ _ _ _⟩
  · have e0 : (c == 0) = false := by simpa using h0
    by_cases h1 : c' = 0
    · subst h1
      go_enter Try.func14, Try.ntmps14
      go_wp2
      refine bodyPost_ret (v := .agg #[.int .i64 c, .int .i64 s, .int .i64 a, .int .i64 b]) (by simp [results, Try.results14, go_sem]) rfl ⟨by simp [jn, h0], b3 _ _ _ _⟩
    · have e1 : (c' == 0) = false := by simpa using h1
      have hj : Hid (jn ⟨c, s, a, b⟩ ⟨c', s', a', b'⟩ = ⟨c + c', s + s', min a a', max b b'⟩) := by simp [jn, h0, h1, Hid]
      go_enter Try.func14, Try.ntmps14
      go_wp2
      all_goals
        rw [hj.out]
        refine bodyPost_ret (v := .agg #[.int .i64 (c + c'), .int .i64 (s + s'), .int .i64 (min a a'), .int .i64 (max b b')]) (by simp [results, Try.results14, go_sem]; omega) rfl ⟨rfl, b3 _ _ _ _⟩

set_option maxHeartbeats 400000 in
theorem lift_any (c s a b by' : Int) (w : World) (k1 : -4611686018427387904 ≤ c * by') (k2 : c * by' ≤ 4611686018427387904) (k3 : -4611686018427387904 ≤ s + c * by') (k4 : s + c * by' ≤ 4611686018427387904) (k5 : -4611686018427387904 ≤ a + by') (k6 : a + by' ≤ 4611686018427387904) (k7 : -4611686018427387904 ≤ b + by') (k8 : b + by' ≤ 4611686018427387904) :
    Calls Try.prog 16 #[.agg #[.int .i64 c, .int .i64 s, .int .i64 a, .int .i64 b], .int .i64 by'] w fun r w' =>
      r = .returned (.agg #[.int .i64 (lf ⟨c, s, a, b⟩ by').c, .int .i64 (lf ⟨c, s, a, b⟩ by').s, .int .i64 (lf ⟨c, s, a, b⟩ by').a, .int .i64 (lf ⟨c, s, a, b⟩ by').b]) ∧ Below w.heap.size w w' := by
  by_cases h0 : c = 0
  · subst h0
    go_enter Try.func16, Try.ntmps16
    go_wp2
    refine bodyPost_ret (v := .agg #[.int .i64 0, .int .i64 s, .int .i64 a, .int .i64 b]) (by simp [results, Try.results16, go_sem]) rfl ⟨by simp [lf], b2 _ _ _⟩
  · have e0 : (c == 0) = false := by simpa using h0
    have hj : Hid (lf ⟨c, s, a, b⟩ by' = ⟨c, s + c * by', a + by', b + by'⟩) := by simp [lf, h0, Hid]
    go_enter Try.func16, Try.ntmps16
    go_wp2
    rw [hj.out]
    refine bodyPost_ret (v := .agg #[.int .i64 c, .int .i64 (s + c * by'), .int .i64 (a + by'), .int .i64 (b + by')]) (by simp [results, Try.results16, go_sem]) rfl ⟨rfl, b2 _ _ _⟩
end Go.Proofs.Ytbibpigijgmcgaa

/- The program's forest (part 1 of its contracts and the laws' common texts). -/
import Derived.Test.YtjnkgakajenoaaaRows
import Derived.WalkKit
import Derived.WalkSpells
import Derived.RowKit3
import Derived.Below
import Derived.Maps.AppendAt
import Derived.Deep.AppendLies
import Derived.Deep.RegionHeld3
import Derived.StillTail
import Derived.Deep.OwnRows
/- Plain facts on sums of weights, with no Go in sight: joining is associative and commutative, the sum of a list by joining, its bounds, and what raising does to it. -/
namespace Go.Proofs.Ytjnkgakajenoaaa

/-- A sum of weights: how many, what they come to, the least, the greatest. -/
structure Sm where
  c : Int
  s : Int
  a : Int
  b : Int

theorem Sm.same {x y : Sm} (h1 : x.c = y.c) (h2 : x.s = y.s) (h3 : x.a = y.a) (h4 : x.b = y.b) : x = y := by
  cases x; cases y; simp_all

def jn (x y : Sm) : Sm := if x.c = 0 then y else if y.c = 0 then x else ⟨x.c + y.c, x.s + y.s, min x.a y.a, max x.b y.b⟩
def lf (x : Sm) (n : Int) : Sm := if x.c = 0 then x else ⟨x.c, x.s + x.c * n, x.a + n, x.b + n⟩
def one (n : Int) : Sm := ⟨1, n, n, n⟩
def zero : Sm := ⟨0, 0, 0, 0⟩

/-- The sum of a list, from the left. -/
def ofL (l : List Int) : Sm := l.foldl (fun x n => jn x (one n)) zero
/-- The sum of a list, from the right. -/
def ofR : List Int → Sm
  | [] => zero
  | n :: l => jn (one n) (ofR l)

/-- A sum that there can be. -/
def Sm.ok (x : Sm) : Prop := 0 ≤ x.c ∧ (x.c = 0 → x = zero)

theorem ok_zero : zero.ok := ⟨by simp [zero], fun _ => rfl⟩
theorem ok_one (n : Int) : (one n).ok := ⟨by simp [one], fun h => by simp [one] at h⟩
theorem ok_jn {x y : Sm} (hx : x.ok) (hy : y.ok) : (jn x y).ok := by
  unfold jn
  split
  · exact hy
  · split
    · exact hx
    · rename_i h1 h2
      obtain ⟨h3, _⟩ := hx
      obtain ⟨h4, _⟩ := hy
      exact ⟨by simp; omega, fun h => by simp at h; omega⟩

theorem jn_zero_left (x : Sm) : jn zero x = x := by simp [jn, zero]
theorem jn_zero_right {x : Sm} (h : x.ok) : jn x zero = x := by
  unfold jn
  split
  · rename_i h0; exact (h.2 h0).symm
  · simp [zero]
theorem jn_comm {x y : Sm} (hx : x.ok) (hy : y.ok) : jn x y = jn y x := by
  by_cases h1 : x.c = 0
  · rw [hx.2 h1, jn_zero_left, jn_zero_right hy]
  · by_cases h2 : y.c = 0
    · rw [hy.2 h2, jn_zero_left, jn_zero_right hx]
    · simp only [jn, h1, h2, if_false]
      exact Sm.same (by simp; omega) (by simp; omega) (by simp; omega) (by simp; omega)
theorem jn_assoc {x y z : Sm} (hx : x.ok) (hy : y.ok) (hz : z.ok) : jn (jn x y) z = jn x (jn y z) := by
  by_cases h1 : x.c = 0
  · rw [hx.2 h1, jn_zero_left, jn_zero_left]
  · by_cases h2 : y.c = 0
    · rw [hy.2 h2, jn_zero_left, jn_zero_right hx]
    · by_cases h3 : z.c = 0
      · rw [hz.2 h3, jn_zero_right hy, jn_zero_right (ok_jn hx hy)]
      · have g1 : x.c + y.c ≠ 0 := by have := hx.1; have := hy.1; omega
        have g2 : y.c + z.c ≠ 0 := by have := hz.1; have := hy.1; omega
        simp only [jn, h1, h2, h3, g1, g2, if_false]
        exact Sm.same (by dsimp only; omega) (by dsimp only; omega) (by dsimp only; omega) (by dsimp only; omega)

theorem ok_ofR (l : List Int) : (ofR l).ok := by
  induction l with
  | nil => exact ok_zero
  | cons n l ih => exact ok_jn (ok_one n) ih
theorem foldl_eq (l : List Int) : ∀ x : Sm, x.ok → l.foldl (fun x n => jn x (one n)) x = jn x (ofR l) := by
  induction l with
  | nil => intro x hx; exact (jn_zero_right hx).symm
  | cons n l ih => intro x hx; rw [List.foldl_cons, ih _ (ok_jn hx (ok_one n))]; exact jn_assoc hx (ok_one n) (ok_ofR l)
theorem ofL_eq (l : List Int) : ofL l = ofR l := by rw [ofL, foldl_eq l zero ok_zero, jn_zero_left]
theorem ofR_append (l m : List Int) : ofR (l ++ m) = jn (ofR l) (ofR m) := by
  induction l with
  | nil => exact (jn_zero_left _).symm
  | cons n l ih => rw [List.cons_append, ofR, ih, ofR, jn_assoc (ok_one n) (ok_ofR l) (ok_ofR m)]
theorem ofL_append (l m : List Int) : ofL (l ++ m) = jn (ofL l) (ofL m) := by rw [ofL_eq, ofL_eq, ofL_eq, ofR_append]
theorem ofL_comm (l m : List Int) : jn (ofL l) (ofL m) = jn (ofL m) (ofL l) := by rw [ofL_eq, ofL_eq]; exact jn_comm (ok_ofR l) (ok_ofR m)
theorem ofL_one (n : Int) : ofL [n] = one n := by simp [ofL, jn_zero_left]

theorem ofR_c (l : List Int) : (ofR l).c = l.length := by
  induction l with
  | nil => rfl
  | cons n l ih =>
    rw [ofR, jn, if_neg (by simp [one])]
    split
    · rename_i h; rw [h] at ih; simp [one]; omega
    · simp [one]; omega

/-- What holds of a sum of numbers between two ends. -/
theorem ofR_bd (lo hi : Int) (l : List Int) (h : ∀ n ∈ l, lo ≤ n ∧ n ≤ hi) (hne : l ≠ []) :
    lo ≤ (ofR l).a ∧ (ofR l).a ≤ (ofR l).b ∧ (ofR l).b ≤ hi ∧ (ofR l).c * (ofR l).a ≤ (ofR l).s ∧ (ofR l).s ≤ (ofR l).c * (ofR l).b := by
  induction l with
  | nil => exact absurd rfl hne
  | cons n l ih =>
    have hn := h n (by simp)
    have hl : ∀ k ∈ l, lo ≤ k ∧ k ≤ hi := fun k hk => h k (by simp [hk])
    rw [ofR]
    by_cases h0 : l = []
    · subst h0
      rw [show ofR [] = zero from rfl, jn_zero_right (ok_one n)]
      simp [one]; omega
    · obtain ⟨i1, i2, i3, i4, i5⟩ := ih hl h0
      have hc : (ofR l).c ≠ 0 := by rw [ofR_c]; have := List.length_pos_iff.2 h0; omega
      have hc0 := (ok_ofR l).1
      generalize ofR l = y at *
      obtain ⟨c, s, a, b⟩ := y
      simp only at *
      rw [jn, if_neg (by simp [one]), if_neg hc]
      simp only [one]
      have m1 : c * min n a ≤ c * a := Int.mul_le_mul_of_nonneg_left (by omega) hc0
      have m2 : c * b ≤ c * max n b := Int.mul_le_mul_of_nonneg_left (by omega) hc0
      have e1 : (1 + c) * min n a = min n a + c * min n a := by rw [Int.add_mul]; omega
      have e2 : (1 + c) * max n b = max n b + c * max n b := by rw [Int.add_mul]; omega
      rw [e1, e2]
      refine ⟨by omega, by omega, by omega, by omega, by omega⟩

theorem ofR_s (lo hi : Int) (l : List Int) (h : ∀ n ∈ l, lo ≤ n ∧ n ≤ hi) : l.length * lo ≤ (ofR l).s ∧ (ofR l).s ≤ l.length * hi := by
  by_cases h0 : l = []
  · subst h0; simp [ofR, zero]
  · obtain ⟨i1, i2, i3, i4, i5⟩ := ofR_bd lo hi l h h0
    rw [ofR_c] at i4 i5
    have m1 : (l.length : Int) * lo ≤ l.length * (ofR l).a := Int.mul_le_mul_of_nonneg_left i1 (by omega)
    have m2 : (l.length : Int) * (ofR l).b ≤ l.length * hi := Int.mul_le_mul_of_nonneg_left i3 (by omega)
    omega

theorem lf_jn {x y : Sm} (hx : x.ok) (hy : y.ok) (n : Int) : lf (jn x y) n = jn (lf x n) (lf y n) := by
  by_cases h1 : x.c = 0
  · rw [hx.2 h1, jn_zero_left]; simp [lf, zero, jn]
  · by_cases h2 : y.c = 0
    · rw [hy.2 h2, jn_zero_right hx]; simp [lf, zero, jn, h1]
    · have g1 : x.c + y.c ≠ 0 := by have := hx.1; have := hy.1; omega
      simp only [jn, lf, h1, h2, g1, if_false]
      exact Sm.same rfl (by simp [Int.add_mul]; omega) (by dsimp only; omega) (by dsimp only; omega)
theorem lf_one (m n : Int) : lf (one m) n = one (m + n) := by simp [lf, one]
theorem lf_ofR (l : List Int) (n : Int) : lf (ofR l) n = ofR (l.map (· + n)) := by
  induction l with
  | nil => simp [ofR, lf, zero]
  | cons m l ih => rw [ofR, lf_jn (ok_one m) (ok_ofR l), lf_one, ih]; rfl
theorem lf_ofL (l : List Int) (n : Int) : lf (ofL l) n = ofL (l.map (· + n)) := by rw [ofL_eq, ofL_eq, lf_ofR]
theorem lf_back (x : Sm) (n : Int) : lf (lf x n) (-n) = x := by
  by_cases h : x.c = 0
  · simp [lf, h]
  · simp only [lf, h, if_false]
    exact Sm.same rfl (by simp [Int.mul_neg]; omega) (by simp; omega) (by simp; omega)

theorem ofL_take_bd (zs : List Int) (k : Nat) (hk : k ≤ 1048576) (hb : ∀ n ∈ zs, -1099511627776 ≤ n ∧ n ≤ 1099511627776) :
    (0 ≤ (ofL (zs.take k)).c ∧ (ofL (zs.take k)).c ≤ 1048576) ∧ (-1152921504606846976 ≤ (ofL (zs.take k)).s ∧ (ofL (zs.take k)).s ≤ 1152921504606846976) := by
  have hl : (zs.take k).length ≤ k := List.length_take_le _ _
  have h := ofR_s _ _ (zs.take k) (fun n hn => hb n (List.mem_of_mem_take hn))
  rw [ofL_eq, ofR_c]
  omega
theorem ofL_take_succ (zs : List Int) (k : Nat) (hk : k < zs.length) : ofL (zs.take (k + 1)) = jn (ofL (zs.take k)) (one (zs.getD k 0)) := by
  have e : zs.take (k + 1) = zs.take k ++ [zs.getD k 0] := by
    rw [List.take_succ_eq_append_getElem hk, List.getD_eq_getElem?_getD, List.getElem?_eq_getElem hk]; rfl
  rw [e, ofL_append, ofL_one]
end Go.Proofs.Ytjnkgakajenoaaa
namespace Go.Proofs.Ytjnkgakajenoaaa
open Go.RowKit

def fitB (w : Int) : Bool := decide (-1099511627776 ≤ w ∧ w ≤ 1099511627776)
def inB (n e : Int) : Bool := decide (-e ≤ n ∧ n ≤ e)

set_option maxHeartbeats 400000 in
theorem within_any (n e : Int) (w : World) (h0 : 0 ≤ e) (h1 : e ≤ 4398046511104) :
    Calls Try.prog 79 #[.int .i64 n, .int .i64 e] w fun r w' => r = .returned (.bool (inB n e)) ∧ w' = w := by
  by_cases c1 : -e ≤ n
  · by_cases c2 : n ≤ e
    · go_enter Try.func79, Try.ntmps79
      go_wp2
      go_ret
      exact ⟨by simp [inB, c1, c2], rfl⟩
    · go_enter Try.func79, Try.ntmps79
      go_wp2
      go_ret
      exact ⟨by simp [inB, c1, c2], rfl⟩
  · go_enter Try.func79, Try.ntmps79
    go_wp2
    go_ret
    exact ⟨by simp [inB]; omega, rfl⟩

set_option maxHeartbeats 400000 in
theorem fits_any (n : Int) (w : World) :
    Calls Try.prog 52 #[.int .i64 n] w fun r w' => r = .returned (.bool (fitB n)) ∧ w' = w := by
  go_enter Try.func52, Try.ntmps52
  go_wp2_with (go_at_call 79; refine (within_any _ _ _ (by omega) (by omega)).mono ?_; rintro e w' ⟨rfl, rfl⟩)
  go_ret
  exact ⟨by simp [inB, fitB], rfl⟩

set_option maxHeartbeats 400000 in
theorem rfits_any (n : Int) (w : World) :
    Calls Try.prog 55 #[.int .i64 n] w fun r w' => r = .returned (.bool (fitB n)) ∧ w' = w := by
  by_cases c1 : -1099511627776 ≤ n
  · by_cases c2 : n ≤ 1099511627776
    · go_enter Try.func55, Try.ntmps55
      go_wp2
      go_ret
      exact ⟨by simp [fitB, c1, c2], rfl⟩
    · go_enter Try.func55, Try.ntmps55
      go_wp2
      go_ret
      exact ⟨by simp [fitB, c1, c2], rfl⟩
  · go_enter Try.func55, Try.ntmps55
    go_wp2
    go_ret
    exact ⟨by simp [fitB]; omega, rfl⟩

theorem bcell {W w1 : World} (hb : Below W.heap.size W w1) : (∀ b o, b < W.heap.size → w1.cell? ⟨b, o, none⟩ = W.cell? ⟨b, o, none⟩) ∧ (∀ b o, b < W.heap.size → w1.frozen? ⟨b, o, none⟩ = W.frozen? ⟨b, o, none⟩) :=
  ⟨fun b o h => hb.cell (p := ⟨b, o, none⟩) h, fun b o h => hb.frozen (p := ⟨b, o, none⟩) h⟩

set_option maxHeartbeats 400000 in
theorem one_any (n : Int) (w : World) :
    Calls Try.prog 54 #[.int .i64 n] w fun r w' => r = .returned (.agg #[.int .i64 1, .int .i64 n, .int .i64 n, .int .i64 n]) ∧ Below w.heap.size w w' := by
  go_enter Try.func54, Try.ntmps54
  go_wp2
  refine bodyPost_ret (v := .agg #[.int .i64 1, .int .i64 n, .int .i64 n, .int .i64 n]) (by simp [results, Try.results54, go_sem]) rfl ⟨rfl, ?_⟩
  exact (Below.refl _ _).alloc (Nat.le_refl _) _

set_option maxHeartbeats 400000 in
theorem rone_any (n : Int) (w : World) :
    Calls Try.prog 70 #[.int .i64 n] w fun r w' => r = .returned (.agg #[.int .i64 1, .int .i64 n, .int .i64 n, .int .i64 n]) ∧ Below w.heap.size w w' := by
  go_enter Try.func70, Try.ntmps70
  go_wp2
  refine bodyPost_ret (v := .agg #[.int .i64 1, .int .i64 n, .int .i64 n, .int .i64 n]) (by simp [results, Try.results70, go_sem]) rfl ⟨rfl, ?_⟩
  exact (Below.refl _ _).alloc (Nat.le_refl _) _

theorem b3 (w : World) (o1 o2 o3 : Obj) : Below w.heap.size w (((w.alloc o1).alloc o2).alloc o3) :=
  (((Below.refl _ _).alloc (Nat.le_refl _) _).alloc (by simp) _).alloc (by simp; omega) _

theorem b2 (w : World) (o1 o2 : Obj) : Below w.heap.size w ((w.alloc o1).alloc o2) :=
  ((Below.refl _ _).alloc (Nat.le_refl _) _).alloc (by simp) _

set_option maxHeartbeats 400000 in
theorem join_any (c s a b c' s' a' b' : Int) (w : World) (k1 : -4611686018427387904 ≤ c + c') (k2 : c + c' ≤ 4611686018427387904) (k3 : -4611686018427387904 ≤ s + s') (k4 : s + s' ≤ 4611686018427387904) :
    Calls Try.prog 83 #[.agg #[.int .i64 c, .int .i64 s, .int .i64 a, .int .i64 b], .agg #[.int .i64 c', .int .i64 s', .int .i64 a', .int .i64 b']] w fun r w' =>
      r = .returned (.agg #[.int .i64 (jn ⟨c, s, a, b⟩ ⟨c', s', a', b'⟩).c, .int .i64 (jn ⟨c, s, a, b⟩ ⟨c', s', a', b'⟩).s, .int .i64 (jn ⟨c, s, a, b⟩ ⟨c', s', a', b'⟩).a, .int .i64 (jn ⟨c, s, a, b⟩ ⟨c', s', a', b'⟩).b]) ∧ Below w.heap.size w w' := by
  by_cases h0 : c = 0
  · subst h0
    go_enter Try.func83, Try.ntmps83
    go_wp2
    refine bodyPost_ret (v := .agg #[.int .i64 c', .int .i64 s', .int .i64 a', .int .i64 b']) (by simp [results, Try.results83, go_sem]) rfl ⟨by simp [jn], b3 _ _ _ _⟩
  · have e0 : (c == 0) = false := by simpa using h0
    by_cases h1 : c' = 0
    · subst h1
      go_enter Try.func83, Try.ntmps83
      go_wp2
      refine bodyPost_ret (v := .agg #[.int .i64 c, .int .i64 s, .int .i64 a, .int .i64 b]) (by simp [results, Try.results83, go_sem]) rfl ⟨by simp [jn, h0], b3 _ _ _ _⟩
    · have e1 : (c' == 0) = false := by simpa using h1
      have hj : Hid (jn ⟨c, s, a, b⟩ ⟨c', s', a', b'⟩ = ⟨c + c', s + s', min a a', max b b'⟩) := by simp [jn, h0, h1, Hid]
      go_enter Try.func83, Try.ntmps83
      go_wp2
      all_goals
        rw [hj.out]
        refine bodyPost_ret (v := .agg #[.int .i64 (c + c'), .int .i64 (s + s'), .int .i64 (min a a'), .int .i64 (max b b')]) (by simp [results, Try.results83, go_sem]; omega) rfl ⟨rfl, b3 _ _ _ _⟩

set_option maxHeartbeats 400000 in
theorem rjoin_any (c s a b c' s' a' b' : Int) (w : World) (k1 : -4611686018427387904 ≤ c + c') (k2 : c + c' ≤ 4611686018427387904) (k3 : -4611686018427387904 ≤ s + s') (k4 : s + s' ≤ 4611686018427387904) :
    Calls Try.prog 69 #[.agg #[.int .i64 c, .int .i64 s, .int .i64 a, .int .i64 b], .agg #[.int .i64 c', .int .i64 s', .int .i64 a', .int .i64 b']] w fun r w' =>
      r = .returned (.agg #[.int .i64 (jn ⟨c, s, a, b⟩ ⟨c', s', a', b'⟩).c, .int .i64 (jn ⟨c, s, a, b⟩ ⟨c', s', a', b'⟩).s, .int .i64 (jn ⟨c, s, a, b⟩ ⟨c', s', a', b'⟩).a, .int .i64 (jn ⟨c, s, a, b⟩ ⟨c', s', a', b'⟩).b]) ∧ Below w.heap.size w w' := by
  by_cases h0 : c = 0
  · subst h0
    go_enter Try.func69, Try.ntmps69
    go_wp2
    refine bodyPost_ret (v := .agg #[.int .i64 c', .int .i64 s', .int .i64 a', .int .i64 b']) (by simp [results, Try.results69, go_sem]) rfl ⟨by simp [jn], b3 _ _ _ _⟩
  · have e0 : (c == 0) = false := by simpa using h0
    by_cases h1 : c' = 0
    · subst h1
      go_enter Try.func69, Try.ntmps69
      go_wp2
      refine bodyPost_ret (v := .agg #[.int .i64 c, .int .i64 s, .int .i64 a, .int .i64 b]) (by simp [results, Try.results69, go_sem]) rfl ⟨by simp [jn, h0], b3 _ _ _ _⟩
    · have e1 : (c' == 0) = false := by simpa using h1
      have hj : Hid (jn ⟨c, s, a, b⟩ ⟨c', s', a', b'⟩ = ⟨c + c', s + s', min a a', max b b'⟩) := by simp [jn, h0, h1, Hid]
      go_enter Try.func69, Try.ntmps69
      go_wp2
      all_goals
        rw [hj.out]
        refine bodyPost_ret (v := .agg #[.int .i64 (c + c'), .int .i64 (s + s'), .int .i64 (min a a'), .int .i64 (max b b')]) (by simp [results, Try.results69, go_sem]; omega) rfl ⟨rfl, b3 _ _ _ _⟩

/-- May a weight be raised by that much? -/
def addB (w n : Int) : Bool := fitB w && inB n 2199023255552 && fitB (w + n)
def addV (w n : Int) : Int := if addB w n then w + n else 0

set_option maxHeartbeats 400000 in
theorem add_any (x n : Int) (w : World) :
    Calls Try.prog 84 #[.int .i64 x, .int .i64 n] w fun r w' => r = .returned (.tuple #[.int .i64 (addV x n), .bool (addB x n)]) ∧ w' = w := by
  cases h1 : fitB x
  · go_enter Try.func84, Try.ntmps84
    go_wp2_with (go_at_call 52; refine (fits_any _ _).mono ?_; rintro e w' ⟨rfl, rfl⟩)
    go_ret2
    exact ⟨by simp [addV, addB, h1], rfl⟩
  · cases h2 : inB n 2199023255552
    · go_enter Try.func84, Try.ntmps84
      go_wp2_with (first | (go_at_call 52; refine (fits_any _ _).mono ?_; rintro e w' ⟨rfl, rfl⟩) | (go_at_call 79; refine (within_any _ _ _ (by omega) (by omega)).mono ?_; rintro e w' ⟨rfl, rfl⟩))
      go_ret2
      exact ⟨by simp [addV, addB, h2], rfl⟩
    · have g1 : -1099511627776 ≤ x ∧ x ≤ 1099511627776 := by simpa [fitB] using h1
      have g2 : -2199023255552 ≤ n ∧ n ≤ 2199023255552 := by simpa [inB] using h2
      obtain ⟨g1, g1'⟩ := g1
      obtain ⟨g2, g2'⟩ := g2
      cases h3 : fitB (x + n)
      · go_enter Try.func84, Try.ntmps84
        go_wp2_with (first | (go_at_call 52; refine (fits_any _ _).mono ?_; rintro e w' ⟨rfl, rfl⟩) | (go_at_call 79; refine (within_any _ _ _ (by omega) (by omega)).mono ?_; rintro e w' ⟨rfl, rfl⟩))
        go_ret2
        exact ⟨by simp [addV, addB, h3], rfl⟩
      · go_enter Try.func84, Try.ntmps84
        go_wp2_with (first | (go_at_call 52; refine (fits_any _ _).mono ?_; rintro e w' ⟨rfl, rfl⟩) | (go_at_call 79; refine (within_any _ _ _ (by omega) (by omega)).mono ?_; rintro e w' ⟨rfl, rfl⟩))
        go_ret2
        exact ⟨by simp [addV, addB, h1, h2, h3], rfl⟩

set_option maxHeartbeats 400000 in
theorem radd_any (x n : Int) (w : World) :
    Calls Try.prog 68 #[.int .i64 x, .int .i64 n] w fun r w' => r = .returned (.tuple #[.int .i64 (addV x n), .bool (addB x n)]) ∧ w' = w := by
  cases h1 : fitB x
  · go_enter Try.func68, Try.ntmps68
    go_wp2_with (go_at_call 55; refine (rfits_any _ _).mono ?_; rintro e w' ⟨rfl, rfl⟩)
    go_ret2
    exact ⟨by simp [addV, addB, h1], rfl⟩
  · by_cases h2 : 2199023255552 < n
    · have hf : inB n 2199023255552 = false := by simp [inB]; omega
      go_enter Try.func68, Try.ntmps68
      go_wp2_with (go_at_call 55; refine (rfits_any _ _).mono ?_; rintro e w' ⟨rfl, rfl⟩)
      go_ret2
      exact ⟨by simp [addV, addB, hf], rfl⟩
    · by_cases h3 : n < -2199023255552
      · have hf : inB n 2199023255552 = false := by simp [inB]; omega
        go_enter Try.func68, Try.ntmps68
        go_wp2_with (go_at_call 55; refine (rfits_any _ _).mono ?_; rintro e w' ⟨rfl, rfl⟩)
        go_ret2
        exact ⟨by simp [addV, addB, hf], rfl⟩
      · have g1 : -1099511627776 ≤ x ∧ x ≤ 1099511627776 := by simpa [fitB] using h1
        have g2 : inB n 2199023255552 = true := by simp [inB]; omega
        obtain ⟨g1, g1'⟩ := g1
        have H2 : Hid (inB n 2199023255552 = true) := g2
        clear g2
        cases h4 : fitB (x + n)
        · go_enter Try.func68, Try.ntmps68
          go_wp2_with (go_at_call 55; refine (rfits_any _ _).mono ?_; rintro e w' ⟨rfl, rfl⟩)
          go_ret2
          exact ⟨by simp [addV, addB, h4], rfl⟩
        · go_enter Try.func68, Try.ntmps68
          go_wp2_with (go_at_call 55; refine (rfits_any _ _).mono ?_; rintro e w' ⟨rfl, rfl⟩)
          go_ret2
          exact ⟨by simp [addV, addB, h1, H2.out, h4], rfl⟩
/-- Four cells of a block hold a sum, and may be written. -/
def SumAt (w : World) (b : Nat) (x : Sm) : Prop :=
  (w.cell? ⟨b, 0, none⟩ = some (.int .i64 x.c) ∧ w.cell? ⟨b, 1, none⟩ = some (.int .i64 x.s) ∧ w.cell? ⟨b, 2, none⟩ = some (.int .i64 x.a) ∧ w.cell? ⟨b, 3, none⟩ = some (.int .i64 x.b)) ∧
  w.frozen? ⟨b, 0, none⟩ = false ∧ w.frozen? ⟨b, 1, none⟩ = false ∧ w.frozen? ⟨b, 2, none⟩ = false ∧ w.frozen? ⟨b, 3, none⟩ = false

theorem SumAt.below {W w1 : World} {b : Nat} {x : Sm} (h : SumAt W b x) (hb : Below W.heap.size W w1) (hl : b < W.heap.size) : SumAt w1 b x := by
  obtain ⟨⟨q0, q1, q2, q3⟩, f0, f1, f2, f3⟩ := h
  refine ⟨⟨?_, ?_, ?_, ?_⟩, ?_, ?_, ?_, ?_⟩
  · rw [hb.cell (p := ⟨b, 0, none⟩) hl]; exact q0
  · rw [hb.cell (p := ⟨b, 1, none⟩) hl]; exact q1
  · rw [hb.cell (p := ⟨b, 2, none⟩) hl]; exact q2
  · rw [hb.cell (p := ⟨b, 3, none⟩) hl]; exact q3
  · rw [hb.frozen (p := ⟨b, 0, none⟩) hl]; exact f0
  · rw [hb.frozen (p := ⟨b, 1, none⟩) hl]; exact f1
  · rw [hb.frozen (p := ⟨b, 2, none⟩) hl]; exact f2
  · rw [hb.frozen (p := ⟨b, 3, none⟩) hl]; exact f3

/-- Four cells of a block written with a sum. -/
def putSum (w : World) (b : Nat) (x : Sm) : World :=
  (((w.setCell ⟨b, 0, none⟩ (.int .i64 x.c)).setCell ⟨b, 1, none⟩ (.int .i64 x.s)).setCell ⟨b, 2, none⟩ (.int .i64 x.a)).setCell ⟨b, 3, none⟩ (.int .i64 x.b)

theorem SumAt.put {w : World} {b : Nat} {x y : Sm} (h : SumAt w b y) : SumAt (putSum w b x) b x := by
  obtain ⟨⟨q0, q1, q2, q3⟩, f0, f1, f2, f3⟩ := h
  simp [SumAt, putSum, go_sem, q0, q1, q2, q3, f0, f1, f2, f3]
theorem SumAt.put_other {w : World} {b c : Nat} {x y : Sm} (h : SumAt w c y) (hne : c ≠ b) : SumAt (putSum w b x) c y := by
  obtain ⟨⟨q0, q1, q2, q3⟩, f0, f1, f2, f3⟩ := h
  simp [SumAt, putSum, go_sem, q0, q1, q2, q3, f0, f1, f2, f3]
theorem below_put {B b : Nat} {w w' : World} {x : Sm} (h : Below B w w') (hb : B ≤ b) : Below B w (putSum w' b x) :=
  (((h.setCell (p := ⟨b, 0, none⟩) hb _).setCell (p := ⟨b, 1, none⟩) hb _).setCell (p := ⟨b, 2, none⟩) hb _).setCell (p := ⟨b, 3, none⟩) hb _
theorem putSum_size (w : World) (b : Nat) (x : Sm) : (putSum w b x).heap.size = w.heap.size := by simp [putSum, go_sem]

end Go.Proofs.Ytjnkgakajenoaaa
/- Frames by lists of blocks: what a call may have turned, and what lies elsewhere. Nothing of the dump. -/

namespace Go.Arb
open Go.RowKit

/-- Only the blocks of 'ks' may have turned, of those that were there. -/
structure Keep (ks : List Nat) (w w' : World) : Prop where
  os : w'.os = w.os
  tape : w'.tape = w.tape
  output : w'.output = w.output
  size : w.heap.size ≤ w'.heap.size
  block : ∀ k, k < w.heap.size → k ∉ ks → w'.heap[k]? = w.heap[k]?

theorem Keep.refl (ks : List Nat) (w : World) : Keep ks w w := ⟨rfl, rfl, rfl, Nat.le_refl _, fun _ _ _ => rfl⟩
theorem Keep.drew {ks : List Nat} {w w' : World} (h : Keep ks w w') : Keep ks w w'.drew := ⟨h.os, h.tape, h.output, h.size, h.block⟩
/-- The second call may turn what the first one may, and what is new since. -/
theorem Keep.trans {ks js : List Nat} {a b c : World} (h : Keep ks a b) (k : Keep js b c) (hj : ∀ i ∈ js, i ∈ ks ∨ a.heap.size ≤ i) : Keep ks a c :=
  ⟨k.os.trans h.os, k.tape.trans h.tape, k.output.trans h.output, Nat.le_trans h.size k.size, fun i hi hn =>
    (k.block i (Nat.lt_of_lt_of_le hi h.size) (fun hm => by rcases hj i hm with h1 | h1; exact hn h1; omega)).trans (h.block i hi hn)⟩
theorem Keep.mono {ks js : List Nat} {w w' : World} (h : Keep ks w w') (hs : ∀ k ∈ ks, k ∈ js ∨ w.heap.size ≤ k) : Keep js w w' :=
  ⟨h.os, h.tape, h.output, h.size, fun k hk hn => h.block k hk (fun hm => by rcases hs k hm with h1 | h1; exact hn h1; omega)⟩
theorem Keep.alloc {ks : List Nat} {a w : World} (h : Keep ks a w) (o : Obj) : Keep ks a (w.alloc o) :=
  h.trans (js := []) ⟨rfl, rfl, rfl, by simp, fun _ hk _ => Below.heap_alloc _ _ _ hk⟩ (by simp)
theorem Keep.setCell {ks : List Nat} {a w : World} (h : Keep ks a w) {p : Addr} (hp : p.block ∈ ks ∨ a.heap.size ≤ p.block) (u : Value) : Keep ks a (w.setCell p u) :=
  h.trans (js := [p.block]) ⟨rfl, rfl, rfl, by simp [World.setCell], fun k _ hn => Below.heap_setCell _ _ _ _ (by simpa using hn)⟩ (by simpa using hp)
theorem Keep.grown {ks : List Nat} {a w w' : World} {row : Option Nat} (h : Keep ks a w) (hg : w.grownBy w' row) (hr : ∀ k, row = some k → k ∈ ks ∨ a.heap.size ≤ k) : Keep ks a w' :=
  h.trans (js := row.toList) ⟨hg.os, hg.tape, hg.output, hg.size, fun k hk hn => hg.block k hk (fun e => hn (by simp [← e]))⟩ (fun i hi => hr i (by simpa using hi))
theorem Keep.below {ks : List Nat} {B : Nat} {a w w' : World} (hb : Below B a w) (h : Keep ks w w') (hB : B ≤ w.heap.size) (hk : ∀ k ∈ ks, B ≤ k) : Below B a w' :=
  hb.trans ⟨h.os, h.tape, h.output, h.size, fun k h1 => h.block k (by omega) (fun hm => by have := hk k hm; omega)⟩
theorem Keep.ofBelow {w w' : World} (h : Below w.heap.size w w') (ks : List Nat) : Keep ks w w' := ⟨h.os, h.tape, h.output, h.size, fun k hk _ => h.block k hk⟩
theorem Keep.cell {ks : List Nat} {w w' : World} (h : Keep ks w w') {p : Addr} (hp : p.block < w.heap.size) (hn : p.block ∉ ks) : w'.cell? p = w.cell? p := World.cell?_of_block (w := w) (h.block p.block hp hn)
theorem Keep.frozen {ks : List Nat} {w w' : World} (h : Keep ks w w') {p : Addr} (hp : p.block < w.heap.size) (hn : p.block ∉ ks) : w'.frozen? p = w.frozen? p := World.frozen?_of_block (w := w) (h.block p.block hp hn)

/-- What an object lay in, and what it lies in now: nothing more but what is new. -/
def Grew (w : World) (ks ks' : List Nat) : Prop := ∀ k ∈ ks', k ∈ ks ∨ w.heap.size ≤ k
theorem Grew.refl (w : World) (ks : List Nat) : Grew w ks ks := fun _ h => .inl h
theorem Grew.trans {w w1 : World} {a b c : List Nat} (h : Grew w a b) (k : Grew w1 b c) (hs : w.heap.size ≤ w1.heap.size) : Grew w a c := fun i hi => by
  rcases k i hi with h1 | h1
  · exact h i h1
  · right; omega
/-- Two objects lie apart. -/
def Off (ks js : List Nat) : Prop := ∀ k ∈ ks, k ∉ js
theorem Off.symm {ks js : List Nat} (h : Off ks js) : Off js ks := fun k hk hj => h k hj hk
/-- One that lies apart stays apart. -/
theorem Off.grew {w : World} {ks js js' : List Nat} (h : Off ks js) (hk : ∀ k ∈ ks, k < w.heap.size) (hg : Grew w js js') : Off ks js' := fun k h1 h2 => by
  rcases hg k h2 with h3 | h3
  · exact h k h1 h3
  · have := hk k h1; omega
theorem ge_grew {w : World} {B : Nat} {ks js : List Nat} (h : ∀ k ∈ ks, B ≤ k) (hB : B ≤ w.heap.size) (hg : Grew w ks js) : ∀ k ∈ js, B ≤ k := fun k hk => by
  rcases hg k hk with h1 | h1
  · exact h k h1
  · omega

/-- The cells of a list of elements. -/
def flat {α : Type} (f : α → List Value) (l : List α) : List Value := l.flatMap f

theorem flat_length {α : Type} {f : α → List Value} {s : Nat} (hf : ∀ a, (f a).length = s) (l : List α) : (flat f l).length = l.length * s := by
  induction l with
  | nil => simp [flat]
  | cons a l ih => simp only [flat, List.flatMap_cons, List.length_append, List.length_cons] at *; rw [ih, hf, Nat.add_mul]; omega
theorem flat_get {α : Type} {f : α → List Value} {s : Nat} (hf : ∀ a, (f a).length = s) (l : List α) (i j : Nat) (hj : j < s) : (flat f l)[i * s + j]? = (l[i]?).bind fun a => (f a)[j]? := by
  induction l generalizing i with
  | nil => simp [flat]
  | cons a l ih =>
    have ha := hf a
    cases i with
    | zero =>
      simp only [flat, List.flatMap_cons, Nat.zero_mul, Nat.zero_add, List.getElem?_cons_zero, Option.bind_some]
      rw [List.getElem?_append_left (by omega)]
    | succ i =>
      simp only [flat, List.flatMap_cons, List.getElem?_cons_succ] at *
      rw [List.getElem?_append_right (by rw [ha, Nat.add_mul]; omega), ← ih i]
      congr 1
      rw [ha, Nat.add_mul]; omega
theorem flat_set {α : Type} {f : α → List Value} {s : Nat} (hf : ∀ a, (f a).length = s) (l : List α) (i j : Nat) (hi : i < l.length) (hj : j < s) (b : α) (u : Value) (hb : f b = (f l[i]).set j u) :
    flat f (l.set i b) = (flat f l).set (i * s + j) u := by
  induction l generalizing i with
  | nil => simp at hi
  | cons a l ih =>
    have ha := hf a
    cases i with
    | zero =>
      simp only [List.getElem_cons_zero] at hb
      simp only [flat, List.set_cons_zero, List.flatMap_cons, Nat.zero_mul, Nat.zero_add]
      rw [List.set_append_left _ _ (by omega), hb]
    | succ i =>
      simp only [List.getElem_cons_succ] at hb
      simp only [flat, List.set_cons_succ, List.flatMap_cons] at *
      rw [List.set_append_right _ _ (by rw [ha, Nat.add_mul]; omega), ih i (by simpa using hi) hb]
      congr 2
      rw [ha, Nat.add_mul]; omega
theorem flat_append {α : Type} (f : α → List Value) (l m : List α) : flat f (l ++ m) = flat f l ++ flat f m := by simp [flat]
theorem flat_one {α : Type} (f : α → List Value) (a : α) : flat f [a] = f a := by simp [flat]

/-- The cells of a block that was just laid. -/
theorem news_new (w : World) (cs : Array Value) (t : TypeId) : ∀ j u, cs.toList[j]? = some u → (w.alloc (.cells cs t)).cell? ((⟨w.heap.size, 0, none⟩ : Addr).add j) = some u :=
  World.news_of_block (heap_alloc_new w _)
/-- What a slice lies in. -/
def own (v : Value) : List Nat := v.ownBlock.toList
theorem mem_own {v : Value} {k : Nat} : k ∈ own v ↔ v.ownBlock = some k := by
  unfold own; cases v.ownBlock <;> simp; exact eq_comm
theorem own_grew {w : World} {v v' : Value} (h : v'.ownBlock = v.ownBlock ∨ v'.ownBlock = some w.heap.size) : Grew w (own v) (own v') := fun k hk => by
  rw [mem_own] at *
  rcases h with h | h
  · left; rw [← h]; exact hk
  · right; rw [h] at hk; cases hk; exact Nat.le_refl _
theorem row_lt {w : World} {base : Nat} {e : TypeId} {s n : Nat} {v : Value} {xs : List Value} (h : w.ownsRow base e s v n xs) : ∀ k ∈ own v, k < w.heap.size := fun k hk => (h.lt k (mem_own.1 hk)).2
theorem row_ge {w : World} {base : Nat} {e : TypeId} {s n : Nat} {v : Value} {xs : List Value} (h : w.ownsRow base e s v n xs) : ∀ k ∈ own v, base ≤ k := fun k hk => (h.lt k (mem_own.1 hk)).1
/-- A row that lies elsewhere is as it was. -/
theorem row_keep {w w' : World} {ks : List Nat} {base : Nat} {e : TypeId} {s n : Nat} {v : Value} {xs : List Value} (h : w.ownsRow base e s v n xs) (hk : Keep ks w w') (ho : Off (own v) ks) : w'.ownsRow base e s v n xs := by
  refine ⟨h.1, ?_⟩
  rcases h.2 with hn | ⟨g, cap, cur, rfl, hb, hg, rest⟩
  · exact .inl hn
  · refine .inr ⟨g, cap, cur, rfl, hb, ?_, rest⟩
    rw [hk.block g (Array.getElem?_eq_some_iff.1 hg).1 (ho g (by simp [own, Value.ownBlock]))]
    exact hg
theorem row_grown {w w' : World} {base : Nat} {e : TypeId} {s n : Nat} {v : Value} {xs : List Value} {row : Option Nat} (h : w.ownsRow base e s v n xs) (hg : w.grownBy w' row) (ho : Off (own v) row.toList) : w'.ownsRow base e s v n xs :=
  row_keep h (Keep.grown (ks := row.toList) (Keep.refl _ _) hg (fun k hk => .inl (by simp [hk]))) ho

/-- A row's value, as the walk takes it: one form for a nil slice and any other. -/
theorem row_form {w : World} {base : Nat} {e : TypeId} {s n : Nat} {v : Value} {xs : List Value} (h : w.ownsRow base e s v n xs) : ∃ x cap, v = .slice x n cap ∧ n ≤ cap ∧ cap ≤ maxLen ∧ (0 < n → ∃ g, x = some ⟨g, 0, none⟩ ∧ g < w.heap.size ∧ own v = [g] ∧ ∀ j, j < n * s → w.cell? ⟨g, j, none⟩ = xs[j]? ∧ w.frozen? ⟨g, j, none⟩ = false) := by
  rcases h.2 with ⟨rfl, rfl⟩ | ⟨g, cap, cur, hv, hb, hg, hn, hm, hc, ht⟩
  · exact ⟨none, 0, rfl, Nat.le_refl _, Nat.zero_le _, fun h0 => by omega⟩
  · subst hv
    exact ⟨_, cap, rfl, hn, hm, fun _ => ⟨g, rfl, (Array.getElem?_eq_some_iff.1 hg).1, rfl, fun j hj => ⟨h.cellAt j hj, h.frozenAt j⟩⟩⟩
end Go.Arb
/- Several objects of the call's own, each apart from the others. Nothing of the dump. -/

namespace Go.Arb
open Go.RowKit

structure Sep (B : Nat) (W : World) (l : List (List Nat)) : Prop where
  pw : l.Pairwise Off
  bd : ∀ ks ∈ l, ∀ k ∈ ks, B ≤ k ∧ k < W.heap.size

theorem Sep.step {B : Nat} {W W' : World} {a a' : List Nat} {l : List (List Nat)} (h : Sep B W (a :: l)) (hB : B ≤ W.heap.size) (hk : Keep a W W') (hg : Grew W a a') (hl : ∀ k ∈ a', k < W'.heap.size) : Sep B W' (a' :: l) := by
  obtain ⟨h1, h2⟩ := h
  rw [List.pairwise_cons] at h1
  refine ⟨List.pairwise_cons.2 ⟨fun b hb => ?_, h1.2⟩, fun ks hks k hk' => ?_⟩
  · exact ((h1.1 b hb).symm.grew (w := W) (fun k hk' => (h2 b (List.mem_cons_of_mem _ hb) k hk').2) hg).symm
  · rcases List.mem_cons.1 hks with rfl | hks
    · exact ⟨ge_grew (fun k hk => (h2 a (by simp) k hk).1) hB hg k hk', hl k hk'⟩
    · have := h2 ks (List.mem_cons_of_mem _ hks) k hk'
      exact ⟨this.1, Nat.lt_of_lt_of_le this.2 hk.size⟩
theorem Sep.perm {B : Nat} {W : World} {l l' : List (List Nat)} (h : Sep B W l) (hp : l.Perm l') : Sep B W l' :=
  ⟨(hp.pairwise_iff (fun h => h.symm)).1 h.pw, fun ks hks => h.bd ks (hp.mem_iff.2 hks)⟩
theorem Sep.up {B : Nat} {W W' : World} {l : List (List Nat)} (h : Sep B W l) (hs : W.heap.size ≤ W'.heap.size) : Sep B W' l :=
  ⟨h.pw, fun ks hks k hk => ⟨(h.bd ks hks k hk).1, Nat.lt_of_lt_of_le (h.bd ks hks k hk).2 hs⟩⟩
theorem Sep.off {B : Nat} {W : World} {a b : List Nat} {l : List (List Nat)} (h : Sep B W (a :: l)) (hb : b ∈ l) : Off b a := ((List.pairwise_cons.1 h.pw).1 b hb).symm
theorem Sep.ge {B : Nat} {W : World} {a : List Nat} {l : List (List Nat)} (h : Sep B W l) (ha : a ∈ l) : ∀ k ∈ a, B ≤ k := fun k hk => (h.bd a ha k hk).1
theorem Sep.tail {B : Nat} {W : World} {a : List Nat} {l : List (List Nat)} (h : Sep B W (a :: l)) : Sep B W l := ⟨(List.pairwise_cons.1 h.pw).2, fun ks hks => h.bd ks (List.mem_cons_of_mem _ hks)⟩
/-- A new object joins. -/
theorem Sep.join {B : Nat} {W W' : World} {a : List Nat} {l : List (List Nat)} (h : Sep B W l) (hB : B ≤ W.heap.size) (hs : W.heap.size ≤ W'.heap.size) (ha : ∀ k ∈ a, W.heap.size ≤ k ∧ k < W'.heap.size) : Sep B W' (a :: l) := by
  refine ⟨List.pairwise_cons.2 ⟨fun b hb k hk hkb => ?_, h.pw⟩, fun ks hks k hk => ?_⟩
  · have h1 := ha k hk
    have h2 := h.bd b hb k hkb
    omega
  · rcases List.mem_cons.1 hks with rfl | hks
    · have := ha k hk; exact ⟨by omega, this.2⟩
    · have := h.bd ks hks k hk; exact ⟨this.1, by omega⟩
theorem Sep.nil (B : Nat) (W : World) : Sep B W [] := ⟨List.Pairwise.nil, by simp⟩
theorem Sep.none {B : Nat} {W : World} {l : List (List Nat)} (h : Sep B W l) : Sep B W ([] :: l) := ⟨List.pairwise_cons.2 ⟨fun _ _ _ hk => by simp at hk, h.pw⟩, fun ks hks k hk => by
  rcases List.mem_cons.1 hks with rfl | hks
  · simp at hk
  · exact h.bd ks hks k hk⟩

/-- The cells of a block that was just laid, its number said otherwise. -/
theorem news_at (w : World) (cs : List Value) (t : TypeId) (H : Nat) (hH : w.heap.size = H) : ∀ j u, cs[j]? = some u → (w.alloc (.cells cs.toArray t)).cell? ((⟨H, 0, none⟩ : Addr).add j) = some u := by
  subst hH
  exact fun j u h => news_new w cs.toArray t j u (by simpa using h)
/-- What an append onto a row of the call's own leaves. -/
theorem app_keep {W W1 W2 : World} {v : Value} {g H : Nat} (hk : Keep [] W W1) (hgrow : W1.grownBy W2 v.ownBlock) (hat : v.ownBlock = some g ∨ g = H) (hH : W.heap.size ≤ H) (hlt : g < W2.heap.size) :
    Keep (own v) W W2 ∧ Grew W (own v) [g] ∧ ∀ k ∈ [g], k < W2.heap.size := by
  refine ⟨(hk.mono (js := own v) (by simp)).grown hgrow (fun k hk => .inl (mem_own.2 hk)), fun k hk => ?_, by simpa using hlt⟩
  simp at hk
  subst hk
  rcases hat with h | h
  · exact .inl (mem_own.2 h)
  · right; omega
end Go.Arb
/- Code walked over a frame that is a letter: only what some slots hold is known, by a list. Nothing of the dump. -/

namespace Go.Arb
set_option linter.unusedVariables false
set_option linter.unusedSimpArgs false
section
variable {P : Program} {ops : Array Oper} {Q : Exit → Act → World → Prop} {S : World → Prop} {a : Act} {w w' : World} {s d n : Nat} {u v : Value} {o : Oper} {L L' : List (Nat × Value)}
/-- What the list says of a slot: the first entry counts. -/
def look : List (Nat × Value) → Nat → Option Value
  | [], _ => none
  | (k, v) :: l, s => bif Nat.beq k s then some v else look l s
/-- A frame of n slots, of which the list tells what some hold. -/
structure Kn (a : Act) (n : Nat) (L : List (Nat × Value)) : Prop where
  size : a.tmps.size = n
  defers : a.defers = []
  has : ∀ s v, look L s = some v → a.tmps[s]? = some v
theorem Kn.ev (h : Kn a n L) (hs : look L s = some v) : a.eval (.tmp s) = v := by
  have := h.has s v hs
  simp [Act.eval, this]
theorem Kn.put (h : Kn a n L) (hd : Nat.blt d n = true) : Kn (a.put (some d) v) n ((d, v) :: L) := by
  have hd' : d < n := by simpa [Nat.blt_eq] using hd
  refine ⟨by simp [Act.put, h.size], h.defers, fun s x hx => ?_⟩
  unfold look at hx
  cases e : Nat.beq d s
  · rw [e] at hx
    have : d ≠ s := fun c => by subst c; simp at e
    simpa [Act.put, Array.getElem?_setIfInBounds, this] using h.has s x hx
  · rw [e] at hx
    have : d = s := Nat.eq_of_beq_eq_true e
    subst this
    have hx' : v = x := by simpa using hx
    subst hx'
    simp [Act.put, h.size, hd']
/-- One list says no more than another one. -/
def Less (L : List (Nat × Value)) : List (Nat × Value) → Prop
  | [] => True
  | (s, v) :: r => look L s = some v ∧ Less L r
theorem Less.look : ∀ {r : List (Nat × Value)}, Less L r → look r s = some v → look L s = some v
  | [], _, h => by cases h
  | (k, x) :: r, h, hl => by
    unfold Go.Arb.look at hl
    cases e : Nat.beq k s
    · rw [e] at hl; exact h.2.look hl
    · rw [e] at hl
      have : k = s := Nat.eq_of_beq_eq_true e
      subst this
      have hx' : x = v := by simpa using hl
      subst hx'
      exact h.1
theorem Kn.less (h : Kn a n L) (hs : Less L L') : Kn a n L' := ⟨h.size, h.defers, fun s v hv => h.has s v (hs.look hv)⟩
theorem want_none (h : o.guard = none) {y : Nat → Option Bool} : Region.wanted o y = true := by simp [Region.wanted, h]
theorem want_some (hk : Kn a n L) {j : Nat} {b : Bool} (hg : o.guard = some (j, b)) (hd : (ops[j]?).bind (·.dst) = some d) (hv : look L d = some (.bool b)) : Region.wanted o (yielded ops a.tmps) = true := by
  have := hk.has d _ hv
  simp [Region.wanted, hg, yielded, hd, this]
theorem want_not (hk : Kn a n L) {j : Nat} {b c : Bool} (hg : o.guard = some (j, b)) (hd : (ops[j]?).bind (·.dst) = some d) (hv : look L d = some (.bool c)) (hne : c ≠ b) : Region.wanted o (yielded ops a.tmps) = false := by
  have := hk.has d _ hv
  simp [Region.wanted, hg, yielded, hd, this, hne]
/-- What an operation may know of the frame. -/
structure Sees (L : List (Nat × Value)) (ev : Operand → Value) : Prop where
  tmp : ∀ s v, look L s = some v → ev (.tmp s) = v
  const : ∀ c, ev (.const c) = c
  func : ∀ f, ev (.func f) = .func (.func f) #[] #[]
theorem Kn.sees (h : Kn a n L) : Sees L a.eval := ⟨fun s v hv => h.ev hv, fun _ => rfl, fun _ => rfl⟩

/-! A statement whose order is told. -/
theorem ltake {rest : List Oper} (hk : Kn a n L) (ho : o.dst = some d) (hd : Nat.blt d n = true) (hw : Region.wanted o (yielded ops a.tmps) = true)
    (hy : ∀ ev, Sees L ev → (execOp ev o).run P w = .ok (.value v) w') (h : ∀ a', Kn a' n ((d, v) :: L) → wpList P ops Q rest a' w') : wpList P ops Q (o :: rest) a w :=
  wpList_step fun K hK => by
    rw [if_pos hw]
    unfold Oper.wp
    rw [hy _ hk.sees, Oper.upon_value, ho]
    exact hK _ _ (h _ (hk.put hd))
theorem lstore {rest : List Oper} (hk : Kn a n L) (ho : o.dst = none) (hw : Region.wanted o (yielded ops a.tmps) = true)
    (hy : ∀ ev, Sees L ev → (execOp ev o).run P w = .ok .skip w') (h : wpList P ops Q rest a w') : wpList P ops Q (o :: rest) a w :=
  wpList_step fun K hK => by
    rw [if_pos hw]
    unfold Oper.wp
    rw [hy _ hk.sees, Oper.upon_skip, ho]
    exact hK _ _ h
theorem lskip {rest : List Oper} (hk : Kn a n L) (ho : o.dst = some d) (hd : Nat.blt d n = true) (hw : Region.wanted o (yielded ops a.tmps) = false)
    (h : ∀ a', Kn a' n ((d, undef) :: L) → wpList P ops Q rest a' w) : wpList P ops Q (o :: rest) a w :=
  wpList_step fun K hK => by
    rw [if_neg (by rw [hw]; exact Bool.false_ne_true), ho]
    exact hK _ _ (h _ (hk.put hd))
theorem lcall {rest : List Oper} {f : FuncId} {args : Array Value} {R : Ending → World → Prop} (hk : Kn a n L) (ho : o.dst = some d) (hd : Nat.blt d n = true) (hw : Region.wanted o (yielded ops a.tmps) = true)
    (hy : ∀ ev, Sees L ev → (execOp ev o).run P w = .ok (.enter f args) w) (hc : Calls P f args w R)
    (h : ∀ e w', R e w' → ∃ v, e = .returned v ∧ ∀ a', Kn a' n ((d, v) :: L) → wpList P ops Q rest a' w') : wpList P ops Q (o :: rest) a w :=
  wpList_step fun K hK => by
    rw [if_pos hw]
    unfold Oper.wp
    rw [hy _ hk.sees, Oper.upon_enter, ho]
    refine hc.mono ?_
    intro e w' hr
    obtain ⟨v, rfl, h'⟩ := h e w' hr
    exact hK _ _ (h' _ (hk.put hd))

/-! A drawn one. -/
theorem dtake {i fuel : Nat} {l1 : Array Bool} (hk : Kn a n L) (hq : ∀ c a a' w, Q (.panic c) a w → Q (.panic c) a' w) (hi : ops[i]? = some o) (hs : Region.noSelect ops = true) (hf : Region.free .any ops l1 i = true) (hr : (Region.ready .any ops l1).contains i = true)
    (ho : o.dst = some d) (hd : Nat.blt d n = true) (hw : Region.wanted o (yielded ops a.tmps) = true) (hy : ∀ ev, Sees L ev → ∀ w, S w → (execOp ev o).run P w = .ok (.value v) w) (hS : S w)
    (h : ∀ a', Kn a' n ((d, v) :: L) → wpAnyH P .any ops Q S fuel (l1.setIfInBounds i true) a' w) : wpAnyH P .any ops Q S (fuel + 1) l1 a w := by
  refine wpAnyH_take hi hs hf hr (fun c a w h => hq c _ _ w h) (Or.inl ⟨hw, hy _ hk.sees⟩) hS ?_
  rw [ho]
  exact h _ (hk.put hd)
theorem dcall {i fuel : Nat} {l1 : Array Bool} {f : FuncId} {args : Array Value} {R : Ending → World → Prop} (hk : Kn a n L) (hi : ops[i]? = some o) (hr : Region.ready .any ops l1 = [i])
    (ho : o.dst = some d) (hd : Nat.blt d n = true) (hw : Region.wanted o (yielded ops a.tmps) = true) (hy : ∀ ev, Sees L ev → (execOp ev o).run P w = .ok (.enter f args) w) (hc : Calls P f args w R)
    (h : ∀ e w', R e w' → ∃ v, e = .returned v ∧ S w' ∧ ∀ a', Kn a' n ((d, v) :: L) → wpAnyH P .any ops Q S fuel (l1.setIfInBounds i true) a' w') : wpAnyH P .any ops Q S (fuel + 1) l1 a w := by
  refine wpAnyH_ready hr (by simp) (AllReadyH.cons hi (fun K hK => ?_) AllReadyH.nil)
  rw [if_pos hw]
  unfold Oper.wp
  rw [hy _ hk.sees, Oper.upon_enter, ho]
  refine hc.mono ?_
  intro e w' hr
  obtain ⟨v, rfl, h1, h2⟩ := h e w' hr
  exact hK.out _ _ h1 (fun _ => h2 _ (hk.put hd))
theorem Kn.of (h1 : a.tmps.size = n) (h2 : a.defers = []) (h : ∀ x ∈ L, a.tmps[x.1]? = some x.2) : Kn a n L := by
  refine ⟨h1, h2, ?_⟩
  induction L with
  | nil => intro s v h; cases h
  | cons x l ih =>
    intro s v hv
    rw [List.forall_mem_cons] at h
    unfold look at hv
    cases e : Nat.beq x.1 s
    · rw [e] at hv; exact ih h.2 s v hv
    · rw [e] at hv
      have e' : x.1 = s := Nat.eq_of_beq_eq_true e
      have hx' : x.2 = v := by simpa using hv
      rw [← e', ← hx']
      exact h.1
theorem knCond {x y : Code} {b : Bool} (hk : Kn a n L) (hs : look L s = some (.bool b)) (h : (if b then x else y).wp P Q a w) : (Code.cond (.tmp s) x y).wp P Q a w := wp_cond (hk.ev hs) h
end
end Go.Arb
/- A drawn statement whose last store changes what it read: what the reads lean on holds till that store. Nothing of the dump. -/

namespace Go.Arb
set_option linter.unusedVariables false
set_option linter.unusedSimpArgs false
section
variable {P : Program} {ops : Array Oper} {Q : Exit → Act → World → Prop} {S : World → Prop} {a : Act} {w w' : World} {s d n : Nat} {u v : Value} {o : Oper} {L L' : List (Nat × Value)}
/-- Whichever comes up next: till operation t has come up, S holds. -/
def wpTill (P : Program) (ops : Array Oper) (Q : Exit → Act → World → Prop) (t : Nat) (S : World → Prop) : Nat → Array Bool → Act → World → Prop
  | 0, l, a, w => Region.ready .any ops l = [] ∧ Q .normal a w
  | f + 1, l, a, w => (Region.ready .any ops l = [] → Q .normal a w) ∧
      ∀ i ∈ Region.ready .any ops l, wpOp P ops Q i (fun a' w' => ((l.setIfInBounds i true).getD t true = false → S w') ∧ wpTill P ops Q t S f (l.setIfInBounds i true) a' w') a w
theorem wpAny_of_till {t : Nat} : ∀ (f : Nat) (l : Array Bool) (a : Act) (w : World), wpTill P ops Q t S f l a w → wpAny P .any ops Q f l a w
  | 0, _, _, _, h => h
  | f + 1, _, _, _, h => ⟨h.1, fun i hi => wpOp_mono (fun a' w' h' => wpAny_of_till f _ a' w' h'.2) (h.2 i hi)⟩
theorem till_first {t i : Nat} {oi : Oper} (hi : ops[i]? = some oi) (hsel : ∀ (j : Nat) (o : Oper) cs b, ops[j]? = some o → o.op ≠ .select cs b) (hwt : Region.waitsFor .any ops t i = true)
    (hQ : ∀ c a w, Q (.panic c) (a.put oi.dst v) w → Q (.panic c) a w) :
    ∀ (f : Nat) (l : Array Bool) (a : Act) (w : World),
      (∀ j oj, ops[j]? = some oj → j ≠ i → l.getD j true = false → (∀ e ∈ oj.after, Region.binds .any e = true → e.on ≠ i) → oi.apart ops oj = true) →
      i ∈ Region.ready .any ops l → l.getD t true = false → YieldsIf P ops S oi v a → S w →
      wpTill P ops Q t S f (l.setIfInBounds i true) (a.put oi.dst v) w → wpTill P ops Q t S (f + 1) l a w := by
  have notT : ∀ (l : Array Bool), i ∈ Region.ready .any ops l → ∀ j ∈ Region.ready .any ops l, j ≠ t := by
    rintro l hr j hj rfl
    obtain ⟨ot, hot, e, he, hb, hon⟩ := Region.waitsFor_spec hwt
    obtain ⟨_, oj, hoj, hall⟩ := mem_ready.1 hj
    rw [hot] at hoj
    obtain rfl := Option.some.inj hoj
    have h1 := hall e he hb
    have h0 := (mem_ready.1 hr).1
    rw [hon] at h1
    rcases Nat.lt_or_ge i l.size with h' | h'
    · simp [h'] at h0 h1; rw [h0] at h1; cases h1
    · simp [Array.getElem?_eq_none h'] at h1
  intro f
  induction f with
  | zero =>
    intro l a w _ hr ht hy hS H
    refine ⟨fun h => (by rw [h] at hr; cases hr), fun j hj => ?_⟩
    by_cases hji : j = i
    · subst hji; exact hy.wpOp hi hS ⟨fun _ => hS, H⟩
    · have := ready_mono hj hji
      rw [H.1] at this
      cases this
  | succ f ih =>
    intro l a w hfree hr ht hy hS H
    refine ⟨fun h => (by rw [h] at hr; cases hr), fun j hj => ?_⟩
    by_cases hji : j = i
    · subst hji; exact hy.wpOp hi hS ⟨fun _ => hS, H⟩
    · have h1 := H.2 j (ready_mono hj hji)
      obtain ⟨hjun, oj, hoj, hall⟩ := mem_ready.1 hj
      have hnot : ∀ e ∈ oj.after, Region.binds .any e = true → e.on ≠ i := fun e he hb heq => by
        have h1 := hall e he hb
        have h0 := (mem_ready.1 hr).1
        rw [heq] at h1
        rcases Nat.lt_or_ge i l.size with h' | h'
        · simp [h'] at h0 h1; rw [h0] at h1; cases h1
        · simp [Array.getElem?_eq_none h'] at h1
      have hjt : j ≠ t := notT l hr j hj
      have hit : i ≠ t := notT l hr i hr
      have h2 := wpOp_putIf hoj (hfree j oj hoj hji hjun hnot) (fun cs b => hsel i oi cs b hi) (fun cs b => hsel j oj cs b hoj) hQ hy h1
      have hfree' : ∀ k ok, ops[k]? = some ok → k ≠ i → (l.setIfInBounds j true).getD k true = false →
          (∀ e ∈ ok.after, Region.binds .any e = true → e.on ≠ i) → oi.apart ops ok = true := fun k ok hk hki hun hno => by
        refine hfree k ok hk hki ?_ hno
        by_cases hjk : j = k
        · subst hjk; exact hjun
        · rw [getD_set_ne true hjk] at hun; exact hun
      have t1 : (l.setIfInBounds j true).getD t true = false := by rw [getD_set_ne true hjt]; exact ht
      have t2 : ((l.setIfInBounds i true).setIfInBounds j true).getD t true = false := by rw [getD_set_ne true hjt, getD_set_ne true hit]; exact ht
      refine wpOp_mono (fun a' w' h3 => ⟨fun _ => h3.2.1 t2, ih (l.setIfInBounds j true) a' w' hfree' (ready_mono hr (Ne.symm hji)) t1 h3.1 (h3.2.1 t2) ?_⟩) h2
      rw [Array.setIfInBounds_comm _ _ hji]
      exact h3.2.2
/-- One that only reads is taken first. -/
theorem utake {i t f : Nat} {l1 : Array Bool} (hk : Kn a n L) (hq : ∀ c a a' w, Q (.panic c) a w → Q (.panic c) a' w) (hi : ops[i]? = some o) (hs : Region.noSelect ops = true) (hf : Region.free .any ops l1 i = true) (hr : (Region.ready .any ops l1).contains i = true)
    (hwt : Region.waitsFor .any ops t i = true) (ht : l1.getD t true = false) (ho : o.dst = some d) (hd : Nat.blt d n = true) (hw : Region.wanted o (yielded ops a.tmps) = true) (hy : ∀ ev, Sees L ev → ∀ w, S w → (execOp ev o).run P w = .ok (.value v) w) (hS : S w)
    (h : ∀ a', Kn a' n ((d, v) :: L) → wpTill P ops Q t S f (l1.setIfInBounds i true) a' w) : wpTill P ops Q t S (f + 1) l1 a w := by
  refine till_first hi (Region.noSelect_spec hs) hwt (fun c a w h => hq c _ _ w h) f l1 a w (Region.free_spec hi hf) (by simpa using hr) ht (Or.inl ⟨hw, hy _ hk.sees⟩) hS ?_
  rw [ho]
  exact h _ (hk.put hd)
/-- One that hangs on no cell may be taken first whatever t waits for. -/
theorem till_pure {t i : Nat} {oi : Oper} (hi : ops[i]? = some oi) (hsel : ∀ (j : Nat) (o : Oper) cs b, ops[j]? = some o → o.op ≠ .select cs b) (hit : i ≠ t)
    (hQ : ∀ c a w, Q (.panic c) (a.put oi.dst v) w → Q (.panic c) a w) :
    ∀ (f : Nat) (l : Array Bool) (a : Act) (w : World),
      (∀ j oj, ops[j]? = some oj → j ≠ i → l.getD j true = false → (∀ e ∈ oj.after, Region.binds .any e = true → e.on ≠ i) → oi.apart ops oj = true) →
      i ∈ Region.ready .any ops l → (l.getD t true = false → S w) → YieldsIf P ops (fun _ => True) oi v a →
      wpTill P ops Q t S f (l.setIfInBounds i true) (a.put oi.dst v) w → wpTill P ops Q t S (f + 1) l a w := by
  intro f
  induction f with
  | zero =>
    intro l a w _ hr hS hy H
    refine ⟨fun h => (by rw [h] at hr; cases hr), fun j hj => ?_⟩
    by_cases hji : j = i
    · subst hji; exact hy.wpOp hi trivial ⟨fun h => hS (by rwa [getD_set_ne true hit] at h), H⟩
    · have := ready_mono hj hji
      rw [H.1] at this
      cases this
  | succ f ih =>
    intro l a w hfree hr hS hy H
    refine ⟨fun h => (by rw [h] at hr; cases hr), fun j hj => ?_⟩
    by_cases hji : j = i
    · subst hji; exact hy.wpOp hi trivial ⟨fun h => hS (by rwa [getD_set_ne true hit] at h), H⟩
    · have h1 := H.2 j (ready_mono hj hji)
      obtain ⟨hjun, oj, hoj, hall⟩ := mem_ready.1 hj
      have hnot : ∀ e ∈ oj.after, Region.binds .any e = true → e.on ≠ i := fun e he hb heq => by
        have h1 := hall e he hb
        have h0 := (mem_ready.1 hr).1
        rw [heq] at h1
        rcases Nat.lt_or_ge i l.size with h' | h'
        · simp [h'] at h0 h1; rw [h0] at h1; cases h1
        · simp [Array.getElem?_eq_none h'] at h1
      have h2 := wpOp_putIf hoj (hfree j oj hoj hji hjun hnot) (fun cs b => hsel i oi cs b hi) (fun cs b => hsel j oj cs b hoj) hQ hy h1
      have hfree' : ∀ k ok, ops[k]? = some ok → k ≠ i → (l.setIfInBounds j true).getD k true = false →
          (∀ e ∈ ok.after, Region.binds .any e = true → e.on ≠ i) → oi.apart ops ok = true := fun k ok hk hki hun hno => by
        refine hfree k ok hk hki ?_ hno
        by_cases hjk : j = k
        · subst hjk; exact hjun
        · rw [getD_set_ne true hjk] at hun; exact hun
      have t2 : (l.setIfInBounds j true).getD t true = false → ((l.setIfInBounds i true).setIfInBounds j true).getD t true = false := fun h => by
        rw [Array.setIfInBounds_comm _ _ (Ne.symm hji), getD_set_ne true hit]; exact h
      refine wpOp_mono (fun a' w' h3 => ⟨fun h => h3.2.1 (t2 h), ih (l.setIfInBounds j true) a' w' hfree' (ready_mono hr (Ne.symm hji)) (fun h => h3.2.1 (t2 h)) h3.1 ?_⟩) h2
      rw [Array.setIfInBounds_comm _ _ hji]
      exact h3.2.2
theorem upure {i t f : Nat} {l1 : Array Bool} (hk : Kn a n L) (hq : ∀ c a a' w, Q (.panic c) a w → Q (.panic c) a' w) (hi : ops[i]? = some o) (hs : Region.noSelect ops = true) (hf : Region.free .any ops l1 i = true) (hr : (Region.ready .any ops l1).contains i = true)
    (hit : Nat.beq i t = false) (ho : o.dst = some d) (hd : Nat.blt d n = true) (hw : Region.wanted o (yielded ops a.tmps) = true) (hy : ∀ ev, Sees L ev → ∀ w, (execOp ev o).run P w = .ok (.value v) w) (hS : l1.getD t true = false → S w)
    (h : ∀ a', Kn a' n ((d, v) :: L) → wpTill P ops Q t S f (l1.setIfInBounds i true) a' w) : wpTill P ops Q t S (f + 1) l1 a w := by
  refine till_pure hi (Region.noSelect_spec hs) (fun e => by subst e; simp at hit) (fun c a w h => hq c _ _ w h) f l1 a w (Region.free_spec hi hf) (by simpa using hr) hS (Or.inl ⟨hw, fun w _ => hy _ hk.sees w⟩) ?_
  rw [ho]
  exact h _ (hk.put hd)
/-- What an operation leaves. -/
def Lvs (P : Program) (Q : Exit → Act → World → Prop) (o : Oper) (a : Act) (w : World) (R : Value → World → Prop) : Prop := ∀ K : Act → World → Prop, (∀ v w', R v w' → K (a.put o.dst v) w') → o.wp P a w K Q
theorem leaves_value (hk : Kn a n L) (hy : ∀ ev, Sees L ev → (execOp ev o).run P w = .ok (.value v) w') : Lvs P Q o a w (fun x y => x = v ∧ y = w') := fun K hK => by
  unfold Oper.wp
  rw [hy _ hk.sees, Oper.upon_value]
  exact hK _ _ ⟨rfl, rfl⟩
theorem leaves_skip (hk : Kn a n L) (hy : ∀ ev, Sees L ev → (execOp ev o).run P w = .ok .skip w') : Lvs P Q o a w (fun x y => x = undef ∧ y = w') := fun K hK => by
  unfold Oper.wp
  rw [hy _ hk.sees, Oper.upon_skip]
  exact hK _ _ ⟨rfl, rfl⟩
theorem leaves_call {fn : FuncId} {args : Array Value} {R : Ending → World → Prop} (hk : Kn a n L) (hy : ∀ ev, Sees L ev → (execOp ev o).run P w = .ok (.enter fn args) w) (hc : Calls P fn args w R) (hR : ∀ e w', R e w' → ∃ v, e = .returned v) :
    Lvs P Q o a w (fun x y => R (.returned x) y) := fun K hK => by
  unfold Oper.wp
  rw [hy _ hk.sees, Oper.upon_enter]
  refine hc.mono ?_
  intro e w' hr
  obtain ⟨v, rfl⟩ := hR e w' hr
  exact hK _ _ hr
/-- The only one that may come up. -/
theorem uone {i t f : Nat} {l1 : Array Bool} {R : Value → World → Prop} (hk : Kn a n L) (hi : ops[i]? = some o) (hr : Region.ready .any ops l1 = [i]) (ho : o.dst = some d) (hd : Nat.blt d n = true) (hw : Region.wanted o (yielded ops a.tmps) = true)
    (hy : Lvs P Q o a w R) (h : ∀ v w', R v w' → ((l1.setIfInBounds i true).getD t true = false → S w') ∧ ∀ a', Kn a' n ((d, v) :: L) → wpTill P ops Q t S f (l1.setIfInBounds i true) a' w') : wpTill P ops Q t S (f + 1) l1 a w := by
  refine ⟨fun h => (by rw [hr] at h; cases h), fun j hj => ?_⟩
  rw [hr] at hj
  obtain rfl : j = i := by simpa using hj
  refine wpOp_step hi (fun K hK => ?_)
  rw [if_pos hw]
  refine hy K (fun v w' hR => ?_)
  obtain ⟨h1, h2⟩ := h v w' hR
  refine hK _ _ ⟨h1, ?_⟩
  rw [ho]
  exact h2 _ (hk.put hd)
theorem ustore {i t f : Nat} {l1 : Array Bool} {R : Value → World → Prop} (hk : Kn a n L) (hi : ops[i]? = some o) (hr : Region.ready .any ops l1 = [i]) (ho : o.dst = none) (hw : Region.wanted o (yielded ops a.tmps) = true)
    (hy : ∀ ev, Sees L ev → (execOp ev o).run P w = .ok .skip w') (h1 : (l1.setIfInBounds i true).getD t true = false → S w') (h : wpTill P ops Q t S f (l1.setIfInBounds i true) a w') : wpTill P ops Q t S (f + 1) l1 a w := by
  refine ⟨fun h => (by rw [hr] at h; cases h), fun j hj => ?_⟩
  rw [hr] at hj
  obtain rfl : j = i := by simpa using hj
  refine wpOp_step hi (fun K hK => ?_)
  rw [if_pos hw]
  refine leaves_skip hk hy K (fun v w' hR => ?_)
  obtain ⟨rfl, rfl⟩ := hR
  refine hK _ _ ⟨h1, ?_⟩
  rw [ho]
  exact h
theorem till_done {t : Nat} {l : Array Bool} (hr : Region.ready .any ops l = []) (h : Q .normal a w) : ∀ f, wpTill P ops Q t S f l a w
  | 0 => ⟨hr, h⟩
  | _ + 1 => ⟨fun _ => h, by rw [hr]; simp⟩
theorem wp_region_till {id t : Nat} (hm : P.follows .mixedOrders = true) (h : wpTill P ops Q t S ops.size (Array.replicate ops.size false) a w.drew) : (Code.region id ops true).wp P Q a w :=
  wp_region_any hm (wpAny_of_till _ _ _ _ h)
/-- The same where the order is told. -/
theorem ldo {rest : List Oper} {R : Value → World → Prop} (hk : Kn a n L) (ho : o.dst = some d) (hd : Nat.blt d n = true) (hw : Region.wanted o (yielded ops a.tmps) = true)
    (hy : Lvs P Q o a w R) (h : ∀ v w', R v w' → ∀ a', Kn a' n ((d, v) :: L) → wpList P ops Q rest a' w') : wpList P ops Q (o :: rest) a w :=
  wpList_step fun K hK => by
    rw [if_pos hw]
    refine hy K (fun v w' hR => hK _ _ ?_)
    rw [ho]
    exact h v w' hR _ (hk.put hd)
/-! Only reading, and a tail of its own order. -/
theorem stake {rest : List Oper} {Lq : Act → Prop} (hk : Kn a n L) (ho : o.dst = some d) (hd : Nat.blt d n = true) (hw : Region.wanted o (yielded ops a.tmps) = true)
    (hy : ∀ ev, Sees L ev → (execOp ev o).run P w = .ok (.value v) w) (h : ∀ a', Kn a' n ((d, v) :: L) → wpStill P ops w Lq rest a') : wpStill P ops w Lq (o :: rest) a :=
  wpStill_step fun K hK => by
    rw [if_pos hw]
    have := h _ (hk.put hd)
    unfold Oper.still
    rw [hy _ hk.sees, Oper.stillUpon_value, ho]
    exact hK _ this
/-! Operations that only hand a value on, in a statement whose order is told; the start of a call. -/
theorem lmv {rest : List Oper} {v : Value} (hk : Kn a n L) (ho : o.dst = some d) (hd : Nat.blt d n = true) (hw : Region.wanted o (yielded ops a.tmps) = true) (hop : o.op = .move (.tmp s)) (hu : look L s = some v)
    (h : ∀ a', Kn a' n ((d, v) :: L) → wpList P ops Q rest a' w) : wpList P ops Q (o :: rest) a w :=
  ltake hk ho hd hw (fun ev E => by have e := E.tmp s v hu; simp [execOp, hop, e, go_sem]) h
theorem las {rest : List Oper} {v : Value} (hk : Kn a n L) (ho : o.dst = some d) (hd : Nat.blt d n = true) (hw : Region.wanted o (yielded ops a.tmps) = true) (hop : o.op = .assign (.tmp s)) (hu : look L s = some v)
    (h : ∀ a', Kn a' n ((d, v) :: L) → wpList P ops Q rest a' w) : wpList P ops Q (o :: rest) a w :=
  ltake hk ho hd hw (fun ev E => by have e := E.tmp s v hu; simp [execOp, hop, e, go_sem]) h
theorem lac {rest : List Oper} {v : Value} (hk : Kn a n L) (ho : o.dst = some d) (hd : Nat.blt d n = true) (hw : Region.wanted o (yielded ops a.tmps) = true) (hop : o.op = .assign (.const v))
    (h : ∀ a', Kn a' n ((d, v) :: L) → wpList P ops Q rest a' w) : wpList P ops Q (o :: rest) a w :=
  ltake hk ho hd hw (fun ev E => by have e := E.const v; simp [execOp, hop, e, go_sem]) h
theorem lnc {rest : List Oper} {q : Addr} (hk : Kn a n L) (ho : o.dst = some d) (hd : Nat.blt d n = true) (hw : Region.wanted o (yielded ops a.tmps) = true) (hop : o.op = .nilCheck (.tmp s)) (hu : look L s = some (.pointer (some q)))
    (h : ∀ a', Kn a' n ((d, .pointer (some q)) :: L) → wpList P ops Q rest a' w) : wpList P ops Q (o :: rest) a w :=
  ltake hk ho hd hw (fun ev E => by have e := E.tmp s _ hu; simp [execOp, hop, e, go_sem]) h
def numb : Nat → List Value → List (Nat × Value)
  | _, [] => []
  | k, v :: r => (k, v) :: numb (k + 1) r
theorem numb_has : ∀ (l : List Value) (k s : Nat) (v : Value), look (numb k l) s = some v → k ≤ s ∧ l[s - k]? = some v
  | [], _, _, _, h => by simp [numb, look] at h
  | x :: r, k, s, v, h => by
    unfold numb look at h
    cases e : Nat.beq k s
    · rw [e] at h
      obtain ⟨h1, h2⟩ := numb_has r (k + 1) s v h
      refine ⟨by omega, ?_⟩
      rw [show s - k = (s - (k + 1)) + 1 from by omega, List.getElem?_cons_succ]
      exact h2
    · rw [e] at h
      obtain rfl : k = s := Nat.eq_of_beq_eq_true e
      have hx : x = v := by simpa using h
      subst hx
      simp
theorem callsK {f : FuncId} {fn : Func} {c : Code} {args : Array Value} {R : Ending → World → Prop} (hf : P.funcs[f]? = some fn) (hb : fn.body = some c) (hn : fn.ntmps = n) (hL : L = numb 0 args.toList) (hs : Nat.ble args.size n = true)
    (h : ∀ a, Kn a n L → c.wp P (bodyPost P fn R) a w) : Calls P f args w R := by
  have hs' : args.size ≤ n := by simpa [Nat.ble_eq] using hs
  refine calls_of_wp hf hb (h _ ⟨by rw [hn]; simp; omega, rfl, fun s v hv => ?_⟩)
  rw [hL] at hv
  have := (numb_has _ _ _ _ hv).2
  rw [Nat.sub_zero, Array.getElem?_toList] at this
  rw [Array.getElem?_append_left (Array.getElem?_eq_some_iff.1 this).1]
  exact this
/-- Where a field lies. -/
def FA (P : Program) (T k j : Nat) : Prop := ∀ b o w, (Instr.fieldAt T (.pointer (some ⟨b, o, none⟩)) k).run P w = .ok (.pointer (some ⟨b, o + j, none⟩)) w
theorem lfa {rest : List Oper} {T k j b q : Nat} (hk : Kn a n L) (ho : o.dst = some d) (hd : Nat.blt d n = true) (hw : Region.wanted o (yielded ops a.tmps) = true) (hop : o.op = .fieldAddr T (.tmp s) k) (hu : look L s = some (.pointer (some ⟨b, q, none⟩))) (hF : FA P T k j)
    (h : ∀ a', Kn a' n ((d, .pointer (some ⟨b, q + j, none⟩)) :: L) → wpList P ops Q rest a' w) : wpList P ops Q (o :: rest) a w :=
  ltake hk ho hd hw (fun ev E => by have e := E.tmp s _ hu; have f := hF b q w; simp only [execOp, hop, e]; generalize Instr.fieldAt T (.pointer (some ⟨b, q, none⟩)) k = m at f ⊢; simp [go_sem, f]) h
def pth : List Nat → Code → Code
  | [], c => c
  | 0 :: p, .seq x _ => pth p x
  | _ :: p, .seq _ x => pth p x
  | 0 :: p, .cond _ x _ => pth p x
  | _ :: p, .cond _ _ x => pth p x
  | _ :: p, .block _ x => pth p x
  | _ :: p, .loop x => pth p x
  | _, c => c
/-- A statement of a function, by its place. -/
def rg (p : List Nat) (f : Func) : List Oper := match pth p (f.body.getD .skip) with
  | .region _ o _ => o.toList
  | _ => []
end
end Go.Arb
/- The program's forest in memory: a block with its two fields, and the row of its slots; fourteen cells a slot. -/

namespace Go.Proofs.Ytjnkgakajenoaaa
open Go.RowKit Go.Arb
set_option linter.unusedVariables false
set_option linter.unusedSimpArgs false

theorem FA66_0 : FA Try.prog 66 0 0 := fun b o w => by go_simp
theorem FA66_1 : FA Try.prog 66 1 1 := fun b o w => by go_simp
theorem FA75_0 : FA Try.prog 75 0 0 := fun b o w => by go_simp
theorem FA75_1 : FA Try.prog 75 1 1 := fun b o w => by go_simp
theorem FA75_2 : FA Try.prog 75 2 2 := fun b o w => by go_simp
theorem FA75_3 : FA Try.prog 75 3 3 := fun b o w => by go_simp
theorem FA75_4 : FA Try.prog 75 4 4 := fun b o w => by go_simp
theorem FA75_5 : FA Try.prog 75 5 5 := fun b o w => by go_simp
theorem FA75_6 : FA Try.prog 75 6 6 := fun b o w => by go_simp
theorem FA75_7 : FA Try.prog 75 7 10 := fun b o w => by go_simp
theorem FA75_8 : FA Try.prog 75 8 12 := fun b o w => by go_simp
theorem FA34_0 : FA Try.prog 34 0 0 := fun b o w => by go_simp
theorem FA34_1 : FA Try.prog 34 1 1 := fun b o w => by go_simp
theorem FA34_2 : FA Try.prog 34 2 2 := fun b o w => by go_simp
theorem FA34_3 : FA Try.prog 34 3 3 := fun b o w => by go_simp
theorem FA73_0 : FA Try.prog 73 0 0 := fun b o w => by go_simp
theorem FA73_1 : FA Try.prog 73 1 1 := fun b o w => by go_simp
theorem hide {p : Prop} (h : p) : Hid p := h
theorem unhide {p : Prop} (h : Hid p) : p := h
/-- How many, and what they weigh. -/
structure Ms where
  c : Int
  w : Int
structure Sl where
  up : Nat
  l : Nat
  r : Nat
  tn : Bool
  wt : Int
  wa : Int
  sm : Sm
  hg : Ms
  hu : Ms
def Sl.zero : Sl := ⟨0, 0, 0, false, 0, 0, Go.Proofs.Ytjnkgakajenoaaa.zero, ⟨0, 0⟩, ⟨0, 0⟩⟩
abbrev Ss := Nat → Sl
def upd (S : Ss) (t : Nat) (x : Sl) : Ss := fun j => if j = t then x else S j
theorem upd_same (S : Ss) (t : Nat) (x : Sl) : upd S t x t = x := by simp [upd]
theorem upd_ne (S : Ss) {t u : Nat} (x : Sl) (h : u ≠ t) : upd S t x u = S u := by simp [upd, h]
def slV (s : Sl) : List Value := [.int .i64 (s.up : Int), .int .i64 (s.l : Int), .int .i64 (s.r : Int), .bool s.tn, .int .i64 s.wt, .int .i64 s.wa, .int .i64 s.sm.c, .int .i64 s.sm.s, .int .i64 s.sm.a, .int .i64 s.sm.b, .int .i64 s.hg.c, .int .i64 s.hg.w, .int .i64 s.hu.c, .int .i64 s.hu.w]
theorem slV_len (s : Sl) : (slV s).length = 14 := rfl
def smV (x : Sm) : Value := .agg #[.int .i64 x.c, .int .i64 x.s, .int .i64 x.a, .int .i64 x.b]
def msV (x : Ms) : Value := .agg #[.int .i64 x.c, .int .i64 x.w]
def sl (F : List Sl) : Ss := fun t => F.getD t Sl.zero

structure PoIn (w : World) (p : Nat) (v : Value) (room : Nat) (F : List Sl) : Prop where
  blk : w.heap[p]? = some (.cells #[.int .i64 (room : Int), v] 66 (0, 0))
  row : w.ownsRow 0 75 14 v F.length (flat slV F)
  ne : p ∉ own v

theorem blk_lt {w : World} {p : Nat} {o : Obj} (h : w.heap[p]? = some o) : p < w.heap.size := (Array.getElem?_eq_some_iff.1 h).1
theorem off_one {ks : List Nat} {b : Nat} (h : b ∉ ks) : Off ks [b] := fun k hk hm => by simp at hm; subst hm; exact h hk

/-- The pool at p, its slots in block g. -/
def Pool (w : World) (p g n cap room : Nat) (S : Ss) : Prop := ∃ F, PoIn w p (.slice (some ⟨g, 0, none⟩) n cap) room F ∧ F.length = n ∧ S = sl F

section
variable {w w' : World} {p g n cap room : Nat} {S : Ss} {ks : List Nat}
theorem Pool.ne (h : Pool w p g n cap room S) : g ≠ p := by
  obtain ⟨F, h1, _, _⟩ := h
  have := h1.ne
  simpa [own, Value.ownBlock, eq_comm] using this
theorem Pool.lt (h : Pool w p g n cap room S) : p < w.heap.size ∧ g < w.heap.size := by
  obtain ⟨F, h1, _, _⟩ := h
  exact ⟨blk_lt h1.blk, row_lt h1.row g (by simp [own, Value.ownBlock])⟩
theorem Pool.keep (h : Pool w p g n cap room S) (hk : Keep ks w w') (hp : p ∉ ks) (hg : g ∉ ks) : Pool w' p g n cap room S := by
  obtain ⟨F, h1, h2, h3⟩ := h
  exact ⟨F, ⟨by rw [hk.block p (blk_lt h1.blk) hp]; exact h1.blk, row_keep h1.row hk (fun k h4 => by simp [own, Value.ownBlock] at h4; subst h4; exact hg), h1.ne⟩, h2, h3⟩
theorem Pool.below (h : Pool w p g n cap room S) (hb : Below w.heap.size w w') : Pool w' p g n cap room S := h.keep (Keep.ofBelow hb []) (by simp) (by simp)
theorem Pool.head (h : Pool w p g n cap room S) : w.cell? ⟨p, 0, none⟩ = some (.int .i64 (room : Int)) ∧ w.cell? ⟨p, 1, none⟩ = some (.slice (some ⟨g, 0, none⟩) n cap) ∧ w.frozen? ⟨p, 0, none⟩ = false ∧ w.frozen? ⟨p, 1, none⟩ = false ∧ n ≤ cap ∧ cap ≤ 9223372036854775807 := by
  obtain ⟨F, h1, h2, h3⟩ := h
  obtain ⟨x, c, hv, q1, q2, _⟩ := row_form h1.row
  simp only [Value.slice.injEq] at hv
  obtain ⟨_, _, rfl⟩ := hv
  unfold maxLen at q2
  refine ⟨?_, ?_, ?_, ?_, by omega, by omega⟩ <;> simp [World.cell?, World.frozen?, h1.blk]
theorem Pool.out (h : Pool w p g n cap room S) {t : Nat} (ht : n ≤ t) : S t = Sl.zero := by
  obtain ⟨F, h1, rfl, rfl⟩ := h
  simp [sl, List.getD_eq_getElem?_getD, ht]
theorem Pool.cell (h : Pool w p g n cap room S) {t : Nat} (ht : t < n) : ∀ k, k < 14 → w.cell? ⟨g, t * 14 + k, none⟩ = (slV (S t))[k]? ∧ w.frozen? ⟨g, t * 14 + k, none⟩ = false := by
  obtain ⟨F, h1, rfl, rfl⟩ := h
  intro k hk
  obtain ⟨x, c, hv, q1, q2, q3⟩ := row_form h1.row
  obtain ⟨g', e, _, _, hc⟩ := q3 (by omega)
  simp only [Value.slice.injEq] at hv
  obtain ⟨rfl, _, rfl⟩ := hv
  simp only [Option.some.injEq, Addr.mk.injEq, and_true] at e
  subst e
  refine ⟨?_, (hc _ (by omega)).2⟩
  rw [(hc _ (by omega)).1, flat_get slV_len F t k hk, List.getElem?_eq_getElem ht]
  simp [sl, List.getD_eq_getElem?_getD, ht]
/-- A slot's cells, as the walk reads them. -/
theorem Pool.slot (h : Pool w p g n cap room S) {t : Nat} (ht : t < n) :
    w.cell? ⟨g, t * 14, none⟩ = some (.int .i64 ((S t).up : Int)) ∧ w.cell? ⟨g, t * 14 + 1, none⟩ = some (.int .i64 ((S t).l : Int)) ∧ w.cell? ⟨g, t * 14 + 2, none⟩ = some (.int .i64 ((S t).r : Int)) ∧ w.cell? ⟨g, t * 14 + 3, none⟩ = some (.bool (S t).tn) ∧ w.cell? ⟨g, t * 14 + 4, none⟩ = some (.int .i64 (S t).wt) ∧ w.cell? ⟨g, t * 14 + 5, none⟩ = some (.int .i64 (S t).wa) ∧ w.cell? ⟨g, t * 14 + 6, none⟩ = some (.int .i64 (S t).sm.c) ∧ w.cell? ⟨g, t * 14 + 7, none⟩ = some (.int .i64 (S t).sm.s) ∧ w.cell? ⟨g, t * 14 + 8, none⟩ = some (.int .i64 (S t).sm.a) ∧ w.cell? ⟨g, t * 14 + 9, none⟩ = some (.int .i64 (S t).sm.b) ∧ w.cell? ⟨g, t * 14 + 10, none⟩ = some (.int .i64 (S t).hg.c) ∧ w.cell? ⟨g, t * 14 + 11, none⟩ = some (.int .i64 (S t).hg.w) ∧ w.cell? ⟨g, t * 14 + 12, none⟩ = some (.int .i64 (S t).hu.c) ∧ w.cell? ⟨g, t * 14 + 13, none⟩ = some (.int .i64 (S t).hu.w) := by
  have hc := fun k hk => (h.cell ht k hk).1
  exact ⟨hc 0 (by omega), hc 1 (by omega), hc 2 (by omega), hc 3 (by omega), hc 4 (by omega), hc 5 (by omega), hc 6 (by omega), hc 7 (by omega), hc 8 (by omega), hc 9 (by omega), hc 10 (by omega), hc 11 (by omega), hc 12 (by omega), hc 13 (by omega)⟩
theorem Pool.soft (h : Pool w p g n cap room S) {t : Nat} (ht : t < n) :
    w.frozen? ⟨g, t * 14, none⟩ = false ∧ w.frozen? ⟨g, t * 14 + 1, none⟩ = false ∧ w.frozen? ⟨g, t * 14 + 2, none⟩ = false ∧ w.frozen? ⟨g, t * 14 + 3, none⟩ = false ∧ w.frozen? ⟨g, t * 14 + 4, none⟩ = false ∧ w.frozen? ⟨g, t * 14 + 5, none⟩ = false ∧ w.frozen? ⟨g, t * 14 + 6, none⟩ = false ∧ w.frozen? ⟨g, t * 14 + 7, none⟩ = false ∧ w.frozen? ⟨g, t * 14 + 8, none⟩ = false ∧ w.frozen? ⟨g, t * 14 + 9, none⟩ = false ∧ w.frozen? ⟨g, t * 14 + 10, none⟩ = false ∧ w.frozen? ⟨g, t * 14 + 11, none⟩ = false ∧ w.frozen? ⟨g, t * 14 + 12, none⟩ = false ∧ w.frozen? ⟨g, t * 14 + 13, none⟩ = false := by
  have hc := fun k hk => (h.cell ht k hk).2
  exact ⟨hc 0 (by omega), hc 1 (by omega), hc 2 (by omega), hc 3 (by omega), hc 4 (by omega), hc 5 (by omega), hc 6 (by omega), hc 7 (by omega), hc 8 (by omega), hc 9 (by omega), hc 10 (by omega), hc 11 (by omega), hc 12 (by omega), hc 13 (by omega)⟩
/-- A cell of a slot is laid anew. -/
theorem Pool.put (h : Pool w p g n cap room S) {t : Nat} (ht : t < n) (k : Nat) (hk : k < 14) (x : Sl) (u : Value) (hx : slV x = (slV (S t)).set k u) : Pool (w.setCell ⟨g, t * 14 + k, none⟩ u) p g n cap room (upd S t x) := by
  have hne := h.ne
  obtain ⟨F, h1, rfl, rfl⟩ := h
  refine ⟨F.set t x, ⟨?_, ?_, h1.ne⟩, by simp, ?_⟩
  · rw [Below.heap_setCell _ _ _ _ hne.symm]; exact h1.blk
  · have r1 := (h1.row.stored (t * 14 + k) u).1
    have e1 := flat_set slV_len F t k ht hk x u (by rw [hx]; simp [sl, List.getD_eq_getElem?_getD, ht])
    rw [e1]
    simpa using r1
  · funext j
    by_cases e : j = t
    · subst e; simp [upd, sl, List.getD_eq_getElem?_getD, ht]
    · have e' : ¬ t = j := fun h => e h.symm
      simp [upd, sl, List.getD_eq_getElem?_getD, e, e', List.getElem?_set]
theorem keep_cell (w : World) (b o : Nat) (u : Value) : Keep [b] w (w.setCell ⟨b, o, none⟩ u) := Keep.setCell (ks := [b]) (Keep.refl _ _) (p := ⟨b, o, none⟩) (by simp) _
theorem _root_.Go.Arb.Keep.tr {b : Nat} {a w w' : World} (h : Keep [b] a w) (k : Keep [b] w w') : Keep [b] a w' := h.trans k (fun i hi => .inl hi)
theorem _root_.Go.Arb.Keep.cellB {b : Nat} {a w : World} (h : Keep [b] a w) (o : Nat) (u : Value) : Keep [b] a (w.setCell ⟨b, o, none⟩ u) := h.tr (keep_cell w b o u)
theorem _root_.Go.Arb.Keep.belowB {b : Nat} {a w w' : World} (h : Keep [b] a w) (hb : Below w.heap.size w w') : Keep [b] a w' := h.tr (Keep.ofBelow hb _)
end

end Go.Proofs.Ytjnkgakajenoaaa
/- The program's forest: whether a slot is the top of its splay tree. -/

namespace Go.Proofs.Ytjnkgakajenoaaa
open Go.RowKit Go.Arb
set_option linter.unusedVariables false
set_option linter.unusedSimpArgs false
set_option maxRecDepth 100000

/-- Behind a statement that ends as it should. -/
def Norm (R : Act → World → Prop) : Exit → Act → World → Prop
  | .normal, a, w => R a w
  | _, _, _ => False
theorem norm_q {NX : Act → World → Prop} : ∀ c a a' w, Norm NX (.panic c) a w → Norm NX (.panic c) a' w := fun _ _ _ _ h => h
theorem seqN {P : Program} {Q : Exit → Act → World → Prop} {a : Act} {w : World} {x y : Code} (h : x.wp P (Norm (fun a w => y.wp P Q a w)) a w) : (Code.seq x y).wp P Q a w :=
  wp_seq (Code.wp_mono (fun e a w h => by cases e <;> first | exact h | exact h.elim) h)
theorem nilN {P : Program} {ops : Array Oper} {R : Act → World → Prop} {a : Act} {w : World} (h : R a w) : wpList P ops (Norm R) [] a w := wpList_nil h
theorem seqR {P : Program} {Q : Exit → Act → World → Prop} {a : Act} {w : World} {id : Nat} {l : List Oper} {y : Code} (h : wpList P l.toArray (Norm (fun a w => y.wp P Q a w)) l a w) : (Code.seq (Code.region id l.toArray false) y).wp P Q a w := seqN (wp_region_lit h)
theorem lastN {P : Program} {Q : Exit → Act → World → Prop} {a : Act} {w : World} {x : Code} (h : x.wp P (Norm (fun a w => Q .normal a w)) a w) : x.wp P Q a w :=
  Code.wp_mono (fun e a w h => by cases e <;> first | exact h | exact h.elim) h
theorem thenRet {next : Act → World → Prop} {Q : Exit → Act → World → Prop} {a : Act} {w : World} (h : Q .ret a w) : Exit.then next Q .ret a w := h
/-- All slots that a slot names are there. -/
def InR (S : Ss) (n : Nat) : Prop := ∀ t, t < n → (S t).up < n ∧ (S t).l < n ∧ (S t).r < n
theorem Pool.drew {w : World} {p g n cap room : Nat} {S : Ss} (h : Pool w p g n cap room S) : Pool w.drew p g n cap room S := h.keep ((Keep.refl [] w).drew) (by simp) (by simp)
def isTopB (S : Ss) (t : Nat) : Bool := !(((S (S t).up).l == t) || ((S (S t).up).r == t))
def O87_1_0 : Oper := ⟨some 6, .move (.tmp 0), 23, "path.go:5", #[], none⟩
def O87_1_1 : Oper := ⟨some 7, .nilCheck (.tmp 6), 0, "path.go:5", #[⟨0, .data⟩], none⟩
def O87_1_2 : Oper := ⟨some 8, .fieldAddr 66 (.tmp 7) 1, 0, "path.go:5", #[⟨1, .data⟩], none⟩
def O87_1_3 : Oper := ⟨some 9, .load 64 (.tmp 8), 64, "path.go:5", #[⟨2, .data⟩], none⟩
def O87_1_4 : Oper := ⟨some 10, .move (.tmp 0), 23, "path.go:5", #[], none⟩
def O87_1_5 : Oper := ⟨some 11, .nilCheck (.tmp 10), 0, "path.go:5", #[⟨4, .data⟩], none⟩
def O87_1_6 : Oper := ⟨some 12, .fieldAddr 66 (.tmp 11) 1, 0, "path.go:5", #[⟨5, .data⟩], none⟩
def O87_1_7 : Oper := ⟨some 13, .load 64 (.tmp 12), 64, "path.go:5", #[⟨6, .data⟩], none⟩
def O87_1_8 : Oper := ⟨some 14, .move (.tmp 1), 3, "path.go:5", #[], none⟩
def O87_1_9 : Oper := ⟨some 15, .indexAddr 64 (.tmp 13) (.tmp 14), 0, "path.go:5", #[⟨7, .data⟩, ⟨8, .data⟩], none⟩
def O87_1_10 : Oper := ⟨some 16, .fieldAddr 75 (.tmp 15) 0, 0, "path.go:5", #[⟨9, .data⟩], none⟩
def O87_1_11 : Oper := ⟨some 17, .load 3 (.tmp 16), 3, "path.go:5", #[⟨10, .data⟩], none⟩
def O87_1_12 : Oper := ⟨some 18, .indexAddr 64 (.tmp 9) (.tmp 17), 0, "path.go:5", #[⟨3, .data⟩, ⟨11, .data⟩], none⟩
def O87_1_13 : Oper := ⟨some 5, .assign (.tmp 18), 85, "path.go:5", #[⟨12, .data⟩, ⟨0, .phase⟩, ⟨1, .phase⟩, ⟨2, .phase⟩, ⟨3, .phase⟩, ⟨4, .phase⟩, ⟨5, .phase⟩, ⟨6, .phase⟩, ⟨7, .phase⟩, ⟨8, .phase⟩, ⟨9, .phase⟩, ⟨10, .phase⟩, ⟨11, .phase⟩, ⟨12, .phase⟩], none⟩
def OPS87_1 : List Oper := [O87_1_0, O87_1_1, O87_1_2, O87_1_3, O87_1_4, O87_1_5, O87_1_6, O87_1_7, O87_1_8, O87_1_9, O87_1_10, O87_1_11, O87_1_12, O87_1_13]
theorem NS87_1 : Region.noSelect OPS87_1.toArray = true := by kernel_rfl
set_option maxHeartbeats 4000000 in
theorem rg87_1 {p g n cap room t : Nat} {S : Ss} {NX : Act → World → Prop} {a0 : Act} {w : World} (K0 : Kn a0 33 [(0, .pointer (some ⟨p, 0, none⟩)), (1, .int .i64 (t : Int))]) (h : Pool w p g n cap room S) (ht : t < n) (hu : (S t).up < n)
    (hN : ∀ a', Kn a' 33 [(1, .int .i64 (t : Int)), (5, .pointer (some ⟨g, (S t).up * 14, none⟩))] → NX a' w.drew) : (Code.region 1 OPS87_1.toArray true).wp Try.prog (Norm NX) a0 w := by
  have hq := @norm_q NX
  have hS : (fun w' : World => Pool w' p g n cap room S) w.drew := h.drew
  have e1 : (0 : Int) ≤ (t : Int) := by omega
  have e2 : (t : Int) < (n : Int) := by omega
  have e3 : (0 : Int) ≤ ((S t).up : Int) := by omega
  have e4 : ((S t).up : Int) < (n : Int) := by omega
  clear h
  refine wp_region_till (t := 13) (S := (fun w' : World => Pool w' p g n cap room S)) (by kernel_rfl) ?_
  rw [show (OPS87_1.toArray).size = 14 from by kernel_rfl]
  refine utake (i := 0) (o := O87_1_0) (v := .pointer (some ⟨p, 0, none⟩)) K0 hq rfl NS87_1 (by kernel_rfl) (by kernel_rfl) (by kernel_rfl) (by kernel_rfl) rfl rfl (want_none rfl) (fun ev E w9 hSw => ?_) hS (fun a1 K1 => ?_)
  · clear hSw; clear hN hq hS; have E0 := E.tmp 0 _ rfl; clear E; unfold O87_1_0; go_simp
  refine utake (i := 1) (o := O87_1_1) (v := .pointer (some ⟨p, 0, none⟩)) K1 hq rfl NS87_1 (by kernel_rfl) (by kernel_rfl) (by kernel_rfl) (by kernel_rfl) rfl rfl (want_none rfl) (fun ev E w9 hSw => ?_) hS (fun a2 K2 => ?_)
  · clear hSw; clear hN hq hS; have E6 := E.tmp 6 _ rfl; clear E; unfold O87_1_1; go_simp
  clear K1
  refine utake (i := 2) (o := O87_1_2) (v := .pointer (some ⟨p, 1, none⟩)) K2 hq rfl NS87_1 (by kernel_rfl) (by kernel_rfl) (by kernel_rfl) (by kernel_rfl) rfl rfl (want_none rfl) (fun ev E w9 hSw => ?_) hS (fun a3 K3 => ?_)
  · clear hSw; clear hN hq hS; have E7 := E.tmp 7 _ rfl; clear E; unfold O87_1_2; go_simp
  clear K2
  refine utake (i := 3) (o := O87_1_3) (v := .slice (some ⟨g, 0, none⟩) n cap) K3 hq rfl NS87_1 (by kernel_rfl) (by kernel_rfl) (by kernel_rfl) (by kernel_rfl) rfl rfl (want_none rfl) (fun ev E w9 hSw => ?_) hS (fun a4 K4 => ?_)
  · obtain ⟨_, c1, _⟩ := hSw.head; obtain ⟨s0, _⟩ := hSw.slot ht; clear hSw; clear hN hq hS; have E8 := E.tmp 8 _ rfl; clear E; unfold O87_1_3; go_simp
  clear K3
  refine utake (i := 4) (o := O87_1_4) (v := .pointer (some ⟨p, 0, none⟩)) K4 hq rfl NS87_1 (by kernel_rfl) (by kernel_rfl) (by kernel_rfl) (by kernel_rfl) rfl rfl (want_none rfl) (fun ev E w9 hSw => ?_) hS (fun a5 K5 => ?_)
  · clear hSw; clear hN hq hS; have E0 := E.tmp 0 _ rfl; clear E; unfold O87_1_4; go_simp
  clear K4
  refine utake (i := 5) (o := O87_1_5) (v := .pointer (some ⟨p, 0, none⟩)) K5 hq rfl NS87_1 (by kernel_rfl) (by kernel_rfl) (by kernel_rfl) (by kernel_rfl) rfl rfl (want_none rfl) (fun ev E w9 hSw => ?_) hS (fun a6 K6 => ?_)
  · clear hSw; clear hN hq hS; have E10 := E.tmp 10 _ rfl; clear E; unfold O87_1_5; go_simp
  clear K5
  refine utake (i := 6) (o := O87_1_6) (v := .pointer (some ⟨p, 1, none⟩)) K6 hq rfl NS87_1 (by kernel_rfl) (by kernel_rfl) (by kernel_rfl) (by kernel_rfl) rfl rfl (want_none rfl) (fun ev E w9 hSw => ?_) hS (fun a7 K7 => ?_)
  · clear hSw; clear hN hq hS; have E11 := E.tmp 11 _ rfl; clear E; unfold O87_1_6; go_simp
  clear K6
  refine utake (i := 7) (o := O87_1_7) (v := .slice (some ⟨g, 0, none⟩) n cap) K7 hq rfl NS87_1 (by kernel_rfl) (by kernel_rfl) (by kernel_rfl) (by kernel_rfl) rfl rfl (want_none rfl) (fun ev E w9 hSw => ?_) hS (fun a8 K8 => ?_)
  · obtain ⟨_, c1, _⟩ := hSw.head; obtain ⟨s0, _⟩ := hSw.slot ht; clear hSw; clear hN hq hS; have E12 := E.tmp 12 _ rfl; clear E; unfold O87_1_7; go_simp
  clear K7
  refine utake (i := 8) (o := O87_1_8) (v := .int .i64 (t : Int)) K8 hq rfl NS87_1 (by kernel_rfl) (by kernel_rfl) (by kernel_rfl) (by kernel_rfl) rfl rfl (want_none rfl) (fun ev E w9 hSw => ?_) hS (fun a9 K9 => ?_)
  · clear hSw; clear hN hq hS; have E1 := E.tmp 1 _ rfl; clear E; unfold O87_1_8; go_simp
  clear K8
  refine utake (i := 9) (o := O87_1_9) (v := .pointer (some ⟨g, t * 14, none⟩)) K9 hq rfl NS87_1 (by kernel_rfl) (by kernel_rfl) (by kernel_rfl) (by kernel_rfl) rfl rfl (want_none rfl) (fun ev E w9 hSw => ?_) hS (fun a10 K10 => ?_)
  · clear hSw; clear hN hq hS; have E13 := E.tmp 13 _ rfl; have E14 := E.tmp 14 _ rfl; clear E; unfold O87_1_9; go_simp
  clear K9
  refine utake (i := 10) (o := O87_1_10) (v := .pointer (some ⟨g, t * 14, none⟩)) K10 hq rfl NS87_1 (by kernel_rfl) (by kernel_rfl) (by kernel_rfl) (by kernel_rfl) rfl rfl (want_none rfl) (fun ev E w9 hSw => ?_) hS (fun a11 K11 => ?_)
  · clear hSw; clear hN hq hS; have E15 := E.tmp 15 _ rfl; clear E; unfold O87_1_10; go_simp
  clear K10
  refine utake (i := 11) (o := O87_1_11) (v := .int .i64 ((S t).up : Int)) K11 hq rfl NS87_1 (by kernel_rfl) (by kernel_rfl) (by kernel_rfl) (by kernel_rfl) rfl rfl (want_none rfl) (fun ev E w9 hSw => ?_) hS (fun a12 K12 => ?_)
  · obtain ⟨_, c1, _⟩ := hSw.head; obtain ⟨s0, _⟩ := hSw.slot ht; clear hSw; clear hN hq hS; have E16 := E.tmp 16 _ rfl; clear E; unfold O87_1_11; go_simp
  clear K11
  refine utake (i := 12) (o := O87_1_12) (v := .pointer (some ⟨g, (S t).up * 14, none⟩)) K12 hq rfl NS87_1 (by kernel_rfl) (by kernel_rfl) (by kernel_rfl) (by kernel_rfl) rfl rfl (want_none rfl) (fun ev E w9 hSw => ?_) hS (fun a13 K13 => ?_)
  · clear hSw; clear hN hq hS; have E9 := E.tmp 9 _ rfl; have E17 := E.tmp 17 _ rfl; clear E; unfold O87_1_12; go_simp
  clear K12
  refine uone (i := 13) (o := ⟨some 5, .assign (.tmp 18), 85, "path.go:5", #[⟨12, .data⟩, ⟨0, .phase⟩, ⟨1, .phase⟩, ⟨2, .phase⟩, ⟨3, .phase⟩, ⟨4, .phase⟩, ⟨5, .phase⟩, ⟨6, .phase⟩, ⟨7, .phase⟩, ⟨8, .phase⟩, ⟨9, .phase⟩, ⟨10, .phase⟩, ⟨11, .phase⟩, ⟨12, .phase⟩], none⟩) K13 rfl (by kernel_rfl) rfl rfl (want_none rfl) (leaves_value (v := .pointer (some ⟨g, (S t).up * 14, none⟩)) (w' := w.drew) K13 (fun ev E => by clear hN hq hS; have E18 := E.tmp 18 _ rfl; clear E; go_simp)) (fun v9 W9 hR => ?_)
  obtain ⟨rfl, rfl⟩ := hR
  refine ⟨fun hx => absurd hx (by decide), fun a14 K14 => ?_⟩
  refine till_done (by kernel_rfl) ?_ _
  exact hN _ (K14.less ⟨rfl, rfl, trivial⟩)
set_option maxHeartbeats 4000000 in
theorem isTop_any {p g n cap room t : Nat} {S : Ss} {w : World} (h : Pool w p g n cap room S) (ht : t < n) (hu : (S t).up < n) :
    Calls Try.prog 87 #[.pointer (some ⟨p, 0, none⟩), .int .i64 (t : Int)] w fun e w' => e = .returned (.bool (isTopB S t)) ∧ Pool w' p g n cap room S ∧ Keep [] w w' := by
  have HH := hide h
  clear h
  refine callsK (n := 33) (L := [(0, .pointer (some ⟨p, 0, none⟩)), (1, .int .i64 (t : Int))]) Try.func87 rfl Try.ntmps87 rfl rfl (fun a0 K0 => ?_)
  refine seqR ?_
  refine lac K0 rfl rfl (want_none rfl) rfl (fun a1 K1 => ?_)
  refine nilN ?_
  have K2 : Kn _ 33 [(0, .pointer (some ⟨p, 0, none⟩)), (1, .int .i64 (t : Int))] := K1.less ⟨rfl, rfl, trivial⟩
  clear K1
  refine seqN (rg87_1 K2 (unhide HH) ht hu fun a9 K9 => ?_)
  have HP := hide (And.intro (unhide HH).drew ((Keep.refl [] w).drew))
  generalize w.drew = V at *
  obtain ⟨_, s1, s2, _⟩ := (unhide HP).1.slot hu
  by_cases h1 : (S (S t).up).l = t
  · have i1 : ((S (S t).up).l : Int) = (t : Int) := by omega
    refine seqR ?_
    refine lmv K9 rfl rfl (want_none rfl) rfl rfl (fun a8 K8 => ?_)
    clear K9
    refine lnc K8 rfl rfl (want_none rfl) rfl rfl (fun a9 K9 => ?_)
    clear K8
    refine lfa K9 rfl rfl (want_none rfl) rfl rfl FA75_1 (fun a10 K10 => ?_)
    clear K9
    refine ltake (v := .int .i64 ((S (S t).up).l : Int)) (w' := V) K10 rfl rfl (want_none rfl) (fun ev E => ?_) (fun a11 K11 => ?_)
    · have E21 := E.tmp 21 _ rfl; clear E; clear HH HP; go_simp
    clear K10
    refine lmv K11 rfl rfl (want_none rfl) rfl rfl (fun a12 K12 => ?_)
    clear K11
    refine ltake (v := .bool false) (w' := V) K12 rfl rfl (want_none rfl) (fun ev E => ?_) (fun a13 K13 => ?_)
    · have E22 := E.tmp 22 _ rfl; have E23 := E.tmp 23 _ rfl; clear E; clear HH HP; go_simp
    clear K12
    refine lmv K13 rfl rfl (want_none rfl) rfl rfl (fun a14 K14 => ?_)
    clear K13
    refine lskip K14 rfl rfl (want_not K14 rfl rfl rfl (by decide)) (fun a15 K15 => ?_)
    refine lskip K15 rfl rfl (want_not K15 rfl rfl rfl (by decide)) (fun a16 K16 => ?_)
    refine lskip K16 rfl rfl (want_not K16 rfl rfl rfl (by decide)) (fun a17 K17 => ?_)
    refine lskip K17 rfl rfl (want_not K17 rfl rfl rfl (by decide)) (fun a18 K18 => ?_)
    refine lskip K18 rfl rfl (want_not K18 rfl rfl rfl (by decide)) (fun a19 K19 => ?_)
    refine lskip K19 rfl rfl (want_not K19 rfl rfl rfl (by decide)) (fun a20 K20 => ?_)
    refine ltake (v := .bool false) (w' := V) K20 rfl rfl (want_none rfl) (fun ev E => ?_) (fun a21 K21 => ?_)
    · have EC := E.const; have E25 := E.tmp 25 _ rfl; have E31 := E.tmp 31 _ rfl; clear E; clear HH HP; go_simp
    clear K20
    refine las K21 rfl rfl (want_none rfl) rfl rfl (fun a22 K22 => ?_)
    clear K21
    refine wpList_nil ?_
    refine wp_ret ?_
    refine bodyPost_ret (v := .bool false) ?_ K22.defers ⟨by simp [isTopB, *], unhide HP⟩
    have e4 := K22.has 4 _ rfl
    simp [results, Try.results87, go_sem, e4]
  · have i1 : ¬ ((S (S t).up).l : Int) = (t : Int) := by omega
    by_cases h2 : (S (S t).up).r = t
    · have i2 : ((S (S t).up).r : Int) = (t : Int) := by omega
      refine seqR ?_
      refine lmv K9 rfl rfl (want_none rfl) rfl rfl (fun a8 K8 => ?_)
      clear K9
      refine lnc K8 rfl rfl (want_none rfl) rfl rfl (fun a9 K9 => ?_)
      clear K8
      refine lfa K9 rfl rfl (want_none rfl) rfl rfl FA75_1 (fun a10 K10 => ?_)
      clear K9
      refine ltake (v := .int .i64 ((S (S t).up).l : Int)) (w' := V) K10 rfl rfl (want_none rfl) (fun ev E => ?_) (fun a11 K11 => ?_)
      · have E21 := E.tmp 21 _ rfl; clear E; clear HH HP; go_simp
      clear K10
      refine lmv K11 rfl rfl (want_none rfl) rfl rfl (fun a12 K12 => ?_)
      clear K11
      refine ltake (v := .bool true) (w' := V) K12 rfl rfl (want_none rfl) (fun ev E => ?_) (fun a13 K13 => ?_)
      · have E22 := E.tmp 22 _ rfl; have E23 := E.tmp 23 _ rfl; clear E; clear HH HP; go_simp
      clear K12
      refine lmv K13 rfl rfl (want_none rfl) rfl rfl (fun a14 K14 => ?_)
      clear K13
      refine lmv K14 rfl rfl (want_some K14 rfl rfl rfl) rfl rfl (fun a15 K15 => ?_)
      clear K14
      refine lnc K15 rfl rfl (want_some K15 rfl rfl rfl) rfl rfl (fun a16 K16 => ?_)
      clear K15
      refine lfa K16 rfl rfl (want_some K16 rfl rfl rfl) rfl rfl FA75_2 (fun a17 K17 => ?_)
      clear K16
      refine ltake (v := .int .i64 ((S (S t).up).r : Int)) (w' := V) K17 rfl rfl (want_some K17 rfl rfl rfl) (fun ev E => ?_) (fun a18 K18 => ?_)
      · have E28 := E.tmp 28 _ rfl; clear E; clear HH HP; go_simp
      clear K17
      refine lmv K18 rfl rfl (want_some K18 rfl rfl rfl) rfl rfl (fun a19 K19 => ?_)
      clear K18
      refine ltake (v := .bool false) (w' := V) K19 rfl rfl (want_some K19 rfl rfl rfl) (fun ev E => ?_) (fun a20 K20 => ?_)
      · have E29 := E.tmp 29 _ rfl; have E30 := E.tmp 30 _ rfl; clear E; clear HH HP; go_simp
      clear K19
      refine ltake (v := .bool false) (w' := V) K20 rfl rfl (want_none rfl) (fun ev E => ?_) (fun a21 K21 => ?_)
      · have EC := E.const; have E25 := E.tmp 25 _ rfl; have E31 := E.tmp 31 _ rfl; clear E; clear HH HP; go_simp
      clear K20
      refine las K21 rfl rfl (want_none rfl) rfl rfl (fun a22 K22 => ?_)
      clear K21
      refine wpList_nil ?_
      refine wp_ret ?_
      refine bodyPost_ret (v := .bool false) ?_ K22.defers ⟨by simp [isTopB, *], unhide HP⟩
      have e4 := K22.has 4 _ rfl
      simp [results, Try.results87, go_sem, e4]
    · have i2 : ¬ ((S (S t).up).r : Int) = (t : Int) := by omega
      refine seqR ?_
      refine lmv K9 rfl rfl (want_none rfl) rfl rfl (fun a8 K8 => ?_)
      clear K9
      refine lnc K8 rfl rfl (want_none rfl) rfl rfl (fun a9 K9 => ?_)
      clear K8
      refine lfa K9 rfl rfl (want_none rfl) rfl rfl FA75_1 (fun a10 K10 => ?_)
      clear K9
      refine ltake (v := .int .i64 ((S (S t).up).l : Int)) (w' := V) K10 rfl rfl (want_none rfl) (fun ev E => ?_) (fun a11 K11 => ?_)
      · have E21 := E.tmp 21 _ rfl; clear E; clear HH HP; go_simp
      clear K10
      refine lmv K11 rfl rfl (want_none rfl) rfl rfl (fun a12 K12 => ?_)
      clear K11
      refine ltake (v := .bool true) (w' := V) K12 rfl rfl (want_none rfl) (fun ev E => ?_) (fun a13 K13 => ?_)
      · have E22 := E.tmp 22 _ rfl; have E23 := E.tmp 23 _ rfl; clear E; clear HH HP; go_simp
      clear K12
      refine lmv K13 rfl rfl (want_none rfl) rfl rfl (fun a14 K14 => ?_)
      clear K13
      refine lmv K14 rfl rfl (want_some K14 rfl rfl rfl) rfl rfl (fun a15 K15 => ?_)
      clear K14
      refine lnc K15 rfl rfl (want_some K15 rfl rfl rfl) rfl rfl (fun a16 K16 => ?_)
      clear K15
      refine lfa K16 rfl rfl (want_some K16 rfl rfl rfl) rfl rfl FA75_2 (fun a17 K17 => ?_)
      clear K16
      refine ltake (v := .int .i64 ((S (S t).up).r : Int)) (w' := V) K17 rfl rfl (want_some K17 rfl rfl rfl) (fun ev E => ?_) (fun a18 K18 => ?_)
      · have E28 := E.tmp 28 _ rfl; clear E; clear HH HP; go_simp
      clear K17
      refine lmv K18 rfl rfl (want_some K18 rfl rfl rfl) rfl rfl (fun a19 K19 => ?_)
      clear K18
      refine ltake (v := .bool true) (w' := V) K19 rfl rfl (want_some K19 rfl rfl rfl) (fun ev E => ?_) (fun a20 K20 => ?_)
      · have E29 := E.tmp 29 _ rfl; have E30 := E.tmp 30 _ rfl; clear E; clear HH HP; go_simp
      clear K19
      refine ltake (v := .bool true) (w' := V) K20 rfl rfl (want_none rfl) (fun ev E => ?_) (fun a21 K21 => ?_)
      · have EC := E.const; have E25 := E.tmp 25 _ rfl; have E31 := E.tmp 31 _ rfl; clear E; clear HH HP; go_simp
      clear K20
      refine las K21 rfl rfl (want_none rfl) rfl rfl (fun a22 K22 => ?_)
      clear K21
      refine wpList_nil ?_
      refine wp_ret ?_
      refine bodyPost_ret (v := .bool true) ?_ K22.defers ⟨by simp [isTopB, *], unhide HP⟩
      have e4 := K22.has 4 _ rfl
      simp [results, Try.results87, go_sem, e4]
end Go.Proofs.Ytjnkgakajenoaaa
/- The program's forest: a part is turned round. -/

namespace Go.Proofs.Ytjnkgakajenoaaa
open Go.RowKit Go.Arb
set_option linter.unusedVariables false
set_option linter.unusedSimpArgs false
set_option maxRecDepth 100000

def turnS (S : Ss) (t : Nat) : Ss := if 1 < (S t).sm.c then upd S t { S t with l := (S t).r, r := (S t).l, tn := !(S t).tn } else S
def O62_2_0 : Oper := ⟨some 17, .move (.tmp 4), 85, "slot.go:56", #[], none⟩
def O62_2_1 : Oper := ⟨some 18, .move (.tmp 4), 85, "slot.go:56", #[⟨12, (Ground.gcOnly Departure.lateStores)⟩], none⟩
def O62_2_2 : Oper := ⟨some 19, .move (.tmp 4), 85, "slot.go:56", #[], none⟩
def O62_2_3 : Oper := ⟨some 20, .nilCheck (.tmp 19), 0, "slot.go:56", #[⟨2, .data⟩], none⟩
def O62_2_4 : Oper := ⟨some 21, .fieldAddr 75 (.tmp 20) 2, 0, "slot.go:56", #[⟨3, .data⟩], none⟩
def O62_2_5 : Oper := ⟨some 22, .load 3 (.tmp 21), 3, "slot.go:56", #[⟨4, .data⟩], none⟩
def O62_2_6 : Oper := ⟨some 23, .move (.tmp 4), 85, "slot.go:56", #[], none⟩
def O62_2_7 : Oper := ⟨some 24, .nilCheck (.tmp 23), 0, "slot.go:56", #[⟨6, .data⟩], none⟩
def O62_2_8 : Oper := ⟨some 25, .fieldAddr 75 (.tmp 24) 1, 0, "slot.go:56", #[⟨7, .data⟩], none⟩
def O62_2_9 : Oper := ⟨some 26, .load 3 (.tmp 25), 3, "slot.go:56", #[⟨8, .data⟩], none⟩
def O62_2_10 : Oper := ⟨some 27, .nilCheck (.tmp 17), 0, "slot.go:56", #[⟨0, .data⟩, ⟨0, .phase⟩, ⟨1, (Ground.textOnly Departure.lateStores)⟩, ⟨2, .phase⟩, ⟨3, .phase⟩, ⟨4, .phase⟩, ⟨5, .phase⟩, ⟨6, (Ground.textOnly Departure.lateStores)⟩, ⟨7, (Ground.textOnly Departure.lateStoresUnsure)⟩, ⟨8, (Ground.textOnly Departure.lateStoresUnsure)⟩, ⟨9, .phase⟩], none⟩
def O62_2_11 : Oper := ⟨some 28, .fieldAddr 75 (.tmp 27) 1, 0, "slot.go:56", #[⟨10, .data⟩, ⟨0, .phase⟩, ⟨1, (Ground.textOnly Departure.lateStores)⟩, ⟨2, .phase⟩, ⟨3, .phase⟩, ⟨4, .phase⟩, ⟨5, .phase⟩, ⟨6, (Ground.textOnly Departure.lateStores)⟩, ⟨7, (Ground.textOnly Departure.lateStoresUnsure)⟩, ⟨8, (Ground.textOnly Departure.lateStoresUnsure)⟩, ⟨9, .phase⟩], none⟩
def O62_2_12 : Oper := ⟨none, .store 3 (.tmp 28) (.tmp 22), 0, "slot.go:56", #[⟨11, .data⟩, ⟨5, .data⟩, ⟨0, .phase⟩, ⟨1, (Ground.textOnly Departure.lateStores)⟩, ⟨2, .phase⟩, ⟨3, .phase⟩, ⟨4, .phase⟩, ⟨5, .phase⟩, ⟨6, (Ground.textOnly Departure.lateStores)⟩, ⟨7, (Ground.textOnly Departure.lateStoresUnsure)⟩, ⟨8, (Ground.textOnly Departure.lateStoresUnsure)⟩, ⟨9, .phase⟩], none⟩
def O62_2_13 : Oper := ⟨some 29, .nilCheck (.tmp 18), 0, "slot.go:56", #[⟨1, .data⟩, ⟨0, .phase⟩, ⟨1, .phase⟩, ⟨2, .phase⟩, ⟨3, .phase⟩, ⟨4, .phase⟩, ⟨5, .phase⟩, ⟨6, .phase⟩, ⟨7, .phase⟩, ⟨8, .phase⟩, ⟨9, .phase⟩, ⟨10, .phase⟩, ⟨11, .phase⟩, ⟨12, .phase⟩], none⟩
def O62_2_14 : Oper := ⟨some 30, .fieldAddr 75 (.tmp 29) 2, 0, "slot.go:56", #[⟨13, .data⟩, ⟨0, .phase⟩, ⟨1, .phase⟩, ⟨2, .phase⟩, ⟨3, .phase⟩, ⟨4, .phase⟩, ⟨5, .phase⟩, ⟨6, .phase⟩, ⟨7, .phase⟩, ⟨8, .phase⟩, ⟨9, .phase⟩, ⟨10, .phase⟩, ⟨11, .phase⟩, ⟨12, .phase⟩], none⟩
def O62_2_15 : Oper := ⟨none, .store 3 (.tmp 30) (.tmp 26), 0, "slot.go:56", #[⟨14, .data⟩, ⟨9, .data⟩, ⟨12, .chain⟩, ⟨0, .phase⟩, ⟨1, .phase⟩, ⟨2, .phase⟩, ⟨3, .phase⟩, ⟨4, .phase⟩, ⟨5, .phase⟩, ⟨6, .phase⟩, ⟨7, .phase⟩, ⟨8, .phase⟩, ⟨9, .phase⟩, ⟨10, .phase⟩, ⟨11, .phase⟩, ⟨12, .phase⟩], none⟩
def OPS62_2 : List Oper := [O62_2_0, O62_2_1, O62_2_2, O62_2_3, O62_2_4, O62_2_5, O62_2_6, O62_2_7, O62_2_8, O62_2_9, O62_2_10, O62_2_11, O62_2_12, O62_2_13, O62_2_14, O62_2_15]
theorem NS62_2 : Region.noSelect OPS62_2.toArray = true := by kernel_rfl
set_option maxHeartbeats 4000000 in
theorem rg62_2 {p g n cap room t : Nat} {S : Ss} {NX : Act → World → Prop} {a0 : Act} {w : World} (K0 : Kn a0 39 [(4, .pointer (some ⟨g, t * 14, none⟩))]) (h : Pool w p g n cap room S) (ht : t < n)
    (hN : ∀ a' W, Kn a' 39 [(4, .pointer (some ⟨g, t * 14, none⟩))] → Pool W p g n cap room (upd (upd S t { S t with l := (S t).r }) t { S t with l := (S t).r, r := (S t).l }) → Keep [g] w W → NX a' W) : (Code.region 2 OPS62_2.toArray true).wp Try.prog (Norm NX) a0 w := by
  have hq := @norm_q NX
  have hS : (fun w' : World => Pool w' p g n cap room S) w.drew := h.drew
  obtain ⟨_, s1', _⟩ := h.drew.slot ht
  obtain ⟨_, f1', _⟩ := h.drew.soft ht
  have P1 := hide (h.drew.put (t := t) ht 1 (by omega) { S t with l := (S t).r } (.int .i64 ((S t).r : Int)) rfl)
  have K1' : Keep [g] w (w.drew.setCell ⟨g, t * 14 + 1, none⟩ (.int .i64 ((S t).r : Int))) := ((Keep.refl [g] w).drew).cellB _ _
  have KP := hide K1'
  clear h K1'
  refine wp_region_till (t := 12) (S := (fun w' : World => Pool w' p g n cap room S)) (by kernel_rfl) ?_
  rw [show (OPS62_2.toArray).size = 16 from by kernel_rfl]
  refine upure (i := 0) (o := O62_2_0) (v := .pointer (some ⟨g, t * 14, none⟩)) K0 hq rfl NS62_2 (by kernel_rfl) (by kernel_rfl) rfl rfl rfl (want_none rfl) (fun ev E w9 => ?_) (fun _ => hS) (fun a1 K1 => ?_)
  · have E4 := E.tmp 4 _ rfl; clear E; unfold O62_2_0; clear hN hq hS P1 KP; go_simp
  refine upure (i := 1) (o := O62_2_1) (v := .pointer (some ⟨g, t * 14, none⟩)) K1 hq rfl NS62_2 (by kernel_rfl) (by kernel_rfl) rfl rfl rfl (want_none rfl) (fun ev E w9 => ?_) (fun _ => hS) (fun a2 K2 => ?_)
  · have E4 := E.tmp 4 _ rfl; clear E; unfold O62_2_1; clear hN hq hS P1 KP; go_simp
  clear K1
  refine upure (i := 2) (o := O62_2_2) (v := .pointer (some ⟨g, t * 14, none⟩)) K2 hq rfl NS62_2 (by kernel_rfl) (by kernel_rfl) rfl rfl rfl (want_none rfl) (fun ev E w9 => ?_) (fun _ => hS) (fun a3 K3 => ?_)
  · have E4 := E.tmp 4 _ rfl; clear E; unfold O62_2_2; clear hN hq hS P1 KP; go_simp
  clear K2
  refine upure (i := 3) (o := O62_2_3) (v := .pointer (some ⟨g, t * 14, none⟩)) K3 hq rfl NS62_2 (by kernel_rfl) (by kernel_rfl) rfl rfl rfl (want_none rfl) (fun ev E w9 => ?_) (fun _ => hS) (fun a4 K4 => ?_)
  · have E19 := E.tmp 19 _ rfl; clear E; unfold O62_2_3; clear hN hq hS P1 KP; go_simp
  clear K3
  refine upure (i := 4) (o := O62_2_4) (v := .pointer (some ⟨g, t * 14 + 2, none⟩)) K4 hq rfl NS62_2 (by kernel_rfl) (by kernel_rfl) rfl rfl rfl (want_none rfl) (fun ev E w9 => ?_) (fun _ => hS) (fun a5 K5 => ?_)
  · have E20 := E.tmp 20 _ rfl; clear E; unfold O62_2_4; clear hN hq hS P1 KP; go_simp
  clear K4
  refine utake (i := 5) (o := O62_2_5) (v := .int .i64 ((S t).r : Int)) K5 hq rfl NS62_2 (by kernel_rfl) (by kernel_rfl) (by kernel_rfl) (by kernel_rfl) rfl rfl (want_none rfl) (fun ev E w9 hSw => ?_) hS (fun a6 K6 => ?_)
  · obtain ⟨s0, s1, s2, s3, s4, s5, s6, s7, s8, s9, s10, s11, s12, s13⟩ := hSw.slot (t := t) (by assumption); clear hSw; have E21 := E.tmp 21 _ rfl; clear E; unfold O62_2_5; clear hN hq hS P1 KP; go_simp
  clear K5
  refine upure (i := 6) (o := O62_2_6) (v := .pointer (some ⟨g, t * 14, none⟩)) K6 hq rfl NS62_2 (by kernel_rfl) (by kernel_rfl) rfl rfl rfl (want_none rfl) (fun ev E w9 => ?_) (fun _ => hS) (fun a7 K7 => ?_)
  · have E4 := E.tmp 4 _ rfl; clear E; unfold O62_2_6; clear hN hq hS P1 KP; go_simp
  clear K6
  refine upure (i := 7) (o := O62_2_7) (v := .pointer (some ⟨g, t * 14, none⟩)) K7 hq rfl NS62_2 (by kernel_rfl) (by kernel_rfl) rfl rfl rfl (want_none rfl) (fun ev E w9 => ?_) (fun _ => hS) (fun a8 K8 => ?_)
  · have E23 := E.tmp 23 _ rfl; clear E; unfold O62_2_7; clear hN hq hS P1 KP; go_simp
  clear K7
  refine upure (i := 8) (o := O62_2_8) (v := .pointer (some ⟨g, t * 14 + 1, none⟩)) K8 hq rfl NS62_2 (by kernel_rfl) (by kernel_rfl) rfl rfl rfl (want_none rfl) (fun ev E w9 => ?_) (fun _ => hS) (fun a9 K9 => ?_)
  · have E24 := E.tmp 24 _ rfl; clear E; unfold O62_2_8; clear hN hq hS P1 KP; go_simp
  clear K8
  refine utake (i := 9) (o := O62_2_9) (v := .int .i64 ((S t).l : Int)) K9 hq rfl NS62_2 (by kernel_rfl) (by kernel_rfl) (by kernel_rfl) (by kernel_rfl) rfl rfl (want_none rfl) (fun ev E w9 hSw => ?_) hS (fun a10 K10 => ?_)
  · obtain ⟨s0, s1, s2, s3, s4, s5, s6, s7, s8, s9, s10, s11, s12, s13⟩ := hSw.slot (t := t) (by assumption); clear hSw; have E25 := E.tmp 25 _ rfl; clear E; unfold O62_2_9; clear hN hq hS P1 KP; go_simp
  clear K9
  refine upure (i := 10) (o := O62_2_10) (v := .pointer (some ⟨g, t * 14, none⟩)) K10 hq rfl NS62_2 (by kernel_rfl) (by kernel_rfl) rfl rfl rfl (want_none rfl) (fun ev E w9 => ?_) (fun _ => hS) (fun a11 K11 => ?_)
  · have E17 := E.tmp 17 _ rfl; clear E; unfold O62_2_10; clear hN hq hS P1 KP; go_simp
  clear K10
  refine upure (i := 11) (o := O62_2_11) (v := .pointer (some ⟨g, t * 14 + 1, none⟩)) K11 hq rfl NS62_2 (by kernel_rfl) (by kernel_rfl) rfl rfl rfl (want_none rfl) (fun ev E w9 => ?_) (fun _ => hS) (fun a12 K12 => ?_)
  · have E27 := E.tmp 27 _ rfl; clear E; unfold O62_2_11; clear hN hq hS P1 KP; go_simp
  clear K11
  refine ustore (R := fun _ _ => True) (i := 12) (o := O62_2_12) (w' := w.drew.setCell ⟨g, t * 14 + 1, none⟩ (.int .i64 ((S t).r : Int))) K12 rfl (by kernel_rfl) rfl (want_none rfl) (fun ev E => ?_) (fun hx => absurd hx (by decide)) ?_
  · have E22 := E.tmp 22 _ rfl; have E28 := E.tmp 28 _ rfl; clear E; unfold O62_2_12; clear hN hq hS P1 KP; go_simp
  generalize w.drew.setCell ⟨g, t * 14 + 1, none⟩ (.int .i64 ((S t).r : Int)) = W1 at *
  obtain ⟨_, _, s2', _⟩ := (unhide P1).slot ht
  obtain ⟨_, _, f2', _⟩ := (unhide P1).soft ht
  rw [upd_same] at s2'
  dsimp only at s2'
  have P2 := (unhide P1).put (t := t) ht 2 (by omega) { S t with l := (S t).r, r := (S t).l } (.int .i64 ((S t).l : Int)) (by rw [upd_same]; rfl)
  have H2 := hide (And.intro P2 ((unhide KP).cellB (t * 14 + 2) (.int .i64 ((S t).l : Int))))
  clear P1 P2 KP
  refine uone (i := 13) (o := ⟨some 29, .nilCheck (.tmp 18), 0, "slot.go:56", #[⟨1, .data⟩, ⟨0, .phase⟩, ⟨1, .phase⟩, ⟨2, .phase⟩, ⟨3, .phase⟩, ⟨4, .phase⟩, ⟨5, .phase⟩, ⟨6, .phase⟩, ⟨7, .phase⟩, ⟨8, .phase⟩, ⟨9, .phase⟩, ⟨10, .phase⟩, ⟨11, .phase⟩, ⟨12, .phase⟩], none⟩) K12 rfl (by kernel_rfl) rfl rfl (want_none rfl) (leaves_value (v := .pointer (some ⟨g, t * 14, none⟩)) (w' := W1) K12 (fun ev E => by clear hN hq H2; have E18 := E.tmp 18 _ rfl; clear E; go_simp)) (fun v9 W9 hR => ?_)
  obtain ⟨rfl, hWW⟩ := hR
  rw [hWW]
  clear hWW
  refine ⟨fun hx => absurd hx (by decide), fun a13 K13 => ?_⟩
  refine uone (i := 14) (o := ⟨some 30, .fieldAddr 75 (.tmp 29) 2, 0, "slot.go:56", #[⟨13, .data⟩, ⟨0, .phase⟩, ⟨1, .phase⟩, ⟨2, .phase⟩, ⟨3, .phase⟩, ⟨4, .phase⟩, ⟨5, .phase⟩, ⟨6, .phase⟩, ⟨7, .phase⟩, ⟨8, .phase⟩, ⟨9, .phase⟩, ⟨10, .phase⟩, ⟨11, .phase⟩, ⟨12, .phase⟩], none⟩) K13 rfl (by kernel_rfl) rfl rfl (want_none rfl) (leaves_value (v := .pointer (some ⟨g, t * 14 + 2, none⟩)) (w' := W1) K13 (fun ev E => by clear hN hq H2; have E29 := E.tmp 29 _ rfl; clear E; go_simp)) (fun v9 W9 hR => ?_)
  obtain ⟨rfl, hWW⟩ := hR
  rw [hWW]
  clear hWW
  refine ⟨fun hx => absurd hx (by decide), fun a14 K14 => ?_⟩
  refine ustore (R := fun _ _ => True) (i := 15) (o := O62_2_15) (w' := W1.setCell ⟨g, t * 14 + 2, none⟩ (.int .i64 ((S t).l : Int))) K14 rfl (by kernel_rfl) rfl (want_none rfl) (fun ev E => ?_) (fun hx => absurd hx (by decide)) ?_
  · have E26 := E.tmp 26 _ rfl; have E30 := E.tmp 30 _ rfl; clear E; unfold O62_2_15; clear hN hq H2; go_simp
  refine till_done (by kernel_rfl) ?_ _
  exact hN _ _ (K14.less ⟨rfl, trivial⟩) (unhide H2).1 (unhide H2).2
set_option maxHeartbeats 4000000 in
theorem turn_any {p g n cap room t : Nat} {S : Ss} {w : World} (h : Pool w p g n cap room S) (ht : t < n) :
    Calls Try.prog 62 #[.pointer (some ⟨p, 0, none⟩), .int .i64 (t : Int)] w fun e w' => e = .returned (.tuple #[]) ∧ Pool w' p g n cap room (turnS S t) ∧ Keep [g] w w' := by
  have PH := hide h
  clear h
  have e1 : (0 : Int) ≤ (t : Int) := by omega
  have e2 : (t : Int) < (n : Int) := by omega
  refine callsK (n := 39) (L := [(0, .pointer (some ⟨p, 0, none⟩)), (1, .int .i64 (t : Int))]) Try.func62 rfl Try.ntmps62 rfl rfl (fun a0 K0 => ?_)
  refine seqR ?_
  refine lmv K0 rfl rfl (want_none rfl) rfl rfl (fun a1 K1 => ?_)
  refine lnc K1 rfl rfl (want_none rfl) rfl rfl (fun a2 K2 => ?_)
  clear K1
  refine lfa K2 rfl rfl (want_none rfl) rfl rfl FA66_1 (fun a3 K3 => ?_)
  clear K2
  refine ltake (v := .slice (some ⟨g, 0, none⟩) n cap) (w' := w) K3 rfl rfl (want_none rfl) (fun ev E => ?_) (fun a4 K4 => ?_)
  · obtain ⟨c0, c1, _⟩ := (unhide PH).head; have E7 := E.tmp 7 _ rfl; clear E; clear PH; go_simp
  clear K3
  refine lmv K4 rfl rfl (want_none rfl) rfl rfl (fun a5 K5 => ?_)
  clear K4
  refine ltake (v := .pointer (some ⟨g, t * 14, none⟩)) (w' := w) K5 rfl rfl (want_none rfl) (fun ev E => ?_) (fun a6 K6 => ?_)
  · have E8 := E.tmp 8 _ rfl; have E9 := E.tmp 9 _ rfl; clear E; clear PH; go_simp
  clear K5
  refine las K6 rfl rfl (want_none rfl) rfl rfl (fun a7 K7 => ?_)
  clear K6
  refine nilN ?_
  have K8 : Kn _ 39 [(4, .pointer (some ⟨g, t * 14, none⟩))] := K7.less ⟨rfl, trivial⟩
  clear K7
  by_cases hc : 1 < (S t).sm.c
  · refine seqR ?_
    refine lmv K8 rfl rfl (want_none rfl) rfl rfl (fun a9 K9 => ?_)
    clear K8
    refine lnc K9 rfl rfl (want_none rfl) rfl rfl (fun a10 K10 => ?_)
    clear K9
    refine lfa K10 rfl rfl (want_none rfl) rfl rfl FA75_6 (fun a11 K11 => ?_)
    clear K10
    refine lfa K11 rfl rfl (want_none rfl) rfl rfl FA34_0 (fun a12 K12 => ?_)
    clear K11
    refine ltake (v := .int .i64 (S t).sm.c) (w' := w) K12 rfl rfl (want_none rfl) (fun ev E => ?_) (fun a13 K13 => ?_)
    · obtain ⟨s0, s1, s2, s3, s4, s5, s6, s7, s8, s9, s10, s11, s12, s13⟩ := (unhide PH).slot (t := t) (by assumption); have E14 := E.tmp 14 _ rfl; clear E; clear PH; go_simp
    clear K12
    refine ltake (v := .bool true) (w' := w) K13 rfl rfl (want_none rfl) (fun ev E => ?_) (fun a14 K14 => ?_)
    · have EC := E.const; have E15 := E.tmp 15 _ rfl; clear E; clear PH; go_simp
    clear K13
    refine nilN ?_
    refine knCond (b := true) K14 rfl ?_
    have K15 : Kn _ 39 [(4, .pointer (some ⟨g, t * 14, none⟩))] := K14.less ⟨rfl, trivial⟩
    clear K14
    refine seqN (rg62_2 K15 (unhide PH) ht fun a9 W9 K9 hP hK => ?_)
    clear PH
    have PH := hide hP
    have KP := hide hK
    clear hP hK
    obtain ⟨_, _, _, s3, _⟩ := (unhide PH).slot ht
    obtain ⟨_, _, _, f3, _⟩ := (unhide PH).soft ht
    rw [upd_same] at s3
    dsimp only at s3
    refine wp_region_lit ?_
    refine lmv K9 rfl rfl (want_none rfl) rfl rfl (fun a21 K21 => ?_)
    clear K9
    refine lmv K21 rfl rfl (want_none rfl) rfl rfl (fun a22 K22 => ?_)
    clear K21
    refine lnc K22 rfl rfl (want_none rfl) rfl rfl (fun a23 K23 => ?_)
    clear K22
    refine lfa K23 rfl rfl (want_none rfl) rfl rfl FA75_3 (fun a24 K24 => ?_)
    clear K23
    refine ltake (v := .bool (S t).tn) (w' := W9) K24 rfl rfl (want_none rfl) (fun ev E => ?_) (fun a25 K25 => ?_)
    · have E34 := E.tmp 34 _ rfl; clear E; clear PH KP; go_simp
    clear K24
    refine ltake (v := .bool (!(S t).tn)) (w' := W9) K25 rfl rfl (want_none rfl) (fun ev E => ?_) (fun a26 K26 => ?_)
    · have E35 := E.tmp 35 _ rfl; clear E; clear PH KP; go_simp
    clear K25
    refine lnc K26 rfl rfl (want_none rfl) rfl rfl (fun a27 K27 => ?_)
    clear K26
    refine lfa K27 rfl rfl (want_none rfl) rfl rfl FA75_3 (fun a28 K28 => ?_)
    clear K27
    refine lstore (w' := W9.setCell ⟨g, t * 14 + 3, none⟩ (.bool (!(S t).tn))) K28 rfl (want_none rfl) (fun ev E => ?_) ?_
    · have E36 := E.tmp 36 _ rfl; have E38 := E.tmp 38 _ rfl; clear E; clear PH KP; go_simp
    refine wpList_nil ?_
    have PP := (unhide PH).put (t := t) ht 3 (by omega) { S t with l := (S t).r, r := (S t).l, tn := !(S t).tn } (.bool (!(S t).tn)) (by rw [upd_same]; rfl)
    have ee : upd (upd (upd S t { S t with l := (S t).r }) t { S t with l := (S t).r, r := (S t).l }) t { S t with l := (S t).r, r := (S t).l, tn := !(S t).tn } = turnS S t := by
      funext j
      by_cases hj : j = t
      · subst hj; simp [turnS, hc, upd]
      · simp [turnS, hc, upd, hj]
    rw [ee] at PP
    refine ⟨K28.defers, .tuple #[], results_none rfl _ _ _, rfl, PP, (unhide KP).cellB _ _⟩
  · refine seqR ?_
    refine lmv K8 rfl rfl (want_none rfl) rfl rfl (fun a9 K9 => ?_)
    clear K8
    refine lnc K9 rfl rfl (want_none rfl) rfl rfl (fun a10 K10 => ?_)
    clear K9
    refine lfa K10 rfl rfl (want_none rfl) rfl rfl FA75_6 (fun a11 K11 => ?_)
    clear K10
    refine lfa K11 rfl rfl (want_none rfl) rfl rfl FA34_0 (fun a12 K12 => ?_)
    clear K11
    refine ltake (v := .int .i64 (S t).sm.c) (w' := w) K12 rfl rfl (want_none rfl) (fun ev E => ?_) (fun a13 K13 => ?_)
    · obtain ⟨s0, s1, s2, s3, s4, s5, s6, s7, s8, s9, s10, s11, s12, s13⟩ := (unhide PH).slot (t := t) (by assumption); have E14 := E.tmp 14 _ rfl; clear E; clear PH; go_simp
    clear K12
    refine ltake (v := .bool false) (w' := w) K13 rfl rfl (want_none rfl) (fun ev E => ?_) (fun a14 K14 => ?_)
    · have EC := E.const; have E15 := E.tmp 15 _ rfl; clear E; clear PH; go_simp
    clear K13
    refine nilN ?_
    refine knCond (b := false) K14 rfl (wp_skip ?_)
    refine ⟨K14.defers, .tuple #[], results_none rfl _ _ _, rfl, ?_, Keep.refl _ _⟩
    rw [turnS, if_neg hc]
    exact unhide PH
end Go.Proofs.Ytjnkgakajenoaaa
/- The program's forest: sums raised, masses put together. -/

namespace Go.Proofs.Ytjnkgakajenoaaa
open Go.RowKit Go.Arb
set_option linter.unusedVariables false
set_option linter.unusedSimpArgs false

set_option maxHeartbeats 400000 in
theorem lift_any (c s a b n q : Int) (w : World) (hq : c * n = q) (k1 : -4611686018427387904 ≤ q) (k2 : q ≤ 4611686018427387904) (k3 : -4611686018427387904 ≤ s + q) (k4 : s + q ≤ 4611686018427387904)
    (k5 : -4611686018427387904 ≤ a + n) (k6 : a + n ≤ 4611686018427387904) (k7 : -4611686018427387904 ≤ b + n) (k8 : b + n ≤ 4611686018427387904) :
    Calls Try.prog 86 #[.agg #[.int .i64 c, .int .i64 s, .int .i64 a, .int .i64 b], .int .i64 n] w fun r w' =>
      r = .returned (smV (lf ⟨c, s, a, b⟩ n)) ∧ Below w.heap.size w w' := by
  by_cases h0 : c = 0
  · subst h0
    go_enter Try.func86, Try.ntmps86
    go_wp2
    refine bodyPost_ret (v := .agg #[.int .i64 0, .int .i64 s, .int .i64 a, .int .i64 b]) (by simp [results, Try.results86, go_sem]) rfl ⟨by simp [lf, smV], b2 _ _ _⟩
  · have e0 : (c == 0) = false := by simpa using h0
    have hj : Hid (smV (lf ⟨c, s, a, b⟩ n) = .agg #[.int .i64 c, .int .i64 (s + q), .int .i64 (a + n), .int .i64 (b + n)]) := by simp [lf, h0, Hid, smV, hq]
    go_enter Try.func86, Try.ntmps86
    go_wp2
    rw [hj.out]
    refine bodyPost_ret (v := .agg #[.int .i64 c, .int .i64 (s + q), .int .i64 (a + n), .int .i64 (b + n)]) (by simp [results, Try.results86, go_sem]) rfl ⟨rfl, b2 _ _ _⟩

set_option maxHeartbeats 400000 in
theorem heavier_any (x n : Int) (w : World) : Calls Try.prog 85 #[.int .i64 x, .int .i64 n] w fun r w' => r = .returned (.int .i64 (addV x n)) ∧ w = w' := by
  go_enter Try.func85, Try.ntmps85
  go_wp2_with (go_at_call 84; refine (add_any _ _ _).mono ?_; rintro e w' ⟨rfl, rfl⟩)
  go_ret
  exact ⟨rfl, rfl⟩
set_option maxHeartbeats 400000 in
theorem canRise_any (c s a b n : Int) (w : World) : Calls Try.prog 65 #[.agg #[.int .i64 c, .int .i64 s, .int .i64 a, .int .i64 b], .int .i64 n] w fun r w' => r = .returned (.bool (addB a n && addB b n)) ∧ Below w.heap.size w w' := by
  cases h1 : addB a n
  · go_enter Try.func65, Try.ntmps65
    go_wp2_with (go_at_call 84; refine (add_any _ _ _).mono ?_; (first | rw [h1] | skip); rintro e w' ⟨rfl, rfl⟩)
    go_ret
    exact ⟨rfl, (Below.refl _ _).alloc (Nat.le_refl _) _⟩
  · go_enter Try.func65, Try.ntmps65
    go_wp2_with (go_at_call 84; refine (add_any _ _ _).mono ?_; (first | rw [h1] | skip); rintro e w' ⟨rfl, rfl⟩)
    go_ret
    exact ⟨rfl, (Below.refl _ _).alloc (Nat.le_refl _) _⟩
set_option maxHeartbeats 400000 in
theorem with_any (a b c d : Int) (w : World) (k1 : -4611686018427387904 ≤ a + c ∧ a + c ≤ 4611686018427387904) (k2 : -4611686018427387904 ≤ b + d ∧ b + d ≤ 4611686018427387904) :
    Calls Try.prog 80 #[.agg #[.int .i64 a, .int .i64 b], .agg #[.int .i64 c, .int .i64 d]] w fun r w' => r = .returned (.agg #[.int .i64 (a + c), .int .i64 (b + d)]) ∧ Below w.heap.size w w' := by
  have w1 : IntKind.i64.wrap (a + c) = a + c := IntWalk.i64_in _ (by omega)
  have w2 : IntKind.i64.wrap (b + d) = b + d := IntWalk.i64_in _ (by omega)
  go_enter Try.func80, Try.ntmps80
  go_wp2
  refine bodyPost_ret (v := .agg #[.int .i64 (a + c), .int .i64 (b + d)]) (by simp [results, Try.results80, go_sem]) rfl ⟨rfl, b3 _ _ _ _⟩
set_option maxHeartbeats 400000 in
theorem without_any (a b c d : Int) (w : World) (k1 : -4611686018427387904 ≤ a - c ∧ a - c ≤ 4611686018427387904) (k2 : -4611686018427387904 ≤ b - d ∧ b - d ≤ 4611686018427387904) :
    Calls Try.prog 94 #[.agg #[.int .i64 a, .int .i64 b], .agg #[.int .i64 c, .int .i64 d]] w fun r w' => r = .returned (.agg #[.int .i64 (a - c), .int .i64 (b - d)]) ∧ Below w.heap.size w w' := by
  have w1 : IntKind.i64.wrap (a - c) = a - c := IntWalk.i64_in _ (by omega)
  have w2 : IntKind.i64.wrap (b - d) = b - d := IntWalk.i64_in _ (by omega)
  go_enter Try.func94, Try.ntmps94
  go_wp2
  refine bodyPost_ret (v := .agg #[.int .i64 (a - c), .int .i64 (b - d)]) (by simp [results, Try.results94, go_sem]) rfl ⟨rfl, b3 _ _ _ _⟩
end Go.Proofs.Ytjnkgakajenoaaa
/- The program's forest: a part is raised. -/

namespace Go.Proofs.Ytjnkgakajenoaaa
open Go.RowKit Go.Arb
set_option linter.unusedVariables false
set_option linter.unusedSimpArgs false
set_option maxRecDepth 100000

def raiseS (S : Ss) (t : Nat) (d : Int) : Ss := if t = 0 then S else upd S t (if 1 < (S t).sm.c then { S t with wt := addV (S t).wt d, wa := (S t).wa + d, sm := lf (S t).sm d } else { S t with wt := addV (S t).wt d, sm := lf (S t).sm d })
/-- No sum is past its ends. -/
structure Rbd (x : Sl) (d : Int) : Prop where
  q : -4611686018427387904 ≤ x.sm.c * d ∧ x.sm.c * d ≤ 4611686018427387904
  s : -4611686018427387904 ≤ x.sm.s + x.sm.c * d ∧ x.sm.s + x.sm.c * d ≤ 4611686018427387904
  a : -4611686018427387904 ≤ x.sm.a + d ∧ x.sm.a + d ≤ 4611686018427387904
  b : -4611686018427387904 ≤ x.sm.b + d ∧ x.sm.b + d ≤ 4611686018427387904
  w : -4611686018427387904 ≤ x.wa + d ∧ x.wa + d ≤ 4611686018427387904
theorem lf_c (x : Sm) (d : Int) : (lf x d).c = x.c := by unfold lf; split <;> rfl
set_option maxHeartbeats 4000000 in
theorem raise_any {p g n cap room t : Nat} {d : Int} {S : Ss} {w : World} (h : Pool w p g n cap room S) (ht : t < n) (hb : t ≠ 0 → Rbd (S t) d) :
    Calls Try.prog 66 #[.pointer (some ⟨p, 0, none⟩), .int .i64 (t : Int), .int .i64 d] w fun e w' => e = .returned (.tuple #[]) ∧ Pool w' p g n cap room (raiseS S t d) ∧ Keep [g] w w' := by
  have PH := hide h
  have KP := hide (Keep.refl [g] w)
  clear h
  have e1 : (0 : Int) ≤ (t : Int) := by omega
  have e2 : (t : Int) < (n : Int) := by omega
  refine callsK (n := 47) (L := [(0, .pointer (some ⟨p, 0, none⟩)), (1, .int .i64 (t : Int)), (2, .int .i64 d)]) Try.func66 rfl Try.ntmps66 rfl rfl (fun a0 K0 => ?_)
  by_cases h0 : t = 0
  · have i0 : (t : Int) = 0 := by omega
    refine wp_seq (seqN ?_)
    refine wp_region_lit ?_
    refine lmv K0 rfl rfl (want_none rfl) rfl rfl (fun a1 K1 => ?_)
    refine ltake (v := .bool true) (w' := w) K1 rfl rfl (want_none rfl) (fun ev E => ?_) (fun a2 K2 => ?_)
    · have EC := E.const; have E7 := E.tmp 7 _ rfl; clear E; clear PH KP hb; go_simp
    clear K1
    refine nilN ?_
    refine knCond (b := true) K2 rfl (wp_ret (thenRet ?_))
    refine ⟨K2.defers, .tuple #[], results_none rfl _ _ _, rfl, ?_, unhide KP⟩
    rw [raiseS, if_pos h0]
    exact unhide PH
  · have i0 : ¬ (t : Int) = 0 := by omega
    have i0' : ((t : Int) == 0) = false := by rw [beq_eq_false_iff_ne]; exact i0
    have HB := hide (hb h0)
    clear hb
    refine wp_seq (seqN ?_)
    refine wp_region_lit ?_
    refine lmv K0 rfl rfl (want_none rfl) rfl rfl (fun a1 K1 => ?_)
    refine ltake (v := .bool false) (w' := w) K1 rfl rfl (want_none rfl) (fun ev E => ?_) (fun a2 K2 => ?_)
    · have EC := E.const; have E7 := E.tmp 7 _ rfl; clear E; clear PH KP HB; go_simp
    clear K1
    refine nilN ?_
    refine knCond (b := false) K2 rfl (wp_skip ?_)
    show Code.wp _ _ _ _ _
    refine seqR ?_
    refine lmv K2 rfl rfl (want_none rfl) rfl rfl (fun a3 K3 => ?_)
    clear K2
    refine lnc K3 rfl rfl (want_none rfl) rfl rfl (fun a4 K4 => ?_)
    clear K3
    refine lfa K4 rfl rfl (want_none rfl) rfl rfl FA66_1 (fun a5 K5 => ?_)
    clear K4
    refine ltake (v := .slice (some ⟨g, 0, none⟩) n cap) (w' := w) K5 rfl rfl (want_none rfl) (fun ev E => ?_) (fun a6 K6 => ?_)
    · obtain ⟨c0, c1, _⟩ := (unhide PH).head; have E11 := E.tmp 11 _ rfl; clear E; clear PH KP; (try clear HB); go_simp
    clear K5
    refine lmv K6 rfl rfl (want_none rfl) rfl rfl (fun a7 K7 => ?_)
    clear K6
    refine ltake (v := .pointer (some ⟨g, t * 14, none⟩)) (w' := w) K7 rfl rfl (want_none rfl) (fun ev E => ?_) (fun a8 K8 => ?_)
    · have E12 := E.tmp 12 _ rfl; have E13 := E.tmp 13 _ rfl; clear E; clear PH KP; (try clear HB); go_simp
    clear K7
    refine las K8 rfl rfl (want_none rfl) rfl rfl (fun a9 K9 => ?_)
    clear K8
    refine nilN ?_
    have K10 : Kn _ 47 [(2, .int .i64 d), (6, .pointer (some ⟨g, t * 14, none⟩))] := K9.less ⟨rfl, rfl, trivial⟩
    clear K9
    refine seqR ?_
    refine lmv K10 rfl rfl (want_none rfl) rfl rfl (fun a11 K11 => ?_)
    clear K10
    refine lmv K11 rfl rfl (want_none rfl) rfl rfl (fun a12 K12 => ?_)
    clear K11
    refine lnc K12 rfl rfl (want_none rfl) rfl rfl (fun a13 K13 => ?_)
    clear K12
    refine lfa K13 rfl rfl (want_none rfl) rfl rfl FA75_4 (fun a14 K14 => ?_)
    clear K13
    refine ltake (v := .int .i64 (S t).wt) (w' := w) K14 rfl rfl (want_none rfl) (fun ev E => ?_) (fun a15 K15 => ?_)
    · obtain ⟨s0, s1, s2, s3, s4, s5, s6, s7, s8, s9, s10, s11, s12, s13⟩ := (unhide PH).slot (t := t) (by assumption); have E18 := E.tmp 18 _ rfl; clear E; clear PH KP; (try clear HB); go_simp
    clear K14
    refine lmv K15 rfl rfl (want_none rfl) rfl rfl (fun a16 K16 => ?_)
    clear K15
    refine lcall (f := 85) (args := #[.int .i64 (S t).wt, .int .i64 d]) K16 rfl rfl (want_none rfl) (fun ev E => ?_) (heavier_any _ _ _) (fun e w1 hR => ?_)
    · have EF := E.func; have E19 := E.tmp 19 _ rfl; have E20 := E.tmp 20 _ rfl; clear E; clear PH KP; (try clear HB); go_simp
    obtain ⟨rfl, hw1⟩ := hR
    rw [← hw1]
    clear hw1
    refine ⟨_, rfl, fun a17 K17 => ?_⟩
    clear K16
    refine lnc K17 rfl rfl (want_none rfl) rfl rfl (fun a18 K18 => ?_)
    clear K17
    refine lfa K18 rfl rfl (want_none rfl) rfl rfl FA75_4 (fun a19 K19 => ?_)
    clear K18
    obtain ⟨_, _, _, _, s4, _, _, _, _, _, _, _, _, _⟩ := (unhide PH).slot ht
    obtain ⟨_, _, _, _, f4, _, _, _, _, _, _, _, _, _⟩ := (unhide PH).soft ht
    refine lstore (w' := w.setCell ⟨g, t * 14 + 4, none⟩ (.int .i64 (addV (S t).wt d))) K19 rfl (want_none rfl) (fun ev E => ?_) ?_
    · have E21 := E.tmp 21 _ rfl; have E23 := E.tmp 23 _ rfl; clear E; clear PH KP; (try clear HB); go_simp
    clear s4 f4
    have P1 := (unhide PH).put (t := t) ht 4 (by omega) { S t with wt := addV (S t).wt d } (.int .i64 (addV (S t).wt d)) rfl
    have Q1 := (unhide KP).cellB (t * 14 + 4) (.int .i64 (addV (S t).wt d))
    clear PH KP
    have PH := hide P1
    have KP := hide Q1
    clear P1 Q1
    generalize w.setCell ⟨g, t * 14 + 4, none⟩ (.int .i64 (addV (S t).wt d)) = W1 at *
    refine nilN ?_
    refine seqR ?_
    refine lmv K19 rfl rfl (want_none rfl) rfl rfl (fun a21 K21 => ?_)
    clear K19
    refine lmv K21 rfl rfl (want_none rfl) rfl rfl (fun a22 K22 => ?_)
    clear K21
    refine lnc K22 rfl rfl (want_none rfl) rfl rfl (fun a23 K23 => ?_)
    clear K22
    refine lfa K23 rfl rfl (want_none rfl) rfl rfl FA75_6 (fun a24 K24 => ?_)
    clear K23
    refine ltake (v := .agg #[.int .i64 (S t).sm.c, .int .i64 (S t).sm.s, .int .i64 (S t).sm.a, .int .i64 (S t).sm.b]) (w' := W1) K24 rfl rfl (want_none rfl) (fun ev E => ?_) (fun a25 K25 => ?_)
    · obtain ⟨_, _, _, _, _, _, s6, s7, s8, s9, _, _, _, _⟩ := (unhide PH).slot ht; rw [upd_same] at s6 s7 s8 s9; dsimp only at s6 s7 s8 s9; have E27 := E.tmp 27 _ rfl; clear E; clear PH KP; (try clear HB); go_simp
    clear K24
    refine lmv K25 rfl rfl (want_none rfl) rfl rfl (fun a26 K26 => ?_)
    clear K25
    refine lcall (f := 86) (args := #[.agg #[.int .i64 (S t).sm.c, .int .i64 (S t).sm.s, .int .i64 (S t).sm.a, .int .i64 (S t).sm.b], .int .i64 d]) K26 rfl rfl (want_none rfl) (fun ev E => ?_) (lift_any _ _ _ _ d _ _ rfl (unhide HB).q.1 (unhide HB).q.2 (unhide HB).s.1 (unhide HB).s.2 (unhide HB).a.1 (unhide HB).a.2 (unhide HB).b.1 (unhide HB).b.2) (fun e W2 hR => ?_)
    · have EF := E.func; have E28 := E.tmp 28 _ rfl; have E29 := E.tmp 29 _ rfl; clear E; clear PH KP; (try clear HB); go_simp
    obtain ⟨rfl, hb2⟩ := hR
    have P2 := hide ((unhide PH).below hb2)
    have Q2 := hide ((unhide KP).belowB hb2)
    clear PH KP hb2
    have PH := P2
    have KP := Q2
    clear P2 Q2
    unfold smV
    generalize hr : lf ⟨(S t).sm.c, (S t).sm.s, (S t).sm.a, (S t).sm.b⟩ d = R at *
    refine ⟨_, rfl, fun a27 K27 => ?_⟩
    clear K26
    refine lnc K27 rfl rfl (want_none rfl) rfl rfl (fun a28 K28 => ?_)
    clear K27
    refine lfa K28 rfl rfl (want_none rfl) rfl rfl FA75_6 (fun a29 K29 => ?_)
    clear K28
    obtain ⟨_, _, _, _, _, _, s6, s7, s8, s9, _, _, _, _⟩ := (unhide PH).slot ht
    obtain ⟨_, _, _, _, _, _, f6, f7, f8, f9, _, _, _, _⟩ := (unhide PH).soft ht
    rw [upd_same] at s6 s7 s8 s9
    dsimp only at s6 s7 s8 s9
    refine lstore (w' := (((W2.setCell ⟨g, t * 14 + 6, none⟩ (.int .i64 R.c)).setCell ⟨g, t * 14 + 7, none⟩ (.int .i64 R.s)).setCell ⟨g, t * 14 + 8, none⟩ (.int .i64 R.a)).setCell ⟨g, t * 14 + 9, none⟩ (.int .i64 R.b)) K29 rfl (want_none rfl) (fun ev E => ?_) ?_
    · have E30 := E.tmp 30 _ rfl; have E32 := E.tmp 32 _ rfl; clear E; clear PH KP; (try clear HB); go_simp
    clear s6 s7 s8 s9 f6 f7 f8 f9
    have hR : R = lf (S t).sm d := hr.symm
    clear hr
    have P3 := ((((unhide PH).put (t := t) ht 6 (by omega) { S t with wt := addV (S t).wt d, sm := { (S t).sm with c := R.c } } (.int .i64 R.c) (by rw [upd_same]; rfl)).put (t := t) ht 7 (by omega) { S t with wt := addV (S t).wt d, sm := { (S t).sm with c := R.c, s := R.s } } (.int .i64 R.s) (by rw [upd_same]; rfl)).put (t := t) ht 8 (by omega) { S t with wt := addV (S t).wt d, sm := { (S t).sm with c := R.c, s := R.s, a := R.a } } (.int .i64 R.a) (by rw [upd_same]; rfl)).put (t := t) ht 9 (by omega) { S t with wt := addV (S t).wt d, sm := R } (.int .i64 R.b) (by rw [upd_same]; rfl)
    have Q3 := ((((unhide KP).cellB (t * 14 + 6) (.int .i64 R.c)).cellB (t * 14 + 7) (.int .i64 R.s)).cellB (t * 14 + 8) (.int .i64 R.a)).cellB (t * 14 + 9) (.int .i64 R.b)
    rw [hR] at P3 Q3 ⊢
    have hE : ∀ (T : Ss) (x : Sl), (∀ j, j ≠ t → T j = S j) → upd T t x = upd S t x := fun T x hT => by
      funext j
      by_cases hj : j = t
      · subst hj; simp [upd]
      · simp [upd, hj, hT j hj]
    rw [hE _ _ (fun j hj => by simp [upd, hj])] at P3
    clear PH KP
    have PH := hide P3
    have KP := hide Q3
    clear P3 Q3 hR
    generalize (((W2.setCell ⟨g, t * 14 + 6, none⟩ (.int .i64 (lf (S t).sm d).c)).setCell ⟨g, t * 14 + 7, none⟩ (.int .i64 (lf (S t).sm d).s)).setCell ⟨g, t * 14 + 8, none⟩ (.int .i64 (lf (S t).sm d).a)).setCell ⟨g, t * 14 + 9, none⟩ (.int .i64 (lf (S t).sm d).b) = W3 at *
    refine nilN ?_
    have K31 : Kn _ 47 [(2, .int .i64 d), (6, .pointer (some ⟨g, t * 14, none⟩))] := K29.less ⟨rfl, rfl, trivial⟩
    clear K29
    by_cases hc : 1 < (S t).sm.c
    · refine seqR ?_
      refine lmv K31 rfl rfl (want_none rfl) rfl rfl (fun a32 K32 => ?_)
      clear K31
      refine lnc K32 rfl rfl (want_none rfl) rfl rfl (fun a33 K33 => ?_)
      clear K32
      refine lfa K33 rfl rfl (want_none rfl) rfl rfl FA75_6 (fun a34 K34 => ?_)
      clear K33
      refine lfa K34 rfl rfl (want_none rfl) rfl rfl FA34_0 (fun a35 K35 => ?_)
      clear K34
      refine ltake (v := .int .i64 (S t).sm.c) (w' := W3) K35 rfl rfl (want_none rfl) (fun ev E => ?_) (fun a36 K36 => ?_)
      · obtain ⟨_, _, _, _, _, _, s6, _, _, _, _, _, _, _⟩ := (unhide PH).slot ht; rw [upd_same] at s6; dsimp only at s6; rw [lf_c] at s6; have E36 := E.tmp 36 _ rfl; clear E; clear PH KP HB hE; go_simp
      clear K35
      refine ltake (v := .bool true) (w' := W3) K36 rfl rfl (want_none rfl) (fun ev E => ?_) (fun a37 K37 => ?_)
      · have EC := E.const; have E37 := E.tmp 37 _ rfl; clear E; clear PH KP HB hE; go_simp
      clear K36
      refine nilN ?_
      refine knCond (b := true) K37 rfl ?_
      refine wp_region_lit ?_
      have wr1 : IntKind.i64.wrap ((S t).wa + d) = (S t).wa + d := IntWalk.i64_in _ (by have := (unhide HB).w; omega)
      obtain ⟨_, _, _, _, _, s5, _, _, _, _, _, _, _, _⟩ := (unhide PH).slot ht
      obtain ⟨_, _, _, _, _, f5, _, _, _, _, _, _, _, _⟩ := (unhide PH).soft ht
      rw [upd_same] at s5
      dsimp only at s5
      refine lmv K37 rfl rfl (want_none rfl) rfl rfl (fun a38 K38 => ?_)
      clear K37
      refine lnc K38 rfl rfl (want_none rfl) rfl rfl (fun a39 K39 => ?_)
      clear K38
      refine lfa K39 rfl rfl (want_none rfl) rfl rfl FA75_5 (fun a40 K40 => ?_)
      clear K39
      refine ltake (v := .int .i64 (S t).wa) (w' := W3) K40 rfl rfl (want_none rfl) (fun ev E => ?_) (fun a41 K41 => ?_)
      · have E41 := E.tmp 41 _ rfl; clear E; clear PH KP HB hE; go_simp
      clear K40
      refine lmv K41 rfl rfl (want_none rfl) rfl rfl (fun a42 K42 => ?_)
      clear K41
      refine ltake (v := .int .i64 ((S t).wa + d)) (w' := W3) K42 rfl rfl (want_none rfl) (fun ev E => ?_) (fun a43 K43 => ?_)
      · have E42 := E.tmp 42 _ rfl; have E43 := E.tmp 43 _ rfl; clear E; clear PH KP HB hE; go_simp
      clear K42
      refine lnc K43 rfl rfl (want_none rfl) rfl rfl (fun a44 K44 => ?_)
      clear K43
      refine lfa K44 rfl rfl (want_none rfl) rfl rfl FA75_5 (fun a45 K45 => ?_)
      clear K44
      refine lstore (w' := W3.setCell ⟨g, t * 14 + 5, none⟩ (.int .i64 ((S t).wa + d))) K45 rfl (want_none rfl) (fun ev E => ?_) ?_
      · have E44 := E.tmp 44 _ rfl; have E46 := E.tmp 46 _ rfl; clear E; clear PH KP HB hE; go_simp
      refine wpList_nil ?_
      have P4 := (unhide PH).put (t := t) ht 5 (by omega) { S t with wt := addV (S t).wt d, wa := (S t).wa + d, sm := lf (S t).sm d } (.int .i64 ((S t).wa + d)) (by rw [upd_same]; rfl)
      rw [hE _ _ (fun j hj => by simp [upd, hj])] at P4
      refine ⟨K45.defers, .tuple #[], results_none rfl _ _ _, rfl, ?_, (unhide KP).cellB _ _⟩
      rw [raiseS, if_neg h0, if_pos hc]
      exact P4
    · refine seqR ?_
      refine lmv K31 rfl rfl (want_none rfl) rfl rfl (fun a32 K32 => ?_)
      clear K31
      refine lnc K32 rfl rfl (want_none rfl) rfl rfl (fun a33 K33 => ?_)
      clear K32
      refine lfa K33 rfl rfl (want_none rfl) rfl rfl FA75_6 (fun a34 K34 => ?_)
      clear K33
      refine lfa K34 rfl rfl (want_none rfl) rfl rfl FA34_0 (fun a35 K35 => ?_)
      clear K34
      refine ltake (v := .int .i64 (S t).sm.c) (w' := W3) K35 rfl rfl (want_none rfl) (fun ev E => ?_) (fun a36 K36 => ?_)
      · obtain ⟨_, _, _, _, _, _, s6, _, _, _, _, _, _, _⟩ := (unhide PH).slot ht; rw [upd_same] at s6; dsimp only at s6; rw [lf_c] at s6; have E36 := E.tmp 36 _ rfl; clear E; clear PH KP HB hE; go_simp
      clear K35
      refine ltake (v := .bool false) (w' := W3) K36 rfl rfl (want_none rfl) (fun ev E => ?_) (fun a37 K37 => ?_)
      · have EC := E.const; have E37 := E.tmp 37 _ rfl; clear E; clear PH KP HB hE; go_simp
      clear K36
      refine nilN ?_
      refine knCond (b := false) K37 rfl (wp_skip ?_)
      refine ⟨K37.defers, .tuple #[], results_none rfl _ _ _, rfl, ?_, unhide KP⟩
      rw [raiseS, if_neg h0, if_neg hc]
      exact unhide PH
end Go.Proofs.Ytjnkgakajenoaaa
/- The program's forest: what waits at a slot is handed on. -/

namespace Go.Proofs.Ytjnkgakajenoaaa
open Go.RowKit Go.Arb
set_option linter.unusedVariables false
set_option linter.unusedSimpArgs false
set_option maxRecDepth 100000

theorem turnS_ne (S : Ss) {t u : Nat} (h : u ≠ t) : turnS S t u = S u := by unfold turnS; split <;> simp [upd, h]
theorem raiseS_ne (S : Ss) {t u : Nat} (d : Int) (h : u ≠ t) : raiseS S t d u = S u := by unfold raiseS; split <;> simp [upd, h]
def settleT (S : Ss) (t : Nat) : Ss := if (S t).tn then turnS (turnS (upd S t { S t with tn := false }) (S t).l) (S t).r else S
def settleW (S : Ss) (t : Nat) : Ss := if (S t).wa = 0 then S else raiseS (raiseS (upd S t { S t with wa := 0 }) (S t).l (S t).wa) (S t).r (S t).wa
def settleS (S : Ss) (t : Nat) : Ss := settleW (settleT S t) t
theorem settleT_same (S : Ss) {t : Nat} (hl : (S t).l ≠ t) (hr : (S t).r ≠ t) : settleT S t t = { S t with tn := false } := by
  unfold settleT
  split
  · rw [turnS_ne _ (fun e => hr e.symm), turnS_ne _ (fun e => hl e.symm), upd_same]
  · rename_i h
    have : (S t).tn = false := by simpa using h
    rw [← this]
set_option maxHeartbeats 4000000 in
theorem t88 {p g n cap room t : Nat} {S : Ss} {Q : Exit → Act → World → Prop} {a0 : Act} {w0 w : World} (K0 : Kn a0 57 [(0, .pointer (some ⟨p, 0, none⟩)), (4, .pointer (some ⟨g, t * 14, none⟩)), (15, .bool (S t).tn)]) (h : Pool w p g n cap room S) (hk : Keep [g] w0 w) (ht : t < n) (hl : (S t).l < n) (hr : (S t).r < n) (hlt : (S t).l ≠ t) (hrt : (S t).r ≠ t) 
    (hN : ∀ a' W, Kn a' 57 [(0, .pointer (some ⟨p, 0, none⟩)), (4, .pointer (some ⟨g, t * 14, none⟩))] → Pool W p g n cap room (settleT S t) → Keep [g] w0 W → Q .normal a' W) : (Code.cond (Operand.tmp 15) (Code.seq (Code.region 2 (rg [1, 0, 1, 0, 0] Try.f88).toArray false) (Code.seq (Code.region 3 (rg [1, 0, 1, 0, 1, 0] Try.f88).toArray false) (Code.region 4 (rg [1, 0, 1, 0, 1, 1] Try.f88).toArray false))) Code.skip).wp Try.prog Q a0 w := by
  have PH := hide h
  have KP := hide hk
  clear h hk
  cases htn : (S t).tn
  · rw [htn] at K0
    refine knCond (b := false) K0 rfl (wp_skip (hN _ _ (K0.less ⟨rfl, rfl, trivial⟩) ?_ (unhide KP)))
    rw [settleT, htn]
    exact unhide PH
  · rw [htn] at K0
    refine knCond (b := true) K0 rfl ?_
    refine seqR ?_
    refine lmv K0 rfl rfl (want_none rfl) rfl rfl (fun a1 K1 => ?_)
    refine lnc K1 rfl rfl (want_none rfl) rfl rfl (fun a2 K2 => ?_)
    clear K1
    refine lfa K2 rfl rfl (want_none rfl) rfl rfl FA75_3 (fun a3 K3 => ?_)
    clear K2
    obtain ⟨_, _, _, sk, _, _, _, _, _, _, _, _, _, _⟩ := (unhide PH).slot ht
    obtain ⟨_, _, _, fk, _, _, _, _, _, _, _, _, _, _⟩ := (unhide PH).soft ht
    refine lstore (w' := w.setCell ⟨g, t * 14 + 3, none⟩ (.bool false)) K3 rfl (want_none rfl) (fun ev E => ?_) ?_
    · have EC := E.const; have E18 := E.tmp 18 _ rfl; clear E; clear PH KP hN; go_simp
    clear sk fk
    have P1 := (unhide PH).put (t := t) ht 3 (by omega) { S t with tn := false } (.bool false) rfl
    have Q1 := (unhide KP).cellB (t * 14 + 3) (.bool false)
    clear PH KP
    have PH := hide P1
    have KP := hide Q1
    clear P1 Q1
    generalize w.setCell ⟨g, t * 14 + 3, none⟩ (.bool false) = W1 at *
    refine nilN ?_
    refine seqR ?_
    obtain ⟨_, sk, _, _, _, _, _, _, _, _, _, _, _, _⟩ := (unhide PH).slot ht
    rw [upd_same] at sk
    dsimp only at sk
    refine lmv K3 rfl rfl (want_none rfl) rfl rfl (fun a5 K5 => ?_)
    clear K3
    refine lmv K5 rfl rfl (want_none rfl) rfl rfl (fun a6 K6 => ?_)
    clear K5
    refine lnc K6 rfl rfl (want_none rfl) rfl rfl (fun a7 K7 => ?_)
    clear K6
    refine lfa K7 rfl rfl (want_none rfl) rfl rfl FA75_1 (fun a8 K8 => ?_)
    clear K7
    refine ltake (v := .int .i64 ((S t).l : Int)) (w' := W1) K8 rfl rfl (want_none rfl) (fun ev E => ?_) (fun a9 K9 => ?_)
    · have E22 := E.tmp 22 _ rfl; clear E; clear PH KP hN; go_simp
    clear K8
    refine lcall (f := 62) (args := #[.pointer (some ⟨p, 0, none⟩), .int .i64 ((S t).l : Int)]) K9 rfl rfl (want_none rfl) (fun ev E => ?_) (turn_any (unhide PH) hl) (fun e W2 hR => ?_)
    · have EF := E.func; have E19 := E.tmp 19 _ rfl; have E23 := E.tmp 23 _ rfl; clear E; clear PH KP hN; go_simp
    obtain ⟨rfl, P1, Q1⟩ := hR
    clear PH sk
    have PH := hide P1
    have Q2 := hide ((unhide KP).tr Q1)
    clear KP P1 Q1
    have KP := Q2
    clear Q2
    refine ⟨_, rfl, fun a10 K10 => ?_⟩
    clear K9
    refine nilN ?_
    refine wp_region_lit ?_
    obtain ⟨_, _, sk, _, _, _, _, _, _, _, _, _, _, _⟩ := (unhide PH).slot ht
    rw [turnS_ne _ (fun e => hlt e.symm), upd_same] at sk
    dsimp only at sk
    refine lmv K10 rfl rfl (want_none rfl) rfl rfl (fun a11 K11 => ?_)
    clear K10
    refine lmv K11 rfl rfl (want_none rfl) rfl rfl (fun a12 K12 => ?_)
    clear K11
    refine lnc K12 rfl rfl (want_none rfl) rfl rfl (fun a13 K13 => ?_)
    clear K12
    refine lfa K13 rfl rfl (want_none rfl) rfl rfl FA75_2 (fun a14 K14 => ?_)
    clear K13
    refine ltake (v := .int .i64 ((S t).r : Int)) (w' := W2) K14 rfl rfl (want_none rfl) (fun ev E => ?_) (fun a15 K15 => ?_)
    · have E28 := E.tmp 28 _ rfl; clear E; clear PH KP hN; go_simp
    clear K14
    refine lcall (f := 62) (args := #[.pointer (some ⟨p, 0, none⟩), .int .i64 ((S t).r : Int)]) K15 rfl rfl (want_none rfl) (fun ev E => ?_) (turn_any (unhide PH) hr) (fun e W3 hR => ?_)
    · have EF := E.func; have E25 := E.tmp 25 _ rfl; have E29 := E.tmp 29 _ rfl; clear E; clear PH KP hN; go_simp
    obtain ⟨rfl, P1, Q1⟩ := hR
    clear PH sk
    have PH := hide P1
    have Q2 := hide ((unhide KP).tr Q1)
    clear KP P1 Q1
    have KP := Q2
    clear Q2
    refine ⟨_, rfl, fun a16 K16 => ?_⟩
    clear K15
    refine wpList_nil ?_
    refine hN _ _ (K16.less ⟨rfl, rfl, trivial⟩) ?_ (unhide KP)
    rw [settleT, htn, if_pos rfl]
    exact unhide PH
set_option maxHeartbeats 4000000 in
theorem w88 {p g n cap room t : Nat} {S : Ss} {Q : Exit → Act → World → Prop} {a0 : Act} {w0 w : World} (K0 : Kn a0 57 [(0, .pointer (some ⟨p, 0, none⟩)), (4, .pointer (some ⟨g, t * 14, none⟩)), (35, .bool (!decide ((S t).wa = 0)))]) (h : Pool w p g n cap room S) (hk : Keep [g] w0 w) (ht : t < n) (hl : (S t).l < n) (hr : (S t).r < n) (hlt : (S t).l ≠ t) (hrt : (S t).r ≠ t) (hb1 : (S t).wa ≠ 0 → (S t).l ≠ 0 → Rbd (upd S t { S t with wa := 0 } (S t).l) (S t).wa) (hb2 : (S t).wa ≠ 0 → (S t).r ≠ 0 → Rbd (raiseS (upd S t { S t with wa := 0 }) (S t).l (S t).wa (S t).r) (S t).wa)
    (hN : ∀ a' W, Kn a' 57 [(0, .pointer (some ⟨p, 0, none⟩)), (4, .pointer (some ⟨g, t * 14, none⟩))] → Pool W p g n cap room (settleW S t) → Keep [g] w0 W → Q .normal a' W) : (Code.cond (Operand.tmp 35) (Code.seq (Code.region 6 (rg [1, 1, 1, 0, 0] Try.f88).toArray false) (Code.seq (Code.region 7 (rg [1, 1, 1, 0, 1, 0] Try.f88).toArray false) (Code.seq (Code.region 8 (rg [1, 1, 1, 0, 1, 1, 0] Try.f88).toArray false) (Code.region 9 (rg [1, 1, 1, 0, 1, 1, 1] Try.f88).toArray false)))) Code.skip).wp Try.prog Q a0 w := by
  have PH := hide h
  have KP := hide hk
  clear h hk
  by_cases hwa : (S t).wa = 0
  · rw [show (!decide ((S t).wa = 0)) = false from by simp [hwa]] at K0
    refine knCond (b := false) K0 rfl (wp_skip (hN _ _ (K0.less ⟨rfl, rfl, trivial⟩) ?_ (unhide KP)))
    rw [settleW, if_pos hwa]
    exact unhide PH
  · rw [show (!decide ((S t).wa = 0)) = true from by simp [hwa]] at K0
    refine knCond (b := true) K0 rfl ?_
    have HB := hide (And.intro (hb1 hwa) (hb2 hwa))
    clear hb1 hb2
    refine seqR ?_
    refine lmv K0 rfl rfl (want_none rfl) rfl rfl (fun a1 K1 => ?_)
    refine lnc K1 rfl rfl (want_none rfl) rfl rfl (fun a2 K2 => ?_)
    clear K1
    refine lfa K2 rfl rfl (want_none rfl) rfl rfl FA75_5 (fun a3 K3 => ?_)
    clear K2
    refine ltake (v := .int .i64 (S t).wa) (w' := w) K3 rfl rfl (want_none rfl) (fun ev E => ?_) (fun a4 K4 => ?_)
    · obtain ⟨s0, s1, s2, s3, s4, s5, s6, s7, s8, s9, s10, s11, s12, s13⟩ := (unhide PH).slot (t := t) (by assumption); have E38 := E.tmp 38 _ rfl; clear E; clear PH KP hN HB; go_simp
    clear K3
    refine las K4 rfl rfl (want_none rfl) rfl rfl (fun a5 K5 => ?_)
    clear K4
    refine nilN ?_
    refine seqR ?_
    refine lmv K5 rfl rfl (want_none rfl) rfl rfl (fun a6 K6 => ?_)
    clear K5
    refine lnc K6 rfl rfl (want_none rfl) rfl rfl (fun a7 K7 => ?_)
    clear K6
    refine lfa K7 rfl rfl (want_none rfl) rfl rfl FA75_5 (fun a8 K8 => ?_)
    clear K7
    obtain ⟨_, _, _, _, _, sk, _, _, _, _, _, _, _, _⟩ := (unhide PH).slot ht
    obtain ⟨_, _, _, _, _, fk, _, _, _, _, _, _, _, _⟩ := (unhide PH).soft ht
    refine lstore (w' := w.setCell ⟨g, t * 14 + 5, none⟩ (.int .i64 0)) K8 rfl (want_none rfl) (fun ev E => ?_) ?_
    · have EC := E.const; have E42 := E.tmp 42 _ rfl; clear E; clear PH KP hN HB; go_simp
    clear sk fk
    have P1 := (unhide PH).put (t := t) ht 5 (by omega) { S t with wa := 0 } (.int .i64 0) rfl
    have Q1 := (unhide KP).cellB (t * 14 + 5) (.int .i64 0)
    clear PH KP
    have PH := hide P1
    have KP := hide Q1
    clear P1 Q1
    generalize w.setCell ⟨g, t * 14 + 5, none⟩ (.int .i64 0) = W1 at *
    refine nilN ?_
    refine seqR ?_
    obtain ⟨_, sk, _, _, _, _, _, _, _, _, _, _, _, _⟩ := (unhide PH).slot ht
    rw [upd_same] at sk
    dsimp only at sk
    refine lmv K8 rfl rfl (want_none rfl) rfl rfl (fun a10 K10 => ?_)
    clear K8
    refine lmv K10 rfl rfl (want_none rfl) rfl rfl (fun a11 K11 => ?_)
    clear K10
    refine lnc K11 rfl rfl (want_none rfl) rfl rfl (fun a12 K12 => ?_)
    clear K11
    refine lfa K12 rfl rfl (want_none rfl) rfl rfl FA75_1 (fun a13 K13 => ?_)
    clear K12
    refine ltake (v := .int .i64 ((S t).l : Int)) (w' := W1) K13 rfl rfl (want_none rfl) (fun ev E => ?_) (fun a14 K14 => ?_)
    · have E46 := E.tmp 46 _ rfl; clear E; clear PH KP hN HB; go_simp
    clear K13
    refine lmv K14 rfl rfl (want_none rfl) rfl rfl (fun a15 K15 => ?_)
    clear K14
    refine lcall (f := 66) (args := #[.pointer (some ⟨p, 0, none⟩), .int .i64 ((S t).l : Int), .int .i64 (S t).wa]) K15 rfl rfl (want_none rfl) (fun ev E => ?_) (raise_any (unhide PH) hl (unhide HB).1) (fun e W2 hR => ?_)
    · have EF := E.func; have E43 := E.tmp 43 _ rfl; have E47 := E.tmp 47 _ rfl; have E48 := E.tmp 48 _ rfl; clear E; clear PH KP hN HB; go_simp
    obtain ⟨rfl, P1, Q1⟩ := hR
    clear PH sk
    have PH := hide P1
    have Q2 := hide ((unhide KP).tr Q1)
    clear KP P1 Q1
    have KP := Q2
    clear Q2
    refine ⟨_, rfl, fun a16 K16 => ?_⟩
    clear K15
    refine nilN ?_
    refine wp_region_lit ?_
    obtain ⟨_, _, sk, _, _, _, _, _, _, _, _, _, _, _⟩ := (unhide PH).slot ht
    rw [raiseS_ne _ _ (fun e => hlt e.symm), upd_same] at sk
    dsimp only at sk
    refine lmv K16 rfl rfl (want_none rfl) rfl rfl (fun a17 K17 => ?_)
    clear K16
    refine lmv K17 rfl rfl (want_none rfl) rfl rfl (fun a18 K18 => ?_)
    clear K17
    refine lnc K18 rfl rfl (want_none rfl) rfl rfl (fun a19 K19 => ?_)
    clear K18
    refine lfa K19 rfl rfl (want_none rfl) rfl rfl FA75_2 (fun a20 K20 => ?_)
    clear K19
    refine ltake (v := .int .i64 ((S t).r : Int)) (w' := W2) K20 rfl rfl (want_none rfl) (fun ev E => ?_) (fun a21 K21 => ?_)
    · have E53 := E.tmp 53 _ rfl; clear E; clear PH KP hN HB; go_simp
    clear K20
    refine lmv K21 rfl rfl (want_none rfl) rfl rfl (fun a22 K22 => ?_)
    clear K21
    refine lcall (f := 66) (args := #[.pointer (some ⟨p, 0, none⟩), .int .i64 ((S t).r : Int), .int .i64 (S t).wa]) K22 rfl rfl (want_none rfl) (fun ev E => ?_) (raise_any (unhide PH) hr (unhide HB).2) (fun e W3 hR => ?_)
    · have EF := E.func; have E50 := E.tmp 50 _ rfl; have E54 := E.tmp 54 _ rfl; have E55 := E.tmp 55 _ rfl; clear E; clear PH KP hN HB; go_simp
    obtain ⟨rfl, P1, Q1⟩ := hR
    clear PH sk
    have PH := hide P1
    have Q2 := hide ((unhide KP).tr Q1)
    clear KP P1 Q1
    have KP := Q2
    clear Q2
    refine ⟨_, rfl, fun a23 K23 => ?_⟩
    clear K22
    refine wpList_nil ?_
    refine hN _ _ (K23.less ⟨rfl, rfl, trivial⟩) ?_ (unhide KP)
    rw [settleW, if_neg hwa]
    exact unhide PH
end Go.Proofs.Ytjnkgakajenoaaa

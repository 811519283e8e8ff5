/- What a nil pool answers; Check. -/
import Derived.Test.YtbkneonbpcmepaaG
import Derived.Test.YtbkneonbpcmepaaQH
namespace Go.Proofs.Ytbkneonbpcmepaa
open Go.RowKit Go.Arb
set_option linter.unusedVariables false
set_option linter.unusedSimpArgs false

set_option maxHeartbeats 400000 in
theorem check_nil (w : World) : Calls Try.prog 41 #[.pointer none] w fun e w' => e = .returned (.bool false) ∧ Below w.heap.size w w' := by
  go_enter Try.func41, Try.ntmps41
  go_wp2_with fail
  go_quiet (fail)
  go_wp2
  go_ret
  exact ⟨rfl, below_drewN (Below.refl _ _) _⟩
theorem aCheck {w : World} {p : Nat} {A : Se} {ks : List Nat} (h : At w p A ks) : Calls Try.prog 41 #[.pointer (some ⟨p, 0, none⟩)] w fun e w' => e = .returned (.bool true) ∧ ∃ ks', At w' p A ks' ∧ Keep ks w w' ∧ Grew w ks ks' := by
  obtain ⟨v, xs, ad, F, h1, rfl⟩ := id h
  refine (check_any h1).mono ?_
  rintro e w' ⟨rfl, hb⟩; exact ⟨rfl, h.stays hb⟩
theorem nRange (a b : Int) (w : World) : Calls Try.prog 25 #[.pointer none, .int .i64 a, .int .i64 b] w fun e w' => e = .returned (.tuple #[smV zero, .bool false]) ∧ Below w.heap.size w w' := (range_nil a b w)
theorem nGet (x : Int) (w : World) : Calls Try.prog 27 #[.pointer none, .int .i64 x] w fun e w' => e = .returned (.tuple #[.int .i64 0, .bool false]) ∧ Below w.heap.size w w' := (get_nil x w).mono fun e w' h => ⟨h.1, h.2 ▸ Below.refl _ _⟩
theorem nHas (x : Int) (w : World) : Calls Try.prog 29 #[.pointer none, .int .i64 x] w fun e w' => e = .returned (.bool false) ∧ Below w.heap.size w w' := (has_nil x w).mono fun e w' h => ⟨h.1, h.2 ▸ Below.refl _ _⟩
theorem nAdd (x y : Int) (w : World) : Calls Try.prog 13 #[.pointer none, .int .i64 x, .int .i64 y] w fun e w' => e = .returned (.bool false) ∧ Below w.heap.size w w' := (padd_nil x y w).mono fun e w' h => ⟨h.1, h.2 ▸ Below.refl _ _⟩
theorem nDrop (x : Int) (w : World) : Calls Try.prog 15 #[.pointer none, .int .i64 x] w fun e w' => e = .returned (.bool false) ∧ Below w.heap.size w w' := (pdrop_nil x w)
theorem nLen (x : Int) (w : World) : Calls Try.prog 31 #[.pointer none, .int .i64 x] w fun e w' => e = .returned (.int .i64 0) ∧ Below w.heap.size w w' := (len_nil x w)
theorem nRank (x : Int) (w : World) : Calls Try.prog 33 #[.pointer none, .int .i64 x] w fun e w' => e = .returned (.int .i64 (-1)) ∧ Below w.heap.size w w' := (rank_nil x w).mono fun e w' h => ⟨h.1, h.2 ▸ Below.refl _ _⟩
theorem nAt (x k : Int) (w : World) : Calls Try.prog 35 #[.pointer none, .int .i64 x, .int .i64 k] w fun e w' => e = .returned (.int .i64 (-1)) ∧ Below w.heap.size w w' := (at_nil x k w)
theorem nSame (a b : Int) (w : World) : Calls Try.prog 37 #[.pointer none, .int .i64 a, .int .i64 b] w fun e w' => e = .returned (.bool false) ∧ Below w.heap.size w w' := (same_nil a b w).mono fun e w' h => ⟨h.1, by obtain ⟨q, hq⟩ := h.2; rw [hq]; exact below_drewN (Below.refl _ _) q⟩
theorem nBefore (x : Int) (w : World) : Calls Try.prog 17 #[.pointer none, .int .i64 x] w fun e w' => e = .returned (.bool false) ∧ Below w.heap.size w w' := (before_nil x w).mono fun e w' h => ⟨h.1, h.2 ▸ Below.refl _ _⟩
theorem nJoin (a b : Int) (w : World) : Calls Try.prog 19 #[.pointer none, .int .i64 a, .int .i64 b] w fun e w' => e = .returned (.bool false) ∧ Below w.heap.size w w' := (pjoin_nil a b w).mono fun e w' h => ⟨h.1, h.2 ▸ Below.refl _ _⟩
theorem nSet (x y : Int) (w : World) : Calls Try.prog 21 #[.pointer none, .int .i64 x, .int .i64 y] w fun e w' => e = .returned (.bool false) ∧ Below w.heap.size w w' := (pset_nil x y w).mono fun e w' h => ⟨h.1, h.2 ▸ Below.refl _ _⟩
theorem nLift (a b d : Int) (w : World) : Calls Try.prog 23 #[.pointer none, .int .i64 a, .int .i64 b, .int .i64 d] w fun e w' => e = .returned (.bool false) ∧ Below w.heap.size w w' := plift_nil a b d w
theorem nCheck (w : World) : Calls Try.prog 41 #[.pointer none] w fun e w' => e = .returned (.bool false) ∧ Below w.heap.size w w' := check_nil w
theorem nNew (n : Int) (w : World) (h : n < 0 ∨ 4194304 < n) : Calls Try.prog 11 #[.int .i64 n] w fun e w' => e = .returned (.pointer none) ∧ Below w.heap.size w w' := (pnew_no n w h).mono fun e w' h => ⟨h.1, h.2 ▸ Below.refl _ _⟩
end Go.Proofs.Ytbkneonbpcmepaa

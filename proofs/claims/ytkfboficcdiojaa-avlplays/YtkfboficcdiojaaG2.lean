/- Check of the program's pool; what a nil pool answers. -/
import Derived.Test.YtkfboficcdiojaaG
import Derived.Test.YtkfboficcdiojaaD16
import Derived.Test.YtkfboficcdiojaaD17
import Derived.Test.YtkfboficcdiojaaD18
namespace Go.Proofs.Ytkfboficcdiojaa
open Go.RowKit Go.Arb
set_option linter.unusedVariables false
set_option linter.unusedSimpArgs false

section
variable {w w' : World} {p g n cap : Nat} {S : Ss} {A : Se} {ks : List Nat}
theorem PA.looks (h : PA w p g n cap S A) : Looks p g n cap A.n S := by
  refine ⟨fun W t hP ht h0 => ?_, fun W t hP ht h0 => ?_, fun W t hP ht h0 => ?_, fun t h0 => ?_⟩
  · obtain ⟨xl, xr, xs, nb⟩ := h.nb h0
    exact (linksFit_any t xl xr xs hP nb ht).mono fun e w' q => ⟨q.1, hP.below q.2, Keep.ofBelow q.2 _⟩
  · obtain ⟨xl, xr, xs, nb⟩ := h.nb h0
    exact treeFits_any t xl xr xs hP nb ht
  · obtain ⟨xl, xr, xs, nb⟩ := h.nb h0
    exact (sumFits_any t xl xr xs hP nb ht).mono fun e w' q => ⟨q.1, hP.below q.2, Keep.ofBelow q.2 _⟩
  · refine h.iv.out t fun v hv e => ?_
    have := h.iv.there hv
    rw [e] at this
    exact this h0
set_option maxRecDepth 100000 in
set_option maxHeartbeats 4000000 in
theorem check_any (h : PA w p g n cap S A) : Calls Try.prog 41 #[.pointer (some ⟨p, 0, none⟩)] w fun e w' => e = .returned (.bool true) ∧ Pool w' p g n cap A.n S ∧ Keep [g] w w' := by
  have H := hide h
  have hn : n ≤ 4194305 := by have := h.nn; have := h.iv.n; omega
  clear h
  go_enter Try.func41, Try.ntmps41
  go_wp2_with fail
  refine (listFits_any (unhide H)).mono ?_
  rintro e w1 ⟨rfl, hb⟩
  have P1 := hide (And.intro ((unhide H).po.below hb) (Keep.ofBelow hb [g]))
  have LO := hide (unhide H).looks
  clear hb H
  go_wp2_with fail
  refine (slotsFit_any (unhide P1).1 (unhide LO) hn).mono ?_
  rintro e w2 ⟨rfl, hP, hK⟩
  have P2 := hide (And.intro hP ((unhide P1).2.tr hK))
  clear hP hK P1
  go_wp2
  go_ret
  exact ⟨rfl, unhide P2⟩
set_option maxHeartbeats 400000 in
theorem check_nil (w : World) : Calls Try.prog 41 #[.pointer none] w fun e w' => e = .returned (.bool false) ∧ w = w' := by
  go_enter Try.func41, Try.ntmps41
  go_wp2
  go_ret
  exact ⟨rfl, rfl⟩
theorem aCheck (h : At w p A ks) : Calls Try.prog 41 #[.pointer (some ⟨p, 0, none⟩)] w fun e w' => e = .returned (.bool true) ∧ ∃ ks', At w' p A ks' ∧ Keep ks w w' ∧ Grew w ks ks' := by
  obtain ⟨g, n, cap, S, h1, rfl⟩ := id h
  refine (check_any h1).mono ?_
  rintro e w' ⟨rfl, hP, hK⟩
  have hK2 : Keep [p, g] w w' := hK.mono (by simp)
  exact ⟨rfl, [p, g], ⟨g, n, cap, S, ⟨hP, h1.iv, h1.n0, h1.nn⟩, rfl⟩, hK2, Grew.refl _ _⟩
end
theorem nRange (a b : Int) (w : World) : Calls Try.prog 25 #[.pointer none, .int .i64 a, .int .i64 b] w fun e w' => e = .returned (.tuple #[smV zero, .bool false]) ∧ Below w.heap.size w w' := (range_nil a b w)
theorem nGet (x : Int) (w : World) : Calls Try.prog 27 #[.pointer none, .int .i64 x] w fun e w' => e = .returned (.tuple #[.int .i64 0, .bool false]) ∧ Below w.heap.size w w' := (get_nil x w).mono fun e w' h => ⟨h.1, h.2 ▸ Below.refl _ _⟩
theorem nHas (x : Int) (w : World) : Calls Try.prog 29 #[.pointer none, .int .i64 x] w fun e w' => e = .returned (.bool false) ∧ Below w.heap.size w w' := (has_nil x w).mono fun e w' h => ⟨h.1, h.2 ▸ Below.refl _ _⟩
theorem nAdd (x y : Int) (w : World) : Calls Try.prog 13 #[.pointer none, .int .i64 x, .int .i64 y] w fun e w' => e = .returned (.bool false) ∧ Below w.heap.size w w' := (padd_nil x y w).mono fun e w' h => ⟨h.1, h.2 ▸ Below.refl _ _⟩
theorem nDrop (x : Int) (w : World) : Calls Try.prog 15 #[.pointer none, .int .i64 x] w fun e w' => e = .returned (.bool false) ∧ Below w.heap.size w w' := (pdrop_nil x w)
theorem nLen (x : Int) (w : World) : Calls Try.prog 31 #[.pointer none, .int .i64 x] w fun e w' => e = .returned (.int .i64 0) ∧ Below w.heap.size w w' := (len_nil x w)
theorem nRank (x : Int) (w : World) : Calls Try.prog 33 #[.pointer none, .int .i64 x] w fun e w' => e = .returned (.int .i64 (-1)) ∧ Below w.heap.size w w' := (rank_nil x w).mono fun e w' h => ⟨h.1, h.2 ▸ Below.refl _ _⟩
theorem nAt (x k : Int) (w : World) : Calls Try.prog 35 #[.pointer none, .int .i64 x, .int .i64 k] w fun e w' => e = .returned (.int .i64 (-1)) ∧ Below w.heap.size w w' := (at_nil x k w)
theorem nSame (a b : Int) (w : World) : Calls Try.prog 37 #[.pointer none, .int .i64 a, .int .i64 b] w fun e w' => e = .returned (.bool false) ∧ Below w.heap.size w w' := (same_nil a b w).mono fun e w' h => ⟨h.1, h.2 ▸ Below.refl _ _⟩
theorem nBefore (x : Int) (w : World) : Calls Try.prog 17 #[.pointer none, .int .i64 x] w fun e w' => e = .returned (.bool false) ∧ Below w.heap.size w w' := (before_nil x w).mono fun e w' h => ⟨h.1, h.2 ▸ Below.refl _ _⟩
theorem nJoin (a b : Int) (w : World) : Calls Try.prog 19 #[.pointer none, .int .i64 a, .int .i64 b] w fun e w' => e = .returned (.bool false) ∧ Below w.heap.size w w' := (pjoin_nil a b w).mono fun e w' h => ⟨h.1, h.2 ▸ Below.refl _ _⟩
theorem nSet (x y : Int) (w : World) : Calls Try.prog 21 #[.pointer none, .int .i64 x, .int .i64 y] w fun e w' => e = .returned (.bool false) ∧ Below w.heap.size w w' := (pset_nil x y w).mono fun e w' h => ⟨h.1, h.2 ▸ Below.refl _ _⟩
theorem nLift (a b d : Int) (w : World) : Calls Try.prog 23 #[.pointer none, .int .i64 a, .int .i64 b, .int .i64 d] w fun e w' => e = .returned (.bool false) ∧ Below w.heap.size w w' := (plift_nil a b d w).mono fun e w' h => ⟨h.1, h.2 ▸ Below.refl _ _⟩
theorem nCheck (w : World) : Calls Try.prog 41 #[.pointer none] w fun e w' => e = .returned (.bool false) ∧ Below w.heap.size w w' := (check_nil  w).mono fun e w' h => ⟨h.1, h.2 ▸ Below.refl _ _⟩
theorem nNew (n : Int) (w : World) (h : n < 0 ∨ 4194304 < n) : Calls Try.prog 11 #[.int .i64 n] w fun e w' => e = .returned (.pointer none) ∧ Below w.heap.size w w' := (pnew_no n w h).mono fun e w' h => ⟨h.1, h.2 ▸ Below.refl _ _⟩
end Go.Proofs.Ytkfboficcdiojaa

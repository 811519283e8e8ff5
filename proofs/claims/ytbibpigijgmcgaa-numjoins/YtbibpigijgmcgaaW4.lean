import Derived.Test.YtbibpigijgmcgaaW2
import Derived.Test.YtbibpigijgmcgaaW3
namespace Go.Proofs.Ytbibpigijgmcgaa
open Go.RowKit

theorem SumAt.alloc {w : World} {b : Nat} {x : Sm} (h : SumAt w b x) (hl : b < w.heap.size) (o : Obj) : SumAt (w.alloc o) b x :=
  h.below ((Below.refl _ _).alloc (Nat.le_refl _) o) hl

theorem of_two (w : World) :
    Calls Try.prog 15 #[.slice (some ⟨w.heap.size, 0, none⟩) 2 2] (w.alloc (.cells #[.int .i64 5, .int .i64 (-2)] 3)) fun r w' => r = .returned (.agg #[.int .i64 2, .int .i64 3, .int .i64 (-2), .int .i64 5]) ∧ Below (w.heap.size + 1) (w.alloc (.cells #[.int .i64 5, .int .i64 (-2)] 3)) w' := by
  have a8 : ofL [5, -2] = ⟨2, 3, -2, 5⟩ := by simp [ofL, jn, one, zero]; omega
  refine (of_any _ 2 2 [5, -2] _ rfl (by decide) (fun _ => ⟨_, _, rfl, by simp, fun i hi => ?_⟩) (by simp)).mono ?_
  · rcases i with _ | _ | i
    · simp [go_sem]
    · simp [go_sem]
    · omega
  · rintro e w' ⟨rfl, hb⟩
    rw [a8]
    exact ⟨rfl, by simpa using hb⟩

set_option maxHeartbeats 1000000 in
theorem awake_any (w : World) :
    Calls Try.prog 9 #[] w fun r w' => r = .returned (.bool true) ∧ Below w.heap.size w w' := by
  have a1 : addB 1099511627776 (-1) = true := by decide
  have a2 : addV 1099511627776 (-1) = 1099511627775 := by decide
  have a3 : addB 1099511627776 1 = false := by decide
  have a4 : fitB (-1099511627776) = true := by decide
  have a5 : fitB 1099511627777 = false := by decide
  have a6 : jn ⟨1, 5, 5, 5⟩ ⟨1, -2, -2, -2⟩ = ⟨2, 3, -2, 5⟩ := by simp [jn]; omega
  have a7 : lf ⟨2, 3, -2, 5⟩ 10 = ⟨2, 23, 8, 15⟩ := by simp [lf]
  go_enter Try.func9, Try.ntmps9
  go_wp2_with (first | (go_at_call 7; refine (add_any _ _ _).mono ?_; rintro e w' ⟨rfl, hw⟩; replace hw := hw.symm; subst hw))
  refine (one_any 5 _).mono ?_
  rintro e w1 ⟨rfl, hb1⟩
  go_wp2_with fail
  refine (one_any (-2) _).mono ?_
  rintro e w2 ⟨rfl, hb2⟩
  go_wp2_with fail
  refine (join_any _ _ _ _ _ _ _ _ _ (by omega) (by omega) (by omega) (by omega)).mono ?_
  rintro e w3 ⟨rfl, hb3⟩
  rw [a6]
  dsimp only
  have hB : Hid (Below w.heap.size w w3) := (hb1.trans (hb2.mono hb1.size)).trans (hb3.mono (Nat.le_trans hb1.size hb2.size))
  clear hb1 hb2 hb3 a6
  go_wp2_with fail
  generalize hW : w3.alloc (.cells #[.int .i64 2, .int .i64 3, .int .i64 (-2), .int .i64 5] 27) = W
  have hq : SumAt W w3.heap.size ⟨2, 3, -2, 5⟩ := by subst hW; simp [SumAt, go_sem]
  have hsz : w3.heap.size < W.heap.size := by subst hW; simp
  have hBW : Hid (Below w.heap.size w W) := by subst hW; exact hB.out.alloc hB.out.size _
  clear hB hW
  have HQ : Hid (SumAt W.drew w3.heap.size ⟨2, 3, -2, 5⟩) := hq
  obtain ⟨⟨q0, q1, q2, q3⟩, f0, f1, f2, f3⟩ := hq
  generalize w3.heap.size = B at *
  go_region_held3 (fun w' => w'.cell? ⟨B, 0, none⟩ = some (.int .i64 2) ∧ w'.cell? ⟨B, 1, none⟩ = some (.int .i64 3) ∧ w'.cell? ⟨B, 2, none⟩ = some (.int .i64 (-2)) ∧ w'.cell? ⟨B, 3, none⟩ = some (.int .i64 5) ∧ B < w'.heap.size)
    (simp [go_sem, *])
    (first | (go_at_call 10; refine (fits_any _ _).mono ?_; rintro e w' ⟨rfl, hw⟩; replace hw := hw.symm; subst hw) | (go_at_call 16; refine (lift_any _ _ _ _ _ _ (by omega) (by omega) (by omega) (by omega) (by omega) (by omega) (by omega) (by omega)).mono ?_; rintro e w4 ⟨rfl, hb4⟩; rw [a7]; have hz4 : B < w4.heap.size := Nat.lt_of_lt_of_le hsz hb4.size; have HQ4 : Hid (SumAt w4 B ⟨2, 3, -2, 5⟩) := SumAt.below (W := W.drew) HQ.out hb4 hsz; obtain ⟨⟨r0, r1, r2, r3⟩, _⟩ := HQ4.out) | (go_at_call 15; refine (of_two _).mono ?_; rintro e w5 ⟨rfl, hb5⟩; have hz5 : B < w5.heap.size := Nat.lt_of_lt_of_le hz4 (Nat.le_trans (by simp) hb5.size); obtain ⟨⟨s0, s1, s2, s3⟩, _⟩ := SumAt.below (HQ4.out.alloc hz4 _) (hb5.mono (by simp)) (Nat.lt_of_lt_of_le hz4 (by simp))))
  go_wp2
  go_ret
  refine ⟨rfl, ?_⟩
  have k1 := hBW.out
  have k2 : Below w.heap.size w w4 := (k1.drew).trans (hb4.mono k1.size)
  have k3 : Below w.heap.size w (w4.alloc (.cells #[.int .i64 5, .int .i64 (-2)] 3)) := k2.alloc k2.size _
  exact k3.trans (hb5.mono (Nat.le_trans k2.size (by simp)))
end Go.Proofs.Ytbibpigijgmcgaa

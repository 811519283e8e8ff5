import Derived.Test.YtbibpigijgmcgaaW4
namespace Go.Proofs.Ytbibpigijgmcgaa
open Go.RowKit

set_option maxHeartbeats 1000000 in
theorem numTells_walk (x n : Int) (w : World) :
    Calls Try.prog 3 #[.int .i64 x, .int .i64 n] w fun e w' => e = .returned (.bool true) ∧ Below w.heap.size w w' := by
  go_enter Try.func3, Try.ntmps3
  go_wp2_with (first | (go_at_call 7; refine (add_any _ _ _).mono ?_; rintro e w' ⟨rfl, hw⟩; replace hw := hw.symm; subst hw) | (go_at_call 8; refine (radd_any _ _ _).mono ?_; rintro e w' ⟨rfl, hw⟩; replace hw := hw.symm; subst hw) | (go_at_call 9; refine (awake_any _).mono ?_; rintro e w1 ⟨rfl, hb1⟩) | (go_at_call 10; refine (fits_any _ _).mono ?_; rintro e w' ⟨rfl, hw⟩; replace hw := hw.symm; subst hw) | (go_at_call 11; refine (rfits_any _ _).mono ?_; rintro e w' ⟨rfl, hw⟩; replace hw := hw.symm; subst hw) | (go_at_call 12; refine (one_any _ _).mono ?_; rintro e w2 ⟨rfl, hb2⟩) | (go_at_call 13; refine (rone_any _ _).mono ?_; rintro e w3 ⟨rfl, hb3⟩))
  go_ret
  exact ⟨rfl, (hb1.trans (hb2.mono hb1.size)).trans (hb3.mono (Nat.le_trans hb1.size hb2.size))⟩

theorem lower (x n : Int) (h : addB x n = true) : fitB (addV x n) = true ∧ addV x n = x + n ∧ addB (addV x n) (-n) = true ∧ addV (addV x n) (-n) = x := by
  have hv : addV x n = x + n := by simp [addV, h]
  rw [hv]
  have h1 : addB (x + n) (-n) = true := by
    simp only [addB, fitB, inB, Bool.and_eq_true, decide_eq_true_eq] at h ⊢
    omega
  have h2 : fitB (x + n) = true := by
    simp only [addB, Bool.and_eq_true] at h
    exact h.2
  refine ⟨h2, rfl, h1, ?_⟩
  simp [addV, h1]; omega

set_option maxHeartbeats 1000000 in
theorem numAdds_no (x n : Int) (w : World) (h : addB x n = false) :
    Calls Try.prog 5 #[.int .i64 x, .int .i64 n] w fun e w' => e = .returned (.bool true) ∧ Below w.heap.size w w' := by
  have h0 : addV x n = 0 := by simp [addV, h]
  cases h1 : fitB x
  · go_enter Try.func5, Try.ntmps5
    go_wp2_with (first | (go_at_call 7; refine (add_any _ _ _).mono ?_; rintro e w' ⟨rfl, hw⟩; replace hw := hw.symm; subst hw) | (go_at_call 9; refine (awake_any _).mono ?_; rintro e w1 ⟨rfl, hb1⟩) | (go_at_call 10; refine (fits_any _ _).mono ?_; rintro e w' ⟨rfl, hw⟩; replace hw := hw.symm; subst hw))
    go_ret
    exact ⟨rfl, hb1⟩
  · by_cases h2 : 2199023255552 < n
    · go_enter Try.func5, Try.ntmps5
      go_wp2_with (first | (go_at_call 7; refine (add_any _ _ _).mono ?_; rintro e w' ⟨rfl, hw⟩; replace hw := hw.symm; subst hw) | (go_at_call 9; refine (awake_any _).mono ?_; rintro e w1 ⟨rfl, hb1⟩) | (go_at_call 10; refine (fits_any _ _).mono ?_; rintro e w' ⟨rfl, hw⟩; replace hw := hw.symm; subst hw))
      go_ret
      exact ⟨rfl, hb1⟩
    · by_cases h3 : n < -2199023255552
      · go_enter Try.func5, Try.ntmps5
        go_wp2_with (first | (go_at_call 7; refine (add_any _ _ _).mono ?_; rintro e w' ⟨rfl, hw⟩; replace hw := hw.symm; subst hw) | (go_at_call 9; refine (awake_any _).mono ?_; rintro e w1 ⟨rfl, hb1⟩) | (go_at_call 10; refine (fits_any _ _).mono ?_; rintro e w' ⟨rfl, hw⟩; replace hw := hw.symm; subst hw))
        go_ret
        exact ⟨rfl, hb1⟩
      · have h4 : fitB (x + n) = false := by
          have e : inB n 2199023255552 = true := by simp [inB]; omega
          simpa [addB, h1, e] using h
        have g1 : -1099511627776 ≤ x ∧ x ≤ 1099511627776 := by simpa [fitB] using h1
        obtain ⟨g1, g2⟩ := g1
        go_enter Try.func5, Try.ntmps5
        go_wp2_with (first | (go_at_call 7; refine (add_any _ _ _).mono ?_; rintro e w' ⟨rfl, hw⟩; replace hw := hw.symm; subst hw) | (go_at_call 9; refine (awake_any _).mono ?_; rintro e w1 ⟨rfl, hb1⟩) | (go_at_call 10; refine (fits_any _ _).mono ?_; rintro e w' ⟨rfl, hw⟩; replace hw := hw.symm; subst hw))
        go_ret
        exact ⟨rfl, hb1⟩

set_option maxHeartbeats 1000000 in
theorem numAdds_yes (x n : Int) (w : World) (h : addB x n = true) :
    Calls Try.prog 5 #[.int .i64 x, .int .i64 n] w fun e w' => e = .returned (.bool true) ∧ Below w.heap.size w w' := by
  obtain ⟨h1, h2, h3, h4⟩ := lower x n h
  have hb : (-1099511627776 ≤ x ∧ x ≤ 1099511627776) ∧ (-2199023255552 ≤ n ∧ n ≤ 2199023255552) := by
    simp only [addB, fitB, inB, Bool.and_eq_true, decide_eq_true_eq] at h
    exact ⟨h.1.1, h.1.2⟩
  obtain ⟨⟨g1, g2⟩, g3, g4⟩ := hb
  rw [h2] at h1 h3 h4
  go_enter Try.func5, Try.ntmps5
  go_wp2_with (first | (go_at_call 7; refine (add_any _ _ _).mono ?_; rintro e w' ⟨rfl, hw⟩; replace hw := hw.symm; subst hw) | (go_at_call 9; refine (awake_any _).mono ?_; rintro e w1 ⟨rfl, hb1⟩) | (go_at_call 10; refine (fits_any _ _).mono ?_; rintro e w' ⟨rfl, hw⟩; replace hw := hw.symm; subst hw))
  go_ret
  exact ⟨rfl, hb1⟩

theorem numAdds_walk (x n : Int) (w : World) :
    Calls Try.prog 5 #[.int .i64 x, .int .i64 n] w fun e w' => e = .returned (.bool true) ∧ Below w.heap.size w w' := by
  cases h : addB x n
  · exact numAdds_no x n w h
  · exact numAdds_yes x n w h
end Go.Proofs.Ytbibpigijgmcgaa

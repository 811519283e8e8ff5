import Derived.Test.YtbibpigijgmcgaaW1
namespace Go.Proofs.Ytbibpigijgmcgaa
open Go.RowKit

/-- May a weight be raised by that much? -/
def addB (w n : Int) : Bool := fitB w && inB n 2199023255552 && fitB (w + n)
def addV (w n : Int) : Int := if addB w n then w + n else 0

set_option maxHeartbeats 400000 in
theorem add_any (x n : Int) (w : World) :
    Calls Try.prog 7 #[.int .i64 x, .int .i64 n] w fun r w' => r = .returned (.tuple #[.int .i64 (addV x n), .bool (addB x n)]) ∧ w' = w := by
  cases h1 : fitB x
  · go_enter Try.func7, Try.ntmps7
    go_wp2_with (go_at_call 10; refine (fits_any _ _).mono ?_; rintro e w' ⟨rfl, rfl⟩)
    go_ret2
    exact ⟨by simp [addV, addB, h1], rfl⟩
  · cases h2 : inB n 2199023255552
    · go_enter Try.func7, Try.ntmps7
      go_wp2_with (first | (go_at_call 10; refine (fits_any _ _).mono ?_; rintro e w' ⟨rfl, rfl⟩) | (go_at_call 17; refine (within_any _ _ _ (by omega) (by omega)).mono ?_; rintro e w' ⟨rfl, rfl⟩))
      go_ret2
      exact ⟨by simp [addV, addB, h2], rfl⟩
    · have g1 : -1099511627776 ≤ x ∧ x ≤ 1099511627776 := by simpa [fitB] using h1
      have g2 : -2199023255552 ≤ n ∧ n ≤ 2199023255552 := by simpa [inB] using h2
      obtain ⟨g1, g1'⟩ := g1
      obtain ⟨g2, g2'⟩ := g2
      cases h3 : fitB (x + n)
      · go_enter Try.func7, Try.ntmps7
        go_wp2_with (first | (go_at_call 10; refine (fits_any _ _).mono ?_; rintro e w' ⟨rfl, rfl⟩) | (go_at_call 17; refine (within_any _ _ _ (by omega) (by omega)).mono ?_; rintro e w' ⟨rfl, rfl⟩))
        go_ret2
        exact ⟨by simp [addV, addB, h3], rfl⟩
      · go_enter Try.func7, Try.ntmps7
        go_wp2_with (first | (go_at_call 10; refine (fits_any _ _).mono ?_; rintro e w' ⟨rfl, rfl⟩) | (go_at_call 17; refine (within_any _ _ _ (by omega) (by omega)).mono ?_; rintro e w' ⟨rfl, rfl⟩))
        go_ret2
        exact ⟨by simp [addV, addB, h1, h2, h3], rfl⟩

set_option maxHeartbeats 400000 in
theorem radd_any (x n : Int) (w : World) :
    Calls Try.prog 8 #[.int .i64 x, .int .i64 n] w fun r w' => r = .returned (.tuple #[.int .i64 (addV x n), .bool (addB x n)]) ∧ w' = w := by
  cases h1 : fitB x
  · go_enter Try.func8, Try.ntmps8
    go_wp2_with (go_at_call 11; refine (rfits_any _ _).mono ?_; rintro e w' ⟨rfl, rfl⟩)
    go_ret2
    exact ⟨by simp [addV, addB, h1], rfl⟩
  · by_cases h2 : 2199023255552 < n
    · have hf : inB n 2199023255552 = false := by simp [inB]; omega
      go_enter Try.func8, Try.ntmps8
      go_wp2_with (go_at_call 11; refine (rfits_any _ _).mono ?_; rintro e w' ⟨rfl, rfl⟩)
      go_ret2
      exact ⟨by simp [addV, addB, hf], rfl⟩
    · by_cases h3 : n < -2199023255552
      · have hf : inB n 2199023255552 = false := by simp [inB]; omega
        go_enter Try.func8, Try.ntmps8
        go_wp2_with (go_at_call 11; refine (rfits_any _ _).mono ?_; rintro e w' ⟨rfl, rfl⟩)
        go_ret2
        exact ⟨by simp [addV, addB, hf], rfl⟩
      · have g1 : -1099511627776 ≤ x ∧ x ≤ 1099511627776 := by simpa [fitB] using h1
        have g2 : inB n 2199023255552 = true := by simp [inB]; omega
        obtain ⟨g1, g1'⟩ := g1
        have H2 : Hid (inB n 2199023255552 = true) := g2
        clear g2
        cases h4 : fitB (x + n)
        · go_enter Try.func8, Try.ntmps8
          go_wp2_with (go_at_call 11; refine (rfits_any _ _).mono ?_; rintro e w' ⟨rfl, rfl⟩)
          go_ret2
          exact ⟨by simp [addV, addB, h4], rfl⟩
        · go_enter Try.func8, Try.ntmps8
          go_wp2_with (go_at_call 11; refine (rfits_any _ _).mono ?_; rintro e w' ⟨rfl, rfl⟩)
          go_ret2
          exact ⟨by simp [addV, addB, h1, H2.out, h4], rfl⟩
end Go.Proofs.Ytbibpigijgmcgaa

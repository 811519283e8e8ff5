/- Whether a node has a record; four bytes put behind others. -/
import Derived.Test.YtgdiglkbeijomaaC2
namespace Go.Proofs.Ytgdiglkbeijomaa
open Go.RowKit

/-- A node, as a value. -/
abbrev nd (i u x : Int) : Value := .agg #[.int .i64 i, .int .i64 u, .int .i64 x]
theorem okN_t {i u x : Int} (h1 : 0 ≤ i) (h2 : i ≤ 2147483647) (h3 : -1 ≤ u) (h4 : u ≤ 2147483647) (h5 : ¬ u = i) (h6 : -1099511627776 ≤ x) (h7 : x ≤ 1099511627776) : okN i u x = true := okN_iff.2 ⟨h1, h2, h3, h4, h5, h6, h7⟩
theorem okN_f {i u x : Int} (h : ¬ (0 ≤ i ∧ i ≤ 2147483647 ∧ -1 ≤ u ∧ u ≤ 2147483647 ∧ u ≠ i ∧ -1099511627776 ≤ x ∧ x ≤ 1099511627776)) : okN i u x = false := by
  rw [← okN_iff] at h
  exact Bool.eq_false_iff.2 h

set_option maxRecDepth 100000 in
theorem has_any (i u x : Int) (w : World) :
    Calls Try.prog 16 #[nd i u x] w fun e w' => e = .returned (.bool (okN i u x)) ∧ Below w.heap.size w w' := by
  by_cases h1 : 0 ≤ i
  · by_cases h2 : i ≤ 2147483647
    · by_cases h3 : -1 ≤ u
      · by_cases h4 : u ≤ 2147483647
        · by_cases h5 : u = i
          · rw [okN_f (by omega)]
            subst h5
            go_enter Try.func16, Try.ntmps16
            go_wp2
            go_ret
            exact ⟨rfl, (Below.refl _ _).alloc (Nat.le_refl _) _⟩
          · by_cases h6 : -1099511627776 ≤ x
            · by_cases h7 : x ≤ 1099511627776
              · rw [okN_t h1 h2 h3 h4 h5 h6 h7]
                have h5b : (u != i) = true := by simpa using h5
                go_enter Try.func16, Try.ntmps16
                go_wp2
                go_ret
                exact ⟨rfl, (Below.refl _ _).alloc (Nat.le_refl _) _⟩
              · rw [okN_f (by omega)]
                go_enter Try.func16, Try.ntmps16
                go_wp2
                go_ret
                exact ⟨rfl, (Below.refl _ _).alloc (Nat.le_refl _) _⟩
            · rw [okN_f (by omega)]
              go_enter Try.func16, Try.ntmps16
              go_wp2
              go_ret
              exact ⟨rfl, (Below.refl _ _).alloc (Nat.le_refl _) _⟩
        · rw [okN_f (by omega)]
          go_enter Try.func16, Try.ntmps16
          go_wp2
          go_ret
          exact ⟨rfl, (Below.refl _ _).alloc (Nat.le_refl _) _⟩
      · rw [okN_f (by omega)]
        go_enter Try.func16, Try.ntmps16
        go_wp2
        go_ret
        exact ⟨rfl, (Below.refl _ _).alloc (Nat.le_refl _) _⟩
    · rw [okN_f (by omega)]
      go_enter Try.func16, Try.ntmps16
      go_wp2
      go_ret
      exact ⟨rfl, (Below.refl _ _).alloc (Nat.le_refl _) _⟩
  · rw [okN_f (by omega)]
    go_enter Try.func16, Try.ntmps16
    go_wp2
    go_ret
    exact ⟨rfl, (Below.refl _ _).alloc (Nat.le_refl _) _⟩
end Go.Proofs.Ytgdiglkbeijomaa

import Derived.Test.YtbibpigijgmcgaaW8
namespace Go.Proofs.Ytbibpigijgmcgaa
open Go.RowKit

theorem numJoins_long (x : Option Addr) (len cap : Nat) (x1 : Option Addr) (len1 cap1 : Nat) (d : Int) (w : World) (hlen : 500 < len ∨ 500 < len1) :
    Calls Try.prog 4 #[.slice x len cap, .slice x1 len1 cap1, .int .i16 d] w fun e w' => e = .returned (.bool true) ∧ Below w.heap.size w w' := by
  by_cases h0 : 500 < len
  · have h : (500 : Int) < (len : Int) := by omega
    go_enter Try.func4, Try.ntmps4
    go_wp2_with (go_at_call 9; refine (awake_any _).mono ?_; rintro e w2 ⟨rfl, hb2⟩)
    go_ret
    exact ⟨rfl, hb2⟩
  · have h : ¬ (500 : Int) < (len : Int) := by omega
    have h' : (500 : Int) < (len1 : Int) := by omega
    clear hlen h0
    go_enter Try.func4, Try.ntmps4
    go_wp2_with (go_at_call 9; refine (awake_any _).mono ?_; rintro e w2 ⟨rfl, hb2⟩)
    go_ret
    exact ⟨rfl, hb2⟩
end Go.Proofs.Ytbibpigijgmcgaa

/- The arguments as they are opened. -/
import Derived.Test.YtgdiglkbeijomaaW1
import Derived.Test.YtgdiglkbeijomaaW3
import Derived.ProofKit
import Derived.OpenShut
import Derived.Lib.SmallJoins
namespace Go.Proofs.Ytgdiglkbeijomaa
open Go.RowKit
theorem u32_of {a : Int} (h : (Lit.int .u32 a).wf = true) : ∃ n : Nat, a = (n : Int) ∧ n < 4294967296 := by
  have := bounds_u32 h
  exact ⟨a.toNat, by omega, by omega⟩
theorem prints_int (i u x a : Int) (h : (Lit.int .u32 a).wf = true) (w : World) : Calls Try.prog 3 #[nd i u x, .int .u32 a] w fun e w' => e = .returned (.bool true) ∧ Below w.heap.size w w' := by
  obtain ⟨n, rfl, hn⟩ := u32_of h
  exact prints_walk i u x n hn w
theorem back_int (i u x a : Int) (s : ByteArray) (hs : s.size ≤ 9223372036854775807) (h : (Lit.int .u32 a).wf = true) (w : World) : Calls Try.prog 5 #[nd i u x, .string s, .int .u32 a] w fun e w' => e = .returned (.bool true) ∧ Below w.heap.size w w' := by
  obtain ⟨n, rfl, hn⟩ := u32_of h
  exact back_walk i u x s n hs hn w
end Go.Proofs.Ytgdiglkbeijomaa

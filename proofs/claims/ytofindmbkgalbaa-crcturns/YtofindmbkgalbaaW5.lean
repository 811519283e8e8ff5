/- CrcTurns: the walk, over integers as they come in. -/
import Derived.Test.YtofindmbkgalbaaW2
namespace Go.Proofs.Ytofindmbkgalbaa
open Go.RowKit
theorem turns_int (s : ByteArray) (x y : Int) (hs : s.size ≤ 9223372036854775807) (hx : (Lit.int .u16 x).wf = true) (hy : (Lit.int .u32 y).wf = true) (w : World) :
    Calls Try.prog 4 #[.string s, .int .u16 x, .int .u32 y] w fun e w' => e = .returned (.bool true) ∧ Below w.heap.size w w' := by
  have e1 : IntKind.u16.min = 0 := rfl
  have e2 : IntKind.u16.max = 65535 := rfl
  have e3 : IntKind.u32.min = 0 := rfl
  have e4 : IntKind.u32.max = 4294967295 := rfl
  simp only [Lit.wf, Bool.and_eq_true, decide_eq_true_eq] at hx hy
  have h := turns_walk s x.toNat y.toNat hs (by omega) (by omega) w
  rwa [Int.toNat_of_nonneg (by omega), Int.toNat_of_nonneg (by omega)] at h
end Go.Proofs.Ytofindmbkgalbaa

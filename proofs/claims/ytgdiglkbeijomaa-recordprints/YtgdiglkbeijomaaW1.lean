/- RecordPrints: the walk. -/
import Derived.Test.YtgdiglkbeijomaaC7
import Derived.Test.YtgdiglkbeijomaaC9
namespace Go.Proofs.Ytgdiglkbeijomaa
open Go.RowKit
set_option maxRecDepth 100000 in
set_option maxHeartbeats 4000000 in
theorem prints_walk (i u x : Int) (n : Nat) (hn : n < 4294967296) (w : World) :
    Calls Try.prog 3 #[nd i u x, .int .u32 (n : Int)] w fun e w' => e = .returned (.bool true) ∧ Below w.heap.size w w' := by
  have P1 := hide (print_any i u x)
  have P2 := hide (printR_any i u x)
  have F1 := hide (four_any n hn)
  have F2 := hide (fourR_any n hn)
  generalize prS i u x = A at *
  generalize okN i u x = p at *
  generalize st (four n) = F at *
  go_enter Try.func3, Try.ntmps3
  go_wp2_with fail
  refine ((unhide P1) _).mono ?_
  rintro e w2 ⟨rfl, hb⟩
  have hb' := hb.mono (B' := w.heap.size + 1) (by simp)
  obtain ⟨c0, c1, c2⟩ := cells3 w w2 _ _ _ hb'
  have B2 : Hid (Below w.heap.size w w2) := hide (((Below.refl _ _).alloc (Nat.le_refl _) _).trans (hb.mono (by simp)))
  clear hb hb'
  go_wp2_with fail
  refine ((unhide P2) _).mono ?_
  rintro e w3 ⟨rfl, hb⟩
  have B3 : Hid (Below w.heap.size w w3) := hide ((unhide B2).trans (hb.mono (unhide B2).size))
  clear hb c0 c1 c2
  go_wp2_with fail
  refine (awake_any _).mono ?_
  rintro e w4 ⟨rfl, hb⟩
  have B4 : Hid (Below w.heap.size w w4) := hide ((unhide B3).trans (hb.mono (unhide B3).size))
  clear hb
  go_wp2_with fail
  refine ((unhide F1) _).mono ?_
  rintro e w5 ⟨rfl, hb⟩
  have B5 : Hid (Below w.heap.size w w5) := hide ((unhide B4).trans (hb.mono (unhide B4).size))
  clear hb
  go_wp2_with fail
  refine ((unhide F2) _).mono ?_
  rintro e w6 ⟨rfl, hb⟩
  have B6 : Hid (Below w.heap.size w w6) := hide ((unhide B5).trans (hb.mono (unhide B5).size))
  clear hb
  go_wp2
  go_ret
  exact ⟨rfl, unhide B6⟩
end Go.Proofs.Ytgdiglkbeijomaa

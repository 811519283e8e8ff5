/- TableNil. -/
import Derived.Test.YtakgacahaennoaaDoorW
namespace Go.Proofs.YtakgacahaennoaaDoor
open Go.RowKit Go.Arb

set_option maxRecDepth 100000 in
set_option maxHeartbeats 2000000 in
theorem nil_walk (id n : Int) (w : World) (hT : Tab w) : Calls Tryd.prog 5 #[.int .i64 id, .int .i64 n] w fun e w' => e = .returned (.bool true) ∧ Below w.heap.size w w' := by
  have HT := hide hT
  clear hT
  go_enter Tryd.func5, Tryd.ntmps5
  go_wp2_with fail
  refine (get_nil id _).mono ?_
  rintro e w1 ⟨rfl, hw⟩
  subst hw
  go_wp2_with fail
  refine (awake_any _ (unhide HT)).mono ?_
  rintro e w2 ⟨rfl, b2⟩
  have HB := hide b2
  clear b2
  by_cases hid : id ≤ 2147483647
  · go_wp2_with (first
      | (go_at_call 9; refine (put_nil _ _ _).mono ?_; rintro e w' ⟨rfl, rfl⟩)
      | (go_at_call 11; refine (drop_nil _ _).mono ?_; rintro e w' ⟨rfl, rfl⟩)
      | (go_at_call 15; refine (len_nil _).mono ?_; rintro e w' ⟨rfl, rfl⟩)
      | (go_at_call 18; refine (list_nil _).mono ?_; rintro e w' ⟨rfl, rfl⟩))
    go_ret
    exact ⟨rfl, unhide HB⟩
  · have hd : decide (id ≤ 2147483647) = false := by simpa using hid
    go_wp2_with fail
    refine (put_nil _ _ _).mono ?_
    rintro e w3 ⟨rfl, hw⟩
    subst hw
    go_wp2_with (first
      | (go_at_call 11; refine (drop_nil _ _).mono ?_; rintro e w' ⟨rfl, rfl⟩)
      | (go_at_call 15; refine (len_nil _).mono ?_; rintro e w' ⟨rfl, rfl⟩)
      | (go_at_call 18; refine (list_nil _).mono ?_; rintro e w' ⟨rfl, rfl⟩)
      | (go_at_call 7; refine (tNew _ ((unhide HT).belowS (unhide HB))).mono ?_; rintro e w' ⟨rfl, a1, b1, z1⟩; have HN := hide b1; clear a1 b1 z1)
      | (go_at_call 9; refine (put_out _ _ _ _ (.inr (by omega))).mono ?_; rintro e w'' ⟨rfl, hw''⟩; subst hw''))
    go_ret
    exact ⟨rfl, (unhide HB).trans ((unhide HN).mono (unhide HB).size)⟩
end Go.Proofs.YtakgacahaennoaaDoor

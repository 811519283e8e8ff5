/- The fixed runs. -/
import Derived.Test.YtgdiglkbeijomaaC5
import Derived.Test.YtgdiglkbeijomaaC6
namespace Go.Proofs.Ytgdiglkbeijomaa
open Go.RowKit
theorem parse_any (s : ByteArray) (w : World) :
    Calls Try.prog 12 #[.string s] w fun e w' => e = .returned (.tuple #[nd (nI (bs s)) (nU (bs s)) (nW (bs s)), .bool (isR (bs s))]) ∧ Below w.heap.size w w' := by
  by_cases h : s.size = 16
  · exact parse_full s h w
  · have hn : isR (bs s) = false := by
      unfold isR
      rw [bs_length, beq_eq_false_iff_ne.2 h]
      rfl
    unfold nI nU nW
    rw [hn]
    exact parse_short s h w
theorem fixA : prS 1 (-1) (-2) = ⟨#[0, 0, 0, 1, 255, 255, 255, 255, 255, 255, 255, 255, 255, 255, 255, 254]⟩ := by decide +kernel
theorem fixB : okN 1 (-1) (-2) = true := by decide
theorem fixC : okN 1 1 0 = false := by decide
theorem fixD : st (four 258) = ⟨#[0, 0, 1, 2]⟩ := by decide +kernel
theorem fixE : rd (bs ⟨#[0, 0, 1, 2, 120]⟩) = 258 := by decide +kernel
theorem fixF : isR (bs ⟨#[0, 0, 0, 1, 255, 255, 255, 255, 255, 255, 255, 255, 255, 255, 255, 254]⟩) = true := by decide +kernel
theorem fixG : nI (bs ⟨#[0, 0, 0, 1, 255, 255, 255, 255, 255, 255, 255, 255, 255, 255, 255, 254]⟩) = 1 ∧ nU (bs ⟨#[0, 0, 0, 1, 255, 255, 255, 255, 255, 255, 255, 255, 255, 255, 255, 254]⟩) = -1 ∧ nW (bs ⟨#[0, 0, 0, 1, 255, 255, 255, 255, 255, 255, 255, 255, 255, 255, 255, 254]⟩) = -2 := by decide +kernel

set_option maxRecDepth 100000 in
set_option maxHeartbeats 4000000 in
theorem awake_any (w : World) : Calls Try.prog 9 #[] w fun e w' => e = .returned (.bool true) ∧ Below w.heap.size w w' := by
  have P1 := hide (print_any 1 (-1) (-2))
  rw [fixA, fixB] at P1
  have P2 := hide (print_any 1 1 0)
  rw [fixC, show prS 1 1 0 = ⟨#[]⟩ from rfl] at P2
  have PP := hide (parse_any ⟨#[0, 0, 0, 1, 255, 255, 255, 255, 255, 255, 255, 255, 255, 255, 255, 254]⟩)
  rw [fixF, fixG.1, fixG.2.1, fixG.2.2] at PP
  have F : Hid (∀ w, Calls Try.prog 10 #[.int .u32 258] w fun e w' => e = .returned (.string ⟨#[0, 0, 1, 2]⟩) ∧ Below w.heap.size w w') := hide (fun w => by rw [← fixD]; exact four_any 258 (by decide) w)
  have R : Hid (∀ w, Calls Try.prog 14 #[.string ⟨#[0, 0, 1, 2, 120]⟩] w fun e w' => e = .returned (.int .u32 258) ∧ ∃ q, w' = w.drewN q) := hide (fun w => by
    have := read_any ⟨#[0, 0, 1, 2, 120]⟩ (by decide) w
    rw [fixE] at this
    exact this)
  go_enter Try.func9, Try.ntmps9
  go_wp2_with fail
  refine ((unhide P1) _).mono ?_
  rintro e w2 ⟨rfl, hb⟩
  have B2 := hide hb
  clear hb
  go_wp2_with fail
  refine ((unhide PP) _).mono ?_
  rintro e w3 ⟨rfl, hb⟩
  have B3 : Hid (Below w.heap.size w w3) := hide ((unhide B2).trans (hb.mono (unhide B2).size))
  clear hb
  go_wp2_with fail
  refine ((unhide P2) _).mono ?_
  rintro e w4 ⟨rfl, hb⟩
  have B4 : Hid (Below w.heap.size w w4) := hide (((unhide B3).alloc (unhide B3).size _).trans (hb.mono (by have := (unhide B3).size; simp; omega)))
  obtain ⟨c0, c1, c2⟩ := cells3 w3 w4 _ _ _ (hb.mono (by simp))
  clear hb
  have c1' := c1
  go_wp2_with fail
  refine ((unhide F) _).mono ?_
  rintro e w5 ⟨rfl, hb⟩
  have B5 : Hid (Below w.heap.size w w5) := hide ((unhide B4).trans (hb.mono (unhide B4).size))
  clear hb
  go_wp2_with fail
  refine ((unhide R) _).mono ?_
  rintro e w6 ⟨rfl, q, rfl⟩
  go_wp2
  go_ret
  exact ⟨rfl, below_drewN (unhide B5) _⟩
end Go.Proofs.Ytgdiglkbeijomaa

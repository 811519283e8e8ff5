/- RecordParses: the walk. -/
import Derived.Test.YtgdiglkbeijomaaC8
import Derived.Test.YtgdiglkbeijomaaC9
import Derived.Laws.StructEq
namespace Go.Proofs.Ytgdiglkbeijomaa
open Go.RowKit
theorem parseR_any (s : ByteArray) (w : World) :
    Calls Try.prog 13 #[.string s] w fun e w' => e = .returned (.tuple #[nd (nI (bs s)) (nU (bs s)) (nW (bs s)), .bool (isR (bs s))]) ∧ Below w.heap.size w w' := by
  by_cases h : s.size = 16
  · exact parseR_full s h w
  · have hn : isR (bs s) = false := by
      unfold isR
      rw [bs_length, beq_eq_false_iff_ne.2 h]
      rfl
    unfold nI nU nW
    rw [hn]
    exact parseR_short s h w

set_option maxRecDepth 100000 in
set_option maxHeartbeats 4000000 in
theorem parses_walk (s : ByteArray) (hs : s.size ≤ 9223372036854775807) (w : World) :
    Calls Try.prog 4 #[.string s] w fun e w' => e = .returned (.bool true) ∧ Below w.heap.size w w' := by
  by_cases h : s.size ≤ 1000
  · have P1 := hide (parse_any s)
    have P2 := hide (parseR_any s)
    have R1 := hide (read_any s hs)
    have R2 := hide (readR_any s hs)
    generalize nI (bs s) = I at *
    generalize nU (bs s) = U at *
    generalize nW (bs s) = X at *
    generalize isR (bs s) = p at *
    generalize rd (bs s) = F at *
    go_enter Try.func4, Try.ntmps4
    go_wp2_with fail
    refine ((unhide P1) _).mono ?_
    rintro e w2 ⟨rfl, hb⟩
    have B2 := hide hb
    clear hb
    go_wp2_with fail
    refine ((unhide P2) _).mono ?_
    rintro e w3 ⟨rfl, hb⟩
    obtain ⟨c0, c1, c2⟩ := cells3 w2 w3 _ _ _ (hb.mono (by simp))
    have B3 : Hid (Below w.heap.size w w3) := hide (((unhide B2).alloc (unhide B2).size _).trans (hb.mono (by have := (unhide B2).size; simp; omega)))
    have hz : w2.heap.size < w3.heap.size := by have := hb.size; simp at this; omega
    clear hb
    go_wp2_with fail
    refine (awake_any _).mono ?_
    rintro e w4 ⟨rfl, hb⟩
    have d0 := hb.cell (p := ⟨w2.heap.size, 0, none⟩) (by simp; omega)
    have d1 := hb.cell (p := ⟨w2.heap.size, 1, none⟩) (by simp; omega)
    have d2 := hb.cell (p := ⟨w2.heap.size, 2, none⟩) (by simp; omega)
    rw [World.cell?_alloc_past _ _ _ hz] at d0 d1 d2
    rw [c0] at d0
    rw [c1] at d1
    rw [c2] at d2
    obtain ⟨e0, e1, e2⟩ := cells3 w3 w4 _ _ _ (hb.mono (by simp))
    have B4 : Hid (Below w.heap.size w w4) := hide (((unhide B3).alloc (unhide B3).size _).trans (hb.mono (by have := (unhide B3).size; simp; omega)))
    clear hb c0 c1 c2
    go_wp2_with fail
    refine ((unhide R1) _).mono ?_
    rintro e w5 ⟨rfl, q, rfl⟩
    go_wp2_with fail
    refine ((unhide R2) _).mono ?_
    rintro e w6 ⟨rfl, q', rfl⟩
    go_wp2
    go_ret
    exact ⟨rfl, below_drewN (unhide B4) _⟩
  · go_enter Try.func4, Try.ntmps4
    go_wp2_with fail
    refine (awake_any _).mono ?_
    rintro e w2 ⟨rfl, hb⟩
    have B2 := hide hb
    clear hb
    go_wp2
    go_ret
    exact ⟨rfl, unhide B2⟩
end Go.Proofs.Ytgdiglkbeijomaa

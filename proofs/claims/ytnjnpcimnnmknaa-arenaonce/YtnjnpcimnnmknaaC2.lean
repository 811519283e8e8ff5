import Derived.Test.YtnjnpcimnnmknaaC
namespace Go.Proofs.Ytnjnpcimnnmknaa
open Go.RowKit Go.Arb

/-- A slot of the row, cell by cell. -/
theorem CsIn.slot {w : World} {p : Nat} {v : Value} {C : Cs} (h : CsIn w p v C) (i : Nat) (hi : i < C.slots.length) :
    ∃ g cap, v = .slice (some ⟨g, 0, none⟩) C.slots.length cap ∧ C.slots.length ≤ cap ∧ cap ≤ maxLen ∧ g < w.heap.size ∧ g ≠ p ∧
      w.cell? ⟨g, i * 3, none⟩ = some (.int .i64 C.slots[i].gen) ∧ w.cell? ⟨g, i * 3 + 1, none⟩ = some (.int .i64 C.slots[i].next) ∧ w.cell? ⟨g, i * 3 + 2, none⟩ = some (.bool C.slots[i].away) ∧
      w.frozen? ⟨g, i * 3, none⟩ = false ∧ w.frozen? ⟨g, i * 3 + 1, none⟩ = false ∧ w.frozen? ⟨g, i * 3 + 2, none⟩ = false := by
  obtain ⟨x, cap, hv, h1, h2, h3⟩ := row_form h.row
  obtain ⟨g, rfl, hg, how, hc⟩ := h3 (by omega)
  have hf := fun j hj => flat_get slC_len C.slots i j hj
  have hi' : C.slots[i]? = some C.slots[i] := List.getElem?_eq_getElem hi
  refine ⟨g, cap, hv, h1, h2, hg, ?_, ?_, ?_, ?_, (hc _ (by omega)).2, (hc _ (by omega)).2, (hc _ (by omega)).2⟩
  · have := h.ne; rw [how] at this; simpa [eq_comm] using this
  · rw [(hc _ (by omega)).1]; have := hf 0 (by omega); rw [hi'] at this; simpa [slC] using this
  · rw [(hc _ (by omega)).1]; have := hf 1 (by omega); rw [hi'] at this; simpa [slC] using this
  · rw [(hc _ (by omega)).1]; have := hf 2 (by omega); rw [hi'] at this; simpa [slC] using this

def liveC (C : Cs) (s g : Int) : Bool := if 0 ≤ s then (match C.slots[s.toNat]? with | some x => x.away && x.gen == g | none => false) else false

theorem len_bd {w : World} {p : Nat} {v : Value} {C : Cs} (h : CsIn w p v C) : ∃ x cap, v = .slice x C.slots.length cap ∧ C.slots.length ≤ maxLen := by
  obtain ⟨x, cap, hv, h1, h2, _⟩ := row_form h.row
  exact ⟨x, cap, hv, by omega⟩

set_option maxHeartbeats 400000 in
theorem live_nil (s g : Int) (w : World) : Calls Try.prog 13 #[.pointer none, .agg #[.int .i64 s, .int .i64 g]] w fun e w' => e = .returned (.bool false) ∧ Below w.heap.size w w' := by
  go_enter Try.func13, Try.ntmps13
  go_wp2
  go_quiet (fail)
  go_wp2
  go_ret
  exact ⟨rfl, below_drewN ((Below.refl _ _).alloc (Nat.le_refl _) _) _⟩

set_option maxHeartbeats 400000 in
theorem live_neg (s g : Int) (w : World) (p : Nat) (hs : s < 0) : Calls Try.prog 13 #[.pointer (some ⟨p, 0, none⟩), .agg #[.int .i64 s, .int .i64 g]] w fun e w' => e = .returned (.bool false) ∧ Below w.heap.size w w' := by
  go_enter Try.func13, Try.ntmps13
  go_wp2
  go_quiet (fail)
  go_wp2
  go_ret
  exact ⟨rfl, below_drewN ((Below.refl _ _).alloc (Nat.le_refl _) _) _⟩

set_option maxHeartbeats 400000 in
theorem live_over (s g : Int) (w : World) (p : Nat) (v : Value) (C : Cs) (h : CsIn w p v C) (hs : (C.slots.length : Int) ≤ s) : Calls Try.prog 13 #[.pointer (some ⟨p, 0, none⟩), .agg #[.int .i64 s, .int .i64 g]] w fun e w' => e = .returned (.bool false) ∧ Below w.heap.size w w' := by
  obtain ⟨c0, _⟩ := h.cells
  have hp := blk_lt h.blk
  obtain ⟨x, cap, rfl, hm⟩ := len_bd h
  have h1 : decide (s < 0) = false := by simp; omega
  go_enter Try.func13, Try.ntmps13
  go_wp2
  go_quiet (fail)
  go_wp2
  go_ret
  exact ⟨rfl, below_drewN ((Below.refl _ _).alloc (Nat.le_refl _) _) _⟩
end Go.Proofs.Ytnjnpcimnnmknaa

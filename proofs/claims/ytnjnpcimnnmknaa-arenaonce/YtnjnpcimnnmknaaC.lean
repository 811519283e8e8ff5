/- The program's arena in memory: a block with its four fields, and the row of its slots. -/
import Derived.Test.YtnjnpcimnnmknaaRows
import Derived.WalkKit
import Derived.WalkSpells
import Derived.RowKit3
import Derived.Deep.RegionHeld3
import Derived.Deep.RegionWith
import Derived.BigQuiet
import Derived.WalkSmall
import Derived.Deep.QuietTactic
import Derived.Test.YtnjnpcimnnmknaaF
namespace Go.Proofs.Ytnjnpcimnnmknaa
open Go.RowKit Go.Arb

/-- A slot, as the program keeps it. -/
structure Sl where
  gen : Int
  next : Int
  away : Bool
def slC (s : Sl) : List Value := [.int .i64 s.gen, .int .i64 s.next, .bool s.away]
theorem slC_len (s : Sl) : (slC s).length = 3 := rfl

/-- The program's arena. -/
structure Cs where
  slots : List Sl
  room : Int
  free : Int
  away : Int

structure CsIn (w : World) (p : Nat) (v : Value) (C : Cs) : Prop where
  blk : w.heap[p]? = some (.cells #[v, .int .i64 C.room, .int .i64 C.free, .int .i64 C.away] 45 (0, 0))
  row : w.ownsRow 0 51 3 v C.slots.length (flat slC C.slots)
  ne : p ∉ own v

def fp (p : Nat) (v : Value) : List Nat := p :: own v

theorem blk_lt {w : World} {p : Nat} {o : Obj} (h : w.heap[p]? = some o) : p < w.heap.size := (Array.getElem?_eq_some_iff.1 h).1

theorem CsIn.lt {w : World} {p : Nat} {v : Value} {C : Cs} (h : CsIn w p v C) : ∀ k ∈ fp p v, k < w.heap.size := fun k hk => by
  rcases List.mem_cons.1 hk with rfl | hk
  · exact blk_lt h.blk
  · exact row_lt h.row k hk

theorem CsIn.keep {w w' : World} {p : Nat} {v : Value} {C : Cs} {ks : List Nat} (h : CsIn w p v C) (hk : Keep ks w w') (ho : Off (fp p v) ks) : CsIn w' p v C :=
  ⟨by rw [hk.block p (blk_lt h.blk) (ho p (by simp [fp]))]; exact h.blk, row_keep h.row hk (fun k h1 => ho k (by simp [fp, h1])), h.ne⟩

/-- The four fields, as the walk reads them. -/
theorem CsIn.cells {w : World} {p : Nat} {v : Value} {C : Cs} (h : CsIn w p v C) :
    w.cell? ⟨p, 0, none⟩ = some v ∧ w.cell? ⟨p, 1, none⟩ = some (.int .i64 C.room) ∧ w.cell? ⟨p, 2, none⟩ = some (.int .i64 C.free) ∧ w.cell? ⟨p, 3, none⟩ = some (.int .i64 C.away) ∧
    w.frozen? ⟨p, 0, none⟩ = false ∧ w.frozen? ⟨p, 1, none⟩ = false ∧ w.frozen? ⟨p, 2, none⟩ = false ∧ w.frozen? ⟨p, 3, none⟩ = false := by
  simp [World.cell?, World.frozen?, h.blk]

set_option maxHeartbeats 400000 in
theorem len_any (w : World) (p : Nat) (v : Value) (C : Cs) (h : CsIn w p v C) :
    Calls Try.prog 15 #[.pointer (some ⟨p, 0, none⟩)] w fun e w' => e = .returned (.int .i64 C.away) ∧ w = w' := by
  obtain ⟨c0, c1, c2, c3, _⟩ := h.cells
  go_enter Try.func15, Try.ntmps15
  go_wp2
  go_ret
  exact ⟨rfl, rfl⟩

set_option maxHeartbeats 400000 in
theorem len_nil (w : World) : Calls Try.prog 15 #[.pointer none] w fun e w' => e = .returned (.int .i64 0) ∧ w = w' := by
  go_enter Try.func15, Try.ntmps15
  go_wp2
  go_ret
  exact ⟨rfl, rfl⟩

set_option maxHeartbeats 400000 in
theorem new_no (n : Int) (w : World) (h : n < 0 ∨ 1048576 < n) : Calls Try.prog 7 #[.int .i64 n] w fun e w' => e = .returned (.pointer none) ∧ w = w' := by
  rcases h with h | h
  · go_enter Try.func7, Try.ntmps7
    go_wp2
    go_ret
    exact ⟨rfl, rfl⟩
  · have h' : ¬ n < 0 := by omega
    go_enter Try.func7, Try.ntmps7
    go_wp2
    go_ret
    exact ⟨rfl, rfl⟩

set_option maxHeartbeats 400000 in
theorem new_any (n : Int) (w : World) (h0 : 0 ≤ n) (h1 : n ≤ 1048576) :
    Calls Try.prog 7 #[.int .i64 n] w fun e w' => e = .returned (.pointer (some ⟨w.heap.size, 0, none⟩)) ∧ CsIn w' w.heap.size (.slice none 0 0) ⟨[], n, -1, 0⟩ ∧ Below w.heap.size w w' ∧ w'.heap.size = w.heap.size + 1 := by
  have h' : ¬ n < 0 := by omega
  have h'' : ¬ 1048576 < n := by omega
  go_enter Try.func7, Try.ntmps7
  go_wp2
  go_ret
  refine ⟨rfl, ⟨?_, World.ownsRow_nil _ _ _ _, by simp [own, Value.ownBlock]⟩, (Below.refl _ _).alloc (Nat.le_refl _) _, by simp⟩
  exact heap_alloc_new w _
end Go.Proofs.Ytnjnpcimnnmknaa

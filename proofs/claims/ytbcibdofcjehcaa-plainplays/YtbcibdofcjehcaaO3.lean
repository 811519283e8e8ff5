/- A row of steps that came in, opened: four integers each. -/
import Derived.Test.YtbcibdofcjehcaaO
namespace Go.Proofs.Ytbcibdofcjehcaa
open Go.ChangeShapes Go.WideShapes Go.ChangeAt Go.RowKit Go.Joins Go.Deep

/-- What came in: a row of steps. -/
def ARow (w : World) (x : Option Addr) (len : Nat) : Prop := 0 < len → ∃ b o, x = some ⟨b, o, none⟩ ∧ b < w.heap.size ∧ ∀ i, i < len → ∃ k a s g : Int,
    w.cell? ⟨b, o + i * 4, none⟩ = some (.int .i64 k) ∧ w.cell? ⟨b, o + i * 4 + 1, none⟩ = some (.int .i64 a) ∧ w.cell? ⟨b, o + i * 4 + 2, none⟩ = some (.int .i64 s) ∧ w.cell? ⟨b, o + i * 4 + 3, none⟩ = some (.int .i64 g)
theorem ARow.get {w W : World} {x : Option Addr} {len : Nat} (h : ARow w x len) (hb : Below w.heap.size w W) (i : Nat) (hi : i < len) :
    ∃ b o k a s g, x = some ⟨b, o, none⟩ ∧ W.cell? ⟨b, o + i * 4, none⟩ = some (.int .i64 k) ∧ W.cell? ⟨b, o + i * 4 + 1, none⟩ = some (.int .i64 a) ∧ W.cell? ⟨b, o + i * 4 + 2, none⟩ = some (.int .i64 s) ∧ W.cell? ⟨b, o + i * 4 + 3, none⟩ = some (.int .i64 g) := by
  obtain ⟨b, o, hx, hlt, hc⟩ := h (by omega)
  obtain ⟨k, a, s, g, c0, c1, c2, c3⟩ := hc i hi
  refine ⟨b, o, k, a, s, g, hx, ?_, ?_, ?_, ?_⟩
  · rw [hb.cell (p := ⟨b, _, none⟩) hlt]; exact c0
  · rw [hb.cell (p := ⟨b, _, none⟩) hlt]; exact c1
  · rw [hb.cell (p := ⟨b, _, none⟩) hlt]; exact c2
  · rw [hb.cell (p := ⟨b, _, none⟩) hlt]; exact c3

theorem Try.cellsAct : Try.prog.cellsOf 29 = 4 := by kernel_rfl
theorem Try.cells3 : Try.prog.cellsOf 3 = 1 := by kernel_rfl
section
variable {H : Type} {enc : TypeId × Value → H} {w : World} {base : Nat} {spare : Nat → Bool} {held : Bool}
theorem act_cells {fuel : Nat} {cs : List Value} {x : DataW H × List MemPlace} (h : DataW.trod enc Try.prog w base spare held fuel 29 cs = some x) : ∃ k a s g, cs = [.int .i64 k, .int .i64 a, .int .i64 s, .int .i64 g] := by
  obtain ⟨y0, y1, y2, y3, n, _, hl, h0, h1, h2, h3⟩ := trod_struct4 Try.underlying29 h
  rw [Try.cellsAct] at hl
  simp only [Try.cells3, List.drop_zero] at h0 h1 h2 h3
  obtain ⟨k, e0, _⟩ := DataW.trod_int Try.underlying3 h0
  obtain ⟨a, e1, _⟩ := DataW.trod_int Try.underlying3 h1
  obtain ⟨s, e2, _⟩ := DataW.trod_int Try.underlying3 h2
  obtain ⟨g, e3, _⟩ := DataW.trod_int Try.underlying3 h3
  match cs, hl with
  | [c0, c1, c2, c3], _ =>
    simp at e0 e1 e2 e3
    exact ⟨k, a, s, g, by rw [e0, e1, e2, e3]⟩
theorem acts_open {fuel : Nat} {x : Option Addr} {len cap : Nat} {y : DataW H × List MemPlace} (h : DataW.trod enc Try.prog w base (fun _ => true) held fuel 22 [.slice x len cap] = some y) : len ≤ maxLen ∧ ARow w x len := by
  rcases open_slice Try.underlying22 h with ⟨hcs, _⟩ | ⟨a, len', cap', m, n, D, Pl, hcs, _, hl, hm, hmm, _, hel⟩
  · simp at hcs
    obtain ⟨rfl, rfl, rfl⟩ := hcs
    exact ⟨Nat.zero_le _, fun h => by omega⟩
  · simp at hcs
    obtain ⟨rfl, rfl, rfl⟩ := hcs
    simp only [if_true] at hmm
    subst hmm
    rw [Try.cellsAct] at hel
    refine ⟨by omega, fun h0 => ?_⟩
    have hall : ∀ i, i < m → ∃ k b s g : Int, w.cell? ((a.add (i * 4)).add 0) = some (.int .i64 k) ∧ w.cell? ((a.add (i * 4)).add 1) = some (.int .i64 b) ∧ w.cell? ((a.add (i * 4)).add 2) = some (.int .i64 s) ∧ w.cell? ((a.add (i * 4)).add 3) = some (.int .i64 g) := by
      intro i hi
      obtain ⟨cs', h1, h2⟩ := hel i hi
      obtain ⟨k, b, s, g, rfl⟩ := act_cells h2
      obtain ⟨_, _, h3⟩ := World.cells?_some h1
      exact ⟨k, b, s, g, h3 0 (by omega), h3 1 (by omega), h3 2 (by omega), h3 3 (by omega)⟩
    obtain ⟨_, _, _, _, hc, _⟩ := hall 0 (by omega)
    obtain ⟨b, off, spot⟩ := a
    have hspot : spot = none := by simpa [Addr.add] using World.cell?_spot hc
    subst hspot
    refine ⟨b, off, rfl, World.block_lt_of_cell? w _ hc, fun i hi => ?_⟩
    obtain ⟨k, b', s, g, z0, z1, z2, z3⟩ := hall i (by omega)
    simp only [add_plain] at z0 z1 z2 z3
    refine ⟨k, b', s, g, ?_, ?_, ?_, ?_⟩
    · simpa [Nat.add_assoc] using z0
    · simpa [Nat.add_assoc] using z1
    · simpa [Nat.add_assoc] using z2
    · simpa [Nat.add_assoc] using z3
end
end Go.Proofs.Ytbcibdofcjehcaa

/- The row of steps that came in, opened. -/
import Derived.Test.YtakgacahaennoaaDoorW5
import Derived.ProofKit
import Derived.OpenShut
import Derived.Deep.Slices
import Derived.Deep.Strs
namespace Go.Proofs.YtakgacahaennoaaDoor
open Go.ChangeShapes Go.WideShapes Go.ChangeAt Go.RowKit Go.Deep

theorem Tryd.cells28 : Tryd.prog.cellsOf 28 = 3 := by kernel_rfl
theorem Tryd.cells3 : Tryd.prog.cellsOf 3 = 1 := by kernel_rfl

section
variable {H : Type} {enc : TypeId × Value → H} {w : World} {base : Nat} {spare : Nat → Bool} {held : Bool}

theorem act_cells {fuel : Nat} {cs : List Value} {x : DataW H × List MemPlace} (h : DataW.trod enc Tryd.prog w base spare held fuel 28 cs = some x) : ∃ k a n, cs = [.int .i64 k, .int .i64 a, .int .i64 n] := by
  obtain ⟨y0, y1, y2, n, _, hl, h0, h1, h2⟩ := trod_struct3 Tryd.underlying28 h
  rw [Tryd.cells28] at hl
  simp only [Tryd.cells3, List.drop_zero] at h0 h1 h2
  obtain ⟨k, e0, _⟩ := DataW.trod_int Tryd.underlying3 h0
  obtain ⟨a, e1, _⟩ := DataW.trod_int Tryd.underlying3 h1
  obtain ⟨m, e2, _⟩ := DataW.trod_int Tryd.underlying3 h2
  match cs, hl with
  | [c0, c1, c2], _ =>
    simp at e0 e1 e2
    exact ⟨k, a, m, by rw [e0, e1, e2]⟩

theorem acts_open {fuel : Nat} {x : Option Addr} {len cap : Nat} {y : DataW H × List MemPlace} (h : DataW.trod enc Tryd.prog w base (fun _ => true) held fuel 22 [.slice x len cap] = some y) : len ≤ maxLen ∧ ∃ zs, ARow w x len zs := by
  rcases open_slice Tryd.underlying22 h with ⟨hcs, _⟩ | ⟨a, len', cap', m, n, D, Pl, hcs, _, hl, hm, hmm, _, hel⟩
  · simp at hcs
    obtain ⟨rfl, rfl, rfl⟩ := hcs
    exact ⟨Nat.zero_le _, [], rfl, fun h => by omega⟩
  · simp at hcs
    obtain ⟨rfl, rfl, rfl⟩ := hcs
    simp only [if_true] at hmm
    subst hmm
    rw [Tryd.cells28] at hel
    have hall : ∀ i, i < m → ∃ z : Int × Int × Int, w.cell? ((a.add (i * 3)).add 0) = some (.int .i64 z.1) ∧ w.cell? ((a.add (i * 3)).add 1) = some (.int .i64 z.2.1) ∧ w.cell? ((a.add (i * 3)).add 2) = some (.int .i64 z.2.2) := by
      intro i hi
      obtain ⟨cs', h1, h2⟩ := hel i hi
      obtain ⟨k, b, s, rfl⟩ := act_cells h2
      obtain ⟨_, _, h3⟩ := World.cells?_some h1
      exact ⟨(k, b, s), h3 0 (by omega), h3 1 (by omega), h3 2 (by omega)⟩
    obtain ⟨z, hz⟩ := choose_lt hall
    refine ⟨by omega, (List.range len).map z, by simp, fun h0 => ?_⟩
    have hc := (hz 0 (by omega)).1
    obtain ⟨b, off, spot⟩ := a
    have hspot : spot = none := by simpa [Addr.add] using World.cell?_spot hc
    subst hspot
    refine ⟨b, off, rfl, World.block_lt_of_cell? w _ hc, fun i hi => ?_⟩
    have hzi := hz i (by omega)
    simp only [add_plain] at hzi
    refine ⟨(z i).1, (z i).2.1, (z i).2.2, by simp [hi], ?_, ?_, ?_⟩
    · simpa [Nat.add_assoc] using hzi.1
    · simpa [Nat.add_assoc] using hzi.2.1
    · simpa [Nat.add_assoc] using hzi.2.2
end
end Go.Proofs.YtakgacahaennoaaDoor

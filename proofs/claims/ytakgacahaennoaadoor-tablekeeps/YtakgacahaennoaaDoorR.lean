/- A slice of integers that came in, opened as the walks take it. -/
import Derived.WalkKit
import Derived.OpenShut
import Derived.ProofKit
import Derived.Test.YtakgacahaennoaaDoorW3
namespace Go.Proofs.YtakgacahaennoaaDoor
open Go.RowKit

theorem row_open {k : IntKind} {w : World} {a : Option Addr} {len cap : Nat} {zs : List Int}
    (h : (a = none ∧ len = 0 ∧ cap = 0 ∧ zs = []) ∨ ∃ x, a = some x ∧ len ≤ cap ∧ cap ≤ maxLen ∧ zs.length = cap ∧ (∀ i, i < zs.length → w.cell? (x.add i) = some (.int k (zs.getD i 0))) ∧ ∀ n ∈ zs, (Lit.int k n).wf = true) :
    (zs.take len).length = len ∧ (0 < len → ∃ b o, a = some ⟨b, o, none⟩ ∧ b < w.heap.size ∧ ∀ i, i < len → w.cell? ⟨b, o + i, none⟩ = some (.int k ((zs.take len).getD i 0))) ∧ ∀ n ∈ zs.take len, (Lit.int k n).wf = true := by
  rcases h with ⟨rfl, rfl, rfl, rfl⟩ | ⟨⟨b, off, spot⟩, rfl, hl, hm, hz, hcell, hwz⟩
  · exact ⟨rfl, fun h => by omega, fun n hn => by simp at hn⟩
  · refine ⟨by simp; omega, fun h0 => ?_, fun n hn => hwz n (List.mem_of_mem_take hn)⟩
    have hc := hcell 0 (by omega)
    have hspot : spot = none := by simpa [Addr.add] using World.cell?_spot hc
    subst hspot
    refine ⟨b, off, rfl, World.block_lt_of_cell? w _ hc, fun i hi => ?_⟩
    have hci := hcell i (by omega)
    have e : (zs.take len).getD i 0 = zs.getD i 0 := by
      rw [List.getD_eq_getElem?_getD, List.getD_eq_getElem?_getD, List.getElem?_take]
      simp [hi]
    rw [e]
    rcases i with _ | i
    · simpa [Addr.add] using hci
    · simpa [Addr.add] using hci

open Go.ChangeShapes Go.WideShapes Go.ChangeAt in
theorem ints_open {H : Type} {enc : TypeId × Value → H} {w : World} {base : Nat} {held : Bool} {fuel : Nat} {a : Option Addr} {len cap : Nat} {T E : TypeId} {y : DataW H × List MemPlace} {k : IntKind} {bd : Nat} (hbd : ∀ n, (Lit.int k n).wf = true → 0 ≤ n ∧ n ≤ bd) (ht : Tryd.prog.underlying T = some (.slice E)) (he : Tryd.prog.underlying E = some (.int k)) (hc : Tryd.prog.cellsOf E = 1)
    (h : DataW.trod enc Tryd.prog w base (fun _ => true) held fuel T (Value.slice a len cap).cells.toList = some y) : len ≤ maxLen ∧ ∃ zs, NRow k bd w a len zs := by
  have h0 : ∃ zs : List Int, (a = none ∧ len = 0 ∧ cap = 0 ∧ zs = []) ∨ ∃ x, a = some x ∧ len ≤ cap ∧ cap ≤ maxLen ∧ zs.length = cap ∧ (∀ i, i < zs.length → w.cell? (x.add i) = some (.int k (zs.getD i 0))) ∧ ∀ n ∈ zs, (Lit.int k n).wf = true := by
    rcases open_ints ht he hc h with ⟨hcs, _⟩ | ⟨x, l, c, zs, hcs, _, hl, hm, hz, _, hcell, hwz⟩
    · simp [Value.cells] at hcs
      obtain ⟨rfl, rfl, rfl⟩ := hcs
      exact ⟨[], .inl ⟨rfl, rfl, rfl, rfl⟩⟩
    · simp [Value.cells] at hcs
      obtain ⟨rfl, rfl, rfl⟩ := hcs
      exact ⟨zs, .inr ⟨_, rfl, hl, hm, by simpa using hz, hcell, hwz⟩⟩
  obtain ⟨zs, hzs⟩ := h0
  obtain ⟨h1, h2, h3⟩ := row_open hzs
  exact ⟨by rcases hzs with ⟨_, h, _⟩ | ⟨_, _, h, h4, _⟩ <;> omega, zs.take len, h1, h2, fun n hn => hbd n (h3 n hn)⟩
end Go.Proofs.YtakgacahaennoaaDoor

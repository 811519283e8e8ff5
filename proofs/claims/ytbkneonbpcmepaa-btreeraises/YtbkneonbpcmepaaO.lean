/- What came in, opened: arrays and slices of integers. -/
import Derived.Test.YtbkneonbpcmepaaRows
import Derived.WalkKit
import Derived.OpenShut
import Derived.ProofKit
import Derived.Deep.Slices
import Derived.Deep.Strs
import Derived.Lib.SmallJoins
namespace Go.Proofs.Ytbkneonbpcmepaa
open Go.ChangeShapes Go.WideShapes Go.ChangeAt Go.RowKit Go.Joins Go.Deep

theorem Try.cells5 : Try.prog.cellsOf 5 = 1 := by kernel_rfl
theorem Try.cells48 : Try.prog.cellsOf 48 = 1 := by kernel_rfl
theorem Try.cells43 : Try.prog.cellsOf 43 = 1 := by kernel_rfl

section
variable {H : Type} {enc : TypeId × Value → H} {W : World} {base : Nat} {sp : Nat → Bool} {held : Bool} {t e : TypeId} {k : IntKind} {d : DataW H} {ps : List MemPlace} {r : Reach} {b0 : Nat} {v : Value}

theorem arr_open {n : Nat} (ht : Try.prog.underlying t = some (.array n e)) (he : Try.prog.underlying e = some (.int k)) (hc : Try.prog.cellsOf e = 1) (hct : Try.prog.cellsOf t = n)
    (hv : Value.okWide Try.prog W r b0 t v) (h : DataW.Trod enc Try.prog W base sp held t v d ps) :
    ∃ cs : Array Value, v = .agg cs ∧ cs.size = n ∧ ∀ i, i < n → ∃ x, cs[i]? = some (.int k x) ∧ (Lit.int k x).wf = true := by
  simp only [Value.okWide, ht] at hv
  obtain ⟨cs, rfl, h2, _⟩ := hv
  obtain ⟨fuel, hf⟩ := h
  obtain ⟨xs, m, _, _, hl, hxl, hel⟩ := DataW.trod_array ht hf
  refine ⟨cs, rfl, by rw [h2, hct], fun i hi => ?_⟩
  have h3 := hel i hi
  rw [hc, Nat.mul_one, List.getElem?_eq_getElem (by omega)] at h3
  obtain ⟨x, ex, _, wx⟩ := DataW.trod_int he h3
  refine ⟨x, ?_, wx⟩
  have := congrArg (fun l : List Value => l[0]?) ex
  simpa [Value.cells] using this
theorem arr2_open (ht : Try.prog.underlying t = some (.array 2 e)) (he : Try.prog.underlying e = some (.int k)) (hc : Try.prog.cellsOf e = 1) (hct : Try.prog.cellsOf t = 2)
    (hv : Value.okWide Try.prog W r b0 t v) (h : DataW.Trod enc Try.prog W base sp held t v d ps) : ∃ x y, v = .agg #[.int k x, .int k y] ∧ (Lit.int k x).wf = true ∧ (Lit.int k y).wf = true := by
  obtain ⟨cs, rfl, hs, hel⟩ := arr_open ht he hc hct hv h
  obtain ⟨x, ex, wx⟩ := hel 0 (by omega)
  obtain ⟨y, ey, wy⟩ := hel 1 (by omega)
  refine ⟨x, y, ?_, wx, wy⟩
  congr 1
  apply Array.ext (by simp [hs])
  intro i h1 h2
  have hi : i = 0 ∨ i = 1 := by omega
  rcases hi with rfl | rfl
  · rw [Array.getElem?_eq_getElem (by omega)] at ex; simpa using ex
  · rw [Array.getElem?_eq_getElem (by omega)] at ey; simpa using ey
theorem arr3_open (ht : Try.prog.underlying t = some (.array 3 e)) (he : Try.prog.underlying e = some (.int k)) (hc : Try.prog.cellsOf e = 1) (hct : Try.prog.cellsOf t = 3)
    (hv : Value.okWide Try.prog W r b0 t v) (h : DataW.Trod enc Try.prog W base sp held t v d ps) : ∃ x y z, v = .agg #[.int k x, .int k y, .int k z] ∧ (Lit.int k x).wf = true ∧ (Lit.int k y).wf = true ∧ (Lit.int k z).wf = true := by
  obtain ⟨cs, rfl, hs, hel⟩ := arr_open ht he hc hct hv h
  obtain ⟨x, ex, wx⟩ := hel 0 (by omega)
  obtain ⟨y, ey, wy⟩ := hel 1 (by omega)
  obtain ⟨z, ez, wz⟩ := hel 2 (by omega)
  refine ⟨x, y, z, ?_, wx, wy, wz⟩
  congr 1
  apply Array.ext (by simp [hs])
  intro i h1 h2
  have hi : i = 0 ∨ i = 1 ∨ i = 2 := by omega
  rcases hi with rfl | rfl | rfl
  · rw [Array.getElem?_eq_getElem (by omega)] at ex; simpa using ex
  · rw [Array.getElem?_eq_getElem (by omega)] at ey; simpa using ey
  · rw [Array.getElem?_eq_getElem (by omega)] at ez; simpa using ez
theorem arr4_open (ht : Try.prog.underlying t = some (.array 4 e)) (he : Try.prog.underlying e = some (.int k)) (hc : Try.prog.cellsOf e = 1) (hct : Try.prog.cellsOf t = 4)
    (hv : Value.okWide Try.prog W r b0 t v) (h : DataW.Trod enc Try.prog W base sp held t v d ps) : ∃ x y z u, v = .agg #[.int k x, .int k y, .int k z, .int k u] ∧ (Lit.int k x).wf = true ∧ (Lit.int k y).wf = true ∧ (Lit.int k z).wf = true ∧ (Lit.int k u).wf = true := by
  obtain ⟨cs, rfl, hs, hel⟩ := arr_open ht he hc hct hv h
  obtain ⟨x, ex, wx⟩ := hel 0 (by omega)
  obtain ⟨y, ey, wy⟩ := hel 1 (by omega)
  obtain ⟨z, ez, wz⟩ := hel 2 (by omega)
  obtain ⟨u, eu, wu⟩ := hel 3 (by omega)
  refine ⟨x, y, z, u, ?_, wx, wy, wz, wu⟩
  congr 1
  apply Array.ext (by simp [hs])
  intro i h1 h2
  have hi : i = 0 ∨ i = 1 ∨ i = 2 ∨ i = 3 := by omega
  rcases hi with rfl | rfl | rfl | rfl
  · rw [Array.getElem?_eq_getElem (by omega)] at ex; simpa using ex
  · rw [Array.getElem?_eq_getElem (by omega)] at ey; simpa using ey
  · rw [Array.getElem?_eq_getElem (by omega)] at ez; simpa using ez
  · rw [Array.getElem?_eq_getElem (by omega)] at eu; simpa using eu
end

/-- A row of integers that came in. -/
def IRow (k : IntKind) (w : World) (x : Option Addr) (len : Nat) (zs : List Int) : Prop :=
  zs.length = len ∧ (0 < len → ∃ b o, x = some ⟨b, o, none⟩ ∧ b < w.heap.size ∧ ∀ i, i < len → w.cell? ⟨b, o + i, none⟩ = some (.int k (zs.getD i 0))) ∧ ∀ n ∈ zs, (Lit.int k n).wf = true

theorem row_open {k : IntKind} {w : World} {a : Option Addr} {len cap : Nat} {zs : List Int}
    (h : (a = none ∧ len = 0 ∧ cap = 0 ∧ zs = []) ∨ ∃ x, a = some x ∧ len ≤ cap ∧ cap ≤ maxLen ∧ zs.length = cap ∧ (∀ i, i < zs.length → w.cell? (x.add i) = some (.int k (zs.getD i 0))) ∧ ∀ n ∈ zs, (Lit.int k n).wf = true) :
    IRow k w a len (zs.take len) := by
  rcases h with ⟨rfl, rfl, rfl, rfl⟩ | ⟨⟨b, off, spot⟩, rfl, hl, hm, hz, hcell, hwz⟩
  · exact ⟨rfl, fun h => by omega, fun n hn => by simp at hn⟩
  · refine ⟨by simp; omega, fun h0 => ?_, fun n hn => hwz n (List.mem_of_mem_take hn)⟩
    have hc := hcell 0 (by omega)
    have hspot : spot = none := by simpa [Addr.add] using World.cell?_spot hc
    subst hspot
    refine ⟨b, off, rfl, World.block_lt_of_cell? w _ hc, fun i hi => ?_⟩
    have hci := hcell i (by omega)
    have e : (zs.take len).getD i 0 = zs.getD i 0 := by
      rw [List.getD_eq_getElem?_getD, List.getD_eq_getElem?_getD, List.getElem?_take]
      simp [hi]
    rw [e]
    rcases i with _ | i
    · simpa [Addr.add] using hci
    · simpa [Addr.add] using hci
theorem ints_open {H : Type} {enc : TypeId × Value → H} {w : World} {base : Nat} {held : Bool} {a : Option Addr} {len cap : Nat} {T E : TypeId} {d : DataW H} {ps : List MemPlace} {k : IntKind} (ht : Try.prog.underlying T = some (.slice E)) (he : Try.prog.underlying E = some (.int k)) (hc : Try.prog.cellsOf E = 1)
    (h : DataW.Trod enc Try.prog w base (fun _ => true) held T (Value.slice a len cap) d ps) : len ≤ maxLen ∧ ∃ zs, IRow k w a len zs := by
  obtain ⟨fuel, h⟩ := h
  have h0 : ∃ zs : List Int, (a = none ∧ len = 0 ∧ cap = 0 ∧ zs = []) ∨ ∃ x, a = some x ∧ len ≤ cap ∧ cap ≤ maxLen ∧ zs.length = cap ∧ (∀ i, i < zs.length → w.cell? (x.add i) = some (.int k (zs.getD i 0))) ∧ ∀ n ∈ zs, (Lit.int k n).wf = true := by
    rcases open_ints ht he hc h with ⟨hcs, _⟩ | ⟨x, l, c, zs, hcs, _, hl, hm, hz, _, hcell, hwz⟩
    · simp [Value.cells] at hcs
      obtain ⟨rfl, rfl, rfl⟩ := hcs
      exact ⟨[], .inl ⟨rfl, rfl, rfl, rfl⟩⟩
    · simp [Value.cells] at hcs
      obtain ⟨rfl, rfl, rfl⟩ := hcs
      exact ⟨zs, .inr ⟨_, rfl, hl, hm, by simpa using hz, hcell, hwz⟩⟩
  obtain ⟨zs, hzs⟩ := h0
  exact ⟨by rcases hzs with ⟨_, h, _⟩ | ⟨_, _, h, h4, _⟩ <;> omega, zs.take len, row_open hzs⟩
end Go.Proofs.Ytbkneonbpcmepaa

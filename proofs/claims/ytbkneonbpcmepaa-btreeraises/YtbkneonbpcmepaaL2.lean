/- A second sequence beside a first one. -/
import Derived.Test.YtbkneonbpcmepaaH2
import Derived.Test.YtbkneonbpcmepaaL
namespace Go.Proofs.Ytbkneonbpcmepaa
open Go.RowKit Go.Arb
set_option linter.unusedVariables false
set_option linter.unusedSimpArgs false

theorem IRow.below {k : IntKind} {w W : World} {x : Option Addr} {len : Nat} {zs : List Int} (h : IRow k w x len zs) (hb : Below w.heap.size w W) : IRow k W x len zs := by
  refine ⟨h.1, fun h0 => ?_, h.2.2⟩
  obtain ⟨b, o, e, h1, h2⟩ := h.2.1 h0
  exact ⟨b, o, e, Nat.lt_of_lt_of_le h1 hb.size, fun i hi => by rw [hb.cell (p := ⟨b, o + i, Option.none⟩) h1]; exact h2 i hi⟩
theorem o2Laid {w W : World} {p : Nat} {T : Se} {js : List Nat} (h : Ob w W p T js) (n : Nat) (y : Option Addr) (ly cy : Nat) (ws : List Int) (hn : n ≤ 1000) (hy : IRow .i16 w y ly ws) (hly : ly ≤ maxLen) :
    Calls Try.prog 43 #[.int .i64 (n : Int), .slice y ly cy] W fun e W' => ∃ q, e = .returned (.pointer (some ⟨q, 0, none⟩)) ∧ Ob2 At w W' p q T (ln n n (wF ws)) js ∧ Kept js W W' := by
  refine (laid_any (w := W) (js := []) n y ly cy ws W (Below.refl _ _) (by simp) hn (hy.below h.bel) hly).mono ?_
  rintro e W' ⟨q, rfl, h2, _⟩
  obtain ⟨ls, r1, r2, _⟩ := h2.ex
  exact ⟨q, rfl, h.pair h2.bel r1 r2⟩
end Go.Proofs.Ytbkneonbpcmepaa

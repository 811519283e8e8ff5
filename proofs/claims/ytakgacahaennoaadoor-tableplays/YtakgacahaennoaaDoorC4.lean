import Derived.Test.YtakgacahaennoaaDoorC3
import Derived.Deep.OwnRows
namespace Go.Proofs.YtakgacahaennoaaDoor
open Go.RowKit Go.Arb

theorem flat_zero (N : Nat) : flat cC (List.replicate N (0, 0)) = List.replicate (N * 2) (.int .i64 0) := by
  induction N with
  | zero => rfl
  | succ N ih =>
    rw [List.replicate_succ, show (N + 1) * 2 = N * 2 + 1 + 1 from by omega, List.replicate_succ, List.replicate_succ, ← ih]
    rfl
theorem made_two (N : Nat) : (madeCells #[.int .i64 0, .int .i64 0] (N * 2)).toList = flat cC (List.replicate N (0, 0)) := by
  rw [flat_zero]
  apply List.ext_getElem?
  intro j
  by_cases hj : j < N * 2
  · have h2 : j % 2 = 0 ∨ j % 2 = 1 := by omega
    rcases h2 with h2 | h2 <;> simp [madeCells, hj, h2]
  · simp [madeCells, hj]

theorem Tryd.info54 : (Tryd.prog.info? 54).map (fun i => (i.zero, i.size, i.bytes)) = some (some (.agg #[.int .i64 0, .int .i64 0]), 2, 16) := by kernel_rfl
theorem make_cells (N : Nat) (hN : N ≤ 4194304) (w : World) :
    (Instr.makeSlice 46 (.int .i64 (N : Int)) (.int .i64 (N : Int))).run Tryd.prog w = .ok (.slice (some ⟨w.heap.size, 0, none⟩) N N) (w.alloc (.cells (madeCells #[.int .i64 0, .int .i64 0] (N * 2)) 54)) := by
  obtain ⟨i, hi, hzz⟩ := Option.map_eq_some_iff.1 Tryd.info54
  simp only [Prod.mk.injEq] at hzz
  obtain ⟨hz, hs, hb⟩ := hzz
  have hr := run_make (P := Tryd.prog) w 46 54 i _ Tryd.underlying46 hi hz .i64 .i64 N N (by omega) (Int.le_refl _) (by rw [hb]; omega) (by omega)
  simp only [Int.toNat_natCast, hs] at hr
  exact hr

/-- The table is laid anew, with N free cells. -/
theorem TcIn.anew {w : World} {p : Nat} {v : Value} {C : Tc} (h : TcIn w p v C) (N : Nat) (hN : N ≤ 4194304) :
    TcIn ((((w.setCell ⟨p, 0, none⟩ (.slice (some ⟨w.heap.size, 0, none⟩) N N)).setCell ⟨p, 1, none⟩ (.int .i64 0)).setCell ⟨p, 2, none⟩ (.int .i64 0)).alloc (.cells (madeCells #[.int .i64 0, .int .i64 0] (N * 2)) 54)) p (.slice (some ⟨w.heap.size, 0, none⟩) N N) ⟨List.replicate N (0, 0), 0, 0⟩
    ∧ Keep [p] w ((((w.setCell ⟨p, 0, none⟩ (.slice (some ⟨w.heap.size, 0, none⟩) N N)).setCell ⟨p, 1, none⟩ (.int .i64 0)).setCell ⟨p, 2, none⟩ (.int .i64 0)).alloc (.cells (madeCells #[.int .i64 0, .int .i64 0] (N * 2)) 54)) := by
  have hp := blk_lt h.blk
  have h1p : 1 ≠ p := fun e => h.one (by simp [e])
  have hk : Keep [p] w ((((w.setCell ⟨p, 0, none⟩ (.slice (some ⟨w.heap.size, 0, none⟩) N N)).setCell ⟨p, 1, none⟩ (.int .i64 0)).setCell ⟨p, 2, none⟩ (.int .i64 0)).alloc (.cells (madeCells #[.int .i64 0, .int .i64 0] (N * 2)) 54)) :=
    ((((Keep.refl [p] w).setCell (p := ⟨p, 0, none⟩) (by simp) _).setCell (p := ⟨p, 1, none⟩) (by simp) _).setCell (p := ⟨p, 2, none⟩) (by simp) _).alloc _
  refine ⟨⟨?_, ?_, ?_, h.tab.keep hk (by simpa using h1p), ?_⟩, hk⟩
  · rw [Below.heap_alloc _ _ _ (by simp [World.setCell]; omega)]
    rw [heap_setCell_same _ p 2 _ _ _ (heap_setCell_same _ p 1 _ _ _ (heap_setCell_same w p 0 _ _ _ h.blk))]
    simp
  · refine ⟨by simp [flat_zero], .inr ⟨w.heap.size, N, madeCells #[.int .i64 0, .int .i64 0] (N * 2), by simp, Nat.zero_le _, ?_, by simp, by unfold maxLen; omega, size_madeCells _ _, ?_⟩⟩
    · have := heap_alloc_new (((w.setCell ⟨p, 0, none⟩ (.slice (some ⟨w.heap.size, 0, none⟩) N N)).setCell ⟨p, 1, none⟩ (.int .i64 0)).setCell ⟨p, 2, none⟩ (.int .i64 0)) (.cells (madeCells #[.int .i64 0, .int .i64 0] (N * 2)) 54)
      simpa [World.setCell] using this
    · simp only [List.length_replicate]
      rw [made_two, List.take_of_length_le (by simp [flat_zero])]
  · simp [own, Value.ownBlock]; omega
  · have := h.tab.2
    simp [own, Value.ownBlock]; omega

theorem Hash.spot {cs L : List Cell} (h : Hash cs L) (hb : busy cs < cs.length) (id : Nat) : ∃ t0, (∀ t, t < t0 → keyAt cs (pos cs.length (homeN cs.length id) t) ≠ 0) ∧ keyAt cs (pos cs.length (homeN cs.length id) t0) = 0 := by
  obtain ⟨tf, hf⟩ := h.free hb id
  obtain ⟨t0, _, h2, h3⟩ := least (fun t => keyAt cs (pos cs.length (homeN cs.length id) t) = 0) tf hf
  exact ⟨t0, h3, h2⟩

/-- A table whose cells are in order, and told as they are. -/
structure Good (C : Tc) (L : List Cell) : Prop where
  hash : Hash C.cells L
  ids : C.ids = L.length
  used : C.used = busy C.cells

theorem lay_good (id : Nat) (n : Int) (w : World) (p : Nat) (v : Value) (C : Tc) (L : List Cell) (h : TcIn w p v C) (hg : Good C L) (hb : busy C.cells < C.cells.length) (hid : id ≤ 2147483647) :
    Calls Tryd.prog 24 #[.pointer (some ⟨p, 0, none⟩), .int .i64 (id : Int), .int .i64 n] w fun e w' => e = .returned (.tuple #[]) ∧
      (∃ C', TcIn w' p v C' ∧ Good C' (((id : Int), n) :: L) ∧ C'.cells.length = C.cells.length ∧ busy C'.cells = busy C.cells + 1) ∧ Keep (fp p v) w w' := by
  obtain ⟨t0, h1, h2⟩ := Hash.spot hg.hash hb id
  obtain ⟨s, hs3, hs, hN⟩ := hg.hash.pow
  have hN' := hg.hash.posN
  have hl := live_length_le C.cells
  rw [hg.hash.perm.length_eq] at hl
  obtain ⟨k1, k2⟩ := hg.hash.lay id n t0 h2 h1
  refine (lay_core id n w p v C h s t0 hs hN hid h1 h2 (by rw [hg.ids]; omega) (by rw [hg.ids]; omega) (by rw [hg.used]; omega) (by rw [hg.used]; omega)).mono ?_
  rintro e w' ⟨rfl, a1, a2⟩
  exact ⟨rfl, ⟨_, a1, ⟨k1, by simp [hg.ids], by simp only; rw [k2, hg.used]; simp⟩, by simp, k2⟩, a2⟩
end Go.Proofs.YtakgacahaennoaaDoor

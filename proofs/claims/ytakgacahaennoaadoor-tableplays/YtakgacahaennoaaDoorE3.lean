import Derived.Test.YtakgacahaennoaaDoorE2
import Derived.Deep.DeepCutAuto
import Derived.Deep.RegionLaw
import Derived.Deep.DrawnRows
namespace Go.Proofs.YtakgacahaennoaaDoor
open Go.RowKit Go.Arb

theorem add_none (b off i : Nat) : (⟨b, off, none⟩ : Addr).add i = ⟨b, off + i, none⟩ := by unfold Addr.add; split <;> simp_all
theorem elem35 : Tryd.prog.underlying 35 = some (.slice (Tryd.prog.elem 35)) := by kernel_rfl
theorem size35 (w : World) : (sizeOf (Tryd.prog.elem 35)).run Tryd.prog w = .ok 1 w := by kernel_rfl

/-- The head of a row, sliced off. -/
theorem slice_lo {B : Nat} {W : World} {v : Value} {l : List Int} (h : IRow B W v l) (k : Nat) (hk : k ≤ l.length) :
    ∃ u, (∀ w, (Instr.sliceAt 35 v none (some (.int .i64 (k : Int))) none).run Tryd.prog w = .ok u w) ∧ Src W u k ((l.take k).map (Value.int .i64)) ∧ ∀ x ∈ own u, x ∈ own v := by
  rcases h.2 with ⟨rfl, h0⟩ | ⟨g, cap, cur, rfl, _, hg, hn, hm, _, _⟩
  · have hl : l = [] := List.length_eq_zero_iff.1 h0
    subst hl
    have hk0 : k = 0 := by simpa using hk
    subst hk0
    refine ⟨.slice none 0 0, fun w => ?_, .inl ⟨rfl, rfl, rfl⟩, fun x hx => hx⟩
    rw [run_sliceAt_slice _ _ _ _ _ _ elem35, run_slice_h _ _ _ _ _ elem35 _ _ (by omega) (by simp), size35]
    simp [Result.andThen, sliced]
  · refine ⟨.slice (some ⟨g, 0, none⟩) k cap, fun w => ?_, .inr ⟨⟨g, 0, none⟩, cap, rfl, by simp; omega, fun j x hj => ?_⟩, fun x hx => hx⟩
    · rw [run_sliceAt_slice _ _ _ _ _ _ elem35, run_slice_h _ _ _ _ _ elem35 _ _ (by omega) (by omega), size35]
      simp [Result.andThen, sliced, add_none]
    · have hjk : j < k := by have := (List.getElem?_eq_some_iff.1 hj).1; simp at this; omega
      rw [add_none, Nat.zero_add, h.cellAt j (by omega)]
      rw [← hj]
      simp [hjk]
/-- The rest of a row. -/
theorem slice_hi {B : Nat} {W : World} {v : Value} {l : List Int} (h : IRow B W v l) (k : Nat) (hk : k ≤ l.length) (i : Int) (hi : i = (k : Int)) :
    ∃ u, (∀ w, (Instr.sliceAt 35 v (some (.int .i64 i)) none none).run Tryd.prog w = .ok u w) ∧ Src W u (l.length - k) ((l.drop k).map (Value.int .i64)) ∧ ∀ x ∈ own u, x ∈ own v := by
  subst hi
  rcases h.2 with ⟨rfl, h0⟩ | ⟨g, cap, cur, rfl, _, hg, hn, hm, _, _⟩
  · have hl : l = [] := List.length_eq_zero_iff.1 h0
    subst hl
    have hk0 : k = 0 := by simpa using hk
    subst hk0
    refine ⟨.slice none 0 0, fun w => ?_, .inl ⟨rfl, rfl, rfl⟩, fun x hx => hx⟩
    rw [run_sliceAt_slice _ _ _ _ _ _ elem35, run_slice_l _ _ _ _ _ elem35 _ _ (by omega) (by simp), size35]
    simp [Result.andThen, sliced]
  · by_cases hc : cap = k
    · have hnk : l.length = k := by omega
      refine ⟨.slice (some ⟨g, 0, none⟩) (l.length - k) (cap - k), fun w => ?_, .inr ⟨⟨g, 0, none⟩, cap - k, rfl, by simp, fun j x hj => ?_⟩, fun x hx => hx⟩
      · rw [run_sliceAt_slice _ _ _ _ _ _ elem35, run_slice_l _ _ _ _ _ elem35 _ _ (by omega) (by omega), size35]
        simp [Result.andThen, sliced, hc]
      · rw [List.drop_of_length_le (by omega)] at hj; simp at hj
    · refine ⟨.slice (some ⟨g, k, none⟩) (l.length - k) (cap - k), fun w => ?_, .inr ⟨⟨g, k, none⟩, cap - k, rfl, by simp, fun j x hj => ?_⟩, fun x hx => hx⟩
      · rw [run_sliceAt_slice _ _ _ _ _ _ elem35, run_slice_l _ _ _ _ _ elem35 _ _ (by omega) (by omega), size35]
        simp [Result.andThen, sliced, hc, add_none]
      · have hjk : j < l.length - k := by have := (List.getElem?_eq_some_iff.1 hj).1; simp at this; omega
        rw [add_none, h.cellAt (k + j) (by omega)]
        rw [← hj]
        simp

theorem first_below {W W6 : World} (g6 : ((W.alloc (.cells #[] 3)).drew).grownBy W6 (Value.slice (some ⟨W.heap.size, 0, none⟩) 0 0).ownBlock) : Below W.heap.size W W6 :=
  Below.grown (((Below.refl _ _).alloc (Nat.le_refl _) _).drew) g6 (by simp) (fun k hk => by simp [Value.ownBlock] at hk; omega)
theorem next_below {W W6 W7 : World} {v6 : Value} {n : Nat} {xs : List Value} (b6 : Below W.heap.size W W6) (o6 : W6.ownsRow W.heap.size 3 1 v6 n xs) (g7 : W6.grownBy W7 v6.ownBlock) : Below W.heap.size W W7 :=
  b6.grown g7 b6.size (fun k hk => (o6.lt k hk).1)
theorem Src.below {W W' : World} {u v : Value} {m : Nat} {ys : List Value} {B : Nat} {l : List Int} (h : Src W u m ys) (hr : IRow B W v l) (hs : ∀ x ∈ own u, x ∈ own v) (hb : Below W.heap.size W W') : Src W' u m ys :=
  Src.keep h (Keep.ofBelow hb []) (fun k hk => ⟨row_lt hr k (hs k hk), by simp⟩)

/-- One field of the document's table after another: what has become of both rows. -/
theorem RfIn.newI {w W : World} {q : Nat} {vi va vi' : Value} {I A I' : List Int} (h : RfIn w q vi va I A) (hb : Below w.heap.size w W) (hr : IRow w.heap.size W vi' I') : RfIn (W.setCell ⟨q, 0, none⟩ vi') q vi' va I' A := by
  have hge := row_ge hr
  have hr0 : IRow 0 W vi' I' := ⟨hr.1, hr.2.imp id (fun ⟨g, cap, cur, a, _, c⟩ => ⟨g, cap, cur, a, Nat.zero_le _, c⟩)⟩
  refine (h.below hb).setI hr0 (fun hq => ?_) (fun k hk ha => ?_)
  · have := hge q hq; have := blk_lt h.blk; omega
  · have := hge k hk; have := row_lt h.ra k ha; omega
theorem RfIn.newA {w W : World} {q : Nat} {vi va va' : Value} {I A A' : List Int} (h : RfIn w q vi va I A) (hb : Below w.heap.size w W) (hr : IRow w.heap.size W va' A') : RfIn (W.setCell ⟨q, 1, none⟩ va') q vi va' I A' := by
  have hge := row_ge hr
  have hr0 : IRow 0 W va' A' := ⟨hr.1, hr.2.imp id (fun ⟨g, cap, cur, a, _, c⟩ => ⟨g, cap, cur, a, Nat.zero_le _, c⟩)⟩
  refine (h.below hb).setA hr0 (fun hq => ?_) (fun k hk ha => ?_)
  · have := hge q hq; have := blk_lt h.blk; omega
  · have := hge k ha; have := row_lt h.ri k hk; omega
theorem keep_new {w W : World} {q o : Nat} {u : Value} (hb : Below w.heap.size w W) : Keep [q] w (W.setCell ⟨q, o, none⟩ u) := (Keep.ofBelow hb [q]).setCell (p := ⟨q, o, none⟩) (by simp) _
end Go.Proofs.YtakgacahaennoaaDoor

import Derived.Test.YtnjnpcimnnmknaaE2
namespace Go.Proofs.Ytnjnpcimnnmknaa
open Go.RowKit Go.Arb

set_option maxHeartbeats 800000 in
theorem rtake_full (w : World) (q : Nat) (vg vb vf : Value) (R : Rs) (h : RsIn w q vg vb vf R) (hf : R.free = []) (hn : R.next = R.gen.length) :
    Calls Try.prog 10 #[.pointer (some ⟨q, 0, none⟩)] w fun e w' => e = .returned (.tuple #[.agg #[.int .i64 0, .int .i64 0], .bool false]) ∧ Below w.heap.size w w' := by
  obtain ⟨c0, c1, c2, c3, _⟩ := h.cells
  have hq := blk_lt h.blk
  obtain ⟨x, cap, rfl, hm⟩ := row_len h.rg
  obtain ⟨y, capf, rfl, hmf⟩ := row_len h.rf
  rw [hf] at c2
  rw [hn] at c3
  clear h
  generalize R.gen.length = n at *
  simp only [List.length_nil] at c2
  go_enter Try.func10, Try.ntmps10
  go_wp2
  refine bodyPost_ret (v := .tuple #[.agg #[.int .i64 0, .int .i64 0], .bool false]) (by simp [results, Try.results10, go_sem]) rfl ⟨rfl, ?_⟩
  exact (Below.refl _ _).alloc (Nat.le_refl _) _

theorem RsIn.ne {w : World} {q g b : Nat} {vf : Value} {R : Rs} {n m c d : Nat} (h : RsIn w q (.slice (some ⟨g, 0, none⟩) n c) (.slice (some ⟨b, 0, none⟩) m d) vf R) : q ≠ g ∧ q ≠ b ∧ g ≠ b :=
  ⟨by simpa [own, Value.ownBlock] using h.qg, by simpa [own, Value.ownBlock] using h.qb, by have := h.gb g (by simp [own, Value.ownBlock]); simpa [own, Value.ownBlock] using this⟩

theorem RsIn.drewN {w : World} {q : Nat} {vg vb vf : Value} {R : Rs} (h : RsIn w q vg vb vf R) (m : Nat) : RsIn (w.drewN m) q vg vb vf R := ⟨h.blk, h.rg, h.rb, h.rf, h.qg, h.qb, h.qf, h.gb, h.gf, h.bf⟩

set_option maxHeartbeats 1000000 in
theorem rtake_new (w : World) (q : Nat) (vg vb vf : Value) (R : Rs) (i : Nat) (x : Int) (y : Bool) (h : RsIn w q vg vb vf R) (hf : R.free = []) (hn : R.next = i) (hg : R.gen[i]? = some x) (hb : R.busy[i]? = some y) (hx0 : 0 ≤ x) (hx1 : x ≤ 1000000000) (hi1 : i ≤ 1048576) :
    Calls Try.prog 10 #[.pointer (some ⟨q, 0, none⟩)] w fun e w' => e = .returned (.tuple #[.agg #[.int .i64 (i : Int), .int .i64 (x + 1)], .bool true]) ∧ RsIn w' q vg vb vf { R with gen := R.gen.set i (x + 1), busy := R.busy.set i true, next := i + 1 } ∧ Keep (rfp q vg vb vf) w w' := by
  obtain ⟨c0, c1, c2, c3, f0, f1, f2, f3⟩ := h.cells
  have hq := blk_lt h.blk
  obtain ⟨hib, hbi⟩ := List.getElem?_eq_some_iff.1 hb
  obtain ⟨hi, hgi⟩ := List.getElem?_eq_some_iff.1 hg
  obtain ⟨z, capf, rfl, hmf⟩ := row_len h.rf
  obtain ⟨b, capb, rfl, hb1, hb2, hb3, _, d0, d1⟩ := row1 h.rb i hib
  obtain ⟨b', capg, rfl, hg1, hg2, hg3, _, e0, e1⟩ := row1 h.rg i hi
  obtain ⟨n1, n2, n3⟩ := h.ne
  rw [hbi] at d0
  rw [hgi] at e0
  rw [hf] at c2
  rw [hn] at c3
  simp only [List.length_nil] at c2
  have a1 := ((h.setNext ((i : Int) + 1)).setBusy rfl i true).setGen rfl i (x + 1)
  have hk1 := (((Keep.refl (rfp q (.slice (some ⟨b', 0, none⟩) R.gen.length capg) (.slice (some ⟨b, 0, none⟩) R.busy.length capb) (.slice z R.free.length capf)) w).setCell (p := ⟨q, 3, none⟩) (by simp [rfp]) (.int .i64 ((i : Int) + 1))).setCell (p := ⟨b, i, none⟩) (by simp [rfp, own, Value.ownBlock]) (.bool true)).setCell (p := ⟨b', i, none⟩) (by simp [rfp, own, Value.ownBlock]) (.int .i64 (x + 1))
  have a2 := a1.keep ((Keep.refl [] _).alloc (.cells #[.int .i64 (i : Int), .int .i64 (x + 1)] 29)) (fun _ _ => by simp)
  have hk2 := hk1.alloc (.cells #[.int .i64 (i : Int), .int .i64 (x + 1)] 29)
  have RR : Hid (_ ∧ _) := ⟨a2, hk2⟩
  clear h a1 a2 hk1 hk2 hg hb hgi hbi
  rw [hf] at *
  generalize R.gen.length = n at *
  generalize R.busy.length = m at *
  unfold maxLen at *
  have h1' : (0 : Int) ≤ (i : Int) := by omega
  have h2' : (i : Int) < (n : Int) := by omega
  have h3' : (i : Int) < (m : Int) := by omega
  have h4 : ((i : Int) == (n : Int)) = false := by rw [beq_eq_false_iff_ne]; omega
  go_enter Try.func10, Try.ntmps10
  go_wp2
  refine bodyPost_ret (v := .tuple #[.agg #[.int .i64 (i : Int), .int .i64 (x + 1)], .bool true]) (by simp [results, Try.results10, go_sem]) rfl ⟨rfl, RR.out.1, RR.out.2⟩

theorem snoc_get (l : List Int) (k : Int) : (l ++ [k])[l.length]? = some k := by simp

set_option maxHeartbeats 1000000 in
theorem rtake_old (w : World) (q : Nat) (vg vb vf : Value) (R : Rs) (fr : List Int) (i : Nat) (x : Int) (y : Bool) (h : RsIn w q vg vb vf R) (hf : R.free = fr ++ [(i : Int)]) (hg : R.gen[i]? = some x) (hb : R.busy[i]? = some y) (hx0 : 0 ≤ x) (hx1 : x ≤ 1000000000) (hi1 : i ≤ 1048576) :
    Calls Try.prog 10 #[.pointer (some ⟨q, 0, none⟩)] w fun e w' => e = .returned (.tuple #[.agg #[.int .i64 (i : Int), .int .i64 (x + 1)], .bool true]) ∧ ∃ vf', RsIn w' q vg vb vf' { R with gen := R.gen.set i (x + 1), busy := R.busy.set i true, free := fr } ∧ own vf' = own vf ∧ Keep (rfp q vg vb vf) w w' := by
  obtain ⟨c0, c1, c2, c3, f0, f1, f2, f3⟩ := h.cells
  have hq := blk_lt h.blk
  obtain ⟨hib, hbi⟩ := List.getElem?_eq_some_iff.1 hb
  obtain ⟨hi, hgi⟩ := List.getElem?_eq_some_iff.1 hg
  have hfl : R.free.length = fr.length + 1 := by rw [hf]; simp
  have hrf := h.rf
  have hlast : R.free[fr.length]'(by omega) = (i : Int) := by simp [hf]
  obtain ⟨z, capf, rfl, hf1, hf2, hf3, hfo, o0, o1⟩ := row1 h.rf fr.length (by omega)
  rw [hlast] at o0
  obtain ⟨b, capb, rfl, hb1, hb2, hb3, _, d0, d1⟩ := row1 h.rb i hib
  obtain ⟨b', capg, rfl, hg1, hg2, hg3, _, e0, e1⟩ := row1 h.rg i hi
  obtain ⟨n1, n2, n3⟩ := h.ne
  have n4 : q ≠ z := by simpa [own, Value.ownBlock] using h.qf
  rw [hbi] at d0
  rw [hgi] at e0
  have hpop : w.ownsRow 0 3 1 (.slice (some ⟨z, 0, none⟩) fr.length capf) fr.length (fr.map (Value.int .i64)) := ownsRow_pop (last := [.int .i64 (i : Int)]) (by simp) (by simpa [hf] using hrf)
  have hr : w.heap.size ∉ rfp q (.slice (some ⟨b', 0, none⟩) R.gen.length capg) (.slice (some ⟨b, 0, none⟩) R.busy.length capb) (.slice (some ⟨z, 0, none⟩) fr.length capf) := fun hm => by
    have := h.lt w.heap.size (by simpa [rfp, own, Value.ownBlock] using hm); omega
  have RR : Hid (∀ k, RsIn ((((((((w.alloc (.cells #[.int .i64 0, .int .i64 0] 29)).drewN k).setCell ⟨q, 2, none⟩ (.slice (some ⟨z, 0, none⟩) fr.length capf)).setCell ⟨b, i, none⟩ (.bool true)).setCell ⟨b', i, none⟩ (.int .i64 (x + 1))).setCell ⟨w.heap.size, 0, none⟩ (.int .i64 (i : Int))).setCell ⟨w.heap.size, 1, none⟩ (.int .i64 (x + 1)))) q (.slice (some ⟨b', 0, none⟩) R.gen.length capg) (.slice (some ⟨b, 0, none⟩) R.busy.length capb) (.slice (some ⟨z, 0, none⟩) fr.length capf) { R with gen := R.gen.set i (x + 1), busy := R.busy.set i true, free := fr } ∧
      Keep (rfp q (.slice (some ⟨b', 0, none⟩) R.gen.length capg) (.slice (some ⟨b, 0, none⟩) R.busy.length capb) (.slice (some ⟨z, 0, none⟩) R.free.length capf)) w ((((((((w.alloc (.cells #[.int .i64 0, .int .i64 0] 29)).drewN k).setCell ⟨q, 2, none⟩ (.slice (some ⟨z, 0, none⟩) fr.length capf)).setCell ⟨b, i, none⟩ (.bool true)).setCell ⟨b', i, none⟩ (.int .i64 (x + 1))).setCell ⟨w.heap.size, 0, none⟩ (.int .i64 (i : Int))).setCell ⟨w.heap.size, 1, none⟩ (.int .i64 (x + 1))))) := by
    intro k
    have kk : Keep [] w ((w.alloc (.cells #[.int .i64 0, .int .i64 0] 29)).drewN k) := Keep.ofBelow (below_drewN ((Below.refl _ _).alloc (Nat.le_refl _) _) _) _
    have h' := h.keep kk (fun _ _ => by simp)
    have a1 := ((RsIn.setFree h'.blk h'.rg h'.rb (row_keep hpop kk (fun _ _ => by simp)) h.qg h.qb (by simpa [own, Value.ownBlock] using n4) h.gb (by simpa [own, Value.ownBlock] using h.gf) (by simpa [own, Value.ownBlock] using h.bf)).setBusy rfl i true).setGen rfl i (x + 1)
    have a2 := (a1.keep (keep_cell _ w.heap.size 0 (.int .i64 (i : Int))) (off_one hr)).keep (keep_cell _ w.heap.size 1 (.int .i64 (x + 1))) (off_one hr)
    refine ⟨a2, ?_⟩
    exact (((((kk.mono (by simp)).setCell (p := ⟨q, 2, none⟩) (by simp [rfp]) (.slice (some ⟨z, 0, none⟩) fr.length capf)).setCell (p := ⟨b, i, none⟩) (by simp [rfp, own, Value.ownBlock]) (.bool true)).setCell (p := ⟨b', i, none⟩) (by simp [rfp, own, Value.ownBlock]) (.int .i64 (x + 1))).setCell (p := ⟨w.heap.size, 0, none⟩) (.inr (Nat.le_refl _)) (.int .i64 (i : Int))).setCell (p := ⟨w.heap.size, 1, none⟩) (.inr (Nat.le_refl _)) (.int .i64 (x + 1))
  clear h hg hb hgi hbi hpop hrf hlast hr
  rw [hfl] at *
  have HF : Hid (R.free = fr ++ [(i : Int)]) := hf
  clear hf
  generalize R.gen.length = n at *
  generalize R.busy.length = m at *
  generalize fr.length = t at *
  unfold maxLen at *
  have h1' : (0 : Int) ≤ (i : Int) := by omega
  have h2' : (i : Int) < (n : Int) := by omega
  have h3' : (i : Int) < (m : Int) := by omega
  go_enter Try.func10, Try.ntmps10
  go_wp2
  go_quiet (fail)
  go_wp2
  go_region
  go_wp2
  refine bodyPost_ret (v := .tuple #[.agg #[.int .i64 (i : Int), .int .i64 (x + 1)], .bool true]) (by simp [results, Try.results10, go_sem]) rfl ⟨rfl, _, (RR.out _).1, by simp [own, Value.ownBlock], (RR.out _).2⟩
end Go.Proofs.Ytnjnpcimnnmknaa

/- The document's arena in memory: a block with its four fields, and three rows. -/
import Derived.Test.YtnjnpcimnnmknaaC
import Derived.Test.YtnjnpcimnnmknaaM
import Derived.Deep.OwnRows
namespace Go.Proofs.Ytnjnpcimnnmknaa
open Go.RowKit Go.Arb

theorem row1 {α : Type} {f : α → Value} {w : World} {base : Nat} {e : TypeId} {v : Value} {l : List α} (h : w.ownsRow base e 1 v l.length (l.map f)) (i : Nat) (hi : i < l.length) :
    ∃ g cap, v = .slice (some ⟨g, 0, none⟩) l.length cap ∧ l.length ≤ cap ∧ cap ≤ maxLen ∧ g < w.heap.size ∧ own v = [g] ∧ w.cell? ⟨g, i, none⟩ = some (f l[i]) ∧ w.frozen? ⟨g, i, none⟩ = false := by
  obtain ⟨x, cap, hv, h1, h2, h3⟩ := row_form h
  obtain ⟨g, rfl, hg, how, hc⟩ := h3 (by omega)
  have := hc i (by omega)
  exact ⟨g, cap, hv, h1, h2, hg, how, by rw [this.1]; simp [hi], this.2⟩

theorem row1_set {α : Type} {f : α → Value} {w : World} {base : Nat} {e : TypeId} {g n cap : Nat} {l : List α} (h : w.ownsRow base e 1 (.slice (some ⟨g, 0, none⟩) n cap) l.length (l.map f)) (hn : n = l.length) (i : Nat) (a : α) :
    (w.setCell ⟨g, i, none⟩ (f a)).ownsRow base e 1 (.slice (some ⟨g, 0, none⟩) n cap) (l.set i a).length ((l.set i a).map f) := by
  subst hn
  have := (h.stored i (f a)).1
  simpa using this

/-- The document's arena. -/
structure Rs where
  gen : List Int
  busy : List Bool
  free : List Int
  next : Int

structure RsIn (w : World) (q : Nat) (vg vb vf : Value) (R : Rs) : Prop where
  blk : w.heap[q]? = some (.cells #[vg, vb, vf, .int .i64 R.next] 48 (0, 0))
  rg : w.ownsRow 0 3 1 vg R.gen.length (R.gen.map (Value.int .i64))
  rb : w.ownsRow 0 4 1 vb R.busy.length (R.busy.map Value.bool)
  rf : w.ownsRow 0 3 1 vf R.free.length (R.free.map (Value.int .i64))
  qg : q ∉ own vg
  qb : q ∉ own vb
  qf : q ∉ own vf
  gb : Off (own vg) (own vb)
  gf : Off (own vg) (own vf)
  bf : Off (own vb) (own vf)

def rfp (q : Nat) (vg vb vf : Value) : List Nat := q :: (own vg ++ own vb ++ own vf)

theorem RsIn.lt {w : World} {q : Nat} {vg vb vf : Value} {R : Rs} (h : RsIn w q vg vb vf R) : ∀ k ∈ rfp q vg vb vf, k < w.heap.size := fun k hk => by
  simp only [rfp, List.mem_cons, List.mem_append] at hk
  rcases hk with rfl | (hk | hk) | hk
  · exact blk_lt h.blk
  · exact row_lt h.rg k hk
  · exact row_lt h.rb k hk
  · exact row_lt h.rf k hk

theorem RsIn.keep {w w' : World} {q : Nat} {vg vb vf : Value} {R : Rs} {ks : List Nat} (h : RsIn w q vg vb vf R) (hk : Keep ks w w') (ho : Off (rfp q vg vb vf) ks) : RsIn w' q vg vb vf R :=
  ⟨by rw [hk.block q (blk_lt h.blk) (ho q (by simp [rfp]))]; exact h.blk, row_keep h.rg hk (fun k h1 => ho k (by simp [rfp, h1])), row_keep h.rb hk (fun k h1 => ho k (by simp [rfp, h1])), row_keep h.rf hk (fun k h1 => ho k (by simp [rfp, h1])), h.qg, h.qb, h.qf, h.gb, h.gf, h.bf⟩

theorem RsIn.cells {w : World} {q : Nat} {vg vb vf : Value} {R : Rs} (h : RsIn w q vg vb vf R) :
    w.cell? ⟨q, 0, none⟩ = some vg ∧ w.cell? ⟨q, 1, none⟩ = some vb ∧ w.cell? ⟨q, 2, none⟩ = some vf ∧ w.cell? ⟨q, 3, none⟩ = some (.int .i64 R.next) ∧
    w.frozen? ⟨q, 0, none⟩ = false ∧ w.frozen? ⟨q, 1, none⟩ = false ∧ w.frozen? ⟨q, 2, none⟩ = false ∧ w.frozen? ⟨q, 3, none⟩ = false := by
  simp [World.cell?, World.frozen?, h.blk]

theorem keep_cell (w : World) (b o : Nat) (u : Value) : Keep [b] w (w.setCell ⟨b, o, none⟩ u) := Keep.setCell (ks := [b]) (Keep.refl _ _) (p := ⟨b, o, none⟩) (by simp) _
theorem off_one {ks : List Nat} {b : Nat} (h : b ∉ ks) : Off ks [b] := fun k hk hm => by simp at hm; subst hm; exact h hk

theorem RsIn.setNext {w : World} {q : Nat} {vg vb vf : Value} {R : Rs} (h : RsIn w q vg vb vf R) (x : Int) : RsIn (w.setCell ⟨q, 3, none⟩ (.int .i64 x)) q vg vb vf { R with next := x } := by
  refine ⟨?_, row_keep h.rg (keep_cell _ _ _ _) (off_one h.qg), row_keep h.rb (keep_cell _ _ _ _) (off_one h.qb), row_keep h.rf (keep_cell _ _ _ _) (off_one h.qf), h.qg, h.qb, h.qf, h.gb, h.gf, h.bf⟩
  rw [heap_setCell_same w q 3 _ _ _ h.blk]; simp

/-- Another row is stored into the third field. -/
theorem RsIn.setFree {w : World} {q : Nat} {vg vb vf vf' : Value} {R : Rs} {l : List Int} (hb : w.heap[q]? = some (.cells #[vg, vb, vf, .int .i64 R.next] 48 (0, 0))) (rg : w.ownsRow 0 3 1 vg R.gen.length (R.gen.map (Value.int .i64))) (rb : w.ownsRow 0 4 1 vb R.busy.length (R.busy.map Value.bool)) (rf : w.ownsRow 0 3 1 vf' l.length (l.map (Value.int .i64)))
    (qg : q ∉ own vg) (qb : q ∉ own vb) (qf : q ∉ own vf') (gb : Off (own vg) (own vb)) (gf : Off (own vg) (own vf')) (bf : Off (own vb) (own vf')) : RsIn (w.setCell ⟨q, 2, none⟩ vf') q vg vb vf' { R with free := l } := by
  refine ⟨?_, row_keep rg (keep_cell _ _ _ _) (off_one qg), row_keep rb (keep_cell _ _ _ _) (off_one qb), row_keep rf (keep_cell _ _ _ _) (off_one qf), qg, qb, qf, gb, gf, bf⟩
  rw [heap_setCell_same w q 2 _ _ _ hb]; simp

theorem RsIn.setGen {w : World} {q g n cap : Nat} {vb vf : Value} {R : Rs} (h : RsIn w q (.slice (some ⟨g, 0, none⟩) n cap) vb vf R) (hn : n = R.gen.length) (i : Nat) (x : Int) : RsIn (w.setCell ⟨g, i, none⟩ (.int .i64 x)) q (.slice (some ⟨g, 0, none⟩) n cap) vb vf { R with gen := R.gen.set i x } := by
  have hg : g ∈ own (.slice (some ⟨g, 0, none⟩) n cap) := by simp [own, Value.ownBlock]
  refine ⟨?_, row1_set (f := Value.int .i64) h.rg hn i x, row_keep h.rb (keep_cell _ _ _ _) (off_one (h.gb g hg)), row_keep h.rf (keep_cell _ _ _ _) (off_one (h.gf g hg)), h.qg, h.qb, h.qf, h.gb, h.gf, h.bf⟩
  rw [Below.heap_setCell _ _ _ _ (fun e => h.qg (by rw [e]; exact hg))]; exact h.blk

theorem RsIn.setBusy {w : World} {q g n cap : Nat} {vg vf : Value} {R : Rs} (h : RsIn w q vg (.slice (some ⟨g, 0, none⟩) n cap) vf R) (hn : n = R.busy.length) (i : Nat) (x : Bool) : RsIn (w.setCell ⟨g, i, none⟩ (.bool x)) q vg (.slice (some ⟨g, 0, none⟩) n cap) vf { R with busy := R.busy.set i x } := by
  have hg : g ∈ own (.slice (some ⟨g, 0, none⟩) n cap) := by simp [own, Value.ownBlock]
  refine ⟨?_, row_keep h.rg (keep_cell _ _ _ _) (off_one (h.gb.symm g hg)), row1_set (f := Value.bool) h.rb hn i x, row_keep h.rf (keep_cell _ _ _ _) (off_one (h.bf g hg)), h.qg, h.qb, h.qf, h.gb, h.gf, h.bf⟩
  rw [Below.heap_setCell _ _ _ _ (fun e => h.qb (by rw [e]; exact hg))]; exact h.blk

theorem Try.info3 : (Try.prog.info? 3).map (fun i => (i.zero, i.size, i.bytes)) = some (some (.int .i64 0), 1, 8) := by kernel_rfl
theorem Try.info4 : (Try.prog.info? 4).map (fun i => (i.zero, i.size, i.bytes)) = some (some (.bool false), 1, 1) := by kernel_rfl

theorem row_made {w : World} {a n : Nat} {z : Value} {e : TypeId} (h : w.heap[a]? = some (.cells (madeCells #[z] n) e (0, 0))) (hn : n ≤ maxLen) : w.ownsRow 0 e 1 (.slice (some ⟨a, 0, none⟩) n n) n (List.replicate n z) :=
  ⟨by simp, .inr ⟨a, n, _, rfl, Nat.zero_le _, h, Nat.le_refl _, hn, by simp [size_madeCells], by rw [toList_madeCells_one]; simp⟩⟩

theorem rs_made {W : World} {q a b n : Nat} (hn : n ≤ maxLen) (hq : W.heap[q]? = some (.cells #[.slice (some ⟨a, 0, none⟩) n n, .slice (some ⟨b, 0, none⟩) n n, .slice none 0 0, .int .i64 0] 48 (0, 0)))
    (ha : W.heap[a]? = some (.cells (madeCells #[.int .i64 0] n) 3 (0, 0))) (hb : W.heap[b]? = some (.cells (madeCells #[.bool false] n) 4 (0, 0))) (h1 : q ≠ a) (h2 : q ≠ b) (h3 : a ≠ b) :
    RsIn W q (.slice (some ⟨a, 0, none⟩) n n) (.slice (some ⟨b, 0, none⟩) n n) (.slice none 0 0) ⟨List.replicate n 0, List.replicate n false, [], 0⟩ := by
  refine ⟨hq, by simpa using row_made ha hn, by simpa using row_made hb hn, World.ownsRow_nil _ _ _ _, by simpa [own, Value.ownBlock] using h1, by simpa [own, Value.ownBlock] using h2, by simp [own, Value.ownBlock], ?_, ?_, ?_⟩
  · intro k hk; simp [own, Value.ownBlock] at hk ⊢; omega
  · intro k hk; simp [own, Value.ownBlock]
  · intro k hk; simp [own, Value.ownBlock]

/-- Three blocks laid one behind the other. -/
theorem three_blocks (w : World) (a b c : Obj) : (((w.alloc a).alloc b).alloc c).heap[w.heap.size]? = some a ∧ (((w.alloc a).alloc b).alloc c).heap[w.heap.size + 1]? = some b ∧ (((w.alloc a).alloc b).alloc c).heap[w.heap.size + 1 + 1]? = some c := by
  refine ⟨?_, ?_, ?_⟩
  · rw [Below.heap_alloc _ _ _ (by simp; omega), Below.heap_alloc _ _ _ (by simp)]; exact heap_alloc_new w a
  · rw [Below.heap_alloc _ _ _ (by simp)]; have := heap_alloc_new (w.alloc a) b; simpa using this
  · have := heap_alloc_new ((w.alloc a).alloc b) c; simpa using this

/-- A new arena of the document's, in ks. -/
def Made (n : Nat) (w w' : World) (q : Nat) : Prop := ∃ ks, (∃ vg vb, RsIn w' q vg vb (.slice none 0 0) ⟨List.replicate n 0, List.replicate n false, [], 0⟩ ∧ ks = rfp q vg vb (.slice none 0 0)) ∧ Below w.heap.size w w' ∧ ∀ k ∈ ks, w.heap.size ≤ k

theorem below3 (w : World) (a b c : Obj) : Below w.heap.size w (((w.alloc a).alloc b).alloc c).drew :=
  ((((Below.refl _ _).alloc (Nat.le_refl _) _).alloc (by simp) _).alloc (by simp; omega) _).drew
theorem made1 (n : Nat) (w : World) (hn : n ≤ maxLen) : Made n w (((w.alloc (.cells (madeCells #[.int .i64 0] n) 3)).alloc (.cells (madeCells #[.bool false] n) 4)).alloc (.cells #[.slice (some ⟨w.heap.size, 0, none⟩) n n, .slice (some ⟨w.heap.size + 1, 0, none⟩) n n, .slice none 0 0, .int .i64 0] 48)).drew (w.heap.size + 1 + 1) := by
  obtain ⟨b1, b2, b3⟩ := three_blocks w (.cells (madeCells #[.int .i64 0] n) 3) (.cells (madeCells #[.bool false] n) 4) (.cells #[.slice (some ⟨w.heap.size, 0, none⟩) n n, .slice (some ⟨w.heap.size + 1, 0, none⟩) n n, .slice none 0 0, .int .i64 0] 48)
  refine ⟨_, ⟨_, _, rs_made hn b3 b1 b2 (by omega) (by omega) (by omega), rfl⟩, below3 _ _ _ _, fun k hk => ?_⟩
  simp [rfp, own, Value.ownBlock] at hk; omega
theorem made2 (n : Nat) (w : World) (hn : n ≤ maxLen) : Made n w (((w.alloc (.cells (madeCells #[.bool false] n) 4)).alloc (.cells (madeCells #[.int .i64 0] n) 3)).alloc (.cells #[.slice (some ⟨w.heap.size + 1, 0, none⟩) n n, .slice (some ⟨w.heap.size, 0, none⟩) n n, .slice none 0 0, .int .i64 0] 48)).drew (w.heap.size + 1 + 1) := by
  obtain ⟨b1, b2, b3⟩ := three_blocks w (.cells (madeCells #[.bool false] n) 4) (.cells (madeCells #[.int .i64 0] n) 3) (.cells #[.slice (some ⟨w.heap.size + 1, 0, none⟩) n n, .slice (some ⟨w.heap.size, 0, none⟩) n n, .slice none 0 0, .int .i64 0] 48)
  refine ⟨_, ⟨_, _, rs_made hn b3 b2 b1 (by omega) (by omega) (by omega), rfl⟩, below3 _ _ _ _, fun k hk => ?_⟩
  simp [rfp, own, Value.ownBlock] at hk; omega

set_option maxHeartbeats 800000 in
theorem rnew_any (n : Nat) (w : World) (h1 : n ≤ 1048576) :
    Calls Try.prog 8 #[.int .i64 (n : Int)] w fun e w' => e = .returned (.pointer (some ⟨w.heap.size + 1 + 1, 0, none⟩)) ∧ Made n w w' (w.heap.size + 1 + 1) := by
  have h' : ¬ (n : Int) < 0 := by omega
  have h'' : ¬ (1048576 : Int) < (n : Int) := by omega
  have hmk := run_make_row' (P := Try.prog) 41 3 (.int .i64 0) 8 Try.underlying41 Try.info3 rfl .i64 .i64 n (by omega) (by omega)
  have hmb := run_make_row' (P := Try.prog) 46 4 (.bool false) 1 Try.underlying46 Try.info4 rfl .i64 .i64 n (by omega) (by omega)
  go_enter Try.func8, Try.ntmps8
  go_wp2
  go_region
  all_goals
    go_wp2
    go_ret
    first | exact ⟨rfl, made1 n w (by unfold maxLen; omega)⟩ | exact ⟨rfl, made2 n w (by unfold maxLen; omega)⟩
end Go.Proofs.Ytnjnpcimnnmknaa

import Derived.Test.YtbcibdofcjehcaaE4
namespace Go.Proofs.Ytbcibdofcjehcaa
open Go.RowKit Go.Arb
set_option linter.unusedVariables false
set_option linter.unusedSimpArgs false

/-- Three rows and the block that names them, in whatever order the rows were laid. -/
theorem made_in {w W : World} {q bt bu bw n : Nat} (hq : W.heap[q]? = some (.cells #[.slice (some ⟨bt, 0, none⟩) n n, .slice (some ⟨bu, 0, none⟩) n n, .slice (some ⟨bw, 0, none⟩) n n] 68))
    (ht : W.heap[bt]? = some (.cells (madeCells #[.bool false] n) 4)) (hu : W.heap[bu]? = some (.cells (madeCells #[.int .i64 0] n) 3)) (hw : W.heap[bw]? = some (.cells (madeCells #[.int .i64 0] n) 3)) (nd : [q, bt, bu, bw].Nodup) : RIn W q bt bu bw n (fun _ => false) (fun _ => 0) (fun _ => 0) :=
  ⟨hq, ⟨_, ht, size_madeCells _ _, fun i hi => by simp [madeCells, hi, Nat.mod_one, blV]⟩, ⟨_, hu, size_madeCells _ _, fun i hi => by simp [madeCells, hi, Nat.mod_one, inV]⟩, ⟨_, hw, size_madeCells _ _, fun i hi => by simp [madeCells, hi, Nat.mod_one, inV]⟩, nd⟩
theorem four (w : World) (a b c d : Obj) : ((((w.alloc a).alloc b).alloc c).alloc d).heap[w.heap.size]? = some a ∧ ((((w.alloc a).alloc b).alloc c).alloc d).heap[w.heap.size + 1]? = some b ∧ ((((w.alloc a).alloc b).alloc c).alloc d).heap[w.heap.size + 1 + 1]? = some c ∧ ((((w.alloc a).alloc b).alloc c).alloc d).heap[w.heap.size + 1 + 1 + 1]? = some d := by
  have s1 : (w.alloc a).heap.size = w.heap.size + 1 := by simp
  have s2 : ((w.alloc a).alloc b).heap.size = w.heap.size + 1 + 1 := by simp
  have s3 : (((w.alloc a).alloc b).alloc c).heap.size = w.heap.size + 1 + 1 + 1 := by simp
  refine ⟨?_, ?_, ?_, ?_⟩
  · rw [Below.heap_alloc _ _ _ (by omega), Below.heap_alloc _ _ _ (by omega), Below.heap_alloc _ _ _ (by omega)]; exact heap_alloc_new w a
  · rw [Below.heap_alloc _ _ _ (by omega), Below.heap_alloc _ _ _ (by omega), ← s1]; exact heap_alloc_new _ b
  · rw [Below.heap_alloc _ _ _ (by omega), ← s2]; exact heap_alloc_new _ c
  · rw [← s3]; exact heap_alloc_new _ d
theorem below4 (w : World) (a b c d : Obj) : Below w.heap.size w ((((w.alloc a).alloc b).alloc c).alloc d) :=
  ((((Below.refl _ _).alloc (Nat.le_refl _) _).alloc (by simp) _).alloc (by simp; omega) _).alloc (by simp; omega) _

set_option maxHeartbeats 2000000 in
theorem rnew_any (n : Nat) (w : World) (h1 : n ≤ 1048576) :
    Calls Try.prog 16 #[.int .i64 (n : Int)] w fun e w' => ∃ q bt bu bw fu, e = .returned (.pointer (some ⟨q, 0, none⟩)) ∧ RIn w' q bt bu bw n (fun _ => false) fu (fun _ => 0) ∧ Below w.heap.size w w' ∧ ∀ k ∈ [q, bt, bu, bw], w.heap.size ≤ k := by
  have h' : ¬ (n : Int) < 0 := by omega
  have h'' : ¬ (1048576 : Int) < (n : Int) := by omega
  have hmk := run_make_row' (P := Try.prog) 53 3 (.int .i64 0) 8 Try.underlying53 Try.info3 rfl .i64 .i64 n (by omega) (by omega)
  have hmb := run_make_row' (P := Try.prog) 66 4 (.bool false) 1 Try.underlying66 Try.info4 rfl .i64 .i64 n (by omega) (by omega)
  go_enter Try.func16, Try.ntmps16
  go_upto_region 3 with fail
  go_cut [3] (fun s w' => ∃ q bt bu bw, s = .pointer (some ⟨q, 0, none⟩) ∧ Hid (RIn w' q bt bu bw n (fun _ => false) (fun _ => 0) (fun _ => 0) ∧ Below w.heap.size w w' ∧ ∀ k ∈ [q, bt, bu, bw], w.heap.size ≤ k))
  case first =>
    go_region
    all_goals
      go_wp2
      go_meet
      have F := fun a b c d => four w a b c d
      first
        | (refine ⟨w.heap.size + 1 + 1 + 1, w.heap.size, w.heap.size + 1, w.heap.size + 1 + 1, rfl, ?_, (below4 w _ _ _ _).drew, by simp; omega⟩; exact RIn.below (made_in (w := w) (F _ _ _ _).2.2.2 (F _ _ _ _).1 (F _ _ _ _).2.1 (F _ _ _ _).2.2.1 (by simp; omega)) (Below.refl _ _).drew)
        | (refine ⟨w.heap.size + 1 + 1 + 1, w.heap.size, w.heap.size + 1 + 1, w.heap.size + 1, rfl, ?_, (below4 w _ _ _ _).drew, by simp; omega⟩; exact RIn.below (made_in (w := w) (F _ _ _ _).2.2.2 (F _ _ _ _).1 (F _ _ _ _).2.2.1 (F _ _ _ _).2.1 (by simp; omega)) (Below.refl _ _).drew)
        | (refine ⟨w.heap.size + 1 + 1 + 1, w.heap.size + 1, w.heap.size, w.heap.size + 1 + 1, rfl, ?_, (below4 w _ _ _ _).drew, by simp; omega⟩; exact RIn.below (made_in (w := w) (F _ _ _ _).2.2.2 (F _ _ _ _).2.1 (F _ _ _ _).1 (F _ _ _ _).2.2.1 (by simp; omega)) (Below.refl _ _).drew)
        | (refine ⟨w.heap.size + 1 + 1 + 1, w.heap.size + 1, w.heap.size + 1 + 1, w.heap.size, rfl, ?_, (below4 w _ _ _ _).drew, by simp; omega⟩; exact RIn.below (made_in (w := w) (F _ _ _ _).2.2.2 (F _ _ _ _).2.1 (F _ _ _ _).2.2.1 (F _ _ _ _).1 (by simp; omega)) (Below.refl _ _).drew)
        | (refine ⟨w.heap.size + 1 + 1 + 1, w.heap.size + 1 + 1, w.heap.size, w.heap.size + 1, rfl, ?_, (below4 w _ _ _ _).drew, by simp; omega⟩; exact RIn.below (made_in (w := w) (F _ _ _ _).2.2.2 (F _ _ _ _).2.2.1 (F _ _ _ _).1 (F _ _ _ _).2.1 (by simp; omega)) (Below.refl _ _).drew)
        | (refine ⟨w.heap.size + 1 + 1 + 1, w.heap.size + 1 + 1, w.heap.size + 1, w.heap.size, rfl, ?_, (below4 w _ _ _ _).drew, by simp; omega⟩; exact RIn.below (made_in (w := w) (F _ _ _ _).2.2.2 (F _ _ _ _).2.2.1 (F _ _ _ _).2.1 (F _ _ _ _).1 (by simp; omega)) (Below.refl _ _).drew)

  obtain ⟨q, bt, bu, bw, rfl, HM⟩ := hcut
  clear hmk hmb
  go_wp2
  go_loopw [4] (fun i w' => ∃ (m : Nat) (fu : Nat → Int), m ≤ n ∧ i = .int .i64 (m : Int) ∧ Hid (RIn w' q bt bu bw n (fun _ => false) fu (fun _ => 0) ∧ Below w.heap.size w w' ∧ ∀ k ∈ [q, bt, bu, bw], w.heap.size ≤ k)) (fun i _ => n - (intOf i).toNat)
  case atStart => exact ⟨0, fun _ => 0, by omega, rfl, HM⟩
  case round =>
    clear HM
    obtain ⟨m, fu, hm, rfl, HM⟩ := hrel
    by_cases hlt : m < n
    · have e1 : (m : Int) < (n : Int) := by omega
      have e2 : (0 : Int) ≤ (m : Int) := by omega
      obtain ⟨r1, r2, r3⟩ := unhide HM
      obtain ⟨c0, c1, c2⟩ := r1.cells
      have d := r1.ru.cell hlt
      have f := r1.ru.frozen m
      unfold inV at d
      have R := hide (And.intro (r1.setU m (-1)).1 (And.intro (r2.setCell (p := ⟨bu, m, none⟩) (r3 bu (by simp)) (.int .i64 (-1))) r3))
      clear r1 r2 r3 HM
      generalize fu m = z at *
      go_wp2
      go_roundw
      case rel => exact ⟨m + 1, _, by omega, by go_num, R⟩
      case measure => simp [intOf]; omega
    · have e1 : ¬ (m : Int) < (n : Int) := by omega
      go_wp2
      go_ret
      exact ⟨q, rfl, bt, bu, bw, ⟨fu, (unhide HM).1⟩, by simpa using (unhide HM).2⟩
theorem Says.new (n : Nat) (h : n ≤ 1048576) (fu : Nat → Int) : Says (Tr.new n) n (fun _ => false) fu (fun _ => 0) :=
  ⟨rfl, fun _ _ => rfl, fun _ hv => absurd rfl hv, fun _ hv => absurd rfl hv, Tr.Wf.new n, Tr.Fit.new h⟩
end Go.Proofs.Ytbcibdofcjehcaa

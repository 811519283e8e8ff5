/- Parse, the program's. -/
import Derived.Test.YtgdiglkbeijomaaC3
import Derived.Laws.ResultCell
namespace Go.Proofs.Ytgdiglkbeijomaa
open Go.RowKit
/-- The node of some bytes; zeros, if they are none's. -/
def nI (l : List Nat) : Int := if isR l then pI l else 0
def nU (l : List Nat) : Int := if isR l then pU l else 0
def nW (l : List Nat) : Int := if isR l then pW l else 0

set_option maxRecDepth 100000 in
theorem parse_short (s : ByteArray) (h : ¬ s.size = 16) (w : World) :
    Calls Try.prog 12 #[.string s] w fun e w' => e = .returned (.tuple #[nd 0 0 0, .bool false]) ∧ Below w.heap.size w w' := by
  have h' : ((s.size : Int) != 16) = true := by
    rw [bne_iff_ne]
    omega
  go_enter Try.func12, Try.ntmps12
  go_wp2
  refine bodyPost_ret (v := .tuple #[nd 0 0 0, .bool false]) (by rw [results_cell_tmp rfl]; go_simp) rfl ⟨rfl, ?_⟩
  exact (Below.refl _ _).alloc (Nat.le_refl _) _

/-- A result's cell, and a variable's, behind whatever is drawn. -/
structure TwoB (w W : World) (I U X : Int) : Prop where
  bel : Below w.heap.size w W
  r : W.heap[w.heap.size]? = some (.cells #[.int .i64 0, .int .i64 0, .int .i64 0] 23 (0, 0))
  x : W.heap[w.heap.size + 1]? = some (.cells #[.int .i64 I, .int .i64 U, .int .i64 X] 23 (0, 0))
  n : W.heap.size = w.heap.size + 2
theorem TwoB.mk1 (w : World) (q : Nat) (I U X : Int) : TwoB w (((w.alloc (Obj.cells #[Value.int IntKind.i64 0, Value.int IntKind.i64 0, Value.int IntKind.i64 0] 23)).drewN q).alloc (Obj.cells #[Value.int IntKind.i64 I, Value.int IntKind.i64 U, Value.int IntKind.i64 X] 23)) I U X := by
  refine ⟨(below_drewN ((Below.refl _ _).alloc (Nat.le_refl _) _) q).alloc (by simp) _, ?_, ?_, by simp⟩
  · rw [Below.heap_alloc _ _ _ (by simp)]
    exact heap_alloc_new w _
  · have := heap_alloc_new ((w.alloc (Obj.cells #[Value.int IntKind.i64 0, Value.int IntKind.i64 0, Value.int IntKind.i64 0] 23)).drewN q) (Obj.cells #[Value.int IntKind.i64 I, Value.int IntKind.i64 U, Value.int IntKind.i64 X] 23)
    simpa using this
theorem TwoB.mk2 (w : World) (q r : Nat) (I U X : Int) : TwoB w (((((((w.alloc (Obj.cells #[Value.int IntKind.i64 0, Value.int IntKind.i64 0, Value.int IntKind.i64 0] 23)).drewN q).alloc
                      (Obj.cells #[Value.int IntKind.i64 0, Value.int IntKind.i64 0, Value.int IntKind.i64 0] 23)).drewN
                  r).setCell
              { block := w.heap.size + 1, off := 0 } (Value.int IntKind.i64 I)).setCell
          { block := w.heap.size + 1, off := 1 } (Value.int IntKind.i64 U)).setCell
      { block := w.heap.size + 1, off := 2 } (Value.int IntKind.i64 X)) I U X := by
  refine ⟨((((below_drewN ((below_drewN ((Below.refl _ _).alloc (Nat.le_refl _) _) q).alloc (by simp) _) r).setCell (by simp) _).setCell (by simp) _).setCell (by simp) _), ?_, ?_, by simp [World.setCell]⟩
  · rw [Below.heap_setCell _ _ _ _ (by simp), Below.heap_setCell _ _ _ _ (by simp), Below.heap_setCell _ _ _ _ (by simp)]
    show ((World.drewN (w.alloc _) q).alloc _).heap[w.heap.size]? = _
    rw [Below.heap_alloc _ _ _ (by simp)]
    exact heap_alloc_new w _
  · have := heap_alloc_new ((w.alloc (Obj.cells #[Value.int IntKind.i64 0, Value.int IntKind.i64 0, Value.int IntKind.i64 0] 23)).drewN q) (Obj.cells #[Value.int IntKind.i64 0, Value.int IntKind.i64 0, Value.int IntKind.i64 0] 23)
    have h0 := (show _ = (w.heap.size + 1) by simp : ((w.alloc (Obj.cells #[Value.int IntKind.i64 0, Value.int IntKind.i64 0, Value.int IntKind.i64 0] 23)).drewN q).heap.size = w.heap.size + 1) ▸ this
    have h1 := heap_setCell_same (World.drewN (World.alloc _ _) r) (w.heap.size + 1) 0 _ _ (Value.int IntKind.i64 I) h0
    have h2 := heap_setCell_same _ (w.heap.size + 1) 1 _ _ (Value.int IntKind.i64 U) h1
    have h3 := heap_setCell_same _ (w.heap.size + 1) 2 _ _ (Value.int IntKind.i64 X) h2
    exact h3
theorem TwoB.call {w W W' : World} {I U X : Int} (h : TwoB w W I U X) (hb : Below W.heap.size W W') : Below w.heap.size w W' ∧ W'.cell? ⟨w.heap.size, 0, none⟩ = some (.int .i64 0) ∧ W'.cell? ⟨w.heap.size, 1, none⟩ = some (.int .i64 0) ∧ W'.cell? ⟨w.heap.size, 2, none⟩ = some (.int .i64 0) ∧
    W'.frozen? ⟨w.heap.size, 0, none⟩ = false ∧ W'.frozen? ⟨w.heap.size, 1, none⟩ = false ∧ W'.frozen? ⟨w.heap.size, 2, none⟩ = false ∧
    W'.cell? ⟨w.heap.size + 1, 0, none⟩ = some (.int .i64 I) ∧ W'.cell? ⟨w.heap.size + 1, 1, none⟩ = some (.int .i64 U) ∧ W'.cell? ⟨w.heap.size + 1, 2, none⟩ = some (.int .i64 X) := by
  have h1 := (hb.block w.heap.size (by rw [h.n]; omega)).trans h.r
  have h2 := (hb.block (w.heap.size + 1) (by rw [h.n]; omega)).trans h.x
  exact ⟨h.bel.trans (hb.mono (by rw [h.n]; omega)), by simp [World.cell?, h1], by simp [World.cell?, h1], by simp [World.cell?, h1], by simp [World.frozen?, h1], by simp [World.frozen?, h1], by simp [World.frozen?, h1], by simp [World.cell?, h2], by simp [World.cell?, h2], by simp [World.cell?, h2]⟩

set_option maxRecDepth 100000 in
set_option maxHeartbeats 4000000 in
theorem parse_full (s : ByteArray) (h : s.size = 16) (w : World) :
    Calls Try.prog 12 #[.string s] w fun e w' => e = .returned (.tuple #[nd (nI (bs s)) (nU (bs s)) (nW (bs s)), .bool (isR (bs s))]) ∧ Below w.heap.size w w' := by
  have h4 := bs_extract s 4 16
  have h8 := bs_extract s 8 16
  have hl : (bs s).length = 16 := by rw [bs_length, h]
  rw [List.take_of_length_le (by omega)] at h4 h8
  have z4 : (s.extract 4 16).size = 12 := by rw [ByteArray.size_extract]; omega
  have z8 : (s.extract 8 16).size = 8 := by rw [ByteArray.size_extract]; omega
  generalize hx4 : s.extract 4 16 = t4 at *
  generalize hx8 : s.extract 8 16 = t8 at *
  have S1 := hide (signed_any s (by omega))
  have S2 := hide (signed_any t4 (by omega))
  have S3 := hide (eight_any t8 (by omega) (by omega))
  rw [h4] at S2
  rw [h8, List.drop_drop] at S3
  have hI : sg (rd (bs s)) = pI (bs s) := rfl
  have hU : sg (rd ((bs s).drop 4)) = pU (bs s) := rfl
  have hW : s64 (rd ((bs s).drop 8)) (rd ((bs s).drop (8 + 4))) = pW (bs s) := rfl
  rw [hI] at S1
  rw [hU] at S2
  rw [hW] at S3
  have hk : isR (bs s) = okN (pI (bs s)) (pU (bs s)) (pW (bs s)) := by
    unfold isR
    rw [hl]
    rfl
  unfold nI nU nW
  rw [hk]
  have PH := hide (has_any (pI (bs s)) (pU (bs s)) (pW (bs s)))
  clear hI hU hW hk h4 h8 hl
  generalize pI (bs s) = I at *
  generalize pU (bs s) = U at *
  generalize pW (bs s) = X at *
  cases ho : okN I U X
  · rw [ho] at PH
    simp only [Bool.false_eq_true, if_false]
    go_enter Try.func12, Try.ntmps12
    go_wp2_with fail
    go_region_held3 (fun _ => True) (simp [go_sem, *])
      (first
        | (go_at_call_of 18 (Value.string s); refine ((unhide S1) _).mono ?_; rintro e w2 ⟨rfl, q1, rfl⟩)
        | (go_at_call_of 18 (Value.string t4); refine ((unhide S2) _).mono ?_; rintro e w2 ⟨rfl, q1, rfl⟩)
        | (go_at_call_of 19 (Value.string t8); refine ((unhide S3) _).mono ?_; rintro e w2 ⟨rfl, q1, rfl⟩))
    all_goals
      first
        | (generalize hg : (World.alloc (World.drewN _ _) _) = W2; have HT : Hid (TwoB w W2 I U X) := hide (hg ▸ TwoB.mk1 w _ I U X))
        | (generalize hg : (World.setCell (World.setCell (World.setCell (World.drewN (World.alloc (World.drewN _ _) _) _) _ _) _ _) _ _) = W2; have HT : Hid (TwoB w W2 I U X) := hide (hg ▸ TwoB.mk2 w _ _ I U X))
        | (generalize hg : (World.setCell (World.setCell (World.setCell (World.drewN (World.alloc (World.alloc _ _) _) _) _ _) _ _) _ _) = W2; have HT : Hid (TwoB w W2 I U X) := hide (hg ▸ TwoB.mk2 w 0 _ I U X))
    all_goals
      obtain ⟨_, _, _, _, _, _, _, c0, c1, c2⟩ := (unhide HT).call (Below.refl _ _)
      clear hg
      go_wp2_with fail
      refine ((unhide PH) _).mono ?_
      rintro e w3 ⟨rfl, hb⟩
      obtain ⟨bel, r0, r1, r2, f0, f1, f2, d0, d1, d2⟩ := (unhide HT).call hb
      have BEL := hide bel
      clear bel hb c0 c1 c2
      go_wp2
      refine bodyPost_ret (v := .tuple #[nd 0 0 0, .bool false]) (by rw [results_cell_tmp rfl]; go_simp) rfl ⟨rfl, ?_⟩
      exact (((unhide BEL).setCell (Nat.le_refl _) _).setCell (Nat.le_refl _) _).setCell (Nat.le_refl _) _
  · rw [ho] at PH
    simp only [if_true]
    go_enter Try.func12, Try.ntmps12
    go_wp2_with fail
    go_region_held3 (fun _ => True) (simp [go_sem, *])
      (first
        | (go_at_call_of 18 (Value.string s); refine ((unhide S1) _).mono ?_; rintro e w2 ⟨rfl, q1, rfl⟩)
        | (go_at_call_of 18 (Value.string t4); refine ((unhide S2) _).mono ?_; rintro e w2 ⟨rfl, q1, rfl⟩)
        | (go_at_call_of 19 (Value.string t8); refine ((unhide S3) _).mono ?_; rintro e w2 ⟨rfl, q1, rfl⟩))
    all_goals
      first
        | (generalize hg : (World.alloc (World.drewN _ _) _) = W2; have HT : Hid (TwoB w W2 I U X) := hide (hg ▸ TwoB.mk1 w _ I U X))
        | (generalize hg : (World.setCell (World.setCell (World.setCell (World.drewN (World.alloc (World.drewN _ _) _) _) _ _) _ _) _ _) = W2; have HT : Hid (TwoB w W2 I U X) := hide (hg ▸ TwoB.mk2 w _ _ I U X))
        | (generalize hg : (World.setCell (World.setCell (World.setCell (World.drewN (World.alloc (World.alloc _ _) _) _) _ _) _ _) _ _) = W2; have HT : Hid (TwoB w W2 I U X) := hide (hg ▸ TwoB.mk2 w 0 _ I U X))
    all_goals
      obtain ⟨_, _, _, _, _, _, _, c0, c1, c2⟩ := (unhide HT).call (Below.refl _ _)
      clear hg
      go_wp2_with fail
      refine ((unhide PH) _).mono ?_
      rintro e w3 ⟨rfl, hb⟩
      obtain ⟨bel, r0, r1, r2, f0, f1, f2, d0, d1, d2⟩ := (unhide HT).call hb
      have BEL := hide bel
      clear bel hb c0 c1 c2
      go_wp2
      refine bodyPost_ret (v := .tuple #[nd I U X, .bool true]) (by rw [results_cell_tmp rfl]; go_simp) rfl ⟨rfl, ?_⟩
      exact (((unhide BEL).setCell (Nat.le_refl _) _).setCell (Nat.le_refl _) _).setCell (Nat.le_refl _) _
end Go.Proofs.Ytgdiglkbeijomaa

import Derived.Test.YtakgacahaennoaaDoorE4
namespace Go.Proofs.YtakgacahaennoaaDoor
open Go.RowKit Go.Arb

abbrev cNone : Obj := .cells #[] 3
abbrev cOne (x : Value) : Obj := .cells #[x] 3
theorem er1 (w : World) : ((w.alloc (.cells #[] 3)).drew).ownsRow w.heap.size 3 1 (.slice (some ⟨w.heap.size, 0, none⟩) 0 0) 0 [] := World.ownsRow.drew (empty_row w)
theorem er2 (w : World) (x : Value) : (((w.alloc (.cells #[] 3)).alloc (.cells #[x] 3)).drew).ownsRow w.heap.size 3 1 (.slice (some ⟨w.heap.size, 0, none⟩) 0 0) 0 [] := World.ownsRow.drew ((empty_row w).alloc _)
theorem er3 (w : World) (x : Value) : (((w.alloc (.cells #[x] 3)).alloc (.cells #[] 3)).drew).ownsRow w.heap.size 3 1 (.slice (some ⟨w.heap.size + 1, 0, none⟩) 0 0) 0 [] := by
  have h := World.ownsRow_made (base := w.heap.size) (e := 3) (size := 1) (w.alloc (.cells #[x] 3)) #[] 0 (by simp) (Nat.zero_le _) rfl
  rw [show (w.alloc (.cells #[x] 3)).heap.size = w.heap.size + 1 from by simp] at h
  exact World.ownsRow.drew h
theorem bl1 (w : World) : Below w.heap.size w ((w.alloc (.cells #[] 3)).drew) := ((Below.refl _ w).alloc (Nat.le_refl _) _).drew
theorem bl2 (w : World) (x : Value) : Below w.heap.size w (((w.alloc (.cells #[] 3)).alloc (.cells #[x] 3)).drew) := (((Below.refl _ w).alloc (Nat.le_refl _) _).alloc (by simp) _).drew
theorem bl3 (w : World) (x : Value) : Below w.heap.size w (((w.alloc (.cells #[x] 3)).alloc (.cells #[] 3)).drew) := (((Below.refl _ w).alloc (Nat.le_refl _) _).alloc (by simp) _).drew
theorem fb2 {w w6 : World} {x : Value} (g6 : (((w.alloc (.cells #[] 3)).alloc (.cells #[x] 3)).drew).grownBy w6 (Value.slice (some ⟨w.heap.size, 0, none⟩) 0 0).ownBlock) : Below w.heap.size w w6 :=
  (bl2 w x).grown g6 (by simp; omega) (fun k hk => by simp [Value.ownBlock] at hk; omega)
theorem fb3 {w w6 : World} {x : Value} (g6 : (((w.alloc (.cells #[x] 3)).alloc (.cells #[] 3)).drew).grownBy w6 (Value.slice (some ⟨w.heap.size + 1, 0, none⟩) 0 0).ownBlock) : Below w.heap.size w w6 :=
  (bl3 w x).grown g6 (by simp; omega) (fun k hk => by simp [Value.ownBlock] at hk; omega)
theorem src_new (w : World) (x : Value) : Src (w.alloc (.cells #[x] 3)) (.slice (some ⟨w.heap.size, 0, none⟩) 1 1) 1 [x] :=
  .inr ⟨⟨w.heap.size, 0, none⟩, 1, rfl, rfl, fun j y hj => news_new w #[x] 3 j y (by simpa using hj)⟩
theorem sn2 {w w6 : World} {x : Value} (g6 : (((w.alloc (.cells #[] 3)).alloc (.cells #[x] 3)).drew).grownBy w6 (Value.slice (some ⟨w.heap.size, 0, none⟩) 0 0).ownBlock) : Src w6 (.slice (some ⟨w.heap.size + 1, 0, none⟩) 1 1) 1 [x] := by
  have h := src_new (w.alloc (.cells #[] 3)) x
  rw [show (w.alloc (.cells #[] 3)).heap.size = w.heap.size + 1 from by simp] at h
  refine Src.keep (ks := [w.heap.size]) h (((Keep.refl _ _).drew).grown g6 (fun k hk => ?_)) (fun k hk => ?_)
  · simp [Value.ownBlock] at hk; left; simp [hk]
  · simp [own, Value.ownBlock] at hk; subst hk; simp
theorem sn3 {w w6 : World} {x : Value} (g6 : (((w.alloc (.cells #[x] 3)).alloc (.cells #[] 3)).drew).grownBy w6 (Value.slice (some ⟨w.heap.size + 1, 0, none⟩) 0 0).ownBlock) : Src w6 (.slice (some ⟨w.heap.size, 0, none⟩) 1 1) 1 [x] := by
  refine Src.keep (ks := [w.heap.size + 1]) (src_new w x) ((((Keep.refl _ _).alloc _).drew).grown g6 (fun k hk => ?_)) (fun k hk => ?_)
  · simp [Value.ownBlock] at hk; left; simp [hk]
  · simp [own, Value.ownBlock] at hk; subst hk; simp
theorem one_cell (x : Int) : ∀ u ∈ [Value.int .i64 x], u.oneCell' = true := one1 x
theorem nb1 {w w6 w7 : World} {v6 : Value} {n : Nat} {xs : List Value} {o : Obj} (b6 : Below w.heap.size w w6) (o6 : w6.ownsRow w.heap.size 3 1 v6 n xs) (g7 : (w6.alloc o).grownBy w7 v6.ownBlock) : Below w.heap.size w w7 :=
  (b6.alloc b6.size o).grown g7 (by simp; have := b6.size; omega) (fun k hk => (o6.lt k hk).1)
theorem put_row {B : Nat} {W : World} {v : Value} {l : List Int} {k : Nat} {x : Int} (hk : k ≤ l.length) (h : W.ownsRow B 3 1 v (0 + k + 1 + (l.length - k)) ([] ++ (l.take k).map (Value.int .i64) ++ [.int .i64 x] ++ (l.drop k).map (Value.int .i64))) : IRow B W v (l.take k ++ x :: l.drop k) := by
  unfold IRow
  have e : (l.take k ++ x :: l.drop k).length = 0 + k + 1 + (l.length - k) := by simp; omega
  rw [e]
  simpa using h

set_option maxHeartbeats 400000 in
theorem rput_no1 (w : World) (q : Nat) (vi va : Value) (I A : List Int) (id n : Int) (h : RfIn w q vi va I A) (hno : id < 0 ∨ 2147483647 < id ∨ 1048576 ≤ I.length) :
    Calls Tryd.prog 10 #[.pointer (some ⟨q, 0, none⟩), .int .i64 id, .int .i64 n] w fun e w' => e = .returned (.bool false) ∧ w = w' := by
  obtain ⟨c0, c1, f0, f1⟩ := h.cells2
  obtain ⟨x, cap, rfl, h1, h2, _⟩ := row_form h.ri
  clear h
  unfold maxLen at *
  by_cases e1 : id < 0
  · go_enter Tryd.func10, Tryd.ntmps10
    go_wp2
    go_ret
    exact ⟨rfl, rfl⟩
  · have d1 : decide (id < 0) = false := by simpa using e1
    by_cases e2 : 2147483647 < id
    · go_enter Tryd.func10, Tryd.ntmps10
      go_wp2
      go_ret
      exact ⟨rfl, rfl⟩
    · have d2 : decide (2147483647 < id) = false := by simpa using e2
      have e3 : (1048576 : Int) ≤ (I.length : Int) := by omega
      go_enter Tryd.func10, Tryd.ntmps10
      go_wp2
      go_ret
      exact ⟨rfl, rfl⟩

set_option maxHeartbeats 400000 in
theorem rput_no2 (w : World) (q : Nat) (vi va : Value) (S : List Cell) (id n m : Int) (h : RfIn w q vi va (idsS S) (numsS S)) (h0 : 0 ≤ id) (h1 : id ≤ 2147483647) (hl : S.length < 1048576) (hg : getS S id = some m) :
    Calls Tryd.prog 10 #[.pointer (some ⟨q, 0, none⟩), .int .i64 id, .int .i64 n] w fun e w' => e = .returned (.bool false) ∧ w = w' := by
  obtain ⟨c0, c1, f0, f1⟩ := h.cells2
  have hpl := hide (place_any w q vi va S _ id h (by omega))
  obtain ⟨hk, hk', _⟩ := getS_mem hg
  obtain ⟨_, hke⟩ := List.getElem?_eq_some_iff.1 hk'
  obtain ⟨g, cap, hv, hc1, hc2, hgl, d0⟩ := h.ri.get0 (plc S id) (by rw [idsS_len]; exact hk)
  rw [idsS_len] at hv hc1
  have e0 : (idsS S)[plc S id]'(by rw [idsS_len]; exact hk) = id := by simp [idsS, hke]
  rw [e0] at d0
  clear h hg hk' hke e0
  subst hv
  generalize plc S id = k at *
  unfold maxLen at *
  have d1 : decide (id < 0) = false := by simpa using h0
  have d2 : decide (2147483647 < id) = false := by simpa using h1
  have d3 : decide ((1048576 : Int) ≤ (S.length : Int)) = false := by simp; omega
  have f2 : (0 : Int) ≤ (k : Int) := by omega
  have f3 : (k : Int) < (S.length : Int) := by omega
  go_enter Tryd.func10, Tryd.ntmps10
  go_wp2_with (go_at_call 25; refine (unhide hpl).mono ?_; rintro e w' ⟨rfl, rfl⟩)
  go_ret
  exact ⟨rfl, rfl⟩
end Go.Proofs.YtakgacahaennoaaDoor

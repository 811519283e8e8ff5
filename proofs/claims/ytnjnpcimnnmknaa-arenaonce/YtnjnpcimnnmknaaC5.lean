import Derived.Test.YtnjnpcimnnmknaaC4
namespace Go.Proofs.Ytnjnpcimnnmknaa
open Go.RowKit Go.Arb

set_option maxHeartbeats 800000 in
theorem give_nil (s g : Int) (w : World) : Calls Try.prog 11 #[.pointer none, .agg #[.int .i64 s, .int .i64 g]] w fun e w' => e = .returned (.bool false) ∧ Below w.heap.size w w' := by
  go_enter Try.func11, Try.ntmps11
  go_wp2_with (go_at_call 13; refine (live_nil _ _ _).mono ?_; rintro e w1 ⟨rfl, hb1⟩)
  go_ret
  exact ⟨rfl, ((Below.refl _ _).alloc (Nat.le_refl _) _).trans (hb1.mono (by simp))⟩

theorem Keep.nil_alloc (w : World) (o : Obj) : Keep [] w (w.alloc o) := (Keep.refl _ _).alloc _

set_option maxHeartbeats 800000 in
theorem give_no (s g : Int) (w : World) (p : Nat) (v : Value) (C : Cs) (h : CsIn w p v C) (hl : liveC C s g = false) : Calls Try.prog 11 #[.pointer (some ⟨p, 0, none⟩), .agg #[.int .i64 s, .int .i64 g]] w fun e w' => e = .returned (.bool false) ∧ Below w.heap.size w w' := by
  have H : Hid (CsIn w p v C ∧ liveC C s g = false) := ⟨h, hl⟩
  clear h hl
  go_enter Try.func11, Try.ntmps11
  go_wp2_with fail
  refine (live_any s g _ p v C (H.out.1.keep (Keep.nil_alloc _ _) (fun _ _ => by simp))).mono ?_
  rintro e w1 ⟨rfl, hb1⟩
  rw [H.out.2]
  go_wp2
  go_ret
  exact ⟨rfl, ((Below.refl _ _).alloc (Nat.le_refl _) _).trans (hb1.mono (by simp))⟩

/-- The arena behind a slot that came back. -/
def giveC (C : Cs) (i : Nat) : Cs :=
  { C with slots := C.slots.set i { C.slots.getD i zeroSl with away := false, next := C.free }, free := i, away := C.away - 1 }

theorem liveC_true {C : Cs} {s g : Int} (h : liveC C s g = true) : ∃ (i : Nat) (hi : i < C.slots.length), s = i ∧ C.slots[i].away = true ∧ C.slots[i].gen = g := by
  unfold liveC at h
  split at h
  · rename_i h0
    obtain ⟨i, rfl⟩ := Int.eq_ofNat_of_zero_le h0
    rw [Int.toNat_natCast] at h
    split at h
    · rename_i x hx
      obtain ⟨hi, rfl⟩ := List.getElem?_eq_some_iff.1 hx
      simp at h
      exact ⟨i, hi, rfl, h.1, h.2⟩
    · cases h
  · cases h

/-- The stores of Give. -/
def gave (w1 : World) (g n p : Nat) (x y : Int) : World :=
  (((w1.setCell ⟨g, n * 3 + 2, none⟩ (.bool false)).setCell ⟨g, n * 3 + 1, none⟩ (.int .i64 x)).setCell ⟨p, 2, none⟩ (.int .i64 n)).setCell ⟨p, 3, none⟩ (.int .i64 y)

set_option maxHeartbeats 1000000 in
theorem give_core (i : Nat) (g : Int) (w : World) (p : Nat) (v : Value) (C : Cs) (sn : Int) (h : CsIn w p v C) (hl : liveC C i g = true) (hsl : C.slots[i]? = some ⟨g, sn, true⟩) (ha0 : -1000000 ≤ C.away) (ha1 : C.away ≤ 2000000) :
    Calls Try.prog 11 #[.pointer (some ⟨p, 0, none⟩), .agg #[.int .i64 (i : Int), .int .i64 g]] w fun e w' => e = .returned (.bool true) ∧ CsIn w' p v { C with slots := C.slots.set i ⟨g, C.free, false⟩, free := i, away := C.away - 1 } ∧ Keep (fp p v) w w' := by
  have H : Hid (CsIn w p v C ∧ liveC C i g = true ∧ C.slots[i]? = some ⟨g, sn, true⟩) := ⟨h, hl, hsl⟩
  clear h hl hsl
  go_enter Try.func11, Try.ntmps11
  go_wp2_with fail
  generalize hW : (w.alloc (.cells #[.int .i64 (i : Int), .int .i64 g] 29)) = W
  have hkW : Keep [] w W := by subst hW; exact Keep.nil_alloc _ _
  have hWs : W.heap.size = w.heap.size + 1 := by subst hW; simp
  have hWb : W.heap[w.heap.size]? = some (.cells #[.int .i64 (i : Int), .int .i64 g] 29 (0, 0)) := by subst hW; exact heap_alloc_new w _
  obtain ⟨h, hl, hsl⟩ := H.out
  have h' : CsIn W p v C := h.keep hkW (fun _ _ => by simp)
  clear hW
  refine (live_any i g _ p v C h').mono ?_
  rintro e w1 ⟨rfl, hb⟩
  rw [hl]
  obtain ⟨hlt, hsl⟩ := List.getElem?_eq_some_iff.1 hsl
  have hb1 : w1.heap[w.heap.size]? = some (.cells #[.int .i64 (i : Int), .int .i64 g] 29 (0, 0)) := by rw [hb.block _ (by omega)]; exact hWb
  have h1 : CsIn w1 p v C := h'.keep (Keep.ofBelow hb []) (fun _ _ => by simp)
  have hk1 : Keep (fp p v) w w1 := (hkW.mono (js := fp p v) (by simp)).trans (Keep.ofBelow hb []) (by simp)
  obtain ⟨c0, c1, c2, c3, f0, f1, f2, f3⟩ := h1.cells
  have hp := blk_lt h.blk
  have hp1 := blk_lt h1.blk
  obtain ⟨q, cap, hv, hm1, hm2, hg, hgp, d0, d1, d2, e0, e1, e2⟩ := h1.slot _ hlt
  have hqR : q ≠ w.heap.size := by have := h.lt q (by rw [hv]; simp [fp, own, Value.ownBlock]); omega
  have hpR : p ≠ w.heap.size := by omega
  have r0 : w1.cell? ⟨w.heap.size, 0, none⟩ = some (.int .i64 (i : Int)) := by simp [World.cell?, hb1]
  rw [hsl] at d0 d1 d2
  dsimp only at d0 d1 d2
  have R : Hid (∀ m, CsIn ((gave w1 q i p C.free (C.away - 1)).drewN m) p v { C with slots := C.slots.set i ⟨g, C.free, false⟩, free := i, away := C.away - 1 } ∧ Keep (fp p v) w ((gave w1 q i p C.free (C.away - 1)).drewN m)) := by
    intro m
    have hgm : q ∈ fp p v := by rw [hv]; simp [fp, own, Value.ownBlock]
    have a1 := CsIn.setRow (hv ▸ h1) rfl _ 2 hlt (by omega) ⟨g, sn, false⟩ (.bool false) (by simp [slC, hsl])
    have a2 := a1.setRow (by simp) i 1 (by simpa using hlt) (by omega) ⟨g, C.free, false⟩ (.int .i64 C.free) (by simp [slC])
    have a3 := (a2.setFree (i : Int)).setAway (C.away - 1)
    refine ⟨?_, ?_⟩
    · rw [hv]
      have a4 : CsIn (gave w1 q i p C.free (C.away - 1)) p (.slice (some ⟨q, 0, none⟩) C.slots.length cap) { C with slots := C.slots.set i ⟨g, C.free, false⟩, free := i, away := C.away - 1 } := by simpa [gave] using a3
      exact ⟨a4.blk, a4.row, a4.ne⟩
    · have k := (((hk1.setCell (p := ⟨q, i * 3 + 2, none⟩) (.inl hgm) (.bool false)).setCell (p := ⟨q, i * 3 + 1, none⟩) (.inl hgm) (.int .i64 C.free)).setCell (p := ⟨p, 2, none⟩) (by simp [fp]) (.int .i64 (i : Int))).setCell (p := ⟨p, 3, none⟩) (by simp [fp]) (.int .i64 (C.away - 1))
      exact ⟨k.os, k.tape, k.output, k.size, k.block⟩
  clear hk1 h1 h' h hkW hWb hb1 hb hsl hl H
  generalize C.slots.length = m at *
  subst hv
  unfold maxLen at hm2
  have hn0 : (0 : Int) ≤ (i : Int) := by omega
  have hn1 : (i : Int) < (m : Int) := by omega
  go_wp2
  go_quiet (fail)
  go_wp2
  go_ret
  exact ⟨rfl, (R.out _).1, (R.out _).2⟩
end Go.Proofs.Ytnjnpcimnnmknaa

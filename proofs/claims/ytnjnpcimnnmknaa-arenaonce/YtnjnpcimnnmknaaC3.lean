import Derived.Test.YtnjnpcimnnmknaaC2
namespace Go.Proofs.Ytnjnpcimnnmknaa
open Go.RowKit Go.Arb

set_option maxHeartbeats 800000 in
theorem live_in (i : Nat) (g : Int) (w : World) (p : Nat) (v : Value) (C : Cs) (h : CsIn w p v C) (hi : i < C.slots.length) :
    Calls Try.prog 13 #[.pointer (some ⟨p, 0, none⟩), .agg #[.int .i64 (i : Int), .int .i64 g]] w fun e w' => e = .returned (.bool (C.slots[i].away && C.slots[i].gen == g)) ∧ Below w.heap.size w w' := by
  obtain ⟨c0, _⟩ := h.cells
  have hp := blk_lt h.blk
  obtain ⟨q, cap, rfl, hm, hm', hq, hqp, d0, d1, d2, _⟩ := h.slot i hi
  have h1 : decide ((i : Int) < 0) = false := by simp
  have h2 : (i : Int) < (C.slots.length : Int) := by omega
  have h3 : (0 : Int) ≤ (i : Int) := by omega
  generalize C.slots[i] = sl at *
  obtain ⟨sg, sn, sa⟩ := sl
  generalize C.slots.length = n at *
  unfold maxLen at hm'
  dsimp only at *
  clear h
  go_enter Try.func13, Try.ntmps13
  go_wp2
  go_quiet (fail)
  go_wp2
  go_region
  go_wp2
  all_goals
    go_ret
    refine ⟨by simp [*], ?_⟩
    exact (below_drewN ((Below.refl _ _).alloc (Nat.le_refl _) _) _).alloc (by simp) _

theorem live_any (s g : Int) (w : World) (p : Nat) (v : Value) (C : Cs) (h : CsIn w p v C) :
    Calls Try.prog 13 #[.pointer (some ⟨p, 0, none⟩), .agg #[.int .i64 s, .int .i64 g]] w fun e w' => e = .returned (.bool (liveC C s g)) ∧ Below w.heap.size w w' := by
  by_cases h0 : s < 0
  · rw [show liveC C s g = false from by simp [liveC]; omega]
    exact live_neg s g w p h0
  · obtain ⟨i, rfl⟩ := Int.eq_ofNat_of_zero_le (by omega : 0 ≤ s)
    by_cases h1 : i < C.slots.length
    · rw [show liveC C i g = (C.slots[i].away && C.slots[i].gen == g) from by simp [liveC, h1]]
      exact live_in i g w p v C h h1
    · rw [show liveC C i g = false from by simp [liveC, show C.slots.length ≤ i from by omega]]
      exact live_over i g w p v C h (by omega)

theorem CsIn.setRow {w : World} {p g n cap : Nat} {C : Cs} (h : CsIn w p (.slice (some ⟨g, 0, none⟩) n cap) C) (hn : n = C.slots.length) (i j : Nat) (hi : i < C.slots.length) (hj : j < 3) (s : Sl) (u : Value) (hs : slC s = (slC C.slots[i]).set j u) :
    CsIn (w.setCell ⟨g, i * 3 + j, none⟩ u) p (.slice (some ⟨g, 0, none⟩) n cap) { C with slots := C.slots.set i s } := by
  subst hn
  have hne : p ≠ g := by have := h.ne; simpa [own, Value.ownBlock] using this
  refine ⟨?_, ?_, h.ne⟩
  · rw [Below.heap_setCell _ _ _ _ hne]; exact h.blk
  · have := (h.row.stored (i * 3 + j) u).1
    rw [flat_set slC_len C.slots i j hi hj s u hs]
    simpa using this

theorem CsIn.setAway {w : World} {p : Nat} {v : Value} {C : Cs} (h : CsIn w p v C) (x : Int) : CsIn (w.setCell ⟨p, 3, none⟩ (.int .i64 x)) p v { C with away := x } := by
  refine ⟨?_, row_keep h.row (Keep.setCell (ks := [p]) (Keep.refl _ _) (p := ⟨p, 3, none⟩) (by simp) _) (fun k hk hp => h.ne (by simp at hp; subst hp; exact hk)), h.ne⟩
  rw [heap_setCell_same w p 3 _ _ _ h.blk]; simp
theorem CsIn.setFree {w : World} {p : Nat} {v : Value} {C : Cs} (h : CsIn w p v C) (x : Int) : CsIn (w.setCell ⟨p, 2, none⟩ (.int .i64 x)) p v { C with free := x } := by
  refine ⟨?_, row_keep h.row (Keep.setCell (ks := [p]) (Keep.refl _ _) (p := ⟨p, 2, none⟩) (by simp) _) (fun k hk hp => h.ne (by simp at hp; subst hp; exact hk)), h.ne⟩
  rw [heap_setCell_same w p 2 _ _ _ h.blk]; simp
/-- Another row is stored into the first field. -/
theorem CsIn.setSlots {w : World} {p : Nat} {v v' : Value} {C : Cs} {l : List Sl} (hb : w.heap[p]? = some (.cells #[v, .int .i64 C.room, .int .i64 C.free, .int .i64 C.away] 45 (0, 0))) (hr : w.ownsRow 0 51 3 v' l.length (flat slC l)) (hn : p ∉ own v') :
    CsIn (w.setCell ⟨p, 0, none⟩ v') p v' { C with slots := l } := by
  refine ⟨?_, row_keep hr (Keep.setCell (ks := [p]) (Keep.refl _ _) (p := ⟨p, 0, none⟩) (by simp) _) (fun k hk hp => hn (by simp at hp; subst hp; exact hk)), hn⟩
  rw [heap_setCell_same w p 0 _ _ _ hb]; simp

def zeroSl : Sl := ⟨0, 0, false⟩
theorem Try.info51 : (Try.prog.info? 51).map (fun i => (i.zero, i.size, i.bytes)) = some (some (.agg #[.int .i64 0, .int .i64 0, .bool false]), 3, 24) := by kernel_rfl

theorem one3 : ∀ u ∈ [Value.int .i64 0, Value.int .i64 0, Value.bool false], u.oneCell' = true := by
  intro u hu
  simp at hu
  rcases hu with rfl | rfl <;> rfl

set_option maxHeartbeats 800000 in
theorem pick_new (w : World) (p : Nat) (v : Value) (C : Cs) (h : CsIn w p v C) (hf : C.free = -1) (hl : C.slots.length ≤ 1048576) :
    Calls Try.prog 18 #[.pointer (some ⟨p, 0, none⟩)] w fun e w' => e = .returned (.int .i64 C.slots.length) ∧ ∃ v', CsIn w' p v' { C with slots := C.slots ++ [zeroSl] } ∧ Keep (fp p v) w w' ∧ Grew w (fp p v) (fp p v') := by
  obtain ⟨c0, c1, c2, c3, f0, f1, f2, f3⟩ := h.cells
  have hp := blk_lt h.blk
  rw [hf] at c2
  obtain ⟨i0, hi, hz0, hz1, hz2⟩ := info_parts Try.info51
  obtain ⟨x, cap, hv, hm1, hm2, _⟩ := row_form h.row
  have H : Hid (CsIn w p v C) := h
  have hrow := h.row
  clear h
  generalize hn : C.slots.length = n at *
  have HN : Hid (C.slots.length = n) := hn
  clear hn
  have HV : Hid (v = .slice x n cap) := hv
  subst hv
  go_enter Try.func18, Try.ntmps18
  go_wp2_with (at_builtin; refine wpList_append_lies _ rfl _ _ 43 rfl 0 51 i0 (.agg #[.int .i64 0, .int .i64 0, .bool false]) 3 24 Try.underlying43 hi hz0 hz1 hz2 rfl (by decide) _ _ _ rfl (hrow.alloc _) ⟨w.heap.size, 0, none⟩ 1 1 [.int .i64 0, .int .i64 0, .bool false] rfl rfl (news_new _ _ _) one3 (by omega) (by unfold maxLen; omega) (by omega) (Nat.zero_le _) (w.heap.size + 1) (by simp) ?_)
  intro g cap' w1 hown hgrow hat hlt
  have hk0 : Keep (fp p (.slice x n cap)) w w1 := (Keep.alloc (Keep.refl _ _) _).grown hgrow (fun k hk => .inl (by simp [fp, mem_own, hk]))
  have hpn : some p ≠ (Value.slice x n cap).ownBlock := fun e => H.out.ne (mem_own.2 e.symm)
  have hb1 : w1.heap[p]? = w.heap[p]? := by rw [hgrow.block p (by simp; omega) hpn, Below.heap_alloc _ _ _ hp]
  have d0 : w1.cell? ⟨p, 0, none⟩ = some (.slice x n cap) := by rw [World.cell?_of_block (w := w) hb1]; exact c0
  have e0 : w1.frozen? ⟨p, 0, none⟩ = false := by rw [World.frozen?_of_block (w := w) hb1]; exact f0
  have hgp : p ≠ g := by
    rintro rfl
    rcases hat with h1 | h1
    · exact hpn h1.symm
    · omega
  have R : Hid (∃ v', CsIn (w1.setCell ⟨p, 0, none⟩ (.slice (some ⟨g, 0, none⟩) (n + 1) cap')) p v' { C with slots := C.slots ++ [zeroSl] } ∧ Keep (fp p (.slice x n cap)) w (w1.setCell ⟨p, 0, none⟩ (.slice (some ⟨g, 0, none⟩) (n + 1) cap')) ∧ Grew w (fp p (.slice x n cap)) (fp p v')) := by
    refine ⟨_, CsIn.setSlots (v := .slice x n cap) (by rw [hb1]; exact H.out.blk) ?_ (by simpa [own, Value.ownBlock] using hgp), hk0.setCell (p := ⟨p, 0, none⟩) (by simp [fp]) _, ?_⟩
    · rw [flat_append, flat_one]
      simpa [HN.out, slC, zeroSl] using hown
    · intro k hk
      simp only [fp, own, Value.ownBlock, Option.toList, List.mem_cons, List.not_mem_nil, or_false] at hk ⊢
      rcases hk with hk | hk
      · exact .inl (.inl hk)
      · subst hk
        rcases hat with h1 | h1
        · left; right
          cases x with
          | none => simp [Value.ownBlock] at h1
          | some a => simp [Value.ownBlock] at h1; simp [h1]
        · right; omega
  have hz : w1.cell? ⟨p, 0, none⟩ = some (.slice x n cap) := d0
  have hn1 : (n : Int) ≤ 1048576 := by omega
  clear hown hgrow hk0 c1 c2 c3 f1 f2 f3 hb1
  go_wp2
  go_ret
  exact ⟨by simp, R.out⟩

set_option maxHeartbeats 800000 in
theorem pick_old (w : World) (p : Nat) (v : Value) (C : Cs) (h : CsIn w p v C) (i : Nat) (hf : C.free = i) (hi : i < C.slots.length) :
    Calls Try.prog 18 #[.pointer (some ⟨p, 0, none⟩)] w fun e w' => e = .returned (.int .i64 (i : Int)) ∧ CsIn w' p v { C with free := C.slots[i].next } ∧ Keep (fp p v) w w' := by
  obtain ⟨c0, c1, c2, c3, f0, f1, f2, f3⟩ := h.cells
  have hp := blk_lt h.blk
  rw [hf] at c2
  obtain ⟨g, cap, hv, hm1, hm2, hg, hgp, d0, d1, d2, _⟩ := h.slot i hi
  have R : Hid (CsIn (w.setCell ⟨p, 2, none⟩ (.int .i64 C.slots[i].next)) p v { C with free := C.slots[i].next } ∧ Keep (fp p v) w (w.setCell ⟨p, 2, none⟩ (.int .i64 C.slots[i].next))) :=
    ⟨h.setFree _, (Keep.refl _ _).setCell (p := ⟨p, 2, none⟩) (by simp [fp]) _⟩
  clear h
  generalize C.slots[i].next = x at *
  clear d0 d2
  generalize C.slots.length = n at *
  subst hv
  have h1 : ((i : Int) == -1) = false := by rw [beq_eq_false_iff_ne]; omega
  have h2 : (i : Int) < (n : Int) := by omega
  have h3 : (0 : Int) ≤ (i : Int) := by omega
  unfold maxLen at hm2
  go_enter Try.func18, Try.ntmps18
  go_wp2
  go_ret
  exact ⟨rfl, R.out⟩
end Go.Proofs.Ytnjnpcimnnmknaa

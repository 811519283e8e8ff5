import Derived.Test.YtnjnpcimnnmknaaC3
namespace Go.Proofs.Ytnjnpcimnnmknaa
open Go.RowKit Go.Arb

/-- Which slot goes next, and the arena behind it. -/
def pickC (C : Cs) : Nat × Cs := if C.free = -1 then (C.slots.length, { C with slots := C.slots ++ [zeroSl] }) else (C.free.toNat, { C with free := (C.slots.getD C.free.toNat zeroSl).next })

structure PickOk (C : Cs) : Prop where
  len : C.slots.length ≤ 1048576
  free : C.free = -1 ∨ (0 ≤ C.free ∧ C.free.toNat < C.slots.length)

theorem pickC_lt {C : Cs} (h : PickOk C) : (pickC C).1 < (pickC C).2.slots.length := by
  unfold pickC
  split
  · simp
  · rcases h.free with h1 | h1
    · contradiction
    · exact h1.2
theorem pickC_away (C : Cs) : (pickC C).2.away = C.away ∧ (pickC C).2.room = C.room := by
  unfold pickC; split <;> simp

theorem pick_any (w : World) (p : Nat) (v : Value) (C : Cs) (h : CsIn w p v C) (ho : PickOk C) :
    Calls Try.prog 18 #[.pointer (some ⟨p, 0, none⟩)] w fun e w' => e = .returned (.int .i64 (pickC C).1) ∧ ∃ v', CsIn w' p v' (pickC C).2 ∧ Keep (fp p v) w w' ∧ Grew w (fp p v) (fp p v') := by
  by_cases hf : C.free = -1
  · rw [show pickC C = (C.slots.length, { C with slots := C.slots ++ [zeroSl] }) from by simp [pickC, hf]]
    exact pick_new w p v C h hf ho.len
  · obtain ⟨h0, h1⟩ := ho.free.resolve_left hf
    obtain ⟨i, hi⟩ := Int.eq_ofNat_of_zero_le h0
    have hi' : C.free.toNat = i := by omega
    rw [hi'] at h1
    rw [show pickC C = (i, { C with free := C.slots[i].next }) from by simp [pickC, hf, hi', h1]]
    refine (pick_old w p v C h i hi h1).mono ?_
    rintro e w' ⟨rfl, h2, h3⟩
    exact ⟨rfl, v, h2, h3, Grew.refl _ _⟩

set_option maxHeartbeats 800000 in
theorem take_nil (w : World) : Calls Try.prog 9 #[.pointer none] w fun e w' => e = .returned (.tuple #[.agg #[.int .i64 0, .int .i64 0], .bool false]) ∧ Below w.heap.size w w' := by
  go_enter Try.func9, Try.ntmps9
  go_wp2
  go_quiet (fail)
  go_wp2
  refine bodyPost_ret (v := .tuple #[.agg #[.int .i64 0, .int .i64 0], .bool false]) (by simp [results, Try.results9, go_sem]) rfl ⟨rfl, ?_⟩
  exact ((below_drewN ((Below.refl _ _).alloc (Nat.le_refl _) _) _).setCell (p := ⟨w.heap.size, 0, none⟩) (Nat.le_refl _) _).setCell (p := ⟨w.heap.size, 1, none⟩) (Nat.le_refl _) _

set_option maxHeartbeats 800000 in
theorem take_full (w : World) (p : Nat) (v : Value) (C : Cs) (h : CsIn w p v C) (hf : C.away = C.room) :
    Calls Try.prog 9 #[.pointer (some ⟨p, 0, none⟩)] w fun e w' => e = .returned (.tuple #[.agg #[.int .i64 0, .int .i64 0], .bool false]) ∧ Below w.heap.size w w' := by
  obtain ⟨c0, c1, c2, c3, _⟩ := h.cells
  have hp := blk_lt h.blk
  rw [hf] at c3
  clear h
  go_enter Try.func9, Try.ntmps9
  go_wp2
  go_quiet (fail)
  go_wp2
  refine bodyPost_ret (v := .tuple #[.agg #[.int .i64 0, .int .i64 0], .bool false]) (by simp [results, Try.results9, go_sem]) rfl ⟨rfl, ?_⟩
  exact ((below_drewN ((Below.refl _ _).alloc (Nat.le_refl _) _) _).setCell (p := ⟨w.heap.size, 0, none⟩) (Nat.le_refl _) _).setCell (p := ⟨w.heap.size, 1, none⟩) (Nat.le_refl _) _

/-- The arena behind a slot that went. -/
def takeC (C : Cs) : Cs :=
  { (pickC C).2 with slots := (pickC C).2.slots.set (pickC C).1 { (pickC C).2.slots.getD (pickC C).1 zeroSl with gen := ((pickC C).2.slots.getD (pickC C).1 zeroSl).gen + 1, away := true }, away := C.away + 1 }

def genC (C : Cs) : Int := ((pickC C).2.slots.getD (pickC C).1 zeroSl).gen + 1

/-- The six stores of Take. -/
def took (w1 : World) (g n p R : Nat) (x y : Int) : World :=
  ((((w1.setCell ⟨g, n * 3, none⟩ (.int .i64 x)).setCell ⟨g, n * 3 + 2, none⟩ (.bool true)).setCell ⟨p, 3, none⟩ (.int .i64 y)).setCell ⟨R, 0, none⟩ (.int .i64 n)).setCell ⟨R, 1, none⟩ (.int .i64 x)

set_option maxHeartbeats 1000000 in
theorem take_core (w : World) (p : Nat) (v : Value) (C D : Cs) (n : Nat) (sg sn : Int) (sa : Bool) (h : CsIn w p v C) (ho : PickOk C) (hpk : pickC C = (n, D)) (hsl : D.slots[n]? = some ⟨sg, sn, sa⟩) (hda : D.away = C.away) (hf : C.away ≠ C.room) (ha0 : -1000000 ≤ C.away) (ha1 : C.away ≤ 2000000) (hg0 : 0 ≤ sg) (hg1 : sg ≤ 1000000000) :
    Calls Try.prog 9 #[.pointer (some ⟨p, 0, none⟩)] w fun e w' => e = .returned (.tuple #[.agg #[.int .i64 n, .int .i64 (sg + 1)], .bool true]) ∧ ∃ v', CsIn w' p v' { D with slots := D.slots.set n ⟨sg + 1, sn, true⟩, away := C.away + 1 } ∧ Keep (fp p v) w w' ∧ Grew w (fp p v) (fp p v') := by
  obtain ⟨c0, c1, c2, c3, _⟩ := h.cells
  have hp := blk_lt h.blk
  have hb : (C.away == C.room) = false := by rw [beq_eq_false_iff_ne]; exact hf
  have H : Hid (CsIn w p v C ∧ PickOk C ∧ pickC C = (n, D) ∧ D.slots[n]? = some ⟨sg, sn, sa⟩ ∧ D.away = C.away) := ⟨h, ho, hpk, hsl, hda⟩
  clear h ho hf hpk hsl hda
  go_enter Try.func9, Try.ntmps9
  go_wp2
  go_quiet (fail)
  go_wp2_with fail
  obtain ⟨h, ho, hpk, hsl, hda⟩ := H.out
  generalize hW : (w.alloc (.cells #[.int .i64 0, .int .i64 0] 29)).drewN nq = W
  have hkW : Keep [] w W := by subst hW; exact Keep.ofBelow (below_drewN ((Below.refl _ _).alloc (Nat.le_refl _) _) _) _
  have hWs : W.heap.size = w.heap.size + 1 := by subst hW; simp
  have hWb : W.heap[w.heap.size]? = some (.cells #[.int .i64 0, .int .i64 0] 29 (0, 0)) := by subst hW; exact heap_alloc_new w _
  have h' : CsIn W p v C := h.keep hkW (fun _ _ => by simp)
  clear hW c0 c1 c2 c3
  refine (pick_any W p v C h' ho).mono ?_
  rw [hpk]
  rintro e w1 ⟨rfl, v', h1, hk, hgr⟩
  dsimp only at h1
  obtain ⟨hlt, hsl⟩ := List.getElem?_eq_some_iff.1 hsl
  have hr : w.heap.size ∉ fp p v := fun hm => by have := h.lt _ hm; omega
  have hb1 : w1.heap[w.heap.size]? = some (.cells #[.int .i64 0, .int .i64 0] 29 (0, 0)) := by rw [hk.block _ (by omega) hr]; exact hWb
  have hk1 : Keep (fp p v) w w1 := (hkW.mono (js := fp p v) (by simp)).trans hk (fun i hi => .inl hi)
  have hgr1 : Grew w (fp p v) (fp p v') := fun k hk => by rcases hgr k hk with h2 | h2; exact .inl h2; right; omega
  have hr' : w.heap.size ∉ fp p v' := fun hm => by
    rcases hgr _ hm with h2 | h2
    · exact hr h2
    · omega
  obtain ⟨c0, c1, c2, c3, f0, f1, f2, f3⟩ := h1.cells
  have hp1 := blk_lt h1.blk
  obtain ⟨g, cap, hv, hm1, hm2, hg, hgp, d0, d1, d2, e0, e1, e2⟩ := h1.slot _ hlt
  have hgR : g ≠ w.heap.size := by rintro rfl; exact hr' (by rw [hv]; simp [fp, own, Value.ownBlock])
  have hpR : p ≠ w.heap.size := by omega
  have r0 : w1.cell? ⟨w.heap.size, 0, none⟩ = some (.int .i64 0) := by simp [World.cell?, hb1]
  have r1 : w1.cell? ⟨w.heap.size, 1, none⟩ = some (.int .i64 0) := by simp [World.cell?, hb1]
  have s0 : w1.frozen? ⟨w.heap.size, 0, none⟩ = false := by simp [World.frozen?, hb1]
  have s1 : w1.frozen? ⟨w.heap.size, 1, none⟩ = false := by simp [World.frozen?, hb1]
  rw [hda] at c3
  rw [hsl] at d0 d1 d2
  dsimp only at d0 d1 d2
  have R : Hid (CsIn (took w1 g n p w.heap.size (sg + 1) (C.away + 1)) p v' { D with slots := D.slots.set n ⟨sg + 1, sn, true⟩, away := C.away + 1 } ∧ Keep (fp p v) w (took w1 g n p w.heap.size (sg + 1) (C.away + 1))) := by
    have hgm : g ∈ fp p v ∨ w.heap.size ≤ g := hgr1 g (by rw [hv]; simp [fp, own, Value.ownBlock])
    have a1 := CsIn.setRow (hv ▸ h1) rfl _ 0 hlt (by omega) ⟨sg + 1, sn, sa⟩ (.int .i64 (sg + 1)) (by simp [slC, hsl])
    have a2 := a1.setRow (by simp) n 2 (by simpa using hlt) (by omega) ⟨sg + 1, sn, true⟩ (.bool true) (by simp [slC])
    have a3 := a2.setAway (C.away + 1)
    have a4 := a3.keep (Keep.setCell (ks := [w.heap.size]) (Keep.setCell (ks := [w.heap.size]) (Keep.refl _ _) (p := ⟨w.heap.size, 0, none⟩) (by simp) (.int .i64 n)) (p := ⟨w.heap.size, 1, none⟩) (by simp) (.int .i64 (sg + 1))) (fun k hk hm => by simp at hm; subst hm; rw [hv] at hr'; exact hr' hk)
    refine ⟨?_, ?_⟩
    · rw [hv]
      simpa [took] using a4
    · exact ((((hk1.setCell (p := ⟨g, _, none⟩) hgm _).setCell (p := ⟨g, _, none⟩) hgm _).setCell (p := ⟨p, _, none⟩) (by simp [fp]) _).setCell (p := ⟨w.heap.size, _, none⟩) (by simp) _).setCell (p := ⟨w.heap.size, _, none⟩) (by simp) _
  have HG : Hid (Grew w (fp p v) (fp p v')) := hgr1
  clear hgr1 hgr hk hk1 h1 h' h ho hkW hWb hb1 hr hr' hsl hda hpk
  generalize D.slots.length = m at *
  subst hv
  have hn0 : (0 : Int) ≤ (n : Int) := by omega
  have hn1 : (n : Int) < (m : Int) := by omega
  go_wp2
  refine bodyPost_ret (v := .tuple #[.agg #[.int .i64 n, .int .i64 (sg + 1)], .bool true]) (by simp [results, Try.results9, go_sem, *]) rfl ⟨rfl, _, R.out.1, R.out.2, HG.out⟩

theorem take_any (w : World) (p : Nat) (v : Value) (C : Cs) (h : CsIn w p v C) (ho : PickOk C) (hf : C.away ≠ C.room) (ha0 : -1000000 ≤ C.away) (ha1 : C.away ≤ 2000000) (hg0 : 1 ≤ genC C) (hg1 : genC C ≤ 1000000000) :
    Calls Try.prog 9 #[.pointer (some ⟨p, 0, none⟩)] w fun e w' => e = .returned (.tuple #[.agg #[.int .i64 (pickC C).1, .int .i64 (genC C)], .bool true]) ∧ ∃ v', CsIn w' p v' (takeC C) ∧ Keep (fp p v) w w' ∧ Grew w (fp p v) (fp p v') := by
  have hlt := pickC_lt ho
  have hpa := (pickC_away C).1
  unfold genC takeC at *
  generalize hpk : pickC C = nd at *
  obtain ⟨n, D⟩ := nd
  dsimp only at *
  have hsl : D.slots.getD n zeroSl = D.slots[n] := by simp [hlt]
  rw [hsl] at hg0 hg1 ⊢
  clear hsl
  have hq : D.slots[n]? = some D.slots[n] := List.getElem?_eq_getElem hlt
  generalize D.slots[n] = sl at *
  obtain ⟨sg, sn, sa⟩ := sl
  dsimp only at hg0 hg1
  exact take_core w p v C D n sg sn sa h ho hpk hq hpa hf ha0 ha1 (by omega) (by omega)
end Go.Proofs.Ytnjnpcimnnmknaa

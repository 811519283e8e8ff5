import Derived.Test.YtbcibdofcjehcaaC4
namespace Go.Proofs.Ytbcibdofcjehcaa
open Go.RowKit Go.Arb
set_option linter.unusedVariables false

theorem Try.info3 : (Try.prog.info? 3).map (fun i => (i.zero, i.size, i.bytes)) = some (some (.int .i64 0), 1, 8) := by kernel_rfl
theorem one1' (x : Int) : ∀ u ∈ [Value.int .i64 x], u.oneCell' = true := by
  intro u hu; simp at hu; subst hu; rfl

section
variable {w w1 : World} {p g n cap : Nat} {u v : Value} {F : Fo}
/-- One more parent is stored. -/
theorem FoIn.pushP (h : FoIn w p u v F) (x : Int) {g H cap' : Nat} (hgrow : (w.alloc (.cells #[.int .i64 x] 3)).grownBy w1 u.ownBlock) (hat : u.ownBlock = some g ∨ g = H) (hH : w.heap.size ≤ H) (hlt : g < w1.heap.size)
    (hown : w1.ownsRow 0 3 1 (.slice (some ⟨g, 0, none⟩) (F.ps.length + 1) cap') (F.ps.length + 1) (nums F.ps ++ [.int .i64 x])) :
    (w1.heap[p]? = w.heap[p]?) ∧
    FoIn (w1.setCell ⟨p, 1, none⟩ (.slice (some ⟨g, 0, none⟩) (F.ps.length + 1) cap')) p (.slice (some ⟨g, 0, none⟩) (F.ps.length + 1) cap') v { F with ps := F.ps ++ [x] } ∧
    Keep (fp p u v) w (w1.setCell ⟨p, 1, none⟩ (.slice (some ⟨g, 0, none⟩) (F.ps.length + 1) cap')) ∧ Grew w (fp p u v) (fp p (.slice (some ⟨g, 0, none⟩) (F.ps.length + 1) cap') v) := by
  obtain ⟨k1, k2, k3⟩ := app_keep ((Keep.refl [] w).alloc _) hgrow hat hH hlt
  have hp := blk_lt h.blk
  have hb : w1.heap[p]? = w.heap[p]? := k1.block p hp h.nu
  have hgp : p ≠ g := fun e => by
    rcases k2 g (by simp) with h1 | h1
    · exact h.nu (e ▸ h1)
    · omega
  have hgv : g ∉ own v := fun hm => by
    rcases k2 g (by simp) with h1 | h1
    · exact h.uv g h1 hm
    · have := row_lt h.rw g hm; omega
  refine ⟨hb, ⟨?_, ?_, ?_, ?_, h.nv, ?_⟩, ?_, ?_⟩
  · rw [heap_setCell_same w1 p 1 _ _ _ (hb.trans h.blk)]; simp
  · have := row_keep hown (keep_cell w1 p 1 (.slice (some ⟨g, 0, none⟩) (F.ps.length + 1) cap')) (off_one (by simpa [own, Value.ownBlock] using hgp))
    simpa [nums] using this
  · exact row_keep (row_keep h.rw k1 (h.uv.symm)) (keep_cell w1 p 1 _) (off_one h.nv)
  · simpa [own, Value.ownBlock] using hgp
  · intro k hk; simp [own, Value.ownBlock] at hk; subst hk; exact hgv
  · exact (k1.mono (js := fp p u v) (fun k hk => .inl (by simp [fp, hk]))).setCell (p := ⟨p, 1, none⟩) (.inl (by simp [fp])) _
  · intro k hk
    simp only [fp, List.mem_cons, List.mem_append] at hk ⊢
    rcases hk with hk | hk | hk
    · exact .inl (.inl hk)
    · rcases k2 k (by simpa [own, Value.ownBlock] using hk) with h1 | h1
      · exact .inl (.inr (.inl h1))
      · exact .inr h1
    · exact .inl (.inr (.inr hk))
theorem FoIn.pushW (h : FoIn w p u v F) (x : Int) {g H cap' : Nat} (hgrow : (w.alloc (.cells #[.int .i64 x] 3)).grownBy w1 v.ownBlock) (hat : v.ownBlock = some g ∨ g = H) (hH : w.heap.size ≤ H) (hlt : g < w1.heap.size)
    (hown : w1.ownsRow 0 3 1 (.slice (some ⟨g, 0, none⟩) (F.ws.length + 1) cap') (F.ws.length + 1) (nums F.ws ++ [.int .i64 x])) :
    (w1.heap[p]? = w.heap[p]?) ∧
    FoIn (w1.setCell ⟨p, 2, none⟩ (.slice (some ⟨g, 0, none⟩) (F.ws.length + 1) cap')) p u (.slice (some ⟨g, 0, none⟩) (F.ws.length + 1) cap') { F with ws := F.ws ++ [x] } ∧
    Keep (fp p u v) w (w1.setCell ⟨p, 2, none⟩ (.slice (some ⟨g, 0, none⟩) (F.ws.length + 1) cap')) ∧ Grew w (fp p u v) (fp p u (.slice (some ⟨g, 0, none⟩) (F.ws.length + 1) cap')) := by
  obtain ⟨k1, k2, k3⟩ := app_keep ((Keep.refl [] w).alloc _) hgrow hat hH hlt
  have hp := blk_lt h.blk
  have hb : w1.heap[p]? = w.heap[p]? := k1.block p hp h.nv
  have hgp : p ≠ g := fun e => by
    rcases k2 g (by simp) with h1 | h1
    · exact h.nv (e ▸ h1)
    · omega
  have hgu : g ∉ own u := fun hm => by
    rcases k2 g (by simp) with h1 | h1
    · exact h.uv g hm h1
    · have := row_lt h.rp g hm; omega
  refine ⟨hb, ⟨?_, ?_, ?_, h.nu, ?_, ?_⟩, ?_, ?_⟩
  · rw [heap_setCell_same w1 p 2 _ _ _ (hb.trans h.blk)]; simp
  · exact row_keep (row_keep h.rp k1 h.uv) (keep_cell w1 p 2 _) (off_one h.nu)
  · have := row_keep hown (keep_cell w1 p 2 (.slice (some ⟨g, 0, none⟩) (F.ws.length + 1) cap')) (off_one (by simpa [own, Value.ownBlock] using hgp))
    simpa [nums] using this
  · simpa [own, Value.ownBlock] using hgp
  · intro k hk hm; simp [own, Value.ownBlock] at hm; subst hm; exact hgu hk
  · exact (k1.mono (js := fp p u v) (fun k hk => .inl (by simp [fp, hk]))).setCell (p := ⟨p, 2, none⟩) (.inl (by simp [fp])) _
  · intro k hk
    simp only [fp, List.mem_cons, List.mem_append] at hk ⊢
    rcases hk with hk | hk | hk
    · exact .inl (.inl hk)
    · exact .inl (.inr (.inl hk))
    · rcases k2 k (by simpa [own, Value.ownBlock] using hk) with h1 | h1
      · exact .inl (.inr (.inr h1))
      · exact .inr h1
end

/-- The lists made longer. -/
def Fo.more (F : Fo) (k : Nat) : Fo := { F with ps := F.ps ++ List.replicate k (-2), ws := F.ws ++ List.replicate k 0 }
theorem Fo.more_succ (F : Fo) (k : Nat) : ({ (F.more k) with ps := (F.more k).ps ++ [-2], ws := (F.more k).ws ++ [0] } : Fo) = F.more (k + 1) := by
  simp [Fo.more, List.replicate_succ']
theorem Fo.more_tr (F : Fo) (k : Nat) : (F.more k).tr = F.tr := by
  have e : ∀ (l : List Int) (d : Int), (fun v => (l ++ List.replicate k d).getD v d) = fun v => l.getD v d := fun l d => by
    funext v
    simp only [List.getD_eq_getElem?_getD]
    by_cases h : v < l.length
    · rw [List.getElem?_append_left h]
    · rw [List.getElem?_append_right (by omega), List.getElem?_eq_none (l := l) (by omega), List.getElem?_replicate]
      split <;> rfl
  simp only [Fo.tr, Fo.more, e]

set_option maxHeartbeats 2000000 in
theorem reach_any (x k0 : Nat) (w : World) (p : Nat) (u v : Value) (F : Fo) (h : FoIn w p u v F) (hw : F.ws.length = F.ps.length) (hx : x ≤ 1048576) (hk : k0 = x + 1 - F.ps.length) :
    Calls Try.prog 53 #[.pointer (some ⟨p, 0, none⟩), .int .i64 (x : Int)] w fun e w' => e = .returned (.tuple #[]) ∧ ∃ u' v', FoIn w' p u' v' (F.more k0) ∧ Keep (fp p u v) w w' ∧ Grew w (fp p u v) (fp p u' v') := by
  obtain ⟨i1, hi1, hy0, hy1, hy2⟩ := info_parts Try.info3
  have HF := hide (And.intro h (And.intro hw hk))
  clear h hw hk
  go_enter Try.func53, Try.ntmps53
  go_wp2
  go_loopg [4] k0 (fun gk a w' => ∃ (k : Nat) (u' v' : Value) (a' : Value), a = a' ∧ k + gk = k0 ∧ Hid (FoIn w' p u' v' (F.more k) ∧ Keep (fp p u v) w w' ∧ Grew w (fp p u v) (fp p u' v')))
  case atStart => exact ⟨0, u, v, _, rfl, by omega, by simpa [Fo.more] using (unhide HF).1, Keep.refl _ _, Grew.refl _ _⟩
  case round =>
    obtain ⟨k, u', v', a', rfl, hk, HK⟩ := hrel
    obtain ⟨_, hw, hk0⟩ := unhide HF
    obtain ⟨h, hkeep, hgrew⟩ := unhide HK
    obtain ⟨c0, c1, c2, f0, f1, f2⟩ := h.cells
    obtain ⟨xu, capu, hu, ku1, ku2, k9⟩ := ints_form h.rp
    obtain ⟨xv, capv, hv, kv1, kv2, k9'⟩ := ints_form h.rw
    have hl : (F.more k).ps.length = F.ps.length + k := by simp [Fo.more]
    have hl' : (F.more k).ws.length = F.ps.length + k := by simp [Fo.more, hw]
    clear k9 k9'
    have hp := blk_lt h.blk
    by_cases hlt : k < k0
    · have hle : (((F.more k).ps.length : Nat) : Int) ≤ (x : Int) := by omega
      have hn1 : (F.more k).ps.length ≤ 1048576 := by omega
      have hn2 : (F.more k).ws.length ≤ 1048576 := by omega
      have hrow := h.rp
      have H := hide (And.intro h (And.intro hkeep hgrew))
      have HU := hide hu
      have HV := hide hv
      have HL := hide (And.intro hl (And.intro hl' hk0))
      clear hkeep hgrew h hl hl' hk0 hw HK
      generalize hm : (F.more k).ps.length = m at *
      have HM := hide hm
      clear hm
      subst hu
      unfold maxLen at ku2
      go_wp2_with (at_builtin; refine wpList_append_lies _ rfl _ _ 53 rfl 0 3 i1 (.int .i64 0) 1 8 Try.underlying53 hi1 hy0 hy1 hy2 rfl (by decide) _ _ _ rfl (hrow.alloc _) ⟨wr.heap.size, 0, none⟩ 1 1 [.int .i64 (-2)] rfl rfl (news_at _ _ _ _ (by simp)) (one1' _) (by omega) (by unfold maxLen; omega) (by omega) (Nat.zero_le _) (wr.heap.size + 1) (by simp) ?_)
      intro g cap' w1 hown hgrow hat hlt'
      rw [← unhide HM] at hown
      obtain ⟨hb, h1, hk1, hg1⟩ := (unhide H).1.pushP (-2) hgrow hat (by omega) hlt' hown
      rw [unhide HM] at h1 hk1 hg1
      have cc : w1.cell? ⟨p, 0, none⟩ = some (.int .i64 ((F.more k).room : Int)) ∧ w1.cell? ⟨p, 1, none⟩ = some (.slice xu m capu) ∧ w1.cell? ⟨p, 2, none⟩ = some v' ∧ w1.frozen? ⟨p, 0, none⟩ = false ∧ w1.frozen? ⟨p, 1, none⟩ = false ∧ w1.frozen? ⟨p, 2, none⟩ = false := by
        have hbb := (unhide H).1.blk
        rw [← hb] at hbb
        simp [World.cell?, World.frozen?, hbb]
      obtain ⟨b0, b1, b2, g0, g1, g2⟩ := cc
      have H1 := hide (And.intro h1 (And.intro ((unhide H).2.1.trans hk1 (fun i hi => (unhide H).2.2 i hi)) ((unhide H).2.2.trans hg1 (unhide H).2.1.size)))
      have hp1 : p < w1.heap.size := by have := hgrow.size; simp at this; omega
      clear hown hgrow hat hlt' h1 hk1 hg1 H c0 c1 c2 f0 f1 f2 hrow hb
      have hrow := (unhide H1).1.rw
      dsimp only at hrow
      generalize hm' : (F.more k).ws.length = m' at *
      have HM' := hide hm'
      clear hm'
      subst hv
      unfold maxLen at kv2
      go_wp2_with (at_builtin; refine wpList_append_lies _ rfl _ _ 53 rfl 0 3 i1 (.int .i64 0) 1 8 Try.underlying53 hi1 hy0 hy1 hy2 rfl (by decide) _ _ _ rfl (hrow.alloc _) ⟨w1.heap.size, 0, none⟩ 1 1 [.int .i64 0] rfl rfl (news_at _ _ _ _ (by simp)) (one1' _) (by omega) (by unfold maxLen; omega) (by omega) (Nat.zero_le _) (w1.heap.size + 1) (by simp) ?_)
      intro gg cap2 w2 hown hgrow hat hlt'
      rw [← unhide HM'] at hown
      obtain ⟨hb, h1, hk1, hg1⟩ := (unhide H1).1.pushW 0 hgrow hat (by simp) hlt' hown
      dsimp only at h1 hk1 hg1
      rw [unhide HM'] at h1 hk1 hg1
      have cc : w2.cell? ⟨p, 2, none⟩ = some (.slice xv m' capv) ∧ w2.frozen? ⟨p, 2, none⟩ = false := by
        have hbb := (unhide H1).1.blk
        rw [← hb] at hbb
        simp [World.cell?, World.frozen?, hbb]
      obtain ⟨d2, q2⟩ := cc
      have H2 := hide (And.intro h1 (And.intro ((unhide H1).2.1.trans hk1 (fun i hi => (unhide H1).2.2 i hi)) ((unhide H1).2.2.trans hg1 (unhide H1).2.1.size)))
      clear hown hgrow hat hlt' h1 hk1 hg1 H1 b0 b1 b2 g0 g1 g2 hrow hb
      go_wp2
      go_roundg (gk - 1)
      case rel =>
        obtain ⟨r1, r2, r3⟩ := unhide H2
        refine ⟨k + 1, _, _, _, rfl, by omega, ?_, r2, r3⟩
        have := Fo.more_succ F k
        rw [this] at r1
        exact r1
      all_goals omega
    · have hle : (x : Int) < (((F.more k).ps.length : Nat) : Int) := by omega
      have : k = k0 := by omega
      subst this
      have H := hide (And.intro h (And.intro hkeep hgrew))
      clear hkeep hgrew h hl hl' hk0 hw HK hv
      generalize (F.more k).ps.length = m at *
      subst hu
      go_wp2
      go_end0
      exact ⟨rfl, _, _, unhide H⟩
end Go.Proofs.Ytbcibdofcjehcaa

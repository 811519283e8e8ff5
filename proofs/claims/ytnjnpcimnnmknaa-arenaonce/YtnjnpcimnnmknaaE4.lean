import Derived.Test.YtnjnpcimnnmknaaE3
import Derived.Deep.RegionLaw
namespace Go.Proofs.Ytnjnpcimnnmknaa
open Go.RowKit Go.Arb

set_option maxHeartbeats 800000 in
theorem rgive_no (s g : Int) (w : World) (q : Nat)
    (hl : ∀ W, Keep [] w W → Calls Try.prog 14 #[.pointer (some ⟨q, 0, none⟩), .agg #[.int .i64 s, .int .i64 g]] W fun e w' => e = .returned (.bool false) ∧ Below W.heap.size W w') :
    Calls Try.prog 12 #[.pointer (some ⟨q, 0, none⟩), .agg #[.int .i64 s, .int .i64 g]] w fun e w' => e = .returned (.bool false) ∧ Below w.heap.size w w' := by
  have H : Hid (∀ W, Keep [] w W → Calls Try.prog 14 #[.pointer (some ⟨q, 0, none⟩), .agg #[.int .i64 s, .int .i64 g]] W fun e w' => e = .returned (.bool false) ∧ Below W.heap.size W w') := hl
  clear hl
  go_enter Try.func12, Try.ntmps12
  go_wp2_with fail
  refine (H.out _ ((Keep.refl _ _).alloc _)).mono ?_
  rintro e w1 ⟨rfl, hb1⟩
  go_wp2
  go_ret
  exact ⟨rfl, ((Below.refl _ _).alloc (Nat.le_refl _) _).trans (hb1.mono (by simp))⟩

theorem one1 (x : Int) : ∀ u ∈ [Value.int .i64 x], u.oneCell' = true := by
  intro u hu; simp at hu; subst hu; rfl

theorem rs_pushed {W2 w3 : World} {q : Nat} {vg vb vf : Value} {R : Rs} {n gg cap : Nat} {x : Int} {o : Obj} (h2 : RsIn W2 q vg vb vf R) (hn : R.free.length = n) (hown : w3.ownsRow 0 3 1 (.slice (some ⟨gg, 0, none⟩) (n + 1) cap) (n + 1) (R.free.map (Value.int .i64) ++ [.int .i64 x]))
    (hgrow : (W2.alloc o).drew.grownBy w3 vf.ownBlock) (hat : vf.ownBlock = some gg ∨ gg = W2.heap.size + 1) :
    RsIn (w3.setCell ⟨q, 2, none⟩ (.slice (some ⟨gg, 0, none⟩) (n + 1) cap)) q vg vb (.slice (some ⟨gg, 0, none⟩) (n + 1) cap) { R with free := R.free ++ [x] } ∧ Keep (rfp q vg vb vf) W2 (w3.setCell ⟨q, 2, none⟩ (.slice (some ⟨gg, 0, none⟩) (n + 1) cap)) ∧ Grew W2 (rfp q vg vb vf) (rfp q vg vb (.slice (some ⟨gg, 0, none⟩) (n + 1) cap)) := by
  have k1 : Keep (own vf) W2 w3 := (((Keep.refl _ W2).alloc o).drew).grown hgrow (fun k hk => .inl (mem_own.2 hk))
  have hgm : gg ∈ own vf ∨ W2.heap.size ≤ gg := by
    rcases hat with h | h
    · exact .inl (mem_own.2 h)
    · right; omega
  have ho : ∀ ks : List Nat, (∀ k ∈ ks, k < W2.heap.size) → Off ks (own vf) → Off ks (own (.slice (some ⟨gg, 0, none⟩) (n + 1) cap)) := by
    intro ks hk hof
    refine hof.grew hk ?_
    intro k h
    have e : k = gg := by simpa [own, Value.ownBlock] using h
    subst e
    exact hgm
  have hq := blk_lt h2.blk
  have hqo : q ∉ own (.slice (some ⟨gg, 0, none⟩) (n + 1) cap) := ho [q] (by simpa using hq) (fun k hk => by simp at hk; subst hk; exact h2.qf) q (by simp)
  refine ⟨?_, ?_, ?_⟩
  · refine RsIn.setFree (vf := vf) (R := R) ?_ (row_keep h2.rg k1 h2.gf) (row_keep h2.rb k1 h2.bf) ?_ h2.qg h2.qb hqo h2.gb (ho _ (row_lt h2.rg) h2.gf) (ho _ (row_lt h2.rb) h2.bf)
    · rw [k1.block q hq h2.qf]; exact h2.blk
    · simpa [hn] using hown
  · exact (k1.mono (fun k hk => .inl (by simp [rfp, hk]))).setCell (p := ⟨q, 2, none⟩) (by simp [rfp]) _
  · intro k hk
    simp only [rfp, List.mem_cons, List.mem_append] at hk ⊢
    rcases hk with hk | (hk | hk) | hk
    · exact .inl (.inl hk)
    · exact .inl (.inr (.inl (.inl hk)))
    · exact .inl (.inr (.inl (.inr hk)))
    · have e : k = gg := by simpa [own, Value.ownBlock] using hk
      subst e
      rcases hgm with h | h
      · exact .inl (.inr (.inr h))
      · exact .inr h

set_option maxRecDepth 100000 in
set_option maxHeartbeats 1000000 in
theorem rgive_yes (i : Nat) (g : Int) (w : World) (q : Nat) (vg vb vf : Value) (R : Rs) (h : RsIn w q vg vb vf R) (hg : R.gen[i]? = some g) (hb : R.busy[i]? = some true) (hfl : R.free.length ≤ 1048576) :
    Calls Try.prog 12 #[.pointer (some ⟨q, 0, none⟩), .agg #[.int .i64 (i : Int), .int .i64 g]] w fun e w' => e = .returned (.bool true) ∧ ∃ vf', RsIn w' q vg vb vf' { R with busy := R.busy.set i false, free := R.free ++ [(i : Int)] } ∧ Keep (rfp q vg vb vf) w w' ∧ Grew w (rfp q vg vb vf) (rfp q vg vb vf') := by
  have H : Hid (RsIn w q vg vb vf R ∧ R.gen[i]? = some g ∧ R.busy[i]? = some true) := ⟨h, hg, hb⟩
  clear h hg hb
  go_enter Try.func12, Try.ntmps12
  go_wp2_with fail
  generalize hW : (w.alloc (.cells #[.int .i64 (i : Int), .int .i64 g] 29)) = W
  have hkW : Keep [] w W := by subst hW; exact (Keep.refl _ _).alloc _
  have hWs : W.heap.size = w.heap.size + 1 := by subst hW; simp
  have hWb : W.heap[w.heap.size]? = some (.cells #[.int .i64 (i : Int), .int .i64 g] 29 (0, 0)) := by subst hW; exact heap_alloc_new w _
  obtain ⟨h, hg, hb⟩ := H.out
  have h' : RsIn W q vg vb vf R := h.keep hkW (fun _ _ => by simp)
  clear hW
  refine (rlive_on i g g _ q vg vb vf R h' hg hb).mono ?_
  rintro e w1 ⟨rfl, hbel⟩
  rw [show (g == g) = true from by simp]
  obtain ⟨hib, hbi⟩ := List.getElem?_eq_some_iff.1 hb
  have hb1 : w1.heap[w.heap.size]? = some (.cells #[.int .i64 (i : Int), .int .i64 g] 29 (0, 0)) := by rw [hbel.block _ (by omega)]; exact hWb
  have h1 : RsIn w1 q vg vb vf R := h'.keep (Keep.ofBelow hbel []) (fun _ _ => by simp)
  have hk1 : Keep (rfp q vg vb vf) w w1 := (hkW.mono (js := rfp q vg vb vf) (by simp)).trans (Keep.ofBelow hbel []) (by simp)
  obtain ⟨c0, c1, c2, c3, f0, f1, f2, f3⟩ := h1.cells
  have hq := blk_lt h.blk
  have hq1 := blk_lt h1.blk
  obtain ⟨b, capb, hvb, hb2, hb3, hb4, _, d0, d1⟩ := row1 h1.rb i hib
  rw [hbi] at d0
  have hwb : w.heap.size ≠ b := fun e => by have := h.lt b (by rw [hvb]; simp [rfp, own, Value.ownBlock]); omega
  have hwq : w.heap.size ≠ q := by omega
  have hqb : q ≠ b := by have := h.qb; rw [hvb] at this; simpa [own, Value.ownBlock] using this
  have r0 : w1.cell? ⟨w.heap.size, 0, none⟩ = some (.int .i64 (i : Int)) := by simp [World.cell?, hb1]
  have HR : Hid (RsIn w q vg vb vf R ∧ RsIn w1 q vg vb vf R ∧ Keep (rfp q vg vb vf) w w1 ∧ W.heap.size ≤ w1.heap.size ∧ w1.heap[w.heap.size]? = some (.cells #[.int .i64 (i : Int), .int .i64 g] 29 (0, 0))) := ⟨h, h1, hk1, hbel.size, hb1⟩
  have hw1 : w.heap.size < w1.heap.size := by have := hbel.size; omega
  clear hk1 h1 h' h hkW hWb hb1 hbel hg hb H hbi f0 f1 f3 c0 c3
  obtain ⟨x, capf, hvf, hm⟩ := row_len HR.out.1.rf
  subst hvb
  generalize hmb : R.busy.length = m at *
  have hn0 : (0 : Int) ≤ (i : Int) := by omega
  have hn1 : (i : Int) < (m : Int) := by omega
  go_wp2
  go_region
  go_wp2
  generalize hW2 : (w1.setCell ⟨b, i, none⟩ (.bool false)).drew = W2
  obtain ⟨h, h1, hk1, hsz, hb1⟩ := HR.out
  have h2 : RsIn W2 q vg (.slice (some ⟨b, 0, none⟩) m capb) vf { R with busy := R.busy.set i false } := by
    subst hW2
    have a := h1.setBusy hmb.symm i false
    exact ⟨a.blk, a.rg, a.rb, a.rf, a.qg, a.qb, a.qf, a.gb, a.gf, a.bf⟩
  have hk2 : Keep (rfp q vg (.slice (some ⟨b, 0, none⟩) m capb) vf) w W2 := by
    subst hW2
    exact (hk1.setCell (p := ⟨b, i, none⟩) (by simp [rfp, own, Value.ownBlock]) _).drew
  have hz2 : W2.heap.size = w1.heap.size := by subst hW2; simp
  have hb2' : W2.heap[w.heap.size]? = some (.cells #[.int .i64 (i : Int), .int .i64 g] 29 (0, 0)) := by
    subst hW2
    show (w1.setCell ⟨b, i, none⟩ (.bool false)).heap[w.heap.size]? = _
    rw [Below.heap_setCell _ _ _ _ hwb]; exact hb1
  have r0 : W2.cell? ⟨w.heap.size, 0, none⟩ = some (.int .i64 (i : Int)) := by simp [World.cell?, hb2']
  obtain ⟨c0, c1, c2, c3, f0, f1, f2, f3⟩ := h2.cells
  have hq2 : q < W2.heap.size := by omega
  have hR2 : w.heap.size < W2.heap.size := by omega
  clear hW2 HR d0 d1 h1 hk1 hb1 c1 c3 f0 f1 f3 c0
  obtain ⟨i0, hi, hz0, hz1, hzb⟩ := info_parts Try.info3
  have hrow := h2.rf
  have hqf : vf.ownBlock ≠ some q := fun e => h.qf (mem_own.2 e)
  have hRf : vf.ownBlock ≠ some w.heap.size := fun e => by have := row_lt h.rf _ (mem_own.2 e); omega
  have HH : Hid (RsIn w q vg (.slice (some ⟨b, 0, none⟩) m capb) vf R ∧ RsIn W2 q vg (.slice (some ⟨b, 0, none⟩) m capb) vf { R with busy := R.busy.set i false } ∧ Keep (rfp q vg (.slice (some ⟨b, 0, none⟩) m capb) vf) w W2) := ⟨h, h2, hk2⟩
  have HN : Hid (vf = .slice x R.free.length capf) := hvf
  clear h h2 hk2 hvf
  generalize hfn : R.free.length = n at *
  have HFN : Hid (R.free.length = n) := hfn
  clear hfn
  dsimp only at hrow
  have HMB : Hid (R.busy.length = m ∧ W2.heap.size = w1.heap.size ∧ W.heap.size = w.heap.size + 1) := ⟨hmb, hz2, hWs⟩
  clear hmb hz2 hWs
  go_region_law
    ((refine step_append_lies _ (by rfl) _ _ _ (by rfl) 0 3 i0 _ 1 8 Try.underlying41 hi hz0 hz1 hzb rfl (by omega) vf n _ (by rfl) ((hrow.alloc _).drew) ⟨W2.heap.size, 0, none⟩ 1 1 [.int .i64 (i : Int)] (by rfl) (by rfl) (World.news_of_block (cs := #[.int .i64 (i : Int)]) (t := 3) (fr := (0, 0)) (heap_alloc_new W2 _)) (one1 _) (by omega) (by unfold maxLen; omega) (by omega) (Nat.zero_le _) (W2.heap.size + 1) (by simp) ?_; intro gg cap w3 hown1 hgrow hat hlt; have fz : w3.frozen? ⟨q, 2, none⟩ = false := (by rw [hgrow.frozen_far ⟨q, 2, none⟩ (by simp; omega) (Ne.symm hqf), ((Keep.refl [] W2).alloc (.cells #[.int .i64 (i : Int)] 3)).drew.frozen (p := ⟨q, 2, none⟩) hq2 (by simp)]; exact f2); have cz : w3.cell? ⟨q, 2, none⟩ = some vf := (by rw [hgrow.cell_far ⟨q, 2, none⟩ (by simp; omega) (Ne.symm hqf), ((Keep.refl [] W2).alloc (.cells #[.int .i64 (i : Int)] 3)).drew.cell (p := ⟨q, 2, none⟩) hq2 (by simp)]; exact c2)))
  all_goals
    go_wp2
    go_ret
    obtain ⟨h, h2, hk2⟩ := HH.out
    obtain ⟨a1, a2, a3⟩ := rs_pushed (x := (i : Int)) h2 HFN.out hown1 hgrow hat
    rw [HMB.out.1]
    exact ⟨rfl, _, a1, hk2.trans a2 (fun k hk => .inl hk), (Grew.refl w _).trans a3 hk2.size⟩
end Go.Proofs.Ytnjnpcimnnmknaa

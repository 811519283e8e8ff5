/- The document's table in memory: a block with its two rows. -/
import Derived.Test.YtakgacahaennoaaDoorC8
import Derived.Test.YtakgacahaennoaaDoorM3
namespace Go.Proofs.YtakgacahaennoaaDoor
open Go.RowKit Go.Arb

def numsS (S : List Cell) : List Int := S.map (·.2)
theorem numsS_len (S : List Cell) : (numsS S).length = S.length := by simp [numsS]

structure RfIn (w : World) (q : Nat) (vi va : Value) (I A : List Int) : Prop where
  blk : w.heap[q]? = some (.cells #[vi, va] 50 (0, 0))
  ri : IRow 0 w vi I
  ra : IRow 0 w va A
  qi : q ∉ own vi
  qa : q ∉ own va
  ia : Off (own vi) (own va)

def rfp (q : Nat) (vi va : Value) : List Nat := q :: (own vi ++ own va)

section
variable {w w' : World} {q : Nat} {vi va : Value} {I A : List Int} {ks : List Nat}
theorem RfIn.lt (h : RfIn w q vi va I A) : ∀ k ∈ rfp q vi va, k < w.heap.size := fun k hk => by
  simp only [rfp, List.mem_cons, List.mem_append] at hk
  rcases hk with rfl | hk | hk
  · exact blk_lt h.blk
  · exact row_lt h.ri k hk
  · exact row_lt h.ra k hk
theorem RfIn.keep (h : RfIn w q vi va I A) (hk : Keep ks w w') (ho : Off (rfp q vi va) ks) : RfIn w' q vi va I A :=
  ⟨by rw [hk.block q (blk_lt h.blk) (ho q (by simp [rfp]))]; exact h.blk, row_keep h.ri hk (fun k h1 => ho k (by simp [rfp, h1])), row_keep h.ra hk (fun k h1 => ho k (by simp [rfp, h1])), h.qi, h.qa, h.ia⟩
theorem RfIn.below (h : RfIn w q vi va I A) (hb : Below w.heap.size w w') : RfIn w' q vi va I A := h.keep (Keep.ofBelow hb []) (fun _ _ => by simp)
theorem RfIn.cells2 (h : RfIn w q vi va I A) : w.cell? ⟨q, 0, none⟩ = some vi ∧ w.cell? ⟨q, 1, none⟩ = some va ∧ w.frozen? ⟨q, 0, none⟩ = false ∧ w.frozen? ⟨q, 1, none⟩ = false := by
  simp [World.cell?, World.frozen?, h.blk]
theorem keep_cell (w : World) (b o : Nat) (u : Value) : Keep [b] w (w.setCell ⟨b, o, none⟩ u) := Keep.setCell (ks := [b]) (Keep.refl _ _) (p := ⟨b, o, none⟩) (by simp) _
theorem off_one {ks : List Nat} {b : Nat} (h : b ∉ ks) : Off ks [b] := fun k hk hm => by simp at hm; subst hm; exact h hk
/-- Another row is stored into the first field; into the second. -/
theorem RfIn.setI {vi' : Value} {I' : List Int} (h : RfIn w q vi va I A) (hr : IRow 0 w vi' I') (hq : q ∉ own vi') (hia : Off (own vi') (own va)) : RfIn (w.setCell ⟨q, 0, none⟩ vi') q vi' va I' A := by
  refine ⟨?_, row_keep hr (keep_cell _ _ _ _) (off_one hq), row_keep h.ra (keep_cell _ _ _ _) (off_one h.qa), hq, h.qa, hia⟩
  rw [heap_setCell_same w q 0 _ _ _ h.blk]; simp
theorem RfIn.setA {va' : Value} {A' : List Int} (h : RfIn w q vi va I A) (hr : IRow 0 w va' A') (hq : q ∉ own va') (hia : Off (own vi) (own va')) : RfIn (w.setCell ⟨q, 1, none⟩ va') q vi va' I A' := by
  refine ⟨?_, row_keep h.ri (keep_cell _ _ _ _) (off_one h.qi), row_keep hr (keep_cell _ _ _ _) (off_one hq), h.qi, hq, hia⟩
  rw [heap_setCell_same w q 1 _ _ _ h.blk]; simp
end

theorem IRow.get0 {B : Nat} {W : World} {u : Value} {l : List Int} (h : IRow B W u l) (i : Nat) (hi : i < l.length) :
    ∃ g cap, u = .slice (some ⟨g, 0, none⟩) l.length cap ∧ l.length ≤ cap ∧ cap ≤ maxLen ∧ g < W.heap.size ∧ W.cell? ⟨g, i, none⟩ = some (.int .i64 l[i]) := by
  obtain ⟨x, cap, hv, h1, h2, h3⟩ := row_form h
  obtain ⟨g, rfl, hg, how, hc⟩ := h3 (by omega)
  have := hc i (by omega)
  exact ⟨g, cap, hv, h1, h2, hg, by rw [this.1]; simp [hi]⟩

set_option maxHeartbeats 400000 in
theorem rnew_any (w : World) :
    Calls Tryd.prog 8 #[] w fun e w' => e = .returned (.pointer (some ⟨w.heap.size, 0, none⟩)) ∧ RfIn w' w.heap.size (.slice none 0 0) (.slice none 0 0) [] [] ∧ Below w.heap.size w w' ∧ w'.heap.size = w.heap.size + 1 := by
  go_enter Tryd.func8, Tryd.ntmps8
  go_wp2
  go_ret
  exact ⟨rfl, ⟨heap_alloc_new w _, World.ownsRow_nil _ _ _ _, World.ownsRow_nil _ _ _ _, by simp [own, Value.ownBlock], by simp [own, Value.ownBlock], fun k hk => by simp [own, Value.ownBlock] at hk⟩, (Below.refl _ _).alloc (Nat.le_refl _) _, by simp⟩

set_option maxHeartbeats 400000 in
theorem rlen_any (w : World) (q : Nat) (vi va : Value) (I A : List Int) (h : RfIn w q vi va I A) :
    Calls Tryd.prog 16 #[.pointer (some ⟨q, 0, none⟩)] w fun e w' => e = .returned (.int .i64 (I.length : Int)) ∧ w = w' := by
  obtain ⟨c0, _⟩ := h.cells2
  obtain ⟨x, cap, rfl, h1, h2, _⟩ := row_form h.ri
  clear h
  go_enter Tryd.func16, Tryd.ntmps16
  go_wp2
  go_ret
  exact ⟨rfl, rfl⟩

set_option maxHeartbeats 800000 in
theorem place_any (w : World) (q : Nat) (vi va : Value) (S : List Cell) (A : List Int) (id : Int) (h : RfIn w q vi va (idsS S) A) (hl : S.length ≤ 1048576) :
    Calls Tryd.prog 25 #[.pointer (some ⟨q, 0, none⟩), .int .i64 id] w fun e w' => e = .returned (.int .i64 (plc S id : Int)) ∧ w = w' := by
  obtain ⟨c0, _⟩ := h.cells2
  obtain ⟨x, cap, hv, h1, h2, _⟩ := row_form h.ri
  rw [idsS_len] at hv h1
  have hle := plc_le S id
  have HH := hide h
  have HV := hide hv
  rw [hv] at c0
  clear h hv
  unfold maxLen at h2
  have hq : ∀ t (ht : t < S.length), ∃ g cap', x = some ⟨g, 0, none⟩ ∧ cap' = cap ∧ g < w.heap.size ∧ w.cell? ⟨g, t, none⟩ = some (.int .i64 (S[t].1)) := by
    intro t ht
    obtain ⟨g, cap', hv', _, _, hg, hc⟩ := (unhide HH).ri.get0 t (by rw [idsS_len]; exact ht)
    rw [unhide HV] at hv'
    simp only [Value.slice.injEq] at hv'
    refine ⟨g, cap', hv'.1, hv'.2.2.symm, hg, ?_⟩
    rw [hc]; simp [idsS]
  have HQ := hide hq
  clear hq
  go_enter Tryd.func25, Tryd.ntmps25
  go_wp2
  go_loopw [5] (fun i w' => ∃ t : Nat, t ≤ plc S id ∧ i = .int .i64 (t : Int) ∧ w' = w) (fun i _ => plc S id - (intOf i).toNat)
  case atStart => exact ⟨0, Nat.zero_le _, rfl, rfl⟩
  case round =>
    obtain ⟨t, ht, rfl, rfl⟩ := hrel
    have e0 : (0 : Int) ≤ (t : Int) := by omega
    by_cases htp : t < plc S id
    · have hts : t < S.length := by omega
      obtain ⟨g, cap', rfl, rfl, hgl, hc⟩ := unhide HQ t hts
      have hlt := plc_lt S id t hts htp
      generalize S[t].1 = z at *
      have e1 : (t : Int) < (S.length : Int) := by omega
      go_wp2
      go_roundw
      case rel => exact ⟨t + 1, by omega, by go_num, trivial⟩
      case measure => simp [intOf]; omega
    · have hte : t = plc S id := by omega
      by_cases hts : t < S.length
      · obtain ⟨g, cap', rfl, rfl, hgl, hc⟩ := unhide HQ t hts
        have hge := plc_ge S id (by omega)
        have hge' : ¬ S[t].1 < id := by simpa only [hte] using hge
        clear hge
        generalize S[t].1 = z at *
        have e1 : (t : Int) < (S.length : Int) := by omega
        have HT := hide hte
        clear hte
        go_wp2
        go_ret
        exact ⟨by rw [← unhide HT]; rfl, rfl⟩
      · have e1 : ¬ (t : Int) < (S.length : Int) := by omega
        have HT := hide hte
        clear hte
        go_wp2
        go_ret
        exact ⟨by rw [← unhide HT]; rfl, rfl⟩
end Go.Proofs.YtakgacahaennoaaDoor

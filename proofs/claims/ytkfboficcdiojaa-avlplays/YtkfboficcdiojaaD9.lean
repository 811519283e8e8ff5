import Derived.Test.YtkfboficcdiojaaD4
import Derived.Test.YtkfboficcdiojaaApp
namespace Go.Proofs.Ytkfboficcdiojaa
open Go.RowKit Go.Arb
set_option linter.unusedVariables false
set_option linter.unusedSimpArgs false

theorem Try.info67 : (Try.prog.info? 67).map (fun i => (i.zero, i.size, i.bytes)) = some (some (.agg #[.int .i64 0, .int .i64 0, .int .i64 0, .int .i64 0, .int .i64 0, .int .i64 0, .int .i64 0, .int .i64 0, .int .i64 0, .int .i64 0]), 10, 80) := by kernel_rfl
theorem zeros67 (m : Nat) : (Builtin.zeroCells #[.int .i64 0, .int .i64 0, .int .i64 0, .int .i64 0, .int .i64 0, .int .i64 0, .int .i64 0, .int .i64 0, .int .i64 0, .int .i64 0] m).toList = List.replicate (m * 10) (.int .i64 0) := by
  rw [List.eq_replicate_iff]
  constructor
  · rw [Array.length_toList, size_zeroCells]; rfl
  · intro b hb
    simp only [Builtin.zeroCells, Array.toList_map, List.mem_map] at hb
    obtain ⟨i, _, rfl⟩ := hb
    have hi : i % 10 < 10 := Nat.mod_lt _ (by omega)
    have : ∀ k, k < 10 → (#[.int .i64 0, .int .i64 0, .int .i64 0, .int .i64 0, .int .i64 0, .int .i64 0, .int .i64 0, .int .i64 0, .int .i64 0, .int .i64 0] : Array Value)[k]! = .int .i64 0 := fun k hk => by
      match k, hk with
      | 0, _ => rfl
      | 1, _ => rfl
      | 2, _ => rfl
      | 3, _ => rfl
      | 4, _ => rfl
      | 5, _ => rfl
      | 6, _ => rfl
      | 7, _ => rfl
      | 8, _ => rfl
      | 9, _ => rfl
    exact this _ hi
theorem flat_zero (m : Nat) : flat slV (List.replicate m Sl.zero) = List.replicate (m * 10) (.int .i64 0) := by
  induction m with
  | zero => rfl
  | succ m ih =>
    rw [List.replicate_succ, show flat slV (Sl.zero :: List.replicate m Sl.zero) = slV Sl.zero ++ flat slV (List.replicate m Sl.zero) from rfl, ih]
    show List.replicate 10 (Value.int .i64 0) ++ List.replicate (m * 10) (Value.int .i64 0) = _
    rw [List.replicate_append_replicate]
    congr 1
    omega
theorem sl_zero (F : List Sl) (m : Nat) : sl (F ++ List.replicate m Sl.zero) = sl F := by
  funext t
  simp only [sl, List.getD_eq_getElem?_getD]
  by_cases h : t < F.length
  · rw [List.getElem?_append_left h]
  · rw [List.getElem?_append_right (by omega), List.getElem?_eq_none (show F.length ≤ t by omega), List.getElem?_replicate]
    split <;> rfl

section
variable {w w' : World} {p g n cap room : Nat} {S S' : Ss} {A : Se}
/-- What reaching for an item leaves. -/
structure Reach (w w' : World) (p g g' n n' cap' room : Nat) (S : Ss) (v : Nat) : Prop where
  po : Pool w' p g' n' cap' room S
  lt : v + 1 < n'
  nn : n' = n ∨ n' = v + 2
  kp : Keep [p, g] w w'
  gg : g' = g ∨ w.heap.size ≤ g'
set_option maxHeartbeats 4000000 in
theorem reach_any (v : Nat) (h : Pool w p g n cap room S) (n0 : 0 < n) (hv : v ≤ 4194304) (hn : n ≤ 4194306) :
    Calls Try.prog 45 #[.pointer (some ⟨p, 0, none⟩), .int .i64 (v : Int)] w fun e w' => e = .returned (.tuple #[]) ∧ ∃ g' n' cap', Reach w w' p g g' n n' cap' room S v := by
  obtain ⟨_, c1, _, f1, k1, k2⟩ := h.head
  by_cases hc : v + 2 ≤ n
  · have hc' : ¬ 0 < (v : Int) + 2 - (n : Int) := by omega
    have HH := hide h
    clear h
    go_enter Try.func45, Try.ntmps45
    go_wp2
    go_end0
    exact ⟨rfl, g, n, cap, unhide HH, by omega, .inl rfl, Keep.refl _ _, .inl rfl⟩
  · obtain ⟨m, hm⟩ : ∃ m, v + 2 = n + m := ⟨v + 2 - n, by omega⟩
    have hc' : 0 < (v : Int) + 2 - (n : Int) := by omega
    have hmm : (v : Int) + 2 - (n : Int) = (m : Int) := by omega
    have hN := h.ne
    have hL := h.lt
    obtain ⟨F, hF, hlen, hS⟩ := h
    obtain ⟨i0, hi, hzz⟩ := Option.map_eq_some_iff.1 Try.info67
    simp only [Prod.mk.injEq] at hzz
    obtain ⟨hz0, hz1, hz2⟩ := hzz
    have hrow := hF.row
    rw [hlen] at hrow
    have HF := hide hF
    have HS := hide (And.intro hS hlen)
    clear hF
    go_enter Try.func45, Try.ntmps45
    go_wp2_with (at_builtin; refine wpList_append_zero _ rfl _ _ 58 3 rfl 0 67 i0 (.agg #[.int .i64 0, .int .i64 0, .int .i64 0, .int .i64 0, .int .i64 0, .int .i64 0, .int .i64 0, .int .i64 0, .int .i64 0, .int .i64 0]) 10 80 .i64 Try.underlying58 Try.underlying3 hi hz0 hz1 hz2 rfl (by decide) g n cap m (flat slV F) rfl hrow rfl (by omega) (by intro u hu; rw [show (Value.agg #[.int .i64 0, .int .i64 0, .int .i64 0, .int .i64 0, .int .i64 0, .int .i64 0, .int .i64 0, .int .i64 0, .int .i64 0, .int .i64 0]).cells = #[.int .i64 0, .int .i64 0, .int .i64 0, .int .i64 0, .int .i64 0, .int .i64 0, .int .i64 0, .int .i64 0, .int .i64 0, .int .i64 0] from rfl, zeros67] at hu; rw [List.eq_of_mem_replicate hu]; rfl) (by unfold maxLen; omega) (by omega) (Nat.zero_le _) ?_)
    intro v' w2 hown hgrow hat
    rw [zeros67, ← flat_zero, ← flat_append] at hown
    obtain ⟨g', cap', hv'⟩ : ∃ g' cap', v' = .slice (some ⟨g', 0, none⟩) (n + m) cap' := by
      obtain ⟨x, c', e1, _, _, h3⟩ := row_form hown
      obtain ⟨g', rfl, _⟩ := h3 (by omega)
      exact ⟨g', c', e1⟩
    subst hv'
    have hgw : ¬ g' = p := fun e => by
      subst e
      rcases hat with h' | h'
      · simp [Value.ownBlock] at h'; exact hN h'.symm
      · simp [Value.ownBlock] at h'; omega
    have hp2 : w2.heap[p]? = w.heap[p]? := hgrow.block p hL.1 (by simp; exact fun e => hN e.symm)
    have c2 : w2.cell? ⟨p, 1, none⟩ = some (.slice (some ⟨g, 0, none⟩) n cap) := by rw [World.cell?_of_block (w := w) (a := ⟨p, 1, none⟩) hp2]; exact c1
    have f2 : w2.frozen? ⟨p, 1, none⟩ = false := by rw [World.frozen?_of_block (w := w) (a := ⟨p, 1, none⟩) hp2]; exact f1
    have RES : Hid (Pool (w2.setCell ⟨p, 1, none⟩ (.slice (some ⟨g', 0, none⟩) (n + m) cap')) p g' (n + m) cap' room S ∧ Keep [p, g] w (w2.setCell ⟨p, 1, none⟩ (.slice (some ⟨g', 0, none⟩) (n + m) cap')) ∧ (g' = g ∨ w.heap.size ≤ g')) := by
      refine ⟨⟨F ++ List.replicate m Sl.zero, ⟨?_, ?_, ?_⟩, ?_, ?_⟩, ?_, ?_⟩
      · rw [heap_setCell_same w2 p 1 _ _ _ (hp2.trans (unhide HF).blk)]; simp
      · have : (F ++ List.replicate m Sl.zero).length = n + m := by simp [(unhide HS).2]
        rw [this]
        exact row_keep hown (keep_cell w2 p 1 _) (off_one (by simp [own, Value.ownBlock]; exact fun e => hgw e.symm))
      · simp [own, Value.ownBlock]; exact fun e => hgw e.symm
      · simp [(unhide HS).2]
      · rw [sl_zero]; exact (unhide HS).1
      · have k : Keep [g] w w2 := Keep.grown (ks := [g]) (Keep.refl _ _) hgrow (fun k hk => by simp at hk; subst hk; exact .inl (by simp))
        exact (k.mono (js := [p, g]) (by simp)).setCell (p := ⟨p, 1, none⟩) (.inl (by simp)) _
      · rcases hat with h' | h'
        · simp [Value.ownBlock] at h'; exact .inl h'
        · simp [Value.ownBlock] at h'; right; omega
    clear hown hgrow hat hp2 hrow HF HS hz0 hi hgw hL
    go_wp2
    go_end0
    obtain ⟨r1, r2, r3⟩ := unhide RES
    exact ⟨rfl, g', n + m, cap', r1, by omega, .inr hm.symm, r2, r3⟩
end
end Go.Proofs.Ytkfboficcdiojaa

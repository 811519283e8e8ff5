/- The pool: New, Drop, reach. -/
import Derived.Test.YtbkneonbpcmepaaQ9
namespace Go.Proofs.Ytbkneonbpcmepaa
open Go.RowKit Go.Arb
set_option linter.unusedVariables false
set_option linter.unusedSimpArgs false

section
variable {w w' : World} {p : Nat} {v : Value} {xs : List Value} {ad : Nat → Nat} {F F' D G : List Tp} {A A' : Se}
theorem pnew_no (n : Int) (w : World) (h : n < 0 ∨ 4194304 < n) : Calls Try.prog 11 #[.int .i64 n] w fun e w' => e = .returned (.pointer none) ∧ w = w' := by
  by_cases h0 : n < 0
  · go_enter Try.func11, Try.ntmps11
    go_wp2
    go_ret
    exact ⟨rfl, rfl⟩
  · have h1 : 4194304 < n := by omega
    go_enter Try.func11, Try.ntmps11
    go_wp2
    go_ret
    exact ⟨rfl, rfl⟩
theorem PB.fresh (w : World) (k : Nat) (h : k ≤ 4194304) : PB (w.alloc (.cells #[.int .i64 (k : Int), .slice none 0 0] 60)) w.heap.size (.slice none 0 0) [] (fun _ => 0) [] (Se.new k) := by
  refine ⟨?_, ⟨rfl, .inl ⟨rfl, rfl⟩⟩, by simp, fun i hi => by simp at hi, fun u hu => by simp [Se.new] at hu, fun T hT => by simp at hT, by simp [Se.new], by simp [own, Value.ownBlock, tfs], by simp [Se.new], fun l hl => by simp [Se.new] at hl, h⟩
  exact heap_alloc_new w _
theorem pnew_any (k : Nat) (w : World) (h : k ≤ 4194304) : Calls Try.prog 11 #[.int .i64 (k : Int)] w fun e w' => ∃ p, e = .returned (.pointer (some ⟨p, 0, none⟩)) ∧ PB w' p (.slice none 0 0) [] (fun _ => 0) [] (Se.new k) ∧ Below w.heap.size w w' ∧ w.heap.size ≤ p := by
  have h1 : ¬ (4194304 : Int) < (k : Int) := by omega
  have h2 : (0 : Int) ≤ (k : Int) := by omega
  have P := hide (And.intro (PB.fresh w k h) ((Below.refl w.heap.size w).alloc (Nat.le_refl _) (.cells #[.int .i64 (k : Int), .slice none 0 0] 60)))
  go_enter Try.func11, Try.ntmps11
  go_wp2
  go_ret
  exact ⟨_, rfl, (unhide P).1, (unhide P).2, Nat.le_refl _⟩

theorem pdrop_nil (x : Int) (w : World) : Calls Try.prog 15 #[.pointer none, .int .i64 x] w fun e w' => e = .returned (.bool false) ∧ Below w.heap.size w w' := by
  have L := hide (len_nil x w)
  go_enter Try.func15, Try.ntmps15
  go_wp2_with fail
  refine (unhide L).mono ?_
  rintro e w1 ⟨rfl, hb⟩
  have HB := hide hb
  clear hb L
  go_wp2
  go_ret
  exact ⟨rfl, unhide HB⟩
theorem mem_erase_one {L : List (List Nat)} (hn : L.flatten.Nodup) {u : Nat} (hu : [u] ∈ L) (i : Nat) : i ∈ (L.erase [u]).flatten ↔ i ∈ L.flatten ∧ i ≠ u := by
  have h1 := flatten_erase hu
  have h2 := (h1.nodup_iff).1 hn
  rw [List.singleton_append, List.nodup_cons] at h2
  rw [h1.mem_iff, List.singleton_append, List.mem_cons]
  constructor
  · intro h
    exact ⟨.inr h, fun e => h2.1 (e ▸ h)⟩
  · rintro ⟨h | h, hne⟩
    · exact absurd h hne
    · exact h
theorem PB.gone {T : Tp} {g cap u : Nat} (h : PB w p (.slice (some ⟨g, 0, none⟩) xs.length cap) xs ad (T :: F') A) (hu : [u] ∈ A.L) (hT : ti T = itw A.W ad [u]) (rest : (F'.map ti).Perm ((A.L.erase [u]).map (itw A.W ad))) :
    PB (w.setCell ⟨g, u, none⟩ (.pointer none)) p (.slice (some ⟨g, 0, none⟩) xs.length cap) (xs.set u (.pointer none)) ad F' { A with L := A.L.erase [u] } := by
  have hs := h.sep
  have ho : own (.slice (some ⟨g, 0, none⟩) xs.length cap) = [g] := rfl
  rw [ho, show tfs (T :: F') = tf T ++ tfs F' by simp [tfs], List.nodup_cons, List.nodup_append, List.nodup_append] at hs
  obtain ⟨s1, s2, ⟨s3, s4, s5⟩, s6⟩ := hs
  simp only [List.mem_append, List.mem_singleton, not_or] at s1
  have kc := keep_cell w g u (.pointer none)
  have hul : u ∈ A.L.flatten := List.mem_flatten.2 ⟨[u], hu, by simp⟩
  have hlt := h.lt u hul
  refine ⟨?_, ?_, by rw [List.length_set]; exact h.xn, fun i hi => ?_, fun i hi => ?_, fun S hS => (h.ow S (by simp [hS])).keep kc (fun x h1 h2 => ?_), rest, ?_, ?_, fun l hl => h.ne l (List.mem_of_mem_erase hl), h.n⟩
  · rw [kc.block p (blk_lt h.po) (by simp; exact s1.1)]; exact h.po
  · have r1 := (h.row.stored u (.pointer none)).1
    rw [List.length_set]
    exact r1
  · rw [List.length_set] at hi
    have hm := mem_erase_one h.nd hu i
    by_cases e : i = u
    · subst e
      rw [List.getElem?_set_self hi, if_neg (fun hc => (hm.1 hc).2 rfl)]
    · rw [List.getElem?_set_ne (fun h' => e h'.symm), h.cel i hi]
      simp only [hm, e, ne_eq, not_false_eq_true, and_true]
  · rw [List.length_set]
    exact h.lt i ((mem_erase_one h.nd hu i).1 hi).1
  · simp only [List.mem_singleton] at h2
    exact s6 g (by simp) x (List.mem_append.2 (.inr (mem_tfs hS h1))) h2.symm
  · rw [show own (Value.slice (some ⟨g, 0, none⟩) xs.length cap) = [g] from rfl, List.nodup_cons, List.nodup_append]
    simp only [List.mem_append, List.mem_singleton, not_or]
    exact ⟨⟨s1.1, s1.2.2⟩, s2, s4, fun a ha b hb e => s6 a (by simpa using ha) b (List.mem_append.2 (.inr hb)) e⟩
  · have h1 := (flatten_erase hu).nodup_iff.1 h.nd
    exact (List.nodup_append.1 h1).2.1
set_option maxRecDepth 100000 in
theorem pdrop_any (x : Int) (h : PB w p v xs ad F A) : Calls Try.prog 15 #[.pointer (some ⟨p, 0, none⟩), .int .i64 x] w fun e w' => e = .returned (.bool (A.dropB x)) ∧ Out w w' p (p :: (own v ++ tfs F)) (A.dropA x) := by
  have L := hide (len_any x h)
  have HH := hide h
  cases hd : A.dropB x
  · rw [show A.dropA x = A from by simp [Se.dropA, hd]]
    have hl : (A.lenI x == 1) = false := hd
    generalize A.lenI x = n at *
    clear h hd
    go_enter Try.func15, Try.ntmps15
    go_wp2_with fail
    refine (unhide L).mono ?_
    rintro e w1 ⟨rfl, hb⟩
    have HB := hide hb
    clear hb L
    go_wp2
    go_ret
    exact ⟨rfl, (unhide HH).stay (unhide HB)⟩
  · obtain ⟨u, rfl, hu, hs⟩ := Se.dropB_true hd
    have hl : A.lenI u = 1 := by simpa [Se.dropB] using hd
    rw [hl] at L
    have hui : [u] ∈ A.L := hs ▸ (Se.seq_mem hu).1
    obtain ⟨g, cap, rfl, e1, x1, x2, x3⟩ := h.cell hu
    obtain ⟨T, F1, q1, q2, q3, q4⟩ := h.focus hui
    have i1 : (u : Int) < (xs.length : Int) := by omega
    have eA : A.dropA u = { A with L := A.L.erase [u] } := by
      rw [Se.dropA, if_pos hd]; simp
    have O := hide (fun w1 (hb : Below w.heap.size w w1) => by
      have G := (q1.below hb).gone hui q2 q3
      have kp : Keep (p :: (own (.slice (some ⟨g, 0, none⟩) xs.length cap) ++ tfs F)) w (w1.setCell ⟨g, u, none⟩ (.pointer none)) := (Keep.ofBelow hb _).tr ((keep_cell w1 g u _).mono (fun k hk => .inl (by simp only [List.mem_singleton] at hk; rw [hk]; simp [own, Value.ownBlock])))
      exact (⟨(q1.below hb).head.2.1, (h.below hb).cell hu, (⟨_, _, _, _, G, kp, fun k hk => .inl (by
        simp only [List.mem_cons, List.mem_append] at hk ⊢
        rcases hk with h1 | h1 | h1
        · exact .inl h1
        · exact .inr (.inl h1)
        · refine .inr (.inr ((tfs_perm q4).2 ?_))
          simp [tfs] at h1 ⊢
          exact .inr h1)⟩ : Out w _ p _ _)⟩ : w1.cell? ⟨p, 1, none⟩ = some (.slice (some ⟨g, 0, none⟩) xs.length cap) ∧ (∃ g' cap', Value.slice (some ⟨g, 0, none⟩) xs.length cap = .slice (some ⟨g', 0, none⟩) xs.length cap' ∧ w1.cell? ⟨g', u, none⟩ = some (.pointer (some ⟨ad u, 0, none⟩)) ∧ u < xs.length ∧ xs.length ≤ 4194304 ∧ xs.length ≤ cap') ∧ Out w (w1.setCell ⟨g, u, none⟩ (.pointer none)) p (p :: (own (.slice (some ⟨g, 0, none⟩) xs.length cap) ++ tfs F)) { A with L := A.L.erase [u] }))
    have SF := hide (fun w1 (hb : Below w.heap.size w w1) => (by
      have h2 := (h.below hb).row
      obtain ⟨y, c', e', _, _, k3⟩ := row_form h2
      obtain ⟨g', rfl, _, _, kc⟩ := k3 (by omega)
      simp only [Value.slice.injEq, Option.some.injEq, Addr.mk.injEq, and_true, true_and] at e'
      obtain ⟨rfl, rfl⟩ := e'
      exact (kc u (by omega)).2 : w1.frozen? ⟨g, u, none⟩ = false))
    rw [eA]
    clear h hd hu hs hl hui e1 q1 q2 q3 q4 eA HH
    go_enter Try.func15, Try.ntmps15
    go_wp2_with fail
    refine (unhide L).mono ?_
    rintro e w1 ⟨rfl, hb⟩
    obtain ⟨c1, ⟨g', cap', e', e1, _⟩, oo⟩ := unhide O w1 hb
    simp only [Value.slice.injEq, Option.some.injEq, Addr.mk.injEq, and_true, true_and] at e'
    obtain ⟨rfl, rfl⟩ := e'
    have f1 := unhide SF w1 hb
    have OO := hide oo
    clear hb L O oo SF
    go_wp2
    go_ret
    exact ⟨rfl, unhide OO⟩
end
end Go.Proofs.Ytbkneonbpcmepaa

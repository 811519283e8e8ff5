/- What a law asks of a node that is cut off, or goes elsewhere: plain mathematics. -/
import Derived.Test.YtbcibdofcjehcaaA2
namespace Go.Proofs.Ytbcibdofcjehcaa
set_option linter.unusedVariables false
set_option linter.unusedSimpArgs false

section
variable {T : Tr} {u v c p : Nat}
theorem parI_nat (hc : T.par c ≠ -2) : T.parI c = T.par c := by simp [Tr.parI, Tr.hasI_there hc]
theorem Tr.Wf.size_le (h : T.Wf) (hv : T.par v ≠ -2) : 0 ≤ T.sizeI v ∧ T.sizeI v ≤ T.n := by
  rw [h.size_eq hv]
  have := List.length_filter_le (fun u : Nat => T.rootI (u : Int) == T.rootI (v : Int)) (List.range T.n)
  rw [List.length_range] at this
  omega
theorem Tr.sub_le (hv : T.par v ≠ -2) : 0 ≤ (T.subI v).c ∧ (T.subI v).c ≤ T.n := by
  rw [Tr.subI_c hv]
  have := List.length_filter_le (fun u : Nat => decide (v ∈ T.up u)) (List.range T.n)
  rw [List.length_range] at this
  unfold Tr.sub
  omega
theorem Tr.Wf.root_self (h : T.Wf) (hc : T.par c = -1) : T.rootI c = c := by rw [Tr.rootI, T.upI_nat, h.up_root hc]; rfl
theorem Tr.Wf.size_root (h : T.Wf) (hc : T.par c = -1) : T.sizeI c = (T.subI c).c := by rw [Tr.sizeI, h.root_self hc]
theorem Tr.Wf.root_facts (h : T.Wf) (hc : T.par c = -1) : T.parI c = -1 ∧ T.hasI c = true ∧ T.cutB c = false ∧ T.cutI c = T ∧ T.rootI c = c ∧ T.sizeI c = (T.subI c).c := by
  have h1 : T.parI c = -1 := by rw [parI_nat (by omega), hc]
  have h2 : T.cutB c = false := by simp [Tr.cutB, h1]
  exact ⟨h1, Tr.hasI_there (by omega), h2, cutI_no h2, h.root_self hc, h.size_root hc⟩
theorem Tr.Wf.linkB_iff (h : T.Wf) (hc : T.par c = -1) (hp : T.par p ≠ -2) : T.linkB c p = !T.sameI c p := by
  rw [h.same_iff (by omega), h.root_self hc, Tr.linkB, Tr.hasI_there (v := c) (by omega), Tr.hasI_there hp, Int.toNat_natCast, hc]
  rw [Bool.eq_iff_iff]
  simp
  exact ⟨fun h e => h e.symm, fun h e => h e.symm⟩
theorem Tr.Wf.same_root (h : T.Wf) (hc : T.par c = -1) (hp : T.par p ≠ -2) : T.sameI c p = false ↔ c ∉ T.up p := by
  rw [h.same_iff (by omega), h.root_self hc, beq_eq_false_iff_ne, h.root_mem hc]
  exact ⟨fun h e => h e.symm, fun h e => h e.symm⟩
theorem Tr.Wf.cut_facts (h : T.Wf) (hp : T.par c = (p : Int)) :
    (T.parI c = p ∧ T.hasI c = true ∧ T.cutB c = true ∧ T.cutI c = T.cut c) ∧
    ((T.cut c).subI c = T.subI c ∧ (T.cut c).hasI c = true ∧ (T.cut c).rootI c = c ∧ (T.cut c).sameI c p = false ∧ (T.cut c).sizeI c = (T.subI c).c ∧ (T.cut c).sizeI p = T.sizeI c - (T.subI c).c ∧ (T.cut c).parI c = -1) ∧
    ((T.cut c).linkB c p = true ∧ (T.cut c).linkI c p = T ∧ T.linkB c p = false ∧ T.linkI c p = T ∧ T.sizeI p = T.sizeI c) := by
  have hc : T.par c ≠ -2 := by omega
  have hpt := h.par_there hp
  have w' := h.cut hc
  have hc' := cut_par T c
  have hpt' : (T.cut c).par p ≠ -2 := fun e => hpt ((Tr.cut_gone hc).1 e)
  have h1 : T.parI c = p := by rw [parI_nat hc, hp]
  have h2 : T.cutB c = true := by simp [Tr.cutB, h1]
  have hno := h.kid_not hp
  have hs : (T.cut c).sameI c p = false := (w'.same_root hc' hpt').2 (by rw [h.cut_up_out hc hno]; exact hno)
  have hl : (T.cut c).linkB c p = true := by rw [w'.linkB_iff hc' hpt', hs]; rfl
  have hl2 : T.linkB c p = false := by
    have : (T.par (c : Int).toNat == -1) = false := by rw [Int.toNat_natCast, hp, beq_eq_false_iff_ne]; omega
    rw [Tr.linkB, this, Bool.and_false, Bool.false_and, Bool.false_and]
  obtain ⟨g1, g2, _, _, g5, g6⟩ := w'.root_facts hc'
  refine ⟨⟨h1, Tr.hasI_there hc, h2, cutI_yes h2⟩, ⟨h.cut_subI hc, g2, g5, hs, by rw [g6, h.cut_subI hc], h.cut_size hp, g1⟩, hl, ?_, hl2, linkI_no hl2, ?_⟩
  · rw [linkI_yes hl]; exact Tr.cut_link hp
  · rw [Tr.sizeI, Tr.sizeI]
    congr 2
    rw [Tr.rootI, Tr.rootI, T.upI_nat, T.upI_nat, h.up_step hp, lastI_cons _ (h.spec hpt).ne]
/-- Cut off or a root already: a root, with what it had below it. -/
theorem Tr.Wf.cutI_facts (h : T.Wf) (hc : T.par c ≠ -2) : (T.cutI c).Wf ∧ (T.cutI c).par c = -1 ∧ (T.cutI c).subI c = T.subI c ∧ (T.cutI c).n = T.n ∧ (∀ u, T.par u ≠ -2 → (T.cutI c).par u ≠ -2) := by
  rcases h.par_cases hc with h1 | ⟨p, hp, _⟩
  · obtain ⟨_, _, _, e, _⟩ := h.root_facts h1
    rw [e]; exact ⟨h, h1, rfl, rfl, fun _ hu => hu⟩
  · obtain ⟨⟨_, _, _, e⟩, ⟨e2, _⟩, _⟩ := h.cut_facts hp
    rw [e]
    exact ⟨h.cut hc, cut_par T c, e2, rfl, fun u hu e => hu ((Tr.cut_gone hc).1 e)⟩
theorem Tr.Wf.move_facts (h : T.Wf) (hc : T.par c = -1) (hp : T.par p ≠ -2) (hs : T.sameI c p = false) :
    T.linkI c p = T.link c p ∧ (T.link c p).subI c = T.subI c ∧ (T.link c p).parI c = p ∧ (T.link c p).sizeI p = T.sizeI p + (T.subI c).c ∧ (T.link c p).lcaI c p = p ∧ (T.link c p).hasI c = true := by
  have hr := (h.same_root hc hp).1 hs
  have hl : T.linkB c p = true := by rw [h.linkB_iff hc hp, hs]; rfl
  have hc' := link_par T c p
  exact ⟨linkI_yes hl, h.link_subI hc hp hr, by rw [parI_nat (by rw [hc']; omega), hc'], h.link_size hc hp hr, h.link_lca hc hp hr, Tr.hasI_there (by rw [hc']; omega)⟩
end
end Go.Proofs.Ytbcibdofcjehcaa

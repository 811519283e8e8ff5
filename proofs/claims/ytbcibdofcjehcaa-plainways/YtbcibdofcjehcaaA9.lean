/- A way by its two parts, and a way raised: plain mathematics. -/
import Derived.Test.YtbcibdofcjehcaaA6
namespace Go.Proofs.Ytbcibdofcjehcaa
set_option linter.unusedVariables false
set_option linter.unusedSimpArgs false

/-- Two sums that share one number. -/
theorem two_parts (z : Int) (l m : List Int) :
    (ofL (z :: l)).c + (ofL (z :: m)).c - 1 = (ofL (z :: (l ++ m))).c ∧ (ofL (z :: l)).s + (ofL (z :: m)).s - z = (ofL (z :: (l ++ m))).s ∧ min (ofL (z :: l)).a (ofL (z :: m)).a = (ofL (z :: (l ++ m))).a ∧ max (ofL (z :: l)).b (ofL (z :: m)).b = (ofL (z :: (l ++ m))).b := by
  have e : ofL (z :: (l ++ m)) = jn (ofL (z :: l)) (ofL m) := by rw [← List.cons_append, ofL_append]
  have e1 : ofL (z :: m) = jn (one z) (ofL m) := by rw [ofL_eq, ofL_eq]; rfl
  have e2 : ofL (z :: l) = jn (one z) (ofL l) := by rw [ofL_eq, ofL_eq]; rfl
  have k1 : (ofL (z :: l)).a ≤ z ∧ z ≤ (ofL (z :: l)).b := by
    rw [e2, jn, if_neg (by simp [one])]
    split
    · simp [one]
    · simp only [one]; omega
  have kc : (ofL (z :: l)).c ≠ 0 := by rw [ofL_c]; simp; omega
  rw [e, e1]
  generalize ofL (z :: l) = X at *
  have ho := (ofL_eq m).symm ▸ ok_ofR m
  generalize ofL m = Y at *
  obtain ⟨xc, xs, xa, xb⟩ := X
  obtain ⟨yc, ys, ya, yb⟩ := Y
  dsimp only at *
  by_cases h0 : yc = 0
  · have := ho.2 h0
    simp only [zero, Sm.mk.injEq] at this
    obtain ⟨rfl, rfl, rfl, rfl⟩ := this
    simp only [jn, one, kc, if_false, if_true]
    refine ⟨by simp, by simp, by simp; omega, by simp; omega⟩
  · simp only [jn, one, kc, h0, if_false]
    refine ⟨by simp; omega, by simp; omega, by simp; omega, by simp; omega⟩

section
variable {T : Tr} {a b t : Nat} {a0 b0 c : List Nat}
theorem Tr.Wf.same_comm (h : T.Wf) (ha : T.par a ≠ -2) (hb : T.par b ≠ -2) : T.sameI b a = T.sameI a b := by
  rw [h.same_iff ha, h.same_iff hb, Bool.eq_iff_iff]
  simp only [beq_iff_eq]
  exact ⟨fun e => e.symm, fun e => e.symm⟩
theorem Tr.Wf.apart_facts (h : T.Wf) (ha : T.par a ≠ -2) (hb : T.par b ≠ -2) (hs : T.sameI a b = false) (n : Int) :
    T.pathI a b = zero ∧ T.pathI b a = zero ∧ T.sameI b a = false ∧ T.raiseB a b n = false ∧ T.pathAdd a b n = T ∧ T.lcaI a b = -1 := by
  have hs' : T.sameI b a = false := by rw [h.same_comm ha hb]; exact hs
  have h1 := h.same_false hs
  have h2 := h.same_false hs'
  have h3 : T.raiseB a b n = false := by simp [Tr.raiseB, hs]
  refine ⟨?_, ?_, hs', h3, by simp [Tr.pathAdd, h3], ?_⟩
  · rw [Tr.pathI, Tr.wayI, way_none h1]; rfl
  · rw [Tr.pathI, Tr.wayI, way_none h2]; rfl
  · rw [Tr.lcaI, lca_none h1]
theorem Tr.Wf.way_facts (h : T.Wf) (hm : Meet (T.up a) (T.up b) t a0 b0 c) :
    (T.pathI a b = ofL ((t :: (a0 ++ b0)).map T.wt) ∧ T.pathI b a = T.pathI a b ∧ T.sameI a b = true ∧ T.sameI b a = true ∧ T.lcaI a b = t) ∧
    (T.pathI a t = ofL ((t :: a0).map T.wt) ∧ T.pathI t b = ofL ((t :: b0).map T.wt) ∧ T.getI t = T.wt t ∧ T.hasI t = true ∧ T.sameI a t = true ∧ T.sameI t b = true) ∧
    T.wayI a b = t :: (a0 ++ b0) := by
  have ht : T.up t = t :: c := h.tail hm.el
  have htt : T.par t ≠ -2 := Tr.there (x := t) (by rw [ht]; simp)
  have m1 : Meet (T.up a) (T.up t) t a0 [] c := ⟨hm.el, by rw [ht]; rfl, fun y hy => by
    rw [ht]
    intro hx
    exact hm.ha y hy (by rw [hm.em, List.mem_append]; exact .inr hx), by simp⟩
  have m2 : Meet (T.up t) (T.up b) t [] b0 c := ⟨by rw [ht]; rfl, hm.em, by simp, fun y hy => by
    rw [ht]
    intro hx
    exact hm.hb y hy (by rw [hm.el, List.mem_append]; exact .inr hx)⟩
  have hw : T.wayI a b = t :: (a0 ++ b0) := by rw [Tr.wayI, T.upI_nat, T.upI_nat, hm.way]
  refine ⟨⟨by rw [Tr.pathI, hw], ?_, h.same_nat hm, h.same_nat hm.symm, by rw [Tr.lcaI, T.upI_nat, T.upI_nat, hm.lca]⟩, ⟨?_, ?_, by simp [Tr.getI, Tr.hasI_there htt], Tr.hasI_there htt, h.same_nat m1, h.same_nat m2⟩, hw⟩
  · rw [Tr.pathI, Tr.pathI, hw, Tr.wayI, T.upI_nat, T.upI_nat, hm.symm.way]
    exact ofL_perm (List.Perm.map _ (List.Perm.cons _ List.perm_append_comm))
  · rw [Tr.pathI, Tr.wayI, T.upI_nat, T.upI_nat, m1.way, List.append_nil]
  · rw [Tr.pathI, Tr.wayI, T.upI_nat, T.upI_nat, m2.way, List.nil_append]
theorem raise_ok {l : List Nat} {n : Int} (hw : ∀ u, -32768 ≤ T.wt u ∧ T.wt u ≤ 32767) (hn : -200 ≤ n ∧ n ≤ 200) : l.all (fun x => addB (T.wt x) n) = true := by
  rw [List.all_eq_true]
  intro x _
  have := hw x
  simp only [addB, fitB, inB, Bool.and_eq_true, decide_eq_true_eq]
  omega
theorem Tr.Wf.raise_facts (h : T.Wf) (hm : Meet (T.up a) (T.up b) t a0 b0 c) (hw : ∀ u, -32768 ≤ T.wt u ∧ T.wt u ≤ 32767) {n : Int} (hn : -200 ≤ n ∧ n ≤ 200) :
    T.raiseB a b n = true ∧ T.pathAdd a b n = T.raise (t :: (a0 ++ b0)) n ∧ (T.raise (t :: (a0 ++ b0)) n).pathI a b = lf (T.pathI a b) n ∧ (T.raise (t :: (a0 ++ b0)) n).sameI a b = true := by
  obtain ⟨⟨h1, _, h3, _, _⟩, _, h7⟩ := h.way_facts hm
  have e1 : T.raiseB a b n = true := by rw [Tr.raiseB, h3, h7, raise_ok hw hn]; rfl
  refine ⟨e1, by simp [Tr.pathAdd, e1, h7], ?_, h3⟩
  rw [h1, lf_ofL]
  show ofL (((T.raise (t :: (a0 ++ b0)) n).wayI a b).map (raiseF T.wt (t :: (a0 ++ b0)) n)) = _
  have e2 : (T.raise (t :: (a0 ++ b0)) n).wayI a b = t :: (a0 ++ b0) := h7
  rw [e2, List.map_map]
  congr 1
  refine List.map_congr_left fun x hx => ?_
  simp only [raiseF, hx, if_true, Function.comp]
/-- As many nodes are on the way as it has. -/
theorem count_mem {l : List Nat} (hd : l.Nodup) {n : Nat} (hl : ∀ x ∈ l, x < n) : sumTo (fun i => if i ∈ l then 1 else 0) n = (l.length : Int) := by
  have h := filter_count (fun i => decide (i ∈ l)) n
  have e : sumTo (fun u => if decide (u ∈ l) = true then (1 : Int) else 0) n = sumTo (fun i => if i ∈ l then 1 else 0) n := sumTo_congr fun i _ => by simp
  rw [e] at h
  rw [← h]
  congr 1
  refine List.Perm.length_eq ((List.perm_ext_iff_of_nodup (List.Nodup.sublist List.filter_sublist List.nodup_range) hd).2 fun x => ?_)
  simp only [List.mem_filter, List.mem_range, decide_eq_true_eq]
  exact ⟨fun h => h.2, fun h => ⟨hl x h, h⟩⟩
theorem path_bd {l : List Nat} (hl : l.length ≤ 25) (hne : l ≠ []) (hw : ∀ u, -32768 ≤ T.wt u ∧ T.wt u ≤ 32767) :
    (1 ≤ (ofL (l.map T.wt)).c ∧ (ofL (l.map T.wt)).c ≤ 25) ∧ (-1000000 ≤ (ofL (l.map T.wt)).s ∧ (ofL (l.map T.wt)).s ≤ 1000000) ∧ (-32768 ≤ (ofL (l.map T.wt)).a ∧ (ofL (l.map T.wt)).a ≤ 32767) ∧ (-32768 ≤ (ofL (l.map T.wt)).b ∧ (ofL (l.map T.wt)).b ≤ 32767) := by
  have hb : ∀ n ∈ l.map T.wt, -32768 ≤ n ∧ n ≤ 32767 := fun n hn => by
    obtain ⟨y, _, rfl⟩ := List.mem_map.1 hn
    exact hw y
  have h1 := ofR_s _ _ _ hb
  obtain ⟨i1, i2, i3, _, _⟩ := ofR_bd _ _ _ hb (by simpa using hne)
  have hp := List.length_pos_iff.2 hne
  rw [ofL_eq, ofR_c]
  rw [List.length_map] at h1 ⊢
  omega
end
end Go.Proofs.Ytbcibdofcjehcaa

/- Pools of which the sequences are known but for their order, in plain mathematics. -/
import Derived.Test.YtbkneonbpcmepaaA1
namespace Go.Proofs.Ytbkneonbpcmepaa
set_option linter.unusedVariables false
set_option linter.unusedSimpArgs false

section
variable {n : Nat} {L R : List (List Nat)} {W : Nat → Int} {l m : List Nat} {u v k : Nat}
theorem pm_in (hp : L.Perm (l :: R)) : l ∈ L := hp.symm.subset (by simp)
theorem pm_in2 (hp : L.Perm (l :: m :: R)) : m ∈ L := hp.symm.subset (by simp)
theorem pm_join (nd : L.flatten.Nodup) (hp : L.Perm (l :: m :: R)) (hu : u ∈ l) (hv : v ∈ m) (hn : v ∉ l) :
    (st n L W).joinB u v = true ∧ ∃ L2, (st n L W).joinA u v = st n L2 W ∧ L2.Perm ((l ++ m) :: R) := by
  obtain ⟨h1, h2⟩ := st_join (n := n) (W := W) nd (pm_in hp) (pm_in2 hp) hu hv hn
  refine ⟨h1, _, h2, ?_⟩
  have h3 := (hp.erase l).erase m
  simp only [List.erase_cons_head] at h3
  exact (h3.append_right _).trans (List.perm_append_singleton _ _)
theorem pm_before (nd : L.flatten.Nodup) (hp : L.Perm (l :: R)) (hv : v ∈ l) (hr : 0 < l.idxOf v) :
    (st n L W).beforeB v = true ∧ ∃ L2, (st n L W).beforeA v = st n L2 W ∧ L2.Perm (l.drop (l.idxOf v) :: l.take (l.idxOf v) :: R) := by
  obtain ⟨h1, h2⟩ := st_before (n := n) (W := W) nd (pm_in hp) hv hr
  refine ⟨h1, _, h2, ?_⟩
  have h3 := hp.erase l
  simp only [List.erase_cons_head] at h3
  refine (h3.append_right _).trans ?_
  refine (List.perm_append_comm (l₁ := R) (l₂ := [l.take (l.idxOf v), l.drop (l.idxOf v)])).trans ?_
  exact List.Perm.swap _ _ _
end

/-- Items each by itself. -/
abbrev sg (s a : Nat) : List (List Nat) := (rg s a).map fun j => [j]
section
variable {s a i k : Nat} {L : List (List Nat)} {g : Nat → Int}
theorem sg_cons (h : 0 < a) : sg s a = [s] :: sg (s + 1) (a - 1) := by
  obtain ⟨b, rfl⟩ : ∃ b, a = b + 1 := ⟨a - 1, by omega⟩
  simp [sg, rg, List.range'_succ]
theorem sg_last (a : Nat) : sg s (a + 1) = sg s a ++ [[s + a]] := by simp [sg, ← rg_app (s := s) (a := a) (b := 1), rg_one]
/-- One item more is cut off. -/
theorem parts_cut (nd : L.flatten.Nodup) (h0 : 0 < i) (hi : i < k) (hp : L.Perm (rg (i - 1) (k - (i - 1)) :: sg 0 (i - 1))) :
    (st k L g).beforeB (i : Int) = true ∧ ∃ L2, (st k L g).beforeA (i : Int) = st k L2 g ∧ L2.Perm (rg i (k - i) :: sg 0 i) := by
  have e : (rg (i - 1) (k - (i - 1))).idxOf i = 1 := by rw [rg_idx (by omega) (by omega)]; omega
  obtain ⟨h1, L2, h2, h3⟩ := pm_before (n := k) (W := g) nd hp (v := i) (by rw [rg_mem]; omega) (by omega)
  refine ⟨h1, L2, h2, h3.trans ?_⟩
  rw [e, rg_take (by omega), rg_drop (by omega), show i - 1 + 1 = i by omega, show k - (i - 1) - 1 = k - i by omega]
  refine List.Perm.cons _ ?_
  have := sg_last (s := 0) (i - 1)
  rw [show i - 1 + 1 = i by omega, Nat.zero_add] at this
  rw [this, rg_one]
  exact (List.perm_append_singleton _ _).symm
theorem parts_len (nd : L.flatten.Nodup) (h0 : 0 < i) (hi : i < k) (hp : L.Perm (rg i (k - i) :: sg 0 i)) :
    (st k L g).lenI (i : Int) = (k : Int) - (i : Int) ∧ (st k L g).lenI ((i : Int) - 1) = 1 := by
  constructor
  · rw [st_len nd (pm_in hp) (by rw [rg_mem]; omega), rg_len]; omega
  · rw [show (i : Int) - 1 = ((i - 1 : Nat) : Int) by omega, st_len (l := [i - 1]) nd (hp.symm.subset ?_) (by simp)]
    · rfl
    · have := sg_last (s := 0) (i - 1)
      rw [show i - 1 + 1 = i by omega, Nat.zero_add] at this
      rw [this]; simp
/-- All are cut off: what comes is joined from behind. -/
theorem parts_all (h : 0 < k) (hp : L.Perm (rg (k - 1) (k - (k - 1)) :: sg 0 (k - 1))) : L.Perm ((rg 0 1).reverse :: sg 1 (k - 1)) := by
  refine hp.trans ?_
  rw [show k - (k - 1) = 1 by omega, rg_one, rg_one]
  refine (List.perm_append_singleton _ _).symm.trans ?_
  have e1 := sg_last (s := 0) (k - 1)
  rw [Nat.zero_add] at e1
  rw [← e1, show k - 1 + 1 = k by omega, sg_cons h]
  simp
theorem parts_join (nd : L.flatten.Nodup) (h0 : 0 < i) (hi : i < k) (hp : L.Perm ((rg 0 i).reverse :: sg i (k - i))) :
    (st k L g).joinB (i : Int) ((i : Int) - 1) = true ∧ ∃ L2, (st k L g).joinA (i : Int) ((i : Int) - 1) = st k L2 g ∧ L2.Perm ((rg 0 (i + 1)).reverse :: sg (i + 1) (k - (i + 1))) := by
  rw [sg_cons (by omega)] at hp
  rw [show (i : Int) - 1 = ((i - 1 : Nat) : Int) by omega]
  obtain ⟨h1, L2, h2, h3⟩ := pm_join (n := k) (W := g) nd (hp.trans (List.Perm.swap _ _ _)) (u := i) (v := i - 1) (by simp) (by rw [List.mem_reverse, rg_mem]; omega) (by simp; omega)
  refine ⟨h1, L2, h2, h3.trans ?_⟩
  rw [show k - i - 1 = k - (i + 1) by omega, ← rg_app (s := 0) (a := i) (b := 1), Nat.zero_add, rg_one, List.reverse_append]
  exact List.Perm.refl _
theorem rev_facts {j : Nat} (nd : L.flatten.Nodup) (hj : j < k) (hp : L.Perm ((rg 0 k).reverse :: sg k (k - k))) :
    (st k L g).rankI (j : Int) = (k : Int) - 1 - (j : Int) ∧ (st k L g).atI 0 (j : Int) = (k : Int) - 1 - (j : Int) ∧ (st k L g).lenI 0 = (k : Int) := by
  have hl := pm_in hp
  have e : ∀ i, i < k → (rg 0 k).reverse.getD i 0 = k - 1 - i := fun i hi => by
    rw [List.getD_eq_getElem?_getD, List.getElem?_eq_getElem (by rw [List.length_reverse, rg_len]; exact hi)]
    simp
  have m0 : 0 ∈ (rg 0 k).reverse := by rw [List.mem_reverse, rg_mem]; omega
  have mj : j ∈ (rg 0 k).reverse := by rw [List.mem_reverse, rg_mem]; omega
  refine ⟨?_, ?_, ?_⟩
  · rw [st_rank nd hl mj]
    have := idx_get (l := (rg 0 k).reverse) ((List.reverse_perm (rg 0 k)).symm.nodup rg_nd) (i := k - 1 - j) (by rw [List.length_reverse, rg_len]; omega)
    rw [e _ (by omega), show k - 1 - (k - 1 - j) = j by omega] at this
    rw [this]; omega
  · have := st_at (n := k) (W := g) (k := j) nd hl m0 (by rw [List.length_reverse, rg_len]; exact hj)
    refine Eq.trans this ?_
    rw [e j hj]; omega
  · have := st_len (n := k) (W := g) nd hl m0
    refine Eq.trans this ?_
    rw [List.length_reverse, rg_len]
end
end Go.Proofs.Ytbkneonbpcmepaa

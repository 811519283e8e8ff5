/- A star, in plain mathematics. -/
import Derived.Test.YtbcibdofcjehcaaA6
namespace Go.Proofs.Ytbcibdofcjehcaa
set_option linter.unusedVariables false
set_option linter.unusedSimpArgs false

def starF : Nat → Int := fun i => if i = 0 then -1 else 0
theorem starF_low : Low starF := fun i => by
  unfold starF
  split
  · exact .inl rfl
  · exact .inr ⟨0, by omega, rfl⟩
abbrev star (k : Nat) : Tr := gr k k starF (fun _ => 1)

section
variable {k a b i : Nat}
theorem star_wf (k : Nat) : (star k).Wf := gr_wf starF_low (Nat.le_refl k)
theorem star_mid (hk : 3 ≤ k) : (star k).par 0 = -1 := by rw [gr_par (by omega)]; rfl
theorem star_ray (hi : 0 < i) (hk : i < k) : (star k).par i = ((0 : Nat) : Int) := by rw [gr_par hk, starF, if_neg (by omega)]; rfl
theorem star_all {u : Nat} (hu : u < (star k).n) : (star k).par u ≠ -2 := gr_there starF_low hu
theorem star_up0 (hk : 3 ≤ k) : (star k).up 0 = [0] := (star_wf k).up_root (star_mid hk)
theorem star_up (hk : 3 ≤ k) (hi : 0 < i) (hik : i < k) : (star k).up i = [i, 0] := by rw [(star_wf k).up_step (star_ray hi hik), star_up0 hk]
theorem star_meet (hk : 3 ≤ k) (ha : 0 < a) (hak : a < k) (hb : 0 < b) (hbk : b < k) (hne : a ≠ b) : Meet ((star k).up a) ((star k).up b) 0 [a] [b] [] := by
  rw [star_up hk ha hak, star_up hk hb hbk]
  exact ⟨rfl, rfl, by simp; omega, by simp; omega⟩
theorem sumTo_none {F : Nat → Int} {m : Nat} (h : ∀ i, i < m → F i = 0) : sumTo F m = 0 := (sumTo_congr h).trans (sumTo_zero m)
theorem sumTo_at {F : Nat → Int} {m j : Nat} (hj : j < m) (h : ∀ i, i < m → i ≠ j → F i = 0) : sumTo F m = F j := by
  refine (sumTo_congr (G := fun i => if i = j then F j else 0) fun i hi => ?_).trans (sumTo_single hj)
  by_cases e : i = j
  · subst e; simp
  · simp [e, h i hi e]
/-- The one root has all. -/
theorem one_root {T : Tr} (h : T.Wf) (hall : ∀ u, u < T.n → T.par u ≠ -2) {r : Nat} (hr : T.par r = -1) (hone : ∀ u, u < T.n → u ≠ r → T.par u ≠ -1) : (T.subI r).c = T.n := by
  have h1 := h.sub_roots hall
  rw [sumTo_at (j := r) (h.lt r (by omega)) (fun i hi hne => by unfold rootC; rw [if_neg (hone i hi hne)])] at h1
  unfold rootC at h1
  rwa [if_pos hr] at h1
theorem star_leaf (ha : 0 < a) (hak : a < k) : ((star k).subI a).c = 1 := by
  have := ((star_wf k).sub_kids (fun u hu => star_all hu) (v := a) hak).1
  rw [sumTo_none] at this
  · exact this
  · intro i hi
    unfold kidC
    rw [if_neg]
    by_cases e : i = 0
    · subst e; rw [gr_par (m := k) hi]; simp [starF]
    · rw [star_ray (k := k) (by omega) hi]; omega
theorem star_size (hk : 3 ≤ k) (hak : a < k) : (star k).sizeI a = k := by
  have h0 : (star k).sizeI a = ((star k).subI (0 : Nat)).c := by
    rw [Tr.sizeI]
    congr 2
    by_cases e : a = 0
    · subst e; exact (star_wf k).root_self (star_mid hk)
    · rw [Tr.rootI, Tr.upI_nat, star_up hk (by omega) hak]; rfl
  rw [h0, one_root (star_wf k) (fun u hu => star_all hu) (star_mid hk) (fun u hu hne => by rw [star_ray (k := k) (by omega) hu]; omega)]
  rfl

/- A ray made the root. -/
theorem turned_par (hk : 3 ≤ k) (ha : 0 < a) (hak : a < k) : ((star k).evert a).par = updF (updF (star k).par a (-1)) 0 (a : Int) := by
  show turn (star k).par (-1) ((star k).up a) = _
  rw [star_up hk ha hak]
  rfl
theorem turned_facts (hk : 3 ≤ k) (ha : 0 < a) (hak : a < k) : ((star k).evert a).par 0 = (a : Int) ∧ ((star k).evert a).par a = -1 ∧ ∀ i, 0 < i → i < k → i ≠ a → ((star k).evert a).par i = ((0 : Nat) : Int) := by
  rw [turned_par hk ha hak]
  refine ⟨by simp [updF], ?_, fun i hi hik hne => ?_⟩
  · rw [updF_other _ _ (by omega), updF_same]
  · rw [updF_other _ _ (by omega), updF_other _ _ hne, star_ray hi hik]
theorem turned_wf (hak : a < k) : ((star k).evert a).Wf := (star_wf k).evert (star_all hak)
theorem turned_all (hk : 3 ≤ k) (ha : 0 < a) (hak : a < k) {u : Nat} (hu : u < k) : ((star k).evert a).par u ≠ -2 := fun e => star_all hu (((star_wf k).evert_there (star_all hak)).1 e)
theorem turned_sub (hk : 3 ≤ k) (ha : 0 < a) (hak : a < k) : ((star k).evert a).subI (0 : Nat) = ⟨(k : Int) - 1, (k : Int) - 1, (((star k).evert a).subI (0 : Nat)).a, (((star k).evert a).subI (0 : Nat)).b⟩ := by
  obtain ⟨p0, pa, pi⟩ := turned_facts hk ha hak
  have hw := turned_wf hak
  have hall : ∀ u, u < ((star k).evert a).n → ((star k).evert a).par u ≠ -2 := fun u hu => turned_all hk ha hak hu
  have h1 := one_root hw hall pa (fun u hu hne => by
    by_cases e : u = 0
    · subst e; rw [p0]; omega
    · rw [pi u (by omega) hu hne]; omega)
  have h2 := (hw.sub_kids hall (v := a) hak).1
  rw [sumTo_at (j := 0) (show 0 < ((star k).evert a).n from (show 0 < k by omega)) (fun i hi hne => by
    unfold kidC
    rw [if_neg]
    by_cases e : i = a
    · subst e; rw [pa]; omega
    · rw [pi i (by omega) hi e]; omega)] at h2
  unfold kidC at h2
  rw [if_pos p0] at h2
  have hn : ((star k).evert a).n = k := rfl
  have hc : (((star k).evert a).subI (0 : Nat)).c = (k : Int) - 1 := by rw [hn] at h1; omega
  have h3 := Tr.subI_tot (T := (star k).evert a) (v := 0) (by rw [p0]; omega)
  have h4 : ((star k).evert a).tot ((star k).evert a).wt 0 = ((star k).evert a).tot (fun _ => 1) 0 := by
    unfold Tr.tot
    refine sumTo_congr fun u hu => ?_
    have : ((star k).evert a).wt u = 1 := by
      show (star k).wt u = 1
      rw [gr_wt (m := k) hu]
    rw [this]
  exact Sm.same hc (by show (((star k).evert a).subI (0 : Nat)).s = _; rw [h3.2, h4, ← h3.1, hc]) rfl rfl
theorem turned_lca (hk : 3 ≤ k) (ha : 0 < a) (hak : a < k) (hb : 0 < b) (hbk : b < k) (hne : a ≠ b) : ((star k).evert a).lcaI (0 : Nat) b = 0 := by
  obtain ⟨p0, pa, pi⟩ := turned_facts hk ha hak
  have hw := turned_wf hak
  have u0 : ((star k).evert a).up 0 = [0, a] := by rw [hw.up_step p0, hw.up_root pa]
  have ub : ((star k).evert a).up b = [b, 0, a] := by rw [hw.up_step (pi b hb hbk (by omega)), u0]
  have hm : Meet (((star k).evert a).up 0) (((star k).evert a).up b) 0 [] [b] [a] := by
    rw [u0, ub]; exact ⟨rfl, rfl, by simp, by simp; omega⟩
  rw [Tr.lcaI, Tr.upI_nat, Tr.upI_nat, hm.lca]
  rfl
theorem turned_back (hk : 3 ≤ k) (ha : 0 < a) (hak : a < k) : ((star k).evert a).evert 0 = star k := by
  obtain ⟨p0, pa, pi⟩ := turned_facts hk ha hak
  have hw := turned_wf hak
  have u0 : ((star k).evert a).up 0 = [0, a] := by rw [hw.up_step p0, hw.up_root pa]
  have e : turn ((star k).evert a).par (-1) (((star k).evert a).up 0) = (star k).par := by
    rw [u0, turned_par hk ha hak]
    show updF (updF (updF (updF (star k).par a (-1)) 0 (a : Int)) 0 (-1)) a ((0 : Nat) : Int) = _
    funext u
    by_cases e : u = a
    · subst e; rw [updF_same, star_ray ha hak]
    · rw [updF_other _ _ e]
      by_cases e0 : u = 0
      · subst e0; rw [updF_same, star_mid hk]
      · rw [updF_other _ _ e0, updF_other _ _ e0, updF_other _ _ e]
  unfold Tr.evert at e ⊢
  rw [e]
theorem star_facts (hk : 3 ≤ k) (ha : 0 < a) (hak : a < k) (hb : 0 < b) (hbk : b < k) (hne : a ≠ b) :
    (((star k).pathI a b).c = 3 ∧ (star k).sameI a b = true ∧ (star k).lcaI a b = 0 ∧ (star k).hasI a = true ∧ (star k).evertI a = (star k).evert a) ∧
    (((star k).evert a).parI 0 = a ∧ ((star k).evert a).parI b = 0 ∧ ((star k).evert a).lcaI 0 b = 0 ∧ ((star k).evert a).hasI 0 = true ∧ ((star k).evert a).evertI 0 = star k) := by
  have hm := star_meet hk ha hak hb hbk hne
  obtain ⟨p0, pa, pi⟩ := turned_facts hk ha hak
  have h0 : ((star k).evert a).hasI 0 = true := Tr.hasI_there (v := 0) (by rw [p0]; omega)
  have ha' : (star k).hasI a = true := Tr.hasI_there (star_all hak)
  refine ⟨⟨?_, (star_wf k).same_nat hm, ?_, ha', evertI_yes ha'⟩, ?_, ?_, turned_lca hk ha hak hb hbk hne, h0, ?_⟩
  · rw [Tr.pathI, Tr.wayI, Tr.upI_nat, Tr.upI_nat, hm.way, ofL_c]; rfl
  · rw [Tr.lcaI, Tr.upI_nat, Tr.upI_nat, hm.lca]; rfl
  · have := parI_nat (T := (star k).evert a) (c := 0) (by rw [p0]; omega)
    rw [p0] at this; exact this
  · rw [parI_nat (by rw [pi b hb hbk (by omega)]; omega), pi b hb hbk (by omega)]; rfl
  · rw [evertI_yes h0]; exact turned_back hk ha hak
theorem star_cut (hk : 3 ≤ k) (ha : 0 < a) (hak : a < k) (hb : 0 < b) (hbk : b < k) (hne : a ≠ b) :
    ((star k).cutB a = true ∧ (star k).cutI a = (star k).cut a ∧ ((star k).cut a).sizeI a = 1 ∧ ((star k).cut a).sizeI 0 = (k : Int) - 1 ∧ ((star k).cut a).sameI a b = false) ∧
    (((star k).cut a).goB a = true ∧ ((star k).cut a).dropI a = ((star k).cut a).drop a ∧ (((star k).cut a).drop a).hasI a = false ∧ (((star k).cut a).drop a).goB 0 = false ∧ (((star k).cut a).drop a).dropI 0 = ((star k).cut a).drop a) := by
  have hpa := star_ray ha hak
  obtain ⟨⟨_, _, c3, c4⟩, ⟨_, c6, c7, _, c9, c10, _⟩, _⟩ := (star_wf k).cut_facts hpa
  have hs := star_leaf ha hak
  have hz := star_size hk hak
  have w' := (star_wf k).cut (star_all hak)
  have hub : ((star k).cut a).up b = [b, 0] := by rw [(star_wf k).cut_up_out (star_all hak) (by rw [star_up hk hb hbk]; simp; omega), star_up hk hb hbk]
  have hbp : ((star k).cut a).par b = ((0 : Nat) : Int) := by
    show updF (star k).par a (-1) b = _
    rw [updF_other _ _ (by omega), star_ray hb hbk]
  have hgo : ((star k).cut a).goB a = true := by
    have hkid : ((star k).cut a).kidB a = false := by
      rw [Tr.kidB, List.any_eq_false]
      intro u hu
      rw [beq_iff_eq]
      show ¬ updF (star k).par a (-1) u = _
      by_cases e : u = a
      · subst e; rw [updF_same]; omega
      · rw [updF_other _ _ e]
        by_cases e0 : u = 0
        · subst e0; rw [star_mid hk]; omega
        · rw [star_ray (k := k) (by omega) (List.mem_range.1 hu)]; omega
    rw [Tr.goB, c6, Int.toNat_natCast, cut_par, hkid]; rfl
  have hgo0 : (((star k).cut a).drop a).goB 0 = false := by
    have hkid : (((star k).cut a).drop a).kidB 0 = true := by
      rw [Tr.kidB, List.any_eq_true]
      refine ⟨b, List.mem_range.2 hbk, ?_⟩
      rw [beq_iff_eq]
      show updF ((star k).cut a).par a (-2) b = 0
      rw [updF_other _ _ (by omega), hbp]; rfl
    rw [Tr.goB, hkid]; simp
  refine ⟨⟨c3, c4, by rw [c9, hs], ?_, ?_⟩, hgo, dropI_yes hgo, ?_, hgo0, dropI_no hgo0⟩
  · have h9 : ((star k).cut a).sizeI ((0 : Nat) : Int) = (k : Int) - 1 := by rw [c10, hs, hz]
    exact h9
  · refine (w'.same_root (cut_par _ _) (by rw [hbp]; omega)).2 ?_
    rw [hub]; simp; omega
  · rw [Tr.hasI_nat]
    simp [Tr.drop, updF]
end
end Go.Proofs.Ytbcibdofcjehcaa

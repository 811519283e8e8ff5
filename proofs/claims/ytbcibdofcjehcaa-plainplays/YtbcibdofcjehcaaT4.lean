/- What follows of cutting, linking and turning: sizes, subtrees, ways. No Go in sight. -/
import Derived.Test.YtbcibdofcjehcaaT3
namespace Go.Proofs.Ytbcibdofcjehcaa
set_option linter.unusedVariables false
set_option linter.unusedSimpArgs false

theorem ofR_perm {l m : List Int} (h : l.Perm m) : ofR l = ofR m := by
  induction h with
  | nil => rfl
  | cons x _ ih => rw [ofR, ofR, ih]
  | swap x y l =>
    simp only [ofR]
    rw [← jn_assoc (ok_one y) (ok_one x) (ok_ofR l), ← jn_assoc (ok_one x) (ok_one y) (ok_ofR l), jn_comm (ok_one y) (ok_one x)]
  | trans _ _ h1 h2 => rw [h1, h2]
theorem ofL_perm {l m : List Int} (h : l.Perm m) : ofL l = ofL m := by rw [ofL_eq, ofL_eq, ofR_perm h]
theorem ofL_c (l : List Int) : (ofL l).c = l.length := by rw [ofL_eq, ofR_c]

theorem len_filter_split (p q : Nat → Bool) (l : List Nat) (h : ∀ u ∈ l, q u = true → p u = true) : (l.filter p).length = (l.filter q).length + (l.filter (fun u => p u && !q u)).length := by
  induction l with
  | nil => rfl
  | cons u l ih =>
    have := ih (fun x hx => h x (by simp [hx]))
    have hu := h u (by simp)
    cases hp : p u <;> cases hq : q u <;> simp [List.filter_cons, hp, hq] <;> first | omega | (rw [hq, hp] at hu; simp at hu)
theorem len_filter_or (p q : Nat → Bool) (l : List Nat) (h : ∀ u ∈ l, p u = true → q u = false) : (l.filter (fun u => p u || q u)).length = (l.filter p).length + (l.filter q).length := by
  induction l with
  | nil => rfl
  | cons u l ih =>
    have := ih (fun x hx => h x (by simp [hx]))
    have hu := h u (by simp)
    cases hp : p u <;> cases hq : q u <;> simp [List.filter_cons, hp, hq] <;> first | omega | (rw [hq] at hu; simp [hp] at hu)
theorem filter_eq {p q : Nat → Bool} {l : List Nat} (h : ∀ u ∈ l, p u = q u) : l.filter p = l.filter q := List.filter_congr h

section
variable {T : Tr} {u v c p r t : Nat} {a b cc : List Nat}

theorem Tr.Wf.root_iff (h : T.Wf) (hu : T.par u ≠ -2) : T.rootI u = (r : Int) ↔ (r ∈ T.up u ∧ T.par r = -1) := by
  obtain ⟨r', e, h1, h2⟩ := h.rootI_in hu
  constructor
  · intro e'
    have : r' = r := by omega
    subst this; exact ⟨h2, h1⟩
  · rintro ⟨h3, h4⟩
    rw [Tr.rootI, T.upI_nat]; exact (h.spec hu).root_last h3 h4
theorem Tr.Wf.root_mem (h : T.Wf) (hr : T.par r = -1) (u : Nat) : r ∈ T.up u ↔ T.rootI u = (r : Int) := by
  by_cases hu : T.par u = -2
  · rw [T.up_gone hu, Tr.rootI_gone (by rw [T.hasI_nat, hu]; rfl)]; simp
  · rw [h.root_iff hu]; simp [hr]
theorem Tr.Wf.rootN (h : T.Wf) (hu : T.par u ≠ -2) : ∃ r : Nat, T.rootI u = (r : Int) ∧ T.par r = -1 ∧ r ∈ T.up u := h.rootI_in hu
theorem Tr.subI_nat (hv : T.par v ≠ -2) : T.subI v = ofL ((T.sub v).map T.wt) := by
  rw [Tr.subI, T.hasI_nat, show (T.par v != -2) = true from by simpa using hv]; simp
theorem Tr.subI_c (hv : T.par v ≠ -2) : (T.subI v).c = (T.sub v).length := by rw [Tr.subI_nat hv, ofL_c, List.length_map]
theorem Tr.Wf.sub_root (h : T.Wf) (hr : T.par r = -1) : T.sub r = (List.range T.n).filter (fun u : Nat => T.rootI (u : Int) == (r : Int)) := by
  refine filter_eq fun u _ => ?_
  rw [Bool.eq_iff_iff, decide_eq_true_iff, beq_iff_eq]; exact h.root_mem hr u
theorem Tr.Wf.size_eq (h : T.Wf) (hv : T.par v ≠ -2) : T.sizeI v = ((List.range T.n).filter (fun u : Nat => T.rootI (u : Int) == T.rootI v)).length := by
  obtain ⟨r, e, h1, h2⟩ := h.rootN hv
  rw [Tr.sizeI, e, Tr.subI_c (by omega), h.sub_root h1]
theorem Tr.hasI_there (hv : T.par v ≠ -2) : T.hasI v = true := by rw [T.hasI_nat]; simpa using hv
theorem Tr.Wf.root_has (h : T.Wf) (hv : T.par v ≠ -2) : T.rootI v ≠ -1 := by
  obtain ⟨r, e, _, _⟩ := h.rootN hv
  omega
theorem Tr.Wf.same_iff (h : T.Wf) (hu : T.par u ≠ -2) : T.sameI u v = (T.rootI u == T.rootI v) := by
  unfold Tr.sameI
  rw [show (T.rootI u != -1) = true from by simpa using h.root_has hu, Bool.true_and]

/- A node is cut off. -/
theorem Tr.cut_gone (hc : T.par c ≠ -2) : (T.cut c).par u = -2 ↔ T.par u = -2 := by
  by_cases e : u = c
  · subst e; simp [Tr.cut, updF, hc]
  · simp [Tr.cut, updF, e]
theorem Tr.Wf.cut_up_in (h : T.Wf) (hc : T.par c ≠ -2) (e : T.up u = a ++ c :: b) : (T.cut c).up u = a ++ [c] := (h.cut hc).eq (h.cut_in e)
theorem Tr.Wf.cut_up_out (h : T.Wf) (hc : T.par c ≠ -2) (hn : c ∉ T.up u) : (T.cut c).up u = T.up u := by
  by_cases hu : T.par u = -2
  · rw [T.up_gone hu, Tr.up_gone _ ((Tr.cut_gone hc).2 hu)]
  · exact (h.cut hc).eq (h.cut_out hu hn)
theorem Tr.Wf.cut_mem (h : T.Wf) (hc : T.par c ≠ -2) (u : Nat) : c ∈ (T.cut c).up u ↔ c ∈ T.up u := by
  by_cases hm : c ∈ T.up u
  · obtain ⟨a, b, e⟩ := List.append_of_mem hm
    rw [h.cut_up_in hc e]; simp [hm]
  · rw [h.cut_up_out hc hm]
theorem Tr.Wf.cut_sub (h : T.Wf) (hc : T.par c ≠ -2) : (T.cut c).sub c = T.sub c := filter_eq fun u _ => by
  rw [Bool.eq_iff_iff, decide_eq_true_iff, decide_eq_true_iff]; exact h.cut_mem hc u
theorem cut_par (T : Tr) (c : Nat) : (T.cut c).par c = -1 := by simp [Tr.cut, updF]
theorem Tr.Wf.cut_subI (h : T.Wf) (hc : T.par c ≠ -2) : (T.cut c).subI c = T.subI c := by
  rw [Tr.subI_nat hc, Tr.subI_nat (T := T.cut c) (by rw [cut_par]; omega), h.cut_sub hc]; rfl
theorem Tr.Wf.kid_not (h : T.Wf) (hp : T.par c = (p : Int)) : c ∉ T.up p := by
  have h1 := h.spec (v := c) (by omega)
  rw [h.up_step hp] at h1
  exact (List.nodup_cons.1 h1.nodup).1
theorem Tr.Wf.cut_size (h : T.Wf) (hp : T.par c = (p : Int)) : (T.cut c).sizeI p = T.sizeI c - (T.subI c).c := by
  have hc : T.par c ≠ -2 := by omega
  have hpt := h.par_there hp
  obtain ⟨r, er, hr, hrp⟩ := h.rootN hpt
  have hcp := h.kid_not hp
  have hrc : T.rootI c = (r : Int) := by rw [Tr.rootI, T.upI_nat, h.up_step hp, lastI_cons _ (h.spec hpt).ne, ← T.upI_nat]; exact er
  have hne : r ≠ c := fun e => hcp (e ▸ hrp)
  have hr' : (T.cut c).par r = -1 := by simp [Tr.cut, updF, hne, hr]
  have hup : (T.cut c).up p = T.up p := h.cut_up_out hc hcp
  have er' : (T.cut c).rootI p = (r : Int) := by rw [Tr.rootI, Tr.upI_nat, hup, ← T.upI_nat]; exact er
  have hpt' : (T.cut c).par p ≠ -2 := fun e => hpt ((Tr.cut_gone hc).1 e)
  rw [(h.cut hc).size_eq hpt', h.size_eq hc, er', hrc, Tr.subI_c hc]
  have := len_filter_split (fun u : Nat => T.rootI (u : Int) == (r : Int)) (fun u => decide (c ∈ T.up u)) (List.range T.n) (fun u _ hu => by
    rw [decide_eq_true_iff] at hu
    rw [beq_iff_eq, ← h.root_mem hr]
    exact h.trans hu ((h.root_mem hr c).2 hrc))
  have e3 : (List.range (T.cut c).n).filter (fun u : Nat => (T.cut c).rootI (u : Int) == (r : Int)) = (List.range T.n).filter (fun u : Nat => (T.rootI (u : Int) == (r : Int)) && !decide (c ∈ T.up u)) := by
    refine filter_eq fun u _ => ?_
    rw [Bool.eq_iff_iff, beq_iff_eq, ← (h.cut hc).root_mem hr', Bool.and_eq_true, beq_iff_eq, ← h.root_mem hr, Bool.not_eq_true', decide_eq_false_iff_not]
    by_cases hm : c ∈ T.up u
    · simp only [hm, not_true, and_false, iff_false]
      obtain ⟨a, b, e⟩ := List.append_of_mem hm
      rw [h.cut_up_in hc e]
      have hra : r ∈ T.up u := h.trans hm ((h.root_mem hr c).2 hrc)
      have nd := (h.spec (Tr.there hm)).nodup
      rw [e] at nd hra
      intro hx
      rw [List.mem_append, List.mem_singleton] at hx
      rcases hx with hx | hx
      · have hrb : r ∈ b := by
          have := h.tail e
          have h5 := (h.root_mem hr c).2 hrc
          rw [this] at h5
          rcases List.mem_cons.1 h5 with h6 | h6
          · exact absurd h6 hne
          · exact h6
        exact (List.nodup_append.1 nd).2.2 r hx r (by simp [hrb]) rfl
      · exact hne hx
    · rw [h.cut_up_out hc hm]; simp [hm]
  rw [e3]
  unfold Tr.sub
  omega
theorem Tr.cut_link (hp : T.par c = (p : Int)) : (T.cut c).link c p = T := by
  cases T
  simp only [Tr.cut, Tr.link]
  congr 1
  funext u
  by_cases e : u = c
  · subst e; simp [updF]; exact hp.symm
  · simp [updF, e]

/- A root becomes a kid. -/
theorem Tr.link_gone (hc : T.par c ≠ -2) : (T.link c p).par u = -2 ↔ T.par u = -2 := by
  by_cases e : u = c
  · subst e; simp [Tr.link, updF, hc]
  · simp [Tr.link, updF, e]
theorem Tr.Wf.link_up_in (h : T.Wf) (hc : T.par c = -1) (hp : T.par p ≠ -2) (hr : c ∉ T.up p) (hu : c ∈ T.up u) : (T.link c p).up u = T.up u ++ T.up p := (h.link hc hp hr).eq (h.link_in hc hp hr hu)
theorem Tr.Wf.link_up_out (h : T.Wf) (hc : T.par c = -1) (hp : T.par p ≠ -2) (hr : c ∉ T.up p) (hn : c ∉ T.up u) : (T.link c p).up u = T.up u := by
  by_cases hu : T.par u = -2
  · rw [T.up_gone hu, Tr.up_gone _ ((Tr.link_gone (by omega)).2 hu)]
  · exact (h.link hc hp hr).eq (h.link_out hu hn)
theorem Tr.Wf.link_sub (h : T.Wf) (hc : T.par c = -1) (hp : T.par p ≠ -2) (hr : c ∉ T.up p) : (T.link c p).sub c = T.sub c := filter_eq fun u _ => by
  rw [Bool.eq_iff_iff, decide_eq_true_iff, decide_eq_true_iff]
  by_cases hm : c ∈ T.up u
  · rw [h.link_up_in hc hp hr hm]; simp [hm]
  · rw [h.link_up_out hc hp hr hm]
theorem link_par (T : Tr) (c p : Nat) : (T.link c p).par c = (p : Int) := by simp [Tr.link, updF]
theorem Tr.Wf.link_subI (h : T.Wf) (hc : T.par c = -1) (hp : T.par p ≠ -2) (hr : c ∉ T.up p) : (T.link c p).subI c = T.subI c := by
  rw [Tr.subI_nat (T := T) (by omega), Tr.subI_nat (T := T.link c p) (by rw [link_par]; omega), h.link_sub hc hp hr]; rfl
theorem Tr.Wf.link_size (h : T.Wf) (hc : T.par c = -1) (hp : T.par p ≠ -2) (hr : c ∉ T.up p) : (T.link c p).sizeI p = T.sizeI p + (T.subI c).c := by
  have w' := h.link hc hp hr
  obtain ⟨r, er, hrr, hrp⟩ := h.rootN hp
  have hne : r ≠ c := fun e => hr (e ▸ hrp)
  have hr' : (T.link c p).par r = -1 := by simp [Tr.link, updF, hne, hrr]
  have er' : (T.link c p).rootI p = (r : Int) := by rw [Tr.rootI, Tr.upI_nat, h.link_up_out hc hp hr hr, ← T.upI_nat]; exact er
  have hp' : (T.link c p).par p ≠ -2 := fun e => hp ((Tr.link_gone (by omega)).1 e)
  rw [w'.size_eq hp', h.size_eq hp, er', er, Tr.subI_c (by omega), h.sub_root hc]
  have e3 : (List.range (T.link c p).n).filter (fun u : Nat => (T.link c p).rootI (u : Int) == (r : Int)) = (List.range T.n).filter (fun u : Nat => (T.rootI (u : Int) == (r : Int)) || (T.rootI (u : Int) == (c : Int))) := by
    refine filter_eq fun u _ => ?_
    rw [Bool.eq_iff_iff, beq_iff_eq, ← w'.root_mem hr', Bool.or_eq_true, beq_iff_eq, beq_iff_eq, ← h.root_mem hrr, ← h.root_mem hc]
    by_cases hm : c ∈ T.up u
    · rw [h.link_up_in hc hp hr hm]; simp [hm, hrp]
    · rw [h.link_up_out hc hp hr hm]; simp [hm]
  rw [e3, len_filter_or _ _ _ (fun u _ hu => by
    rw [beq_iff_eq] at hu
    rw [beq_eq_false_iff_ne, hu]; omega)]
  omega
theorem Tr.Wf.link_lca (h : T.Wf) (hc : T.par c = -1) (hp : T.par p ≠ -2) (hr : c ∉ T.up p) : (T.link c p).lcaI c p = p := by
  rw [Tr.lcaI, Tr.upI_nat, Tr.upI_nat, h.link_up_in hc hp hr (h.self (by omega)), h.link_up_out hc hp hr hr, h.up_root hc]
  obtain ⟨t, e⟩ := (h.spec hp).head
  rw [e] at hr ⊢
  simp only [lcaL, meetL, List.cons_append, List.nil_append]
  rw [List.find?_cons_of_neg (by simpa using hr), List.find?_cons_of_pos (by simp)]

/- A way up is turned round. -/
theorem Tr.Wf.evert_up_out (h : T.Wf) (hv : T.par v ≠ -2) (hn : ∀ y ∈ T.up u, y ∉ T.up v) : (T.evert v).up u = T.up u := by
  by_cases hu : T.par u = -2
  · rw [T.up_gone hu, Tr.up_gone _ ((h.evert_there hv).2 hu)]
  · exact (h.evert hv).eq (h.evert_out hu hn)
theorem Tr.Wf.evert_up_in (h : T.Wf) (hv : T.par v ≠ -2) (hm : Meet (T.up u) (T.up v) t a b cc) : (T.evert v).up u = a ++ t :: b.reverse := (h.evert hv).eq (h.evert_in hm)
theorem Tr.Wf.evert_up_v (h : T.Wf) (hv : T.par v ≠ -2) : (T.evert v).up v = [v] := by
  obtain ⟨l, e⟩ := (h.spec hv).head
  have hm : Meet (T.up v) (T.up v) v [] [] l := ⟨by rw [e]; rfl, by rw [e]; rfl, by simp, by simp⟩
  rw [h.evert_up_in hv hm]; rfl
/-- The way up of one in the tree ends at the new root. -/
theorem Tr.Wf.evert_shape (h : T.Wf) (hv : T.par v ≠ -2) (hm : Meet (T.up u) (T.up v) t a b cc) : ∃ l, (T.evert v).up u = l ++ [v] ∧ v ∉ l ∧ (v :: l).Perm (t :: (a ++ b)) := by
  have hu : (T.evert v).par u ≠ -2 := fun e => Tr.there (x := t) (v := u) (T := T) (by rw [hm.el]; simp) ((h.evert_there hv).1 e)
  have e1 := h.evert_up_in hv hm
  obtain ⟨l0, e0⟩ := (h.spec hv).head
  rw [hm.em] at e0
  have key : ∃ l, a ++ t :: b.reverse = l ++ [v] := by
    cases b with
    | nil => simp at e0; exact ⟨a, by rw [e0.1]; rfl⟩
    | cons y b => simp at e0; exact ⟨a ++ t :: b.reverse, by simp [e0.1]⟩
  obtain ⟨l, el⟩ := key
  have nd := ((h.evert hv).spec hu).nodup
  rw [e1, el] at nd
  refine ⟨l, by rw [e1, el], ?_, ?_⟩
  · rw [List.nodup_append] at nd
    exact fun hx => nd.2.2 v hx v (by simp) rfl
  · have p1 : (v :: l).Perm (l ++ [v]) := (List.perm_append_singleton v l).symm
    rw [← el] at p1
    refine p1.trans ?_
    have p2 : (a ++ t :: b.reverse).Perm (t :: (a ++ b.reverse)) := List.perm_middle
    refine p2.trans (List.Perm.cons _ (List.Perm.append_left _ (List.reverse_perm b)))
theorem Tr.Wf.evert_root_in (h : T.Wf) (hv : T.par v ≠ -2) (hm : Meet (T.up u) (T.up v) t a b cc) : (T.evert v).rootI u = v := by
  obtain ⟨l, e, _, _⟩ := h.evert_shape hv hm
  rw [Tr.rootI, Tr.upI_nat, e, lastI_snoc]
theorem Tr.Wf.evert_root_out (h : T.Wf) (hv : T.par v ≠ -2) (hn : ∀ y ∈ T.up u, y ∉ T.up v) : (T.evert v).rootI u = T.rootI u := by
  rw [Tr.rootI, Tr.rootI, Tr.upI_nat, Tr.upI_nat, h.evert_up_out hv hn]
theorem Tr.Wf.evert_path_in (h : T.Wf) (hv : T.par v ≠ -2) (hm : Meet (T.up u) (T.up v) t a b cc) : (T.evert v).pathI u v = T.pathI u v ∧ (T.evert v).lcaI u v = v := by
  obtain ⟨l, e, hn, hp⟩ := h.evert_shape hv hm
  have hm' : Meet ((T.evert v).up u) ((T.evert v).up v) v l [] [] := ⟨e, h.evert_up_v hv, fun y hy => by rw [h.evert_up_v hv]; simp; exact fun e => hn (e ▸ hy), by simp⟩
  constructor
  · rw [Tr.pathI, Tr.pathI, Tr.wayI, Tr.wayI, Tr.upI_nat, Tr.upI_nat, Tr.upI_nat, Tr.upI_nat, hm'.way, hm.way, List.append_nil]
    exact ofL_perm (List.Perm.map T.wt hp)
  · rw [Tr.lcaI, Tr.upI_nat, Tr.upI_nat, hm'.lca]
theorem Tr.Wf.evert_same (h : T.Wf) (hv : T.par v ≠ -2) (hu : T.par u ≠ -2) : (T.evert v).sameI u v = T.sameI u v := by
  have hu' : (T.evert v).par u ≠ -2 := fun e => hu ((h.evert_there hv).1 e)
  have hv' : (T.evert v).rootI v = v := by rw [Tr.rootI, Tr.upI_nat, h.evert_up_v hv]; rfl
  rcases h.meets hu hv with ⟨t, a, b, c, hm⟩ | hn
  · rw [h.same_nat hm, (h.evert hv).same_iff hu', h.evert_root_in hv hm, hv']; simp
  · rw [(h.evert hv).same_iff hu', h.evert_root_out hv hn, hv', h.same_iff hu]
    have e1 : (T.rootI u == T.rootI v) = false := by
      rw [beq_eq_false_iff_ne]
      intro e
      obtain ⟨r, er, _, hr⟩ := h.rootN hu
      obtain ⟨r', er', _, hr'⟩ := h.rootN hv
      have : r = r' := by omega
      exact hn r hr (this ▸ hr')
    rw [e1, beq_eq_false_iff_ne]
    intro e
    obtain ⟨r, er, _, hr⟩ := h.rootN hu
    have : r = v := by omega
    subst this; exact hn _ hr (h.self hv)
theorem Tr.Wf.evert_path (h : T.Wf) (hv : T.par v ≠ -2) (hu : T.par u ≠ -2) : (T.evert v).pathI u v = T.pathI u v := by
  rcases h.meets hu hv with ⟨t, a, b, c, hm⟩ | hn
  · exact (h.evert_path_in hv hm).1
  · have hn' : ∀ y ∈ (T.evert v).up u, y ∉ (T.evert v).up v := fun y hy => by
      rw [h.evert_up_out hv hn] at hy
      rw [h.evert_up_v hv]
      intro e
      simp at e
      subst e; exact hn _ hy (h.self hv)
    rw [Tr.pathI, Tr.pathI, Tr.wayI, Tr.wayI, Tr.upI_nat, Tr.upI_nat, Tr.upI_nat, Tr.upI_nat, way_none hn, way_none hn']; rfl
theorem Tr.Wf.evert_size (h : T.Wf) (hv : T.par v ≠ -2) (hu : T.par u ≠ -2) : (T.evert v).sizeI u = T.sizeI u := by
  have hu' : (T.evert v).par u ≠ -2 := fun e => hu ((h.evert_there hv).1 e)
  rw [(h.evert hv).size_eq hu', h.size_eq hu]
  congr 2
  refine filter_eq fun x _ => ?_
  by_cases hx : T.par x = -2
  · have hx' := (h.evert_there hv).2 hx
    rw [Tr.rootI_gone (T := T) (by rw [T.hasI_nat, hx]; rfl), Tr.rootI_gone (T := T.evert v) (by rw [Tr.hasI_nat, hx']; rfl)]
    have n1 := h.root_has hu
    have n2 := (h.evert hv).root_has hu'
    rw [show (-1 == T.rootI u) = false from beq_eq_false_iff_ne.2 (fun e => n1 e.symm), show (-1 == (T.evert v).rootI u) = false from beq_eq_false_iff_ne.2 (fun e => n2 e.symm)]
  · have rootv : ∀ {y}, (∀ z ∈ T.up y, z ∉ T.up v) → T.par y ≠ -2 → T.rootI y ≠ T.rootI v ∧ T.rootI y ≠ (v : Int) := fun {y} hn hy => by
      obtain ⟨r, er, _, hr⟩ := h.rootN hy
      obtain ⟨r', er', _, hr'⟩ := h.rootN hv
      constructor
      · intro e
        have : r = r' := by omega
        exact hn r hr (this ▸ hr')
      · intro e
        have : r = v := by omega
        subst this; exact hn _ hr (h.self hv)
    have rootm : ∀ {y t a b c}, Meet (T.up y) (T.up v) t a b c → T.rootI y = T.rootI v := fun {y t a b c} hm => by
      rw [Tr.rootI, Tr.rootI, T.upI_nat, T.upI_nat, hm.el, hm.em, lastI_append _ (by simp), lastI_append _ (by simp)]
    rcases h.meets hx hv with ⟨t, a, b, c, hm⟩ | hn
    · rcases h.meets hu hv with ⟨t', a', b', c', hm'⟩ | hn'
      · rw [h.evert_root_in hv hm, h.evert_root_in hv hm', rootm hm, rootm hm']; simp
      · rw [h.evert_root_in hv hm, h.evert_root_out hv hn', rootm hm]
        have := rootv hn' hu
        rw [show ((v : Int) == T.rootI u) = false from beq_eq_false_iff_ne.2 (fun e => this.2 e.symm), show (T.rootI v == T.rootI u) = false from beq_eq_false_iff_ne.2 (fun e => this.1 e.symm)]
    · rcases h.meets hu hv with ⟨t', a', b', c', hm'⟩ | hn'
      · rw [h.evert_root_out hv hn, h.evert_root_in hv hm', rootm hm']
        have := rootv hn hx
        rw [show (T.rootI x == (v : Int)) = false from beq_eq_false_iff_ne.2 this.2, show (T.rootI x == T.rootI v) = false from beq_eq_false_iff_ne.2 this.1]
      · rw [h.evert_root_out hv hn, h.evert_root_out hv hn']
end
end Go.Proofs.Ytbcibdofcjehcaa

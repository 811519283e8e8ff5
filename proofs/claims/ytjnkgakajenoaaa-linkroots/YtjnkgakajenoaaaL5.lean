/- The program's forest (part 5 of its contracts and the laws' common texts). -/
import Derived.Test.YtjnkgakajenoaaaL2
import Derived.Test.YtjnkgakajenoaaaL4
/- Plain mathematics for link: ways up and what is at or below a slot, behind each change of a forest. No Go in sight. -/

namespace Go.Proofs.Ytjnkgakajenoaaa
set_option linter.unusedVariables false
set_option linter.unusedSimpArgs false
section
variable {T : Tr} {t x y z u v c p m : Nat} {w : Int} {a b l : List Nat}
theorem U_cmq (h : T.Wf) : ∀ (n : Nat) {t a b : Nat}, dp T t ≤ n → a ∈ U T t → b ∈ U T t → a ∈ U T b ∨ b ∈ U T a
  | 0, t, a, b, hn, ha, _ => by
    have := dp_pos h (U_mem_th' h ha); omega
  | n + 1, t, a, b, hn, ha, hb => by
    have ht := U_mem_th' h ha
    rcases (U_up h ht).1 ha with rfl | ha'
    · exact .inr hb
    · rcases (U_up h ht).1 hb with rfl | hb'
      · exact .inl ha
      · have := dp_th h ht
        exact U_cmq h n (by omega) ha' hb'
theorem mem_U {T : Tr} {x t : Nat} (ht : Th T t) (hx : 1 ≤ x) : x ∈ U T t ↔ (x - 1) ∈ T.up (t - 1) := by
  unfold U
  rw [if_neg (by have := ht.1; omega)]
  constructor
  · intro h
    obtain ⟨v, hv, rfl⟩ := List.mem_map.1 h
    simpa using hv
  · intro h
    exact List.mem_map.2 ⟨x - 1, h, by omega⟩
theorem mem_U' {T : Tr} {x t : Nat} (hx : 1 ≤ x) (h1 : 1 ≤ t) : x ∈ U T t ↔ (x - 1) ∈ T.up (t - 1) := by
  unfold U
  rw [if_neg (by omega)]
  constructor
  · intro h
    obtain ⟨v, hv, rfl⟩ := List.mem_map.1 h
    simpa using hv
  · intro h
    exact List.mem_map.2 ⟨x - 1, h, by omega⟩

/-! A node comes. -/
theorem th_add (hv : T.par v = -2) : Th (T.add v w) x ↔ x = v + 1 ∨ Th T x := by
  unfold Th
  by_cases e : x = v + 1
  · subst e; simp [Tr.add, updF]
  · by_cases h1 : 1 ≤ x
    · have : x - 1 ≠ v := by omega
      simp [Tr.add, updF, this, e, h1]
    · simp [h1]; omega
theorem ps_add (hx : x ≠ v + 1) (hx1 : 1 ≤ x) : ps (T.add v w) x = ps T x := by
  unfold ps
  have : x - 1 ≠ v := by omega
  simp [Tr.add, updF, this]
theorem U_add (h : T.Wf) (hv : T.par v = -2) (hn : v < T.n) (hx : Th T x) : U (T.add v w) x = U T x := by
  have h' := h.add (w := w) hv hn
  unfold U
  rw [h'.eq (h.add_up hv hx.2)]
theorem U_add_new (h : T.Wf) (hv : T.par v = -2) (hn : v < T.n) : U (T.add v w) (v + 1) = [v + 1] := by
  have h' := h.add (w := w) hv hn
  have : (T.add v w).up v = [v] := h'.up_root (by simp [Tr.add, updF])
  simp [U, this]
theorem mem_add (h : T.Wf) (hv : T.par v = -2) (hn : v < T.n) (hx : x ≠ v + 1) (u : Nat) : x ∈ U (T.add v w) (u + 1) ↔ x ∈ U T (u + 1) := by
  by_cases e : u = v
  · subst e
    rw [U_add_new h hv hn, U_gone h (fun q => q.2 (by simpa using hv))]
    simp [hx]
  · by_cases hu : Th T (u + 1)
    · rw [U_add h hv hn hu]
    · rw [U_gone h hu, U_gone (h.add hv hn) (fun q => (th_add hv).1 q |>.elim (by omega) hu)]
theorem D_add (h : T.Wf) (hv : T.par v = -2) (hn : v < T.n) (hx : x ≠ v + 1) : Dc (T.add v w) x = Dc T x ∧ Dw (T.add v w) x = Dw T x := by
  refine ⟨sumF_congr fun u _ => ?_, sumF_congr fun u _ => ?_⟩
  · simp only [mem_add h hv hn hx]
  · simp only [mem_add h hv hn hx]
    by_cases e : u = v
    · subst e
      rw [U_gone h (fun q => q.2 (by simpa using hv))]; simp
    · simp [Tr.add, updF, e]
theorem D_add_new (h : T.Wf) (hv : T.par v = -2) (hn : v < T.n) : Dc (T.add v w) (v + 1) = 1 ∧ Dw (T.add v w) (v + 1) = w := by
  have k : ∀ u, v + 1 ∈ U (T.add v w) (u + 1) ↔ u = v := fun u => by
    constructor
    · intro hm
      refine Classical.byContradiction fun e => ?_
      by_cases hu : Th T (u + 1)
      · rw [U_add h hv hn hu] at hm
        exact (U_mem_th h hm).2 (by simpa using hv)
      · rw [U_gone (h.add hv hn) (fun q => (th_add hv).1 q |>.elim (by omega) hu)] at hm
        simp at hm
    · rintro rfl
      rw [U_add_new h hv hn]; simp
  refine ⟨?_, ?_⟩
  · unfold Dc; simp only [k]; exact sumF_one v 1 hn
  · unfold Dw; simp only [k]
    rw [sumF_congr (g := fun u => if u = v then w else 0) (fun u _ => by
      by_cases e : u = v
      · subst e; simp [Tr.add, updF]
      · simp [e])]
    exact sumF_one v w hn

/-! A node goes. -/
theorem th_drop : Th (T.drop v) x ↔ x ≠ v + 1 ∧ Th T x := by
  unfold Th
  by_cases e : x = v + 1
  · subst e; simp [Tr.drop, updF]
  · by_cases h1 : 1 ≤ x
    · have : x - 1 ≠ v := by omega
      simp [Tr.drop, updF, this, e, h1]
    · simp [h1]
theorem ps_drop (hx : x ≠ v + 1) (hx1 : 1 ≤ x) : ps (T.drop v) x = ps T x := by
  unfold ps
  have : x - 1 ≠ v := by omega
  simp [Tr.drop, updF, this]
theorem mem_drop (h : T.Wf) (hk : ∀ y, T.par y ≠ (v : Int)) (hx : x ≠ v + 1) (hr : T.par v = -1) (u : Nat) : x ∈ U (T.drop v) (u + 1) ↔ x ∈ U T (u + 1) := by
  have h' := h.drop hk
  by_cases e : u = v
  · subst e
    have : U T (u + 1) = [u + 1] := by
      have := h.up_root hr
      simp [U, this]
    rw [U_gone h' (fun q => (th_drop.1 q).1 rfl), this]; simp [hx]
  · by_cases hu : Th T (u + 1)
    · have : (T.drop v).up u = T.up u := h'.eq (h.drop_up hk hu.2 e)
      simp [U, this]
    · rw [U_gone h hu, U_gone h' (fun q => hu (th_drop.1 q).2)]
theorem D_drop (h : T.Wf) (hk : ∀ y, T.par y ≠ (v : Int)) (hx : x ≠ v + 1) (hr : T.par v = -1) : Dc (T.drop v) x = Dc T x ∧ Dw (T.drop v) x = Dw T x := by
  refine ⟨sumF_congr fun u _ => ?_, sumF_congr fun u _ => ?_⟩
  · simp only [mem_drop h hk hx hr]
  · simp only [mem_drop h hk hx hr]
    by_cases e : u = v
    · subst e
      have : U T (u + 1) = [u + 1] := by
        have := h.up_root hr
        simp [U, this]
      rw [this]; simp [hx]
    · simp [Tr.drop, updF, e]

/-! A root becomes a kid. -/
theorem th_link (hc : T.par c ≠ -2) : Th (T.link c p) x ↔ Th T x := by
  unfold Th
  by_cases e : x = c + 1
  · subst e; simp [Tr.link, updF, hc]
  · by_cases h1 : 1 ≤ x
    · have : x - 1 ≠ c := by omega
      simp [Tr.link, updF, this]
    · simp [h1]
theorem ps_link (hx : x ≠ c + 1) (hx1 : 1 ≤ x) : ps (T.link c p) x = ps T x := by
  unfold ps
  have : x - 1 ≠ c := by omega
  simp [Tr.link, updF, this]
theorem ps_link_c : ps (T.link c p) (c + 1) = p + 1 := by
  unfold ps; simp [Tr.link, updF]
theorem mem_link (h : T.Wf) (hc : T.par c = -1) (hp : T.par p ≠ -2) (hr : c ∉ T.up p) (u : Nat) : x ∈ U (T.link c p) (u + 1) ↔ x ∈ U T (u + 1) ∨ (c + 1 ∈ U T (u + 1) ∧ x ∈ U T (p + 1)) := by
  have h' := h.link hc hp hr
  by_cases hu : Th T (u + 1)
  · have hu2 : T.par u ≠ -2 := hu.2
    by_cases hm : c ∈ T.up u
    · have e : (T.link c p).up u = T.up u ++ T.up p := h'.eq (h.link_in hc hp hr hm)
      have hm' : c + 1 ∈ U T (u + 1) := (mem_U' (by omega) (by omega)).2 (by simpa using hm)
      simp [U, e] at hm' ⊢
      simp [hm']
    · have e : (T.link c p).up u = T.up u := h'.eq (h.link_out hu2 hm)
      have hm' : c + 1 ∉ U T (u + 1) := fun q => hm (by simpa using (mem_U' (by omega) (by omega)).1 q)
      simp [hm']
      simp [U, e]
  · rw [U_gone h hu, U_gone h' (fun q => hu ((th_link (by omega)).1 q))]; simp
theorem D_link (h : T.Wf) (hc : T.par c = -1) (hp : T.par p ≠ -2) (hr : c ∉ T.up p) :
    Dc (T.link c p) x = Dc T x + (if x ∈ U T (p + 1) then Dc T (c + 1) else 0) ∧ Dw (T.link c p) x = Dw T x + (if x ∈ U T (p + 1) then Dw T (c + 1) else 0) := by
  have dis : ∀ u, c + 1 ∈ U T (u + 1) → x ∈ U T (p + 1) → x ∉ U T (u + 1) := fun u h1 h2 h3 => by
    -- both are roots' trees
    have hx1 : 1 ≤ x := (U_mem_th h h2).1
    have q1 : c ∈ T.up u := by simpa using (mem_U' (by omega) (by omega)).1 h1
    have q2 : (x - 1) ∈ T.up p := by simpa using (mem_U' hx1 (by omega)).1 h2
    have q3 : (x - 1) ∈ T.up u := by simpa using (mem_U' hx1 (by omega)).1 h3
    have l1 := (h.spec (Tr.there q1)).root_last q1 hc
    obtain ⟨a, b, e⟩ := List.append_of_mem q3
    obtain ⟨a', b', e'⟩ := List.append_of_mem q2
    have t1 := h.tail e
    have t2 := h.tail e'
    have e3 : b = b' := by rw [t1] at t2; simpa using t2
    have l2 : lastI (T.up p) = (c : Int) := by
      rw [e', ← e3, lastI_append _ (by simp), ← lastI_append a (by simp), ← e]; exact l1
    obtain ⟨r, hr1, hr2⟩ := lastI_mem (l := T.up p) (by rw [e']; simp)
    have : r = c := by omega
    exact hr (this ▸ hr1)
  refine ⟨?_, ?_⟩
  · unfold Dc
    by_cases hx : x ∈ U T (p + 1)
    · rw [if_pos hx, ← sumF_add]
      refine sumF_congr fun u _ => ?_
      simp only [mem_link h hc hp hr, hx, and_true]
      by_cases h1 : c + 1 ∈ U T (u + 1)
      · simp [h1, dis u h1 hx]
      · simp [h1]
    · rw [if_neg hx]
      simp only [Int.add_zero]
      refine sumF_congr fun u _ => ?_
      simp [mem_link h hc hp hr, hx]
  · unfold Dw
    by_cases hx : x ∈ U T (p + 1)
    · rw [if_pos hx, ← sumF_add]
      refine sumF_congr fun u _ => ?_
      simp only [mem_link h hc hp hr, hx, and_true]
      show (if _ then T.wt u else 0) = _
      by_cases h1 : c + 1 ∈ U T (u + 1)
      · simp [h1, dis u h1 hx]
      · simp [h1]
    · rw [if_neg hx]
      simp only [Int.add_zero]
      refine sumF_congr fun u _ => ?_
      simp [mem_link h hc hp hr, hx]
      rfl

/-! A kid becomes a root. -/
theorem th_cut (hc : T.par c ≠ -2) : Th (T.cut c) x ↔ Th T x := by
  unfold Th
  by_cases e : x = c + 1
  · subst e; simp [Tr.cut, updF, hc]
  · by_cases h1 : 1 ≤ x
    · have : x - 1 ≠ c := by omega
      simp [Tr.cut, updF, this]
    · simp [h1]
theorem ps_cut (hx : x ≠ c + 1) (hx1 : 1 ≤ x) : ps (T.cut c) x = ps T x := by
  unfold ps
  have : x - 1 ≠ c := by omega
  simp [Tr.cut, updF, this]
theorem ps_cut_c : ps (T.cut c) (c + 1) = 0 := by
  unfold ps; simp [Tr.cut, updF]
theorem mem_cut (h : T.Wf) (hc : T.par c ≠ -2) (u : Nat) : x ∈ U (T.cut c) (u + 1) ↔ x ∈ U T (u + 1) ∧ (c + 1 ∈ U T (u + 1) → c + 1 ∈ U T x) := by
  have h' := h.cut hc
  by_cases hu : Th T (u + 1)
  · by_cases hm : c + 1 ∈ U T (u + 1)
    · have hm' : c ∈ T.up u := by simpa using (mem_U' (by omega) (by omega)).1 hm
      obtain ⟨a, b, e⟩ := List.append_of_mem hm'
      have e2 : (T.cut c).up u = a ++ [c] := h'.eq (h.cut_in e)
      have hU : U T (u + 1) = a.map (· + 1) ++ (c + 1) :: b.map (· + 1) := by simp [U, e]
      have hUc : U T (c + 1) = (c + 1) :: b.map (· + 1) := by simp [U, h.tail e]
      have hU' : U (T.cut c) (u + 1) = a.map (· + 1) ++ [c + 1] := by simp [U, e2]
      rw [hU']
      constructor
      · intro hx
        have hx' : x ∈ U T (u + 1) := by
          rw [hU]; simp only [List.mem_append, List.mem_cons, List.not_mem_nil, or_false] at hx ⊢
          rcases hx with q | q
          · exact .inl q
          · exact .inr (.inl q)
        refine ⟨hx', fun _ => ?_⟩
        rcases U_cmq h _ (Nat.le_refl _) hm hx' with q | q
        · exact q
        · -- x at or above c
          rcases List.mem_append.1 hx with k | k
          · rw [hUc] at q
            have nd : (U T (u + 1)).Nodup := by
              unfold U; rw [if_neg (by omega)]
              exact List.Pairwise.map _ (fun a b hab => by omega) (h.spec hu.2).nodup
            rw [hU, List.nodup_append] at nd
            exact absurd rfl (nd.2.2 x k x q)
          · simp at k; rw [k]; exact U_self h ⟨by omega, by simpa using hc⟩
      · rintro ⟨h1, h2⟩
        have h2 := h2 hm
        rw [hU] at h1
        rcases List.mem_append.1 h1 with k | k
        · simp only [List.mem_append]; exact .inl k
        · rw [← hUc] at k
          have := U_anti h k h2
          simp [this]
    · have hm' : c ∉ T.up u := fun q => hm ((mem_U' (by omega) (by omega)).2 (by simpa using q))
      have e2 : (T.cut c).up u = T.up u := h'.eq (h.cut_out hu.2 hm')
      have : U (T.cut c) (u + 1) = U T (u + 1) := by simp [U, e2]
      rw [this]; simp [hm]
  · rw [U_gone h hu, U_gone h' (fun q => hu ((th_cut hc).1 q))]; simp
theorem D_cut (h : T.Wf) (hc : T.par c ≠ -2) :
    Dc (T.cut c) x = Dc T x - (if x ∈ U T (ps T (c + 1)) then Dc T (c + 1) else 0) ∧ Dw (T.cut c) x = Dw T x - (if x ∈ U T (ps T (c + 1)) then Dw T (c + 1) else 0) := by
  have hT : Th T (c + 1) := ⟨by omega, by simpa using hc⟩
  have key : ∀ u, (x ∈ U (T.cut c) (u + 1) ↔ x ∈ U T (u + 1) ∧ ¬ (c + 1 ∈ U T (u + 1) ∧ x ∈ U T (ps T (c + 1)))) ∧ (c + 1 ∈ U T (u + 1) ∧ x ∈ U T (ps T (c + 1)) → x ∈ U T (u + 1)) := fun u => by
    constructor
    · rw [mem_cut h hc]
      constructor
      · rintro ⟨h1, h2⟩
        refine ⟨h1, fun ⟨h3, h4⟩ => ?_⟩
        have h5 := h2 h3
        exact ps_notin h hT (U_trans h h4 h5)
      · rintro ⟨h1, h2⟩
        refine ⟨h1, fun h3 => ?_⟩
        rcases U_cmq h _ (Nat.le_refl _) h3 h1 with q | q
        · exact q
        · rcases (U_up h hT).1 q with e | e
          · rw [e]; exact U_self h hT
          · exact absurd ⟨h3, e⟩ h2
    · rintro ⟨h1, h2⟩
      exact U_trans h h1 ((U_up h hT).2 (.inr h2))
  refine ⟨?_, ?_⟩
  · unfold Dc
    by_cases hx : x ∈ U T (ps T (c + 1))
    · rw [if_pos hx, ← sumF_sub]
      refine sumF_congr fun u _ => ?_
      obtain ⟨k1, k2⟩ := key u
      simp only [hx, and_true] at k1 k2
      by_cases q1 : c + 1 ∈ U T (u + 1)
      · simp [k1, q1, k2 q1]
      · simp [k1, q1]
    · rw [if_neg hx]
      simp only [Int.sub_zero]
      refine sumF_congr fun u _ => ?_
      obtain ⟨k1, k2⟩ := key u
      simp [k1, hx]
  · unfold Dw
    by_cases hx : x ∈ U T (ps T (c + 1))
    · rw [if_pos hx, ← sumF_sub]
      refine sumF_congr fun u _ => ?_
      obtain ⟨k1, k2⟩ := key u
      simp only [hx, and_true] at k1 k2
      show (if _ then T.wt u else 0) = _
      by_cases q1 : c + 1 ∈ U T (u + 1)
      · simp [k1, q1, k2 q1]
      · simp [k1, q1]
    · rw [if_neg hx]
      simp only [Int.sub_zero]
      refine sumF_congr fun u _ => ?_
      obtain ⟨k1, k2⟩ := key u
      simp [k1, hx]
      rfl
/-! Weights. -/
theorem th_set : Th (T.set v w) x ↔ Th T x := Iff.rfl
theorem U_set : U (T.set v w) x = U T x := rfl
theorem D_set (hv : T.par v ≠ -2) (h : T.Wf) : Dc (T.set v w) x = Dc T x ∧ Dw (T.set v w) x = Dw T x + (if x ∈ U T (v + 1) then w - T.wt v else 0) := by
  refine ⟨rfl, ?_⟩
  have hn : v < T.n := h.lt v hv
  unfold Dw
  by_cases hx : x ∈ U T (v + 1)
  · rw [if_pos hx, ← sumF_one v (w - T.wt v) hn, ← sumF_add]
    refine sumF_congr fun u _ => ?_
    show (if x ∈ U T (u + 1) then updF T.wt v w u else 0) = _
    by_cases e : u = v
    · subst e; simp [hx, updF]; omega
    · simp [updF, e]
  · rw [if_neg hx]
    simp only [Int.add_zero]
    refine sumF_congr fun u _ => ?_
    show (if x ∈ U T (u + 1) then updF T.wt v w u else 0) = _
    by_cases e : u = v
    · subst e; simp [hx]
    · simp [updF, e]
end
end Go.Proofs.Ytjnkgakajenoaaa
/- Plain mathematics for link: a way up turned round, and a way raised. No Go in sight. -/

namespace Go.Proofs.Ytjnkgakajenoaaa
set_option linter.unusedVariables false
set_option linter.unusedSimpArgs false
section
variable {T : Tr} {t x y z u v c p m r : Nat} {w : Int} {a b l : List Nat}
theorem th_evert (h : T.Wf) (hv : T.par v ≠ -2) : Th (T.evert v) x ↔ Th T x := by
  unfold Th
  rw [Ne, h.evert_there hv]
theorem U_list (T : Tr) (v : Nat) : U T (v + 1) = (T.up v).map (· + 1) := by simp [U]
theorem mem_U1 {T : Tr} {x v : Nat} : x + 1 ∈ U T (v + 1) ↔ x ∈ T.up v := by
  rw [U_list]; simp
/-- Behind a turn a node of the way has the one below it for its parent. -/
theorem ps_evert_on (h : T.Wf) (hv : T.par v ≠ -2) (hy : y ∈ U T (v + 1)) (hp : ps T y ≠ 0) : ps (T.evert v) (ps T y) = y := by
  have hy' := U_mem_th h hy
  have hx := ps_th h hy' hp
  generalize hxx : ps T y = x at *
  obtain ⟨y, rfl⟩ : ∃ k, y = k + 1 := ⟨y - 1, by have := hy'.1; omega⟩
  obtain ⟨x, rfl⟩ : ∃ k, x = k + 1 := ⟨x - 1, by have := hx.1; omega⟩
  rw [mem_U1] at hy
  obtain ⟨a, b, e⟩ := List.append_of_mem hy
  have e2 := h.tail e
  have hpar : T.par y = (x : Int) := by
    have := ps_par hy' h
    rw [hxx] at this; simp at this; omega
  have e3 := h.up_step hpar
  have hbx : b = T.up x := by rw [e2] at e3; simpa using e3
  have hx2 : T.par x ≠ -2 := by simpa using hx.2
  obtain ⟨cx, ex⟩ := (h.spec hx2).head
  have nd := (h.spec hv).nodup
  have full : T.up v = (a ++ [y]) ++ x :: cx := by rw [e, hbx, ex]; simp
  have k : turn T.par (-1) (T.up v) x = lastI (a ++ [y]) := by
    rw [full] at nd ⊢
    rw [turn_at nd, if_neg (by simp)]
  rw [lastI_snoc] at k
  show (turn T.par (-1) (T.up v) (x + 1 - 1) + 1).toNat = y + 1
  simp only [Nat.add_sub_cancel]
  rw [k]; omega
theorem ps_evert_t (h : T.Wf) (hv : T.par v ≠ -2) : ps (T.evert v) (v + 1) = 0 := by
  obtain ⟨c, e⟩ := (h.spec hv).head
  have nd := (h.spec hv).nodup
  have k : turn T.par (-1) (T.up v) v = -1 := by
    rw [e] at nd ⊢
    have := turn_at (par := T.par) (b := -1) (a := []) (x := v) (c := c) (by simpa using nd)
    simpa using this
  show (turn T.par (-1) (T.up v) (v + 1 - 1) + 1).toNat = 0
  simp only [Nat.add_sub_cancel]
  rw [k]; rfl
theorem ps_evert_out (hx : x ∉ U T (v + 1)) (hx1 : 1 ≤ x) : ps (T.evert v) x = ps T x := by
  obtain ⟨x, rfl⟩ : ∃ k, x = k + 1 := ⟨x - 1, by omega⟩
  rw [mem_U1] at hx
  show (turn T.par (-1) (T.up v) (x + 1 - 1) + 1).toNat = _
  simp only [Nat.add_sub_cancel]
  rw [turn_out hx]; simp [ps]
/-- Who is above whom, behind a turn: off the way. -/
theorem mem_evert_out (h : T.Wf) (hv : T.par v ≠ -2) (hx : x ∉ U T (v + 1)) (u : Nat) : x ∈ U (T.evert v) (u + 1) ↔ x ∈ U T (u + 1) := by
  have h' := h.evert hv
  by_cases hu : Th T (u + 1)
  · by_cases hx1 : 1 ≤ x
    · obtain ⟨x, rfl⟩ : ∃ k, x = k + 1 := ⟨x - 1, by omega⟩
      rw [mem_U1] at hx
      rw [mem_U1, mem_U1]
      rcases h.meets hu.2 hv with ⟨m, a, b, cc, hm⟩ | hn
      · have e : (T.evert v).up u = a ++ m :: b.reverse := h'.eq (h.evert_in hm)
        have e1 : T.up u = a ++ m :: cc := hm.el
        have e2 : T.up v = b ++ m :: cc := hm.em
        rw [e, e1]
        rw [e2] at hx
        simp only [List.mem_append, List.mem_cons, List.mem_reverse, not_or] at hx ⊢
        constructor
        · rintro (q | q | q)
          · exact .inl q
          · exact absurd q hx.2.1
          · exact absurd q hx.1
        · rintro (q | q | q)
          · exact .inl q
          · exact absurd q hx.2.1
          · exact absurd q hx.2.2
      · have e : (T.evert v).up u = T.up u := h'.eq (h.evert_out hu.2 hn)
        rw [e]
    · have : x = 0 := by omega
      subst this
      exact ⟨fun q => absurd q (zero_U h'), fun q => absurd q (zero_U h)⟩
  · rw [U_gone h hu, U_gone h' (fun q => hu ((th_evert h hv).1 q))]
/-- .. and on it: y is the one below it there, or there is none. -/
theorem mem_evert_on (h : T.Wf) (hv : T.par v ≠ -2) (hx : x ∈ U T (v + 1)) (hr : r ∈ U T (v + 1)) (hr0 : ps T r = 0) (hy : (x = v + 1 ∧ y = 0) ∨ (y ∈ U T (v + 1) ∧ ps T y = x)) (u : Nat) :
    x ∈ U (T.evert v) (u + 1) ↔ r ∈ U T (u + 1) ∧ y ∉ U T (u + 1) := by
  have h' := h.evert hv
  have hx' := U_mem_th h hx
  have hrt := U_mem_th h hr
  have hUr : U T r = [r] := by rw [U_th h hrt, hr0, U_zero]
  by_cases hu : Th T (u + 1)
  · have rt : ∀ z, z ∈ U T (v + 1) → r ∈ U T z := fun z hz => by
      rcases U_cmq h _ (Nat.le_refl _) hr hz with q | q
      · exact q
      · rw [hUr] at q; simp at q; rw [q]; exact U_self h hrt
    rcases h.meets hu.2 hv with ⟨m, a, b, cc, hm⟩ | hn
    · have e : (T.evert v).up u = a ++ m :: b.reverse := h'.eq (h.evert_in hm)
      have e1 : T.up u = a ++ m :: cc := hm.el
      have e2 : T.up v = b ++ m :: cc := hm.em
      have mu : m + 1 ∈ U T (u + 1) := by rw [mem_U1, e1]; simp
      have mv : m + 1 ∈ U T (v + 1) := by rw [mem_U1, e2]; simp
      have hrm : r ∈ U T (u + 1) := U_trans h mu (rt _ mv)
      have common : ∀ z, z ∈ U T (v + 1) → z ∈ U T (u + 1) → z ∈ U T (m + 1) := fun z z1 z2 => by
        have hz1 := (U_mem_th h z1).1
        obtain ⟨z, rfl⟩ : ∃ k, z = k + 1 := ⟨z - 1, by omega⟩
        rw [mem_U1] at z1 z2 ⊢
        rw [h.tail e2]
        rw [e1] at z2
        simp only [List.mem_append, List.mem_cons] at z2 ⊢
        rcases z2 with q | q | q
        · exact absurd z1 (hm.ha z q)
        · exact .inl q
        · exact .inr q
      have ch : x ∈ U (T.evert v) (u + 1) ↔ m + 1 ∈ U T x := by
        obtain ⟨x, rfl⟩ : ∃ k, x = k + 1 := ⟨x - 1, by have := hx'.1; omega⟩
        rw [mem_U1] at hx
        rw [mem_U1, mem_U1, e]
        rw [e2] at hx
        simp only [List.mem_append, List.mem_cons, List.mem_reverse] at hx ⊢
        constructor
        · rintro (q | q | q)
          · have := hm.ha x q
            rw [e2] at this
            simp only [List.mem_append, List.mem_cons, not_or] at this
            rcases hx with k | k | k
            · exact absurd k this.1
            · exact absurd k this.2.1
            · exact absurd k this.2.2
          · subst q; exact h.self (h.there' (v := v) (by rw [e2]; simp))
          · obtain ⟨b1, b2, eb⟩ := List.append_of_mem q
            have : T.up v = b1 ++ x :: (b2 ++ m :: cc) := by rw [e2, eb]; simp
            rw [h.tail this]; simp
        · intro q
          rcases hx with k | k | k
          · exact .inr (.inr k)
          · exact .inr (.inl k)
          · -- x above m: then m is above x too
            have hxm : x + 1 ∈ U T (m + 1) := by rw [mem_U1, h.tail e2]; simp [k]
            have hmx : m + 1 ∈ U T (x + 1) := mem_U1.2 q
            have := U_anti h hxm hmx
            exact .inr (.inl (by omega))
      rw [ch]
      constructor
      · intro q
        refine ⟨hrm, fun hy2 => ?_⟩
        rcases hy with ⟨_, rfl⟩ | ⟨hy1, hy3⟩
        · exact zero_U h hy2
        · have hyt := U_mem_th h hy1
          have k := common y hy1 hy2
          have hx0 : ps T y ≠ 0 := by rw [hy3]; have := hx'.1; omega
          have k2 : y ∈ U T x := U_trans h q k
          rw [← hy3] at k2
          exact ps_notin h hyt k2
      · rintro ⟨_, hy2⟩
        rcases U_cmq h _ (Nat.le_refl _) mv hx with q | q
        · exact q
        · rcases hy with ⟨rfl, _⟩ | ⟨hy1, hy3⟩
          · exact mv
          · have hyt := U_mem_th h hy1
            rcases U_cmq h _ (Nat.le_refl _) mv hy1 with k | k
            · rcases (U_up h hyt).1 k with e9 | e9
              · rw [← e9] at hy2; exact absurd mu hy2
              · rw [hy3] at e9; exact e9
            · exact absurd (U_trans h mu k) hy2
    · have e : (T.evert v).up u = T.up u := h'.eq (h.evert_out hu.2 hn)
      have nn : ∀ z, z ∈ U T (v + 1) → z ∉ U T (u + 1) := fun z z1 z2 => by
        have hz1 := (U_mem_th h z1).1
        obtain ⟨z, rfl⟩ : ∃ k, z = k + 1 := ⟨z - 1, by omega⟩
        rw [mem_U1] at z1 z2
        exact hn z z2 z1
      constructor
      · intro q
        have : x ∈ U T (u + 1) := by rw [U_list] at q ⊢; rw [e] at q; exact q
        exact absurd this (nn x hx)
      · rintro ⟨q, _⟩
        exact absurd q (nn r hr)
  · rw [U_gone h hu, U_gone h' (fun q => hu ((th_evert h hv).1 q))]; simp
theorem D_evert_out (h : T.Wf) (hv : T.par v ≠ -2) (hx : x ∉ U T (v + 1)) : Dc (T.evert v) x = Dc T x ∧ Dw (T.evert v) x = Dw T x :=
  ⟨sumF_congr fun u _ => by simp only [mem_evert_out h hv hx], sumF_congr fun u _ => by simp only [mem_evert_out h hv hx]; rfl⟩
theorem D_evert_on (h : T.Wf) (hv : T.par v ≠ -2) (hx : x ∈ U T (v + 1)) (hr : r ∈ U T (v + 1)) (hr0 : ps T r = 0) (hy : (x = v + 1 ∧ y = 0) ∨ (y ∈ U T (v + 1) ∧ ps T y = x)) :
    Dc (T.evert v) x = Dc T r - Dc T y ∧ Dw (T.evert v) x = Dw T r - Dw T y := by
  have hrt := U_mem_th h hr
  have hUr : U T r = [r] := by rw [U_th h hrt, hr0, U_zero]
  have sub : ∀ u, y ∈ U T (u + 1) → r ∈ U T (u + 1) := fun u hu => by
    rcases hy with ⟨_, rfl⟩ | ⟨hy1, _⟩
    · exact absurd hu (zero_U h)
    · rcases U_cmq h _ (Nat.le_refl _) hr hy1 with q | q
      · exact U_trans h hu q
      · rw [hUr] at q; simp at q; rw [← q]; exact hu
  refine ⟨?_, ?_⟩
  · unfold Dc
    rw [← sumF_sub]
    refine sumF_congr fun u _ => ?_
    simp only [mem_evert_on h hv hx hr hr0 hy]
    by_cases q1 : y ∈ U T (u + 1)
    · simp [q1, sub u q1]
    · simp [q1]
  · unfold Dw
    rw [← sumF_sub]
    refine sumF_congr fun u _ => ?_
    simp only [mem_evert_on h hv hx hr hr0 hy]
    show (if _ then T.wt u else 0) = _
    by_cases q1 : y ∈ U T (u + 1)
    · simp [q1, sub u q1]
    · simp [q1]

/-! A way raised. -/
def cntF (T : Tr) (l : List Nat) (x : Nat) : Int := sumF T.n (fun u => if x ∈ U T (u + 1) ∧ u ∈ l then 1 else 0)
theorem D_raise : Dc (T.raise l w) x = Dc T x ∧ Dw (T.raise l w) x = Dw T x + w * cntF T l x := by
  refine ⟨rfl, ?_⟩
  unfold Dw cntF
  rw [← sumF_mul, ← sumF_add]
  refine sumF_congr fun u _ => ?_
  show (if x ∈ U T (u + 1) then raiseF T.wt l w u else 0) = _
  unfold raiseF
  by_cases q1 : x ∈ U T (u + 1) <;> by_cases q2 : u ∈ l <;> simp [q1, q2]
/-- Off the way from the root to v no node of it is at or below x. -/
theorem cnt_out (h : T.Wf) (hl : ∀ u ∈ l, u + 1 ∈ U T (v + 1)) (hx : x ∉ U T (v + 1)) : cntF T l x = 0 :=
  sumF_zero fun u _ => if_neg fun ⟨h1, h2⟩ => hx (U_trans h (hl u h2) h1)
theorem cnt_zero (h : T.Wf) : cntF T l 0 = 0 := sumF_zero fun u _ => if_neg fun ⟨h1, _⟩ => zero_U h h1
theorem cnt_on (h : T.Wf) (hl : ∀ u, u ∈ l ↔ u + 1 ∈ U T (v + 1)) (hx : x ∈ U T (v + 1)) (hy : (x = v + 1 ∧ y = 0) ∨ (y ∈ U T (v + 1) ∧ ps T y = x)) : cntF T l x - cntF T l y = 1 := by
  have hx' := U_mem_th h hx
  unfold cntF
  rw [← sumF_sub]
  refine (sumF_congr fun u _ => ?_).trans (sumF_one (x - 1) 1 (th_lt h hx'))
  by_cases q : u ∈ l
  · have hu := (hl u).1 q
    simp only [q, and_true]
    by_cases e : u = x - 1
    · have e' : u + 1 = x := by have := hx'.1; omega
      rw [if_pos e, e', if_pos (U_self h hx')]
      have : y ∉ U T x := fun k => by
        rcases hy with ⟨_, rfl⟩ | ⟨h1, h2⟩
        · exact zero_U h k
        · have := U_mem_th h h1
          rw [← h2] at k; exact ps_notin h this k
      rw [if_neg this]; rfl
    · have e' : u + 1 ≠ x := by omega
      rw [if_neg e]
      rcases hy with ⟨rfl, rfl⟩ | ⟨h1, h2⟩
      · have : v + 1 ∉ U T (u + 1) := fun k => e' (U_anti h hu k)
        rw [if_neg this, if_neg (zero_U h)]; rfl
      · have hyt := U_mem_th h h1
        by_cases k : y ∈ U T (u + 1)
        · have : x ∈ U T (u + 1) := U_trans h k (by rw [← h2]; exact U_ps h hyt (by rw [h2]; have := hx'.1; omega))
          rw [if_pos k, if_pos this]; rfl
        · have : x ∉ U T (u + 1) := fun k2 => by
            rcases U_cmq h _ (Nat.le_refl _) hu h1 with k3 | k3
            · rcases (U_up h hyt).1 k3 with k4 | k4
              · exact k (by rw [k4]; exact U_self h hyt)
              · rw [h2] at k4; exact e' (U_anti h k4 k2)
            · exact k k3
          rw [if_neg k, if_neg this]; rfl
  · simp only [q, and_false, if_false]
    rw [if_neg]
    · rfl
    · intro e
      refine q ((hl u).2 ?_)
      rw [e, Nat.sub_add_cancel hx'.1]; exact hx
end
end Go.Proofs.Ytjnkgakajenoaaa
/- Plain mathematics for link: what must hold, behind each change of the forest. No Go in sight. -/

namespace Go.Proofs.Ytjnkgakajenoaaa
set_option linter.unusedVariables false
set_option linter.unusedSimpArgs false
section
variable {S S1 : Ss} {n : Nat} {T T1 : Tr} {G G1 : Gh} {t u x y z k c p q met : Nat} {w d : Int} {l : List Nat}
theorem Loc.move (h : Lc S n T G) (hx : Th T x) (e0 : S1 x = S x)
    (ek : ∀ j, j = (S x).l ∨ j = (S x).r → (S1 j).sm = (S j).sm ∧ (S1 j).hu = (S j).hu)
    (kk : ∀ j, j ≠ 0 → j = (S x).l ∨ j = (S x).r → Ki S1 T1 G1 x j)
    (en : En G1 (G1.b x) (S x).l (S x).r x) (nx : G1.pn x ≠ 0 → Th T1 (G1.pn x) ∧ ps T1 (G1.pn x) = x) (wt : (S x).wt + G1.a x = T1.wt (x - 1))
    (hc : Dc T1 x - Dc T1 (G1.pn x) = Dc T x - Dc T (G.pn x)) (hw : Dw T1 x - T1.wt (x - 1) - Dw T1 (G1.pn x) = Dw T x - T.wt (x - 1) - Dw T (G.pn x))
    (tp : Top S1 x → Tp S1 T1 G1 x) : Loc S1 T1 G1 x := by
  have L := h.loc x hx
  refine ⟨fun e => ?_, fun e => ?_, by rw [e0]; exact L.lr, by rw [e0]; exact en, nx, by rw [e0]; exact wt, ?_, by rw [e0]; exact L.fit, ?_, by rw [e0, L.hgc]; omega, by rw [e0, L.hgw]; omega, by rw [e0]; exact L.id, tp⟩
  · rw [e0] at e ⊢; exact kk _ e (.inl rfl)
  · rw [e0] at e ⊢; exact kk _ e (.inr rfl)
  · rw [e0, (ek _ (.inl rfl)).1, (ek _ (.inr rfl)).1]; exact L.sm
  · rw [e0, (ek _ (.inl rfl)).2, (ek _ (.inr rfl)).2]; exact L.hu
theorem En.agree {β : Bool} {l r : Nat} (h : En G β l r x) (fx : G1.fi x = G.fi x ∧ G1.la x = G.la x) (fk : ∀ j, j ≠ 0 → j = l ∨ j = r → G1.fi j = G.fi j ∧ G1.la j = G.la j)
    (p1 : ∀ j, j ≠ 0 → j = l ∨ j = r → G.pn (G.la j) = x → G1.pn (G.la j) = x) (p2 : ∀ j, j ≠ 0 → j = l ∨ j = r → G.pn x = G.fi j → G1.pn x = G.fi j) : En G1 β l r x := by
  obtain ⟨h1, h2, h3, h4⟩ := h
  cases β
  · refine ⟨fun e => ?_, fun e => ?_, fun e => ?_, fun e => ?_⟩
    · show G1.fi x = x; rw [fx.1]; exact h1 e
    · obtain ⟨a, b⟩ := h2 e
      exact ⟨by show G1.fi x = G1.fi l; rw [fx.1, (fk l e (.inl rfl)).1]; exact a, by show G1.pn (G1.la l) = x; rw [(fk l e (.inl rfl)).2]; exact p1 l e (.inl rfl) b⟩
    · show G1.la x = x; rw [fx.2]; exact h3 e
    · obtain ⟨a, b⟩ := h4 e
      exact ⟨by show G1.la x = G1.la r; rw [fx.2, (fk r e (.inr rfl)).2]; exact a, by show G1.pn x = G1.fi r; rw [(fk r e (.inr rfl)).1]; exact p2 r e (.inr rfl) b⟩
  · refine ⟨fun e => ?_, fun e => ?_, fun e => ?_, fun e => ?_⟩
    · show G1.la x = x; rw [fx.2]; exact h1 e
    · obtain ⟨a, b⟩ := h2 e
      exact ⟨by show G1.la x = G1.la l; rw [fx.2, (fk l e (.inl rfl)).2]; exact a, by show G1.pn x = G1.fi l; rw [(fk l e (.inl rfl)).1]; exact p2 l e (.inl rfl) b⟩
    · show G1.fi x = x; rw [fx.1]; exact h3 e
    · obtain ⟨a, b⟩ := h4 e
      exact ⟨by show G1.fi x = G1.fi r; rw [fx.1, (fk r e (.inr rfl)).1]; exact a, by show G1.pn (G1.la r) = x; rw [(fk r e (.inr rfl)).2]; exact p1 r e (.inr rfl) b⟩
theorem Lc.la_th (h : Lc S n T G) (hx : Th T x) : Th T (G.la x) := U_mem_th' h.wf (h.la_in hx)
theorem Lc.top_nk (h : Lc S n T G) (hx : Th T x) (hT : Top S t) (t0 : t ≠ 0) : t ≠ (S x).l ∧ t ≠ (S x).r := by
  refine ⟨fun e => ?_, fun e => ?_⟩
  · exact (h.up_kid hx (.inl e) t0).nt (.inl e.symm) hT
  · exact (h.up_kid hx (.inr e) t0).nt (.inr e.symm) hT
/-- A set that holds with each the next one down its path holds all of a part or nothing of it. -/
theorem Lc.constk (h : Lc S n T G) (P : Nat → Prop) (hP : ∀ y, Th T y → G.pn y ≠ 0 → (P y ↔ P (G.pn y))) : ∀ (k : Nat) (x : Nat), Th T x → (S x).sm.c ≤ k → (P x ↔ P (G.fi x)) ∧ (P x ↔ P (G.la x)) ∧ ∀ j, j ≠ 0 → j = (S x).l ∨ j = (S x).r → (P x ↔ P j)
  | 0, x, hx, hc => by have := (h.loc x hx).fit.c1; omega
  | k + 1, x, hx, hc => by
    have L := h.loc x hx
    have x0 : x ≠ 0 := by have := hx.1; omega
    have A : (S x).l ≠ 0 → _ := fun e => And.intro (L.kl e).th (Lc.constk h P hP k _ (L.kl e).th (by have := h.cl hx; omega))
    have B : (S x).r ≠ 0 → _ := fun e => And.intro (L.kr e).th (Lc.constk h P hP k _ (L.kr e).th (by have := h.cr hx; omega))
    have en := L.en
    have main : ∀ M Q : Nat, (M ≠ 0 → Th T M ∧ (P M ↔ P (G.fi M)) ∧ (P M ↔ P (G.la M)) ∧ ∀ j, j ≠ 0 → j = (S M).l ∨ j = (S M).r → (P M ↔ P j)) →
        (Q ≠ 0 → Th T Q ∧ (P Q ↔ P (G.fi Q)) ∧ (P Q ↔ P (G.la Q)) ∧ ∀ j, j ≠ 0 → j = (S Q).l ∨ j = (S Q).r → (P Q ↔ P j)) →
        (M = 0 → G.fi x = x) → (M ≠ 0 → G.fi x = G.fi M ∧ G.pn (G.la M) = x) → (Q = 0 → G.la x = x) → (Q ≠ 0 → G.la x = G.la Q ∧ G.pn x = G.fi Q) →
        (P x ↔ P (G.fi x)) ∧ (P x ↔ P (G.la x)) ∧ ∀ j, j ≠ 0 → j = M ∨ j = Q → (P x ↔ P j) := by
      intro M Q hM hQ e1 e2 e3 e4
      have m : M ≠ 0 → (P x ↔ P M) := fun e => by
        obtain ⟨m1, m2, m3, m4⟩ := hM e
        have := hP (G.la M) (h.la_th m1) (by rw [(e2 e).2]; exact x0)
        rw [(e2 e).2] at this
        rw [m3, this]
      have q : Q ≠ 0 → (P x ↔ P Q) := fun e => by
        obtain ⟨m1, m2, m3, m4⟩ := hQ e
        have f0 := (h.fi_th m1).1
        have := hP x hx (by rw [(e4 e).2]; omega)
        rw [(e4 e).2] at this
        rw [this, m2]
      refine ⟨?_, ?_, fun j j0 hj => ?_⟩
      · by_cases e : M = 0
        · rw [e1 e]
        · rw [(e2 e).1, m e]; exact (hM e).2.1
      · by_cases e : Q = 0
        · rw [e3 e]
        · rw [(e4 e).1, q e]; exact (hQ e).2.2.1
      · rcases hj with rfl | rfl
        · exact m j0
        · exact q j0
    cases hb : G.b x
    · rw [hb] at en
      exact main _ _ A B (fun e => en.l0 e) (fun e => en.l1 e) (fun e => en.r0 e) (fun e => en.r1 e)
    · rw [hb] at en
      obtain ⟨a, b, c⟩ := main _ _ B A (fun e => en.r0 e) (fun e => en.r1 e) (fun e => en.l0 e) (fun e => en.l1 e)
      exact ⟨a, b, fun j j0 hj => c j j0 hj.symm⟩
theorem Lc.const (h : Lc S n T G) (P : Nat → Prop) (hP : ∀ y, Th T y → G.pn y ≠ 0 → (P y ↔ P (G.pn y))) (hx : Th T x) : (P x ↔ P (G.fi x)) ∧ (P x ↔ P (G.la x)) ∧ ∀ j, j ≠ 0 → j = (S x).l ∨ j = (S x).r → (P x ↔ P j) :=
  h.constk P hP (S x).sm.c.toNat x hx (by have := h.cn x; omega)
/-- A path from a root down to t. -/
structure Pth (S : Ss) (n : Nat) (T : Tr) (G : Gh) (t : Nat) : Prop where
  lc : Lc S n T G
  th : Th T t
  top : Top S t
  idle : Idle S t
  up0 : (S t).up = 0
  r0 : (S t).r = 0
  pn0 : G.pn t = 0
  la : G.la t = t
  root : ps T (G.fi t) = 0
  chain : ∀ z, z ∈ U T t → ps T z ≠ 0 → G.pn (ps T z) = z
theorem Exd.pth {S0 : Ss} {G0 : Gh} (E : Exd n T t S0 G0 met S G) (h : Lc S n T G) (ht : Th T t) : Pth S n T G t :=
  ⟨h, ht, E.top, E.idle, E.up0, E.r0, E.pn0, E.la, E.root, E.chain⟩
theorem Pth.pn_iff (E : Pth S n T G t) (hy : Th T y) (hp : G.pn y ≠ 0) : y ∈ U T t ↔ G.pn y ∈ U T t := by
  have W := E.lc.wf
  obtain ⟨h1, h2⟩ := (E.lc.loc y hy).nx hp
  constructor
  · intro hm
    -- one below y on the way
    have hyt : y ≠ t := fun e => hp (by rw [e]; exact E.pn0)
    -- the node below y
    have : ∃ z, z ∈ U T t ∧ ps T z = y := by
      have key : ∀ (k : Nat) (s : Nat), dp T s ≤ k → s ∈ U T t → y ∈ U T s → y ≠ s → ∃ z, z ∈ U T t ∧ ps T z = y := by
        intro k
        induction k with
        | zero => intro s hs hs1 hs2 _; have := dp_pos W (U_mem_th' W hs2); omega
        | succ k ih =>
          intro s hs hs1 hs2 hs3
          have hst := U_mem_th W hs1
          have hd := dp_th W hst
          rcases (U_up W hst).1 hs2 with e | e
          · exact absurd e hs3
          · by_cases e2 : y = ps T s
            · exact ⟨s, hs1, e2.symm⟩
            · have p0 : ps T s ≠ 0 := fun e3 => by rw [e3, U_zero] at e; simp at e
              exact ih (ps T s) (by omega) (U_trans W hs1 (U_ps W hst p0)) e e2
      exact key _ t (Nat.le_refl _) (U_self W E.th) hm hyt
    obtain ⟨z, hz, hzy⟩ := this
    have := E.chain z hz (by rw [hzy]; have := hy.1; omega)
    rw [hzy] at this
    rw [this]; exact hz
  · intro hm
    rw [← h2]
    exact U_trans W hm (U_ps W h1 (by rw [h2]; have := hy.1; omega))
theorem Pth.pn_ne (E : Pth S n T G t) (hm : y ∈ U T t) (hne : y ≠ t) : G.pn y ≠ 0 := by
  have W := E.lc.wf
  have hy := U_mem_th W hm
  have key : ∀ (k : Nat) (s : Nat), dp T s ≤ k → s ∈ U T t → y ∈ U T s → y ≠ s → ∃ z, z ∈ U T t ∧ ps T z = y := by
    intro k
    induction k with
    | zero => intro s hs hs1 hs2 _; have := dp_pos W (U_mem_th' W hs2); omega
    | succ k ih =>
      intro s hs hs1 hs2 hs3
      have hst := U_mem_th W hs1
      have hd := dp_th W hst
      rcases (U_up W hst).1 hs2 with e | e
      · exact absurd e hs3
      · by_cases e2 : y = ps T s
        · exact ⟨s, hs1, e2.symm⟩
        · have p0 : ps T s ≠ 0 := fun e3 => by rw [e3, U_zero] at e; simp at e
          exact ih (ps T s) (by omega) (U_trans W hs1 (U_ps W hst p0)) e e2
  obtain ⟨z, hz, hzy⟩ := key _ t (Nat.le_refl _) (U_self W E.th) hm hne
  have := E.chain z hz (by rw [hzy]; have := hy.1; omega)
  rw [hzy] at this
  rw [this]; have := (U_mem_th W hz).1; omega
/-- The way is all or nothing of a part. -/
theorem Pth.const (E : Pth S n T G t) (hx : Th T x) : (x ∈ U T t ↔ G.fi x ∈ U T t) ∧ (x ∈ U T t ↔ G.la x ∈ U T t) ∧ ∀ j, j ≠ 0 → j = (S x).l ∨ j = (S x).r → (x ∈ U T t ↔ j ∈ U T t) :=
  E.lc.const (fun y => y ∈ U T t) (fun y hy hp => E.pn_iff hy hp) hx
/-- The one below, on the way. -/
theorem Pth.below (E : Pth S n T G t) (hx : x ∈ U T t) : (x = t ∧ G.pn x = 0) ∨ (G.pn x ∈ U T t ∧ ps T (G.pn x) = x ∧ G.pn x ≠ 0) := by
  by_cases e : x = t
  · exact .inl ⟨e, by rw [e]; exact E.pn0⟩
  · have hp := E.pn_ne hx e
    have hx' := U_mem_th E.lc.wf hx
    exact .inr ⟨(E.pn_iff hx' hp).1 hx, ((E.lc.loc x hx').nx hp).2, hp⟩
theorem Pth.top_t (E : Pth S n T G t) (hx : x ∈ U T t) (hT : Top S x) : x = t := by
  have W := E.lc.wf
  have hx' := U_mem_th W hx
  have hl := (E.const hx').2.1.1 hx
  have P := (E.lc.loc x hx').tp hT
  have e : G.la x = t := Classical.byContradiction fun e => E.pn_ne hl e P.pn
  exact Classical.byContradiction fun e2 => (E.lc.ends_nt hx' E.top (fun e3 => e2 e3.symm)).1 e
/-- What the root has at or below it. -/
theorem Pth.fi_mem (E : Pth S n T G t) : G.fi t ∈ U T t := E.lc.fi_in E.th
end
end Go.Proofs.Ytjnkgakajenoaaa
/- Plain mathematics for link: a weight set, a way raised, a way turned round. No Go in sight. -/

namespace Go.Proofs.Ytjnkgakajenoaaa
set_option linter.unusedVariables false
set_option linter.unusedSimpArgs false
def setS (S : Ss) (t : Nat) (w : Int) : Ss := gatherS (upd S t { S t with wt := w }) t
section
variable {S S1 : Ss} {n : Nat} {T T1 : Tr} {G G1 : Gh} {t u x y z k c p q met : Nat} {w d : Int} {l : List Nat}
theorem setS_at (S : Ss) (w : Int) (hl : (S t).l ≠ t) (hr : (S t).r ≠ t) (x : Nat) : setS S t w x = if x = t then { S t with wt := w, sm := jn (jn (S (S t).l).sm (one w)) (S (S t).r).sm, hu := ⟨(S (S t).l).hu.c + (S t).hg.c + (S (S t).r).hu.c, (S (S t).l).hu.w + (S t).hg.w + (S (S t).r).hu.w⟩ } else S x := by
  unfold setS gatherS
  by_cases e : x = t
  · subst e
    rw [upd_same, if_pos rfl]
    unfold gSm gHu
    rw [upd_same]
    dsimp only
    rw [upd_ne _ _ hl, upd_ne _ _ hr]
  · rw [upd_ne _ _ e, upd_ne _ _ e, if_neg e]
theorem Pth.set (E : Pth S n T G t) (hw : -1099511627776 ≤ w ∧ w ≤ 1099511627776) : Lc (setS S t w) n (T.set (t - 1) w) G := by
  have h := E.lc
  have W := h.wf
  have ht := E.th
  have t0 := ht.1
  have hl := h.kid_ne ht (.inl rfl)
  have hr := h.kid_ne ht (.inr rfl)
  have at1 := setS_at S w hl hr
  generalize setS S t w = S1 at at1 ⊢
  have nx := fun x (hx : x ≠ t) => show S1 x = S x by rw [at1, if_neg hx]
  have f : ∀ x, (S1 x).up = (S x).up ∧ (S1 x).l = (S x).l ∧ (S1 x).r = (S x).r ∧ (S1 x).tn = (S x).tn ∧ (S1 x).wa = (S x).wa ∧ (S1 x).hg = (S x).hg := fun x => by
    rw [at1]; split
    · rename_i e; subst e; simp
    · simp
  have tp : ∀ x, Top S1 x ↔ Top S x := fun x => by unfold Top; rw [(f x).1, (f _).2.1, (f _).2.2.1]
  have D := fun x => D_set (v := t - 1) (w := w) (x := x) ht.2 W
  rw [Nat.sub_add_cancel t0] at D
  have wtx : ∀ x, 1 ≤ x → x ≠ t → (T.set (t - 1) w).wt (x - 1) = T.wt (x - 1) := fun x h1 h2 => updF_other _ _ (by omega)
  refine ⟨W.set, h.ft.set ht.2 hw, h.lt, h.n0, h.nn, fun x hx => by rw [nx x (fun e => hx (by rw [e]; exact ht))]; exact h.out x hx, h.p0, fun x hx => ?_⟩
  have L := h.loc x hx
  have kk : ∀ j, j ≠ 0 → j = (S x).l ∨ j = (S x).r → Ki S1 (T.set (t - 1) w) G x j := fun j j0 hj => by
    have K := h.up_kid hx hj j0
    exact ⟨K.th, by rw [(f j).1]; exact K.up, by rw [(f x).2.2.2.1]; exact K.b, by rw [(f x).2.2.2.2.1]; exact K.a⟩
  have tpx : Top S1 x → Tp S1 (T.set (t - 1) w) G x := fun hT => by
    have P := L.tp ((tp x).1 hT)
    exact ⟨P.b, P.a, by rw [(f x).1]; exact P.fi, P.pn, by rw [(f x).1]; exact P.nv⟩
  by_cases e : x = t
  · subst e
    have P := L.tp E.top
    have d1 := (D x).2
    rw [if_pos (U_self W ht)] at d1
    have wt1 : (T.set (x - 1) w).wt (x - 1) = w := updF_same _ _ _
    refine ⟨fun e => by rw [(f x).2.1] at e ⊢; exact kk _ e (.inl rfl), fun e => by rw [(f x).2.2.1] at e ⊢; exact kk _ e (.inr rfl), by rw [(f x).2.1, (f x).2.2.1]; exact L.lr, by rw [(f x).2.1, (f x).2.2.1]; exact L.en, L.nx, ?_, ?_, ?_, ?_, ?_, ?_, by rw [(f x).2.1, (f x).2.2.1, (f x).2.2.2.1, (f x).2.2.2.2.1]; exact L.id, tpx⟩
    · rw [at1, if_pos rfl, P.a, wt1]; simp
    · rw [(f x).2.1, (f x).2.2.1, nx _ hl, nx _ hr, at1, if_pos rfl]
      dsimp only
      rw [E.idle.2, lf_zero, lf_zero]
    · rw [at1, if_pos rfl]; exact Fitm.mid (h.fit0 _) (h.fit0 _) hw
    · rw [(f x).2.1, (f x).2.2.1, nx _ hl, nx _ hr, at1, if_pos rfl]
    · rw [(f x).2.2.2.2.2, L.hgc, (D x).1, (D _).1]
    · rw [(f x).2.2.2.2.2, L.hgw, d1, (D _).2, E.pn0, if_neg (zero_U W), wt1]; omega
  · have nk : ∀ j, j = (S x).l ∨ j = (S x).r → S1 j = S j := fun j hj => nx j fun e2 => by
      obtain ⟨k1, k2⟩ := h.top_nk hx E.top (by omega)
      rcases hj with q | q
      · exact k1 (by rw [← e2]; exact q)
      · exact k2 (by rw [← e2]; exact q)
    refine Loc.move h hx (nx x e) (fun j hj => by rw [nk j hj]; exact ⟨rfl, rfl⟩) kk L.en L.nx ?_ ?_ ?_ tpx
    · rw [wtx x hx.1 e]; exact L.wt
    · rw [(D x).1, (D _).1]
    · rw [(D x).2, (D _).2, wtx x hx.1 e]
      by_cases hm : x ∈ U T t
      · rcases E.below hm with ⟨e2, _⟩ | ⟨b1, _, _⟩
        · exact absurd e2 e
        · rw [if_pos hm, if_pos b1]; omega
      · have : G.pn x ∉ U T t := fun q => by
          by_cases p0 : G.pn x = 0
          · rw [p0] at q; exact zero_U W q
          · exact hm ((E.pn_iff hx p0).2 q)
        rw [if_neg hm, if_neg this]; omega

/-! A way raised. -/
theorem ofR_ab : ∀ {l : List Int} {m : Int}, m ∈ l → (ofR l).a ≤ m ∧ m ≤ (ofR l).b
  | k :: l, m, hm => by
    have h1 := jn_a (x := one k) (y := ofR l) (by simp [one])
    rcases List.mem_cons.1 hm with rfl | hm
    · exact h1
    · have ne : (ofR l).c ≠ 0 := by
        rw [ofR_c]
        have := List.length_pos_iff.2 (List.ne_nil_of_mem hm)
        omega
      have h2 := jn_a' (x := one k) ne
      have h3 := ofR_ab hm
      show (jn (one k) (ofR l)).a ≤ m ∧ m ≤ (jn (one k) (ofR l)).b
      omega
theorem sp_mem (h : Lc S n T G) {l : List Nat} (sp : Sp S T G x l) (hy : y ∈ l) : (lf (S x).sm (G.a x)).a ≤ T.wt (y - 1) ∧ T.wt (y - 1) ≤ (lf (S x).sm (G.a x)).b := by
  rw [sp.s, ofL_eq]
  exact ofR_ab (List.mem_map.2 ⟨y, hy, rfl⟩)
/-- What a path's part spells, is the way up. -/
theorem sp_list (h : Lc S n T G) : ∀ (l : List Nat) (z : Nat), Pc G.pn (z :: l) → (∀ y ∈ z :: l, Th T y) → ∀ a e, z :: l = a ++ [e] → U T e = (z :: l).reverse ++ U T (ps T z)
  | [], z, _, hth, a, e, he => by
    have : a = [] := by
      cases a with
      | nil => rfl
      | cons y a => simp at he
    subst this
    simp at he; subst he
    rw [U_th h.wf (hth z (by simp))]; simp
  | y :: l, z, hp, hth, a, e, he => by
    cases a with
    | nil => simp at he
    | cons z' a =>
      simp at he
      obtain ⟨rfl, he⟩ := he
      have ih := sp_list h l y hp.2 (fun x hx => hth x (by simp [hx])) a e he
      have hy := (hth y (by simp)).1
      obtain ⟨_, h2⟩ := h.ps_pn (hth z (by simp)) hp.1 (by omega)
      rw [ih, h2, U_th h.wf (hth z (by simp))]
      simp
theorem Pth.spell (E : Pth S n T G t) {l : List Nat} (sp : Sp S T G t l) : l = (U T t).reverse := by
  obtain ⟨m, hm⟩ := sp.hd
  obtain ⟨a, ha⟩ := sp.ls
  have := sp_list E.lc m (G.fi t) (by rw [← hm]; exact sp.pc) (by rw [← hm]; exact sp.th) a (G.la t) (by rw [← hm]; exact ha)
  rw [E.la, E.root, U_zero, List.append_nil, ← hm] at this
  rw [this, List.reverse_reverse]
/-- The sum of the way. -/
theorem Pth.sum (E : Pth S n T G t) : (S t).sm = ofL ((T.up (t - 1)).map T.wt) := by
  obtain ⟨l, sp⟩ := E.lc.spell E.th
  have e := E.spell sp
  have P := (E.lc.loc t E.th).tp E.top
  have s := sp.s
  rw [P.a, lf_zero, e] at s
  rw [s, List.map_reverse]
  have t0 := E.th.1
  have hU : (U T t).map (fun y => T.wt (y - 1)) = (T.up (t - 1)).map T.wt := by
    unfold U
    rw [if_neg (by omega), List.map_map]
    rfl
  rw [hU]
  generalize (T.up (t - 1)).map T.wt = m
  rw [ofL_eq, ofL_eq]
  induction m with
  | nil => rfl
  | cons a m ih =>
    rw [List.reverse_cons, ofR_append, ih]
    show jn (ofR m) (jn (one a) zero) = jn (one a) (ofR m)
    rw [jn_zero_right (ok_one a), jn_comm (ok_ofR m) (ok_one a)]
theorem Pth.way_bd (E : Pth S n T G t) (hy : y ∈ U T t) : (S t).sm.a ≤ T.wt (y - 1) ∧ T.wt (y - 1) ≤ (S t).sm.b := by
  obtain ⟨l, sp⟩ := E.lc.spell E.th
  have e := E.spell sp
  have P := (E.lc.loc t E.th).tp E.top
  have := sp_mem E.lc sp (y := y) (by rw [e]; simpa using hy)
  rw [P.a, lf_zero] at this; exact this
theorem raiseS_t (S : Ss) (t0 : t ≠ 0) (d : Int) (x : Nat) : raiseS S t d x = if x = t then rzS (S t) d else S x := by
  by_cases e : x = t
  · subst e; rw [if_pos rfl, raiseS_at, if_neg t0]
  · rw [if_neg e, raiseS_ne _ _ e]
theorem Pth.raise (E : Pth S n T G t) (hl : ∀ u, u ∈ l ↔ u + 1 ∈ U T t) (h1 : -1099511627776 ≤ (S t).sm.a + d) (h2 : (S t).sm.b + d ≤ 1099511627776) :
    Lc (raiseS S t d) n (T.raise l d) { G with a := fun x => if x ∈ U T t ∧ x ≠ t then G.a x + d else G.a x } ∧ Rbd (S t) d := by
  have h := E.lc
  have W := h.wf
  have ht := E.th
  have t0 : t ≠ 0 := by have := ht.1; omega
  have at1 := raiseS_t S t0 d
  generalize raiseS S t d = S1 at at1 ⊢
  have Lt := h.loc t ht
  have Pt := Lt.tp E.top
  have nx := fun x (hx : x ≠ t) => show S1 x = S x by rw [at1, if_neg hx]
  have f : ∀ x, (S1 x).up = (S x).up ∧ (S1 x).l = (S x).l ∧ (S1 x).r = (S x).r ∧ (S1 x).tn = (S x).tn ∧ (S1 x).hg = (S x).hg ∧ (S1 x).hu = (S x).hu := fun x => by
    rw [at1]; split
    · rename_i e; subst e; have := rzS_f (S x) d; simp [this]
    · simp
  have tp : ∀ x, Top S1 x ↔ Top S x := fun x => by unfold Top; rw [(f x).1, (f _).2.1, (f _).2.2.1]
  have l' : ∀ u, u ∈ l ↔ u + 1 ∈ U T (t - 1 + 1) := fun u => by rw [Nat.sub_add_cancel ht.1]; exact hl u
  have fits := fun y hy => E.way_bd (y := y) hy
  have Ft := Lt.fit
  have fit1 := Ft.lf h1 h2
  have ab := h.ab ht
  have addt : addV (S t).wt d = (S t).wt + d := by
    have := Ft.lo; have := Ft.hi; have := Ft.ab
    unfold addV addB fitB inB
    rw [if_pos (by simp; omega)]
  have bd : Rbd (S t) d := rbd_of Ft (h.c_le t).2 h1 h2 (h.wa_bd t)
  have D := fun x => D_raise (T := T) (l := l) (w := d) (x := x)
  have wt1 : ∀ x, 1 ≤ x → (T.raise l d).wt (x - 1) = if x ∈ U T t then T.wt (x - 1) + d else T.wt (x - 1) := fun x hx => by
    show raiseF T.wt l d (x - 1) = _
    unfold raiseF
    have := hl (x - 1)
    rw [Nat.sub_add_cancel hx] at this
    by_cases q : x ∈ U T t
    · rw [if_pos (this.2 q), if_pos q]
    · rw [if_neg (fun k => q (this.1 k)), if_neg q]
  refine ⟨⟨W.raise, h.ft.raise (fun x hx => ?_), h.lt, h.n0, h.nn, fun x hx => by rw [nx x (fun e => hx (by rw [e]; exact ht))]; exact h.out x hx, h.p0, fun x hx => ?_⟩, bd⟩
  · have hm := (hl x).1 hx
    have hth := U_mem_th W hm
    have := fits _ hm
    rw [Nat.add_sub_cancel] at this
    exact ⟨by simpa using hth.2, by omega, by omega⟩
  have L := h.loc x hx
  have x1 := hx.1
  have cs := E.const hx
  have kk : ∀ j, j ≠ 0 → j = (S x).l ∨ j = (S x).r → Ki S1 (T.raise l d) { G with a := fun x => if x ∈ U T t ∧ x ≠ t then G.a x + d else G.a x } x j := fun j j0 hj => by
    have K := h.up_kid hx hj j0
    have jt : j ≠ t := fun e => by
      obtain ⟨k1, k2⟩ := h.top_nk hx E.top t0
      rcases hj with q | q
      · exact k1 (by rw [← e]; exact q)
      · exact k2 (by rw [← e]; exact q)
    refine ⟨K.th, by rw [(f j).1]; exact K.up, by rw [(f x).2.2.2.1]; exact K.b, ?_⟩
    show (if j ∈ U T t ∧ j ≠ t then G.a j + d else G.a j) = (if x ∈ U T t ∧ x ≠ t then G.a x + d else G.a x) + (S1 x).wa
    have hjx := cs.2.2 j j0 hj
    by_cases hm : x ∈ U T t
    · rw [if_pos ⟨hjx.1 hm, jt⟩, K.a]
      by_cases e : x = t
      · subst e
        rw [if_neg (fun q => q.2 rfl), at1, if_pos rfl]
        have hc : 1 < (S x).sm.c := Classical.byContradiction fun hc => by
          have := h.alone hx hc
          rcases hj with rfl | rfl <;> omega
        rw [rzS, if_pos hc]; dsimp only; omega
      · rw [if_pos ⟨hm, e⟩, nx x e]; omega
    · rw [if_neg (fun q => hm (hjx.2 q.1)), if_neg (fun q => hm q.1), K.a, nx x (fun e => hm (by rw [e]; exact U_self W ht))]
  have tpx : Top S1 x → Tp S1 (T.raise l d) { G with a := fun x => if x ∈ U T t ∧ x ≠ t then G.a x + d else G.a x } x := fun hT => by
    have hT' := (tp x).1 hT
    have P := L.tp hT'
    refine ⟨P.b, ?_, by rw [(f x).1]; exact P.fi, P.pn, by rw [(f x).1]; exact P.nv⟩
    show (if x ∈ U T t ∧ x ≠ t then G.a x + d else G.a x) = 0
    rw [if_neg (fun q => q.2 (E.top_t q.1 hT'))]; exact P.a
  have dif : Dw T x - T.wt (x - 1) - Dw T (G.pn x) = Dw (T.raise l d) x - (T.raise l d).wt (x - 1) - Dw (T.raise l d) (G.pn x) := by
    rw [(D x).2, (D _).2, wt1 x x1]
    by_cases hm : x ∈ U T t
    · have := cnt_on (l := l) (v := t - 1) (x := x) (y := G.pn x) W l' (by rw [Nat.sub_add_cancel ht.1]; exact hm) (by
        rw [Nat.sub_add_cancel ht.1]
        rcases E.below hm with q | q
        · exact .inl q
        · exact .inr ⟨q.1, q.2.1⟩)
      rw [if_pos hm]
      have e : d * cntF T l x = d * cntF T l (G.pn x) + d := by
        have : cntF T l x = cntF T l (G.pn x) + 1 := by omega
        rw [this, Int.mul_add]; omega
      omega
    · rw [if_neg hm]
      have c1 := cnt_out (l := l) (v := t - 1) (x := x) W (fun u hu => (l' u).1 hu) (by rw [Nat.sub_add_cancel ht.1]; exact hm)
      have : G.pn x ∉ U T t := fun q => by
        by_cases p0 : G.pn x = 0
        · rw [p0] at q; exact zero_U W q
        · exact hm ((E.pn_iff hx p0).2 q)
      have c2 := cnt_out (l := l) (v := t - 1) (x := G.pn x) W (fun u hu => (l' u).1 hu) (by rw [Nat.sub_add_cancel ht.1]; exact this)
      rw [c1, c2]; omega
  by_cases e : x = t
  · subst e
    have hm := U_self W hx
    have smx : (S1 x).sm = lf (S x).sm d ∧ (S1 x).wt = (S x).wt + d := by
      have := rzS_f (S x) d
      rw [at1, if_pos rfl]; exact ⟨this.2.2.2.2.2.2.1, by rw [this.2.2.2.2.2.2.2, addt]⟩
    refine ⟨fun e => by rw [(f x).2.1] at e ⊢; exact kk _ e (.inl rfl), fun e => by rw [(f x).2.2.1] at e ⊢; exact kk _ e (.inr rfl), by rw [(f x).2.1, (f x).2.2.1]; exact L.lr, by rw [(f x).2.1, (f x).2.2.1]; exact L.en.gh rfl rfl rfl, L.nx, ?_, ?_, by rw [smx.1]; exact fit1, ?_, by rw [(f x).2.2.2.2.1]; exact L.hgc, by rw [(f x).2.2.2.2.1, L.hgw, dif], ?_, tpx⟩
    · show (S1 x).wt + (if x ∈ U T x ∧ x ≠ x then G.a x + d else G.a x) = _
      rw [if_neg (fun q => q.2 rfl), smx.2, wt1 x x1, if_pos hm, ← L.wt]; omega
    · have kne : ∀ j, j = (S x).l ∨ j = (S x).r → S1 j = S j := fun j hj => nx j (h.kid_ne hx hj)
      rw [(f x).2.1, (f x).2.2.1, kne _ (.inl rfl), kne _ (.inr rfl), smx.1, smx.2]
      have ol := ok_lf (h.ok (S x).l) (S x).wa
      have or' := ok_lf (h.ok (S x).r) (S x).wa
      rw [L.sm, lf_jn (ok_jn ol (ok_one _)) or', lf_jn ol (ok_one _), lf_lf, lf_lf, lf_one]
      rw [at1, if_pos rfl, rzS]
      by_cases hc : 1 < (S x).sm.c
      · rw [if_pos hc]
      · rw [if_neg hc]
        obtain ⟨z1, z2⟩ := h.alone hx hc
        dsimp only
        rw [z1, z2, h.s0]
        show jn (jn (lf zero _) _) (lf zero _) = jn (jn (lf zero _) _) (lf zero _)
        simp only [lf_nil]
    · rw [(f x).2.1, (f x).2.2.1, (f x).2.2.2.2.1, (f x).2.2.2.2.2, (f _).2.2.2.2.2, (f _).2.2.2.2.2]; exact L.hu
    · rw [(f x).2.1, (f x).2.2.1, (f x).2.2.2.1]
      intro a b
      refine ⟨(L.id a b).1, ?_⟩
      have : ¬ 1 < (S x).sm.c := by
        have := h.cc hx
        rw [a, b, h.s0] at this
        have : (S x).sm.c = 0 + 1 + 0 := this
        omega
      rw [at1, if_pos rfl, rzS, if_neg this]; exact (L.id a b).2
  · have nk : ∀ j, j = (S x).l ∨ j = (S x).r → S1 j = S j := fun j hj => nx j fun e2 => by
      obtain ⟨k1, k2⟩ := h.top_nk hx E.top t0
      rcases hj with q | q
      · exact k1 (by rw [← e2]; exact q)
      · exact k2 (by rw [← e2]; exact q)
    refine Loc.move h hx (nx x e) (fun j hj => by rw [nk j hj]; exact ⟨rfl, rfl⟩) kk (L.en.gh rfl rfl rfl) L.nx ?_ rfl dif.symm tpx
    show (S x).wt + (if x ∈ U T t ∧ x ≠ t then G.a x + d else G.a x) = _
    rw [wt1 x x1]
    by_cases hm : x ∈ U T t
    · rw [if_pos ⟨hm, e⟩, if_pos hm, ← L.wt]; omega
    · rw [if_neg (fun q => hm q.1), if_neg hm]; exact L.wt
end
end Go.Proofs.Ytjnkgakajenoaaa
/- Plain mathematics for link: a way turned round. No Go in sight. -/

namespace Go.Proofs.Ytjnkgakajenoaaa
set_option linter.unusedVariables false
set_option linter.unusedSimpArgs false
/-- What is thought of, behind a turn. -/
def turnG (T : Tr) (G : Gh) (t : Nat) : Gh where
  b := fun x => if x ∈ U T t ∧ x ≠ t then !(G.b x) else G.b x
  a := G.a
  fi := fun x => if x ∈ U T t then G.la x else G.fi x
  la := fun x => if x ∈ U T t then G.fi x else G.la x
  pn := fun x => if x ∈ U T t then ps T x else G.pn x
section
variable {S S1 : Ss} {n : Nat} {T T1 : Tr} {G G1 : Gh} {t u x y z k c p q met : Nat} {w d : Int} {l : List Nat}
theorem En.rev {β : Bool} {l r : Nat} (h : En G β l r x) (fx : G1.fi x = G.la x ∧ G1.la x = G.fi x) (fk : ∀ j, j ≠ 0 → j = l ∨ j = r → G1.fi j = G.la j ∧ G1.la j = G.fi j)
    (p1 : ∀ j, j ≠ 0 → j = l ∨ j = r → G.pn (G.la j) = x → G1.pn x = G.la j) (p2 : ∀ j, j ≠ 0 → j = l ∨ j = r → G.pn x = G.fi j → G1.pn (G.fi j) = x) : En G1 β r l x := by
  obtain ⟨h1, h2, h3, h4⟩ := h
  cases β
  · refine ⟨fun e => ?_, fun e => ?_, fun e => ?_, fun e => ?_⟩
    · show G1.fi x = x; rw [fx.1]; exact h3 e
    · obtain ⟨a, b⟩ := h4 e
      exact ⟨by show G1.fi x = G1.fi r; rw [fx.1, (fk r e (.inr rfl)).1]; exact a, by show G1.pn (G1.la r) = x; rw [(fk r e (.inr rfl)).2]; exact p2 r e (.inr rfl) b⟩
    · show G1.la x = x; rw [fx.2]; exact h1 e
    · obtain ⟨a, b⟩ := h2 e
      exact ⟨by show G1.la x = G1.la l; rw [fx.2, (fk l e (.inl rfl)).2]; exact a, by show G1.pn x = G1.fi l; rw [(fk l e (.inl rfl)).1]; exact p1 l e (.inl rfl) b⟩
  · refine ⟨fun e => ?_, fun e => ?_, fun e => ?_, fun e => ?_⟩
    · show G1.la x = x; rw [fx.2]; exact h3 e
    · obtain ⟨a, b⟩ := h4 e
      exact ⟨by show G1.la x = G1.la r; rw [fx.2, (fk r e (.inr rfl)).2]; exact a, by show G1.pn x = G1.fi r; rw [(fk r e (.inr rfl)).1]; exact p1 r e (.inr rfl) b⟩
    · show G1.fi x = x; rw [fx.1]; exact h1 e
    · obtain ⟨a, b⟩ := h2 e
      exact ⟨by show G1.fi x = G1.fi l; rw [fx.1, (fk l e (.inl rfl)).1]; exact a, by show G1.pn (G1.la l) = x; rw [(fk l e (.inl rfl)).2]; exact p2 l e (.inl rfl) b⟩
theorem turnS_t (S : Ss) (t x : Nat) : turnS S t x = if x = t then flipS (S t) else S x := by
  by_cases e : x = t
  · subst e; rw [if_pos rfl, turnS_at]
  · rw [if_neg e, turnS_ne _ e]
theorem Pth.turn (E : Pth S n T G t) : Lc (turnS S t) n (T.evert (t - 1)) (turnG T G t) := by
  have h := E.lc
  have W := h.wf
  have ht := E.th
  have t0 := ht.1
  have hv : T.par (t - 1) ≠ -2 := ht.2
  have tt : t - 1 + 1 = t := Nat.sub_add_cancel t0
  have at1 := turnS_t S t
  generalize turnS S t = S1 at at1 ⊢
  have nx := fun x (hx : x ≠ t) => show S1 x = S x by rw [at1, if_neg hx]
  have f : ∀ x, (S1 x).up = (S x).up ∧ (S1 x).sm = (S x).sm ∧ (S1 x).hu = (S x).hu ∧ (S1 x).hg = (S x).hg ∧ (S1 x).wt = (S x).wt ∧ (S1 x).wa = (S x).wa := fun x => by
    rw [at1]; split
    · rename_i e; subst e; have := flipS_sm (S x); simp [this]
    · simp
  have lr : ∀ x, ((S1 x).l = (S x).l ∧ (S1 x).r = (S x).r) ∨ ((S1 x).l = (S x).r ∧ (S1 x).r = (S x).l) := fun x => by
    rw [at1]; split
    · rename_i e; subst e; exact flipS_lr _
    · exact .inl ⟨rfl, rfl⟩
  have tp : ∀ x, Top S1 x ↔ Top S x := fun x => by
    unfold Top; rw [(f x).1]
    rcases lr (S x).up with ⟨h1, h2⟩ | ⟨h1, h2⟩ <;> rw [h1, h2]
    exact And.comm
  have Gon : ∀ x, x ∈ U T t → (turnG T G t).fi x = G.la x ∧ (turnG T G t).la x = G.fi x ∧ (turnG T G t).pn x = ps T x := fun x hx => by
    simp [turnG, hx]
  have Gout : ∀ x, x ∉ U T t → (turnG T G t).fi x = G.fi x ∧ (turnG T G t).la x = G.la x ∧ (turnG T G t).pn x = G.pn x ∧ (turnG T G t).b x = G.b x := fun x hx => by
    simp [turnG, hx]
  have Gb : ∀ x, x ∈ U T t → x ≠ t → (turnG T G t).b x = !(G.b x) := fun x hx e => by simp [turnG, hx, e]
  have Gbt : (turnG T G t).b t = G.b t := by simp [turnG]
  have hfi := E.fi_mem
  have Pt := (h.loc t ht).tp E.top
  refine ⟨W.evert hv, h.ft.evert W hv, fun x hx => h.lt x ((th_evert W hv).1 hx), h.n0, h.nn, fun x hx => ?_, by rw [(Gout 0 (zero_U W)).2.2.1]; exact h.p0, fun x hx' => ?_⟩
  · have hx2 : ¬ Th T x := fun q => hx ((th_evert W hv).2 q)
    rw [nx x (fun e => hx2 (by rw [e]; exact ht))]; exact h.out x hx2
  have hx := (th_evert W hv).1 hx'
  have L := h.loc x hx
  have x1 := hx.1
  have cs := E.const hx
  have Kb : ∀ j, j ≠ 0 → j = (S x).l ∨ j = (S x).r → Ki S1 (T.evert (t - 1)) (turnG T G t) x j := fun j j0 hj => by
    have K := h.up_kid hx hj j0
    have jt : j ≠ t := fun e => by
      obtain ⟨k1, k2⟩ := h.top_nk hx E.top (by omega)
      rcases hj with q | q
      · exact k1 (by rw [← e]; exact q)
      · exact k2 (by rw [← e]; exact q)
    have hjx := cs.2.2 j j0 hj
    refine ⟨(th_evert W hv).2 K.th, by rw [(f j).1]; exact K.up, ?_, by show G.a j = G.a x + _; rw [(f x).2.2.2.2.2]; exact K.a⟩
    by_cases hm : x ∈ U T t
    · rw [Gb j (hjx.1 hm) jt, K.b]
      by_cases e : x = t
      · subst e
        have hc : 1 < (S x).sm.c := Classical.byContradiction fun hc => by
          have := h.alone hx hc
          rcases hj with rfl | rfl <;> omega
        rw [Gbt, at1, if_pos rfl, flipS, if_pos hc]
        dsimp only
        cases G.b x <;> cases (S x).tn <;> rfl
      · rw [Gb x hm e, nx x e]
        cases G.b x <;> cases (S x).tn <;> rfl
    · rw [(Gout j (fun q => hm (hjx.2 q))).2.2.2, (Gout x hm).2.2.2, K.b, nx x (fun e => hm (by rw [e]; exact U_self W ht))]
  have hg : ((S1 x).hg.c = Dc (T.evert (t - 1)) x - 1 - Dc (T.evert (t - 1)) ((turnG T G t).pn x)) ∧ ((S1 x).hg.w = Dw (T.evert (t - 1)) x - (T.evert (t - 1)).wt (x - 1) - Dw (T.evert (t - 1)) ((turnG T G t).pn x)) := by
    rw [(f x).2.2.2.1, L.hgc, L.hgw]
    show _ ∧ _ = _ - T.wt (x - 1) - _
    by_cases hm : x ∈ U T t
    · rw [(Gon x hm).2.2]
      have ev := fun (y z : Nat) (h1 : y ∈ U T t) (h2 : (y = t ∧ z = 0) ∨ (z ∈ U T t ∧ ps T z = y)) => D_evert_on (v := t - 1) (x := y) (r := G.fi t) (y := z) W hv (by rw [tt]; exact h1) (by rw [tt]; exact hfi) E.root (by rw [tt]; exact h2)
      have e1 := ev x (G.pn x) hm (by
        rcases E.below hm with q | q
        · exact .inl q
        · exact .inr ⟨q.1, q.2.1⟩)
      by_cases p0 : ps T x = 0
      · have hr : x = G.fi t := by
          rcases U_cmp' W hm hfi with q | q
          · rw [U_th W (h.fi_th ht), E.root, U_zero] at q; simpa using q
          · rw [U_th W hx, p0, U_zero] at q; simp at q; exact q.symm
        rw [p0, Dc_zero (W.evert hv), Dw_zero (W.evert hv), e1.1, e1.2, ← hr]; omega
      · have e2 := ev (ps T x) x (U_trans W hm (U_ps W hx p0)) (.inr ⟨hm, rfl⟩)
        rw [e1.1, e1.2, e2.1, e2.2]; omega
    · have hp : G.pn x ∉ U T t := fun q => by
        by_cases p0 : G.pn x = 0
        · rw [p0] at q; exact zero_U W q
        · exact hm ((E.pn_iff hx p0).2 q)
      have e1 := D_evert_out (v := t - 1) (x := x) W hv (by rw [tt]; exact hm)
      have e2 := D_evert_out (v := t - 1) (x := G.pn x) W hv (by rw [tt]; exact hp)
      rw [(Gout x hm).2.2.1, e1.1, e1.2, e2.1, e2.2]; omega
  have hnx : (turnG T G t).pn x ≠ 0 → Th (T.evert (t - 1)) ((turnG T G t).pn x) ∧ ps (T.evert (t - 1)) ((turnG T G t).pn x) = x := by
    by_cases hm : x ∈ U T t
    · rw [(Gon x hm).2.2]
      intro p0
      exact ⟨(th_evert W hv).2 (ps_th W hx p0), ps_evert_on W hv (by rw [tt]; exact hm) p0⟩
    · rw [(Gout x hm).2.2.1]
      intro p0
      obtain ⟨k1, k2⟩ := L.nx p0
      have hp : G.pn x ∉ U T t := fun q => hm ((E.pn_iff hx p0).2 q)
      exact ⟨(th_evert W hv).2 k1, by rw [ps_evert_out (by rw [tt]; exact hp) k1.1]; exact k2⟩
  have hen : En (turnG T G t) ((turnG T G t).b x) (S1 x).l (S1 x).r x := by
    by_cases hm : x ∈ U T t
    · have rev := L.en.rev (G1 := turnG T G t) ⟨(Gon x hm).1, (Gon x hm).2.1⟩ (fun j j0 hj => by
          have hj' : j = (S x).l ∨ j = (S x).r := hj
          have q := (cs.2.2 j j0 hj').1 hm
          exact ⟨(Gon j q).1, (Gon j q).2.1⟩)
        (fun j j0 hj e => by
          have hjm := (cs.2.2 j j0 hj).1 hm
          have K := h.up_kid hx hj j0
          rw [(Gon x hm).2.2]
          exact (h.ps_pn (h.la_th K.th) e (by omega)).2)
        (fun j j0 hj e => by
          have hjm := (cs.2.2 j j0 hj).1 hm
          have K := h.up_kid hx hj j0
          have f0 := (h.fi_th K.th).1
          rw [(Gon (G.fi j) ((E.const K.th).1.1 hjm)).2.2]
          exact (h.ps_pn hx e (by omega)).2)
      by_cases e : x = t
      · subst e
        rw [Gbt, at1, if_pos rfl, flipS]
        split
        · exact rev
        · rename_i hc
          obtain ⟨z1, z2⟩ := h.alone hx hc
          rw [z1, z2] at rev ⊢; exact rev
      · rw [Gb x hm e, nx x e]; exact rev.flip
    · have xt : x ≠ t := fun e => hm (by rw [e]; exact U_self W ht)
      rw [(Gout x hm).2.2.2, nx x xt]
      refine L.en.agree ⟨(Gout x hm).1, (Gout x hm).2.1⟩ (fun j j0 hj => ?_) (fun j j0 hj e => ?_) (fun j j0 hj e => ?_)
      · have q : j ∉ U T t := fun q => hm ((cs.2.2 j j0 hj).2 q)
        exact ⟨(Gout j q).1, (Gout j q).2.1⟩
      · have K := h.up_kid hx hj j0
        have q : G.la j ∉ U T t := fun q => hm ((cs.2.2 j j0 hj).2 ((E.const K.th).2.1.2 q))
        rw [(Gout _ q).2.2.1]; exact e
      · rw [(Gout x hm).2.2.1]; exact e
  have htp : Top S1 x → Tp S1 (T.evert (t - 1)) (turnG T G t) x := fun hT => by
    have hT' := (tp x).1 hT
    have P := L.tp hT'
    by_cases hm : x ∈ U T t
    · have e := E.top_t hm hT'
      subst e
      refine ⟨by rw [Gbt]; exact P.b, P.a, ?_, ?_, ?_⟩
      · rw [(Gon x hm).1, E.la, (f x).1, E.up0]
        have := ps_evert_t W hv
        rwa [tt] at this
      · rw [(Gon x hm).2.1, (Gon _ hfi).2.2]; exact E.root
      · rw [(f x).1, E.up0, (Gout 0 (zero_U W)).2.2.1, h.p0, (Gon x hm).1, E.la]; omega
    · have hf : G.fi x ∉ U T t := fun q => hm (cs.1.2 q)
      have hl : G.la x ∉ U T t := fun q => hm (cs.2.1.2 q)
      have fth := h.fi_th hx
      refine ⟨by rw [(Gout x hm).2.2.2]; exact P.b, P.a, ?_, ?_, ?_⟩
      · rw [(Gout x hm).1, ps_evert_out (by rw [tt]; exact hf) fth.1, (f x).1]; exact P.fi
      · rw [(Gout x hm).2.1, (Gout _ hl).2.2.1]; exact P.pn
      · rw [(f x).1, (Gout x hm).1]
        by_cases hu : (S x).up ∈ U T t
        · rw [(Gon _ hu).2.2]
          intro e
          have d1 := dp_th W fth
          rw [P.fi] at d1
          have d2 := dp_th W (U_mem_th W hu)
          rw [e] at d2; omega
        · rw [(Gout _ hu).2.2.1]; exact P.nv
  have hlr : (S1 x).l = (S1 x).r → (S1 x).l = 0 := by
    rcases lr x with ⟨h1, h2⟩ | ⟨h1, h2⟩ <;> rw [h1, h2]
    · exact L.lr
    · intro e; rw [e]; exact L.lr e.symm
  refine ⟨fun e => Kb _ e ?_, fun e => Kb _ e ?_, hlr, hen, hnx, by rw [(f x).2.2.2.2.1]; exact L.wt, ?_, by rw [(f x).2.1]; exact L.fit, ?_, hg.1, hg.2, ?_, htp⟩
  · rcases lr x with ⟨h1, h2⟩ | ⟨h1, h2⟩ <;> simp [h1]
  · rcases lr x with ⟨h1, h2⟩ | ⟨h1, h2⟩ <;> simp [h2]
  · rw [(f _).2.1, (f _).2.1, (f _).2.1, (f x).2.2.2.2.1, (f x).2.2.2.2.2]
    rcases lr x with ⟨h1, h2⟩ | ⟨h1, h2⟩ <;> rw [h1, h2]
    · exact L.sm
    · have hl := (ok_lf (h.ok (S x).l) (S x).wa)
      have hr := (ok_lf (h.ok (S x).r) (S x).wa)
      have o := ok_one (S x).wt
      rw [L.sm, jn_comm (ok_jn hl o) hr, jn_comm hl o, jn_assoc hr o hl]
  · rw [(f _).2.2.1, (f _).2.2.1, (f _).2.2.1, (f x).2.2.2.1]
    rcases lr x with ⟨h1, h2⟩ | ⟨h1, h2⟩ <;> rw [h1, h2, L.hu]
    congr 1 <;> omega
  · intro a b
    have hc : ¬ 1 < (S x).sm.c := by
      have := h.cc hx
      have e : (S x).l = 0 ∧ (S x).r = 0 := by rcases lr x with ⟨h1, h2⟩ | ⟨h1, h2⟩ <;> constructor <;> omega
      rw [e.1, e.2, h.s0] at this
      have : (S x).sm.c = 0 + 1 + 0 := this
      omega
    have e : S1 x = S x := by
      rw [at1]; split
      · rename_i e; subst e; rw [flipS, if_neg hc]
      · rfl
    rw [e] at a b ⊢; exact L.id a b
end
end Go.Proofs.Ytjnkgakajenoaaa
/- Plain mathematics for link: links, cuts, nodes that come and go. No Go in sight. -/

namespace Go.Proofs.Ytjnkgakajenoaaa
set_option linter.unusedVariables false
set_option linter.unusedSimpArgs false
def attach1 (S : Ss) (c p : Nat) : Ss := upd S c { S c with up := p }
def attach2 (S : Ss) (c p : Nat) : Ss := upd S p { S p with hg := ⟨(S p).hg.c + (wh (S c)).c, (S p).hg.w + (wh (S c)).w⟩ }
def attachS (S : Ss) (c p : Nat) : Ss := gatherS (attach2 (attach1 S c p) c p) p
def detach1 (S : Ss) (t : Nat) : Ss := upd S (S t).l { S (S t).l with up := 0 }
def detachS (S : Ss) (t : Nat) : Ss := holdS (detach1 S t) t 0 (detach1 S t t).r
def newSl (w : Int) : Sl := { Sl.zero with wt := w, sm := one w }
section
variable {S S1 : Ss} {n : Nat} {T T1 : Tr} {G G1 : Gh} {t u x y z k c p q met v m : Nat} {w d : Int} {l : List Nat}
theorem attachS_at (S : Ss) (cp : c ≠ p) (lp : (S p).l ≠ p) (rp : (S p).r ≠ p) (lc : (S p).l ≠ c) (rc : (S p).r ≠ c) (x : Nat) :
    attachS S c p x = if x = p then { S p with hg := ⟨(S p).hg.c + (wh (S c)).c, (S p).hg.w + (wh (S c)).w⟩, sm := jn (jn (S (S p).l).sm (one (S p).wt)) (S (S p).r).sm, hu := ⟨(S (S p).l).hu.c + ((S p).hg.c + (wh (S c)).c) + (S (S p).r).hu.c, (S (S p).l).hu.w + ((S p).hg.w + (wh (S c)).w) + (S (S p).r).hu.w⟩ } else if x = c then { S c with up := p } else S x := by
  have a1 : ∀ y, attach1 S c p y = if y = c then { S c with up := p } else S y := fun y => by
    unfold attach1
    by_cases e : y = c
    · subst e; rw [upd_same, if_pos rfl]
    · rw [upd_ne _ _ e, if_neg e]
  have ap : attach1 S c p p = S p := by rw [a1, if_neg (Ne.symm cp)]
  have ac : wh (attach1 S c p c) = wh (S c) := by rw [a1, if_pos rfl]; rfl
  have a2 : ∀ y, attach2 (attach1 S c p) c p y = if y = p then { S p with hg := ⟨(S p).hg.c + (wh (S c)).c, (S p).hg.w + (wh (S c)).w⟩ } else if y = c then { S c with up := p } else S y := fun y => by
    unfold attach2
    by_cases e : y = p
    · subst e; rw [upd_same, if_pos rfl, ap, ac]
    · rw [upd_ne _ _ e, if_neg e, a1]
  unfold attachS gatherS
  by_cases e : x = p
  · subst e
    rw [upd_same, if_pos rfl]
    unfold gSm gHu
    rw [a2 x, if_pos rfl]
    dsimp only
    rw [a2, if_neg lp, if_neg lc, a2, if_neg rp, if_neg rc]
  · rw [upd_ne _ _ e, a2, if_neg e, if_neg e]
theorem par_root (W : T.Wf) (hc : Th T c) (h0 : ps T c = 0) : T.par (c - 1) = -1 := by
  have := ps_par hc W
  omega
theorem Pth.attach (E : Pth S n T G p) (hc : Th T c) (hT : Top S c) (c0 : (S c).up = 0) (fc : G.fi c = c) (hne : c ∉ U T p) : Lc (attachS S c p) n (T.link (c - 1) (p - 1)) G := by
  have h := E.lc
  have W := h.wf
  have hp := E.th
  have c1 := hc.1
  have p1 := hp.1
  have cc : c - 1 + 1 = c := Nat.sub_add_cancel c1
  have pp : p - 1 + 1 = p := Nat.sub_add_cancel p1
  have cp : c ≠ p := fun e => hne (by rw [e]; exact U_self W hp)
  have Pc' := (h.loc c hc).tp hT
  have psc : ps T c = 0 := by have := Pc'.fi; rwa [fc, c0] at this
  have hroot := par_root W hc psc
  have hnu : c - 1 ∉ T.up (p - 1) := fun q => hne (by have := mem_U1.2 q; rwa [cc, pp] at this)
  have W' := W.link hroot hp.2 hnu
  have nk := h.top_nk hp hT (by omega)
  have at1 := attachS_at S cp (h.kid_ne hp (.inl rfl)) (h.kid_ne hp (.inr rfl)) (Ne.symm nk.1) (Ne.symm nk.2)
  generalize attachS S c p = S1 at at1 ⊢
  have nx : ∀ x, x ≠ p → x ≠ c → S1 x = S x := fun x h1 h2 => by rw [at1, if_neg h1, if_neg h2]
  have f : ∀ x, (S1 x).l = (S x).l ∧ (S1 x).r = (S x).r ∧ (S1 x).tn = (S x).tn ∧ (S1 x).wt = (S x).wt ∧ (S1 x).wa = (S x).wa := fun x => by
    rw [at1]; split
    · rename_i e; subst e; simp
    · split
      · rename_i e; subst e; simp
      · simp
  have fu : ∀ x, x ≠ c → (S1 x).up = (S x).up := fun x hx => by
    rw [at1]; split
    · rename_i e; subst e; simp
    · first | rw [if_neg hx] | rfl
  have fuc : (S1 c).up = p := by rw [at1, if_neg cp, if_pos rfl]
  have psl : ∀ x, 1 ≤ x → x ≠ c → ps (T.link (c - 1) (p - 1)) x = ps T x := fun x h1 h2 => ps_link (by rw [cc]; exact h2) h1
  have pslc : ps (T.link (c - 1) (p - 1)) c = p := by have := ps_link_c (T := T) (c := c - 1) (p := p - 1); rwa [cc, pp] at this
  have th : ∀ x, Th (T.link (c - 1) (p - 1)) x ↔ Th T x := fun x => th_link hc.2
  have D := fun x => D_link (x := x) W hroot hp.2 hnu
  rw [cc, pp] at D
  have tp : ∀ x, Th T x → (Top S1 x ↔ Top S x) := fun x hx => by
    by_cases e : x = c
    · subst e
      refine ⟨fun _ => hT, fun _ => ?_⟩
      unfold Top
      rw [fuc, (f p).1, (f p).2.1]
      exact ⟨Ne.symm nk.1, Ne.symm nk.2⟩
    · unfold Top; rw [fu x e, (f _).1, (f _).2.1]
  refine ⟨W', h.ft.link hc.2, fun x hx => h.lt x ((th x).1 hx), h.n0, h.nn, fun x hx => ?_, h.p0, fun x hx' => ?_⟩
  · have hx2 : ¬ Th T x := fun q => hx ((th x).2 q)
    rw [nx x (fun e => hx2 (by rw [e]; exact hp)) (fun e => hx2 (by rw [e]; exact hc))]; exact h.out x hx2
  have hx := (th x).1 hx'
  have L := h.loc x hx
  have x1 := hx.1
  have kk : ∀ j, j ≠ 0 → j = (S x).l ∨ j = (S x).r → Ki S1 (T.link (c - 1) (p - 1)) G x j := fun j j0 hj => by
    have K := h.up_kid hx hj j0
    have jc : j ≠ c := fun e => by
      obtain ⟨k1, k2⟩ := h.top_nk hx hT (by omega)
      rcases hj with q | q
      · exact k1 (by rw [← e]; exact q)
      · exact k2 (by rw [← e]; exact q)
    exact ⟨(th j).2 K.th, by rw [fu j jc]; exact K.up, by rw [(f x).2.2.1]; exact K.b, by rw [(f x).2.2.2.2]; exact K.a⟩
  have hnx : G.pn x ≠ 0 → Th (T.link (c - 1) (p - 1)) (G.pn x) ∧ ps (T.link (c - 1) (p - 1)) (G.pn x) = x := fun p0 => by
    obtain ⟨k1, k2⟩ := L.nx p0
    refine ⟨(th _).2 k1, ?_⟩
    rw [psl _ k1.1 (fun e => by rw [e, psc] at k2; omega)]; exact k2
  have smk : ∀ j, j = (S x).l ∨ j = (S x).r → (S1 j).sm = (S j).sm ∧ (S1 j).hu = (S j).hu := fun j hj => by
    by_cases j0 : j = 0
    · subst j0; rw [nx 0 (by omega) (by omega)]; exact ⟨rfl, rfl⟩
    · have jp : j ≠ p := fun e => by
        obtain ⟨k1, k2⟩ := h.top_nk hx E.top (by omega)
        rcases hj with q | q
        · exact k1 (by rw [← e]; exact q)
        · exact k2 (by rw [← e]; exact q)
      rw [at1, if_neg jp]; split
      · rename_i e; subst e; exact ⟨rfl, rfl⟩
      · exact ⟨rfl, rfl⟩
  have tpx : Top S1 x → Tp S1 (T.link (c - 1) (p - 1)) G x := fun hT1 => by
    have hT' := (tp x hx).1 hT1
    have P := L.tp hT'
    by_cases e : x = c
    · subst e
      refine ⟨P.b, P.a, by rw [fuc, fc]; exact pslc, P.pn, by rw [fuc, E.pn0, fc]; omega⟩
    · have fe : G.fi x ≠ c := fun q => e (h.uniq hx hc hT' hT (q.trans fc.symm))
      exact ⟨P.b, P.a, by rw [fu x e, psl _ (h.fi_th hx).1 fe]; exact P.fi, P.pn, by rw [fu x e]; exact P.nv⟩
  by_cases e : x = p
  · subst e
    have tw := h.top_whole hc hT
    rw [fc] at tw
    have hw1 : (wh (S c)).c = Dc T c ∧ (wh (S c)).w = Dw T c := tw
    have dp' := D x
    rw [if_pos (U_self W hx), if_pos (U_self W hx)] at dp'
    have smx : (S1 x).sm = jn (jn (S (S x).l).sm (one (S x).wt)) (S (S x).r).sm := by rw [at1, if_pos rfl]
    refine ⟨fun e => by rw [(f x).1] at e ⊢; exact kk _ e (.inl rfl), fun e => by rw [(f x).2.1] at e ⊢; exact kk _ e (.inr rfl), by rw [(f x).1, (f x).2.1]; exact L.lr, by rw [(f x).1, (f x).2.1]; exact L.en, hnx, by rw [(f x).2.2.2.1]; exact L.wt, ?_, ?_, ?_, ?_, ?_, by rw [(f x).1, (f x).2.1, (f x).2.2.1, (f x).2.2.2.2]; exact L.id, tpx⟩
    · rw [(f x).1, (f x).2.1, (f x).2.2.2.1, (f x).2.2.2.2, (smk _ (.inl rfl)).1, (smk _ (.inr rfl)).1, E.idle.2, lf_zero, lf_zero]; exact smx
    · rw [smx]; exact Fitm.mid (h.fit0 _) (h.fit0 _) (h.wt_bd _)
    · rw [(f x).1, (f x).2.1, (smk _ (.inl rfl)).2, (smk _ (.inr rfl)).2, at1, if_pos rfl]
    · rw [at1, if_pos rfl, E.pn0]
      show (S x).hg.c + (wh (S c)).c = _
      rw [hw1.1, L.hgc, E.pn0, dp'.1, (D 0).1, if_neg (zero_U W)]; omega
    · rw [at1, if_pos rfl, E.pn0]
      show (S x).hg.w + (wh (S c)).w = _ - T.wt (x - 1) - _
      rw [hw1.2, L.hgw, E.pn0, dp'.2, (D 0).2, if_neg (zero_U W)]; omega
  · have dif : (x ∈ U T p ↔ G.pn x ∈ U T p) := by
      constructor
      · intro hm
        rcases E.below hm with ⟨q, _⟩ | ⟨q, _, _⟩
        · exact absurd q e
        · exact q
      · intro hm
        have p0 : G.pn x ≠ 0 := fun q => by rw [q] at hm; exact zero_U W hm
        exact (E.pn_iff hx p0).2 hm
    have e1 := D x
    have e2 := D (G.pn x)
    by_cases ec : x = c
    · -- the kid itself
      subst ec
      refine ⟨fun e => by rw [(f x).1] at e ⊢; exact kk _ e (.inl rfl), fun e => by rw [(f x).2.1] at e ⊢; exact kk _ e (.inr rfl), by rw [(f x).1, (f x).2.1]; exact L.lr, by rw [(f x).1, (f x).2.1]; exact L.en, hnx, by rw [(f x).2.2.2.1]; exact L.wt, ?_, ?_, ?_, ?_, ?_, by rw [(f x).1, (f x).2.1, (f x).2.2.1, (f x).2.2.2.2]; exact L.id, tpx⟩
      · rw [(f x).1, (f x).2.1, (f x).2.2.2.1, (f x).2.2.2.2, (smk _ (.inl rfl)).1, (smk _ (.inr rfl)).1, at1, if_neg e, if_pos rfl]; exact L.sm
      · rw [at1, if_neg e, if_pos rfl]; exact L.fit
      · rw [(f x).1, (f x).2.1, (smk _ (.inl rfl)).2, (smk _ (.inr rfl)).2, at1, if_neg e, if_pos rfl]; exact L.hu
      · rw [at1, if_neg e, if_pos rfl, e1.1, e2.1, if_neg hne, if_neg (fun q => hne (dif.2 q))]
        have := L.hgc
        show (S x).hg.c = _
        omega
      · rw [at1, if_neg e, if_pos rfl, e1.2, e2.2, if_neg hne, if_neg (fun q => hne (dif.2 q))]
        have := L.hgw
        show (S x).hg.w = _ - T.wt (x - 1) - _
        omega
    · refine Loc.move h hx (nx x e ec) smk kk L.en hnx L.wt ?_ ?_ tpx
      · rw [e1.1, e2.1]
        by_cases hm : x ∈ U T p
        · rw [if_pos hm, if_pos (dif.1 hm)]; omega
        · rw [if_neg hm, if_neg (fun q => hm (dif.2 q))]; omega
      · rw [e1.2, e2.2]
        show _ - T.wt (x - 1) - _ = _
        by_cases hm : x ∈ U T p
        · rw [if_pos hm, if_pos (dif.1 hm)]; omega
        · rw [if_neg hm, if_neg (fun q => hm (dif.2 q))]; omega

theorem detachS_at (S : Ss) (hl : (S t).l ≠ t) (r0 : (S t).r = 0) (t0 : t ≠ 0) (x : Nat) :
    detachS S t x = if x = t then { S t with l := 0, r := 0, sm := jn (jn (detach1 S t 0).sm (one (S t).wt)) (detach1 S t 0).sm, hu := ⟨(detach1 S t 0).hu.c + (S t).hg.c + (detach1 S t 0).hu.c, (detach1 S t 0).hu.w + (S t).hg.w + (detach1 S t 0).hu.w⟩ } else if x = (S t).l then { S x with up := 0 } else S x := by
  have at' : detach1 S t t = S t := by unfold detach1; exact upd_ne _ _ (Ne.symm hl)
  unfold detachS
  rw [at', r0, holdS_at _ (Ne.symm t0) (Ne.symm t0)]
  by_cases e : x = t
  · subst e; rw [if_pos rfl, if_pos rfl, at']
  · rw [if_neg e, if_neg e, if_neg (fun k => k.1 (by omega))]
    unfold detach1
    by_cases e2 : x = (S t).l
    · subst e2; rw [upd_same, if_pos rfl]
    · rw [upd_ne _ _ e2, if_neg e2]
theorem Pth.detach (E : Pth S n T G t) (l0 : (S t).l ≠ 0) : Lc (detachS S t) n (T.cut (t - 1)) { G with fi := updF G.fi t t, pn := updF G.pn (ps T t) 0 } := by
  have h := E.lc
  have W := h.wf
  have ht := E.th
  have t1 := ht.1
  have tt : t - 1 + 1 = t := Nat.sub_add_cancel t1
  have L := h.loc t ht
  have P := L.tp E.top
  have en := L.en
  rw [P.b] at en
  have K := L.kl l0
  have hl : (S t).l ≠ t := h.kid_ne ht (.inl rfl)
  obtain ⟨f1, f2⟩ := en.l1 l0
  have f1 : G.fi t = G.fi (S t).l := f1
  have f2 : G.pn (G.la (S t).l) = t := f2
  have lath := h.la_th K.th
  have psq : ps T t = G.la (S t).l := (h.ps_pn lath f2 (by omega)).2
  have q0 : ps T t ≠ 0 := by rw [psq]; have := lath.1; omega
  have qth := ps_th W ht q0
  have qt : ps T t ≠ t := fun e => by have := dp_th W ht; rw [e] at this; omega
  have pnq : G.pn (ps T t) = t := by rw [psq]; exact f2
  have lt0 := K.th.1
  have at1 := detachS_at S hl E.r0 (by omega)
  have d0 : detach1 S t 0 = S 0 := by unfold detach1; exact upd_ne _ _ (by omega)
  rw [d0, h.s0] at at1
  generalize detachS S t = S1 at at1 ⊢
  have nx : ∀ x, x ≠ t → x ≠ (S t).l → S1 x = S x := fun x h1 h2 => by rw [at1, if_neg h1, if_neg h2]
  have S1t : S1 t = _ := (at1 t).trans (if_pos rfl)
  have S1l : S1 (S t).l = { S (S t).l with up := 0 } := by rw [at1, if_neg hl, if_pos rfl]
  have th : ∀ x, Th (T.cut (t - 1)) x ↔ Th T x := fun x => th_cut ht.2
  have psx : ∀ x, 1 ≤ x → x ≠ t → ps (T.cut (t - 1)) x = ps T x := fun x h1 h2 => ps_cut (by rw [tt]; exact h2) h1
  have pst : ps (T.cut (t - 1)) t = 0 := by have := ps_cut_c (T := T) (c := t - 1); rwa [tt] at this
  have D := fun x => D_cut (x := x) W ht.2
  rw [tt] at D
  have pnx : ∀ x, x ≠ ps T t → updF G.pn (ps T t) 0 x = G.pn x := fun x hx => updF_other _ _ hx
  have pnq' : updF G.pn (ps T t) 0 (ps T t) = 0 := updF_same _ _ _
  have fix : ∀ x, x ≠ t → updF G.fi t t x = G.fi x := fun x hx => updF_other _ _ hx
  have fit : updF G.fi t t t = t := updF_same _ _ _
  have tU : t ∉ U T (ps T t) := ps_notin W ht
  have W' := W.cut ht.2
  refine ⟨W', h.ft.cut ht.2, fun x hx => h.lt x ((th x).1 hx), h.n0, h.nn, fun x hx => ?_, by show updF G.pn (ps T t) 0 0 = 0; rw [pnx 0 (Ne.symm q0)]; exact h.p0, fun x hx' => ?_⟩
  · have hx2 : ¬ Th T x := fun q => hx ((th x).2 q)
    rw [nx x (fun e => hx2 (by rw [e]; exact ht)) (fun e => hx2 (by rw [e]; exact K.th))]; exact h.out x hx2
  have hx := (th x).1 hx'
  have Lx := h.loc x hx
  have x1 := hx.1
  by_cases e : x = t
  · subst e
    have D0 := D 0
    rw [if_neg (zero_U W), if_neg (zero_U W)] at D0
    have Dt := D x
    rw [if_neg tU, if_neg tU] at Dt
    have pnt : updF G.pn (ps T x) 0 x = 0 := by rw [pnx x (Ne.symm qt)]; exact E.pn0
    refine ⟨fun e => absurd (by rw [S1t]) e, fun e => absurd (by rw [S1t]) e, fun _ => by rw [S1t], ?_, ?_, by rw [S1t]; exact L.wt, ?_, ?_, ?_, ?_, ?_, fun _ _ => by rw [S1t]; exact E.idle, fun hT1 => ?_⟩
    · show En _ (G.b x) _ _ _
      rw [P.b, S1t]
      refine ⟨fun _ => ?_, fun e => absurd rfl e, fun _ => ?_, fun e => absurd rfl e⟩
      · exact fit
      · exact E.la
    · show updF G.pn (ps T x) 0 x ≠ 0 → _
      rw [pnt]; exact fun e => absurd rfl e
    · rw [S1t]
      dsimp only
      rw [nx 0 (by omega) (by omega), h.s0]
      show jn (jn zero _) zero = jn (jn (lf zero _) _) (lf zero _)
      rw [lf_nil]
    · rw [S1t]
      show Fitm (jn (jn zero (one (S x).wt)) zero)
      rw [jn_nil]; exact Fitm.one (h.wt_bd x)
    · rw [S1t]
      dsimp only
      rw [nx 0 (by omega) (by omega), h.s0]
    · show (S1 x).hg.c = _ - 1 - Dc _ (updF G.pn (ps T x) 0 x)
      rw [S1t, pnt, D0.1, Dt.1]
      have := L.hgc
      rw [E.pn0] at this
      dsimp only; omega
    · show (S1 x).hg.w = _ - T.wt (x - 1) - Dw _ (updF G.pn (ps T x) 0 x)
      rw [S1t, pnt, D0.2, Dt.2]
      have := L.hgw
      rw [E.pn0] at this
      dsimp only; omega
    · refine ⟨P.b, P.a, ?_, ?_, ?_⟩
      · show ps _ (updF G.fi x x x) = _
        rw [fit, pst, S1t]; exact E.up0.symm
      · show updF G.pn (ps T x) 0 (G.la x) = 0
        rw [E.la, pnt]
      · show updF G.pn (ps T x) 0 (S1 x).up ≠ updF G.fi x x x
        rw [S1t, fit]
        dsimp only
        rw [E.up0, pnx 0 (Ne.symm q0), h.p0]; omega
  · have nkt : ∀ j, j = (S x).l ∨ j = (S x).r → j ≠ 0 → j ≠ t := fun j hj j0 e2 => by
      obtain ⟨k1, k2⟩ := h.top_nk hx E.top (by omega)
      rcases hj with q | q
      · exact k1 (by rw [← e2]; exact q)
      · exact k2 (by rw [← e2]; exact q)
    have nkl : ∀ j, j = (S x).l ∨ j = (S x).r → j ≠ 0 → j ≠ (S t).l := fun j hj j0 e2 => by
      have := (h.up_kid hx hj j0).up
      rw [e2, K.up] at this; exact e this.symm
    have kj : ∀ j, j = (S x).l ∨ j = (S x).r → S1 j = S j := fun j hj => by
      by_cases j0 : j = 0
      · subst j0; exact nx 0 (by omega) (by omega)
      · exact nx j (nkt j hj j0) (nkl j hj j0)
    have fx : (S1 x).l = (S x).l ∧ (S1 x).r = (S x).r ∧ (S1 x).tn = (S x).tn ∧ (S1 x).wt = (S x).wt ∧ (S1 x).wa = (S x).wa ∧ (S1 x).sm = (S x).sm ∧ (S1 x).hg = (S x).hg ∧ (S1 x).hu = (S x).hu := by
      by_cases e2 : x = (S t).l
      · subst e2; rw [S1l]; simp
      · rw [nx x e e2]; simp
    have kk : ∀ j, j ≠ 0 → j = (S x).l ∨ j = (S x).r → Ki S1 (T.cut (t - 1)) { G with fi := updF G.fi t t, pn := updF G.pn (ps T t) 0 } x j := fun j j0 hj => by
      have Kj := h.up_kid hx hj j0
      exact ⟨(th j).2 Kj.th, by rw [kj j hj]; exact Kj.up, by rw [fx.2.2.1]; exact Kj.b, by rw [fx.2.2.2.2.1]; exact Kj.a⟩
    have hen : En { G with fi := updF G.fi t t, pn := updF G.pn (ps T t) 0 } (G.b x) (S x).l (S x).r x := by
      refine Lx.en.agree ⟨fix x e, rfl⟩ (fun j j0 hj => ⟨fix j (nkt j hj j0), rfl⟩) (fun j j0 hj e2 => ?_) (fun j j0 hj e2 => ?_)
      · show updF G.pn (ps T t) 0 (G.la j) = x
        rw [pnx _ (fun e3 => e (by rw [← e2, e3]; exact pnq))]; exact e2
      · show updF G.pn (ps T t) 0 x = G.fi j
        by_cases e3 : x = ps T t
        · rw [e3, pnq] at e2
          have Kj := h.up_kid hx hj j0
          exact absurd e2.symm (h.ends_nt Kj.th E.top (Ne.symm (nkt j hj j0))).2
        · rw [pnx x e3]; exact e2
    have hnx : updF G.pn (ps T t) 0 x ≠ 0 → Th (T.cut (t - 1)) (updF G.pn (ps T t) 0 x) ∧ ps (T.cut (t - 1)) (updF G.pn (ps T t) 0 x) = x := by
      by_cases e3 : x = ps T t
      · rw [e3, pnq']; exact fun k => absurd rfl k
      · rw [pnx x e3]
        intro p0
        obtain ⟨k1, k2⟩ := Lx.nx p0
        exact ⟨(th _).2 k1, by rw [psx _ k1.1 (fun e4 => e3 (by rw [← k2, e4]))]; exact k2⟩
    have hD : Dc (T.cut (t - 1)) x - Dc (T.cut (t - 1)) (updF G.pn (ps T t) 0 x) = Dc T x - Dc T (G.pn x) ∧ Dw (T.cut (t - 1)) x - Dw (T.cut (t - 1)) (updF G.pn (ps T t) 0 x) = Dw T x - Dw T (G.pn x) := by
      have D0 := D 0
      rw [if_neg (zero_U W), if_neg (zero_U W), Dc_zero W, Dw_zero W] at D0
      by_cases e3 : x = ps T t
      · rw [e3, pnq', D0.1, D0.2, (D _).1, (D _).2, if_pos (U_self W qth), if_pos (U_self W qth), pnq]; omega
      · rw [pnx x e3, (D x).1, (D x).2, (D (G.pn x)).1, (D (G.pn x)).2]
        by_cases hm : x ∈ U T (ps T t)
        · have hm' : x ∈ U T t := U_trans W (U_ps W ht q0) hm
          have : G.pn x ∈ U T (ps T t) := by
            rcases E.below hm' with ⟨k, _⟩ | ⟨k1, k2, k3⟩
            · exact absurd k e
            · rcases (U_up W ht).1 k1 with k4 | k4
              · rw [k4] at k2; exact absurd k2.symm e3
              · exact k4
          rw [if_pos hm, if_pos hm, if_pos this, if_pos this]; omega
        · have : G.pn x ∉ U T (ps T t) := fun k => by
            have p0 : G.pn x ≠ 0 := fun k2 => by rw [k2] at k; exact zero_U W k
            obtain ⟨k1, k2⟩ := Lx.nx p0
            exact hm (by rw [← k2]; exact U_trans W k (U_ps W k1 (by omega)))
          rw [if_neg hm, if_neg hm, if_neg this, if_neg this]; omega
    have htp : Top S1 x → Tp S1 (T.cut (t - 1)) { G with fi := updF G.fi t t, pn := updF G.pn (ps T t) 0 } x := fun hT1 => by
      by_cases e2 : x = (S t).l
      · subst e2
        have up0 : (S1 (S t).l).up = 0 := by rw [S1l]
        have fth := h.fi_th K.th
        have ft : G.fi (S t).l ≠ t := fun k => by
          have := E.root
          rw [f1, k] at this; exact q0 this
        refine ⟨by show G.b _ = false; rw [K.b, P.b, E.idle.1]; rfl, by show G.a _ = 0; rw [K.a, P.a, E.idle.2]; rfl, ?_, ?_, ?_⟩
        · show ps _ (updF G.fi t t (S t).l) = _
          rw [fix _ hl, psx _ fth.1 ft, up0, ← f1]; exact E.root
        · show updF G.pn (ps T t) 0 (G.la (S t).l) = 0
          rw [← psq, pnq']
        · show updF G.pn (ps T t) 0 (S1 (S t).l).up ≠ updF G.fi t t (S t).l
          rw [up0, pnx 0 (Ne.symm q0), h.p0, fix _ hl]
          have := fth.1; omega
      · have hT' : Top S x := by
          unfold Top at hT1 ⊢
          rw [nx x e e2] at hT1
          by_cases u1 : (S x).up = t
          · rw [u1]
            refine ⟨fun k => e2 k.symm, fun k => ?_⟩
            rw [E.r0] at k; omega
          · by_cases u2 : (S x).up = (S t).l
            · rw [u2, S1l] at hT1
              rw [u2]; exact hT1
            · rw [nx _ u1 u2] at hT1; exact hT1
        have Px := Lx.tp hT'
        have fth := h.fi_th hx
        have ft : G.fi x ≠ t := (h.ends_nt hx E.top (Ne.symm e)).2
        refine ⟨Px.b, Px.a, ?_, ?_, ?_⟩
        · show ps _ (updF G.fi t t x) = _
          rw [fix x e, psx _ fth.1 ft, nx x e e2]; exact Px.fi
        · show updF G.pn (ps T t) 0 (G.la x) = 0
          by_cases e3 : G.la x = ps T t
          · rw [e3, pnq']
          · rw [pnx _ e3]; exact Px.pn
        · show updF G.pn (ps T t) 0 (S1 x).up ≠ updF G.fi t t x
          rw [nx x e e2, fix x e]
          by_cases e3 : (S x).up = ps T t
          · rw [e3, pnq']; have := fth.1; omega
          · rw [pnx _ e3]; exact Px.nv
    refine ⟨fun e => by rw [fx.1] at e ⊢; exact kk _ e (.inl rfl), fun e => by rw [fx.2.1] at e ⊢; exact kk _ e (.inr rfl), by rw [fx.1, fx.2.1]; exact Lx.lr, by rw [fx.1, fx.2.1]; exact hen, hnx, by rw [fx.2.2.2.1]; exact Lx.wt, ?_, by rw [fx.2.2.2.2.2.1]; exact Lx.fit, ?_, ?_, ?_, by rw [fx.1, fx.2.1, fx.2.2.1, fx.2.2.2.2.1]; exact Lx.id, htp⟩
    · rw [fx.1, fx.2.1, fx.2.2.2.1, fx.2.2.2.2.1, fx.2.2.2.2.2.1, kj _ (.inl rfl), kj _ (.inr rfl)]; exact Lx.sm
    · rw [fx.1, fx.2.1, fx.2.2.2.2.2.2.1, fx.2.2.2.2.2.2.2, kj _ (.inl rfl), kj _ (.inr rfl)]; exact Lx.hu
    · have := hD.1
      rw [fx.2.2.2.2.2.2.1, Lx.hgc]
      show _ = _ - 1 - Dc _ (updF G.pn (ps T t) 0 x)
      omega
    · have := hD.2
      rw [fx.2.2.2.2.2.2.1, Lx.hgw]
      show _ = _ - T.wt (x - 1) - Dw _ (updF G.pn (ps T t) 0 x)
      omega
end
end Go.Proofs.Ytjnkgakajenoaaa
/- Plain mathematics for link: nodes come and go; what the calls answer. No Go in sight. -/

namespace Go.Proofs.Ytjnkgakajenoaaa
set_option linter.unusedVariables false
set_option linter.unusedSimpArgs false
section
variable {S S1 : Ss} {n : Nat} {T T1 : Tr} {G G1 : Gh} {t u x y z k c p q met v m r : Nat} {w d : Int} {l : List Nat}
def addG (G : Gh) (t : Nat) : Gh := ⟨updF G.b t false, updF G.a t 0, updF G.fi t t, updF G.la t t, updF G.pn t 0⟩
theorem Lc.grow (h : Lc S n T G) (hm : n ≤ m) (hT : m ≤ T.n + 1) : Lc S m T G :=
  ⟨h.wf, h.ft, fun t ht => Nat.lt_of_lt_of_le (h.lt t ht) hm, Nat.le_trans h.n0 hm, hT, h.out, h.p0, h.loc⟩
theorem Lc.add (h : Lc S n T G) (hv : T.par v = -2) (hn : v < T.n) (hw : -1099511627776 ≤ w ∧ w ≤ 1099511627776) (hlt : v + 1 < n) :
    Lc (upd S (v + 1) (newSl w)) n (T.add v w) (addG G (v + 1)) := by
  have W := h.wf
  have nt : ¬ Th T (v + 1) := fun q => q.2 (by simpa using hv)
  have th := fun x => th_add (w := w) (x := x) hv
  have nx : ∀ x, x ≠ v + 1 → upd S (v + 1) (newSl w) x = S x := fun x hx => upd_ne _ _ hx
  have at' : upd S (v + 1) (newSl w) (v + 1) = newSl w := upd_same _ _ _
  have gx : ∀ x, x ≠ v + 1 → (addG G (v + 1)).b x = G.b x ∧ (addG G (v + 1)).a x = G.a x ∧ (addG G (v + 1)).fi x = G.fi x ∧ (addG G (v + 1)).la x = G.la x ∧ (addG G (v + 1)).pn x = G.pn x := fun x hx =>
    ⟨updF_other _ _ hx, updF_other _ _ hx, updF_other _ _ hx, updF_other _ _ hx, updF_other _ _ hx⟩
  have gt : (addG G (v + 1)).b (v + 1) = false ∧ (addG G (v + 1)).a (v + 1) = 0 ∧ (addG G (v + 1)).fi (v + 1) = v + 1 ∧ (addG G (v + 1)).la (v + 1) = v + 1 ∧ (addG G (v + 1)).pn (v + 1) = 0 :=
    ⟨updF_same _ _ _, updF_same _ _ _, updF_same _ _ _, updF_same _ _ _, updF_same _ _ _⟩
  have nz : ∀ y, Th T y → y ≠ v + 1 := fun y hy e => nt (by rw [← e]; exact hy)
  refine ⟨W.add hv hn, h.ft.add hw, fun x hx => ?_, h.n0, h.nn, fun x hx => ?_, by rw [(gx 0 (by omega)).2.2.2.2]; exact h.p0, fun x hx' => ?_⟩
  · rcases (th x).1 hx with rfl | q
    · exact hlt
    · exact h.lt x q
  · have h1 : x ≠ v + 1 := fun e => hx ((th x).2 (.inl e))
    rw [nx x h1]; exact h.out x (fun q => hx ((th x).2 (.inr q)))
  by_cases e : x = v + 1
  · subst e
    have D := D_add_new (w := w) W hv hn
    have z0 := nx 0 (by omega)
    have zl : (newSl w).l = 0 := rfl
    have zr : (newSl w).r = 0 := rfl
    refine ⟨fun e => absurd (by rw [at']; rfl) e, fun e => absurd (by rw [at']; rfl) e, fun _ => by rw [at']; rfl, ?_, fun e => absurd gt.2.2.2.2 e, ?_, ?_, ?_, ?_, ?_, ?_, fun _ _ => by rw [at']; exact ⟨rfl, rfl⟩, fun hT => ?_⟩
    · rw [gt.1, at', zl, zr]
      exact ⟨fun _ => gt.2.2.1, fun e => absurd rfl e, fun _ => gt.2.2.2.1, fun e => absurd rfl e⟩
    · rw [at', gt.2.1]
      show w + 0 = updF T.wt v w (v + 1 - 1)
      rw [Nat.add_sub_cancel, updF_same]; omega
    · rw [at', zl, zr, z0, h.s0]
      show one w = jn (jn (lf zero _) (one w)) (lf zero _)
      rw [lf_nil, jn_nil]
    · rw [at']; exact Fitm.one hw
    · rw [at', zl, zr, z0, h.s0]; rfl
    · rw [at', gt.2.2.2.2, D.1, Dc_zero (W.add hv hn)]; rfl
    · rw [at', gt.2.2.2.2, D.2, Dw_zero (W.add hv hn)]
      show (0 : Int) = w - updF T.wt v w (v + 1 - 1) - 0
      rw [Nat.add_sub_cancel, updF_same]; omega
    · refine ⟨gt.1, gt.2.1, ?_, by rw [gt.2.2.2.1]; exact gt.2.2.2.2, ?_⟩
      · rw [gt.2.2.1, at']
        show (updF T.par v (-1) (v + 1 - 1) + 1).toNat = 0
        rw [Nat.add_sub_cancel, updF_same]; rfl
      · rw [at', gt.2.2.1]
        show (addG G (v + 1)).pn 0 ≠ _
        rw [(gx 0 (by omega)).2.2.2.2, h.p0]; omega
  · have hx : Th T x := ((th x).1 hx').resolve_left e
    have L := h.loc x hx
    have ka : ∀ j, j = (S x).l ∨ j = (S x).r → j ≠ v + 1 := fun j hj e2 => by
      have := (h.up_kid hx hj (by omega)).th
      rw [e2] at this; exact nt this
    refine Loc.move h hx (nx x e) (fun j hj => by rw [nx j (ka j hj)]; exact ⟨rfl, rfl⟩) (fun j j0 hj => ?_) ?_ ?_ ?_ ?_ ?_ (fun hT => ?_)
    · have K := h.up_kid hx hj j0
      have kn := ka j hj
      exact ⟨(th j).2 (.inr K.th), by rw [nx j kn]; exact K.up, by rw [(gx j kn).1, (gx x e).1, nx x e]; exact K.b, by rw [(gx j kn).2.1, (gx x e).2.1, nx x e]; exact K.a⟩
    · rw [(gx x e).1]
      refine L.en.agree ⟨(gx x e).2.2.1, (gx x e).2.2.2.1⟩ (fun j j0 hj => ⟨(gx j (ka j hj)).2.2.1, (gx j (ka j hj)).2.2.2.1⟩) (fun j j0 hj e2 => ?_) (fun j j0 hj e2 => ?_)
      · rw [(gx _ (nz _ (h.la_th (h.up_kid hx hj j0).th))).2.2.2.2]; exact e2
      · rw [(gx x e).2.2.2.2]; exact e2
    · rw [(gx x e).2.2.2.2]
      intro p0
      obtain ⟨k1, k2⟩ := L.nx p0
      exact ⟨(th _).2 (.inr k1), by rw [ps_add (nz _ k1) k1.1]; exact k2⟩
    · rw [(gx x e).2.1]
      show _ = updF T.wt v w (x - 1)
      rw [updF_other _ _ (by have := hx.1; omega)]; exact L.wt
    · have hp : G.pn x ≠ v + 1 := fun q => by
        have := (L.nx (by omega)).1
        exact nz _ this q
      rw [(gx x e).2.2.2.2, (D_add W hv hn e).1, (D_add W hv hn hp).1]
    · have hp : G.pn x ≠ v + 1 := fun q => by
        have := (L.nx (by omega)).1
        exact nz _ this q
      rw [(gx x e).2.2.2.2, (D_add W hv hn e).2, (D_add W hv hn hp).2]
      show _ - updF T.wt v w (x - 1) - _ = _
      rw [updF_other _ _ (by have := hx.1; omega)]
    · have hup : (S x).up ≠ v + 1 := fun q => by
        by_cases hT2 : Top S x
        · have P := L.tp hT2
          have fth := h.fi_th hx
          rw [← P.fi] at q
          exact nz _ (ps_th W fth (by omega)) q
        · exact nz _ (h.nt_up hx hT2).1 q
      have hT' : Top S x := by unfold Top at hT ⊢; rw [nx x e, nx _ hup] at hT; exact hT
      have P := L.tp hT'
      have fth := h.fi_th hx
      refine ⟨by rw [(gx x e).1]; exact P.b, by rw [(gx x e).2.1]; exact P.a, ?_, ?_, ?_⟩
      · rw [(gx x e).2.2.1, nx x e, ps_add (nz _ fth) fth.1]; exact P.fi
      · rw [(gx x e).2.2.2.1, (gx _ (nz _ (h.la_th hx))).2.2.2.2]; exact P.pn
      · rw [(gx x e).2.2.1, nx x e, (gx _ hup).2.2.2.2]; exact P.nv

theorem Lc.drop (h : Lc S n T G) (ht : Th T t) (hr : T.par (t - 1) = -1) (hk : ∀ y, T.par y ≠ ((t - 1 : Nat) : Int)) (hT : Top S t) (l0 : (S t).l = 0) (r0 : (S t).r = 0) : Lc (upd S t Sl.zero) n (T.drop (t - 1)) G := by
  have W := h.wf
  have t1 := ht.1
  have tt : t - 1 + 1 = t := Nat.sub_add_cancel t1
  have th : ∀ x, Th (T.drop (t - 1)) x ↔ x ≠ t ∧ Th T x := fun x => by have := th_drop (T := T) (v := t - 1) (x := x); rwa [tt] at this
  have nx : ∀ x, x ≠ t → upd S t Sl.zero x = S x := fun x hx => upd_ne _ _ hx
  -- nobody has t for a parent
  have nop : ∀ y, Th T y → ps T y ≠ t := fun y hy e => by
    have := ps_par hy W
    rw [e] at this
    exact hk (y - 1) (by omega)
  have psd : ∀ x, 1 ≤ x → x ≠ t → ps (T.drop (t - 1)) x = ps T x := fun x h1 h2 => ps_drop (by rw [tt]; exact h2) h1
  have D := fun x (hx : x ≠ t) => D_drop (v := t - 1) (x := x) W hk (by rw [tt]; exact hx) hr
  refine ⟨W.drop hk, h.ft.drop, fun x hx => h.lt x ((th x).1 hx).2, h.n0, h.nn, fun x hx => ?_, h.p0, fun x hx' => ?_⟩
  · by_cases e : x = t
    · subst e; exact upd_same _ _ _
    · rw [nx x e]; exact h.out x fun q => hx ((th x).2 ⟨e, q⟩)
  obtain ⟨e, hx⟩ := (th x).1 hx'
  have L := h.loc x hx
  have pst : ps T t = 0 := by unfold ps; rw [hr]; rfl
  have hp : G.pn x ≠ t := fun q => by
    have := (L.nx (by omega)).2
    rw [q, pst] at this; have := hx.1; omega
  have ka : ∀ j, j = (S x).l ∨ j = (S x).r → j ≠ t := fun j hj e2 => by
    obtain ⟨k1, k2⟩ := h.top_nk hx hT (by omega)
    rcases hj with q | q
    · exact k1 (by rw [← e2]; exact q)
    · exact k2 (by rw [← e2]; exact q)
  refine Loc.move h hx (nx x e) (fun j hj => by rw [nx j (ka j hj)]; exact ⟨rfl, rfl⟩) (fun j j0 hj => ?_) L.en (fun p0 => ?_) ?_ ?_ ?_ (fun hT1 => ?_)
  · have K := h.up_kid hx hj j0
    exact ⟨(th j).2 ⟨ka j hj, K.th⟩, by rw [nx j (ka j hj)]; exact K.up, by rw [nx x e]; exact K.b, by rw [nx x e]; exact K.a⟩
  · obtain ⟨k1, k2⟩ := L.nx p0
    exact ⟨(th _).2 ⟨hp, k1⟩, by rw [psd _ k1.1 hp]; exact k2⟩
  · show _ = updF T.wt (t - 1) 0 (x - 1)
    rw [updF_other _ _ (by have := hx.1; omega)]; exact L.wt
  · rw [(D x e).1, (D _ hp).1]
  · rw [(D x e).2, (D _ hp).2]
    show _ - updF T.wt (t - 1) 0 (x - 1) - _ = _
    rw [updF_other _ _ (by have := hx.1; omega)]
  · have hup : (S x).up ≠ t := fun q => by
      by_cases hT2 : Top S x
      · have P := L.tp hT2
        exact nop _ (h.fi_th hx) (by rw [P.fi]; exact q)
      · have := (h.nt_up hx hT2).2.1
        rw [q, l0, r0] at this
        have := hx.1; omega
    have hT' : Top S x := by unfold Top at hT1 ⊢; rw [nx x e, nx _ hup] at hT1; exact hT1
    have P := L.tp hT'
    have fth := h.fi_th hx
    have ft : G.fi x ≠ t := (h.ends_nt hx hT (Ne.symm e)).2
    exact ⟨P.b, P.a, by rw [nx x e, psd _ fth.1 ft]; exact P.fi, P.pn, by rw [nx x e]; exact P.nv⟩
def newG : Gh := ⟨fun _ => false, fun _ => 0, fun x => x, fun x => x, fun _ => 0⟩
theorem Lc.new {n : Nat} (h : n ≤ 1048576) : Lc (fun _ => Sl.zero) 1 (Tr.new n) newG :=
  ⟨Tr.Wf.new n, Tr.Fit.new h, fun t ht => absurd rfl ht.2, Nat.le_refl _, by show 1 ≤ n + 1; omega, fun _ _ => rfl, rfl, fun t ht => absurd rfl ht.2⟩

/-! What the calls answer. -/
theorem sub_sums (T : Tr) (v : Nat) : (ofL ((T.sub v).map T.wt)).c = Dc T (v + 1) ∧ (ofL ((T.sub v).map T.wt)).s = Dw T (v + 1) := by
  rw [ofL_eq]
  unfold Tr.sub Dc Dw
  have key : ∀ n, (ofR (((List.range n).filter (fun u => decide (v ∈ T.up u))).map T.wt)).c = sumF n (fun u => if v + 1 ∈ U T (u + 1) then 1 else 0) ∧ (ofR (((List.range n).filter (fun u => decide (v ∈ T.up u))).map T.wt)).s = sumF n (fun u => if v + 1 ∈ U T (u + 1) then T.wt u else 0) := fun n => by
    induction n with
    | zero => exact ⟨rfl, rfl⟩
    | succ n ih =>
      rw [List.range_succ, List.filter_append, List.map_append, ofR_append]
      simp only [sumF]
      rw [← ih.1, ← ih.2]
      by_cases e : v ∈ T.up n
      · have e' : v + 1 ∈ U T (n + 1) := mem_U1.2 e
        simp only [List.filter_cons, e, decide_true, if_true, List.filter_nil, List.map_cons, List.map_nil, e']
        rw [jn_c, jn_s (ok_ofR _) (ok_ofR _)]
        show _ + (jn (one (T.wt n)) zero).c = _ ∧ _ + (jn (one (T.wt n)) zero).s = _
        rw [jn_zero_right (ok_one _)]; exact ⟨rfl, rfl⟩
      · have e' : v + 1 ∉ U T (n + 1) := fun q => e (mem_U1.1 q)
        simp only [List.filter_cons, e, decide_false, Bool.false_eq_true, if_false, List.filter_nil, List.map_nil, e']
        rw [jn_c, jn_s (ok_ofR _) (ok_ofR _)]
        exact ⟨by show _ + (0 : Int) = _; omega, by show _ + (0 : Int) = _; omega⟩
  exact key T.n
/-- The root. -/
theorem root_of (W : T.Wf) (hv : T.par v ≠ -2) (hr : r ∈ U T (v + 1)) (h0 : ps T r = 0) : T.rootI v = (r : Int) - 1 := by
  have hrt := U_mem_th W hr
  have hp := par_root W hrt h0
  have h1 := hrt.1
  have hr' : (r - 1) ∈ T.up v := mem_U1.1 (by rw [Nat.sub_add_cancel h1]; exact hr)
  rw [Tr.rootI, T.upI_nat, (W.spec hv).root_last hr' hp]
  omega
theorem Pth.rootI (E : Pth S n T G t) : T.rootI ((t - 1 : Nat) : Int) = (G.fi t : Int) - 1 := by
  have t1 := E.th.1
  exact root_of E.lc.wf E.th.2 (by rw [Nat.sub_add_cancel t1]; exact E.fi_mem) E.root
/-- Two forests of the same parents. -/
theorem tr_ext {A B : Tr} (hA : A.Wf) (hB : B.Wf) (hn : A.n = B.n) (hw : A.wt = B.wt) (ht : ∀ x, Th A x ↔ Th B x) (hp : ∀ x, Th A x → ps A x = ps B x) : A = B := by
  cases A with
  | mk n par wt =>
    cases B with
    | mk n' par' wt' =>
      simp only at hn hw
      subst hn hw
      congr 1
      funext v
      by_cases e : Th ⟨n, par, wt⟩ (v + 1)
      · have e' := (ht _).1 e
        have h1 := ps_par e hA
        have h2 := ps_par e' hB
        have h3 := hp _ e
        simp only [Nat.add_sub_cancel] at h1 h2
        rw [h1, h2, h3]
      · have e' := fun q => e ((ht _).2 q)
        have h1 : par v = -2 := Classical.byContradiction fun q => e ⟨by omega, by simpa using q⟩
        have h2 : par' v = -2 := Classical.byContradiction fun q => e' ⟨by omega, by simpa using q⟩
        rw [h1, h2]
/-- A way turned round, and the root made the root again. -/
theorem evert_back (W : T.Wf) (hv : T.par v ≠ -2) (hr : r + 1 ∈ U T (v + 1)) (h0 : ps T (r + 1) = 0) : (T.evert v).evert r = T := by
  have W1 := W.evert hv
  have hrt := U_mem_th W hr
  have hr2 : T.par r ≠ -2 := by simpa using hrt.2
  have hr1 : (T.evert v).par r ≠ -2 := fun q => hr2 ((W.evert_there hv).1 q)
  have hUr : U T (r + 1) = [r + 1] := by rw [U_th W hrt, h0, U_zero]
  -- who is above r behind the first turn
  have mem : ∀ x, x ∈ U (T.evert v) (r + 1) ↔ x ∈ U T (v + 1) := fun x => by
    constructor
    · intro q
      refine Classical.byContradiction fun hx => ?_
      rw [mem_evert_out W hv hx, hUr] at q
      simp at q; rw [q] at hx; exact hx hr
    · intro hx
      have hx' := U_mem_th W hx
      by_cases e : x = v + 1
      · exact (mem_evert_on W hv hx hr h0 (.inl ⟨e, rfl⟩) r).2 ⟨U_self W hrt, zero_U W⟩
      · -- the one below x on the way
        have key : ∀ (k : Nat) (s : Nat), dp T s ≤ k → s ∈ U T (v + 1) → x ∈ U T s → x ≠ s → ∃ z, z ∈ U T (v + 1) ∧ ps T z = x := by
          intro k
          induction k with
          | zero => intro s hs hs1 hs2 _; have := dp_pos W (U_mem_th' W hs2); omega
          | succ k ih =>
            intro s hs hs1 hs2 hs3
            have hst := U_mem_th W hs1
            have hd := dp_th W hst
            rcases (U_up W hst).1 hs2 with e | e
            · exact absurd e hs3
            · by_cases e2 : x = ps T s
              · exact ⟨s, hs1, e2.symm⟩
              · have p0 : ps T s ≠ 0 := fun e3 => by rw [e3, U_zero] at e; simp at e
                exact ih (ps T s) (by omega) (U_trans W hs1 (U_ps W hst p0)) e e2
        obtain ⟨z, hz, hzx⟩ := key _ (v + 1) (Nat.le_refl _) (U_self W ⟨by omega, by simpa using hv⟩) hx e
        refine (mem_evert_on W hv hx hr h0 (.inr ⟨hz, hzx⟩) r).2 ⟨U_self W hrt, fun q => ?_⟩
        rw [hUr] at q
        simp at q
        rw [q, h0] at hzx; have := hx'.1; omega
  have W2 := W1.evert hr1
  refine tr_ext W2 W rfl rfl (fun x => by rw [th_evert W1 hr1, th_evert W hv]) (fun x hx => ?_)
  have hx' : Th T x := (th_evert W hv).1 ((th_evert W1 hr1).1 hx)
  have x1 := hx'.1
  by_cases hm : x ∈ U T (v + 1)
  · by_cases p0 : ps T x = 0
    · have : x = r + 1 := by
        rcases U_cmp' W hm hr with q | q
        · rw [hUr] at q; simpa using q
        · rw [U_th W hx', p0, U_zero] at q; simp at q; exact q.symm
      subst this
      rw [ps_evert_t W1 hr1, p0]
    · have e1 := ps_evert_on W hv hm p0
      have hz : ps T x ∈ U T (v + 1) := U_trans W hm (U_ps W hx' p0)
      have e2 := ps_evert_on W1 hr1 ((mem _).2 hz) (by rw [e1]; omega)
      rw [e1] at e2; exact e2
  · rw [ps_evert_out (fun q => hm ((mem x).1 q)) x1, ps_evert_out hm x1]
end
end Go.Proofs.Ytjnkgakajenoaaa
/- The program's forest: the slot of a node, and whether it is there. -/

namespace Go.Proofs.Ytjnkgakajenoaaa
open Go.RowKit Go.Arb
set_option linter.unusedVariables false
set_option linter.unusedSimpArgs false
set_option maxRecDepth 100000

theorem hasI_cases (T : Tr) (x : Int) : (∃ i : Nat, x = i ∧ Th T (i + 1) ∧ T.hasI x = true) ∨ T.hasI x = false := by
  cases hx : T.hasI x with
  | false => exact .inr rfl
  | true =>
    obtain ⟨i, rfl, hi⟩ := Tr.hasI_true hx
    exact .inl ⟨i, rfl, ⟨by omega, by simpa using hi⟩, rfl⟩
set_option maxHeartbeats 4000000 in
theorem findY {p g n cap room : Nat} {T : Tr} {S : Ss} {G : Gh} {w : World} {i t : Nat} (h : Pool w p g n cap room S) (L : Lc S n T G) (hi : Th T t) (hit : t = i + 1) :
    Calls Try.prog 58 #[.pointer (some ⟨p, 0, none⟩), .int .i64 (i : Int)] w fun e w' => e = .returned (.int .i64 (t : Int)) ∧ Keep [g] w w' ∧ Pool w' p g n cap room S := by
  have PH := hide h
  have KP := hide (Keep.refl [g] w)
  have LH := hide L
  clear h L
  have lt1 := (unhide LH).lt t hi
  have nnn := (unhide LH).nn
  have hTn := (unhide LH).ft.n
  have e1 : (0 : Int) ≤ (i : Int) := by omega
  have e2 : (t : Int) < (n : Int) := by omega
  have e3 : ¬ ((n : Int) - 1 ≤ (i : Int)) := by omega
  have e4 : ¬ ((i : Int) < 0) := by omega
  have w1 : IntKind.i64.wrap ((i : Int) + 1) = (t : Int) := by rw [IntWalk.i64_in _ (by omega)]; omega
  have w2 : IntKind.i64.wrap ((n : Int) - 1) = (n : Int) - 1 := IntWalk.i64_in _ (by omega)
  have e5 : (0 : Int) ≤ (t : Int) := by omega
  have hc : ¬ (S t).sm.c = 0 := (unhide LH).th_c.1 hi
  clear hi hit
  refine callsK (n := 36) (L := [(0, .pointer (some ⟨p, 0, none⟩)), (1, .int .i64 (i : Int))]) Try.func58 rfl Try.ntmps58 rfl rfl (fun a0 K0 => ?_)
  refine seqR ?_
  refine lac K0 rfl rfl (want_none rfl) rfl (fun a1 K1 => ?_)
  refine nilN ?_
  refine seqN ?_
  refine seqR ?_
  refine lmv K1 rfl rfl (want_none rfl) rfl rfl (fun a2 K2 => ?_)
  clear K1
  refine ltake (v := .bool false) (w' := w) K2 rfl rfl (want_none rfl) (fun ev E => ?_) (fun a3 K3 => ?_)
  · have EC := E.const; have E5 := E.tmp 5 _ rfl; clear E; clear PH KP LH; go_simp
  clear K2
  refine lmv K3 rfl rfl (want_none rfl) rfl rfl (fun a4 K4 => ?_)
  clear K3
  refine lmv K4 rfl rfl (want_some K4 rfl rfl rfl) rfl rfl (fun a5 K5 => ?_)
  clear K4
  refine ltake (v := .bool false) (w' := w) K5 rfl rfl (want_some K5 rfl rfl rfl) (fun ev E => ?_) (fun a6 K6 => ?_)
  · have EC := E.const; have E8 := E.tmp 8 _ rfl; clear E; clear PH KP LH; go_simp
  clear K5
  refine ltake (v := .bool false) (w' := w) K6 rfl rfl (want_none rfl) (fun ev E => ?_) (fun a7 K7 => ?_)
  · have EC := E.const; have E7 := E.tmp 7 _ rfl; have E9 := E.tmp 9 _ rfl; clear E; clear PH KP LH; go_simp
  clear K6
  refine lmv K7 rfl rfl (want_none rfl) rfl rfl (fun a8 K8 => ?_)
  clear K7
  refine lmv K8 rfl rfl (want_some K8 rfl rfl rfl) rfl rfl (fun a9 K9 => ?_)
  clear K8
  refine lmv K9 rfl rfl (want_some K9 rfl rfl rfl) rfl rfl (fun a10 K10 => ?_)
  clear K9
  refine lnc K10 rfl rfl (want_some K10 rfl rfl rfl) rfl rfl (fun a11 K11 => ?_)
  clear K10
  refine lfa K11 rfl rfl (want_some K11 rfl rfl rfl) rfl rfl FA66_1 (fun a12 K12 => ?_)
  clear K11
  refine ltake (v := .slice (some ⟨g, 0, none⟩) n cap) (w' := w) K12 rfl rfl (want_some K12 rfl rfl rfl) (fun ev E => ?_) (fun a13 K13 => ?_)
  · obtain ⟨c0, c1, _⟩ := (unhide PH).head; have E15 := E.tmp 15 _ rfl; clear E; clear PH KP LH; go_simp
  clear K12
  refine ltake (v := .int .i64 (n : Int)) (w' := w) K13 rfl rfl (want_some K13 rfl rfl rfl) (fun ev E => ?_) (fun a14 K14 => ?_)
  · have E16 := E.tmp 16 _ rfl; clear E; clear PH KP LH; go_simp
  clear K13
  refine ltake (v := .int .i64 ((n : Int) - 1)) (w' := w) K14 rfl rfl (want_some K14 rfl rfl rfl) (fun ev E => ?_) (fun a15 K15 => ?_)
  · have EC := E.const; have E17 := E.tmp 17 _ rfl; clear E; clear PH KP LH; go_simp
  clear K14
  refine ltake (v := .bool false) (w' := w) K15 rfl rfl (want_some K15 rfl rfl rfl) (fun ev E => ?_) (fun a16 K16 => ?_)
  · have E12 := E.tmp 12 _ rfl; have E18 := E.tmp 18 _ rfl; clear E; clear PH KP LH; go_simp
  clear K15
  refine ltake (v := .bool false) (w' := w) K16 rfl rfl (want_none rfl) (fun ev E => ?_) (fun a17 K17 => ?_)
  · have EC := E.const; have E11 := E.tmp 11 _ rfl; have E19 := E.tmp 19 _ rfl; clear E; clear PH KP LH; go_simp
  clear K16
  refine lmv K17 rfl rfl (want_none rfl) rfl rfl (fun a18 K18 => ?_)
  clear K17
  refine lmv K18 rfl rfl (want_some K18 rfl rfl rfl) rfl rfl (fun a19 K19 => ?_)
  clear K18
  refine lnc K19 rfl rfl (want_some K19 rfl rfl rfl) rfl rfl (fun a20 K20 => ?_)
  clear K19
  refine lfa K20 rfl rfl (want_some K20 rfl rfl rfl) rfl rfl FA66_1 (fun a21 K21 => ?_)
  clear K20
  refine ltake (v := .slice (some ⟨g, 0, none⟩) n cap) (w' := w) K21 rfl rfl (want_some K21 rfl rfl rfl) (fun ev E => ?_) (fun a22 K22 => ?_)
  · obtain ⟨c0, c1, _⟩ := (unhide PH).head; have E24 := E.tmp 24 _ rfl; clear E; clear PH KP LH; go_simp
  clear K21
  refine lmv K22 rfl rfl (want_some K22 rfl rfl rfl) rfl rfl (fun a23 K23 => ?_)
  clear K22
  refine ltake (v := .int .i64 (t : Int)) (w' := w) K23 rfl rfl (want_some K23 rfl rfl rfl) (fun ev E => ?_) (fun a24 K24 => ?_)
  · have EC := E.const; have E26 := E.tmp 26 _ rfl; clear E; clear PH KP LH; go_simp
  clear K23
  refine ltake (v := .pointer (some ⟨g, t * 14, none⟩)) (w' := w) K24 rfl rfl (want_some K24 rfl rfl rfl) (fun ev E => ?_) (fun a25 K25 => ?_)
  · have E25 := E.tmp 25 _ rfl; have E27 := E.tmp 27 _ rfl; clear E; clear PH KP LH; go_simp
  clear K24
  refine lfa K25 rfl rfl (want_some K25 rfl rfl rfl) rfl rfl FA75_6 (fun a26 K26 => ?_)
  clear K25
  refine lfa K26 rfl rfl (want_some K26 rfl rfl rfl) rfl rfl FA34_0 (fun a27 K27 => ?_)
  clear K26
  refine ltake (v := .int .i64 (S t).sm.c) (w' := w) K27 rfl rfl (want_some K27 rfl rfl rfl) (fun ev E => ?_) (fun a28 K28 => ?_)
  · obtain ⟨s0, s1, s2, s3, s4, s5, s6, s7, s8, s9, s10, s11, s12, s13⟩ := (unhide PH).slot (t := t) (by assumption); have E30 := E.tmp 30 _ rfl; clear E; clear PH KP LH; go_simp
  clear K27
  refine ltake (v := .bool false) (w' := w) K28 rfl rfl (want_some K28 rfl rfl rfl) (fun ev E => ?_) (fun a29 K29 => ?_)
  · have EC := E.const; have E31 := E.tmp 31 _ rfl; clear E; clear PH KP LH; go_simp
  clear K28
  refine ltake (v := .bool false) (w' := w) K29 rfl rfl (want_none rfl) (fun ev E => ?_) (fun a30 K30 => ?_)
  · have EC := E.const; have E21 := E.tmp 21 _ rfl; have E32 := E.tmp 32 _ rfl; clear E; clear PH KP LH; go_simp
  clear K29
  refine nilN ?_
  refine knCond (b := false) K30 rfl ?_
  refine wp_skip ?_
  show Code.wp _ _ _ _ _
  refine seqR ?_
  refine lmv K30 rfl rfl (want_none rfl) rfl rfl (fun a31 K31 => ?_)
  clear K30
  refine ltake (v := .int .i64 (t : Int)) (w' := w) K31 rfl rfl (want_none rfl) (fun ev E => ?_) (fun a32 K32 => ?_)
  · have EC := E.const; have E34 := E.tmp 34 _ rfl; clear E; clear PH KP LH; go_simp
  clear K31
  refine las K32 rfl rfl (want_none rfl) rfl rfl (fun a33 K33 => ?_)
  clear K32
  refine nilN ?_
  refine wp_ret ?_
  refine bodyPost_ret (v := .int .i64 (t : Int)) ?_ K33.defers ⟨rfl, unhide KP, unhide PH⟩
  have e4 := K33.has 4 _ rfl
  simp [results, Try.results58, go_sem, e4]
set_option maxHeartbeats 4000000 in
theorem findN1 {p g n cap room : Nat} {T : Tr} {S : Ss} {G : Gh} {w : World} {x : Int} (h : Pool w p g n cap room S) (L : Lc S n T G) (hx : x < 0) :
    Calls Try.prog 58 #[.pointer (some ⟨p, 0, none⟩), .int .i64 x] w fun e w' => e = .returned (.int .i64 0) ∧ Keep [g] w w' ∧ Pool w' p g n cap room S := by
  have PH := hide h
  have KP := hide (Keep.refl [g] w)
  have LH := hide L
  clear h L
  refine callsK (n := 36) (L := [(0, .pointer (some ⟨p, 0, none⟩)), (1, .int .i64 x)]) Try.func58 rfl Try.ntmps58 rfl rfl (fun a0 K0 => ?_)
  refine seqR ?_
  refine lac K0 rfl rfl (want_none rfl) rfl (fun a1 K1 => ?_)
  refine nilN ?_
  refine wp_seq ?_
  refine seqR ?_
  refine lmv K1 rfl rfl (want_none rfl) rfl rfl (fun a2 K2 => ?_)
  clear K1
  refine ltake (v := .bool false) (w' := w) K2 rfl rfl (want_none rfl) (fun ev E => ?_) (fun a3 K3 => ?_)
  · have EC := E.const; have E5 := E.tmp 5 _ rfl; clear E; clear PH KP LH; go_simp
  clear K2
  refine lmv K3 rfl rfl (want_none rfl) rfl rfl (fun a4 K4 => ?_)
  clear K3
  refine lmv K4 rfl rfl (want_some K4 rfl rfl rfl) rfl rfl (fun a5 K5 => ?_)
  clear K4
  refine ltake (v := .bool true) (w' := w) K5 rfl rfl (want_some K5 rfl rfl rfl) (fun ev E => ?_) (fun a6 K6 => ?_)
  · have EC := E.const; have E8 := E.tmp 8 _ rfl; clear E; clear PH KP LH; go_simp
  clear K5
  refine ltake (v := .bool true) (w' := w) K6 rfl rfl (want_none rfl) (fun ev E => ?_) (fun a7 K7 => ?_)
  · have EC := E.const; have E7 := E.tmp 7 _ rfl; have E9 := E.tmp 9 _ rfl; clear E; clear PH KP LH; go_simp
  clear K6
  refine lmv K7 rfl rfl (want_none rfl) rfl rfl (fun a8 K8 => ?_)
  clear K7
  refine lskip K8 rfl rfl (want_not K8 rfl rfl rfl (by decide)) (fun a9 K9 => ?_)
  refine lskip K9 rfl rfl (want_not K9 rfl rfl rfl (by decide)) (fun a10 K10 => ?_)
  refine lskip K10 rfl rfl (want_not K10 rfl rfl rfl (by decide)) (fun a11 K11 => ?_)
  refine lskip K11 rfl rfl (want_not K11 rfl rfl rfl (by decide)) (fun a12 K12 => ?_)
  refine lskip K12 rfl rfl (want_not K12 rfl rfl rfl (by decide)) (fun a13 K13 => ?_)
  refine lskip K13 rfl rfl (want_not K13 rfl rfl rfl (by decide)) (fun a14 K14 => ?_)
  refine lskip K14 rfl rfl (want_not K14 rfl rfl rfl (by decide)) (fun a15 K15 => ?_)
  refine lskip K15 rfl rfl (want_not K15 rfl rfl rfl (by decide)) (fun a16 K16 => ?_)
  refine ltake (v := .bool true) (w' := w) K16 rfl rfl (want_none rfl) (fun ev E => ?_) (fun a17 K17 => ?_)
  · have EC := E.const; have E11 := E.tmp 11 _ rfl; have E19 := E.tmp 19 _ rfl; clear E; clear PH KP LH; go_simp
  clear K16
  refine lmv K17 rfl rfl (want_none rfl) rfl rfl (fun a18 K18 => ?_)
  clear K17
  refine lskip K18 rfl rfl (want_not K18 rfl rfl rfl (by decide)) (fun a19 K19 => ?_)
  refine lskip K19 rfl rfl (want_not K19 rfl rfl rfl (by decide)) (fun a20 K20 => ?_)
  refine lskip K20 rfl rfl (want_not K20 rfl rfl rfl (by decide)) (fun a21 K21 => ?_)
  refine lskip K21 rfl rfl (want_not K21 rfl rfl rfl (by decide)) (fun a22 K22 => ?_)
  refine lskip K22 rfl rfl (want_not K22 rfl rfl rfl (by decide)) (fun a23 K23 => ?_)
  refine lskip K23 rfl rfl (want_not K23 rfl rfl rfl (by decide)) (fun a24 K24 => ?_)
  refine lskip K24 rfl rfl (want_not K24 rfl rfl rfl (by decide)) (fun a25 K25 => ?_)
  refine lskip K25 rfl rfl (want_not K25 rfl rfl rfl (by decide)) (fun a26 K26 => ?_)
  refine lskip K26 rfl rfl (want_not K26 rfl rfl rfl (by decide)) (fun a27 K27 => ?_)
  refine lskip K27 rfl rfl (want_not K27 rfl rfl rfl (by decide)) (fun a28 K28 => ?_)
  refine lskip K28 rfl rfl (want_not K28 rfl rfl rfl (by decide)) (fun a29 K29 => ?_)
  refine ltake (v := .bool true) (w' := w) K29 rfl rfl (want_none rfl) (fun ev E => ?_) (fun a30 K30 => ?_)
  · have EC := E.const; have E21 := E.tmp 21 _ rfl; have E32 := E.tmp 32 _ rfl; clear E; clear PH KP LH; go_simp
  clear K29
  refine nilN ?_
  refine knCond (b := true) K30 rfl ?_
  refine seqR ?_
  refine lac K30 rfl rfl (want_none rfl) rfl (fun a31 K31 => ?_)
  clear K30
  refine nilN ?_
  refine wp_ret ?_
  refine thenRet ?_
  refine bodyPost_ret (v := .int .i64 0) ?_ K31.defers ⟨rfl, unhide KP, unhide PH⟩
  have e4 := K31.has 4 _ rfl
  simp [results, Try.results58, go_sem, e4]
set_option maxHeartbeats 4000000 in
theorem findN2 {p g n cap room : Nat} {T : Tr} {S : Ss} {G : Gh} {w : World} {x : Int} (h : Pool w p g n cap room S) (L : Lc S n T G) (hx : 0 ≤ x) (hn : (n : Int) - 1 ≤ x) :
    Calls Try.prog 58 #[.pointer (some ⟨p, 0, none⟩), .int .i64 x] w fun e w' => e = .returned (.int .i64 0) ∧ Keep [g] w w' ∧ Pool w' p g n cap room S := by
  have PH := hide h
  have KP := hide (Keep.refl [g] w)
  have LH := hide L
  clear h L
  have nnn := (unhide LH).nn
  have hTn := (unhide LH).ft.n
  have e4 : ¬ (x < 0) := by omega
  have w2 : IntKind.i64.wrap ((n : Int) - 1) = (n : Int) - 1 := IntWalk.i64_in _ (by omega)
  refine callsK (n := 36) (L := [(0, .pointer (some ⟨p, 0, none⟩)), (1, .int .i64 x)]) Try.func58 rfl Try.ntmps58 rfl rfl (fun a0 K0 => ?_)
  refine seqR ?_
  refine lac K0 rfl rfl (want_none rfl) rfl (fun a1 K1 => ?_)
  refine nilN ?_
  refine wp_seq ?_
  refine seqR ?_
  refine lmv K1 rfl rfl (want_none rfl) rfl rfl (fun a2 K2 => ?_)
  clear K1
  refine ltake (v := .bool false) (w' := w) K2 rfl rfl (want_none rfl) (fun ev E => ?_) (fun a3 K3 => ?_)
  · have EC := E.const; have E5 := E.tmp 5 _ rfl; clear E; clear PH KP LH; go_simp
  clear K2
  refine lmv K3 rfl rfl (want_none rfl) rfl rfl (fun a4 K4 => ?_)
  clear K3
  refine lmv K4 rfl rfl (want_some K4 rfl rfl rfl) rfl rfl (fun a5 K5 => ?_)
  clear K4
  refine ltake (v := .bool false) (w' := w) K5 rfl rfl (want_some K5 rfl rfl rfl) (fun ev E => ?_) (fun a6 K6 => ?_)
  · have EC := E.const; have E8 := E.tmp 8 _ rfl; clear E; clear PH KP LH; go_simp
  clear K5
  refine ltake (v := .bool false) (w' := w) K6 rfl rfl (want_none rfl) (fun ev E => ?_) (fun a7 K7 => ?_)
  · have EC := E.const; have E7 := E.tmp 7 _ rfl; have E9 := E.tmp 9 _ rfl; clear E; clear PH KP LH; go_simp
  clear K6
  refine lmv K7 rfl rfl (want_none rfl) rfl rfl (fun a8 K8 => ?_)
  clear K7
  refine lmv K8 rfl rfl (want_some K8 rfl rfl rfl) rfl rfl (fun a9 K9 => ?_)
  clear K8
  refine lmv K9 rfl rfl (want_some K9 rfl rfl rfl) rfl rfl (fun a10 K10 => ?_)
  clear K9
  refine lnc K10 rfl rfl (want_some K10 rfl rfl rfl) rfl rfl (fun a11 K11 => ?_)
  clear K10
  refine lfa K11 rfl rfl (want_some K11 rfl rfl rfl) rfl rfl FA66_1 (fun a12 K12 => ?_)
  clear K11
  refine ltake (v := .slice (some ⟨g, 0, none⟩) n cap) (w' := w) K12 rfl rfl (want_some K12 rfl rfl rfl) (fun ev E => ?_) (fun a13 K13 => ?_)
  · obtain ⟨c0, c1, _⟩ := (unhide PH).head; have E15 := E.tmp 15 _ rfl; clear E; clear PH KP LH; go_simp
  clear K12
  refine ltake (v := .int .i64 (n : Int)) (w' := w) K13 rfl rfl (want_some K13 rfl rfl rfl) (fun ev E => ?_) (fun a14 K14 => ?_)
  · have E16 := E.tmp 16 _ rfl; clear E; clear PH KP LH; go_simp
  clear K13
  refine ltake (v := .int .i64 ((n : Int) - 1)) (w' := w) K14 rfl rfl (want_some K14 rfl rfl rfl) (fun ev E => ?_) (fun a15 K15 => ?_)
  · have EC := E.const; have E17 := E.tmp 17 _ rfl; clear E; clear PH KP LH; go_simp
  clear K14
  refine ltake (v := .bool true) (w' := w) K15 rfl rfl (want_some K15 rfl rfl rfl) (fun ev E => ?_) (fun a16 K16 => ?_)
  · have E12 := E.tmp 12 _ rfl; have E18 := E.tmp 18 _ rfl; clear E; clear PH KP LH; go_simp
  clear K15
  refine ltake (v := .bool true) (w' := w) K16 rfl rfl (want_none rfl) (fun ev E => ?_) (fun a17 K17 => ?_)
  · have EC := E.const; have E11 := E.tmp 11 _ rfl; have E19 := E.tmp 19 _ rfl; clear E; clear PH KP LH; go_simp
  clear K16
  refine lmv K17 rfl rfl (want_none rfl) rfl rfl (fun a18 K18 => ?_)
  clear K17
  refine lskip K18 rfl rfl (want_not K18 rfl rfl rfl (by decide)) (fun a19 K19 => ?_)
  refine lskip K19 rfl rfl (want_not K19 rfl rfl rfl (by decide)) (fun a20 K20 => ?_)
  refine lskip K20 rfl rfl (want_not K20 rfl rfl rfl (by decide)) (fun a21 K21 => ?_)
  refine lskip K21 rfl rfl (want_not K21 rfl rfl rfl (by decide)) (fun a22 K22 => ?_)
  refine lskip K22 rfl rfl (want_not K22 rfl rfl rfl (by decide)) (fun a23 K23 => ?_)
  refine lskip K23 rfl rfl (want_not K23 rfl rfl rfl (by decide)) (fun a24 K24 => ?_)
  refine lskip K24 rfl rfl (want_not K24 rfl rfl rfl (by decide)) (fun a25 K25 => ?_)
  refine lskip K25 rfl rfl (want_not K25 rfl rfl rfl (by decide)) (fun a26 K26 => ?_)
  refine lskip K26 rfl rfl (want_not K26 rfl rfl rfl (by decide)) (fun a27 K27 => ?_)
  refine lskip K27 rfl rfl (want_not K27 rfl rfl rfl (by decide)) (fun a28 K28 => ?_)
  refine lskip K28 rfl rfl (want_not K28 rfl rfl rfl (by decide)) (fun a29 K29 => ?_)
  refine ltake (v := .bool true) (w' := w) K29 rfl rfl (want_none rfl) (fun ev E => ?_) (fun a30 K30 => ?_)
  · have EC := E.const; have E21 := E.tmp 21 _ rfl; have E32 := E.tmp 32 _ rfl; clear E; clear PH KP LH; go_simp
  clear K29
  refine nilN ?_
  refine knCond (b := true) K30 rfl ?_
  refine seqR ?_
  refine lac K30 rfl rfl (want_none rfl) rfl (fun a31 K31 => ?_)
  clear K30
  refine nilN ?_
  refine wp_ret ?_
  refine thenRet ?_
  refine bodyPost_ret (v := .int .i64 0) ?_ K31.defers ⟨rfl, unhide KP, unhide PH⟩
  have e4 := K31.has 4 _ rfl
  simp [results, Try.results58, go_sem, e4]
set_option maxHeartbeats 4000000 in
theorem findN3 {p g n cap room : Nat} {T : Tr} {S : Ss} {G : Gh} {w : World} {i t : Nat} (h : Pool w p g n cap room S) (L : Lc S n T G) (lt1 : t < n) (hit : t = i + 1) (hc : (S t).sm.c = 0) :
    Calls Try.prog 58 #[.pointer (some ⟨p, 0, none⟩), .int .i64 (i : Int)] w fun e w' => e = .returned (.int .i64 0) ∧ Keep [g] w w' ∧ Pool w' p g n cap room S := by
  have PH := hide h
  have KP := hide (Keep.refl [g] w)
  have LH := hide L
  clear h L
  have nnn := (unhide LH).nn
  have hTn := (unhide LH).ft.n
  have e1 : (0 : Int) ≤ (i : Int) := by omega
  have e2 : (t : Int) < (n : Int) := by omega
  have e3 : ¬ ((n : Int) - 1 ≤ (i : Int)) := by omega
  have e4 : ¬ ((i : Int) < 0) := by omega
  have w1 : IntKind.i64.wrap ((i : Int) + 1) = (t : Int) := by rw [IntWalk.i64_in _ (by omega)]; omega
  have w2 : IntKind.i64.wrap ((n : Int) - 1) = (n : Int) - 1 := IntWalk.i64_in _ (by omega)
  have e5 : (0 : Int) ≤ (t : Int) := by omega
  clear hit
  refine callsK (n := 36) (L := [(0, .pointer (some ⟨p, 0, none⟩)), (1, .int .i64 (i : Int))]) Try.func58 rfl Try.ntmps58 rfl rfl (fun a0 K0 => ?_)
  refine seqR ?_
  refine lac K0 rfl rfl (want_none rfl) rfl (fun a1 K1 => ?_)
  refine nilN ?_
  refine wp_seq ?_
  refine seqR ?_
  refine lmv K1 rfl rfl (want_none rfl) rfl rfl (fun a2 K2 => ?_)
  clear K1
  refine ltake (v := .bool false) (w' := w) K2 rfl rfl (want_none rfl) (fun ev E => ?_) (fun a3 K3 => ?_)
  · have EC := E.const; have E5 := E.tmp 5 _ rfl; clear E; clear PH KP LH; go_simp
  clear K2
  refine lmv K3 rfl rfl (want_none rfl) rfl rfl (fun a4 K4 => ?_)
  clear K3
  refine lmv K4 rfl rfl (want_some K4 rfl rfl rfl) rfl rfl (fun a5 K5 => ?_)
  clear K4
  refine ltake (v := .bool false) (w' := w) K5 rfl rfl (want_some K5 rfl rfl rfl) (fun ev E => ?_) (fun a6 K6 => ?_)
  · have EC := E.const; have E8 := E.tmp 8 _ rfl; clear E; clear PH KP LH; go_simp
  clear K5
  refine ltake (v := .bool false) (w' := w) K6 rfl rfl (want_none rfl) (fun ev E => ?_) (fun a7 K7 => ?_)
  · have EC := E.const; have E7 := E.tmp 7 _ rfl; have E9 := E.tmp 9 _ rfl; clear E; clear PH KP LH; go_simp
  clear K6
  refine lmv K7 rfl rfl (want_none rfl) rfl rfl (fun a8 K8 => ?_)
  clear K7
  refine lmv K8 rfl rfl (want_some K8 rfl rfl rfl) rfl rfl (fun a9 K9 => ?_)
  clear K8
  refine lmv K9 rfl rfl (want_some K9 rfl rfl rfl) rfl rfl (fun a10 K10 => ?_)
  clear K9
  refine lnc K10 rfl rfl (want_some K10 rfl rfl rfl) rfl rfl (fun a11 K11 => ?_)
  clear K10
  refine lfa K11 rfl rfl (want_some K11 rfl rfl rfl) rfl rfl FA66_1 (fun a12 K12 => ?_)
  clear K11
  refine ltake (v := .slice (some ⟨g, 0, none⟩) n cap) (w' := w) K12 rfl rfl (want_some K12 rfl rfl rfl) (fun ev E => ?_) (fun a13 K13 => ?_)
  · obtain ⟨c0, c1, _⟩ := (unhide PH).head; have E15 := E.tmp 15 _ rfl; clear E; clear PH KP LH; go_simp
  clear K12
  refine ltake (v := .int .i64 (n : Int)) (w' := w) K13 rfl rfl (want_some K13 rfl rfl rfl) (fun ev E => ?_) (fun a14 K14 => ?_)
  · have E16 := E.tmp 16 _ rfl; clear E; clear PH KP LH; go_simp
  clear K13
  refine ltake (v := .int .i64 ((n : Int) - 1)) (w' := w) K14 rfl rfl (want_some K14 rfl rfl rfl) (fun ev E => ?_) (fun a15 K15 => ?_)
  · have EC := E.const; have E17 := E.tmp 17 _ rfl; clear E; clear PH KP LH; go_simp
  clear K14
  refine ltake (v := .bool false) (w' := w) K15 rfl rfl (want_some K15 rfl rfl rfl) (fun ev E => ?_) (fun a16 K16 => ?_)
  · have E12 := E.tmp 12 _ rfl; have E18 := E.tmp 18 _ rfl; clear E; clear PH KP LH; go_simp
  clear K15
  refine ltake (v := .bool false) (w' := w) K16 rfl rfl (want_none rfl) (fun ev E => ?_) (fun a17 K17 => ?_)
  · have EC := E.const; have E11 := E.tmp 11 _ rfl; have E19 := E.tmp 19 _ rfl; clear E; clear PH KP LH; go_simp
  clear K16
  refine lmv K17 rfl rfl (want_none rfl) rfl rfl (fun a18 K18 => ?_)
  clear K17
  refine lmv K18 rfl rfl (want_some K18 rfl rfl rfl) rfl rfl (fun a19 K19 => ?_)
  clear K18
  refine lnc K19 rfl rfl (want_some K19 rfl rfl rfl) rfl rfl (fun a20 K20 => ?_)
  clear K19
  refine lfa K20 rfl rfl (want_some K20 rfl rfl rfl) rfl rfl FA66_1 (fun a21 K21 => ?_)
  clear K20
  refine ltake (v := .slice (some ⟨g, 0, none⟩) n cap) (w' := w) K21 rfl rfl (want_some K21 rfl rfl rfl) (fun ev E => ?_) (fun a22 K22 => ?_)
  · obtain ⟨c0, c1, _⟩ := (unhide PH).head; have E24 := E.tmp 24 _ rfl; clear E; clear PH KP LH; go_simp
  clear K21
  refine lmv K22 rfl rfl (want_some K22 rfl rfl rfl) rfl rfl (fun a23 K23 => ?_)
  clear K22
  refine ltake (v := .int .i64 (t : Int)) (w' := w) K23 rfl rfl (want_some K23 rfl rfl rfl) (fun ev E => ?_) (fun a24 K24 => ?_)
  · have EC := E.const; have E26 := E.tmp 26 _ rfl; clear E; clear PH KP LH; go_simp
  clear K23
  refine ltake (v := .pointer (some ⟨g, t * 14, none⟩)) (w' := w) K24 rfl rfl (want_some K24 rfl rfl rfl) (fun ev E => ?_) (fun a25 K25 => ?_)
  · have E25 := E.tmp 25 _ rfl; have E27 := E.tmp 27 _ rfl; clear E; clear PH KP LH; go_simp
  clear K24
  refine lfa K25 rfl rfl (want_some K25 rfl rfl rfl) rfl rfl FA75_6 (fun a26 K26 => ?_)
  clear K25
  refine lfa K26 rfl rfl (want_some K26 rfl rfl rfl) rfl rfl FA34_0 (fun a27 K27 => ?_)
  clear K26
  refine ltake (v := .int .i64 (S t).sm.c) (w' := w) K27 rfl rfl (want_some K27 rfl rfl rfl) (fun ev E => ?_) (fun a28 K28 => ?_)
  · obtain ⟨s0, s1, s2, s3, s4, s5, s6, s7, s8, s9, s10, s11, s12, s13⟩ := (unhide PH).slot (t := t) (by assumption); have E30 := E.tmp 30 _ rfl; clear E; clear PH KP LH; go_simp
  clear K27
  refine ltake (v := .bool true) (w' := w) K28 rfl rfl (want_some K28 rfl rfl rfl) (fun ev E => ?_) (fun a29 K29 => ?_)
  · have EC := E.const; have E31 := E.tmp 31 _ rfl; clear E; clear PH KP LH; go_simp
  clear K28
  refine ltake (v := .bool true) (w' := w) K29 rfl rfl (want_none rfl) (fun ev E => ?_) (fun a30 K30 => ?_)
  · have EC := E.const; have E21 := E.tmp 21 _ rfl; have E32 := E.tmp 32 _ rfl; clear E; clear PH KP LH; go_simp
  clear K29
  refine nilN ?_
  refine knCond (b := true) K30 rfl ?_
  refine seqR ?_
  refine lac K30 rfl rfl (want_none rfl) rfl (fun a31 K31 => ?_)
  clear K30
  refine nilN ?_
  refine wp_ret ?_
  refine thenRet ?_
  refine bodyPost_ret (v := .int .i64 0) ?_ K31.defers ⟨rfl, unhide KP, unhide PH⟩
  have e4 := K31.has 4 _ rfl
  simp [results, Try.results58, go_sem, e4]
theorem findN {p g n cap room : Nat} {T : Tr} {S : Ss} {G : Gh} {w : World} {x : Int} (h : Pool w p g n cap room S) (L : Lc S n T G) (hx : T.hasI x = false) :
    Calls Try.prog 58 #[.pointer (some ⟨p, 0, none⟩), .int .i64 x] w fun e w' => e = .returned (.int .i64 0) ∧ Keep [g] w w' ∧ Pool w' p g n cap room S := by
  by_cases h0 : x < 0
  · exact findN1 h L h0
  · by_cases h1 : (n : Int) - 1 ≤ x
    · exact findN2 h L (by omega) h1
    · obtain ⟨i, rfl⟩ := Int.eq_ofNat_of_zero_le (show 0 ≤ x by omega)
      refine findN3 h L (by omega) rfl (Classical.byContradiction fun hc => ?_)
      have ht := L.th_c.2 hc
      rw [T.hasI_nat] at hx
      have := ht.2
      simp at this hx
      exact this hx
set_option maxHeartbeats 4000000 in
theorem hasY {p g n cap room : Nat} {T : Tr} {S : Ss} {G : Gh} {w : World} {i t : Nat} (h : Pool w p g n cap room S) (L : Lc S n T G) (hi : Th T t) (hit : t = i + 1) :
    Calls Try.prog 37 #[.pointer (some ⟨p, 0, none⟩), .int .i64 (i : Int)] w fun e w' => e = .returned (.bool true) ∧ Keep [g] w w' ∧ Pool w' p g n cap room S := by
  have PH := hide h
  have KP := hide (Keep.refl [g] w)
  have LH := hide L
  clear h L
  have e5 : ¬ (t : Int) = 0 := by omega
  have e6 : ¬ t = 0 := by omega
  have HI := hide hit
  clear hit
  refine callsK (n := 9) (L := [(0, .pointer (some ⟨p, 0, none⟩)), (1, .int .i64 (i : Int))]) Try.func37 rfl Try.ntmps37 rfl rfl (fun a0 K0 => ?_)
  refine seqR ?_
  refine lac K0 rfl rfl (want_none rfl) rfl (fun a1 K1 => ?_)
  refine nilN ?_
  refine seqR ?_
  refine lmv K1 rfl rfl (want_none rfl) rfl rfl (fun a2 K2 => ?_)
  clear K1
  refine lmv K2 rfl rfl (want_none rfl) rfl rfl (fun a3 K3 => ?_)
  clear K2
  refine lcall (f := 58) (args := #[.pointer (some ⟨p, 0, none⟩), .int .i64 (i : Int)]) K3 rfl rfl (want_none rfl) (fun ev E => ?_) (findY (unhide PH) (unhide LH) hi (unhide HI)) (fun e W4 hR => ?_)
  · have EF := E.func; have E5 := E.tmp 5 _ rfl; have E6 := E.tmp 6 _ rfl; clear E; clear PH KP LH HI; go_simp
  obtain ⟨rfl, Q1, P1⟩ := hR
  have Q2 := hide ((unhide KP).tr Q1)
  clear PH KP Q1
  have PH := hide P1
  have KP := Q2
  clear Q2 P1
  refine ⟨_, rfl, fun a5 K5 => ?_⟩
  clear K3
  refine ltake (v := .bool true) (w' := W4) K5 rfl rfl (want_none rfl) (fun ev E => ?_) (fun a6 K6 => ?_)
  · have EC := E.const; have E7 := E.tmp 7 _ rfl; clear E; clear PH KP LH HI; go_simp
  clear K5
  refine las K6 rfl rfl (want_none rfl) rfl rfl (fun a7 K7 => ?_)
  clear K6
  refine nilN ?_
  refine wp_ret ?_
  refine bodyPost_ret (v := .bool true) ?_ K7.defers ⟨rfl, unhide KP, unhide PH⟩
  have e4 := K7.has 4 _ rfl
  simp [results, Try.results37, go_sem, e4]
set_option maxHeartbeats 4000000 in
theorem hasN {p g n cap room : Nat} {T : Tr} {S : Ss} {G : Gh} {w : World} {x : Int} (h : Pool w p g n cap room S) (L : Lc S n T G) (hx : T.hasI x = false) :
    Calls Try.prog 37 #[.pointer (some ⟨p, 0, none⟩), .int .i64 x] w fun e w' => e = .returned (.bool false) ∧ Keep [g] w w' ∧ Pool w' p g n cap room S := by
  have PH := hide h
  have KP := hide (Keep.refl [g] w)
  have LH := hide L
  clear h L
  refine callsK (n := 9) (L := [(0, .pointer (some ⟨p, 0, none⟩)), (1, .int .i64 x)]) Try.func37 rfl Try.ntmps37 rfl rfl (fun a0 K0 => ?_)
  refine seqR ?_
  refine lac K0 rfl rfl (want_none rfl) rfl (fun a1 K1 => ?_)
  refine nilN ?_
  refine seqR ?_
  refine lmv K1 rfl rfl (want_none rfl) rfl rfl (fun a2 K2 => ?_)
  clear K1
  refine lmv K2 rfl rfl (want_none rfl) rfl rfl (fun a3 K3 => ?_)
  clear K2
  refine lcall (f := 58) (args := #[.pointer (some ⟨p, 0, none⟩), .int .i64 x]) K3 rfl rfl (want_none rfl) (fun ev E => ?_) (findN (unhide PH) (unhide LH) hx) (fun e W4 hR => ?_)
  · have EF := E.func; have E5 := E.tmp 5 _ rfl; have E6 := E.tmp 6 _ rfl; clear E; clear PH KP LH; go_simp
  obtain ⟨rfl, Q1, P1⟩ := hR
  have Q2 := hide ((unhide KP).tr Q1)
  clear PH KP Q1
  have PH := hide P1
  have KP := Q2
  clear Q2 P1
  refine ⟨_, rfl, fun a5 K5 => ?_⟩
  clear K3
  refine ltake (v := .bool false) (w' := W4) K5 rfl rfl (want_none rfl) (fun ev E => ?_) (fun a6 K6 => ?_)
  · have EC := E.const; have E7 := E.tmp 7 _ rfl; clear E; clear PH KP LH; go_simp
  clear K5
  refine las K6 rfl rfl (want_none rfl) rfl rfl (fun a7 K7 => ?_)
  clear K6
  refine nilN ?_
  refine wp_ret ?_
  refine bodyPost_ret (v := .bool false) ?_ K7.defers ⟨rfl, unhide KP, unhide PH⟩
  have e4 := K7.has 4 _ rfl
  simp [results, Try.results37, go_sem, e4]
set_option maxHeartbeats 4000000 in
theorem isRootL {p g n cap room : Nat} {T : Tr} {S : Ss} {G : Gh} {w : World} {t : Nat} (h : Pool w p g n cap room S) (L : Lc S n T G) (ht : Th T t) :
    Calls Try.prog 57 #[.pointer (some ⟨p, 0, none⟩), .int .i64 (t : Int)] w fun e w' => Keep [g] w w' ∧ ∃ met S1 G1, e = .returned (.bool (((S1 t).l : Int) == 0)) ∧ Pool w' p g n cap room S1 ∧ Lc S1 n T G1 ∧ Exd n T t S G met S1 G1 := by
  have PH := hide h
  have KP := hide (Keep.refl [g] w)
  have LH := hide L
  clear h L
  have lt1 := (unhide LH).lt t ht
  have e1 : (0 : Int) ≤ (t : Int) := by omega
  have e2 : (t : Int) < (n : Int) := by omega
  have HT := hide ht
  clear ht
  refine callsK (n := 17) (L := [(0, .pointer (some ⟨p, 0, none⟩)), (1, .int .i64 (t : Int))]) Try.func57 rfl Try.ntmps57 rfl rfl (fun a0 K0 => ?_)
  refine seqR ?_
  refine lac K0 rfl rfl (want_none rfl) rfl (fun a1 K1 => ?_)
  refine nilN ?_
  refine seqR ?_
  refine lmv K1 rfl rfl (want_none rfl) rfl rfl (fun a2 K2 => ?_)
  clear K1
  refine lmv K2 rfl rfl (want_none rfl) rfl rfl (fun a3 K3 => ?_)
  clear K2
  refine lcall (f := 61) (args := #[.pointer (some ⟨p, 0, none⟩), .int .i64 (t : Int)]) K3 rfl rfl (want_none rfl) (fun ev E => ?_) (exposeL (unhide PH) (unhide LH) (unhide HT)) (fun e W4 hR => ?_)
  · have EF := E.func; have E5 := E.tmp 5 _ rfl; have E6 := E.tmp 6 _ rfl; clear E; clear PH KP LH HT; go_simp
  obtain ⟨met, rfl, Q1, S1, G1, P1, L1, X1⟩ := hR
  have Q2 := hide ((unhide KP).tr Q1)
  clear PH KP Q1
  have PH := hide P1
  have KP := Q2
  clear Q2 P1
  refine ⟨_, rfl, fun a5 K5 => ?_⟩
  clear K3
  refine nilN ?_
  refine seqR ?_
  refine lmv K5 rfl rfl (want_none rfl) rfl rfl (fun a6 K6 => ?_)
  clear K5
  refine lnc K6 rfl rfl (want_none rfl) rfl rfl (fun a7 K7 => ?_)
  clear K6
  refine lfa K7 rfl rfl (want_none rfl) rfl rfl FA66_1 (fun a8 K8 => ?_)
  clear K7
  refine ltake (v := .slice (some ⟨g, 0, none⟩) n cap) (w' := W4) K8 rfl rfl (want_none rfl) (fun ev E => ?_) (fun a9 K9 => ?_)
  · obtain ⟨c0, c1, _⟩ := (unhide PH).head; have E10 := E.tmp 10 _ rfl; clear E; clear PH KP LH HT L1 X1; go_simp
  clear K8
  refine lmv K9 rfl rfl (want_none rfl) rfl rfl (fun a10 K10 => ?_)
  clear K9
  refine ltake (v := .pointer (some ⟨g, t * 14, none⟩)) (w' := W4) K10 rfl rfl (want_none rfl) (fun ev E => ?_) (fun a11 K11 => ?_)
  · have E11 := E.tmp 11 _ rfl; have E12 := E.tmp 12 _ rfl; clear E; clear PH KP LH HT L1 X1; go_simp
  clear K10
  refine lfa K11 rfl rfl (want_none rfl) rfl rfl FA75_1 (fun a12 K12 => ?_)
  clear K11
  refine ltake (v := .int .i64 ((S1 t).l : Int)) (w' := W4) K12 rfl rfl (want_none rfl) (fun ev E => ?_) (fun a13 K13 => ?_)
  · obtain ⟨s0, s1, s2, s3, s4, s5, s6, s7, s8, s9, s10, s11, s12, s13⟩ := (unhide PH).slot (t := t) (by assumption); have E14 := E.tmp 14 _ rfl; clear E; clear PH KP LH HT L1 X1; go_simp
  clear K12
  refine ltake (v := .bool (((S1 t).l : Int) == 0)) (w' := W4) K13 rfl rfl (want_none rfl) (fun ev E => ?_) (fun a14 K14 => ?_)
  · have EC := E.const; have E15 := E.tmp 15 _ rfl; clear E; clear PH KP LH HT L1 X1; go_simp
  clear K13
  refine las K14 rfl rfl (want_none rfl) rfl rfl (fun a15 K15 => ?_)
  clear K14
  refine nilN ?_
  refine wp_ret ?_
  refine bodyPost_ret (v := .bool (((S1 t).l : Int) == 0)) ?_ K15.defers ⟨unhide KP, met, S1, G1, rfl, unhide PH, L1, X1⟩
  have e4 := K15.has 4 _ rfl
  simp [results, Try.results57, go_sem, e4]
end Go.Proofs.Ytjnkgakajenoaaa

/- What the calls make of a forest's ways up. No Go in sight. -/
import Derived.Test.YtbcibdofcjehcaaT
namespace Go.Proofs.Ytbcibdofcjehcaa
set_option linter.unusedVariables false

theorem updF_same {α : Type} (f : Nat → α) (v : Nat) (x : α) : updF f v x v = x := by simp [updF]
theorem updF_other {α : Type} (f : Nat → α) {v u : Nat} (x : α) (h : u ≠ v) : updF f v x u = f u := by simp [updF, h]

section
variable {par par' : Nat → Int} {u v x : Nat} {l m a b : List Nat}
theorem Up.frame (h : Up par u l) : (∀ y ∈ l, par' y = par y) → Up par' u l := by
  induction h using Up.ind with
  | root h => intro k; exact .root (by rw [k _ (by simp)]; exact h)
  | step h hu ih => intro k; exact .step (by rw [k _ (by simp)]; exact h) (ih fun y hy => k y (by simp [hy]))
theorem Up.pre : ∀ {a u}, Up par u (a ++ x :: b) → (∀ y ∈ a, par' y = par y) → Up par' x m → Up par' u (a ++ m)
  | [], u, h, _, hm => by
    obtain ⟨t, e⟩ := h.head
    simp at e
    obtain ⟨rfl, _⟩ := e
    exact hm
  | y :: a, u, h, k, hm => by
    obtain ⟨t, e⟩ := h.head
    simp at e
    obtain ⟨rfl, _⟩ := e
    rcases h.next with ⟨_, e⟩ | ⟨q, hq, hu⟩
    · simp at e
    · exact .step (by rw [k _ (by simp)]; exact hq) (hu.pre (fun z hz => k z (by simp [hz])) hm)
theorem Up.first (h : Up par u (a ++ x :: b)) : x ∉ a ∧ x ∉ b := by
  have := h.nodup
  rw [List.nodup_append, List.nodup_cons] at this
  exact ⟨fun hm => this.2.2 x hm x (by simp) rfl, this.2.1.1⟩

theorem turn_out : ∀ {l : List Nat} {par : Nat → Int} {b : Int} {x : Nat}, x ∉ l → turn par b l x = par x
  | [], _, _, _, _ => rfl
  | y :: l, par, b, x, h => by
    simp only [List.mem_cons, not_or] at h
    rw [turn, turn_out h.2, updF_other _ _ h.1]
theorem turn_at : ∀ {a : List Nat} {par : Nat → Int} {b : Int} {x : Nat} {c : List Nat}, (a ++ x :: c).Nodup → turn par b (a ++ x :: c) x = if a = [] then b else lastI a
  | [], par, b, x, c, h => by
    simp only [List.nil_append, List.nodup_cons] at h
    simp [turn, turn_out h.1, updF_same]
  | y :: a, par, b, x, c, h => by
    rw [List.cons_append, List.nodup_cons] at h
    rw [List.cons_append, turn, turn_at h.2]
    cases a with
    | nil => simp [lastI]
    | cons z a => simp [lastI]
end

section
variable {T : Tr} {u v c p : Nat} {w : Int} {a b cc : List Nat}

/- A node comes. -/
theorem Tr.Wf.add_up (h : T.Wf) (hv : T.par v = -2) (hu : T.par u ≠ -2) : Up (T.add v w).par u (T.up u) :=
  (h.spec hu).frame fun y hy => updF_other _ _ fun e => h.there' hy (e ▸ hv)
theorem Tr.Wf.add (h : T.Wf) (hv : T.par v = -2) (hn : v < T.n) : (T.add v w).Wf := by
  refine ⟨fun x hx => ?_, fun x hx => ?_⟩
  · by_cases e : x = v
    · subst e; exact hn
    · exact h.lt x (by simpa [Tr.add, updF, e] using hx)
  · by_cases e : x = v
    · subst e; exact ⟨_, .root (by simp [Tr.add, updF])⟩
    · exact ⟨_, h.add_up hv (by simpa [Tr.add, updF, e] using hx)⟩
theorem Tr.Fit.add (h : T.Fit) (hw : -1099511627776 ≤ w ∧ w ≤ 1099511627776) : (T.add v w).Fit := by
  refine ⟨h.n, fun x => ?_, fun x hx => ?_⟩
  · by_cases e : x = v
    · subst e; simpa [Tr.add, updF] using hw
    · simpa [Tr.add, updF, e] using h.wt x
  · by_cases e : x = v
    · subst e; simp [Tr.add, updF] at hx
    · simp [Tr.add, updF, e] at hx ⊢; exact h.zero x hx

/- A node goes. -/
theorem Tr.Wf.alone (h : T.Wf) (hv : ∀ y, T.par y ≠ (v : Int)) (hu : u ≠ v) : v ∉ T.up u := fun hm => by
  have h0 := h.spec (Tr.there hm)
  obtain ⟨a, b, e⟩ := List.append_of_mem hm
  by_cases ha : a = []
  · subst ha
    obtain ⟨t, e'⟩ := h0.head
    rw [e] at e'
    simp at e'
    exact hu e'.1.symm
  · have e2 : a = a.dropLast ++ [a.getLast ha] := (List.dropLast_concat_getLast ha).symm
    rw [e, e2] at h0
    have h1 := h0.suffix (a := a.dropLast) (x := a.getLast ha) (b := v :: b) (by simp)
    rcases h1.next with ⟨_, e3⟩ | ⟨q, hq, hq'⟩
    · simp at e3
    · obtain ⟨t, e4⟩ := hq'.head
      simp at e4
      exact hv _ (by rw [hq, e4.1])
theorem Tr.Wf.drop_up (h : T.Wf) (hv : ∀ y, T.par y ≠ (v : Int)) (hu : T.par u ≠ -2) (hne : u ≠ v) : Up (T.drop v).par u (T.up u) :=
  (h.spec hu).frame fun y hy => updF_other _ _ fun e => h.alone hv hne (e ▸ hy)
theorem Tr.Wf.drop (h : T.Wf) (hv : ∀ y, T.par y ≠ (v : Int)) : (T.drop v).Wf := by
  have k : ∀ x, (T.drop v).par x ≠ -2 → x ≠ v ∧ T.par x ≠ -2 := fun x hx => by
    by_cases e : x = v
    · subst e; simp [Tr.drop, updF] at hx
    · exact ⟨e, by simpa [Tr.drop, updF, e] using hx⟩
  exact ⟨fun x hx => h.lt x (k x hx).2, fun x hx => ⟨_, h.drop_up hv (k x hx).2 (k x hx).1⟩⟩
theorem Tr.Fit.drop (h : T.Fit) : (T.drop v).Fit := by
  refine ⟨h.n, fun x => ?_, fun x hx => ?_⟩
  · by_cases e : x = v
    · subst e; simp [Tr.drop, updF]
    · simpa [Tr.drop, updF, e] using h.wt x
  · by_cases e : x = v
    · subst e; simp [Tr.drop, updF]
    · simp [Tr.drop, updF, e] at hx ⊢; exact h.zero x hx

/- A root becomes a kid. -/
theorem Tr.Wf.link_out (h : T.Wf) (hu : T.par u ≠ -2) (hn : c ∉ T.up u) : Up (T.link c p).par u (T.up u) :=
  (h.spec hu).frame fun y hy => updF_other _ _ fun e => hn (e ▸ hy)
theorem Tr.Wf.root_end (h : T.Wf) (hc : T.par c = -1) (hu : c ∈ T.up u) : ∃ a, T.up u = a ++ [c] ∧ c ∉ a := by
  obtain ⟨a, b, e⟩ := List.append_of_mem hu
  have h0 := h.spec (Tr.there hu)
  rw [e] at h0
  rcases (h0.suffix rfl).next with ⟨_, rfl⟩ | ⟨q, hq, _⟩
  · exact ⟨a, e, h0.first.1⟩
  · omega
theorem Tr.Wf.link_in (h : T.Wf) (hc : T.par c = -1) (hp : T.par p ≠ -2) (hr : c ∉ T.up p) (hu : c ∈ T.up u) : Up (T.link c p).par u (T.up u ++ T.up p) := by
  obtain ⟨a, e, ha⟩ := h.root_end hc hu
  have h0 := h.spec (Tr.there hu)
  rw [e] at h0 ⊢
  rw [List.append_assoc]
  refine h0.pre (fun y hy => updF_other _ _ fun e => ha (e ▸ hy)) ?_
  exact .step (updF_same _ _ _) (h.link_out hp hr)
theorem Tr.Wf.link (h : T.Wf) (hc : T.par c = -1) (hp : T.par p ≠ -2) (hr : c ∉ T.up p) : (T.link c p).Wf := by
  have k : ∀ x, (T.link c p).par x ≠ -2 → T.par x ≠ -2 := fun x hx => by
    by_cases e : x = c
    · subst e; omega
    · simpa [Tr.link, updF, e] using hx
  refine ⟨fun x hx => h.lt x (k x hx), fun x hx => ?_⟩
  by_cases hm : c ∈ T.up x
  · exact ⟨_, h.link_in hc hp hr hm⟩
  · exact ⟨_, h.link_out (k x hx) hm⟩
theorem Tr.Fit.link (h : T.Fit) (hc : T.par c ≠ -2) : (T.link c p).Fit := by
  refine ⟨h.n, h.wt, fun x hx => ?_⟩
  by_cases e : x = c
  · subst e; simp [Tr.link, updF] at hx
  · exact h.zero x (by simpa [Tr.link, updF, e] using hx)

/- A kid becomes a root. -/
theorem Tr.Wf.cut_out (h : T.Wf) (hu : T.par u ≠ -2) (hn : c ∉ T.up u) : Up (T.cut c).par u (T.up u) :=
  (h.spec hu).frame fun y hy => updF_other _ _ fun e => hn (e ▸ hy)
theorem Tr.Wf.cut_in (h : T.Wf) (e : T.up u = a ++ c :: b) : Up (T.cut c).par u (a ++ [c]) := by
  have h0 := h.spec (v := u) (Tr.there (x := c) (by rw [e]; simp))
  rw [e] at h0
  exact h0.pre (fun y hy => updF_other _ _ fun e => h0.first.1 (e ▸ hy)) (.root (updF_same _ _ _))
theorem Tr.Wf.cut (h : T.Wf) (hc : T.par c ≠ -2) : (T.cut c).Wf := by
  have k : ∀ x, (T.cut c).par x ≠ -2 → T.par x ≠ -2 := fun x hx => by
    by_cases e : x = c
    · subst e; exact hc
    · simpa [Tr.cut, updF, e] using hx
  refine ⟨fun x hx => h.lt x (k x hx), fun x hx => ?_⟩
  by_cases hm : c ∈ T.up x
  · obtain ⟨a, b, e⟩ := List.append_of_mem hm
    exact ⟨_, h.cut_in e⟩
  · exact ⟨_, h.cut_out (k x hx) hm⟩
theorem Tr.Fit.cut (h : T.Fit) (hc : T.par c ≠ -2) : (T.cut c).Fit := by
  refine ⟨h.n, h.wt, fun x hx => ?_⟩
  by_cases e : x = c
  · subst e; simp [Tr.cut, updF] at hx
  · exact h.zero x (by simpa [Tr.cut, updF, e] using hx)

/- A way up is turned round. -/
theorem evert_at {par : Nat → Int} : ∀ (n : Nat) {a b : List Nat} {x : Nat}, a.length = n → (a ++ x :: b).Nodup → Up (turn par (-1) (a ++ x :: b)) x (x :: a.reverse)
  | 0, a, b, x, hn, nd => by
    obtain rfl := List.length_eq_zero_iff.1 hn
    exact .root (by rw [turn_at nd]; simp)
  | n + 1, a, b, x, hn, nd => by
    have ha : a ≠ [] := fun e => by subst e; simp at hn
    have hp := turn_at (par := par) (b := -1) nd
    rw [if_neg ha] at hp
    have e2 : a = a.dropLast ++ [a.getLast ha] := (List.dropLast_concat_getLast ha).symm
    generalize a.dropLast = a', a.getLast ha = y at *
    subst e2
    rw [lastI_snoc] at hp
    rw [List.append_assoc] at nd hp ⊢
    rw [List.reverse_append]
    exact .step hp (evert_at n (by simpa using hn) nd)
theorem Tr.Wf.evert_out (h : T.Wf) (hu : T.par u ≠ -2) (hn : ∀ y ∈ T.up u, y ∉ T.up v) : Up (T.evert v).par u (T.up u) :=
  (h.spec hu).frame fun y hy => turn_out (hn y hy)
theorem Tr.Wf.evert_in {t : Nat} (h : T.Wf) (hm : Meet (T.up u) (T.up v) t a b cc) : Up (T.evert v).par u (a ++ t :: b.reverse) := by
  have h0 := h.spec (v := u) (Tr.there (x := t) (by rw [hm.el]; simp))
  have h1 := h.spec (v := v) (Tr.there (x := t) (by rw [hm.em]; simp))
  rw [hm.el] at h0
  refine h0.pre (fun y hy => turn_out (hm.ha y hy)) ?_
  have nd := h1.nodup
  unfold Tr.evert
  dsimp only
  rw [hm.em] at nd ⊢
  exact evert_at _ rfl nd
theorem Tr.Wf.evert_there (h : T.Wf) (hv : T.par v ≠ -2) : (T.evert v).par u = -2 ↔ T.par u = -2 := by
  by_cases hm : u ∈ T.up v
  · have h0 := h.spec hv
    obtain ⟨a, b, e⟩ := List.append_of_mem hm
    have nd := h0.nodup
    have k1 := h.there' hm
    have k2 : (T.evert v).par u = if a = [] then -1 else lastI a := by
      show turn T.par (-1) (T.up v) u = _
      rw [e] at nd ⊢
      exact turn_at nd
    have k3 : (T.evert v).par u ≠ -2 := by
      rw [k2]
      split
      · omega
      · rename_i ha
        obtain ⟨r, _, e⟩ := lastI_mem ha
        omega
    simp [k1, k3]
  · show turn T.par (-1) (T.up v) u = -2 ↔ _
    rw [turn_out hm]
theorem Tr.Wf.meets (h : T.Wf) (hu : T.par u ≠ -2) (hv : T.par v ≠ -2) : (∃ t a b c, Meet (T.up u) (T.up v) t a b c) ∨ ∀ y ∈ T.up u, y ∉ T.up v := by
  by_cases hn : ∃ y ∈ T.up u, y ∈ T.up v
  · obtain ⟨y, h1, h2⟩ := hn
    exact .inl (meet_of (h.spec hu) (h.spec hv) h1 h2)
  · exact .inr fun y h1 h2 => hn ⟨y, h1, h2⟩
theorem Tr.Wf.evert (h : T.Wf) (hv : T.par v ≠ -2) : (T.evert v).Wf := by
  have k : ∀ x, (T.evert v).par x ≠ -2 → T.par x ≠ -2 := fun x hx e => hx ((h.evert_there hv).2 e)
  refine ⟨fun x hx => h.lt x (k x hx), fun x hx => ?_⟩
  rcases h.meets (k x hx) hv with ⟨t, a, b, c, hm⟩ | hn
  · exact ⟨_, h.evert_in hm⟩
  · exact ⟨_, h.evert_out (k x hx) hn⟩
theorem Tr.Fit.evert (h : T.Fit) (hw : T.Wf) (hv : T.par v ≠ -2) : (T.evert v).Fit :=
  ⟨h.n, h.wt, fun x hx => h.zero x ((hw.evert_there hv).1 hx)⟩

/- Weights. -/
theorem Tr.Wf.set (h : T.Wf) : (T.set v w).Wf := ⟨h.lt, h.up⟩
theorem Tr.Fit.set (h : T.Fit) (hv : T.par v ≠ -2) (hw : -1099511627776 ≤ w ∧ w ≤ 1099511627776) : (T.set v w).Fit := by
  refine ⟨h.n, fun x => ?_, fun x hx => ?_⟩
  · by_cases e : x = v
    · subst e; simpa [Tr.set, updF] using hw
    · simpa [Tr.set, updF, e] using h.wt x
  · have : x ≠ v := fun e => hv (e ▸ hx)
    simp [Tr.set, updF, this]; exact h.zero x hx
theorem Tr.Wf.raise (h : T.Wf) {l : List Nat} : (T.raise l w).Wf := ⟨h.lt, h.up⟩
theorem Tr.Fit.raise (h : T.Fit) {l : List Nat} (hl : ∀ x ∈ l, T.par x ≠ -2 ∧ -1099511627776 ≤ T.wt x + w ∧ T.wt x + w ≤ 1099511627776) : (T.raise l w).Fit := by
  refine ⟨h.n, fun x => ?_, fun x hx => ?_⟩
  · by_cases e : x ∈ l
    · simpa [Tr.raise, raiseF, e] using (hl x e).2
    · simpa [Tr.raise, raiseF, e] using h.wt x
  · have : x ∉ l := fun e => (hl x e).1 hx
    simp [Tr.raise, raiseF, this]; exact h.zero x hx

/-- A forest with none there. -/
def Tr.new (n : Nat) : Tr := ⟨n, fun _ => -2, fun _ => 0⟩
theorem Tr.Wf.new (n : Nat) : (Tr.new n).Wf := ⟨fun _ h => absurd rfl h, fun _ h => absurd rfl h⟩
theorem Tr.Fit.new {n : Nat} (h : n ≤ 1048576) : (Tr.new n).Fit := ⟨h, fun _ => by simp [Tr.new], fun _ _ => rfl⟩
end
end Go.Proofs.Ytbcibdofcjehcaa

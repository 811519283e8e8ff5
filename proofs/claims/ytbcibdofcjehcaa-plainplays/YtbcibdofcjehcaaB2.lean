/- Code walked over a frame that is a letter: only what some slots hold is known, by a list. Nothing of the dump. -/
import Derived.Deep.RegionHeld3
namespace Go.Arb
set_option linter.unusedVariables false
set_option linter.unusedSimpArgs false
section
variable {P : Program} {ops : Array Oper} {Q : Exit → Act → World → Prop} {S : World → Prop} {a : Act} {w w' : World} {s d n : Nat} {u v : Value} {o : Oper} {L L' : List (Nat × Value)}
/-- What the list says of a slot: the first entry counts. -/
def look : List (Nat × Value) → Nat → Option Value
  | [], _ => none
  | (k, v) :: l, s => bif Nat.beq k s then some v else look l s
/-- A frame of n slots, of which the list tells what some hold. -/
structure Kn (a : Act) (n : Nat) (L : List (Nat × Value)) : Prop where
  size : a.tmps.size = n
  defers : a.defers = []
  has : ∀ s v, look L s = some v → a.tmps[s]? = some v
theorem Kn.ev (h : Kn a n L) (hs : look L s = some v) : a.eval (.tmp s) = v := by
  have := h.has s v hs
  simp [Act.eval, this]
theorem Kn.put (h : Kn a n L) (hd : Nat.blt d n = true) : Kn (a.put (some d) v) n ((d, v) :: L) := by
  have hd' : d < n := by simpa [Nat.blt_eq] using hd
  refine ⟨by simp [Act.put, h.size], h.defers, fun s x hx => ?_⟩
  unfold look at hx
  cases e : Nat.beq d s
  · rw [e] at hx
    have : d ≠ s := fun c => by subst c; simp at e
    simpa [Act.put, Array.getElem?_setIfInBounds, this] using h.has s x hx
  · rw [e] at hx
    have : d = s := Nat.eq_of_beq_eq_true e
    subst this
    have hx' : v = x := by simpa using hx
    subst hx'
    simp [Act.put, h.size, hd']
/-- One list says no more than another one. -/
def Less (L : List (Nat × Value)) : List (Nat × Value) → Prop
  | [] => True
  | (s, v) :: r => look L s = some v ∧ Less L r
theorem Less.look : ∀ {r : List (Nat × Value)}, Less L r → look r s = some v → look L s = some v
  | [], _, h => by cases h
  | (k, x) :: r, h, hl => by
    unfold Go.Arb.look at hl
    cases e : Nat.beq k s
    · rw [e] at hl; exact h.2.look hl
    · rw [e] at hl
      have : k = s := Nat.eq_of_beq_eq_true e
      subst this
      have hx' : x = v := by simpa using hl
      subst hx'
      exact h.1
theorem Kn.less (h : Kn a n L) (hs : Less L L') : Kn a n L' := ⟨h.size, h.defers, fun s v hv => h.has s v (hs.look hv)⟩
theorem want_none (h : o.guard = none) {y : Nat → Option Bool} : Region.wanted o y = true := by simp [Region.wanted, h]
theorem want_some (hk : Kn a n L) {j : Nat} {b : Bool} (hg : o.guard = some (j, b)) (hd : (ops[j]?).bind (·.dst) = some d) (hv : look L d = some (.bool b)) : Region.wanted o (yielded ops a.tmps) = true := by
  have := hk.has d _ hv
  simp [Region.wanted, hg, yielded, hd, this]
theorem want_not (hk : Kn a n L) {j : Nat} {b c : Bool} (hg : o.guard = some (j, b)) (hd : (ops[j]?).bind (·.dst) = some d) (hv : look L d = some (.bool c)) (hne : c ≠ b) : Region.wanted o (yielded ops a.tmps) = false := by
  have := hk.has d _ hv
  simp [Region.wanted, hg, yielded, hd, this, hne]
/-- What an operation may know of the frame. -/
structure Sees (L : List (Nat × Value)) (ev : Operand → Value) : Prop where
  tmp : ∀ s v, look L s = some v → ev (.tmp s) = v
  const : ∀ c, ev (.const c) = c
  func : ∀ f, ev (.func f) = .func (.func f) #[] #[]
theorem Kn.sees (h : Kn a n L) : Sees L a.eval := ⟨fun s v hv => h.ev hv, fun _ => rfl, fun _ => rfl⟩

/-! A statement whose order is told. -/
theorem ltake {rest : List Oper} (hk : Kn a n L) (ho : o.dst = some d) (hd : Nat.blt d n = true) (hw : Region.wanted o (yielded ops a.tmps) = true)
    (hy : ∀ ev, Sees L ev → (execOp ev o).run P w = .ok (.value v) w') (h : ∀ a', Kn a' n ((d, v) :: L) → wpList P ops Q rest a' w') : wpList P ops Q (o :: rest) a w :=
  wpList_step fun K hK => by
    rw [if_pos hw]
    unfold Oper.wp
    rw [hy _ hk.sees, Oper.upon_value, ho]
    exact hK _ _ (h _ (hk.put hd))
theorem lstore {rest : List Oper} (hk : Kn a n L) (ho : o.dst = none) (hw : Region.wanted o (yielded ops a.tmps) = true)
    (hy : ∀ ev, Sees L ev → (execOp ev o).run P w = .ok .skip w') (h : wpList P ops Q rest a w') : wpList P ops Q (o :: rest) a w :=
  wpList_step fun K hK => by
    rw [if_pos hw]
    unfold Oper.wp
    rw [hy _ hk.sees, Oper.upon_skip, ho]
    exact hK _ _ h
theorem lskip {rest : List Oper} (hk : Kn a n L) (ho : o.dst = some d) (hd : Nat.blt d n = true) (hw : Region.wanted o (yielded ops a.tmps) = false)
    (h : ∀ a', Kn a' n ((d, undef) :: L) → wpList P ops Q rest a' w) : wpList P ops Q (o :: rest) a w :=
  wpList_step fun K hK => by
    rw [if_neg (by rw [hw]; exact Bool.false_ne_true), ho]
    exact hK _ _ (h _ (hk.put hd))
theorem lcall {rest : List Oper} {f : FuncId} {args : Array Value} {R : Ending → World → Prop} (hk : Kn a n L) (ho : o.dst = some d) (hd : Nat.blt d n = true) (hw : Region.wanted o (yielded ops a.tmps) = true)
    (hy : ∀ ev, Sees L ev → (execOp ev o).run P w = .ok (.enter f args) w) (hc : Calls P f args w R)
    (h : ∀ e w', R e w' → ∃ v, e = .returned v ∧ ∀ a', Kn a' n ((d, v) :: L) → wpList P ops Q rest a' w') : wpList P ops Q (o :: rest) a w :=
  wpList_step fun K hK => by
    rw [if_pos hw]
    unfold Oper.wp
    rw [hy _ hk.sees, Oper.upon_enter, ho]
    refine hc.mono ?_
    intro e w' hr
    obtain ⟨v, rfl, h'⟩ := h e w' hr
    exact hK _ _ (h' _ (hk.put hd))

/-! A drawn one. -/
theorem dtake {i fuel : Nat} {l1 l2 : Array Bool} (hk : Kn a n L) (hq : ∀ c a a' w, Q (.panic c) a w → Q (.panic c) a' w) (hi : ops[i]? = some o) (hs : Region.noSelect ops = true) (hf : Region.free .any ops l1 i = true) (hr : (Region.ready .any ops l1).contains i = true)
    (hl : l1.setIfInBounds i true = l2) (ho : o.dst = some d) (hd : Nat.blt d n = true) (hw : Region.wanted o (yielded ops a.tmps) = true) (hy : ∀ ev, Sees L ev → ∀ w, S w → (execOp ev o).run P w = .ok (.value v) w) (hS : S w)
    (h : ∀ a', Kn a' n ((d, v) :: L) → wpAnyH P .any ops Q S fuel l2 a' w) : wpAnyH P .any ops Q S (fuel + 1) l1 a w := by
  subst hl
  refine wpAnyH_take hi hs hf hr (fun c a w h => hq c _ _ w h) (Or.inl ⟨hw, hy _ hk.sees⟩) hS ?_
  rw [ho]
  exact h _ (hk.put hd)
theorem dcall {i fuel : Nat} {l1 l2 : Array Bool} {f : FuncId} {args : Array Value} {R : Ending → World → Prop} (hk : Kn a n L) (hi : ops[i]? = some o) (hr : Region.ready .any ops l1 = [i])
    (hl : l1.setIfInBounds i true = l2) (ho : o.dst = some d) (hd : Nat.blt d n = true) (hw : Region.wanted o (yielded ops a.tmps) = true) (hy : ∀ ev, Sees L ev → (execOp ev o).run P w = .ok (.enter f args) w) (hc : Calls P f args w R)
    (h : ∀ e w', R e w' → ∃ v, e = .returned v ∧ S w' ∧ ∀ a', Kn a' n ((d, v) :: L) → wpAnyH P .any ops Q S fuel l2 a' w') : wpAnyH P .any ops Q S (fuel + 1) l1 a w := by
  subst hl
  refine wpAnyH_ready hr (by simp) (AllReadyH.cons hi (fun K hK => ?_) AllReadyH.nil)
  rw [if_pos hw]
  unfold Oper.wp
  rw [hy _ hk.sees, Oper.upon_enter, ho]
  refine hc.mono ?_
  intro e w' hr
  obtain ⟨v, rfl, h1, h2⟩ := h e w' hr
  exact hK.out _ _ h1 (fun _ => h2 _ (hk.put hd))
theorem Kn.of (h1 : a.tmps.size = n) (h2 : a.defers = []) (h : ∀ x ∈ L, a.tmps[x.1]? = some x.2) : Kn a n L := by
  refine ⟨h1, h2, ?_⟩
  induction L with
  | nil => intro s v h; cases h
  | cons x l ih =>
    intro s v hv
    rw [List.forall_mem_cons] at h
    unfold look at hv
    cases e : Nat.beq x.1 s
    · rw [e] at hv; exact ih h.2 s v hv
    · rw [e] at hv
      have e' : x.1 = s := Nat.eq_of_beq_eq_true e
      have hx' : x.2 = v := by simpa using hv
      rw [← e', ← hx']
      exact h.1
theorem knCond {x y : Code} {b : Bool} (hk : Kn a n L) (hs : look L s = some (.bool b)) (h : (if b then x else y).wp P Q a w) : (Code.cond (.tmp s) x y).wp P Q a w := wp_cond (hk.ev hs) h
end
end Go.Arb

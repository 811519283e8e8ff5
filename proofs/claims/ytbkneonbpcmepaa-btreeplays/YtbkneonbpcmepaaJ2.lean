/- Code walked over a frame that is a letter: only what some slots hold is known, by a list. Nothing of the dump. -/
import Derived.Deep.RegionHeld3
import Derived.StillTail
import Derived.Test.YtbkneonbpcmepaaJ1
namespace Go.Arb
set_option linter.unusedVariables false
set_option linter.unusedSimpArgs false
section
variable {P : Program} {ops : Array Oper} {Q : Exit → Act → World → Prop} {S : World → Prop} {a : Act} {w w' : World} {s d n : Nat} {u v : Value} {o : Oper} {L L' : List (Nat × Value)}
/-- What the list says of a slot: the first entry counts. -/
def look : List (Nat × Value) → Nat → Option Value
  | [], _ => none
  | (k, v) :: l, s => bif Nat.beq k s then some v else look l s
/-- A frame of n slots, of which the list tells what some hold. -/
structure Kb (a : Act) (n : Nat) (L : List (Nat × Value)) : Prop where
  size : a.tmps.size = n
  defers : a.defers = []
  has : ∀ s v, look L s = some v → a.tmps[s]? = some v
theorem Kb.ev (h : Kb a n L) (hs : look L s = some v) : a.eval (.tmp s) = v := by
  have := h.has s v hs
  simp [Act.eval, this]
theorem Kb.put (h : Kb a n L) (hd : Nat.blt d n = true) : Kb (a.put (some d) v) n ((d, v) :: L) := by
  have hd' : d < n := by simpa [Nat.blt_eq] using hd
  refine ⟨by simp [Act.put, h.size], h.defers, fun s x hx => ?_⟩
  unfold look at hx
  cases e : Nat.beq d s
  · rw [e] at hx
    have : d ≠ s := fun c => by subst c; simp at e
    simpa [Act.put, Array.getElem?_setIfInBounds, this] using h.has s x hx
  · rw [e] at hx
    have : d = s := Nat.eq_of_beq_eq_true e
    subst this
    have hx' : v = x := by simpa using hx
    subst hx'
    simp [Act.put, h.size, hd']
/-- One list says no more than another one. -/
def Less (L : List (Nat × Value)) : List (Nat × Value) → Prop
  | [] => True
  | (s, v) :: r => look L s = some v ∧ Less L r
theorem Less.look : ∀ {r : List (Nat × Value)}, Less L r → look r s = some v → look L s = some v
  | [], _, h => by cases h
  | (k, x) :: r, h, hl => by
    unfold Go.Arb.look at hl
    cases e : Nat.beq k s
    · rw [e] at hl; exact h.2.look hl
    · rw [e] at hl
      have : k = s := Nat.eq_of_beq_eq_true e
      subst this
      have hx' : x = v := by simpa using hl
      subst hx'
      exact h.1
theorem Kb.less (h : Kb a n L) (hs : Less L L') : Kb a n L' := ⟨h.size, h.defers, fun s v hv => h.has s v (hs.look hv)⟩
theorem want_none (h : o.guard = none) {y : Nat → Option Bool} : Region.wanted o y = true := by simp [Region.wanted, h]
theorem want_some (hk : Kb a n L) {j : Nat} {b : Bool} (hg : o.guard = some (j, b)) (hd : (ops[j]?).bind (·.dst) = some d) (hv : look L d = some (.bool b)) : Region.wanted o (yielded ops a.tmps) = true := by
  have := hk.has d _ hv
  simp [Region.wanted, hg, yielded, hd, this]
theorem want_not (hk : Kb a n L) {j : Nat} {b c : Bool} (hg : o.guard = some (j, b)) (hd : (ops[j]?).bind (·.dst) = some d) (hv : look L d = some (.bool c)) (hne : c ≠ b) : Region.wanted o (yielded ops a.tmps) = false := by
  have := hk.has d _ hv
  simp [Region.wanted, hg, yielded, hd, this, hne]
/-- What an operation may know of the frame. -/
structure Sees (L : List (Nat × Value)) (ev : Operand → Value) : Prop where
  tmp : ∀ s v, look L s = some v → ev (.tmp s) = v
  const : ∀ c, ev (.const c) = c
  func : ∀ f, ev (.func f) = .func (.func f) #[] #[]
theorem Kb.sees (h : Kb a n L) : Sees L a.eval := ⟨fun s v hv => h.ev hv, fun _ => rfl, fun _ => rfl⟩

/-! A statement whose order is told. -/
theorem ltake {rest : List Oper} (hk : Kb a n L) (ho : o.dst = some d) (hd : Nat.blt d n = true) (hw : Region.wanted o (yielded ops a.tmps) = true)
    (hy : ∀ ev, Sees L ev → (execOp ev o).run P w = .ok (.value v) w') (h : ∀ a', Kb a' n ((d, v) :: L) → wpList P ops Q rest a' w') : wpList P ops Q (o :: rest) a w :=
  wpList_step fun K hK => by
    rw [if_pos hw]
    unfold Oper.wp
    rw [hy _ hk.sees, Oper.upon_value, ho]
    exact hK _ _ (h _ (hk.put hd))
theorem lstore {rest : List Oper} (hk : Kb a n L) (ho : o.dst = none) (hw : Region.wanted o (yielded ops a.tmps) = true)
    (hy : ∀ ev, Sees L ev → (execOp ev o).run P w = .ok .skip w') (h : wpList P ops Q rest a w') : wpList P ops Q (o :: rest) a w :=
  wpList_step fun K hK => by
    rw [if_pos hw]
    unfold Oper.wp
    rw [hy _ hk.sees, Oper.upon_skip, ho]
    exact hK _ _ h
theorem lskip {rest : List Oper} (hk : Kb a n L) (ho : o.dst = some d) (hd : Nat.blt d n = true) (hw : Region.wanted o (yielded ops a.tmps) = false)
    (h : ∀ a', Kb a' n ((d, undef) :: L) → wpList P ops Q rest a' w) : wpList P ops Q (o :: rest) a w :=
  wpList_step fun K hK => by
    rw [if_neg (by rw [hw]; exact Bool.false_ne_true), ho]
    exact hK _ _ (h _ (hk.put hd))
theorem lcall {rest : List Oper} {f : FuncId} {args : Array Value} {R : Ending → World → Prop} (hk : Kb a n L) (ho : o.dst = some d) (hd : Nat.blt d n = true) (hw : Region.wanted o (yielded ops a.tmps) = true)
    (hy : ∀ ev, Sees L ev → (execOp ev o).run P w = .ok (.enter f args) w) (hc : Calls P f args w R)
    (h : ∀ e w', R e w' → ∃ v, e = .returned v ∧ ∀ a', Kb a' n ((d, v) :: L) → wpList P ops Q rest a' w') : wpList P ops Q (o :: rest) a w :=
  wpList_step fun K hK => by
    rw [if_pos hw]
    unfold Oper.wp
    rw [hy _ hk.sees, Oper.upon_enter, ho]
    refine hc.mono ?_
    intro e w' hr
    obtain ⟨v, rfl, h'⟩ := h e w' hr
    exact hK _ _ (h' _ (hk.put hd))

/-! A drawn one. -/
theorem dtake {i fuel : Nat} {l1 l2 : Array Bool} (hk : Kb a n L) (hq : ∀ c a a' w, Q (.panic c) a w → Q (.panic c) a' w) (hi : ops[i]? = some o) (hs : Region.noSelect ops = true) (hf : Region.free .any ops l1 i = true) (hr : (Region.ready .any ops l1).contains i = true)
    (hl : l1.setIfInBounds i true = l2) (ho : o.dst = some d) (hd : Nat.blt d n = true) (hw : Region.wanted o (yielded ops a.tmps) = true) (hy : ∀ ev, Sees L ev → ∀ w, S w → (execOp ev o).run P w = .ok (.value v) w) (hS : S w)
    (h : ∀ a', Kb a' n ((d, v) :: L) → wpAnyH P .any ops Q S fuel l2 a' w) : wpAnyH P .any ops Q S (fuel + 1) l1 a w := by
  subst hl
  refine wpAnyH_take hi hs hf hr (fun c a w h => hq c _ _ w h) (Or.inl ⟨hw, hy _ hk.sees⟩) hS ?_
  rw [ho]
  exact h _ (hk.put hd)
theorem dcall {i fuel : Nat} {l1 l2 : Array Bool} {f : FuncId} {args : Array Value} {R : Ending → World → Prop} (hk : Kb a n L) (hi : ops[i]? = some o) (hr : Region.ready .any ops l1 = [i])
    (hl : l1.setIfInBounds i true = l2) (ho : o.dst = some d) (hd : Nat.blt d n = true) (hw : Region.wanted o (yielded ops a.tmps) = true) (hy : ∀ ev, Sees L ev → (execOp ev o).run P w = .ok (.enter f args) w) (hc : Calls P f args w R)
    (h : ∀ e w', R e w' → ∃ v, e = .returned v ∧ S w' ∧ ∀ a', Kb a' n ((d, v) :: L) → wpAnyH P .any ops Q S fuel l2 a' w') : wpAnyH P .any ops Q S (fuel + 1) l1 a w := by
  subst hl
  refine wpAnyH_ready hr (by simp) (AllReadyH.cons hi (fun K hK => ?_) AllReadyH.nil)
  rw [if_pos hw]
  unfold Oper.wp
  rw [hy _ hk.sees, Oper.upon_enter, ho]
  refine hc.mono ?_
  intro e w' hr
  obtain ⟨v, rfl, h1, h2⟩ := h e w' hr
  exact hK.out _ _ h1 (fun _ => h2 _ (hk.put hd))
theorem Kb.of (h1 : a.tmps.size = n) (h2 : a.defers = []) (h : ∀ x ∈ L, a.tmps[x.1]? = some x.2) : Kb a n L := by
  refine ⟨h1, h2, ?_⟩
  induction L with
  | nil => intro s v h; cases h
  | cons x l ih =>
    intro s v hv
    rw [List.forall_mem_cons] at h
    unfold look at hv
    cases e : Nat.beq x.1 s
    · rw [e] at hv; exact ih h.2 s v hv
    · rw [e] at hv
      have e' : x.1 = s := Nat.eq_of_beq_eq_true e
      have hx' : x.2 = v := by simpa using hv
      rw [← e', ← hx']
      exact h.1
theorem knCond {x y : Code} {b : Bool} (hk : Kb a n L) (hs : look L s = some (.bool b)) (h : (if b then x else y).wp P Q a w) : (Code.cond (.tmp s) x y).wp P Q a w := wp_cond (hk.ev hs) h
end
end Go.Arb
/- A drawn statement whose last store changes what it read: what the reads lean on holds till that store. Nothing of the dump. -/

namespace Go.Arb
set_option linter.unusedVariables false
set_option linter.unusedSimpArgs false
section
variable {P : Program} {ops : Array Oper} {Q : Exit → Act → World → Prop} {S : World → Prop} {a : Act} {w w' : World} {s d n : Nat} {u v : Value} {o : Oper} {L L' : List (Nat × Value)}
/-- Whichever comes up next: till operation t has come up, S holds. -/
def wpTill (P : Program) (ops : Array Oper) (Q : Exit → Act → World → Prop) (t : Nat) (S : World → Prop) : Nat → Array Bool → Act → World → Prop
  | 0, l, a, w => Region.ready .any ops l = [] ∧ Q .normal a w
  | f + 1, l, a, w => (Region.ready .any ops l = [] → Q .normal a w) ∧
      ∀ i ∈ Region.ready .any ops l, wpOp P ops Q i (fun a' w' => ((l.setIfInBounds i true).getD t true = false → S w') ∧ wpTill P ops Q t S f (l.setIfInBounds i true) a' w') a w
theorem wpAny_of_till {t : Nat} : ∀ (f : Nat) (l : Array Bool) (a : Act) (w : World), wpTill P ops Q t S f l a w → wpAny P .any ops Q f l a w
  | 0, _, _, _, h => h
  | f + 1, _, _, _, h => ⟨h.1, fun i hi => wpOp_mono (fun a' w' h' => wpAny_of_till f _ a' w' h'.2) (h.2 i hi)⟩
theorem till_first {t i : Nat} {oi : Oper} (hi : ops[i]? = some oi) (hsel : ∀ (j : Nat) (o : Oper) cs b, ops[j]? = some o → o.op ≠ .select cs b) (hwt : Region.waitsFor .any ops t i = true)
    (hQ : ∀ c a w, Q (.panic c) (a.put oi.dst v) w → Q (.panic c) a w) :
    ∀ (f : Nat) (l : Array Bool) (a : Act) (w : World),
      (∀ j oj, ops[j]? = some oj → j ≠ i → l.getD j true = false → (∀ e ∈ oj.after, Region.binds .any e = true → e.on ≠ i) → oi.apart ops oj = true) →
      i ∈ Region.ready .any ops l → l.getD t true = false → YieldsIf P ops S oi v a → S w →
      wpTill P ops Q t S f (l.setIfInBounds i true) (a.put oi.dst v) w → wpTill P ops Q t S (f + 1) l a w := by
  have notT : ∀ (l : Array Bool), i ∈ Region.ready .any ops l → ∀ j ∈ Region.ready .any ops l, j ≠ t := by
    rintro l hr j hj rfl
    obtain ⟨ot, hot, e, he, hb, hon⟩ := Region.waitsFor_spec hwt
    obtain ⟨_, oj, hoj, hall⟩ := mem_ready.1 hj
    rw [hot] at hoj
    obtain rfl := Option.some.inj hoj
    have h1 := hall e he hb
    have h0 := (mem_ready.1 hr).1
    rw [hon] at h1
    rcases Nat.lt_or_ge i l.size with h' | h'
    · simp [h'] at h0 h1; rw [h0] at h1; cases h1
    · simp [Array.getElem?_eq_none h'] at h1
  intro f
  induction f with
  | zero =>
    intro l a w _ hr ht hy hS H
    refine ⟨fun h => (by rw [h] at hr; cases hr), fun j hj => ?_⟩
    by_cases hji : j = i
    · subst hji; exact hy.wpOp hi hS ⟨fun _ => hS, H⟩
    · have := ready_mono hj hji
      rw [H.1] at this
      cases this
  | succ f ih =>
    intro l a w hfree hr ht hy hS H
    refine ⟨fun h => (by rw [h] at hr; cases hr), fun j hj => ?_⟩
    by_cases hji : j = i
    · subst hji; exact hy.wpOp hi hS ⟨fun _ => hS, H⟩
    · have h1 := H.2 j (ready_mono hj hji)
      obtain ⟨hjun, oj, hoj, hall⟩ := mem_ready.1 hj
      have hnot : ∀ e ∈ oj.after, Region.binds .any e = true → e.on ≠ i := fun e he hb heq => by
        have h1 := hall e he hb
        have h0 := (mem_ready.1 hr).1
        rw [heq] at h1
        rcases Nat.lt_or_ge i l.size with h' | h'
        · simp [h'] at h0 h1; rw [h0] at h1; cases h1
        · simp [Array.getElem?_eq_none h'] at h1
      have hjt : j ≠ t := notT l hr j hj
      have hit : i ≠ t := notT l hr i hr
      have h2 := wpOp_putIf hoj (hfree j oj hoj hji hjun hnot) (fun cs b => hsel i oi cs b hi) (fun cs b => hsel j oj cs b hoj) hQ hy h1
      have hfree' : ∀ k ok, ops[k]? = some ok → k ≠ i → (l.setIfInBounds j true).getD k true = false →
          (∀ e ∈ ok.after, Region.binds .any e = true → e.on ≠ i) → oi.apart ops ok = true := fun k ok hk hki hun hno => by
        refine hfree k ok hk hki ?_ hno
        by_cases hjk : j = k
        · subst hjk; exact hjun
        · rw [getD_set_ne true hjk] at hun; exact hun
      have t1 : (l.setIfInBounds j true).getD t true = false := by rw [getD_set_ne true hjt]; exact ht
      have t2 : ((l.setIfInBounds i true).setIfInBounds j true).getD t true = false := by rw [getD_set_ne true hjt, getD_set_ne true hit]; exact ht
      refine wpOp_mono (fun a' w' h3 => ⟨fun _ => h3.2.1 t2, ih (l.setIfInBounds j true) a' w' hfree' (ready_mono hr (Ne.symm hji)) t1 h3.1 (h3.2.1 t2) ?_⟩) h2
      rw [Array.setIfInBounds_comm _ _ hji]
      exact h3.2.2
/-- One that only reads is taken first. -/
theorem utake {i t f : Nat} {l1 l2 : Array Bool} (hk : Kb a n L) (hq : ∀ c a a' w, Q (.panic c) a w → Q (.panic c) a' w) (hi : ops[i]? = some o) (hs : Region.noSelect ops = true) (hf : Region.free .any ops l1 i = true) (hr : (Region.ready .any ops l1).contains i = true)
    (hwt : Region.waitsFor .any ops t i = true) (ht : l1.getD t true = false) (hl : l1.setIfInBounds i true = l2) (ho : o.dst = some d) (hd : Nat.blt d n = true) (hw : Region.wanted o (yielded ops a.tmps) = true) (hy : ∀ ev, Sees L ev → ∀ w, S w → (execOp ev o).run P w = .ok (.value v) w) (hS : S w)
    (h : ∀ a', Kb a' n ((d, v) :: L) → wpTill P ops Q t S f l2 a' w) : wpTill P ops Q t S (f + 1) l1 a w := by
  subst hl
  refine till_first hi (Region.noSelect_spec hs) hwt (fun c a w h => hq c _ _ w h) f l1 a w (Region.free_spec hi hf) (by simpa using hr) ht (Or.inl ⟨hw, hy _ hk.sees⟩) hS ?_
  rw [ho]
  exact h _ (hk.put hd)
/-- What an operation leaves. -/
def Lvs (P : Program) (Q : Exit → Act → World → Prop) (o : Oper) (a : Act) (w : World) (R : Value → World → Prop) : Prop := ∀ K : Act → World → Prop, (∀ v w', R v w' → K (a.put o.dst v) w') → o.wp P a w K Q
theorem leaves_value (hk : Kb a n L) (hy : ∀ ev, Sees L ev → (execOp ev o).run P w = .ok (.value v) w') : Lvs P Q o a w (fun x y => x = v ∧ y = w') := fun K hK => by
  unfold Oper.wp
  rw [hy _ hk.sees, Oper.upon_value]
  exact hK _ _ ⟨rfl, rfl⟩
theorem leaves_skip (hk : Kb a n L) (hy : ∀ ev, Sees L ev → (execOp ev o).run P w = .ok .skip w') : Lvs P Q o a w (fun x y => x = undef ∧ y = w') := fun K hK => by
  unfold Oper.wp
  rw [hy _ hk.sees, Oper.upon_skip]
  exact hK _ _ ⟨rfl, rfl⟩
theorem leaves_call {fn : FuncId} {args : Array Value} {R : Ending → World → Prop} (hk : Kb a n L) (hy : ∀ ev, Sees L ev → (execOp ev o).run P w = .ok (.enter fn args) w) (hc : Calls P fn args w R) (hR : ∀ e w', R e w' → ∃ v, e = .returned v) :
    Lvs P Q o a w (fun x y => R (.returned x) y) := fun K hK => by
  unfold Oper.wp
  rw [hy _ hk.sees, Oper.upon_enter]
  refine hc.mono ?_
  intro e w' hr
  obtain ⟨v, rfl⟩ := hR e w' hr
  exact hK _ _ hr
/-- The only one that may come up. -/
theorem uone {i t f : Nat} {l1 l2 : Array Bool} {R : Value → World → Prop} (hk : Kb a n L) (hi : ops[i]? = some o) (hr : Region.ready .any ops l1 = [i]) (hl : l1.setIfInBounds i true = l2) (ho : o.dst = some d) (hd : Nat.blt d n = true) (hw : Region.wanted o (yielded ops a.tmps) = true)
    (hy : Lvs P Q o a w R) (h : ∀ v w', R v w' → (l2.getD t true = false → S w') ∧ ∀ a', Kb a' n ((d, v) :: L) → wpTill P ops Q t S f l2 a' w') : wpTill P ops Q t S (f + 1) l1 a w := by
  subst hl
  refine ⟨fun h => (by rw [hr] at h; cases h), fun j hj => ?_⟩
  rw [hr] at hj
  obtain rfl : j = i := by simpa using hj
  refine wpOp_step hi (fun K hK => ?_)
  rw [if_pos hw]
  refine hy K (fun v w' hR => ?_)
  obtain ⟨h1, h2⟩ := h v w' hR
  refine hK _ _ ⟨h1, ?_⟩
  rw [ho]
  exact h2 _ (hk.put hd)
theorem ustore {i t f : Nat} {l1 l2 : Array Bool} {R : Value → World → Prop} (hk : Kb a n L) (hi : ops[i]? = some o) (hr : Region.ready .any ops l1 = [i]) (hl : l1.setIfInBounds i true = l2) (ho : o.dst = none) (hw : Region.wanted o (yielded ops a.tmps) = true)
    (hy : ∀ ev, Sees L ev → (execOp ev o).run P w = .ok .skip w') (h1 : l2.getD t true = false → S w') (h : wpTill P ops Q t S f l2 a w') : wpTill P ops Q t S (f + 1) l1 a w := by
  subst hl
  refine ⟨fun h => (by rw [hr] at h; cases h), fun j hj => ?_⟩
  rw [hr] at hj
  obtain rfl : j = i := by simpa using hj
  refine wpOp_step hi (fun K hK => ?_)
  rw [if_pos hw]
  refine leaves_skip hk hy K (fun v w' hR => ?_)
  obtain ⟨rfl, rfl⟩ := hR
  refine hK _ _ ⟨h1, ?_⟩
  rw [ho]
  exact h
theorem till_done {t : Nat} {l : Array Bool} (hr : Region.ready .any ops l = []) (h : Q .normal a w) : ∀ f, wpTill P ops Q t S f l a w
  | 0 => ⟨hr, h⟩
  | _ + 1 => ⟨fun _ => h, by rw [hr]; simp⟩
theorem wp_region_till {id t : Nat} (hm : P.follows .mixedOrders = true) (h : wpTill P ops Q t S ops.size (Array.replicate ops.size false) a w.drew) : (Code.region id ops true).wp P Q a w :=
  wp_region_any hm (wpAny_of_till _ _ _ _ h)
/-- The same where the order is told. -/
theorem ldo {rest : List Oper} {R : Value → World → Prop} (hk : Kb a n L) (ho : o.dst = some d) (hd : Nat.blt d n = true) (hw : Region.wanted o (yielded ops a.tmps) = true)
    (hy : Lvs P Q o a w R) (h : ∀ v w', R v w' → ∀ a', Kb a' n ((d, v) :: L) → wpList P ops Q rest a' w') : wpList P ops Q (o :: rest) a w :=
  wpList_step fun K hK => by
    rw [if_pos hw]
    refine hy K (fun v w' hR => hK _ _ ?_)
    rw [ho]
    exact h v w' hR _ (hk.put hd)
/-! Only reading, and a tail of its own order. -/
theorem stake {rest : List Oper} {Lq : Act → Prop} (hk : Kb a n L) (ho : o.dst = some d) (hd : Nat.blt d n = true) (hw : Region.wanted o (yielded ops a.tmps) = true)
    (hy : ∀ ev, Sees L ev → (execOp ev o).run P w = .ok (.value v) w) (h : ∀ a', Kb a' n ((d, v) :: L) → wpStill P ops w Lq rest a') : wpStill P ops w Lq (o :: rest) a :=
  wpStill_step fun K hK => by
    rw [if_pos hw]
    have := h _ (hk.put hd)
    unfold Oper.still
    rw [hy _ hk.sees, Oper.stillUpon_value, ho]
    exact hK _ this
end
end Go.Arb
/- The document's pool: two sequences become one. -/

namespace Go.Proofs.Ytbkneonbpcmepaa
open Go.RowKit Go.Arb
set_option linter.unusedVariables false
set_option linter.unusedSimpArgs false
set_option maxRecDepth 100000

/-- Behind a statement that ends as it should. -/
def Norm (R : Act → World → Prop) : Exit → Act → World → Prop
  | .normal, a, w => R a w
  | _, _, _ => False
theorem norm_q {NX : Act → World → Prop} : ∀ c a a' w, Norm NX (.panic c) a w → Norm NX (.panic c) a' w := fun _ _ _ _ h => h
theorem seqN {P : Program} {Q : Exit → Act → World → Prop} {a : Act} {w : World} {x y : Code} (h : x.wp P (Norm (fun a w => y.wp P Q a w)) a w) : (Code.seq x y).wp P Q a w :=
  wp_seq (Code.wp_mono (fun e a w h => by cases e <;> first | exact h | exact h.elim) h)
theorem lastN {P : Program} {Q : Exit → Act → World → Prop} {a : Act} {w : World} {x : Code} (h : x.wp P (Norm (fun a w => Q .normal a w)) a w) : x.wp P Q a w :=
  Code.wp_mono (fun e a w h => by cases e <;> first | exact h | exact h.elim) h
theorem info3 : ∃ i0, Try.prog.info? 3 = some i0 ∧ i0.zero = some (.int .i64 0) ∧ i0.size = 1 ∧ i0.bytes = 8 := by
  have : (Try.prog.info? 3).map (fun i => (i.zero, i.size, i.bytes)) = some (some (.int .i64 0), 1, 8) := by kernel_rfl
  obtain ⟨i0, a, b⟩ := Option.map_eq_some_iff.1 this
  simp only [Prod.mk.injEq] at b
  exact ⟨i0, a, b⟩
theorem und61 : Try.prog.underlying 61 = some (.slice 3) := by kernel_rfl
theorem und62 : Try.prog.underlying 62 = some (.slice 61) := by kernel_rfl
def ivs (l : List Nat) : List Value := l.map fun (v : Nat) => Value.int .i64 (v : Int)
theorem ivs_append (l m : List Nat) : ivs (l ++ m) = ivs l ++ ivs m := by simp [ivs]
theorem ivs_one (l : List Nat) : ∀ u ∈ ivs l, u.oneCell' = true := fun u hu => by
  obtain ⟨v, _, rfl⟩ := List.mem_map.1 hu
  rfl
theorem Hd.src {w : World} {u : Value} {l : List Nat} (h : Hd w u l) : Src w u l.length (ivs l) := by
  obtain ⟨b, cap, rfl, h1, h2, h3, h4⟩ := h
  refine .inr ⟨⟨b, 0, none⟩, cap, rfl, by simp [ivs], fun j x hj => ?_⟩
  have hj' := (List.getElem?_eq_some_iff.1 hj).1
  simp only [ivs, List.length_map] at hj'
  rw [add_none, Nat.zero_add, h4 j hj', ← hj]
  simp [ivs, hj', List.getD_eq_getElem?_getD]
theorem hd_row {W : World} {B n : Nat} {v : Value} {l : List Nat} (h : W.ownsRow B 3 1 v n (ivs l)) (hl : l ≠ []) : Hd W v l := by
  have hn : n = l.length := by have := h.1; simp [ivs] at this; omega
  subst hn
  obtain ⟨x, cap, hv, h1, h2, h3⟩ := row_form h
  obtain ⟨g, rfl, h4, _, h5⟩ := h3 (List.length_pos_iff.2 hl)
  refine ⟨g, cap, hv, h1, h2, h4, fun j hj => ?_⟩
  have hj' : j < (ivs l).length := by simpa [ivs] using hj
  rw [(h5 j (by omega)).1]
  simp [ivs, hj, List.getD_eq_getElem?_getD]
section
variable {P : Program} {Q : Exit → Act → World → Prop} {a : Act} {n : Nat} {L : List (Nat × Value)} {o : Oper}
theorem leaves_append {w : World} (hk : Kb a n L) (s x : Nat) (t : TypeId) (ho : o.op = .call { callee := .builtin .append, args := #[.tmp s, .tmp x], argTypes := #[t, t] })
    (base : Nat) (e : TypeId) (i : TypeInfo) (z : Value) (bytes : Nat) (ht : P.underlying t = some (.slice e)) (hi : P.info? e = some i) (hz : i.zero = some z)
    (hsize : i.size = 1) (hby : i.bytes = bytes) (hzs : z.cells.size = 1) {v : Value} {m : Nat} {xs : List Value} (hs : Go.Arb.look L s = some v) (hown : w.ownsRow base e 1 v m xs)
    {u : Value} {k : Nat} {ys : List Value} (hx : Go.Arb.look L x = some u) (hsrc : Src w u k ys) (h1 : ∀ u ∈ ys, u.oneCell' = true) (h63 : m + k ≤ maxLen) (hbytes : (m + k) * bytes ≤ 140737488355328) (hbase : base ≤ w.heap.size) :
    Lvs P Q o a w (fun v' w' => w'.ownsRow base e 1 v' (m + k) (xs ++ ys) ∧ w.grownBy w' v.ownBlock ∧ (v'.ownBlock = v.ownBlock ∨ v'.ownBlock = some w.heap.size)) := fun K hK =>
  wp_append_src w (.tmp s) (.tmp x) t ho base e i z bytes ht hi hz hsize hby hzs v m xs (hk.ev hs) hown u k ys (hk.ev hx) hsrc h1 h63 hbytes hbase (fun v' w' a b c => hK v' w' ⟨a, b, c⟩)
end
section
variable {w W1 W2 : World} {q bw n : Nat} {vL v' : Value} {hs us : List Value} {L ls : List (List Nat)} {fw : Nat → Int}
theorem RIn.push2 (h : RIn w q vL bw n hs L fw) (hb : Below w.heap.size w W1) (hu : us.length = ls.length) (hd : ∀ j, j < ls.length → Hd W1 (us.getD j undef) (ls.getD j [])) (hn : ∀ u ∈ us, ∀ b ∈ own u, b ≠ q ∧ b ≠ bw ∧ b ∉ own vL)
    (hgrow : W1.grownBy W2 vL.ownBlock) (hown : W2.ownsRow 0 61 1 v' (L.length + ls.length) (hs ++ us)) (hat : v'.ownBlock = vL.ownBlock ∨ v'.ownBlock = some W1.heap.size) :
    Pu w (W2.setCell ⟨q, 1, none⟩ v') q bw n vL v' (hs ++ us) (L ++ ls) fw := by
  have hq := (Array.getElem?_eq_some_iff.1 h.blk).1
  have hbw := h.rw.lt
  have hsz := hb.size
  have hlt := row_lt h.rl
  have K1 : Keep (own vL) w W2 := (Keep.ofBelow hb (own vL)).grown hgrow (fun k hk => .inl (mem_own.2 hk))
  have K12 : Keep (own vL) W1 W2 := (Keep.refl _ _).grown hgrow (fun k hk => .inl (mem_own.2 hk))
  have K2 : Keep [q] W2 (W2.setCell ⟨q, 1, none⟩ v') := (Keep.refl _ _).setCell (p := ⟨q, 1, none⟩) (.inl (by simp)) _
  have hov : ∀ k ∈ own v', k ∈ own vL ∨ k = W1.heap.size := fun k hk => by
    rw [mem_own] at hk
    rcases hat with e | e
    · left; rw [mem_own, ← e]; exact hk
    · right; rw [e] at hk; injection hk with hk; exact hk.symm
  have hul : ∀ u ∈ us, ∃ l, Hd W1 u l := fun u hm => by
    obtain ⟨j, hj, rfl⟩ := List.mem_iff_getElem.1 hm
    have := hd j (by omega)
    rw [List.getD_eq_getElem?_getD, List.getElem?_eq_getElem hj] at this
    exact ⟨_, this⟩
  have Ka : Keep (q :: own vL) w W2 := K1.mono (fun k hk => .inl (List.mem_cons_of_mem _ hk))
  have K3 : Keep (q :: own vL) w (W2.setCell ⟨q, 1, none⟩ v') := Ka.trans K2 (fun i hi => .inl (by simp at hi; simp [hi]))
  refine ⟨⟨?_, ?_, ?_, fun j hj => ?_, h.n1, fun hm => ?_, fun hm => ?_, fun u hm b hbm => ?_⟩, K3, fun k hk => ?_⟩
  · have := h.blk
    rw [← K1.block q hq h.n2] at this
    simp [World.setCell, Array.getElem?_modify, this]
  · have e : (L ++ ls).length = L.length + ls.length := by simp
    rw [e]
    refine row_keep hown K2 (fun k hk hm => ?_)
    simp at hm; subst hm
    rcases hov k hk with h1 | h1
    · exact h.n2 h1
    · omega
  · exact h.rw.of_block (K3.block _ hbw (by simp; exact ⟨fun e => h.n1 e.symm, h.n3⟩))
  · have hl := h.hl
    by_cases h1 : j < L.length
    · have := h.hd j h1
      rw [List.getD_eq_getElem?_getD, List.getD_eq_getElem?_getD] at this ⊢
      rw [List.getElem?_append_left (by omega), List.getElem?_append_left h1]
      refine this.keep K3 (fun k hk hm => ?_)
      rw [List.getElem?_eq_getElem (by omega)] at hk
      obtain ⟨a1, _, a3⟩ := h.n4 _ (List.getElem_mem (by omega)) k hk
      rcases List.mem_cons.1 hm with e | e
      · exact a1 e
      · exact a3 e
    · simp only [List.length_append] at hj
      have := hd (j - L.length) (by omega)
      rw [List.getD_eq_getElem?_getD, List.getD_eq_getElem?_getD] at this ⊢
      rw [List.getElem?_append_right (by omega), List.getElem?_append_right (by omega), hl]
      have hj' : j - L.length < us.length := by omega
      rw [List.getElem?_eq_getElem hj'] at this ⊢
      have hge := hn _ (List.getElem_mem hj')
      refine (this.keep K12 (fun k hk hm => ?_)).keep K2 (fun k hk hm => ?_)
      · exact (hge k hk).2.2 hm
      · simp at hm; subst hm; exact (hge k hk).1 rfl
  · rcases hov q hm with h1 | h1
    · exact h.n2 h1
    · omega
  · rcases hov bw hm with h1 | h1
    · exact h.n3 h1
    · omega
  · rcases List.mem_append.1 hm with hm | hm
    · obtain ⟨a1, a2, a3⟩ := h.n4 u hm b hbm
      refine ⟨a1, a2, fun hk => ?_⟩
      obtain ⟨l, hl'⟩ := h.hdm hm
      have := hl'.lt b hbm
      rcases hov b hk with h1 | h1
      · exact a3 h1
      · omega
    · have h1 := hn u hm b hbm
      obtain ⟨l, hl'⟩ := hul u hm
      have h2 := hl'.lt b hbm
      refine ⟨h1.1, h1.2.1, fun hk => ?_⟩
      rcases hov b hk with h3 | h3
      · exact h1.2.2 h3
      · omega
  · rcases hov k hk with h1 | h1
    · exact .inl h1
    · right; omega
end
def OPS20_0 : List Oper := [({ dst := (some 6), op := (Op.assign (Operand.const (Value.bool false))), type := 4, pos := "ref.go:111", after := #[], guard := none } : Oper)]
def OPS20_1 : List Oper := [({ dst := (some 13), op := (Op.move (Operand.tmp 0)), type := 25, pos := "ref.go:112", after := #[], guard := none } : Oper), ({ dst := (some 14), op := (Op.move (Operand.tmp 1)), type := 3, pos := "ref.go:112", after := #[], guard := none } : Oper), ({ dst := (some 15), op := (Op.call { callee := (Callee.value (Operand.func 48)), args := #[(Operand.tmp 13), (Operand.tmp 14)], argTypes := #[25, 3] }), type := 69, pos := "ref.go:112", after := #[{ on := 0, ground := Ground.data }, { on := 1, ground := Ground.data }], guard := none } : Oper), ({ dst := (some 12), op := (Op.move (Operand.tmp 15)), type := 69, pos := "ref.go:112", after := #[{ on := 2, ground := Ground.data }], guard := none } : Oper), ({ dst := (some 16), op := (Op.extract (Operand.tmp 12) 0), type := 3, pos := "ref.go:112", after := #[{ on := 3, ground := Ground.data }], guard := none } : Oper), ({ dst := (some 17), op := (Op.extract (Operand.tmp 12) 1), type := 3, pos := "ref.go:112", after := #[{ on := 3, ground := Ground.data }, { on := 6, ground := (Ground.gcOnly Departure.lateStores) }], guard := none } : Oper), ({ dst := (some 7), op := (Op.assign (Operand.tmp 16)), type := 3, pos := "ref.go:112", after := #[{ on := 4, ground := Ground.data }, { on := 2, ground := Ground.chain }, { on := 0, ground := Ground.phase }, { on := 1, ground := Ground.phase }, { on := 2, ground := Ground.phase }, { on := 3, ground := Ground.phase }, { on := 4, ground := Ground.phase }, { on := 5, ground := (Ground.textOnly Departure.lateStores) }], guard := none } : Oper), ({ dst := (some 8), op := (Op.assign (Operand.tmp 17)), type := 3, pos := "ref.go:112", after := #[{ on := 5, ground := Ground.data }, { on := 6, ground := Ground.chain }, { on := 0, ground := Ground.phase }, { on := 1, ground := Ground.phase }, { on := 2, ground := Ground.phase }, { on := 3, ground := Ground.phase }, { on := 4, ground := Ground.phase }, { on := 5, ground := Ground.phase }, { on := 6, ground := Ground.phase }], guard := none } : Oper)]
def OPS20_2 : List Oper := [({ dst := (some 19), op := (Op.move (Operand.tmp 0)), type := 25, pos := "ref.go:113", after := #[], guard := none } : Oper), ({ dst := (some 20), op := (Op.move (Operand.tmp 2)), type := 3, pos := "ref.go:113", after := #[], guard := none } : Oper), ({ dst := (some 21), op := (Op.call { callee := (Callee.value (Operand.func 48)), args := #[(Operand.tmp 19), (Operand.tmp 20)], argTypes := #[25, 3] }), type := 69, pos := "ref.go:113", after := #[{ on := 0, ground := Ground.data }, { on := 1, ground := Ground.data }], guard := none } : Oper), ({ dst := (some 18), op := (Op.move (Operand.tmp 21)), type := 69, pos := "ref.go:113", after := #[{ on := 2, ground := Ground.data }], guard := none } : Oper), ({ dst := (some 22), op := (Op.extract (Operand.tmp 18) 0), type := 3, pos := "ref.go:113", after := #[{ on := 3, ground := Ground.data }], guard := none } : Oper), ({ dst := (some 23), op := (Op.extract (Operand.tmp 18) 1), type := 3, pos := "ref.go:113", after := #[{ on := 3, ground := Ground.data }, { on := 6, ground := (Ground.gcOnly Departure.lateStores) }], guard := none } : Oper), ({ dst := (some 9), op := (Op.assign (Operand.tmp 22)), type := 3, pos := "ref.go:113", after := #[{ on := 4, ground := Ground.data }, { on := 2, ground := Ground.chain }, { on := 0, ground := Ground.phase }, { on := 1, ground := Ground.phase }, { on := 2, ground := Ground.phase }, { on := 3, ground := Ground.phase }, { on := 4, ground := Ground.phase }, { on := 5, ground := (Ground.textOnly Departure.lateStores) }], guard := none } : Oper), ({ dst := (some 10), op := (Op.assign (Operand.tmp 23)), type := 3, pos := "ref.go:113", after := #[{ on := 5, ground := Ground.data }, { on := 6, ground := Ground.chain }, { on := 0, ground := Ground.phase }, { on := 1, ground := Ground.phase }, { on := 2, ground := Ground.phase }, { on := 3, ground := Ground.phase }, { on := 4, ground := Ground.phase }, { on := 5, ground := Ground.phase }, { on := 6, ground := Ground.phase }], guard := none } : Oper)]
def OPS20_3 : List Oper := [({ dst := (some 24), op := (Op.move (Operand.tmp 7)), type := 3, pos := "ref.go:114", after := #[], guard := none } : Oper), ({ dst := (some 25), op := (Op.binOp BinOp.lss 3 (Operand.tmp 24) (Operand.const (Value.int IntKind.i64 0)) 3), type := 4, pos := "ref.go:114", after := #[{ on := 0, ground := Ground.data }], guard := none } : Oper), ({ dst := (some 26), op := (Op.move (Operand.tmp 25)), type := 4, pos := "ref.go:114", after := #[{ on := 1, ground := Ground.data }], guard := none } : Oper), ({ dst := (some 27), op := (Op.move (Operand.tmp 9)), type := 3, pos := "ref.go:114", after := #[{ on := 2, ground := Ground.guard }], guard := some (2, false) } : Oper), ({ dst := (some 28), op := (Op.binOp BinOp.lss 3 (Operand.tmp 27) (Operand.const (Value.int IntKind.i64 0)) 3), type := 4, pos := "ref.go:114", after := #[{ on := 3, ground := Ground.data }, { on := 2, ground := Ground.guard }], guard := some (2, false) } : Oper), ({ dst := (some 29), op := (Op.pick (Operand.tmp 26) (Operand.const (Value.bool true)) (Operand.tmp 28)), type := 4, pos := "ref.go:114", after := #[{ on := 2, ground := Ground.data }, { on := 4, ground := Ground.data }], guard := none } : Oper), ({ dst := (some 30), op := (Op.move (Operand.tmp 29)), type := 4, pos := "ref.go:114", after := #[{ on := 5, ground := Ground.data }, { on := 2, ground := Ground.chain }], guard := none } : Oper), ({ dst := (some 31), op := (Op.move (Operand.tmp 7)), type := 3, pos := "ref.go:114", after := #[{ on := 6, ground := Ground.guard }], guard := some (6, false) } : Oper), ({ dst := (some 32), op := (Op.move (Operand.tmp 9)), type := 3, pos := "ref.go:114", after := #[{ on := 6, ground := Ground.guard }], guard := some (6, false) } : Oper), ({ dst := (some 33), op := (Op.binOp BinOp.eql 3 (Operand.tmp 31) (Operand.tmp 32) 3), type := 4, pos := "ref.go:114", after := #[{ on := 7, ground := Ground.data }, { on := 8, ground := Ground.data }, { on := 6, ground := Ground.guard }], guard := some (6, false) } : Oper), ({ dst := (some 34), op := (Op.pick (Operand.tmp 30) (Operand.const (Value.bool true)) (Operand.tmp 33)), type := 4, pos := "ref.go:114", after := #[{ on := 6, ground := Ground.data }, { on := 9, ground := Ground.data }], guard := none } : Oper)]
def OPS20_4 : List Oper := [({ dst := (some 6), op := (Op.assign (Operand.const (Value.bool false))), type := 4, pos := "ref.go:115", after := #[], guard := none } : Oper)]
def OPS20_5 : List Oper := [({ dst := (some 35), op := (Op.buildSlice 61 0 #[]), type := 61, pos := "ref.go:117", after := #[], guard := none } : Oper), ({ dst := (some 36), op := (Op.move (Operand.tmp 0)), type := 25, pos := "ref.go:117", after := #[], guard := none } : Oper), ({ dst := (some 37), op := (Op.nilCheck (Operand.tmp 36)), type := 0, pos := "ref.go:117", after := #[{ on := 1, ground := Ground.data }], guard := none } : Oper), ({ dst := (some 38), op := (Op.fieldAddr 64 (Operand.tmp 37) 1), type := 0, pos := "ref.go:117", after := #[{ on := 2, ground := Ground.data }], guard := none } : Oper), ({ dst := (some 39), op := (Op.load 62 (Operand.tmp 38)), type := 62, pos := "ref.go:117", after := #[{ on := 3, ground := Ground.data }], guard := none } : Oper), ({ dst := (some 40), op := (Op.move (Operand.tmp 7)), type := 3, pos := "ref.go:117", after := #[], guard := none } : Oper), ({ dst := (some 41), op := (Op.indexAddr 62 (Operand.tmp 39) (Operand.tmp 40)), type := 0, pos := "ref.go:117", after := #[{ on := 4, ground := Ground.data }, { on := 5, ground := Ground.data }], guard := none } : Oper), ({ dst := (some 42), op := (Op.load 61 (Operand.tmp 41)), type := 61, pos := "ref.go:117", after := #[{ on := 6, ground := Ground.data }], guard := none } : Oper), ({ dst := (some 43), op := (Op.call { callee := (Callee.builtin Builtin.append), args := #[(Operand.tmp 35), (Operand.tmp 42)], argTypes := #[61, 61] }), type := 61, pos := "ref.go:117", after := #[{ on := 0, ground := Ground.data }, { on := 7, ground := Ground.data }], guard := none } : Oper), ({ dst := (some 44), op := (Op.move (Operand.tmp 0)), type := 25, pos := "ref.go:117", after := #[], guard := none } : Oper), ({ dst := (some 45), op := (Op.nilCheck (Operand.tmp 44)), type := 0, pos := "ref.go:117", after := #[{ on := 9, ground := Ground.data }], guard := none } : Oper), ({ dst := (some 46), op := (Op.fieldAddr 64 (Operand.tmp 45) 1), type := 0, pos := "ref.go:117", after := #[{ on := 10, ground := Ground.data }], guard := none } : Oper), ({ dst := (some 47), op := (Op.load 62 (Operand.tmp 46)), type := 62, pos := "ref.go:117", after := #[{ on := 11, ground := Ground.data }], guard := none } : Oper), ({ dst := (some 48), op := (Op.move (Operand.tmp 9)), type := 3, pos := "ref.go:117", after := #[], guard := none } : Oper), ({ dst := (some 49), op := (Op.indexAddr 62 (Operand.tmp 47) (Operand.tmp 48)), type := 0, pos := "ref.go:117", after := #[{ on := 12, ground := Ground.data }, { on := 13, ground := Ground.data }], guard := none } : Oper), ({ dst := (some 50), op := (Op.load 61 (Operand.tmp 49)), type := 61, pos := "ref.go:117", after := #[{ on := 14, ground := Ground.data }], guard := none } : Oper), ({ dst := (some 51), op := (Op.call { callee := (Callee.builtin Builtin.append), args := #[(Operand.tmp 43), (Operand.tmp 50)], argTypes := #[61, 61] }), type := 61, pos := "ref.go:117", after := #[{ on := 8, ground := Ground.data }, { on := 15, ground := Ground.data }, { on := 8, ground := Ground.chain }], guard := none } : Oper), ({ dst := (some 11), op := (Op.assign (Operand.tmp 51)), type := 61, pos := "ref.go:117", after := #[{ on := 16, ground := Ground.data }, { on := 16, ground := Ground.chain }, { on := 0, ground := Ground.phase }, { on := 1, ground := Ground.phase }, { on := 2, ground := Ground.phase }, { on := 3, ground := Ground.phase }, { on := 4, ground := Ground.phase }, { on := 5, ground := Ground.phase }, { on := 6, ground := Ground.phase }, { on := 7, ground := Ground.phase }, { on := 8, ground := Ground.phase }, { on := 9, ground := Ground.phase }, { on := 10, ground := Ground.phase }, { on := 11, ground := Ground.phase }, { on := 12, ground := Ground.phase }, { on := 13, ground := Ground.phase }, { on := 14, ground := Ground.phase }, { on := 15, ground := Ground.phase }, { on := 16, ground := Ground.phase }], guard := none } : Oper)]
theorem NS20_5 : Region.noSelect OPS20_5.toArray = true := by kernel_rfl
def OPS20_6 : List Oper := [({ dst := (some 52), op := (Op.move (Operand.tmp 0)), type := 25, pos := "ref.go:118", after := #[], guard := none } : Oper), ({ dst := (some 53), op := (Op.move (Operand.tmp 7)), type := 3, pos := "ref.go:118", after := #[], guard := none } : Oper), ({ dst := (some 54), op := (Op.move (Operand.tmp 9)), type := 3, pos := "ref.go:118", after := #[], guard := none } : Oper), ({ dst := (some 55), op := (Op.call { callee := (Callee.builtin Builtin.max), args := #[(Operand.tmp 53), (Operand.tmp 54)], argTypes := #[3, 3] }), type := 3, pos := "ref.go:118", after := #[{ on := 1, ground := Ground.data }, { on := 2, ground := Ground.data }], guard := none } : Oper), ({ dst := (some 56), op := (Op.call { callee := (Callee.value (Operand.func 49)), args := #[(Operand.tmp 52), (Operand.tmp 55)], argTypes := #[25, 3] }), type := 0, pos := "ref.go:118", after := #[{ on := 0, ground := Ground.data }, { on := 3, ground := Ground.data }], guard := none } : Oper)]
def OPS20_7 : List Oper := [({ dst := (some 57), op := (Op.move (Operand.tmp 0)), type := 25, pos := "ref.go:119", after := #[], guard := none } : Oper), ({ dst := (some 58), op := (Op.move (Operand.tmp 7)), type := 3, pos := "ref.go:119", after := #[], guard := none } : Oper), ({ dst := (some 59), op := (Op.move (Operand.tmp 9)), type := 3, pos := "ref.go:119", after := #[], guard := none } : Oper), ({ dst := (some 60), op := (Op.call { callee := (Callee.builtin Builtin.min), args := #[(Operand.tmp 58), (Operand.tmp 59)], argTypes := #[3, 3] }), type := 3, pos := "ref.go:119", after := #[{ on := 1, ground := Ground.data }, { on := 2, ground := Ground.data }], guard := none } : Oper), ({ dst := (some 61), op := (Op.call { callee := (Callee.value (Operand.func 49)), args := #[(Operand.tmp 57), (Operand.tmp 60)], argTypes := #[25, 3] }), type := 0, pos := "ref.go:119", after := #[{ on := 0, ground := Ground.data }, { on := 3, ground := Ground.data }], guard := none } : Oper)]
def OPS20_8 : List Oper := [({ dst := (some 62), op := (Op.move (Operand.tmp 0)), type := 25, pos := "ref.go:120", after := #[], guard := none } : Oper), ({ dst := (some 63), op := (Op.move (Operand.tmp 0)), type := 25, pos := "ref.go:120", after := #[], guard := none } : Oper), ({ dst := (some 64), op := (Op.nilCheck (Operand.tmp 63)), type := 0, pos := "ref.go:120", after := #[{ on := 1, ground := Ground.data }], guard := none } : Oper), ({ dst := (some 65), op := (Op.fieldAddr 64 (Operand.tmp 64) 1), type := 0, pos := "ref.go:120", after := #[{ on := 2, ground := Ground.data }], guard := none } : Oper), ({ dst := (some 66), op := (Op.load 62 (Operand.tmp 65)), type := 62, pos := "ref.go:120", after := #[{ on := 3, ground := Ground.data }], guard := none } : Oper), ({ dst := (some 67), op := (Op.move (Operand.tmp 11)), type := 61, pos := "ref.go:120", after := #[], guard := none } : Oper), ({ dst := (some 68), op := (Op.buildSlice 62 1 #[(0, (Operand.tmp 67))]), type := 62, pos := "ref.go:120", after := #[{ on := 5, ground := Ground.data }], guard := none } : Oper), ({ dst := (some 69), op := (Op.call { callee := (Callee.builtin Builtin.append), args := #[(Operand.tmp 66), (Operand.tmp 68)], argTypes := #[62, 62] }), type := 62, pos := "ref.go:120", after := #[{ on := 4, ground := Ground.data }, { on := 6, ground := Ground.data }], guard := none } : Oper), ({ dst := (some 70), op := (Op.nilCheck (Operand.tmp 62)), type := 0, pos := "ref.go:120", after := #[{ on := 0, ground := Ground.data }, { on := 0, ground := Ground.phase }, { on := 1, ground := Ground.phase }, { on := 2, ground := Ground.phase }, { on := 3, ground := Ground.phase }, { on := 4, ground := Ground.phase }, { on := 5, ground := Ground.phase }, { on := 6, ground := Ground.phase }, { on := 7, ground := Ground.phase }], guard := none } : Oper), ({ dst := (some 71), op := (Op.fieldAddr 64 (Operand.tmp 70) 1), type := 0, pos := "ref.go:120", after := #[{ on := 8, ground := Ground.data }, { on := 0, ground := Ground.phase }, { on := 1, ground := Ground.phase }, { on := 2, ground := Ground.phase }, { on := 3, ground := Ground.phase }, { on := 4, ground := Ground.phase }, { on := 5, ground := Ground.phase }, { on := 6, ground := Ground.phase }, { on := 7, ground := Ground.phase }], guard := none } : Oper), ({ dst := none, op := (Op.store 62 (Operand.tmp 71) (Operand.tmp 69)), type := 0, pos := "ref.go:120", after := #[{ on := 9, ground := Ground.data }, { on := 7, ground := Ground.data }, { on := 7, ground := Ground.chain }, { on := 0, ground := Ground.phase }, { on := 1, ground := Ground.phase }, { on := 2, ground := Ground.phase }, { on := 3, ground := Ground.phase }, { on := 4, ground := Ground.phase }, { on := 5, ground := Ground.phase }, { on := 6, ground := Ground.phase }, { on := 7, ground := Ground.phase }], guard := none } : Oper)]
def OPS20_9 : List Oper := [({ dst := (some 6), op := (Op.assign (Operand.const (Value.bool true))), type := 4, pos := "ref.go:121", after := #[], guard := none } : Oper)]
def CODE20 : Code := (Code.seq (Code.region 0 OPS20_0.toArray false) (Code.seq (Code.region 1 OPS20_1.toArray false) (Code.seq (Code.region 2 OPS20_2.toArray false) (Code.seq (Code.seq (Code.region 3 OPS20_3.toArray false) (Code.cond (Operand.tmp 34) (Code.seq (Code.region 4 OPS20_4.toArray false) Code.ret) Code.skip)) (Code.seq (Code.region 5 OPS20_5.toArray true) (Code.seq (Code.region 6 OPS20_6.toArray false) (Code.seq (Code.region 7 OPS20_7.toArray false) (Code.seq (Code.region 8 OPS20_8.toArray false) (Code.seq (Code.region 9 OPS20_9.toArray false) Code.ret)))))))))
set_option maxHeartbeats 4000000 in
theorem rg20_5 {q g LN cap ii jj M1 M2 : Nat} {u1 u2 : Value} {ys1 ys2 : List Value} {NX : Act → World → Prop} {a0 : Act} {w : World} (K0 : Kb a0 72 [(0, .pointer (some ⟨q, 0, none⟩)), (7, .int .i64 (ii : Int)), (9, .int .i64 (jj : Int))]) (e4 : (0 : Int) ≤ (ii : Int)) (e5 : (0 : Int) ≤ (jj : Int)) (e6 : (ii : Int) < (LN : Int)) (e7 : (jj : Int) < (LN : Int))
    (hS : (fun w' : World => w'.cell? ⟨q, 1, none⟩ = some (.slice (some ⟨g, 0, none⟩) LN cap) ∧ w'.cell? ⟨g, ii, none⟩ = some u1 ∧ w'.cell? ⟨g, jj, none⟩ = some u2) w) (s1 : Src w u1 M1 ys1) (s2 : Src w u2 M2 ys2) (p1 : ∀ u ∈ ys1, u.oneCell' = true) (p2 : ∀ u ∈ ys2, u.oneCell' = true) (t1 : ∀ x ∈ own u1, x < w.heap.size) (t2 : ∀ x ∈ own u2, x < w.heap.size) (hq0 : q < w.heap.size) (hg0 : g < w.heap.size) (hM1 : M1 ≤ 4194304) (hM2 : M2 ≤ 4194304)
    (hN : ∀ a' v w', Kb a' 72 [(0, .pointer (some ⟨q, 0, none⟩)), (7, .int .i64 (ii : Int)), (9, .int .i64 (jj : Int)), (11, v)] → Below w.heap.size w w' → w'.ownsRow w.heap.size 3 1 v (M1 + M2) (ys1 ++ ys2) → NX a' w') :
    (Code.region 5 OPS20_5.toArray true).wp Try.prog (Norm NX) a0 w := by
  obtain ⟨i3, hi3, hz3, hy3, hb3⟩ := info3
  have hq := @norm_q NX
  have hS0 := hS
  replace hS : (fun w' : World => w'.cell? ⟨q, 1, none⟩ = some (.slice (some ⟨g, 0, none⟩) LN cap) ∧ w'.cell? ⟨g, ii, none⟩ = some u1 ∧ w'.cell? ⟨g, jj, none⟩ = some u2) w.drew := hS0
  have keep : ∀ W, Below w.heap.size w W → (fun w' : World => w'.cell? ⟨q, 1, none⟩ = some (.slice (some ⟨g, 0, none⟩) LN cap) ∧ w'.cell? ⟨g, ii, none⟩ = some u1 ∧ w'.cell? ⟨g, jj, none⟩ = some u2) W := fun W hb => by
    obtain ⟨z1, z2, z3⟩ := hS0
    exact ⟨by rw [hb.cell (p := ⟨q, 1, none⟩) hq0]; exact z1, by rw [hb.cell (p := ⟨g, ii, none⟩) hg0]; exact z2, by rw [hb.cell (p := ⟨g, jj, none⟩) hg0]; exact z3⟩
  have KP := hide (And.intro keep (And.intro (And.intro s1 s2) (And.intro (And.intro p1 p2) (And.intro t1 t2))))
  clear keep s1 s2 p1 p2 t1 t2 hS0
  refine wp_region_till (t := 17) (S := (fun w' : World => w'.cell? ⟨q, 1, none⟩ = some (.slice (some ⟨g, 0, none⟩) LN cap) ∧ w'.cell? ⟨g, ii, none⟩ = some u1 ∧ w'.cell? ⟨g, jj, none⟩ = some u2)) (by kernel_rfl) ?_
  rw [show (OPS20_5.toArray).size = 18 from by kernel_rfl, show Array.replicate 18 false = ([false, false, false, false, false, false, false, false, false, false, false, false, false, false, false, false, false, false] : List Bool).toArray from by kernel_rfl]
  refine utake (i := 1) (o := { dst := (some 36), op := (Op.move (Operand.tmp 0)), type := 25, pos := "ref.go:117", after := #[], guard := none }) (v := .pointer (some ⟨q, 0, none⟩)) (l2 := ([false, true, false, false, false, false, false, false, false, false, false, false, false, false, false, false, false, false] : List Bool).toArray) K0 hq rfl NS20_5 (by kernel_rfl) (by kernel_rfl) (by kernel_rfl) (by kernel_rfl) (by kernel_rfl) rfl rfl (want_none rfl) (fun ev E w9 hSw => ?_) hS (fun a1 K1 => ?_)
  · clear hSw; clear KP hN hq hS; have EC := E.const; have E0 := E.tmp 0 _ rfl; clear E; go_simp
  refine utake (i := 2) (o := { dst := (some 37), op := (Op.nilCheck (Operand.tmp 36)), type := 0, pos := "ref.go:117", after := #[{ on := 1, ground := Ground.data }], guard := none }) (v := .pointer (some ⟨q, 0, none⟩)) (l2 := ([false, true, true, false, false, false, false, false, false, false, false, false, false, false, false, false, false, false] : List Bool).toArray) K1 hq rfl NS20_5 (by kernel_rfl) (by kernel_rfl) (by kernel_rfl) (by kernel_rfl) (by kernel_rfl) rfl rfl (want_none rfl) (fun ev E w9 hSw => ?_) hS (fun a2 K2 => ?_)
  · clear hSw; clear KP hN hq hS; have EC := E.const; have E36 := E.tmp 36 _ rfl; clear E; go_simp
  clear K1
  refine utake (i := 3) (o := { dst := (some 38), op := (Op.fieldAddr 64 (Operand.tmp 37) 1), type := 0, pos := "ref.go:117", after := #[{ on := 2, ground := Ground.data }], guard := none }) (v := .pointer (some ⟨q, 1, none⟩)) (l2 := ([false, true, true, true, false, false, false, false, false, false, false, false, false, false, false, false, false, false] : List Bool).toArray) K2 hq rfl NS20_5 (by kernel_rfl) (by kernel_rfl) (by kernel_rfl) (by kernel_rfl) (by kernel_rfl) rfl rfl (want_none rfl) (fun ev E w9 hSw => ?_) hS (fun a3 K3 => ?_)
  · clear hSw; clear KP hN hq hS; have EC := E.const; have E37 := E.tmp 37 _ rfl; clear E; go_simp
  clear K2
  refine utake (i := 4) (o := { dst := (some 39), op := (Op.load 62 (Operand.tmp 38)), type := 62, pos := "ref.go:117", after := #[{ on := 3, ground := Ground.data }], guard := none }) (v := .slice (some ⟨g, 0, none⟩) LN cap) (l2 := ([false, true, true, true, true, false, false, false, false, false, false, false, false, false, false, false, false, false] : List Bool).toArray) K3 hq rfl NS20_5 (by kernel_rfl) (by kernel_rfl) (by kernel_rfl) (by kernel_rfl) (by kernel_rfl) rfl rfl (want_none rfl) (fun ev E w9 hSw => ?_) hS (fun a4 K4 => ?_)
  · obtain ⟨z1, z2, z3⟩ := hSw; clear KP hN hq hS; have EC := E.const; have E38 := E.tmp 38 _ rfl; clear E; go_simp
  clear K3
  refine utake (i := 5) (o := { dst := (some 40), op := (Op.move (Operand.tmp 7)), type := 3, pos := "ref.go:117", after := #[], guard := none }) (v := .int .i64 (ii : Int)) (l2 := ([false, true, true, true, true, true, false, false, false, false, false, false, false, false, false, false, false, false] : List Bool).toArray) K4 hq rfl NS20_5 (by kernel_rfl) (by kernel_rfl) (by kernel_rfl) (by kernel_rfl) (by kernel_rfl) rfl rfl (want_none rfl) (fun ev E w9 hSw => ?_) hS (fun a5 K5 => ?_)
  · clear hSw; clear KP hN hq hS; have EC := E.const; have E7 := E.tmp 7 _ rfl; clear E; go_simp
  clear K4
  refine utake (i := 6) (o := { dst := (some 41), op := (Op.indexAddr 62 (Operand.tmp 39) (Operand.tmp 40)), type := 0, pos := "ref.go:117", after := #[{ on := 4, ground := Ground.data }, { on := 5, ground := Ground.data }], guard := none }) (v := .pointer (some ⟨g, ii, none⟩)) (l2 := ([false, true, true, true, true, true, true, false, false, false, false, false, false, false, false, false, false, false] : List Bool).toArray) K5 hq rfl NS20_5 (by kernel_rfl) (by kernel_rfl) (by kernel_rfl) (by kernel_rfl) (by kernel_rfl) rfl rfl (want_none rfl) (fun ev E w9 hSw => ?_) hS (fun a6 K6 => ?_)
  · clear hSw; clear KP hN hq hS; have EC := E.const; have E39 := E.tmp 39 _ rfl; have E40 := E.tmp 40 _ rfl; clear E; go_simp
  clear K5
  refine utake (i := 7) (o := { dst := (some 42), op := (Op.load 61 (Operand.tmp 41)), type := 61, pos := "ref.go:117", after := #[{ on := 6, ground := Ground.data }], guard := none }) (v := u1) (l2 := ([false, true, true, true, true, true, true, true, false, false, false, false, false, false, false, false, false, false] : List Bool).toArray) K6 hq rfl NS20_5 (by kernel_rfl) (by kernel_rfl) (by kernel_rfl) (by kernel_rfl) (by kernel_rfl) rfl rfl (want_none rfl) (fun ev E w9 hSw => ?_) hS (fun a7 K7 => ?_)
  · obtain ⟨z1, z2, z3⟩ := hSw; clear KP hN hq hS; have EC := E.const; have E41 := E.tmp 41 _ rfl; clear E; go_simp
  clear K6
  refine utake (i := 9) (o := { dst := (some 44), op := (Op.move (Operand.tmp 0)), type := 25, pos := "ref.go:117", after := #[], guard := none }) (v := .pointer (some ⟨q, 0, none⟩)) (l2 := ([false, true, true, true, true, true, true, true, false, true, false, false, false, false, false, false, false, false] : List Bool).toArray) K7 hq rfl NS20_5 (by kernel_rfl) (by kernel_rfl) (by kernel_rfl) (by kernel_rfl) (by kernel_rfl) rfl rfl (want_none rfl) (fun ev E w9 hSw => ?_) hS (fun a8 K8 => ?_)
  · clear hSw; clear KP hN hq hS; have EC := E.const; have E0 := E.tmp 0 _ rfl; clear E; go_simp
  clear K7
  refine utake (i := 10) (o := { dst := (some 45), op := (Op.nilCheck (Operand.tmp 44)), type := 0, pos := "ref.go:117", after := #[{ on := 9, ground := Ground.data }], guard := none }) (v := .pointer (some ⟨q, 0, none⟩)) (l2 := ([false, true, true, true, true, true, true, true, false, true, true, false, false, false, false, false, false, false] : List Bool).toArray) K8 hq rfl NS20_5 (by kernel_rfl) (by kernel_rfl) (by kernel_rfl) (by kernel_rfl) (by kernel_rfl) rfl rfl (want_none rfl) (fun ev E w9 hSw => ?_) hS (fun a9 K9 => ?_)
  · clear hSw; clear KP hN hq hS; have EC := E.const; have E44 := E.tmp 44 _ rfl; clear E; go_simp
  clear K8
  refine utake (i := 11) (o := { dst := (some 46), op := (Op.fieldAddr 64 (Operand.tmp 45) 1), type := 0, pos := "ref.go:117", after := #[{ on := 10, ground := Ground.data }], guard := none }) (v := .pointer (some ⟨q, 1, none⟩)) (l2 := ([false, true, true, true, true, true, true, true, false, true, true, true, false, false, false, false, false, false] : List Bool).toArray) K9 hq rfl NS20_5 (by kernel_rfl) (by kernel_rfl) (by kernel_rfl) (by kernel_rfl) (by kernel_rfl) rfl rfl (want_none rfl) (fun ev E w9 hSw => ?_) hS (fun a10 K10 => ?_)
  · clear hSw; clear KP hN hq hS; have EC := E.const; have E45 := E.tmp 45 _ rfl; clear E; go_simp
  clear K9
  refine utake (i := 12) (o := { dst := (some 47), op := (Op.load 62 (Operand.tmp 46)), type := 62, pos := "ref.go:117", after := #[{ on := 11, ground := Ground.data }], guard := none }) (v := .slice (some ⟨g, 0, none⟩) LN cap) (l2 := ([false, true, true, true, true, true, true, true, false, true, true, true, true, false, false, false, false, false] : List Bool).toArray) K10 hq rfl NS20_5 (by kernel_rfl) (by kernel_rfl) (by kernel_rfl) (by kernel_rfl) (by kernel_rfl) rfl rfl (want_none rfl) (fun ev E w9 hSw => ?_) hS (fun a11 K11 => ?_)
  · obtain ⟨z1, z2, z3⟩ := hSw; clear KP hN hq hS; have EC := E.const; have E46 := E.tmp 46 _ rfl; clear E; go_simp
  clear K10
  refine utake (i := 13) (o := { dst := (some 48), op := (Op.move (Operand.tmp 9)), type := 3, pos := "ref.go:117", after := #[], guard := none }) (v := .int .i64 (jj : Int)) (l2 := ([false, true, true, true, true, true, true, true, false, true, true, true, true, true, false, false, false, false] : List Bool).toArray) K11 hq rfl NS20_5 (by kernel_rfl) (by kernel_rfl) (by kernel_rfl) (by kernel_rfl) (by kernel_rfl) rfl rfl (want_none rfl) (fun ev E w9 hSw => ?_) hS (fun a12 K12 => ?_)
  · clear hSw; clear KP hN hq hS; have EC := E.const; have E9 := E.tmp 9 _ rfl; clear E; go_simp
  clear K11
  refine utake (i := 14) (o := { dst := (some 49), op := (Op.indexAddr 62 (Operand.tmp 47) (Operand.tmp 48)), type := 0, pos := "ref.go:117", after := #[{ on := 12, ground := Ground.data }, { on := 13, ground := Ground.data }], guard := none }) (v := .pointer (some ⟨g, jj, none⟩)) (l2 := ([false, true, true, true, true, true, true, true, false, true, true, true, true, true, true, false, false, false] : List Bool).toArray) K12 hq rfl NS20_5 (by kernel_rfl) (by kernel_rfl) (by kernel_rfl) (by kernel_rfl) (by kernel_rfl) rfl rfl (want_none rfl) (fun ev E w9 hSw => ?_) hS (fun a13 K13 => ?_)
  · clear hSw; clear KP hN hq hS; have EC := E.const; have E47 := E.tmp 47 _ rfl; have E48 := E.tmp 48 _ rfl; clear E; go_simp
  clear K12
  refine utake (i := 15) (o := { dst := (some 50), op := (Op.load 61 (Operand.tmp 49)), type := 61, pos := "ref.go:117", after := #[{ on := 14, ground := Ground.data }], guard := none }) (v := u2) (l2 := ([false, true, true, true, true, true, true, true, false, true, true, true, true, true, true, true, false, false] : List Bool).toArray) K13 hq rfl NS20_5 (by kernel_rfl) (by kernel_rfl) (by kernel_rfl) (by kernel_rfl) (by kernel_rfl) rfl rfl (want_none rfl) (fun ev E w9 hSw => ?_) hS (fun a14 K14 => ?_)
  · obtain ⟨z1, z2, z3⟩ := hSw; clear KP hN hq hS; have EC := E.const; have E49 := E.tmp 49 _ rfl; clear E; go_simp
  clear K13
  refine uone (i := 0) (o := { dst := (some 35), op := (Op.buildSlice 61 0 #[]), type := 61, pos := "ref.go:117", after := #[], guard := none }) (l2 := ([true, true, true, true, true, true, true, true, false, true, true, true, true, true, true, true, false, false] : List Bool).toArray) K14 rfl (by kernel_rfl) (by kernel_rfl) rfl rfl (want_none rfl) (leaves_value (v := .slice (some ⟨w.heap.size, 0, none⟩) 0 0) (w' := w.drew.alloc (.cells #[] 3)) K14 (fun ev E => by clear KP hN hq hS; have EC := E.const; clear E; go_simp)) (fun v15 W1 hR => ?_)
  obtain ⟨rfl, hW1⟩ := hR
  have b1 : Below w.heap.size w W1 := by rw [hW1]; exact ((Below.refl _ _).drew).alloc (Nat.le_refl _) _
  have o1 : W1.ownsRow w.heap.size 3 1 (.slice (some ⟨w.heap.size, 0, none⟩) 0 0) 0 [] := by rw [hW1]; exact empty_row w.drew 3
  clear hS hW1
  have hS : (fun w' : World => w'.cell? ⟨q, 1, none⟩ = some (.slice (some ⟨g, 0, none⟩) LN cap) ∧ w'.cell? ⟨g, ii, none⟩ = some u1 ∧ w'.cell? ⟨g, jj, none⟩ = some u2) W1 := (unhide KP).1 _ b1
  refine ⟨fun _ => hS, fun a15 K15 => ?_⟩
  clear K14
  refine uone (i := 8) (o := { dst := (some 43), op := (Op.call { callee := (Callee.builtin Builtin.append), args := #[(Operand.tmp 35), (Operand.tmp 42)], argTypes := #[61, 61] }), type := 61, pos := "ref.go:117", after := #[{ on := 0, ground := Ground.data }, { on := 7, ground := Ground.data }], guard := none }) (l2 := ([true, true, true, true, true, true, true, true, true, true, true, true, true, true, true, true, false, false] : List Bool).toArray) K15 rfl (by kernel_rfl) (by kernel_rfl) rfl rfl (want_none rfl) (leaves_append K15 35 42 61 rfl w.heap.size 3 i3 (.int .i64 0) 8 und61 hi3 hz3 hy3 hb3 rfl rfl o1 rfl (Src.keep (unhide KP).2.1.1 (Keep.ofBelow b1 []) (fun k hk => ⟨(unhide KP).2.2.2.1 k hk, by simp⟩)) (unhide KP).2.2.1.1 (by unfold maxLen; omega) (by omega) b1.size) (fun v16 W2 hR => ?_)
  obtain ⟨o2, g2, _⟩ := hR
  have b2 := next_below b1 o1 g2
  clear hS o1 g2
  have hS : (fun w' : World => w'.cell? ⟨q, 1, none⟩ = some (.slice (some ⟨g, 0, none⟩) LN cap) ∧ w'.cell? ⟨g, ii, none⟩ = some u1 ∧ w'.cell? ⟨g, jj, none⟩ = some u2) W2 := (unhide KP).1 _ b2
  refine ⟨fun _ => hS, fun a16 K16 => ?_⟩
  clear K15
  refine uone (i := 16) (o := { dst := (some 51), op := (Op.call { callee := (Callee.builtin Builtin.append), args := #[(Operand.tmp 43), (Operand.tmp 50)], argTypes := #[61, 61] }), type := 61, pos := "ref.go:117", after := #[{ on := 8, ground := Ground.data }, { on := 15, ground := Ground.data }, { on := 8, ground := Ground.chain }], guard := none }) (l2 := ([true, true, true, true, true, true, true, true, true, true, true, true, true, true, true, true, true, false] : List Bool).toArray) K16 rfl (by kernel_rfl) (by kernel_rfl) rfl rfl (want_none rfl) (leaves_append K16 43 50 61 rfl w.heap.size 3 i3 (.int .i64 0) 8 und61 hi3 hz3 hy3 hb3 rfl rfl o2 rfl (Src.keep (unhide KP).2.1.2 (Keep.ofBelow b2 []) (fun k hk => ⟨(unhide KP).2.2.2.2 k hk, by simp⟩)) (unhide KP).2.2.1.2 (by unfold maxLen; omega) (by omega) b2.size) (fun v17 W3 hR => ?_)
  obtain ⟨o3, g3, _⟩ := hR
  have b3 := next_below b2 o2 g3
  clear hS o2 g3
  have hS : (fun w' : World => w'.cell? ⟨q, 1, none⟩ = some (.slice (some ⟨g, 0, none⟩) LN cap) ∧ w'.cell? ⟨g, ii, none⟩ = some u1 ∧ w'.cell? ⟨g, jj, none⟩ = some u2) W3 := (unhide KP).1 _ b3
  refine ⟨fun _ => hS, fun a17 K17 => ?_⟩
  clear K16
  refine uone (i := 17) (o := { dst := (some 11), op := (Op.assign (Operand.tmp 51)), type := 61, pos := "ref.go:117", after := #[{ on := 16, ground := Ground.data }, { on := 16, ground := Ground.chain }, { on := 0, ground := Ground.phase }, { on := 1, ground := Ground.phase }, { on := 2, ground := Ground.phase }, { on := 3, ground := Ground.phase }, { on := 4, ground := Ground.phase }, { on := 5, ground := Ground.phase }, { on := 6, ground := Ground.phase }, { on := 7, ground := Ground.phase }, { on := 8, ground := Ground.phase }, { on := 9, ground := Ground.phase }, { on := 10, ground := Ground.phase }, { on := 11, ground := Ground.phase }, { on := 12, ground := Ground.phase }, { on := 13, ground := Ground.phase }, { on := 14, ground := Ground.phase }, { on := 15, ground := Ground.phase }, { on := 16, ground := Ground.phase }], guard := none }) (l2 := ([true, true, true, true, true, true, true, true, true, true, true, true, true, true, true, true, true, true] : List Bool).toArray) K17 rfl (by kernel_rfl) (by kernel_rfl) rfl rfl (want_none rfl) (leaves_value (v := v17) (w' := W3) K17 (fun ev E => by clear KP hN hq hS; have EC := E.const; have E51 := E.tmp 51 _ rfl; clear E; go_simp)) (fun v9 W4 hR => ?_)
  obtain ⟨rfl, rfl⟩ := hR
  refine ⟨fun _ => hS, fun a18 K18 => ?_⟩
  refine till_done (by kernel_rfl) ?_ _
  refine hN _ _ _ (K18.less ⟨rfl, rfl, rfl, rfl, trivial⟩) b3 ?_
  simpa using o3
set_option maxHeartbeats 4000000 in
theorem rg20_8 {q bw n : Nat} {vL v : Value} {hs : List Value} {L : List (List Nat)} {l : List Nat} {fw : Nat → Int} {NX : Act → World → Prop} {a0 : Act} {w : World} (K0 : Kb a0 72 [(0, .pointer (some ⟨q, 0, none⟩)), (11, v)]) (h : RIn w q vL bw n hs L fw) (hv : Hd w v l) (hv0 : ∀ b ∈ own v, b ≠ q ∧ b ≠ bw ∧ b ∉ own vL) (hl : L.length ≤ 4194304)
    (hN : ∀ a' v' w', Kb a' 72 [] → Pu w w' q bw n vL v' (hs ++ [v]) (L ++ [l]) fw → NX a' w') :
    (Code.region 8 OPS20_8.toArray false).wp Try.prog (Norm NX) a0 w := by
  obtain ⟨i0, hi0, hz0, hz1, hz2⟩ := info61
  obtain ⟨c0, c1, c2, c3⟩ := h.cells
  have hq := (Array.getElem?_eq_some_iff.1 h.blk).1
  have HH := hide (And.intro h (And.intro hv hv0))
  have b1 : Below w.heap.size w (w.alloc (.cells #[v] 61)) := (Below.refl _ _).alloc (Nat.le_refl _) _
  have HSRC : Hid (Src (w.alloc (.cells #[v] 61)) (.slice (some ⟨w.heap.size, 0, none⟩) 1 1) 1 [v]) := by
    refine .inr ⟨⟨w.heap.size, 0, none⟩, 1, rfl, rfl, fun j x hj => ?_⟩
    have hj0 : j = 0 := by have := (List.getElem?_eq_some_iff.1 hj).1; simp at this; exact this
    subst hj0
    simp at hj
    subst hj
    have e := heap_alloc_new w (.cells #[v] 61)
    rw [add_none]
    simp only [World.cell?, e]
    rfl
  have HOWN := hide (row_keep h.rl (Keep.ofBelow b1 []) (fun _ _ => by simp))
  have HL : Hid (L.length ≤ 4194304) := hl
  have hone : v.oneCell' = true := by obtain ⟨b, cap, rfl, _⟩ := hv; rfl
  have hcells : v.cells = #[v] := by obtain ⟨b, cap, rfl, _⟩ := hv; rfl
  clear h hv hv0 hl
  refine wp_region_lit ?_
  refine ltake (v := .pointer (some ⟨q, 0, none⟩)) (w' := w) K0 rfl rfl (want_none rfl) (fun ev E => ?_) (fun a1 K1 => ?_)
  · have EC := E.const; have E0 := E.tmp 0 _ rfl; clear E; clear HH HSRC HOWN hN; go_simp
  refine ltake (v := .pointer (some ⟨q, 0, none⟩)) (w' := w) K1 rfl rfl (want_none rfl) (fun ev E => ?_) (fun a2 K2 => ?_)
  · have EC := E.const; have E0 := E.tmp 0 _ rfl; clear E; clear HH HSRC HOWN hN; go_simp
  clear K1
  refine ltake (v := .pointer (some ⟨q, 0, none⟩)) (w' := w) K2 rfl rfl (want_none rfl) (fun ev E => ?_) (fun a3 K3 => ?_)
  · have EC := E.const; have E63 := E.tmp 63 _ rfl; clear E; clear HH HSRC HOWN hN; go_simp
  clear K2
  refine ltake (v := .pointer (some ⟨q, 1, none⟩)) (w' := w) K3 rfl rfl (want_none rfl) (fun ev E => ?_) (fun a4 K4 => ?_)
  · have EC := E.const; have E64 := E.tmp 64 _ rfl; clear E; clear HH HSRC HOWN hN; go_simp
  clear K3
  refine ltake (v := vL) (w' := w) K4 rfl rfl (want_none rfl) (fun ev E => ?_) (fun a5 K5 => ?_)
  · have EC := E.const; have E65 := E.tmp 65 _ rfl; clear E; clear HH HSRC HOWN hN; go_simp
  clear K4
  refine ltake (v := v) (w' := w) K5 rfl rfl (want_none rfl) (fun ev E => ?_) (fun a6 K6 => ?_)
  · have EC := E.const; have E11 := E.tmp 11 _ rfl; clear E; clear HH HSRC HOWN hN; go_simp
  clear K5
  refine ltake (v := .slice (some ⟨w.heap.size, 0, none⟩) 1 1) (w' := w.alloc (.cells #[v] 61)) K6 rfl rfl (want_none rfl) (fun ev E => ?_) (fun a7 K7 => ?_)
  · obtain ⟨vb, vc, hvv, _⟩ := (unhide HH).2.1; subst hvv; have EC := E.const; have E67 := E.tmp 67 _ rfl; clear E; clear HH HSRC HOWN hN; go_simp
  clear K6
  refine ldo K7 rfl rfl (want_none rfl) (leaves_append K7 66 68 62 rfl 0 61 i0 (.slice none 0 0) 24 und62 hi0 hz0 hz1 hz2 rfl rfl (unhide HOWN) rfl (unhide HSRC) (fun u hu => by simp at hu; subst hu; exact hone) (by have := unhide HL; unfold maxLen; omega) (by have := unhide HL; omega) (Nat.zero_le _)) (fun v' w2 hR a8 K8 => ?_)
  obtain ⟨hown, hgrow, hat⟩ := hR
  clear K7
  have hP := hide (RIn.push2 (us := [v]) (ls := [l]) (unhide HH).1 b1 rfl (fun j hj => by
    have hj0 : j = 0 := by simp at hj; exact hj
    subst hj0
    exact (unhide HH).2.1.keep (Keep.ofBelow b1 []) (fun _ _ => by simp)) (fun u hu b hb => by
    simp at hu; subst hu; exact (unhide HH).2.2 b hb) hgrow (by simpa using hown) hat)
  have KK : Keep (own vL) w w2 := (Keep.ofBelow b1 (own vL)).grown hgrow (fun k hk => .inl (mem_own.2 hk))
  have fz : w2.frozen? ⟨q, 1, none⟩ = false := by rw [KK.frozen (p := ⟨q, 1, none⟩) hq (unhide HH).1.n2]; exact c3
  have cz : w2.cell? ⟨q, 1, none⟩ = some vL := by rw [KK.cell (p := ⟨q, 1, none⟩) hq (unhide HH).1.n2]; exact c1
  obtain ⟨x7, cap7, hv7⟩ := row_shape hown
  clear hown hgrow hat KK b1
  subst hv7
  refine ltake (v := .pointer (some ⟨q, 0, none⟩)) (w' := w2) K8 rfl rfl (want_none rfl) (fun ev E => ?_) (fun a9 K9 => ?_)
  · have EC := E.const; have E62 := E.tmp 62 _ rfl; clear E; clear HH HSRC HOWN hN hP; go_simp
  clear K8
  refine ltake (v := .pointer (some ⟨q, 1, none⟩)) (w' := w2) K9 rfl rfl (want_none rfl) (fun ev E => ?_) (fun a10 K10 => ?_)
  · have EC := E.const; have E70 := E.tmp 70 _ rfl; clear E; clear HH HSRC HOWN hN hP; go_simp
  clear K9
  refine lstore (w' := w2.setCell ⟨q, 1, none⟩ (.slice x7 (L.length + 1) cap7)) K10 rfl (want_none rfl) (fun ev E => ?_) ?_
  · have EC := E.const; have E69 := E.tmp 69 _ rfl; have E71 := E.tmp 71 _ rfl; clear E; clear HH HSRC HOWN hN hP; go_simp
  refine wpList_nil (hN _ _ _ (K10.less trivial) (unhide hP))
end Go.Proofs.Ytbkneonbpcmepaa
/- The document's pool: two sequences become one, the whole. -/

namespace Go.Proofs.Ytbkneonbpcmepaa
open Go.RowKit Go.Arb
set_option linter.unusedVariables false
set_option linter.unusedSimpArgs false
set_option maxRecDepth 100000

section
variable {w w' : World} {q bw : Nat} {vL vL' : Value} {hs hs' : List Value} {fw : Nat → Int} {A : Se}
theorem thenRet {next : Act → World → Prop} {Q : Exit → Act → World → Prop} {a : Act} {w : World} (h : Q .ret a w) : Exit.then next Q .ret a w := h
theorem RA.perm (h : RA w q vL bw hs fw A) {L' : List (List Nat)} (hr : RIn w' q vL' bw A.n hs' L' fw) (hp : L'.flatten.Perm A.L.flatten) (hne : ∀ l ∈ L', l ≠ []) : RA w' q vL' bw hs' fw { A with L := L' } :=
  ⟨hr, fun v hv => h.wt v (hp.mem_iff.1 hv), hp.nodup_iff.2 h.nd, hne, fun v hv => h.lt v (hp.mem_iff.1 hv), fun v hv => h.fit v (hp.mem_iff.1 hv), h.nn⟩
theorem join_perm {L : List (List Nat)} {a b : List Nat} (ha : a ∈ L) (hb : b ∈ L) (hne : b ≠ a) : (((L.erase a).erase b) ++ [a ++ b]).flatten.Perm L.flatten := by
  have h1 := List.perm_cons_erase ha
  have h2 := List.perm_cons_erase ((List.mem_erase_of_ne hne).2 hb)
  have h3 : L.Perm (a :: b :: (L.erase a).erase b) := h1.trans (h2.cons a)
  refine List.Perm.trans ?_ h3.flatten.symm
  simp only [List.flatten_append, List.flatten_cons, List.flatten_nil, List.append_nil]
  have h4 := List.perm_append_comm (l₁ := ((L.erase a).erase b).flatten) (l₂ := a ++ b)
  rwa [List.append_assoc] at h4
theorem getD_cut {L : List (List Nat)} {i j : Nat} (h : i < j) (hj : j < L.length) : (L.take j ++ L.drop (j + 1)).getD i [] = L.getD i [] := by
  rw [List.getD_eq_getElem?_getD, List.getD_eq_getElem?_getD, List.getElem?_append_left (by simp; omega), List.getElem?_take_of_lt h]
theorem RA.ne_seq (h : RA w q vL bw hs fw A) {i j : Nat} (hi : i < A.L.length) (hj : j < A.L.length) (hne : i ≠ j) : A.L.getD j [] ≠ A.L.getD i [] := fun e => by
  obtain ⟨v, hv⟩ := List.exists_mem_of_ne_nil _ (h.ne _ (getD_mem hi))
  exact hne (same_idx h.nd hi hj hv (by rw [e]; exact hv))
/-- What the two removals leave. -/
theorem RA.two (h : RA w q vL bw hs fw A) {m M : Nat} (hm : m < M) (hM : M < A.L.length) : ((A.L.take M ++ A.L.drop (M + 1)).take m ++ (A.L.take M ++ A.L.drop (M + 1)).drop (m + 1)) = (A.L.erase (A.L.getD M [])).erase (A.L.getD m []) := by
  have e1 := h.erase hM
  have e2 := getD_cut hm hM
  rw [e1, ← e2]
  refine (erase_at _ _ (by simp; omega) (fun j hj e => ?_)).symm
  have hj1 : j < M := by omega
  rw [getD_cut hj1 hM, e2] at e
  exact h.ne_seq (i := j) (j := m) (by omega) (by omega) (by omega) e.symm
set_option maxHeartbeats 4000000 in
theorem rcat_any (x y : Int) (h : RA w q vL bw hs fw A) : Calls Try.prog 20 #[.pointer (some ⟨q, 0, none⟩), .int .i64 x, .int .i64 y] w fun e w' => e = .returned (.bool (A.joinB x y)) ∧ Ch w w' q bw vL hs (A.joinA x y) := by
  have h1 := hide (rpos_any x h)
  have h2 := hide (rpos_any y h)
  have HH := hide h
  clear h
  refine calls_of_wp Try.func20 rfl ?_
  have K0 : Kb { tmps := #[.pointer (some ⟨q, 0, none⟩), .int .i64 x, .int .i64 y] ++ Array.replicate (Try.f20.ntmps - (#[.pointer (some ⟨q, 0, none⟩), .int .i64 x, .int .i64 y] : Array Value).size) undef, defers := [] } 72 [(0, .pointer (some ⟨q, 0, none⟩)), (1, .int .i64 x), (2, .int .i64 y)] :=
    Kb.of (by simp [Try.ntmps20]) rfl (by simp)
  generalize ({ tmps := #[.pointer (some ⟨q, 0, none⟩), .int .i64 x, .int .i64 y] ++ Array.replicate (Try.f20.ntmps - (#[.pointer (some ⟨q, 0, none⟩), .int .i64 x, .int .i64 y] : Array Value).size) undef, defers := [] } : Act) = a0 at K0 ⊢
  show CODE20.wp _ _ _ _
  refine seqN ?_
  refine wp_region_lit ?_
  refine ltake (v := Value.bool false) (w' := w) K0 rfl rfl (want_none rfl) (fun ev E => ?_) (fun a1 K1 => ?_)
  · have EC := E.const; clear E; clear HH; (try clear h1); (try clear h2); (try clear HP1); go_simp
  refine wpList_nil ?_
  show Code.wp _ _ _ _ _
  refine seqN ?_
  refine wp_region_lit ?_
  refine ltake (v := .pointer (some ⟨q, 0, none⟩)) (w' := w) K1 rfl rfl (want_none rfl) (fun ev E => ?_) (fun a2 K2 => ?_)
  · have EC := E.const; have E0 := E.tmp 0 _ rfl; clear E; clear HH; (try clear h1); (try clear h2); (try clear HP1); go_simp
  clear K1
  refine ltake (v := .int .i64 x) (w' := w) K2 rfl rfl (want_none rfl) (fun ev E => ?_) (fun a3 K3 => ?_)
  · have EC := E.const; have E1 := E.tmp 1 _ rfl; clear E; clear HH; (try clear h1); (try clear h2); (try clear HP1); go_simp
  clear K2
  refine lcall (f := 48) (args := #[.pointer (some ⟨q, 0, none⟩), .int .i64 x]) K3 rfl rfl (want_none rfl) (fun ev E => ?_) (unhide h1) (fun e w1 hR => ?_)
  · have EC := E.const; have EF := E.func; have E13 := E.tmp 13 _ rfl; have E14 := E.tmp 14 _ rfl; clear E; clear HH; (try clear h1); (try clear h2); (try clear HP1); go_simp
  obtain ⟨⟨i, k, hp1, rfl⟩, hw1⟩ := hR
  rw [← hw1]
  clear hw1
  have HP1 := hide hp1
  clear hp1
  refine ⟨_, rfl, fun a4 K4 => ?_⟩
  clear K3
  refine ltake (v := .tuple #[.int .i64 i, .int .i64 k]) (w' := w) K4 rfl rfl (want_none rfl) (fun ev E => ?_) (fun a5 K5 => ?_)
  · have EC := E.const; have E15 := E.tmp 15 _ rfl; clear E; clear HH; (try clear h1); (try clear h2); (try clear HP1); go_simp
  clear K4
  refine ltake (v := .int .i64 i) (w' := w) K5 rfl rfl (want_none rfl) (fun ev E => ?_) (fun a6 K6 => ?_)
  · have EC := E.const; have E12 := E.tmp 12 _ rfl; clear E; clear HH; (try clear h1); (try clear h2); (try clear HP1); go_simp
  clear K5
  refine ltake (v := .int .i64 k) (w' := w) K6 rfl rfl (want_none rfl) (fun ev E => ?_) (fun a7 K7 => ?_)
  · have EC := E.const; have E12 := E.tmp 12 _ rfl; clear E; clear HH; (try clear h1); (try clear h2); (try clear HP1); go_simp
  clear K6
  refine ltake (v := .int .i64 i) (w' := w) K7 rfl rfl (want_none rfl) (fun ev E => ?_) (fun a8 K8 => ?_)
  · have EC := E.const; have E16 := E.tmp 16 _ rfl; clear E; clear HH; (try clear h1); (try clear h2); (try clear HP1); go_simp
  clear K7
  refine ltake (v := .int .i64 k) (w' := w) K8 rfl rfl (want_none rfl) (fun ev E => ?_) (fun a9 K9 => ?_)
  · have EC := E.const; have E17 := E.tmp 17 _ rfl; clear E; clear HH; (try clear h1); (try clear h2); (try clear HP1); go_simp
  clear K8
  refine wpList_nil ?_
  show Code.wp _ _ _ _ _
  refine seqN ?_
  refine wp_region_lit ?_
  refine ltake (v := .pointer (some ⟨q, 0, none⟩)) (w' := w) K9 rfl rfl (want_none rfl) (fun ev E => ?_) (fun a10 K10 => ?_)
  · have EC := E.const; have E0 := E.tmp 0 _ rfl; clear E; clear HH; (try clear h1); (try clear h2); (try clear HP1); go_simp
  clear K9
  refine ltake (v := .int .i64 y) (w' := w) K10 rfl rfl (want_none rfl) (fun ev E => ?_) (fun a11 K11 => ?_)
  · have EC := E.const; have E2 := E.tmp 2 _ rfl; clear E; clear HH; (try clear h1); (try clear h2); (try clear HP1); go_simp
  clear K10
  refine lcall (f := 48) (args := #[.pointer (some ⟨q, 0, none⟩), .int .i64 y]) K11 rfl rfl (want_none rfl) (fun ev E => ?_) (unhide h2) (fun e w1 hR => ?_)
  · have EC := E.const; have EF := E.func; have E19 := E.tmp 19 _ rfl; have E20 := E.tmp 20 _ rfl; clear E; clear HH; (try clear h1); (try clear h2); (try clear HP1); go_simp
  obtain ⟨⟨i', k', hp2, rfl⟩, hw1⟩ := hR
  rw [← hw1]
  clear hw1
  have HP2 := hide hp2
  clear hp2
  refine ⟨_, rfl, fun a12 K12 => ?_⟩
  clear K11
  refine ltake (v := .tuple #[.int .i64 i', .int .i64 k']) (w' := w) K12 rfl rfl (want_none rfl) (fun ev E => ?_) (fun a13 K13 => ?_)
  · have EC := E.const; have E21 := E.tmp 21 _ rfl; clear E; clear HH; (try clear h1); (try clear h2); (try clear HP1); go_simp
  clear K12
  refine ltake (v := .int .i64 i') (w' := w) K13 rfl rfl (want_none rfl) (fun ev E => ?_) (fun a14 K14 => ?_)
  · have EC := E.const; have E18 := E.tmp 18 _ rfl; clear E; clear HH; (try clear h1); (try clear h2); (try clear HP1); go_simp
  clear K13
  refine ltake (v := .int .i64 k') (w' := w) K14 rfl rfl (want_none rfl) (fun ev E => ?_) (fun a15 K15 => ?_)
  · have EC := E.const; have E18 := E.tmp 18 _ rfl; clear E; clear HH; (try clear h1); (try clear h2); (try clear HP1); go_simp
  clear K14
  refine ltake (v := .int .i64 i') (w' := w) K15 rfl rfl (want_none rfl) (fun ev E => ?_) (fun a16 K16 => ?_)
  · have EC := E.const; have E22 := E.tmp 22 _ rfl; clear E; clear HH; (try clear h1); (try clear h2); (try clear HP1); go_simp
  clear K15
  refine ltake (v := .int .i64 k') (w' := w) K16 rfl rfl (want_none rfl) (fun ev E => ?_) (fun a17 K17 => ?_)
  · have EC := E.const; have E23 := E.tmp 23 _ rfl; clear E; clear HH; (try clear h1); (try clear h2); (try clear HP1); go_simp
  clear K16
  refine wpList_nil ?_
  show Code.wp _ _ _ _ _
  have K18 : Kb _ 72 [(0, .pointer (some ⟨q, 0, none⟩)), (7, .int .i64 i), (9, .int .i64 i')] := K17.less ⟨rfl, rfl, rfl, trivial⟩
  clear K17
  clear h1 h2
  rcases pos_facts (unhide HH).nd (unhide HP1) with ⟨f1, v, ii, kk, rfl, rfl, rfl, hi, hs1, hk, f2, f3, f4⟩ | ⟨f1, rfl, rfl⟩
  · have e1 : ¬ (ii : Int) < 0 := by omega
    rcases pos_facts (unhide HH).nd (unhide HP2) with ⟨g1, v', jj, ll, rfl, rfl, rfl, hj, gs1, gk, g2, g3, g4⟩ | ⟨g1, rfl, rfl⟩
    · have gm : v' ∈ A.seqI (v' : Int) := by have := get_mem gk; rwa [g3] at this
      have e2 : ¬ (jj : Int) < 0 := by omega
      by_cases hE : ii = jj
      · subst hE
        have FB : Hid (A.joinB (v : Int) (v' : Int) = false) := by
          show _ = _
          have : A.sameI (v : Int) (v' : Int) = true := by
            simp only [Se.sameI, f1, g1, Bool.true_and, decide_eq_true_eq, Int.toNat_natCast]
            rw [← hs1, gs1]
            exact gm
          simp [Se.joinB, this]
        clear f1 f2 f3 f4 g1 g2 g3 g4 hs1 hk gs1 gk gm HP1 HP2 hj hi
        refine wp_seq (seqN ?_)
        refine wp_region_lit ?_
        refine ltake (v := .int .i64 (ii : Int)) (w' := w) K18 rfl rfl (want_none rfl) (fun ev E => ?_) (fun a19 K19 => ?_)
        · have EC := E.const; have E7 := E.tmp 7 _ rfl; clear E; (try clear FB); clear HH; go_simp
        clear K18
        refine ltake (v := .bool false) (w' := w) K19 rfl rfl (want_none rfl) (fun ev E => ?_) (fun a20 K20 => ?_)
        · have EC := E.const; have E24 := E.tmp 24 _ rfl; clear E; (try clear FB); clear HH; go_simp
        clear K19
        refine ltake (v := .bool false) (w' := w) K20 rfl rfl (want_none rfl) (fun ev E => ?_) (fun a21 K21 => ?_)
        · have EC := E.const; have E25 := E.tmp 25 _ rfl; clear E; (try clear FB); clear HH; go_simp
        clear K20
        refine ltake (v := .int .i64 (ii : Int)) (w' := w) K21 rfl rfl (want_some K21 rfl rfl rfl) (fun ev E => ?_) (fun a22 K22 => ?_)
        · have EC := E.const; have E9 := E.tmp 9 _ rfl; clear E; (try clear FB); clear HH; go_simp
        clear K21
        refine ltake (v := .bool false) (w' := w) K22 rfl rfl (want_some K22 rfl rfl rfl) (fun ev E => ?_) (fun a23 K23 => ?_)
        · have EC := E.const; have E27 := E.tmp 27 _ rfl; clear E; (try clear FB); clear HH; go_simp
        clear K22
        refine ltake (v := .bool false) (w' := w) K23 rfl rfl (want_none rfl) (fun ev E => ?_) (fun a24 K24 => ?_)
        · have EC := E.const; have E26 := E.tmp 26 _ rfl; have E28 := E.tmp 28 _ rfl; clear E; (try clear FB); clear HH; go_simp
        clear K23
        refine ltake (v := .bool false) (w' := w) K24 rfl rfl (want_none rfl) (fun ev E => ?_) (fun a25 K25 => ?_)
        · have EC := E.const; have E29 := E.tmp 29 _ rfl; clear E; (try clear FB); clear HH; go_simp
        clear K24
        refine ltake (v := .int .i64 (ii : Int)) (w' := w) K25 rfl rfl (want_some K25 rfl rfl rfl) (fun ev E => ?_) (fun a26 K26 => ?_)
        · have EC := E.const; have E7 := E.tmp 7 _ rfl; clear E; (try clear FB); clear HH; go_simp
        clear K25
        refine ltake (v := .int .i64 (ii : Int)) (w' := w) K26 rfl rfl (want_some K26 rfl rfl rfl) (fun ev E => ?_) (fun a27 K27 => ?_)
        · have EC := E.const; have E9 := E.tmp 9 _ rfl; clear E; (try clear FB); clear HH; go_simp
        clear K26
        refine ltake (v := .bool true) (w' := w) K27 rfl rfl (want_some K27 rfl rfl rfl) (fun ev E => ?_) (fun a28 K28 => ?_)
        · have EC := E.const; have E31 := E.tmp 31 _ rfl; have E32 := E.tmp 32 _ rfl; clear E; (try clear FB); clear HH; go_simp
        clear K27
        refine ltake (v := .bool true) (w' := w) K28 rfl rfl (want_none rfl) (fun ev E => ?_) (fun a29 K29 => ?_)
        · have EC := E.const; have E30 := E.tmp 30 _ rfl; have E33 := E.tmp 33 _ rfl; clear E; (try clear FB); clear HH; go_simp
        clear K28
        refine wpList_nil ?_
        show Code.wp _ _ _ _ _
        refine knCond (b := true) K29 rfl ?_
        refine seqN ?_
        refine wp_region_lit ?_
        refine ltake (v := Value.bool false) (w' := w) K29 rfl rfl (want_none rfl) (fun ev E => ?_) (fun a30 K30 => ?_)
        · have EC := E.const; clear E; (try clear FB); clear HH; go_simp
        clear K29
        refine wpList_nil ?_
        refine wp_ret ?_
        refine thenRet ?_
        refine bodyPost_ret (v := .bool false) ?_ K30.defers ⟨?_, ?_⟩
        · have e6 := K30.has 6 _ rfl
          simp [results, Try.results20, go_sem, e6]
        · rw [unhide FB]
        · have := unhide FB; rw [Se.joinA, this]; exact (unhide HH).ch
      · have e3 : ((ii : Int) == (jj : Int)) = false := by rw [beq_eq_false_iff_ne]; omega
        have hsm : A.sameI (v : Int) (v' : Int) = false := by
          simp only [Se.sameI, f1, g1, Bool.true_and, decide_eq_false_iff_not, Int.toNat_natCast]
          rw [← hs1]
          intro hm
          have hm' : v' ∈ A.L.getD jj [] := by rw [gs1]; exact gm
          exact hE (same_idx (unhide HH).nd hi hj hm hm')
        have FB : Hid (A.joinB (v : Int) (v' : Int) = true ∧ A.joinA (v : Int) (v' : Int) = { A with L := (A.L.erase (A.L.getD ii [])).erase (A.L.getD jj []) ++ [A.L.getD ii [] ++ A.L.getD jj []] }) := by
          have hb : A.joinB (v : Int) (v' : Int) = true := by rw [Se.joinB, f1, g1, hsm]; rfl
          exact ⟨hb, by rw [Se.joinA, if_pos hb, hs1, gs1]⟩
        clear f1 f2 f3 f4 g1 g2 g3 g4 hs1 hk gs1 gk gm HP1 HP2 hsm
        refine wp_seq (seqN ?_)
        refine wp_region_lit ?_
        refine ltake (v := .int .i64 (ii : Int)) (w' := w) K18 rfl rfl (want_none rfl) (fun ev E => ?_) (fun a19 K19 => ?_)
        · have EC := E.const; have E7 := E.tmp 7 _ rfl; clear E; (try clear FB); clear HH; go_simp
        clear K18
        refine ltake (v := .bool false) (w' := w) K19 rfl rfl (want_none rfl) (fun ev E => ?_) (fun a20 K20 => ?_)
        · have EC := E.const; have E24 := E.tmp 24 _ rfl; clear E; (try clear FB); clear HH; go_simp
        clear K19
        refine ltake (v := .bool false) (w' := w) K20 rfl rfl (want_none rfl) (fun ev E => ?_) (fun a21 K21 => ?_)
        · have EC := E.const; have E25 := E.tmp 25 _ rfl; clear E; (try clear FB); clear HH; go_simp
        clear K20
        refine ltake (v := .int .i64 (jj : Int)) (w' := w) K21 rfl rfl (want_some K21 rfl rfl rfl) (fun ev E => ?_) (fun a22 K22 => ?_)
        · have EC := E.const; have E9 := E.tmp 9 _ rfl; clear E; (try clear FB); clear HH; go_simp
        clear K21
        refine ltake (v := .bool false) (w' := w) K22 rfl rfl (want_some K22 rfl rfl rfl) (fun ev E => ?_) (fun a23 K23 => ?_)
        · have EC := E.const; have E27 := E.tmp 27 _ rfl; clear E; (try clear FB); clear HH; go_simp
        clear K22
        refine ltake (v := .bool false) (w' := w) K23 rfl rfl (want_none rfl) (fun ev E => ?_) (fun a24 K24 => ?_)
        · have EC := E.const; have E26 := E.tmp 26 _ rfl; have E28 := E.tmp 28 _ rfl; clear E; (try clear FB); clear HH; go_simp
        clear K23
        refine ltake (v := .bool false) (w' := w) K24 rfl rfl (want_none rfl) (fun ev E => ?_) (fun a25 K25 => ?_)
        · have EC := E.const; have E29 := E.tmp 29 _ rfl; clear E; (try clear FB); clear HH; go_simp
        clear K24
        refine ltake (v := .int .i64 (ii : Int)) (w' := w) K25 rfl rfl (want_some K25 rfl rfl rfl) (fun ev E => ?_) (fun a26 K26 => ?_)
        · have EC := E.const; have E7 := E.tmp 7 _ rfl; clear E; (try clear FB); clear HH; go_simp
        clear K25
        refine ltake (v := .int .i64 (jj : Int)) (w' := w) K26 rfl rfl (want_some K26 rfl rfl rfl) (fun ev E => ?_) (fun a27 K27 => ?_)
        · have EC := E.const; have E9 := E.tmp 9 _ rfl; clear E; (try clear FB); clear HH; go_simp
        clear K26
        refine ltake (v := .bool false) (w' := w) K27 rfl rfl (want_some K27 rfl rfl rfl) (fun ev E => ?_) (fun a28 K28 => ?_)
        · have EC := E.const; have E31 := E.tmp 31 _ rfl; have E32 := E.tmp 32 _ rfl; clear E; (try clear FB); clear HH; go_simp
        clear K27
        refine ltake (v := .bool false) (w' := w) K28 rfl rfl (want_none rfl) (fun ev E => ?_) (fun a29 K29 => ?_)
        · have EC := E.const; have E30 := E.tmp 30 _ rfl; have E33 := E.tmp 33 _ rfl; clear E; (try clear FB); clear HH; go_simp
        clear K28
        refine wpList_nil ?_
        show Code.wp _ _ _ _ _
        refine knCond (b := false) K29 rfl (wp_skip ?_)
        show Code.wp _ _ _ _ _
        have K30 : Kb _ 72 [(0, .pointer (some ⟨q, 0, none⟩)), (7, .int .i64 (ii : Int)), (9, .int .i64 (jj : Int))] := K29.less ⟨rfl, rfl, rfl, trivial⟩
        clear K29
        have hA := unhide HH
        obtain ⟨c0, c1, c2, c3⟩ := hA.rin.cells
        obtain ⟨xo, cap, hvL, k1, k2, k3⟩ := hA.rin.outer
        obtain ⟨gg, hxo, hg, hc⟩ := k3 (by omega)
        have d1 := hc ii hi
        have d2 := hc jj hj
        have hd1 := hA.rin.hd ii hi
        have hd2 := hA.rin.hd jj hj
        have hL1 := hA.lenl _ (getD_mem hi)
        have hL2 := hA.lenl _ (getD_mem hj)
        have hLn := hA.len
        have hq0 : q < w.heap.size := (Array.getElem?_eq_some_iff.1 hA.rin.blk).1
        have hbw0 : bw < w.heap.size := hA.rin.rw.lt
        rw [hxo] at hvL
        refine seqN (rg20_5 (q := q) (g := gg) (LN := A.L.length) (cap := cap) (ii := ii) (jj := jj) K30 (by omega) (by omega) (by omega) (by omega) ⟨by rw [c1, hvL], d1, d2⟩ hd1.src hd2.src (ivs_one _) (ivs_one _) hd1.lt hd2.lt hq0 hg hL1 hL2 (fun a5 v5 W5 K5 b5 o5 => ?_))
        have hv5 : Hd W5 v5 (A.L.getD ii [] ++ A.L.getD jj []) := hd_row (by rw [ivs_append]; exact o5) (by
          have := hA.ne _ (getD_mem hi)
          intro hx
          exact this (List.append_eq_nil_iff.1 hx).1)
        have hge := row_ge o5
        have hA5 := hA.below b5
        have hvlt := hv5.lt
        clear o5 c0 c1 c2 c3 k1 k2 k3 hc d1 d2 hd1 hd2
        by_cases hlt : ii < jj
        · have e8 : (ii : Int) < (jj : Int) := by omega
          have e9 : ¬ (jj : Int) < (ii : Int) := by omega
          have e10 : ¬ (jj : Int) ≤ (ii : Int) := by omega
          have e11 : (ii : Int) ≤ (jj : Int) := by omega
          show Code.wp _ _ _ _ _
          refine seqN ?_
          refine wp_region_lit ?_
          refine ltake (v := .pointer (some ⟨q, 0, none⟩)) (w' := W5) K5 rfl rfl (want_none rfl) (fun ev E => ?_) (fun a36 K36 => ?_)
          · have EC := E.const; have E0 := E.tmp 0 _ rfl; clear E; clear FB HH hA hA5 hv5; (try clear H6); (try clear H7); go_simp
          clear K5
          refine ltake (v := .int .i64 (ii : Int)) (w' := W5) K36 rfl rfl (want_none rfl) (fun ev E => ?_) (fun a37 K37 => ?_)
          · have EC := E.const; have E7 := E.tmp 7 _ rfl; clear E; clear FB HH hA hA5 hv5; (try clear H6); (try clear H7); go_simp
          clear K36
          refine ltake (v := .int .i64 (jj : Int)) (w' := W5) K37 rfl rfl (want_none rfl) (fun ev E => ?_) (fun a38 K38 => ?_)
          · have EC := E.const; have E9 := E.tmp 9 _ rfl; clear E; clear FB HH hA hA5 hv5; (try clear H6); (try clear H7); go_simp
          clear K37
          refine ltake (v := .int .i64 (jj : Int)) (w' := W5) K38 rfl rfl (want_none rfl) (fun ev E => ?_) (fun a39 K39 => ?_)
          · have EC := E.const; have E53 := E.tmp 53 _ rfl; have E54 := E.tmp 54 _ rfl; clear E; clear FB HH hA hA5 hv5; (try clear H6); (try clear H7); go_simp
          clear K38
          refine lcall (f := 49) (args := #[.pointer (some ⟨q, 0, none⟩), .int .i64 (jj : Int)]) K39 rfl rfl (want_none rfl) (fun ev E => ?_) (rwithout_any jj W5 q bw A.n vL hs A.L fw hA5.rin hj hLn) (fun e W6 hR => ?_)
          · have EC := E.const; have EF := E.func; have E52 := E.tmp 52 _ rfl; have E55 := E.tmp 55 _ rfl; clear E; clear FB HH hA hA5 hv5; (try clear H6); (try clear H7); go_simp
          obtain ⟨rfl, vL6, r6, k6, n6⟩ := hR
          have H6 := hide (hA5.less r6 (cut_sub _ _))
          have hv6 := hv5.keep k6 (fun k hk hm => by simp at hm; subst hm; have := hge k hk; omega)
          have s6 := k6.size
          refine ⟨_, rfl, fun a40 K40 => ?_⟩
          clear K39
          refine wpList_nil ?_
          show Code.wp _ _ _ _ _
          refine seqN ?_
          refine wp_region_lit ?_
          refine ltake (v := .pointer (some ⟨q, 0, none⟩)) (w' := W6) K40 rfl rfl (want_none rfl) (fun ev E => ?_) (fun a41 K41 => ?_)
          · have EC := E.const; have E0 := E.tmp 0 _ rfl; clear E; clear FB HH hA hA5 hv5 H6 hv6 r6; (try clear H7); go_simp
          clear K40
          refine ltake (v := .int .i64 (ii : Int)) (w' := W6) K41 rfl rfl (want_none rfl) (fun ev E => ?_) (fun a42 K42 => ?_)
          · have EC := E.const; have E7 := E.tmp 7 _ rfl; clear E; clear FB HH hA hA5 hv5 H6 hv6 r6; (try clear H7); go_simp
          clear K41
          refine ltake (v := .int .i64 (jj : Int)) (w' := W6) K42 rfl rfl (want_none rfl) (fun ev E => ?_) (fun a43 K43 => ?_)
          · have EC := E.const; have E9 := E.tmp 9 _ rfl; clear E; clear FB HH hA hA5 hv5 H6 hv6 r6; (try clear H7); go_simp
          clear K42
          refine ltake (v := .int .i64 (ii : Int)) (w' := W6) K43 rfl rfl (want_none rfl) (fun ev E => ?_) (fun a44 K44 => ?_)
          · have EC := E.const; have E58 := E.tmp 58 _ rfl; have E59 := E.tmp 59 _ rfl; clear E; clear FB HH hA hA5 hv5 H6 hv6 r6; (try clear H7); go_simp
          clear K43
          refine lcall (f := 49) (args := #[.pointer (some ⟨q, 0, none⟩), .int .i64 (ii : Int)]) K44 rfl rfl (want_none rfl) (fun ev E => ?_) (rwithout_any ii W6 q bw A.n vL6 _ _ fw r6 (by simp; omega) (by simp; omega)) (fun e W7 hR => ?_)
          · have EC := E.const; have EF := E.func; have E57 := E.tmp 57 _ rfl; have E60 := E.tmp 60 _ rfl; clear E; clear FB HH hA hA5 hv5 H6 hv6 r6; (try clear H7); go_simp
          obtain ⟨rfl, vL7, r7, k7, n7⟩ := hR
          have hv7 := hv6.keep k7 (fun k hk hm => by simp at hm; subst hm; have := hge k hk; omega)
          have s7 := k7.size
          refine ⟨_, rfl, fun a45 K45 => ?_⟩
          clear K44
          refine wpList_nil ?_
          show Code.wp _ _ _ _ _
          have K46 : Kb _ 72 [(0, .pointer (some ⟨q, 0, none⟩)), (11, v5)] := K45.less ⟨rfl, rfl, trivial⟩
          clear K45
          refine seqN (rg20_8 K46 r7 hv7 (fun b hb => ⟨by have := hge b hb; omega, by have := hge b hb; omega, fun hm => by have h1 := n7 b hm; have h2 := hvlt b hb; omega⟩) (by simp; omega) (fun a8 v8 W8 K8 hP => ?_))
          refine seqN ?_
          refine wp_region_lit ?_
          refine ltake (v := Value.bool true) (w' := W8) K8 rfl rfl (want_none rfl) (fun ev E => ?_) (fun a47 K47 => ?_)
          · have EC := E.const; clear E; go_simp
          clear K8
          refine wpList_nil ?_
          refine wp_ret ?_
          show bodyPost _ _ _ Exit.ret _ _
          refine bodyPost_ret (v := .bool true) ?_ K47.defers ⟨?_, ?_⟩
          · have e6 := K47.has 6 _ rfl
            simp [results, Try.results20, go_sem, e6]
          · rw [(unhide FB).1]
          · rw [(unhide FB).2]
            have e7 := hA.two (m := ii) (M := jj) (by omega) (by omega)
            have hr := hP.rin
            rw [e7, List.erase_comm] at hr
            have hpm := join_perm (getD_mem hi) (getD_mem hj) (hA.ne_seq hi hj hE)
            refine ⟨⟨v8, _, fw, hA.perm hr hpm (fun l hl => ?_), fun k hk => ?_, fun u hu => ?_⟩, ?_⟩
            · rcases List.mem_append.1 hl with hl | hl
              · exact hA.ne l (List.mem_of_mem_erase (List.mem_of_mem_erase hl))
              · simp at hl
                subst hl
                intro hx
                exact hA.ne _ (getD_mem hi) (List.append_eq_nil_iff.1 hx).1
            · right
              rcases hP.gr k hk with h8 | h8
              · have := n7 k h8; have := b5.size; omega
              · have := b5.size; omega
            · rcases List.mem_append.1 hu with hu | hu
              · exact .inl (mem_cut (mem_cut hu))
              · simp at hu
                subst hu
                exact .inr hge
            · have K1 : Keep [q] w W5 := Keep.ofBelow b5 [q]
              have K2 : Keep [q] w W7 := (K1.trans k6 (fun i hi => .inl hi)).trans k7 (fun i hi => .inl hi)
              have K3 : Keep (q :: bw :: own vL) w W7 := K2.mono (fun k hk => .inl (by simp at hk; simp [hk]))
              refine K3.trans hP.kp (fun i hi => ?_)
              rcases List.mem_cons.1 hi with rfl | hi
              · exact .inl (by simp)
              · right
                have := n7 i hi
                have := b5.size
                omega
        · have e8 : (jj : Int) < (ii : Int) := by omega
          have e9 : ¬ (ii : Int) < (jj : Int) := by omega
          have e10 : ¬ (ii : Int) ≤ (jj : Int) := by omega
          have e11 : (jj : Int) ≤ (ii : Int) := by omega
          show Code.wp _ _ _ _ _
          refine seqN ?_
          refine wp_region_lit ?_
          refine ltake (v := .pointer (some ⟨q, 0, none⟩)) (w' := W5) K5 rfl rfl (want_none rfl) (fun ev E => ?_) (fun a36 K36 => ?_)
          · have EC := E.const; have E0 := E.tmp 0 _ rfl; clear E; clear FB HH hA hA5 hv5; (try clear H6); (try clear H7); go_simp
          clear K5
          refine ltake (v := .int .i64 (ii : Int)) (w' := W5) K36 rfl rfl (want_none rfl) (fun ev E => ?_) (fun a37 K37 => ?_)
          · have EC := E.const; have E7 := E.tmp 7 _ rfl; clear E; clear FB HH hA hA5 hv5; (try clear H6); (try clear H7); go_simp
          clear K36
          refine ltake (v := .int .i64 (jj : Int)) (w' := W5) K37 rfl rfl (want_none rfl) (fun ev E => ?_) (fun a38 K38 => ?_)
          · have EC := E.const; have E9 := E.tmp 9 _ rfl; clear E; clear FB HH hA hA5 hv5; (try clear H6); (try clear H7); go_simp
          clear K37
          refine ltake (v := .int .i64 (ii : Int)) (w' := W5) K38 rfl rfl (want_none rfl) (fun ev E => ?_) (fun a39 K39 => ?_)
          · have EC := E.const; have E53 := E.tmp 53 _ rfl; have E54 := E.tmp 54 _ rfl; clear E; clear FB HH hA hA5 hv5; (try clear H6); (try clear H7); go_simp
          clear K38
          refine lcall (f := 49) (args := #[.pointer (some ⟨q, 0, none⟩), .int .i64 (ii : Int)]) K39 rfl rfl (want_none rfl) (fun ev E => ?_) (rwithout_any ii W5 q bw A.n vL hs A.L fw hA5.rin hi hLn) (fun e W6 hR => ?_)
          · have EC := E.const; have EF := E.func; have E52 := E.tmp 52 _ rfl; have E55 := E.tmp 55 _ rfl; clear E; clear FB HH hA hA5 hv5; (try clear H6); (try clear H7); go_simp
          obtain ⟨rfl, vL6, r6, k6, n6⟩ := hR
          have H6 := hide (hA5.less r6 (cut_sub _ _))
          have hv6 := hv5.keep k6 (fun k hk hm => by simp at hm; subst hm; have := hge k hk; omega)
          have s6 := k6.size
          refine ⟨_, rfl, fun a40 K40 => ?_⟩
          clear K39
          refine wpList_nil ?_
          show Code.wp _ _ _ _ _
          refine seqN ?_
          refine wp_region_lit ?_
          refine ltake (v := .pointer (some ⟨q, 0, none⟩)) (w' := W6) K40 rfl rfl (want_none rfl) (fun ev E => ?_) (fun a41 K41 => ?_)
          · have EC := E.const; have E0 := E.tmp 0 _ rfl; clear E; clear FB HH hA hA5 hv5 H6 hv6 r6; (try clear H7); go_simp
          clear K40
          refine ltake (v := .int .i64 (ii : Int)) (w' := W6) K41 rfl rfl (want_none rfl) (fun ev E => ?_) (fun a42 K42 => ?_)
          · have EC := E.const; have E7 := E.tmp 7 _ rfl; clear E; clear FB HH hA hA5 hv5 H6 hv6 r6; (try clear H7); go_simp
          clear K41
          refine ltake (v := .int .i64 (jj : Int)) (w' := W6) K42 rfl rfl (want_none rfl) (fun ev E => ?_) (fun a43 K43 => ?_)
          · have EC := E.const; have E9 := E.tmp 9 _ rfl; clear E; clear FB HH hA hA5 hv5 H6 hv6 r6; (try clear H7); go_simp
          clear K42
          refine ltake (v := .int .i64 (jj : Int)) (w' := W6) K43 rfl rfl (want_none rfl) (fun ev E => ?_) (fun a44 K44 => ?_)
          · have EC := E.const; have E58 := E.tmp 58 _ rfl; have E59 := E.tmp 59 _ rfl; clear E; clear FB HH hA hA5 hv5 H6 hv6 r6; (try clear H7); go_simp
          clear K43
          refine lcall (f := 49) (args := #[.pointer (some ⟨q, 0, none⟩), .int .i64 (jj : Int)]) K44 rfl rfl (want_none rfl) (fun ev E => ?_) (rwithout_any jj W6 q bw A.n vL6 _ _ fw r6 (by simp; omega) (by simp; omega)) (fun e W7 hR => ?_)
          · have EC := E.const; have EF := E.func; have E57 := E.tmp 57 _ rfl; have E60 := E.tmp 60 _ rfl; clear E; clear FB HH hA hA5 hv5 H6 hv6 r6; (try clear H7); go_simp
          obtain ⟨rfl, vL7, r7, k7, n7⟩ := hR
          have hv7 := hv6.keep k7 (fun k hk hm => by simp at hm; subst hm; have := hge k hk; omega)
          have s7 := k7.size
          refine ⟨_, rfl, fun a45 K45 => ?_⟩
          clear K44
          refine wpList_nil ?_
          show Code.wp _ _ _ _ _
          have K46 : Kb _ 72 [(0, .pointer (some ⟨q, 0, none⟩)), (11, v5)] := K45.less ⟨rfl, rfl, trivial⟩
          clear K45
          refine seqN (rg20_8 K46 r7 hv7 (fun b hb => ⟨by have := hge b hb; omega, by have := hge b hb; omega, fun hm => by have h1 := n7 b hm; have h2 := hvlt b hb; omega⟩) (by simp; omega) (fun a8 v8 W8 K8 hP => ?_))
          refine seqN ?_
          refine wp_region_lit ?_
          refine ltake (v := Value.bool true) (w' := W8) K8 rfl rfl (want_none rfl) (fun ev E => ?_) (fun a47 K47 => ?_)
          · have EC := E.const; clear E; go_simp
          clear K8
          refine wpList_nil ?_
          refine wp_ret ?_
          show bodyPost _ _ _ Exit.ret _ _
          refine bodyPost_ret (v := .bool true) ?_ K47.defers ⟨?_, ?_⟩
          · have e6 := K47.has 6 _ rfl
            simp [results, Try.results20, go_sem, e6]
          · rw [(unhide FB).1]
          · rw [(unhide FB).2]
            have e7 := hA.two (m := jj) (M := ii) (by omega) (by omega)
            have hr := hP.rin
            rw [e7] at hr
            have hpm := join_perm (getD_mem hi) (getD_mem hj) (hA.ne_seq hi hj hE)
            refine ⟨⟨v8, _, fw, hA.perm hr hpm (fun l hl => ?_), fun k hk => ?_, fun u hu => ?_⟩, ?_⟩
            · rcases List.mem_append.1 hl with hl | hl
              · exact hA.ne l (List.mem_of_mem_erase (List.mem_of_mem_erase hl))
              · simp at hl
                subst hl
                intro hx
                exact hA.ne _ (getD_mem hi) (List.append_eq_nil_iff.1 hx).1
            · right
              rcases hP.gr k hk with h8 | h8
              · have := n7 k h8; have := b5.size; omega
              · have := b5.size; omega
            · rcases List.mem_append.1 hu with hu | hu
              · exact .inl (mem_cut (mem_cut hu))
              · simp at hu
                subst hu
                exact .inr hge
            · have K1 : Keep [q] w W5 := Keep.ofBelow b5 [q]
              have K2 : Keep [q] w W7 := (K1.trans k6 (fun i hi => .inl hi)).trans k7 (fun i hi => .inl hi)
              have K3 : Keep (q :: bw :: own vL) w W7 := K2.mono (fun k hk => .inl (by simp at hk; simp [hk]))
              refine K3.trans hP.kp (fun i hi => ?_)
              rcases List.mem_cons.1 hi with rfl | hi
              · exact .inl (by simp)
              · right
                have := n7 i hi
                have := b5.size
                omega
    · have FB : Hid (A.joinB (v : Int) y = false) := by show _ = _; simp [Se.joinB, g1]
      clear f1 f2 f3 f4 g1 hs1 hk HP1 HP2 hi
      refine wp_seq (seqN ?_)
      refine wp_region_lit ?_
      refine ltake (v := .int .i64 (ii : Int)) (w' := w) K18 rfl rfl (want_none rfl) (fun ev E => ?_) (fun a19 K19 => ?_)
      · have EC := E.const; have E7 := E.tmp 7 _ rfl; clear E; (try clear FB); clear HH; go_simp
      clear K18
      refine ltake (v := .bool false) (w' := w) K19 rfl rfl (want_none rfl) (fun ev E => ?_) (fun a20 K20 => ?_)
      · have EC := E.const; have E24 := E.tmp 24 _ rfl; clear E; (try clear FB); clear HH; go_simp
      clear K19
      refine ltake (v := .bool false) (w' := w) K20 rfl rfl (want_none rfl) (fun ev E => ?_) (fun a21 K21 => ?_)
      · have EC := E.const; have E25 := E.tmp 25 _ rfl; clear E; (try clear FB); clear HH; go_simp
      clear K20
      refine ltake (v := .int .i64 (-1)) (w' := w) K21 rfl rfl (want_some K21 rfl rfl rfl) (fun ev E => ?_) (fun a22 K22 => ?_)
      · have EC := E.const; have E9 := E.tmp 9 _ rfl; clear E; (try clear FB); clear HH; go_simp
      clear K21
      refine ltake (v := .bool true) (w' := w) K22 rfl rfl (want_some K22 rfl rfl rfl) (fun ev E => ?_) (fun a23 K23 => ?_)
      · have EC := E.const; have E27 := E.tmp 27 _ rfl; clear E; (try clear FB); clear HH; go_simp
      clear K22
      refine ltake (v := .bool true) (w' := w) K23 rfl rfl (want_none rfl) (fun ev E => ?_) (fun a24 K24 => ?_)
      · have EC := E.const; have E26 := E.tmp 26 _ rfl; have E28 := E.tmp 28 _ rfl; clear E; (try clear FB); clear HH; go_simp
      clear K23
      refine ltake (v := .bool true) (w' := w) K24 rfl rfl (want_none rfl) (fun ev E => ?_) (fun a25 K25 => ?_)
      · have EC := E.const; have E29 := E.tmp 29 _ rfl; clear E; (try clear FB); clear HH; go_simp
      clear K24
      refine lskip K25 rfl rfl (want_not K25 rfl rfl rfl (by decide)) (fun a26 K26 => ?_)
      refine lskip K26 rfl rfl (want_not K26 rfl rfl rfl (by decide)) (fun a27 K27 => ?_)
      refine lskip K27 rfl rfl (want_not K27 rfl rfl rfl (by decide)) (fun a28 K28 => ?_)
      refine ltake (v := .bool true) (w' := w) K28 rfl rfl (want_none rfl) (fun ev E => ?_) (fun a29 K29 => ?_)
      · have EC := E.const; have E30 := E.tmp 30 _ rfl; have E33 := E.tmp 33 _ rfl; clear E; (try clear FB); clear HH; go_simp
      clear K28
      refine wpList_nil ?_
      show Code.wp _ _ _ _ _
      refine knCond (b := true) K29 rfl ?_
      refine seqN ?_
      refine wp_region_lit ?_
      refine ltake (v := Value.bool false) (w' := w) K29 rfl rfl (want_none rfl) (fun ev E => ?_) (fun a30 K30 => ?_)
      · have EC := E.const; clear E; (try clear FB); clear HH; go_simp
      clear K29
      refine wpList_nil ?_
      refine wp_ret ?_
      refine thenRet ?_
      refine bodyPost_ret (v := .bool false) ?_ K30.defers ⟨?_, ?_⟩
      · have e6 := K30.has 6 _ rfl
        simp [results, Try.results20, go_sem, e6]
      · rw [unhide FB]
      · have := unhide FB; rw [Se.joinA, this]; exact (unhide HH).ch
  · have FB : Hid (A.joinB x y = false) := by show _ = _; simp [Se.joinB, f1]
    clear f1 HP1 HP2
    refine wp_seq (seqN ?_)
    refine wp_region_lit ?_
    refine ltake (v := .int .i64 (-1)) (w' := w) K18 rfl rfl (want_none rfl) (fun ev E => ?_) (fun a19 K19 => ?_)
    · have EC := E.const; have E7 := E.tmp 7 _ rfl; clear E; (try clear FB); clear HH; go_simp
    clear K18
    refine ltake (v := .bool true) (w' := w) K19 rfl rfl (want_none rfl) (fun ev E => ?_) (fun a20 K20 => ?_)
    · have EC := E.const; have E24 := E.tmp 24 _ rfl; clear E; (try clear FB); clear HH; go_simp
    clear K19
    refine ltake (v := .bool true) (w' := w) K20 rfl rfl (want_none rfl) (fun ev E => ?_) (fun a21 K21 => ?_)
    · have EC := E.const; have E25 := E.tmp 25 _ rfl; clear E; (try clear FB); clear HH; go_simp
    clear K20
    refine lskip K21 rfl rfl (want_not K21 rfl rfl rfl (by decide)) (fun a22 K22 => ?_)
    refine lskip K22 rfl rfl (want_not K22 rfl rfl rfl (by decide)) (fun a23 K23 => ?_)
    refine ltake (v := .bool true) (w' := w) K23 rfl rfl (want_none rfl) (fun ev E => ?_) (fun a24 K24 => ?_)
    · have EC := E.const; have E26 := E.tmp 26 _ rfl; have E28 := E.tmp 28 _ rfl; clear E; (try clear FB); clear HH; go_simp
    clear K23
    refine ltake (v := .bool true) (w' := w) K24 rfl rfl (want_none rfl) (fun ev E => ?_) (fun a25 K25 => ?_)
    · have EC := E.const; have E29 := E.tmp 29 _ rfl; clear E; (try clear FB); clear HH; go_simp
    clear K24
    refine lskip K25 rfl rfl (want_not K25 rfl rfl rfl (by decide)) (fun a26 K26 => ?_)
    refine lskip K26 rfl rfl (want_not K26 rfl rfl rfl (by decide)) (fun a27 K27 => ?_)
    refine lskip K27 rfl rfl (want_not K27 rfl rfl rfl (by decide)) (fun a28 K28 => ?_)
    refine ltake (v := .bool true) (w' := w) K28 rfl rfl (want_none rfl) (fun ev E => ?_) (fun a29 K29 => ?_)
    · have EC := E.const; have E30 := E.tmp 30 _ rfl; have E33 := E.tmp 33 _ rfl; clear E; (try clear FB); clear HH; go_simp
    clear K28
    refine wpList_nil ?_
    show Code.wp _ _ _ _ _
    refine knCond (b := true) K29 rfl ?_
    refine seqN ?_
    refine wp_region_lit ?_
    refine ltake (v := Value.bool false) (w' := w) K29 rfl rfl (want_none rfl) (fun ev E => ?_) (fun a30 K30 => ?_)
    · have EC := E.const; clear E; (try clear FB); clear HH; go_simp
    clear K29
    refine wpList_nil ?_
    refine wp_ret ?_
    refine thenRet ?_
    refine bodyPost_ret (v := .bool false) ?_ K30.defers ⟨?_, ?_⟩
    · have e6 := K30.has 6 _ rfl
      simp [results, Try.results20, go_sem, e6]
    · rw [unhide FB]
    · have := unhide FB; rw [Se.joinA, this]; exact (unhide HH).ch
end
end Go.Proofs.Ytbkneonbpcmepaa
/- The document's pool: the sum from one item to another one. -/

namespace Go.Proofs.Ytbkneonbpcmepaa
open Go.RowKit Go.Arb
set_option linter.unusedVariables false
set_option linter.unusedSimpArgs false
set_option maxRecDepth 100000

/-- Two blocks of the call's own: the result, the sum so far. -/
structure Rb (w W : World) (y : Sm) : Prop where
  bel : Below w.heap.size w W
  r : SumAt W w.heap.size zero
  u : SumAt W (w.heap.size + 1) y
  sz : w.heap.size + 2 ≤ W.heap.size
section
variable {w W W' : World} {y y' : Sm}
theorem Rb.below (h : Rb w W y) (hb : Below W.heap.size W W') : Rb w W' y :=
  ⟨h.bel.trans (hb.mono h.bel.size), h.r.below hb (by have := h.sz; omega), h.u.below hb (by have := h.sz; omega), Nat.le_trans h.sz hb.size⟩
theorem Rb.put (h : Rb w W y) : Rb w (putSum W (w.heap.size + 1) y') y' :=
  ⟨below_put h.bel (by omega), h.r.put_other (by omega), h.u.put, by rw [putSum_size]; exact h.sz⟩
theorem Rb.new (w : World) (t : TypeId) : Rb w ((w.alloc (.cells #[.int .i64 0, .int .i64 0, .int .i64 0, .int .i64 0] t)).alloc (.cells #[.int .i64 0, .int .i64 0, .int .i64 0, .int .i64 0] t)) zero := by
  refine ⟨b2 _ _ _, ?_, ?_, by simp⟩
  · simp [SumAt, zero, go_sem]
  · simp [SumAt, zero, go_sem]
end
theorem ofL_bd (zs : List Int) (hl : zs.length ≤ 4194303) (hb : ∀ n ∈ zs, -1099511627776 ≤ n ∧ n ≤ 1099511627776) : (0 ≤ (ofL zs).c ∧ (ofL zs).c ≤ 4194303) ∧ (-4611684918915760128 ≤ (ofL zs).s ∧ (ofL zs).s ≤ 4611684918915760128) := by
  have h := ofR_s _ _ zs hb
  rw [ofL_eq, ofR_c]
  omega
/-- The items from one place to another one, one by one. -/
theorem slice_succ {l : List Nat} {k j : Nat} (hk : k ≤ j) (hj : j < l.length) : (l.take (j + 1)).drop k = (l.take j).drop k ++ [l.getD j 0] := by
  rw [List.take_succ_eq_append_getElem hj, List.drop_append_of_le_length (by simp; omega), List.getD_eq_getElem?_getD, List.getElem?_eq_getElem hj]; rfl
def OPS26_0 : List Oper := [({ dst := (some 6), op := (Op.alloc 33), type := 0, pos := "ref.go:142", after := #[], guard := none } : Oper), ({ dst := (some 7), op := (Op.assign (Operand.const (Value.bool false))), type := 4, pos := "ref.go:142", after := #[], guard := none } : Oper)]
def OPS26_1 : List Oper := [({ dst := (some 8), op := (Op.alloc 33), type := 0, pos := "ref.go:143", after := #[], guard := none } : Oper)]
def OPS26_2 : List Oper := [({ dst := (some 15), op := (Op.move (Operand.tmp 0)), type := 25, pos := "ref.go:144", after := #[], guard := none } : Oper), ({ dst := (some 16), op := (Op.move (Operand.tmp 1)), type := 3, pos := "ref.go:144", after := #[], guard := none } : Oper), ({ dst := (some 17), op := (Op.call { callee := (Callee.value (Operand.func 48)), args := #[(Operand.tmp 15), (Operand.tmp 16)], argTypes := #[25, 3] }), type := 69, pos := "ref.go:144", after := #[{ on := 0, ground := Ground.data }, { on := 1, ground := Ground.data }], guard := none } : Oper), ({ dst := (some 14), op := (Op.move (Operand.tmp 17)), type := 69, pos := "ref.go:144", after := #[{ on := 2, ground := Ground.data }], guard := none } : Oper), ({ dst := (some 18), op := (Op.extract (Operand.tmp 14) 0), type := 3, pos := "ref.go:144", after := #[{ on := 3, ground := Ground.data }], guard := none } : Oper), ({ dst := (some 19), op := (Op.extract (Operand.tmp 14) 1), type := 3, pos := "ref.go:144", after := #[{ on := 3, ground := Ground.data }, { on := 6, ground := (Ground.gcOnly Departure.lateStores) }], guard := none } : Oper), ({ dst := (some 9), op := (Op.assign (Operand.tmp 18)), type := 3, pos := "ref.go:144", after := #[{ on := 4, ground := Ground.data }, { on := 2, ground := Ground.chain }, { on := 0, ground := Ground.phase }, { on := 1, ground := Ground.phase }, { on := 2, ground := Ground.phase }, { on := 3, ground := Ground.phase }, { on := 4, ground := Ground.phase }, { on := 5, ground := (Ground.textOnly Departure.lateStores) }], guard := none } : Oper), ({ dst := (some 10), op := (Op.assign (Operand.tmp 19)), type := 3, pos := "ref.go:144", after := #[{ on := 5, ground := Ground.data }, { on := 6, ground := Ground.chain }, { on := 0, ground := Ground.phase }, { on := 1, ground := Ground.phase }, { on := 2, ground := Ground.phase }, { on := 3, ground := Ground.phase }, { on := 4, ground := Ground.phase }, { on := 5, ground := Ground.phase }, { on := 6, ground := Ground.phase }], guard := none } : Oper)]
def OPS26_3 : List Oper := [({ dst := (some 21), op := (Op.move (Operand.tmp 0)), type := 25, pos := "ref.go:145", after := #[], guard := none } : Oper), ({ dst := (some 22), op := (Op.move (Operand.tmp 2)), type := 3, pos := "ref.go:145", after := #[], guard := none } : Oper), ({ dst := (some 23), op := (Op.call { callee := (Callee.value (Operand.func 48)), args := #[(Operand.tmp 21), (Operand.tmp 22)], argTypes := #[25, 3] }), type := 69, pos := "ref.go:145", after := #[{ on := 0, ground := Ground.data }, { on := 1, ground := Ground.data }], guard := none } : Oper), ({ dst := (some 20), op := (Op.move (Operand.tmp 23)), type := 69, pos := "ref.go:145", after := #[{ on := 2, ground := Ground.data }], guard := none } : Oper), ({ dst := (some 24), op := (Op.extract (Operand.tmp 20) 0), type := 3, pos := "ref.go:145", after := #[{ on := 3, ground := Ground.data }], guard := none } : Oper), ({ dst := (some 25), op := (Op.extract (Operand.tmp 20) 1), type := 3, pos := "ref.go:145", after := #[{ on := 3, ground := Ground.data }, { on := 6, ground := (Ground.gcOnly Departure.lateStores) }], guard := none } : Oper), ({ dst := (some 11), op := (Op.assign (Operand.tmp 24)), type := 3, pos := "ref.go:145", after := #[{ on := 4, ground := Ground.data }, { on := 2, ground := Ground.chain }, { on := 0, ground := Ground.phase }, { on := 1, ground := Ground.phase }, { on := 2, ground := Ground.phase }, { on := 3, ground := Ground.phase }, { on := 4, ground := Ground.phase }, { on := 5, ground := (Ground.textOnly Departure.lateStores) }], guard := none } : Oper), ({ dst := (some 12), op := (Op.assign (Operand.tmp 25)), type := 3, pos := "ref.go:145", after := #[{ on := 5, ground := Ground.data }, { on := 6, ground := Ground.chain }, { on := 0, ground := Ground.phase }, { on := 1, ground := Ground.phase }, { on := 2, ground := Ground.phase }, { on := 3, ground := Ground.phase }, { on := 4, ground := Ground.phase }, { on := 5, ground := Ground.phase }, { on := 6, ground := Ground.phase }], guard := none } : Oper)]
def OPS26_4 : List Oper := [({ dst := (some 26), op := (Op.move (Operand.tmp 9)), type := 3, pos := "ref.go:146", after := #[], guard := none } : Oper), ({ dst := (some 27), op := (Op.binOp BinOp.lss 3 (Operand.tmp 26) (Operand.const (Value.int IntKind.i64 0)) 3), type := 4, pos := "ref.go:146", after := #[{ on := 0, ground := Ground.data }], guard := none } : Oper), ({ dst := (some 28), op := (Op.move (Operand.tmp 27)), type := 4, pos := "ref.go:146", after := #[{ on := 1, ground := Ground.data }], guard := none } : Oper), ({ dst := (some 29), op := (Op.move (Operand.tmp 9)), type := 3, pos := "ref.go:146", after := #[{ on := 2, ground := Ground.guard }], guard := some (2, false) } : Oper), ({ dst := (some 30), op := (Op.move (Operand.tmp 11)), type := 3, pos := "ref.go:146", after := #[{ on := 2, ground := Ground.guard }], guard := some (2, false) } : Oper), ({ dst := (some 31), op := (Op.binOp BinOp.neq 3 (Operand.tmp 29) (Operand.tmp 30) 3), type := 4, pos := "ref.go:146", after := #[{ on := 3, ground := Ground.data }, { on := 4, ground := Ground.data }, { on := 2, ground := Ground.guard }], guard := some (2, false) } : Oper), ({ dst := (some 32), op := (Op.pick (Operand.tmp 28) (Operand.const (Value.bool true)) (Operand.tmp 31)), type := 4, pos := "ref.go:146", after := #[{ on := 2, ground := Ground.data }, { on := 5, ground := Ground.data }], guard := none } : Oper), ({ dst := (some 33), op := (Op.move (Operand.tmp 32)), type := 4, pos := "ref.go:146", after := #[{ on := 6, ground := Ground.data }, { on := 2, ground := Ground.chain }], guard := none } : Oper), ({ dst := (some 34), op := (Op.move (Operand.tmp 10)), type := 3, pos := "ref.go:146", after := #[{ on := 7, ground := Ground.guard }], guard := some (7, false) } : Oper), ({ dst := (some 35), op := (Op.move (Operand.tmp 12)), type := 3, pos := "ref.go:146", after := #[{ on := 7, ground := Ground.guard }], guard := some (7, false) } : Oper), ({ dst := (some 36), op := (Op.binOp BinOp.gtr 3 (Operand.tmp 34) (Operand.tmp 35) 3), type := 4, pos := "ref.go:146", after := #[{ on := 8, ground := Ground.data }, { on := 9, ground := Ground.data }, { on := 7, ground := Ground.guard }], guard := some (7, false) } : Oper), ({ dst := (some 37), op := (Op.pick (Operand.tmp 33) (Operand.const (Value.bool true)) (Operand.tmp 36)), type := 4, pos := "ref.go:146", after := #[{ on := 7, ground := Ground.data }, { on := 10, ground := Ground.data }], guard := none } : Oper)]
def OPS26_5 : List Oper := [({ dst := (some 38), op := (Op.load 33 (Operand.tmp 8)), type := 33, pos := "ref.go:147", after := #[], guard := none } : Oper), ({ dst := none, op := (Op.store 33 (Operand.tmp 6) (Operand.tmp 38)), type := 0, pos := "ref.go:147", after := #[{ on := 0, ground := Ground.data }, { on := 0, ground := Ground.phase }], guard := none } : Oper), ({ dst := (some 7), op := (Op.assign (Operand.const (Value.bool false))), type := 4, pos := "ref.go:147", after := #[{ on := 1, ground := Ground.chain }, { on := 0, ground := Ground.phase }, { on := 1, ground := Ground.phase }], guard := none } : Oper)]
def OPS26_6 : List Oper := [({ dst := (some 39), op := (Op.move (Operand.tmp 10)), type := 3, pos := "ref.go:149", after := #[], guard := none } : Oper), ({ dst := (some 13), op := (Op.assign (Operand.tmp 39)), type := 3, pos := "ref.go:149", after := #[{ on := 0, ground := Ground.data }, { on := 0, ground := Ground.phase }], guard := none } : Oper)]
def OPS26_7 : List Oper := [({ dst := (some 40), op := (Op.move (Operand.tmp 13)), type := 3, pos := "ref.go:149", after := #[], guard := none } : Oper), ({ dst := (some 41), op := (Op.move (Operand.tmp 12)), type := 3, pos := "ref.go:149", after := #[], guard := none } : Oper), ({ dst := (some 42), op := (Op.binOp BinOp.leq 3 (Operand.tmp 40) (Operand.tmp 41) 3), type := 4, pos := "ref.go:149", after := #[{ on := 0, ground := Ground.data }, { on := 1, ground := Ground.data }], guard := none } : Oper)]
def OPS26_8 : List Oper := [({ dst := (some 43), op := (Op.move (Operand.tmp 13)), type := 3, pos := "ref.go:149", after := #[], guard := none } : Oper), ({ dst := (some 44), op := (Op.binOp BinOp.add 3 (Operand.tmp 43) (Operand.const (Value.int IntKind.i64 1)) 3), type := 3, pos := "ref.go:149", after := #[{ on := 0, ground := Ground.data }], guard := none } : Oper), ({ dst := (some 13), op := (Op.assign (Operand.tmp 44)), type := 3, pos := "ref.go:149", after := #[{ on := 1, ground := Ground.data }, { on := 0, ground := Ground.phase }, { on := 1, ground := Ground.phase }], guard := none } : Oper)]
def OPS26_9 : List Oper := [({ dst := (some 45), op := (Op.load 33 (Operand.tmp 8)), type := 33, pos := "ref.go:150", after := #[], guard := none } : Oper), ({ dst := (some 46), op := (Op.move (Operand.tmp 0)), type := 25, pos := "ref.go:150", after := #[], guard := none } : Oper), ({ dst := (some 47), op := (Op.nilCheck (Operand.tmp 46)), type := 0, pos := "ref.go:150", after := #[{ on := 1, ground := Ground.data }], guard := none } : Oper), ({ dst := (some 48), op := (Op.fieldAddr 64 (Operand.tmp 47) 2), type := 0, pos := "ref.go:150", after := #[{ on := 2, ground := Ground.data }], guard := none } : Oper), ({ dst := (some 49), op := (Op.load 61 (Operand.tmp 48)), type := 61, pos := "ref.go:150", after := #[{ on := 3, ground := Ground.data }], guard := none } : Oper), ({ dst := (some 50), op := (Op.move (Operand.tmp 0)), type := 25, pos := "ref.go:150", after := #[], guard := none } : Oper), ({ dst := (some 51), op := (Op.nilCheck (Operand.tmp 50)), type := 0, pos := "ref.go:150", after := #[{ on := 5, ground := Ground.data }], guard := none } : Oper), ({ dst := (some 52), op := (Op.fieldAddr 64 (Operand.tmp 51) 1), type := 0, pos := "ref.go:150", after := #[{ on := 6, ground := Ground.data }], guard := none } : Oper), ({ dst := (some 53), op := (Op.load 62 (Operand.tmp 52)), type := 62, pos := "ref.go:150", after := #[{ on := 7, ground := Ground.data }], guard := none } : Oper), ({ dst := (some 54), op := (Op.move (Operand.tmp 9)), type := 3, pos := "ref.go:150", after := #[], guard := none } : Oper), ({ dst := (some 55), op := (Op.indexAddr 62 (Operand.tmp 53) (Operand.tmp 54)), type := 0, pos := "ref.go:150", after := #[{ on := 8, ground := Ground.data }, { on := 9, ground := Ground.data }], guard := none } : Oper), ({ dst := (some 56), op := (Op.load 61 (Operand.tmp 55)), type := 61, pos := "ref.go:150", after := #[{ on := 10, ground := Ground.data }], guard := none } : Oper), ({ dst := (some 57), op := (Op.move (Operand.tmp 13)), type := 3, pos := "ref.go:150", after := #[], guard := none } : Oper), ({ dst := (some 58), op := (Op.indexAddr 61 (Operand.tmp 56) (Operand.tmp 57)), type := 0, pos := "ref.go:150", after := #[{ on := 11, ground := Ground.data }, { on := 12, ground := Ground.data }], guard := none } : Oper), ({ dst := (some 59), op := (Op.load 3 (Operand.tmp 58)), type := 3, pos := "ref.go:150", after := #[{ on := 13, ground := Ground.data }], guard := none } : Oper), ({ dst := (some 60), op := (Op.indexAddr 61 (Operand.tmp 49) (Operand.tmp 59)), type := 0, pos := "ref.go:150", after := #[{ on := 4, ground := Ground.data }, { on := 14, ground := Ground.data }], guard := none } : Oper), ({ dst := (some 61), op := (Op.load 3 (Operand.tmp 60)), type := 3, pos := "ref.go:150", after := #[{ on := 15, ground := Ground.data }], guard := none } : Oper), ({ dst := (some 62), op := (Op.call { callee := (Callee.value (Operand.func 59)), args := #[(Operand.tmp 61)], argTypes := #[3] }), type := 33, pos := "ref.go:150", after := #[{ on := 16, ground := Ground.data }], guard := none } : Oper), ({ dst := (some 63), op := (Op.call { callee := (Callee.value (Operand.func 58)), args := #[(Operand.tmp 45), (Operand.tmp 62)], argTypes := #[33, 33] }), type := 33, pos := "ref.go:150", after := #[{ on := 0, ground := Ground.data }, { on := 17, ground := Ground.data }, { on := 17, ground := Ground.chain }], guard := none } : Oper), ({ dst := none, op := (Op.store 33 (Operand.tmp 8) (Operand.tmp 63)), type := 0, pos := "ref.go:150", after := #[{ on := 18, ground := Ground.data }, { on := 18, ground := Ground.chain }, { on := 0, ground := Ground.phase }, { on := 1, ground := Ground.phase }, { on := 2, ground := Ground.phase }, { on := 3, ground := Ground.phase }, { on := 4, ground := Ground.phase }, { on := 5, ground := Ground.phase }, { on := 6, ground := Ground.phase }, { on := 7, ground := Ground.phase }, { on := 8, ground := Ground.phase }, { on := 9, ground := Ground.phase }, { on := 10, ground := Ground.phase }, { on := 11, ground := Ground.phase }, { on := 12, ground := Ground.phase }, { on := 13, ground := Ground.phase }, { on := 14, ground := Ground.phase }, { on := 15, ground := Ground.phase }, { on := 16, ground := Ground.phase }, { on := 17, ground := Ground.phase }, { on := 18, ground := Ground.phase }], guard := none } : Oper)]
theorem NS26_9 : Region.noSelect OPS26_9.toArray = true := by kernel_rfl
def OPS26_10 : List Oper := [({ dst := (some 64), op := (Op.load 33 (Operand.tmp 8)), type := 33, pos := "ref.go:152", after := #[], guard := none } : Oper), ({ dst := none, op := (Op.store 33 (Operand.tmp 6) (Operand.tmp 64)), type := 0, pos := "ref.go:152", after := #[{ on := 0, ground := Ground.data }, { on := 0, ground := Ground.phase }], guard := none } : Oper), ({ dst := (some 7), op := (Op.assign (Operand.const (Value.bool true))), type := 4, pos := "ref.go:152", after := #[{ on := 1, ground := Ground.chain }, { on := 0, ground := Ground.phase }, { on := 1, ground := Ground.phase }], guard := none } : Oper)]
def LOOP26 : Code := (Code.seq (Code.seq (Code.region 7 OPS26_7.toArray false) (Code.cond (Operand.tmp 42) Code.skip (Code.exit 0))) (Code.seq (Code.block 1 (Code.region 9 OPS26_9.toArray true)) (Code.region 8 OPS26_8.toArray false)))
def CODE26 : Code := (Code.seq (Code.region 0 OPS26_0.toArray false) (Code.seq (Code.region 1 OPS26_1.toArray false) (Code.seq (Code.region 2 OPS26_2.toArray false) (Code.seq (Code.region 3 OPS26_3.toArray false) (Code.seq (Code.seq (Code.region 4 OPS26_4.toArray false) (Code.cond (Operand.tmp 37) (Code.seq (Code.region 5 OPS26_5.toArray false) Code.ret) Code.skip)) (Code.seq (Code.seq (Code.region 6 OPS26_6.toArray false) (Code.block 0 (Code.loop (Code.seq (Code.seq (Code.region 7 OPS26_7.toArray false) (Code.cond (Operand.tmp 42) Code.skip (Code.exit 0))) (Code.seq (Code.block 1 (Code.region 9 OPS26_9.toArray true)) (Code.region 8 OPS26_8.toArray false)))))) (Code.seq (Code.region 10 OPS26_10.toArray false) Code.ret)))))))
set_option maxHeartbeats 4000000 in
theorem rg26_9 {q g bw b n LN M cap cap' ii j ll z u6 u8 : Nat} {y yc ys ya yb : Int} {NX : Act → World → Prop} {a0 : Act} {w : World} (K0 : Kb a0 65 [(0, .pointer (some ⟨q, 0, none⟩)), (6, .pointer (some ⟨u6, 0, none⟩)), (8, .pointer (some ⟨u8, 0, none⟩)), (9, .int .i64 (ii : Int)), (12, .int .i64 (ll : Int)), (13, .int .i64 (j : Int))])
    (hS : (fun w' : World => (w'.cell? ⟨q, 1, none⟩ = some (.slice (some ⟨g, 0, none⟩) LN cap) ∧ w'.cell? ⟨q, 2, none⟩ = some (.slice (some ⟨bw, 0, none⟩) n n) ∧ w'.cell? ⟨g, ii, none⟩ = some (.slice (some ⟨b, 0, none⟩) M cap') ∧ w'.cell? ⟨b, j, none⟩ = some (.int .i64 (z : Int)) ∧ w'.cell? ⟨bw, z, none⟩ = some (.int .i64 y)) ∧ SumAt w' u8 ⟨yc, ys, ya, yb⟩) w) (hlt : q < w.heap.size ∧ g < w.heap.size ∧ b < w.heap.size ∧ bw < w.heap.size ∧ u8 < w.heap.size)
    (e1 : (0 : Int) ≤ (ii : Int)) (e2 : (ii : Int) < (LN : Int)) (e3 : (0 : Int) ≤ (j : Int)) (e4 : (j : Int) < (M : Int)) (e5 : (0 : Int) ≤ (z : Int)) (e6 : (z : Int) < (n : Int))
    (k1 : -4611686018427387904 ≤ yc + 1) (k2 : yc + 1 ≤ 4611686018427387904) (k3 : -4611686018427387904 ≤ ys + y) (k4 : ys + y ≤ 4611686018427387904)
    (hN : ∀ a' W, Kb a' 65 [(0, .pointer (some ⟨q, 0, none⟩)), (6, .pointer (some ⟨u6, 0, none⟩)), (8, .pointer (some ⟨u8, 0, none⟩)), (9, .int .i64 (ii : Int)), (12, .int .i64 (ll : Int)), (13, .int .i64 (j : Int))] → Below w.heap.size w W → NX a' (putSum W u8 (jn ⟨yc, ys, ya, yb⟩ ⟨1, y, y, y⟩))) :
    (Code.region 9 OPS26_9.toArray true).wp Try.prog (Norm NX) a0 w := by
  have hq := @norm_q NX
  have keep : ∀ W, Below w.heap.size w W → (fun w' : World => (w'.cell? ⟨q, 1, none⟩ = some (.slice (some ⟨g, 0, none⟩) LN cap) ∧ w'.cell? ⟨q, 2, none⟩ = some (.slice (some ⟨bw, 0, none⟩) n n) ∧ w'.cell? ⟨g, ii, none⟩ = some (.slice (some ⟨b, 0, none⟩) M cap') ∧ w'.cell? ⟨b, j, none⟩ = some (.int .i64 (z : Int)) ∧ w'.cell? ⟨bw, z, none⟩ = some (.int .i64 y)) ∧ SumAt w' u8 ⟨yc, ys, ya, yb⟩) W := fun W hb => by
    obtain ⟨⟨z1, z2, z3, z4, z5⟩, z6⟩ := hS
    exact ⟨⟨by rw [hb.cell (p := ⟨q, 1, none⟩) hlt.1]; exact z1, by rw [hb.cell (p := ⟨q, 2, none⟩) hlt.1]; exact z2, by rw [hb.cell (p := ⟨g, ii, none⟩) hlt.2.1]; exact z3, by rw [hb.cell (p := ⟨b, j, none⟩) hlt.2.2.1]; exact z4, by rw [hb.cell (p := ⟨bw, z, none⟩) hlt.2.2.2.1]; exact z5⟩, z6.below hb hlt.2.2.2.2⟩
  have KP := hide keep
  replace hS : (fun w' : World => (w'.cell? ⟨q, 1, none⟩ = some (.slice (some ⟨g, 0, none⟩) LN cap) ∧ w'.cell? ⟨q, 2, none⟩ = some (.slice (some ⟨bw, 0, none⟩) n n) ∧ w'.cell? ⟨g, ii, none⟩ = some (.slice (some ⟨b, 0, none⟩) M cap') ∧ w'.cell? ⟨b, j, none⟩ = some (.int .i64 (z : Int)) ∧ w'.cell? ⟨bw, z, none⟩ = some (.int .i64 y)) ∧ SumAt w' u8 ⟨yc, ys, ya, yb⟩) w.drew := keep _ ((Below.refl _ _).drew)
  clear keep
  refine wp_region_till (t := 19) (S := (fun w' : World => (w'.cell? ⟨q, 1, none⟩ = some (.slice (some ⟨g, 0, none⟩) LN cap) ∧ w'.cell? ⟨q, 2, none⟩ = some (.slice (some ⟨bw, 0, none⟩) n n) ∧ w'.cell? ⟨g, ii, none⟩ = some (.slice (some ⟨b, 0, none⟩) M cap') ∧ w'.cell? ⟨b, j, none⟩ = some (.int .i64 (z : Int)) ∧ w'.cell? ⟨bw, z, none⟩ = some (.int .i64 y)) ∧ SumAt w' u8 ⟨yc, ys, ya, yb⟩)) (by kernel_rfl) ?_
  rw [show (OPS26_9.toArray).size = 20 from by kernel_rfl, show Array.replicate 20 false = ([false, false, false, false, false, false, false, false, false, false, false, false, false, false, false, false, false, false, false, false] : List Bool).toArray from by kernel_rfl]
  refine utake (i := 0) (o := { dst := (some 45), op := (Op.load 33 (Operand.tmp 8)), type := 33, pos := "ref.go:150", after := #[], guard := none }) (v := .agg #[.int .i64 yc, .int .i64 ys, .int .i64 ya, .int .i64 yb]) (l2 := ([true, false, false, false, false, false, false, false, false, false, false, false, false, false, false, false, false, false, false, false] : List Bool).toArray) K0 hq rfl NS26_9 (by kernel_rfl) (by kernel_rfl) (by kernel_rfl) (by kernel_rfl) (by kernel_rfl) rfl rfl (want_none rfl) (fun ev E w9 hSw => ?_) hS (fun a1 K1 => ?_)
  · obtain ⟨⟨z1, z2, z3, z4, z5⟩, ⟨⟨s0, s1, s2, s3⟩, _⟩⟩ := hSw; clear KP hN hq hS; have EC := E.const; have E8 := E.tmp 8 _ rfl; clear E; go_simp
  refine utake (i := 1) (o := { dst := (some 46), op := (Op.move (Operand.tmp 0)), type := 25, pos := "ref.go:150", after := #[], guard := none }) (v := .pointer (some ⟨q, 0, none⟩)) (l2 := ([true, true, false, false, false, false, false, false, false, false, false, false, false, false, false, false, false, false, false, false] : List Bool).toArray) K1 hq rfl NS26_9 (by kernel_rfl) (by kernel_rfl) (by kernel_rfl) (by kernel_rfl) (by kernel_rfl) rfl rfl (want_none rfl) (fun ev E w9 hSw => ?_) hS (fun a2 K2 => ?_)
  · clear hSw; clear KP hN hq hS; have EC := E.const; have E0 := E.tmp 0 _ rfl; clear E; go_simp
  clear K1
  refine utake (i := 2) (o := { dst := (some 47), op := (Op.nilCheck (Operand.tmp 46)), type := 0, pos := "ref.go:150", after := #[{ on := 1, ground := Ground.data }], guard := none }) (v := .pointer (some ⟨q, 0, none⟩)) (l2 := ([true, true, true, false, false, false, false, false, false, false, false, false, false, false, false, false, false, false, false, false] : List Bool).toArray) K2 hq rfl NS26_9 (by kernel_rfl) (by kernel_rfl) (by kernel_rfl) (by kernel_rfl) (by kernel_rfl) rfl rfl (want_none rfl) (fun ev E w9 hSw => ?_) hS (fun a3 K3 => ?_)
  · clear hSw; clear KP hN hq hS; have EC := E.const; have E46 := E.tmp 46 _ rfl; clear E; go_simp
  clear K2
  refine utake (i := 3) (o := { dst := (some 48), op := (Op.fieldAddr 64 (Operand.tmp 47) 2), type := 0, pos := "ref.go:150", after := #[{ on := 2, ground := Ground.data }], guard := none }) (v := .pointer (some ⟨q, 2, none⟩)) (l2 := ([true, true, true, true, false, false, false, false, false, false, false, false, false, false, false, false, false, false, false, false] : List Bool).toArray) K3 hq rfl NS26_9 (by kernel_rfl) (by kernel_rfl) (by kernel_rfl) (by kernel_rfl) (by kernel_rfl) rfl rfl (want_none rfl) (fun ev E w9 hSw => ?_) hS (fun a4 K4 => ?_)
  · clear hSw; clear KP hN hq hS; have EC := E.const; have E47 := E.tmp 47 _ rfl; clear E; go_simp
  clear K3
  refine utake (i := 4) (o := { dst := (some 49), op := (Op.load 61 (Operand.tmp 48)), type := 61, pos := "ref.go:150", after := #[{ on := 3, ground := Ground.data }], guard := none }) (v := .slice (some ⟨bw, 0, none⟩) n n) (l2 := ([true, true, true, true, true, false, false, false, false, false, false, false, false, false, false, false, false, false, false, false] : List Bool).toArray) K4 hq rfl NS26_9 (by kernel_rfl) (by kernel_rfl) (by kernel_rfl) (by kernel_rfl) (by kernel_rfl) rfl rfl (want_none rfl) (fun ev E w9 hSw => ?_) hS (fun a5 K5 => ?_)
  · obtain ⟨⟨z1, z2, z3, z4, z5⟩, ⟨⟨s0, s1, s2, s3⟩, _⟩⟩ := hSw; clear KP hN hq hS; have EC := E.const; have E48 := E.tmp 48 _ rfl; clear E; go_simp
  clear K4
  refine utake (i := 5) (o := { dst := (some 50), op := (Op.move (Operand.tmp 0)), type := 25, pos := "ref.go:150", after := #[], guard := none }) (v := .pointer (some ⟨q, 0, none⟩)) (l2 := ([true, true, true, true, true, true, false, false, false, false, false, false, false, false, false, false, false, false, false, false] : List Bool).toArray) K5 hq rfl NS26_9 (by kernel_rfl) (by kernel_rfl) (by kernel_rfl) (by kernel_rfl) (by kernel_rfl) rfl rfl (want_none rfl) (fun ev E w9 hSw => ?_) hS (fun a6 K6 => ?_)
  · clear hSw; clear KP hN hq hS; have EC := E.const; have E0 := E.tmp 0 _ rfl; clear E; go_simp
  clear K5
  refine utake (i := 6) (o := { dst := (some 51), op := (Op.nilCheck (Operand.tmp 50)), type := 0, pos := "ref.go:150", after := #[{ on := 5, ground := Ground.data }], guard := none }) (v := .pointer (some ⟨q, 0, none⟩)) (l2 := ([true, true, true, true, true, true, true, false, false, false, false, false, false, false, false, false, false, false, false, false] : List Bool).toArray) K6 hq rfl NS26_9 (by kernel_rfl) (by kernel_rfl) (by kernel_rfl) (by kernel_rfl) (by kernel_rfl) rfl rfl (want_none rfl) (fun ev E w9 hSw => ?_) hS (fun a7 K7 => ?_)
  · clear hSw; clear KP hN hq hS; have EC := E.const; have E50 := E.tmp 50 _ rfl; clear E; go_simp
  clear K6
  refine utake (i := 7) (o := { dst := (some 52), op := (Op.fieldAddr 64 (Operand.tmp 51) 1), type := 0, pos := "ref.go:150", after := #[{ on := 6, ground := Ground.data }], guard := none }) (v := .pointer (some ⟨q, 1, none⟩)) (l2 := ([true, true, true, true, true, true, true, true, false, false, false, false, false, false, false, false, false, false, false, false] : List Bool).toArray) K7 hq rfl NS26_9 (by kernel_rfl) (by kernel_rfl) (by kernel_rfl) (by kernel_rfl) (by kernel_rfl) rfl rfl (want_none rfl) (fun ev E w9 hSw => ?_) hS (fun a8 K8 => ?_)
  · clear hSw; clear KP hN hq hS; have EC := E.const; have E51 := E.tmp 51 _ rfl; clear E; go_simp
  clear K7
  refine utake (i := 8) (o := { dst := (some 53), op := (Op.load 62 (Operand.tmp 52)), type := 62, pos := "ref.go:150", after := #[{ on := 7, ground := Ground.data }], guard := none }) (v := .slice (some ⟨g, 0, none⟩) LN cap) (l2 := ([true, true, true, true, true, true, true, true, true, false, false, false, false, false, false, false, false, false, false, false] : List Bool).toArray) K8 hq rfl NS26_9 (by kernel_rfl) (by kernel_rfl) (by kernel_rfl) (by kernel_rfl) (by kernel_rfl) rfl rfl (want_none rfl) (fun ev E w9 hSw => ?_) hS (fun a9 K9 => ?_)
  · obtain ⟨⟨z1, z2, z3, z4, z5⟩, ⟨⟨s0, s1, s2, s3⟩, _⟩⟩ := hSw; clear KP hN hq hS; have EC := E.const; have E52 := E.tmp 52 _ rfl; clear E; go_simp
  clear K8
  refine utake (i := 9) (o := { dst := (some 54), op := (Op.move (Operand.tmp 9)), type := 3, pos := "ref.go:150", after := #[], guard := none }) (v := .int .i64 (ii : Int)) (l2 := ([true, true, true, true, true, true, true, true, true, true, false, false, false, false, false, false, false, false, false, false] : List Bool).toArray) K9 hq rfl NS26_9 (by kernel_rfl) (by kernel_rfl) (by kernel_rfl) (by kernel_rfl) (by kernel_rfl) rfl rfl (want_none rfl) (fun ev E w9 hSw => ?_) hS (fun a10 K10 => ?_)
  · clear hSw; clear KP hN hq hS; have EC := E.const; have E9 := E.tmp 9 _ rfl; clear E; go_simp
  clear K9
  refine utake (i := 10) (o := { dst := (some 55), op := (Op.indexAddr 62 (Operand.tmp 53) (Operand.tmp 54)), type := 0, pos := "ref.go:150", after := #[{ on := 8, ground := Ground.data }, { on := 9, ground := Ground.data }], guard := none }) (v := .pointer (some ⟨g, ii, none⟩)) (l2 := ([true, true, true, true, true, true, true, true, true, true, true, false, false, false, false, false, false, false, false, false] : List Bool).toArray) K10 hq rfl NS26_9 (by kernel_rfl) (by kernel_rfl) (by kernel_rfl) (by kernel_rfl) (by kernel_rfl) rfl rfl (want_none rfl) (fun ev E w9 hSw => ?_) hS (fun a11 K11 => ?_)
  · clear hSw; clear KP hN hq hS; have EC := E.const; have E53 := E.tmp 53 _ rfl; have E54 := E.tmp 54 _ rfl; clear E; go_simp
  clear K10
  refine utake (i := 11) (o := { dst := (some 56), op := (Op.load 61 (Operand.tmp 55)), type := 61, pos := "ref.go:150", after := #[{ on := 10, ground := Ground.data }], guard := none }) (v := .slice (some ⟨b, 0, none⟩) M cap') (l2 := ([true, true, true, true, true, true, true, true, true, true, true, true, false, false, false, false, false, false, false, false] : List Bool).toArray) K11 hq rfl NS26_9 (by kernel_rfl) (by kernel_rfl) (by kernel_rfl) (by kernel_rfl) (by kernel_rfl) rfl rfl (want_none rfl) (fun ev E w9 hSw => ?_) hS (fun a12 K12 => ?_)
  · obtain ⟨⟨z1, z2, z3, z4, z5⟩, ⟨⟨s0, s1, s2, s3⟩, _⟩⟩ := hSw; clear KP hN hq hS; have EC := E.const; have E55 := E.tmp 55 _ rfl; clear E; go_simp
  clear K11
  refine utake (i := 12) (o := { dst := (some 57), op := (Op.move (Operand.tmp 13)), type := 3, pos := "ref.go:150", after := #[], guard := none }) (v := .int .i64 (j : Int)) (l2 := ([true, true, true, true, true, true, true, true, true, true, true, true, true, false, false, false, false, false, false, false] : List Bool).toArray) K12 hq rfl NS26_9 (by kernel_rfl) (by kernel_rfl) (by kernel_rfl) (by kernel_rfl) (by kernel_rfl) rfl rfl (want_none rfl) (fun ev E w9 hSw => ?_) hS (fun a13 K13 => ?_)
  · clear hSw; clear KP hN hq hS; have EC := E.const; have E13 := E.tmp 13 _ rfl; clear E; go_simp
  clear K12
  refine utake (i := 13) (o := { dst := (some 58), op := (Op.indexAddr 61 (Operand.tmp 56) (Operand.tmp 57)), type := 0, pos := "ref.go:150", after := #[{ on := 11, ground := Ground.data }, { on := 12, ground := Ground.data }], guard := none }) (v := .pointer (some ⟨b, j, none⟩)) (l2 := ([true, true, true, true, true, true, true, true, true, true, true, true, true, true, false, false, false, false, false, false] : List Bool).toArray) K13 hq rfl NS26_9 (by kernel_rfl) (by kernel_rfl) (by kernel_rfl) (by kernel_rfl) (by kernel_rfl) rfl rfl (want_none rfl) (fun ev E w9 hSw => ?_) hS (fun a14 K14 => ?_)
  · clear hSw; clear KP hN hq hS; have EC := E.const; have E56 := E.tmp 56 _ rfl; have E57 := E.tmp 57 _ rfl; clear E; go_simp
  clear K13
  refine utake (i := 14) (o := { dst := (some 59), op := (Op.load 3 (Operand.tmp 58)), type := 3, pos := "ref.go:150", after := #[{ on := 13, ground := Ground.data }], guard := none }) (v := .int .i64 (z : Int)) (l2 := ([true, true, true, true, true, true, true, true, true, true, true, true, true, true, true, false, false, false, false, false] : List Bool).toArray) K14 hq rfl NS26_9 (by kernel_rfl) (by kernel_rfl) (by kernel_rfl) (by kernel_rfl) (by kernel_rfl) rfl rfl (want_none rfl) (fun ev E w9 hSw => ?_) hS (fun a15 K15 => ?_)
  · obtain ⟨⟨z1, z2, z3, z4, z5⟩, ⟨⟨s0, s1, s2, s3⟩, _⟩⟩ := hSw; clear KP hN hq hS; have EC := E.const; have E58 := E.tmp 58 _ rfl; clear E; go_simp
  clear K14
  refine utake (i := 15) (o := { dst := (some 60), op := (Op.indexAddr 61 (Operand.tmp 49) (Operand.tmp 59)), type := 0, pos := "ref.go:150", after := #[{ on := 4, ground := Ground.data }, { on := 14, ground := Ground.data }], guard := none }) (v := .pointer (some ⟨bw, z, none⟩)) (l2 := ([true, true, true, true, true, true, true, true, true, true, true, true, true, true, true, true, false, false, false, false] : List Bool).toArray) K15 hq rfl NS26_9 (by kernel_rfl) (by kernel_rfl) (by kernel_rfl) (by kernel_rfl) (by kernel_rfl) rfl rfl (want_none rfl) (fun ev E w9 hSw => ?_) hS (fun a16 K16 => ?_)
  · clear hSw; clear KP hN hq hS; have EC := E.const; have E49 := E.tmp 49 _ rfl; have E59 := E.tmp 59 _ rfl; clear E; go_simp
  clear K15
  refine utake (i := 16) (o := { dst := (some 61), op := (Op.load 3 (Operand.tmp 60)), type := 3, pos := "ref.go:150", after := #[{ on := 15, ground := Ground.data }], guard := none }) (v := .int .i64 y) (l2 := ([true, true, true, true, true, true, true, true, true, true, true, true, true, true, true, true, true, false, false, false] : List Bool).toArray) K16 hq rfl NS26_9 (by kernel_rfl) (by kernel_rfl) (by kernel_rfl) (by kernel_rfl) (by kernel_rfl) rfl rfl (want_none rfl) (fun ev E w9 hSw => ?_) hS (fun a17 K17 => ?_)
  · obtain ⟨⟨z1, z2, z3, z4, z5⟩, ⟨⟨s0, s1, s2, s3⟩, _⟩⟩ := hSw; clear KP hN hq hS; have EC := E.const; have E60 := E.tmp 60 _ rfl; clear E; go_simp
  clear K16
  refine uone (i := 17) (o := { dst := (some 62), op := (Op.call { callee := (Callee.value (Operand.func 59)), args := #[(Operand.tmp 61)], argTypes := #[3] }), type := 33, pos := "ref.go:150", after := #[{ on := 16, ground := Ground.data }], guard := none }) (l2 := ([true, true, true, true, true, true, true, true, true, true, true, true, true, true, true, true, true, true, false, false] : List Bool).toArray) K17 rfl (by kernel_rfl) (by kernel_rfl) rfl rfl (want_none rfl) (leaves_call (fn := 59) (args := #[.int .i64 y]) K17 (fun ev E => by clear KP hN hq hS; have EF := E.func; have E61 := E.tmp 61 _ rfl; clear E; go_simp) (rone_any y _) (fun e w' h => ⟨_, h.1⟩)) (fun v18 W1 hR => ?_)
  obtain ⟨hv, hb⟩ := hR
  injection hv with hv
  subst hv
  have b1 : Below w.heap.size w W1 := ((Below.refl _ _).drew).trans hb
  clear hS hb
  have hS : (fun w' : World => (w'.cell? ⟨q, 1, none⟩ = some (.slice (some ⟨g, 0, none⟩) LN cap) ∧ w'.cell? ⟨q, 2, none⟩ = some (.slice (some ⟨bw, 0, none⟩) n n) ∧ w'.cell? ⟨g, ii, none⟩ = some (.slice (some ⟨b, 0, none⟩) M cap') ∧ w'.cell? ⟨b, j, none⟩ = some (.int .i64 (z : Int)) ∧ w'.cell? ⟨bw, z, none⟩ = some (.int .i64 y)) ∧ SumAt w' u8 ⟨yc, ys, ya, yb⟩) W1 := unhide KP _ b1
  refine ⟨fun _ => hS, fun a18 K18 => ?_⟩
  clear K17
  refine uone (i := 18) (o := { dst := (some 63), op := (Op.call { callee := (Callee.value (Operand.func 58)), args := #[(Operand.tmp 45), (Operand.tmp 62)], argTypes := #[33, 33] }), type := 33, pos := "ref.go:150", after := #[{ on := 0, ground := Ground.data }, { on := 17, ground := Ground.data }, { on := 17, ground := Ground.chain }], guard := none }) (l2 := ([true, true, true, true, true, true, true, true, true, true, true, true, true, true, true, true, true, true, true, false] : List Bool).toArray) K18 rfl (by kernel_rfl) (by kernel_rfl) rfl rfl (want_none rfl) (leaves_call (fn := 58) (args := #[.agg #[.int .i64 yc, .int .i64 ys, .int .i64 ya, .int .i64 yb], .agg #[.int .i64 1, .int .i64 y, .int .i64 y, .int .i64 y]]) K18 (fun ev E => by clear KP hN hq hS; have EF := E.func; have E45 := E.tmp 45 _ rfl; have E62 := E.tmp 62 _ rfl; clear E; go_simp) (rjoin_any yc ys ya yb 1 y y y _ k1 k2 k3 k4) (fun e w' h => ⟨_, h.1⟩)) (fun v19 W2 hR => ?_)
  obtain ⟨hv, hb⟩ := hR
  injection hv with hv
  subst hv
  have b2 : Below w.heap.size w W2 := b1.trans (hb.mono b1.size)
  clear hS hb b1
  have hS : (fun w' : World => (w'.cell? ⟨q, 1, none⟩ = some (.slice (some ⟨g, 0, none⟩) LN cap) ∧ w'.cell? ⟨q, 2, none⟩ = some (.slice (some ⟨bw, 0, none⟩) n n) ∧ w'.cell? ⟨g, ii, none⟩ = some (.slice (some ⟨b, 0, none⟩) M cap') ∧ w'.cell? ⟨b, j, none⟩ = some (.int .i64 (z : Int)) ∧ w'.cell? ⟨bw, z, none⟩ = some (.int .i64 y)) ∧ SumAt w' u8 ⟨yc, ys, ya, yb⟩) W2 := unhide KP _ b2
  refine ⟨fun _ => hS, fun a19 K19 => ?_⟩
  clear K18
  obtain ⟨_, ⟨⟨q0, q1, q2, q3⟩, f0, f1, f2, f3⟩⟩ := hS
  generalize jn ⟨yc, ys, ya, yb⟩ ⟨1, y, y, y⟩ = r at *
  refine ustore (R := fun _ _ => True) (i := 19) (o := { dst := none, op := (Op.store 33 (Operand.tmp 8) (Operand.tmp 63)), type := 0, pos := "ref.go:150", after := #[{ on := 18, ground := Ground.data }, { on := 18, ground := Ground.chain }, { on := 0, ground := Ground.phase }, { on := 1, ground := Ground.phase }, { on := 2, ground := Ground.phase }, { on := 3, ground := Ground.phase }, { on := 4, ground := Ground.phase }, { on := 5, ground := Ground.phase }, { on := 6, ground := Ground.phase }, { on := 7, ground := Ground.phase }, { on := 8, ground := Ground.phase }, { on := 9, ground := Ground.phase }, { on := 10, ground := Ground.phase }, { on := 11, ground := Ground.phase }, { on := 12, ground := Ground.phase }, { on := 13, ground := Ground.phase }, { on := 14, ground := Ground.phase }, { on := 15, ground := Ground.phase }, { on := 16, ground := Ground.phase }, { on := 17, ground := Ground.phase }, { on := 18, ground := Ground.phase }], guard := none }) (w' := putSum W2 u8 r) (l2 := ([true, true, true, true, true, true, true, true, true, true, true, true, true, true, true, true, true, true, true, true] : List Bool).toArray) K19 rfl (by kernel_rfl) (by kernel_rfl) rfl (want_none rfl) (fun ev E => ?_) (fun hx => absurd hx (by decide)) ?_
  · clear KP hN hq; have EC := E.const; have E8 := E.tmp 8 _ rfl; have E63 := E.tmp 63 _ rfl; clear E; unfold putSum; go_simp
  refine till_done (by kernel_rfl) ?_ _
  exact hN _ _ (K19.less ⟨rfl, rfl, rfl, rfl, rfl, rfl, trivial⟩) b2
section
variable {w w' : World} {q bw : Nat} {vL : Value} {hs : List Value} {fw : Nat → Int} {A : Se}
set_option maxHeartbeats 4000000 in
theorem rrange_any (x y : Int) (h : RA w q vL bw hs fw A) : Calls Try.prog 26 #[.pointer (some ⟨q, 0, none⟩), .int .i64 x, .int .i64 y] w fun e w' => e = .returned (.tuple #[smV (A.rangeI x y), .bool (A.okR x y)]) ∧ Below w.heap.size w w' := by
  have h1 := hide (fun W (hb : Below w.heap.size w W) => rpos_any x (h.below hb))
  have h2 := hide (fun W (hb : Below w.heap.size w W) => rpos_any y (h.below hb))
  have HH := hide h
  have hn := h.nn
  have hLn := h.len
  clear h
  refine calls_of_wp Try.func26 rfl ?_
  have K0 : Kb { tmps := #[.pointer (some ⟨q, 0, none⟩), .int .i64 x, .int .i64 y] ++ Array.replicate (Try.f26.ntmps - (#[.pointer (some ⟨q, 0, none⟩), .int .i64 x, .int .i64 y] : Array Value).size) undef, defers := [] } 65 [(0, .pointer (some ⟨q, 0, none⟩)), (1, .int .i64 x), (2, .int .i64 y)] :=
    Kb.of (by simp [Try.ntmps26]) rfl (by simp)
  generalize ({ tmps := #[.pointer (some ⟨q, 0, none⟩), .int .i64 x, .int .i64 y] ++ Array.replicate (Try.f26.ntmps - (#[.pointer (some ⟨q, 0, none⟩), .int .i64 x, .int .i64 y] : Array Value).size) undef, defers := [] } : Act) = a0 at K0 ⊢
  show CODE26.wp _ _ _ _
  refine seqN ?_
  refine wp_region_lit ?_
  refine ltake (v := .pointer (some ⟨w.heap.size, 0, none⟩)) (w' := w.alloc (.cells #[.int .i64 0, .int .i64 0, .int .i64 0, .int .i64 0] 33)) K0 rfl rfl (want_none rfl) (fun ev E => ?_) (fun a1 K1 => ?_)
  · have EC := E.const; clear E; clear HH h1 h2; go_simp
  refine ltake (v := Value.bool false) (w' := w.alloc (.cells #[.int .i64 0, .int .i64 0, .int .i64 0, .int .i64 0] 33)) K1 rfl rfl (want_none rfl) (fun ev E => ?_) (fun a2 K2 => ?_)
  · have EC := E.const; clear E; clear HH h1 h2; go_simp
  clear K1
  refine wpList_nil ?_
  show Code.wp _ _ _ _ _
  refine seqN ?_
  refine wp_region_lit ?_
  refine ltake (v := .pointer (some ⟨w.heap.size + 1, 0, none⟩)) (w' := (w.alloc (.cells #[.int .i64 0, .int .i64 0, .int .i64 0, .int .i64 0] 33)).alloc (.cells #[.int .i64 0, .int .i64 0, .int .i64 0, .int .i64 0] 33)) K2 rfl rfl (want_none rfl) (fun ev E => ?_) (fun a3 K3 => ?_)
  · have EC := E.const; clear E; clear HH h1 h2; go_simp
  clear K2
  refine wpList_nil ?_
  show Code.wp _ _ _ _ _
  have RB := hide (Rb.new w 33)
  generalize (w.alloc (.cells #[.int .i64 0, .int .i64 0, .int .i64 0, .int .i64 0] 33)).alloc (.cells #[.int .i64 0, .int .i64 0, .int .i64 0, .int .i64 0] 33) = U at *
  refine seqN ?_
  refine wp_region_lit ?_
  refine ltake (v := .pointer (some ⟨q, 0, none⟩)) (w' := U) K3 rfl rfl (want_none rfl) (fun ev E => ?_) (fun a4 K4 => ?_)
  · have EC := E.const; have E0 := E.tmp 0 _ rfl; clear E; clear HH RB; (try clear h1); (try clear h2); (try clear HP2); go_simp
  clear K3
  refine ltake (v := .int .i64 x) (w' := U) K4 rfl rfl (want_none rfl) (fun ev E => ?_) (fun a5 K5 => ?_)
  · have EC := E.const; have E1 := E.tmp 1 _ rfl; clear E; clear HH RB; (try clear h1); (try clear h2); (try clear HP2); go_simp
  clear K4
  refine lcall (f := 48) (args := #[.pointer (some ⟨q, 0, none⟩), .int .i64 x]) K5 rfl rfl (want_none rfl) (fun ev E => ?_) (unhide h1 _ (unhide RB).bel) (fun e w1 hR => ?_)
  · have EC := E.const; have EF := E.func; have E15 := E.tmp 15 _ rfl; have E16 := E.tmp 16 _ rfl; clear E; clear HH RB; (try clear h1); (try clear h2); (try clear HP2); go_simp
  obtain ⟨⟨i, k, hp2, rfl⟩, hw1⟩ := hR
  rw [← hw1]
  clear hw1
  have HP2 := hide hp2
  clear hp2
  refine ⟨_, rfl, fun a6 K6 => ?_⟩
  clear K5
  refine ltake (v := .tuple #[.int .i64 i, .int .i64 k]) (w' := U) K6 rfl rfl (want_none rfl) (fun ev E => ?_) (fun a7 K7 => ?_)
  · have EC := E.const; have E17 := E.tmp 17 _ rfl; clear E; clear HH RB; (try clear h1); (try clear h2); (try clear HP2); go_simp
  clear K6
  refine ltake (v := .int .i64 i) (w' := U) K7 rfl rfl (want_none rfl) (fun ev E => ?_) (fun a8 K8 => ?_)
  · have EC := E.const; have E14 := E.tmp 14 _ rfl; clear E; clear HH RB; (try clear h1); (try clear h2); (try clear HP2); go_simp
  clear K7
  refine ltake (v := .int .i64 k) (w' := U) K8 rfl rfl (want_none rfl) (fun ev E => ?_) (fun a9 K9 => ?_)
  · have EC := E.const; have E14 := E.tmp 14 _ rfl; clear E; clear HH RB; (try clear h1); (try clear h2); (try clear HP2); go_simp
  clear K8
  refine ltake (v := .int .i64 i) (w' := U) K9 rfl rfl (want_none rfl) (fun ev E => ?_) (fun a10 K10 => ?_)
  · have EC := E.const; have E18 := E.tmp 18 _ rfl; clear E; clear HH RB; (try clear h1); (try clear h2); (try clear HP2); go_simp
  clear K9
  refine ltake (v := .int .i64 k) (w' := U) K10 rfl rfl (want_none rfl) (fun ev E => ?_) (fun a11 K11 => ?_)
  · have EC := E.const; have E19 := E.tmp 19 _ rfl; clear E; clear HH RB; (try clear h1); (try clear h2); (try clear HP2); go_simp
  clear K10
  refine wpList_nil ?_
  show Code.wp _ _ _ _ _
  refine seqN ?_
  refine wp_region_lit ?_
  refine ltake (v := .pointer (some ⟨q, 0, none⟩)) (w' := U) K11 rfl rfl (want_none rfl) (fun ev E => ?_) (fun a12 K12 => ?_)
  · have EC := E.const; have E0 := E.tmp 0 _ rfl; clear E; clear HH RB; (try clear h1); (try clear h2); (try clear HP2); go_simp
  clear K11
  refine ltake (v := .int .i64 y) (w' := U) K12 rfl rfl (want_none rfl) (fun ev E => ?_) (fun a13 K13 => ?_)
  · have EC := E.const; have E2 := E.tmp 2 _ rfl; clear E; clear HH RB; (try clear h1); (try clear h2); (try clear HP2); go_simp
  clear K12
  refine lcall (f := 48) (args := #[.pointer (some ⟨q, 0, none⟩), .int .i64 y]) K13 rfl rfl (want_none rfl) (fun ev E => ?_) (unhide h2 _ (unhide RB).bel) (fun e w1 hR => ?_)
  · have EC := E.const; have EF := E.func; have E21 := E.tmp 21 _ rfl; have E22 := E.tmp 22 _ rfl; clear E; clear HH RB; (try clear h1); (try clear h2); (try clear HP2); go_simp
  obtain ⟨⟨i', k', hp3, rfl⟩, hw1⟩ := hR
  rw [← hw1]
  clear hw1
  have HP3 := hide hp3
  clear hp3
  refine ⟨_, rfl, fun a14 K14 => ?_⟩
  clear K13
  refine ltake (v := .tuple #[.int .i64 i', .int .i64 k']) (w' := U) K14 rfl rfl (want_none rfl) (fun ev E => ?_) (fun a15 K15 => ?_)
  · have EC := E.const; have E23 := E.tmp 23 _ rfl; clear E; clear HH RB; (try clear h1); (try clear h2); (try clear HP2); go_simp
  clear K14
  refine ltake (v := .int .i64 i') (w' := U) K15 rfl rfl (want_none rfl) (fun ev E => ?_) (fun a16 K16 => ?_)
  · have EC := E.const; have E20 := E.tmp 20 _ rfl; clear E; clear HH RB; (try clear h1); (try clear h2); (try clear HP2); go_simp
  clear K15
  refine ltake (v := .int .i64 k') (w' := U) K16 rfl rfl (want_none rfl) (fun ev E => ?_) (fun a17 K17 => ?_)
  · have EC := E.const; have E20 := E.tmp 20 _ rfl; clear E; clear HH RB; (try clear h1); (try clear h2); (try clear HP2); go_simp
  clear K16
  refine ltake (v := .int .i64 i') (w' := U) K17 rfl rfl (want_none rfl) (fun ev E => ?_) (fun a18 K18 => ?_)
  · have EC := E.const; have E24 := E.tmp 24 _ rfl; clear E; clear HH RB; (try clear h1); (try clear h2); (try clear HP2); go_simp
  clear K17
  refine ltake (v := .int .i64 k') (w' := U) K18 rfl rfl (want_none rfl) (fun ev E => ?_) (fun a19 K19 => ?_)
  · have EC := E.const; have E25 := E.tmp 25 _ rfl; clear E; clear HH RB; (try clear h1); (try clear h2); (try clear HP2); go_simp
  clear K18
  refine wpList_nil ?_
  show Code.wp _ _ _ _ _
  have K20 : Kb _ 65 [(0, .pointer (some ⟨q, 0, none⟩)), (6, .pointer (some ⟨w.heap.size, 0, none⟩)), (8, .pointer (some ⟨w.heap.size + 1, 0, none⟩)), (9, .int .i64 i), (10, .int .i64 k), (11, .int .i64 i'), (12, .int .i64 k')] := K19.less ⟨rfl, rfl, rfl, rfl, rfl, rfl, rfl, trivial⟩
  clear K19
  clear h1 h2
  rcases pos_facts (unhide HH).nd (unhide HP2) with ⟨f1, v, ii, kk, rfl, rfl, rfl, hi, hs1, hk, f2, f3, f4⟩ | ⟨f1, rfl, rfl⟩
  · have e1 : ¬ (ii : Int) < 0 := by omega
    rcases pos_facts (unhide HH).nd (unhide HP3) with ⟨g1, v', jj, ll, rfl, rfl, rfl, hj, gs1, gk, g2, g3, g4⟩ | ⟨g1, rfl, rfl⟩
    · have gm : v' ∈ A.seqI (v' : Int) := by have := get_mem gk; rwa [g3] at this
      by_cases hE : ii = jj
      · subst hE
        have hsm : A.sameI (v : Int) (v' : Int) = true := by
          simp only [Se.sameI, f1, g1, Bool.true_and, decide_eq_true_eq, Int.toNat_natCast]
          rw [← hs1, gs1]
          exact gm
        have hsq : A.seqI (v' : Int) = A.seqI (v : Int) := by rw [← gs1, hs1]
        rw [hsq] at gk g3
        by_cases hO : kk ≤ ll
        · have e2 : ¬ (ll : Int) < (kk : Int) := by omega
          have hok : A.okR (v : Int) (v' : Int) = true := by rw [Se.okR, hsm, f2, g2]; simp; omega
          have hpart : A.part (v : Int) (v' : Int) = ((A.seqI (v : Int)).take (ll + 1)).drop kk := by rw [Se.part, f2, g2]; simp
          have FB : Hid (A.okR (v : Int) (v' : Int) = true ∧ A.rangeI (v : Int) (v' : Int) = ofL ((((A.seqI (v : Int)).take (ll + 1)).drop kk).map A.W)) := by
            refine ⟨hok, ?_⟩
            rw [Se.rangeI, if_pos hok, hpart, ofL_eq]
          have hll : (A.seqI (v : Int)).length ≤ 4194304 := by rw [← hs1]; exact (unhide HH).lenl _ (getD_mem hi)
          have HI := hide (And.intro hs1 (And.intro gk hll))
          have HM : Hid (∀ u ∈ A.seqI (v : Int), u ∈ A.L.flatten) := fun u hu => List.mem_flatten.2 ⟨_, getD_mem hi, by rw [hs1]; exact hu⟩
          clear f1 f2 f3 f4 g1 g2 g3 g4 hs1 hk gs1 gk gm hsm hsq hok hpart HP2 HP3 hj
          refine wp_seq (seqN ?_)
          refine wp_region_lit ?_
          refine ltake (v := .int .i64 (ii : Int)) (w' := U) K20 rfl rfl (want_none rfl) (fun ev E => ?_) (fun a21 K21 => ?_)
          · have EC := E.const; have E9 := E.tmp 9 _ rfl; clear E; (try clear FB); clear HH RB; go_simp
          clear K20
          refine ltake (v := .bool false) (w' := U) K21 rfl rfl (want_none rfl) (fun ev E => ?_) (fun a22 K22 => ?_)
          · have EC := E.const; have E26 := E.tmp 26 _ rfl; clear E; (try clear FB); clear HH RB; go_simp
          clear K21
          refine ltake (v := .bool false) (w' := U) K22 rfl rfl (want_none rfl) (fun ev E => ?_) (fun a23 K23 => ?_)
          · have EC := E.const; have E27 := E.tmp 27 _ rfl; clear E; (try clear FB); clear HH RB; go_simp
          clear K22
          refine ltake (v := .int .i64 (ii : Int)) (w' := U) K23 rfl rfl (want_some K23 rfl rfl rfl) (fun ev E => ?_) (fun a24 K24 => ?_)
          · have EC := E.const; have E9 := E.tmp 9 _ rfl; clear E; (try clear FB); clear HH RB; go_simp
          clear K23
          refine ltake (v := .int .i64 (ii : Int)) (w' := U) K24 rfl rfl (want_some K24 rfl rfl rfl) (fun ev E => ?_) (fun a25 K25 => ?_)
          · have EC := E.const; have E11 := E.tmp 11 _ rfl; clear E; (try clear FB); clear HH RB; go_simp
          clear K24
          refine ltake (v := .bool false) (w' := U) K25 rfl rfl (want_some K25 rfl rfl rfl) (fun ev E => ?_) (fun a26 K26 => ?_)
          · have EC := E.const; have E29 := E.tmp 29 _ rfl; have E30 := E.tmp 30 _ rfl; clear E; (try clear FB); clear HH RB; go_simp
          clear K25
          refine ltake (v := .bool false) (w' := U) K26 rfl rfl (want_none rfl) (fun ev E => ?_) (fun a27 K27 => ?_)
          · have EC := E.const; have E28 := E.tmp 28 _ rfl; have E31 := E.tmp 31 _ rfl; clear E; (try clear FB); clear HH RB; go_simp
          clear K26
          refine ltake (v := .bool false) (w' := U) K27 rfl rfl (want_none rfl) (fun ev E => ?_) (fun a28 K28 => ?_)
          · have EC := E.const; have E32 := E.tmp 32 _ rfl; clear E; (try clear FB); clear HH RB; go_simp
          clear K27
          refine ltake (v := .int .i64 (kk : Int)) (w' := U) K28 rfl rfl (want_some K28 rfl rfl rfl) (fun ev E => ?_) (fun a29 K29 => ?_)
          · have EC := E.const; have E10 := E.tmp 10 _ rfl; clear E; (try clear FB); clear HH RB; go_simp
          clear K28
          refine ltake (v := .int .i64 (ll : Int)) (w' := U) K29 rfl rfl (want_some K29 rfl rfl rfl) (fun ev E => ?_) (fun a30 K30 => ?_)
          · have EC := E.const; have E12 := E.tmp 12 _ rfl; clear E; (try clear FB); clear HH RB; go_simp
          clear K29
          refine ltake (v := .bool false) (w' := U) K30 rfl rfl (want_some K30 rfl rfl rfl) (fun ev E => ?_) (fun a31 K31 => ?_)
          · have EC := E.const; have E34 := E.tmp 34 _ rfl; have E35 := E.tmp 35 _ rfl; clear E; (try clear FB); clear HH RB; go_simp
          clear K30
          refine ltake (v := .bool false) (w' := U) K31 rfl rfl (want_none rfl) (fun ev E => ?_) (fun a32 K32 => ?_)
          · have EC := E.const; have E33 := E.tmp 33 _ rfl; have E36 := E.tmp 36 _ rfl; clear E; (try clear FB); clear HH RB; go_simp
          clear K31
          refine wpList_nil ?_
          show Code.wp _ _ _ _ _
          refine knCond (b := false) K32 rfl (wp_skip ?_)
          show Code.wp _ _ _ _ _
          refine wp_seq (seqN ?_)
          refine wp_region_lit ?_
          refine ltake (v := .int .i64 (kk : Int)) (w' := U) K32 rfl rfl (want_none rfl) (fun ev E => ?_) (fun a33 K33 => ?_)
          · have EC := E.const; have E10 := E.tmp 10 _ rfl; clear E; (try clear FB); clear HH RB; go_simp
          clear K32
          refine ltake (v := .int .i64 (kk : Int)) (w' := U) K33 rfl rfl (want_none rfl) (fun ev E => ?_) (fun a34 K34 => ?_)
          · have EC := E.const; have E39 := E.tmp 39 _ rfl; clear E; (try clear FB); clear HH RB; go_simp
          clear K33
          refine wpList_nil ?_
          show Code.wp _ _ _ _ _
          have K35 : Kb _ 65 [(0, .pointer (some ⟨q, 0, none⟩)), (6, .pointer (some ⟨w.heap.size, 0, none⟩)), (8, .pointer (some ⟨w.heap.size + 1, 0, none⟩)), (9, .int .i64 (ii : Int)), (12, .int .i64 (ll : Int)), (13, .int .i64 (kk : Int))] := K34.less ⟨rfl, rfl, rfl, rfl, rfl, rfl, trivial⟩
          clear K34
          refine wp_block ?_
          show (Code.loop LOOP26).wp _ _ _ _
          refine wp_loop (fun a w' => ∃ j : Nat, kk ≤ j ∧ j ≤ ll + 1 ∧ Kb a 65 [(0, .pointer (some ⟨q, 0, none⟩)), (6, .pointer (some ⟨w.heap.size, 0, none⟩)), (8, .pointer (some ⟨w.heap.size + 1, 0, none⟩)), (9, .int .i64 (ii : Int)), (12, .int .i64 (ll : Int)), (13, .int .i64 (j : Int))] ∧ Rb w w' (ofL ((((A.seqI (v : Int)).take j).drop kk).map A.W))) (fun a _ => ll + 1 - (intOf (a.eval (.tmp 13))).toNat) ⟨kk, Nat.le_refl _, by omega, K35, by rw [List.drop_of_length_le (by simp; omega)]; exact unhide RB⟩ ?_
          clear K35 RB
          rintro aL WL ⟨j, hj1, hj2, KL, hRL⟩
          have em : intOf (aL.eval (.tmp 13)) = (j : Int) := by rw [KL.ev (s := 13) rfl]; rfl
          have RL := hide hRL
          clear hRL
          by_cases hlt : j ≤ ll
          · have e3 : (j : Int) ≤ (ll : Int) := by omega
            refine wp_seq (seqN ?_)
            refine wp_region_lit ?_
            refine ltake (v := .int .i64 (j : Int)) (w' := WL) KL rfl rfl (want_none rfl) (fun ev E => ?_) (fun a41 K41 => ?_)
            · have EC := E.const; have E13 := E.tmp 13 _ rfl; clear E; clear FB HH HI HM RL; go_simp
            clear KL
            refine ltake (v := .int .i64 (ll : Int)) (w' := WL) K41 rfl rfl (want_none rfl) (fun ev E => ?_) (fun a42 K42 => ?_)
            · have EC := E.const; have E12 := E.tmp 12 _ rfl; clear E; clear FB HH HI HM RL; go_simp
            clear K41
            refine ltake (v := .bool true) (w' := WL) K42 rfl rfl (want_none rfl) (fun ev E => ?_) (fun a43 K43 => ?_)
            · have EC := E.const; have E40 := E.tmp 40 _ rfl; have E41 := E.tmp 41 _ rfl; clear E; clear FB HH HI HM RL; go_simp
            clear K42
            refine wpList_nil ?_
            show Code.wp _ _ _ _ _
            refine knCond (b := true) K43 rfl (wp_skip ?_)
            show Code.wp _ _ _ _ _
            refine wp_seq (wp_block ?_)
            have K44 : Kb _ 65 [(0, .pointer (some ⟨q, 0, none⟩)), (6, .pointer (some ⟨w.heap.size, 0, none⟩)), (8, .pointer (some ⟨w.heap.size + 1, 0, none⟩)), (9, .int .i64 (ii : Int)), (12, .int .i64 (ll : Int)), (13, .int .i64 (j : Int))] := K43.less ⟨rfl, rfl, rfl, rfl, rfl, rfl, trivial⟩
            clear K43
            have hA := (unhide HH).below (unhide RL).bel
            obtain ⟨c0, c1, c2, _⟩ := hA.rin.cells
            obtain ⟨hs1, gk, hll⟩ := unhide HI
            obtain ⟨xo, cap, hvL, k1, k2, k3⟩ := hA.rin.outer
            obtain ⟨gg, hxo, hg, hc⟩ := k3 (by omega)
            obtain ⟨b, cap', hu, m1, m2, m3, m4⟩ := hA.rin.hd ii hi
            have d1 := hc ii hi
            rw [hu] at d1
            rw [hs1] at d1 m1 m4
            have hjl : j < (A.seqI (v : Int)).length := by omega
            have d2 := m4 j hjl
            have hzm := unhide HM _ (get_mem hjl)
            have hzn := hA.lt _ hzm
            have d3 := hA.rin.rw.cell hzn
            have hfit := hA.fit _ hzm
            unfold inV at d3
            rw [hA.wt _ hzm] at d3
            obtain ⟨⟨hc1, hc2⟩, hr1, hr2⟩ := ofL_bd ((((A.seqI (v : Int)).take j).drop kk).map A.W) (by simp; omega) (fun n hn => by
              obtain ⟨u, hu, rfl⟩ := List.mem_map.1 hn
              exact hA.fit u (unhide HM u (List.mem_of_mem_take (List.mem_of_mem_drop hu))))
            have hJ : ofL ((((A.seqI (v : Int)).take (j + 1)).drop kk).map A.W) = jn (ofL ((((A.seqI (v : Int)).take j).drop kk).map A.W)) (one (A.W ((A.seqI (v : Int)).getD j 0))) := by
              rw [slice_succ hj1 hjl, List.map_append, ofL_append]
              congr 1
            have hss := unhide RL
            have sU := hss.u
            generalize hy0 : ofL ((((A.seqI (v : Int)).take j).drop kk).map A.W) = y0 at *
            obtain ⟨yc, ys, ya, yb⟩ := y0
            dsimp only at hc1 hc2 hr1 hr2
            have hszz := hss.sz
            refine lastN (rg26_9 (u6 := w.heap.size) (u8 := w.heap.size + 1) (g := gg) (LN := A.L.length) (cap := cap) (b := b) (M := (A.seqI (v : Int)).length) (cap' := cap') (bw := bw) (n := A.n) (z := (A.seqI (v : Int)).getD j 0) (y := A.W ((A.seqI (v : Int)).getD j 0)) K44 ⟨⟨by rw [c1, hvL, hxo], c2, d1, d2, d3⟩, sU⟩ ⟨blk_lt hA.rin.blk, hg, m3, hA.rin.rw.lt, by omega⟩ (by omega) (by omega) (by omega) (by omega) (by omega) (by omega) (by omega) (by omega) (by omega) (by omega) (fun aM WM KM hb => ?_))
            show Code.wp _ _ _ _ _
            have RM := hide ((hss.below hb).put (y' := jn ⟨yc, ys, ya, yb⟩ ⟨1, A.W ((A.seqI (v : Int)).getD j 0), A.W ((A.seqI (v : Int)).getD j 0), A.W ((A.seqI (v : Int)).getD j 0)⟩))
            generalize putSum WM (w.heap.size + 1) (jn ⟨yc, ys, ya, yb⟩ ⟨1, A.W ((A.seqI (v : Int)).getD j 0), A.W ((A.seqI (v : Int)).getD j 0), A.W ((A.seqI (v : Int)).getD j 0)⟩) = WN at *
            rw [show (⟨1, A.W ((A.seqI (v : Int)).getD j 0), A.W ((A.seqI (v : Int)).getD j 0), A.W ((A.seqI (v : Int)).getD j 0)⟩ : Sm) = one (A.W ((A.seqI (v : Int)).getD j 0)) from rfl, ← hJ] at RM
            clear hA c0 c1 c2 d1 d2 d3 m4 hc sU hss hb hJ hy0
            refine lastN ?_
            refine wp_region_lit ?_
            refine ltake (v := .int .i64 (j : Int)) (w' := WN) KM rfl rfl (want_none rfl) (fun ev E => ?_) (fun a50 K50 => ?_)
            · have EC := E.const; have E13 := E.tmp 13 _ rfl; clear E; clear FB HH HI HM RL RM; go_simp
            clear KM
            refine ltake (v := .int .i64 ((j + 1 : Nat) : Int)) (w' := WN) K50 rfl rfl (want_none rfl) (fun ev E => ?_) (fun a51 K51 => ?_)
            · have hw := IntWalk.i64_in ((j : Int) + 1) (by omega); have EC := E.const; have E43 := E.tmp 43 _ rfl; clear E; clear FB HH HI HM RL RM; simp [go_sem, *]
            clear K50
            refine ltake (v := .int .i64 ((j + 1 : Nat) : Int)) (w' := WN) K51 rfl rfl (want_none rfl) (fun ev E => ?_) (fun a52 K52 => ?_)
            · have EC := E.const; have E44 := E.tmp 44 _ rfl; clear E; clear FB HH HI HM RL RM; go_simp
            clear K51
            refine wpList_nil ?_
            refine ⟨⟨j + 1, by omega, by omega, K52.less ⟨rfl, rfl, rfl, rfl, rfl, rfl, trivial⟩, unhide RM⟩, ?_⟩
            have em' := K52.ev (s := 13) (v := .int .i64 ((j + 1 : Nat) : Int)) rfl
            simp only [em, em', Int.toNat_natCast]
            simp only [intOf, Int.toNat_natCast]
            omega
          · have e3 : ¬ (j : Int) ≤ (ll : Int) := by omega
            refine wp_seq (seqN ?_)
            refine wp_region_lit ?_
            refine ltake (v := .int .i64 (j : Int)) (w' := WL) KL rfl rfl (want_none rfl) (fun ev E => ?_) (fun a41 K41 => ?_)
            · have EC := E.const; have E13 := E.tmp 13 _ rfl; clear E; clear FB HH HI HM RL; go_simp
            clear KL
            refine ltake (v := .int .i64 (ll : Int)) (w' := WL) K41 rfl rfl (want_none rfl) (fun ev E => ?_) (fun a42 K42 => ?_)
            · have EC := E.const; have E12 := E.tmp 12 _ rfl; clear E; clear FB HH HI HM RL; go_simp
            clear K41
            refine ltake (v := .bool false) (w' := WL) K42 rfl rfl (want_none rfl) (fun ev E => ?_) (fun a43 K43 => ?_)
            · have EC := E.const; have E40 := E.tmp 40 _ rfl; have E41 := E.tmp 41 _ rfl; clear E; clear FB HH HI HM RL; go_simp
            clear K42
            refine wpList_nil ?_
            show Code.wp _ _ _ _ _
            refine knCond (b := false) K43 rfl (wp_exit ?_)
            show Code.wp _ _ _ _ _
            obtain rfl : j = ll + 1 := by omega
            obtain ⟨y0, hy0⟩ : ∃ y, ofL ((((A.seqI (v : Int)).take (ll + 1)).drop kk).map A.W) = y := ⟨_, rfl⟩
            rw [hy0] at RL FB
            obtain ⟨yc, ys, ya, yb⟩ := y0
            clear hy0 em
            refine seqN ?_
            refine wp_region_lit ?_
            obtain ⟨⟨q0, q1, q2, q3⟩, f0, f1, f2, f3⟩ := (unhide RL).u
            obtain ⟨⟨p0, p1, p2, p3⟩, g0, g1, g2, g3⟩ := (unhide RL).r
            dsimp only [zero] at q0 q1 q2 q3 p0 p1 p2 p3
            refine ltake (v := .agg #[.int .i64 yc, .int .i64 ys, .int .i64 ya, .int .i64 yb]) (w' := WL) K43 rfl rfl (want_none rfl) (fun ev E => ?_) (fun a44 K44 => ?_)
            · have EC := E.const; have E8 := E.tmp 8 _ rfl; clear E; clear HH RL; (try clear FB); go_simp
            clear K43
            refine lstore (w' := putSum WL w.heap.size ⟨yc, ys, ya, yb⟩) K44 rfl (want_none rfl) (fun ev E => ?_) ?_
            · have EC := E.const; have E6 := E.tmp 6 _ rfl; have E64 := E.tmp 64 _ rfl; clear E; clear HH RL; (try clear FB); unfold putSum; go_simp
            refine ltake (v := Value.bool true) (w' := putSum WL w.heap.size ⟨yc, ys, ya, yb⟩) K44 rfl rfl (want_none rfl) (fun ev E => ?_) (fun a46 K46 => ?_)
            · have EC := E.const; clear E; clear HH RL; (try clear FB); go_simp
            clear K44
            refine wpList_nil ?_
            refine wp_ret ?_
            have hp := SumAt.put (x := ⟨yc, ys, ya, yb⟩) (unhide RL).r
            refine bodyPost_ret (v := .tuple #[.agg #[.int .i64 yc, .int .i64 ys, .int .i64 ya, .int .i64 yb], .bool true]) ?_ K46.defers ⟨?_, below_put (unhide RL).bel (Nat.le_refl _)⟩
            · have e7 := K46.has 7 _ rfl
              have e6 := K46.has 6 _ rfl
              obtain ⟨⟨p0, p1, p2, p3⟩, g0, g1, g2, g3⟩ := hp
              dsimp only at p0 p1 p2 p3
              generalize putSum WL w.heap.size ⟨yc, ys, ya, yb⟩ = W9 at *
              simp [results, Try.results26, go_sem, e6, e7, p0, p1, p2, p3]
            · rw [(unhide FB).1, (unhide FB).2]; rfl
        · have e2 : (ll : Int) < (kk : Int) := by omega
          have FB : Hid (A.okR (v : Int) (v' : Int) = false) := by show _ = _; rw [Se.okR, f2, g2]; simp; intro; omega
          clear f1 f2 f3 f4 g1 g2 g3 g4 hs1 hk gs1 gk gm hsm hsq HP2 HP3 hj hi
          refine wp_seq (seqN ?_)
          refine wp_region_lit ?_
          refine ltake (v := .int .i64 (ii : Int)) (w' := U) K20 rfl rfl (want_none rfl) (fun ev E => ?_) (fun a21 K21 => ?_)
          · have EC := E.const; have E9 := E.tmp 9 _ rfl; clear E; (try clear FB); clear HH RB; go_simp
          clear K20
          refine ltake (v := .bool false) (w' := U) K21 rfl rfl (want_none rfl) (fun ev E => ?_) (fun a22 K22 => ?_)
          · have EC := E.const; have E26 := E.tmp 26 _ rfl; clear E; (try clear FB); clear HH RB; go_simp
          clear K21
          refine ltake (v := .bool false) (w' := U) K22 rfl rfl (want_none rfl) (fun ev E => ?_) (fun a23 K23 => ?_)
          · have EC := E.const; have E27 := E.tmp 27 _ rfl; clear E; (try clear FB); clear HH RB; go_simp
          clear K22
          refine ltake (v := .int .i64 (ii : Int)) (w' := U) K23 rfl rfl (want_some K23 rfl rfl rfl) (fun ev E => ?_) (fun a24 K24 => ?_)
          · have EC := E.const; have E9 := E.tmp 9 _ rfl; clear E; (try clear FB); clear HH RB; go_simp
          clear K23
          refine ltake (v := .int .i64 (ii : Int)) (w' := U) K24 rfl rfl (want_some K24 rfl rfl rfl) (fun ev E => ?_) (fun a25 K25 => ?_)
          · have EC := E.const; have E11 := E.tmp 11 _ rfl; clear E; (try clear FB); clear HH RB; go_simp
          clear K24
          refine ltake (v := .bool false) (w' := U) K25 rfl rfl (want_some K25 rfl rfl rfl) (fun ev E => ?_) (fun a26 K26 => ?_)
          · have EC := E.const; have E29 := E.tmp 29 _ rfl; have E30 := E.tmp 30 _ rfl; clear E; (try clear FB); clear HH RB; go_simp
          clear K25
          refine ltake (v := .bool false) (w' := U) K26 rfl rfl (want_none rfl) (fun ev E => ?_) (fun a27 K27 => ?_)
          · have EC := E.const; have E28 := E.tmp 28 _ rfl; have E31 := E.tmp 31 _ rfl; clear E; (try clear FB); clear HH RB; go_simp
          clear K26
          refine ltake (v := .bool false) (w' := U) K27 rfl rfl (want_none rfl) (fun ev E => ?_) (fun a28 K28 => ?_)
          · have EC := E.const; have E32 := E.tmp 32 _ rfl; clear E; (try clear FB); clear HH RB; go_simp
          clear K27
          refine ltake (v := .int .i64 (kk : Int)) (w' := U) K28 rfl rfl (want_some K28 rfl rfl rfl) (fun ev E => ?_) (fun a29 K29 => ?_)
          · have EC := E.const; have E10 := E.tmp 10 _ rfl; clear E; (try clear FB); clear HH RB; go_simp
          clear K28
          refine ltake (v := .int .i64 (ll : Int)) (w' := U) K29 rfl rfl (want_some K29 rfl rfl rfl) (fun ev E => ?_) (fun a30 K30 => ?_)
          · have EC := E.const; have E12 := E.tmp 12 _ rfl; clear E; (try clear FB); clear HH RB; go_simp
          clear K29
          refine ltake (v := .bool true) (w' := U) K30 rfl rfl (want_some K30 rfl rfl rfl) (fun ev E => ?_) (fun a31 K31 => ?_)
          · have EC := E.const; have E34 := E.tmp 34 _ rfl; have E35 := E.tmp 35 _ rfl; clear E; (try clear FB); clear HH RB; go_simp
          clear K30
          refine ltake (v := .bool true) (w' := U) K31 rfl rfl (want_none rfl) (fun ev E => ?_) (fun a32 K32 => ?_)
          · have EC := E.const; have E33 := E.tmp 33 _ rfl; have E36 := E.tmp 36 _ rfl; clear E; (try clear FB); clear HH RB; go_simp
          clear K31
          refine wpList_nil ?_
          show Code.wp _ _ _ _ _
          refine knCond (b := true) K32 rfl ?_
          refine seqN ?_
          refine wp_region_lit ?_
          obtain ⟨⟨q0, q1, q2, q3⟩, f0, f1, f2, f3⟩ := (unhide RB).u
          obtain ⟨⟨p0, p1, p2, p3⟩, g0, g1, g2, g3⟩ := (unhide RB).r
          dsimp only [zero] at q0 q1 q2 q3 p0 p1 p2 p3
          refine ltake (v := .agg #[.int .i64 0, .int .i64 0, .int .i64 0, .int .i64 0]) (w' := U) K32 rfl rfl (want_none rfl) (fun ev E => ?_) (fun a33 K33 => ?_)
          · have EC := E.const; have E8 := E.tmp 8 _ rfl; clear E; clear HH RB; (try clear FB); go_simp
          clear K32
          refine lstore (w' := putSum U w.heap.size ⟨0, 0, 0, 0⟩) K33 rfl (want_none rfl) (fun ev E => ?_) ?_
          · have EC := E.const; have E6 := E.tmp 6 _ rfl; have E38 := E.tmp 38 _ rfl; clear E; clear HH RB; (try clear FB); unfold putSum; go_simp
          refine ltake (v := Value.bool false) (w' := putSum U w.heap.size ⟨0, 0, 0, 0⟩) K33 rfl rfl (want_none rfl) (fun ev E => ?_) (fun a35 K35 => ?_)
          · have EC := E.const; clear E; clear HH RB; (try clear FB); go_simp
          clear K33
          refine wpList_nil ?_
          refine wp_ret ?_
          refine thenRet ?_
          have hp := SumAt.put (x := ⟨0, 0, 0, 0⟩) (unhide RB).r
          refine bodyPost_ret (v := .tuple #[.agg #[.int .i64 0, .int .i64 0, .int .i64 0, .int .i64 0], .bool false]) ?_ K35.defers ⟨?_, below_put (unhide RB).bel (Nat.le_refl _)⟩
          · have e7 := K35.has 7 _ rfl
            have e6 := K35.has 6 _ rfl
            obtain ⟨⟨p0, p1, p2, p3⟩, g0, g1, g2, g3⟩ := hp
            dsimp only at p0 p1 p2 p3
            generalize putSum U w.heap.size ⟨0, 0, 0, 0⟩ = W9 at *
            simp [results, Try.results26, go_sem, e6, e7, p0, p1, p2, p3]
          · have := unhide FB; rw [Se.rangeI, this]; rfl
      · have e2 : ((ii : Int) == (jj : Int)) = false := by rw [beq_eq_false_iff_ne]; omega
        have e4 : ¬ (ii : Int) = (jj : Int) := by omega
        have FB : Hid (A.okR (v : Int) (v' : Int) = false) := by
          show _ = _
          have : A.sameI (v : Int) (v' : Int) = false := by
            simp only [Se.sameI, f1, g1, Bool.true_and, decide_eq_false_iff_not, Int.toNat_natCast]
            rw [← hs1]
            intro hm
            have hm' : v' ∈ A.L.getD jj [] := by rw [gs1]; exact gm
            exact hE (same_idx (unhide HH).nd hi hj hm hm')
          rw [Se.okR, this]; rfl
        clear f1 f2 f3 f4 g1 g2 g3 g4 hs1 hk gs1 gk gm HP2 HP3 hj hi
        refine wp_seq (seqN ?_)
        refine wp_region_lit ?_
        refine ltake (v := .int .i64 (ii : Int)) (w' := U) K20 rfl rfl (want_none rfl) (fun ev E => ?_) (fun a21 K21 => ?_)
        · have EC := E.const; have E9 := E.tmp 9 _ rfl; clear E; (try clear FB); clear HH RB; go_simp
        clear K20
        refine ltake (v := .bool false) (w' := U) K21 rfl rfl (want_none rfl) (fun ev E => ?_) (fun a22 K22 => ?_)
        · have EC := E.const; have E26 := E.tmp 26 _ rfl; clear E; (try clear FB); clear HH RB; go_simp
        clear K21
        refine ltake (v := .bool false) (w' := U) K22 rfl rfl (want_none rfl) (fun ev E => ?_) (fun a23 K23 => ?_)
        · have EC := E.const; have E27 := E.tmp 27 _ rfl; clear E; (try clear FB); clear HH RB; go_simp
        clear K22
        refine ltake (v := .int .i64 (ii : Int)) (w' := U) K23 rfl rfl (want_some K23 rfl rfl rfl) (fun ev E => ?_) (fun a24 K24 => ?_)
        · have EC := E.const; have E9 := E.tmp 9 _ rfl; clear E; (try clear FB); clear HH RB; go_simp
        clear K23
        refine ltake (v := .int .i64 (jj : Int)) (w' := U) K24 rfl rfl (want_some K24 rfl rfl rfl) (fun ev E => ?_) (fun a25 K25 => ?_)
        · have EC := E.const; have E11 := E.tmp 11 _ rfl; clear E; (try clear FB); clear HH RB; go_simp
        clear K24
        refine ltake (v := .bool true) (w' := U) K25 rfl rfl (want_some K25 rfl rfl rfl) (fun ev E => ?_) (fun a26 K26 => ?_)
        · have EC := E.const; have E29 := E.tmp 29 _ rfl; have E30 := E.tmp 30 _ rfl; clear E; (try clear FB); clear HH RB; go_simp
        clear K25
        refine ltake (v := .bool true) (w' := U) K26 rfl rfl (want_none rfl) (fun ev E => ?_) (fun a27 K27 => ?_)
        · have EC := E.const; have E28 := E.tmp 28 _ rfl; have E31 := E.tmp 31 _ rfl; clear E; (try clear FB); clear HH RB; go_simp
        clear K26
        refine ltake (v := .bool true) (w' := U) K27 rfl rfl (want_none rfl) (fun ev E => ?_) (fun a28 K28 => ?_)
        · have EC := E.const; have E32 := E.tmp 32 _ rfl; clear E; (try clear FB); clear HH RB; go_simp
        clear K27
        refine lskip K28 rfl rfl (want_not K28 rfl rfl rfl (by decide)) (fun a29 K29 => ?_)
        refine lskip K29 rfl rfl (want_not K29 rfl rfl rfl (by decide)) (fun a30 K30 => ?_)
        refine lskip K30 rfl rfl (want_not K30 rfl rfl rfl (by decide)) (fun a31 K31 => ?_)
        refine ltake (v := .bool true) (w' := U) K31 rfl rfl (want_none rfl) (fun ev E => ?_) (fun a32 K32 => ?_)
        · have EC := E.const; have E33 := E.tmp 33 _ rfl; have E36 := E.tmp 36 _ rfl; clear E; (try clear FB); clear HH RB; go_simp
        clear K31
        refine wpList_nil ?_
        show Code.wp _ _ _ _ _
        refine knCond (b := true) K32 rfl ?_
        refine seqN ?_
        refine wp_region_lit ?_
        obtain ⟨⟨q0, q1, q2, q3⟩, f0, f1, f2, f3⟩ := (unhide RB).u
        obtain ⟨⟨p0, p1, p2, p3⟩, g0, g1, g2, g3⟩ := (unhide RB).r
        dsimp only [zero] at q0 q1 q2 q3 p0 p1 p2 p3
        refine ltake (v := .agg #[.int .i64 0, .int .i64 0, .int .i64 0, .int .i64 0]) (w' := U) K32 rfl rfl (want_none rfl) (fun ev E => ?_) (fun a33 K33 => ?_)
        · have EC := E.const; have E8 := E.tmp 8 _ rfl; clear E; clear HH RB; (try clear FB); go_simp
        clear K32
        refine lstore (w' := putSum U w.heap.size ⟨0, 0, 0, 0⟩) K33 rfl (want_none rfl) (fun ev E => ?_) ?_
        · have EC := E.const; have E6 := E.tmp 6 _ rfl; have E38 := E.tmp 38 _ rfl; clear E; clear HH RB; (try clear FB); unfold putSum; go_simp
        refine ltake (v := Value.bool false) (w' := putSum U w.heap.size ⟨0, 0, 0, 0⟩) K33 rfl rfl (want_none rfl) (fun ev E => ?_) (fun a35 K35 => ?_)
        · have EC := E.const; clear E; clear HH RB; (try clear FB); go_simp
        clear K33
        refine wpList_nil ?_
        refine wp_ret ?_
        refine thenRet ?_
        have hp := SumAt.put (x := ⟨0, 0, 0, 0⟩) (unhide RB).r
        refine bodyPost_ret (v := .tuple #[.agg #[.int .i64 0, .int .i64 0, .int .i64 0, .int .i64 0], .bool false]) ?_ K35.defers ⟨?_, below_put (unhide RB).bel (Nat.le_refl _)⟩
        · have e7 := K35.has 7 _ rfl
          have e6 := K35.has 6 _ rfl
          obtain ⟨⟨p0, p1, p2, p3⟩, g0, g1, g2, g3⟩ := hp
          dsimp only at p0 p1 p2 p3
          generalize putSum U w.heap.size ⟨0, 0, 0, 0⟩ = W9 at *
          simp [results, Try.results26, go_sem, e6, e7, p0, p1, p2, p3]
        · have := unhide FB; rw [Se.rangeI, this]; rfl
    · have e2 : ((ii : Int) == (-1 : Int)) = false := by rw [beq_eq_false_iff_ne]; omega
      have e4 : ¬ (ii : Int) = -1 := by omega
      have FB : Hid (A.okR (v : Int) y = false) := by show _ = _; simp [Se.okR, Se.sameI, g1]
      clear f1 f2 f3 f4 g1 hs1 hk HP2 HP3 hi
      refine wp_seq (seqN ?_)
      refine wp_region_lit ?_
      refine ltake (v := .int .i64 (ii : Int)) (w' := U) K20 rfl rfl (want_none rfl) (fun ev E => ?_) (fun a21 K21 => ?_)
      · have EC := E.const; have E9 := E.tmp 9 _ rfl; clear E; (try clear FB); clear HH RB; go_simp
      clear K20
      refine ltake (v := .bool false) (w' := U) K21 rfl rfl (want_none rfl) (fun ev E => ?_) (fun a22 K22 => ?_)
      · have EC := E.const; have E26 := E.tmp 26 _ rfl; clear E; (try clear FB); clear HH RB; go_simp
      clear K21
      refine ltake (v := .bool false) (w' := U) K22 rfl rfl (want_none rfl) (fun ev E => ?_) (fun a23 K23 => ?_)
      · have EC := E.const; have E27 := E.tmp 27 _ rfl; clear E; (try clear FB); clear HH RB; go_simp
      clear K22
      refine ltake (v := .int .i64 (ii : Int)) (w' := U) K23 rfl rfl (want_some K23 rfl rfl rfl) (fun ev E => ?_) (fun a24 K24 => ?_)
      · have EC := E.const; have E9 := E.tmp 9 _ rfl; clear E; (try clear FB); clear HH RB; go_simp
      clear K23
      refine ltake (v := .int .i64 (-1)) (w' := U) K24 rfl rfl (want_some K24 rfl rfl rfl) (fun ev E => ?_) (fun a25 K25 => ?_)
      · have EC := E.const; have E11 := E.tmp 11 _ rfl; clear E; (try clear FB); clear HH RB; go_simp
      clear K24
      refine ltake (v := .bool true) (w' := U) K25 rfl rfl (want_some K25 rfl rfl rfl) (fun ev E => ?_) (fun a26 K26 => ?_)
      · have EC := E.const; have E29 := E.tmp 29 _ rfl; have E30 := E.tmp 30 _ rfl; clear E; (try clear FB); clear HH RB; go_simp
      clear K25
      refine ltake (v := .bool true) (w' := U) K26 rfl rfl (want_none rfl) (fun ev E => ?_) (fun a27 K27 => ?_)
      · have EC := E.const; have E28 := E.tmp 28 _ rfl; have E31 := E.tmp 31 _ rfl; clear E; (try clear FB); clear HH RB; go_simp
      clear K26
      refine ltake (v := .bool true) (w' := U) K27 rfl rfl (want_none rfl) (fun ev E => ?_) (fun a28 K28 => ?_)
      · have EC := E.const; have E32 := E.tmp 32 _ rfl; clear E; (try clear FB); clear HH RB; go_simp
      clear K27
      refine lskip K28 rfl rfl (want_not K28 rfl rfl rfl (by decide)) (fun a29 K29 => ?_)
      refine lskip K29 rfl rfl (want_not K29 rfl rfl rfl (by decide)) (fun a30 K30 => ?_)
      refine lskip K30 rfl rfl (want_not K30 rfl rfl rfl (by decide)) (fun a31 K31 => ?_)
      refine ltake (v := .bool true) (w' := U) K31 rfl rfl (want_none rfl) (fun ev E => ?_) (fun a32 K32 => ?_)
      · have EC := E.const; have E33 := E.tmp 33 _ rfl; have E36 := E.tmp 36 _ rfl; clear E; (try clear FB); clear HH RB; go_simp
      clear K31
      refine wpList_nil ?_
      show Code.wp _ _ _ _ _
      refine knCond (b := true) K32 rfl ?_
      refine seqN ?_
      refine wp_region_lit ?_
      obtain ⟨⟨q0, q1, q2, q3⟩, f0, f1, f2, f3⟩ := (unhide RB).u
      obtain ⟨⟨p0, p1, p2, p3⟩, g0, g1, g2, g3⟩ := (unhide RB).r
      dsimp only [zero] at q0 q1 q2 q3 p0 p1 p2 p3
      refine ltake (v := .agg #[.int .i64 0, .int .i64 0, .int .i64 0, .int .i64 0]) (w' := U) K32 rfl rfl (want_none rfl) (fun ev E => ?_) (fun a33 K33 => ?_)
      · have EC := E.const; have E8 := E.tmp 8 _ rfl; clear E; clear HH RB; (try clear FB); go_simp
      clear K32
      refine lstore (w' := putSum U w.heap.size ⟨0, 0, 0, 0⟩) K33 rfl (want_none rfl) (fun ev E => ?_) ?_
      · have EC := E.const; have E6 := E.tmp 6 _ rfl; have E38 := E.tmp 38 _ rfl; clear E; clear HH RB; (try clear FB); unfold putSum; go_simp
      refine ltake (v := Value.bool false) (w' := putSum U w.heap.size ⟨0, 0, 0, 0⟩) K33 rfl rfl (want_none rfl) (fun ev E => ?_) (fun a35 K35 => ?_)
      · have EC := E.const; clear E; clear HH RB; (try clear FB); go_simp
      clear K33
      refine wpList_nil ?_
      refine wp_ret ?_
      refine thenRet ?_
      have hp := SumAt.put (x := ⟨0, 0, 0, 0⟩) (unhide RB).r
      refine bodyPost_ret (v := .tuple #[.agg #[.int .i64 0, .int .i64 0, .int .i64 0, .int .i64 0], .bool false]) ?_ K35.defers ⟨?_, below_put (unhide RB).bel (Nat.le_refl _)⟩
      · have e7 := K35.has 7 _ rfl
        have e6 := K35.has 6 _ rfl
        obtain ⟨⟨p0, p1, p2, p3⟩, g0, g1, g2, g3⟩ := hp
        dsimp only at p0 p1 p2 p3
        generalize putSum U w.heap.size ⟨0, 0, 0, 0⟩ = W9 at *
        simp [results, Try.results26, go_sem, e6, e7, p0, p1, p2, p3]
      · have := unhide FB; rw [Se.rangeI, this]; rfl
  · have FB : Hid (A.okR x y = false) := by show _ = _; simp [Se.okR, Se.sameI, f1]
    clear f1 HP2 HP3
    refine wp_seq (seqN ?_)
    refine wp_region_lit ?_
    refine ltake (v := .int .i64 (-1)) (w' := U) K20 rfl rfl (want_none rfl) (fun ev E => ?_) (fun a21 K21 => ?_)
    · have EC := E.const; have E9 := E.tmp 9 _ rfl; clear E; (try clear FB); clear HH RB; go_simp
    clear K20
    refine ltake (v := .bool true) (w' := U) K21 rfl rfl (want_none rfl) (fun ev E => ?_) (fun a22 K22 => ?_)
    · have EC := E.const; have E26 := E.tmp 26 _ rfl; clear E; (try clear FB); clear HH RB; go_simp
    clear K21
    refine ltake (v := .bool true) (w' := U) K22 rfl rfl (want_none rfl) (fun ev E => ?_) (fun a23 K23 => ?_)
    · have EC := E.const; have E27 := E.tmp 27 _ rfl; clear E; (try clear FB); clear HH RB; go_simp
    clear K22
    refine lskip K23 rfl rfl (want_not K23 rfl rfl rfl (by decide)) (fun a24 K24 => ?_)
    refine lskip K24 rfl rfl (want_not K24 rfl rfl rfl (by decide)) (fun a25 K25 => ?_)
    refine lskip K25 rfl rfl (want_not K25 rfl rfl rfl (by decide)) (fun a26 K26 => ?_)
    refine ltake (v := .bool true) (w' := U) K26 rfl rfl (want_none rfl) (fun ev E => ?_) (fun a27 K27 => ?_)
    · have EC := E.const; have E28 := E.tmp 28 _ rfl; have E31 := E.tmp 31 _ rfl; clear E; (try clear FB); clear HH RB; go_simp
    clear K26
    refine ltake (v := .bool true) (w' := U) K27 rfl rfl (want_none rfl) (fun ev E => ?_) (fun a28 K28 => ?_)
    · have EC := E.const; have E32 := E.tmp 32 _ rfl; clear E; (try clear FB); clear HH RB; go_simp
    clear K27
    refine lskip K28 rfl rfl (want_not K28 rfl rfl rfl (by decide)) (fun a29 K29 => ?_)
    refine lskip K29 rfl rfl (want_not K29 rfl rfl rfl (by decide)) (fun a30 K30 => ?_)
    refine lskip K30 rfl rfl (want_not K30 rfl rfl rfl (by decide)) (fun a31 K31 => ?_)
    refine ltake (v := .bool true) (w' := U) K31 rfl rfl (want_none rfl) (fun ev E => ?_) (fun a32 K32 => ?_)
    · have EC := E.const; have E33 := E.tmp 33 _ rfl; have E36 := E.tmp 36 _ rfl; clear E; (try clear FB); clear HH RB; go_simp
    clear K31
    refine wpList_nil ?_
    show Code.wp _ _ _ _ _
    refine knCond (b := true) K32 rfl ?_
    refine seqN ?_
    refine wp_region_lit ?_
    obtain ⟨⟨q0, q1, q2, q3⟩, f0, f1, f2, f3⟩ := (unhide RB).u
    obtain ⟨⟨p0, p1, p2, p3⟩, g0, g1, g2, g3⟩ := (unhide RB).r
    dsimp only [zero] at q0 q1 q2 q3 p0 p1 p2 p3
    refine ltake (v := .agg #[.int .i64 0, .int .i64 0, .int .i64 0, .int .i64 0]) (w' := U) K32 rfl rfl (want_none rfl) (fun ev E => ?_) (fun a33 K33 => ?_)
    · have EC := E.const; have E8 := E.tmp 8 _ rfl; clear E; clear HH RB; (try clear FB); go_simp
    clear K32
    refine lstore (w' := putSum U w.heap.size ⟨0, 0, 0, 0⟩) K33 rfl (want_none rfl) (fun ev E => ?_) ?_
    · have EC := E.const; have E6 := E.tmp 6 _ rfl; have E38 := E.tmp 38 _ rfl; clear E; clear HH RB; (try clear FB); unfold putSum; go_simp
    refine ltake (v := Value.bool false) (w' := putSum U w.heap.size ⟨0, 0, 0, 0⟩) K33 rfl rfl (want_none rfl) (fun ev E => ?_) (fun a35 K35 => ?_)
    · have EC := E.const; clear E; clear HH RB; (try clear FB); go_simp
    clear K33
    refine wpList_nil ?_
    refine wp_ret ?_
    refine thenRet ?_
    have hp := SumAt.put (x := ⟨0, 0, 0, 0⟩) (unhide RB).r
    refine bodyPost_ret (v := .tuple #[.agg #[.int .i64 0, .int .i64 0, .int .i64 0, .int .i64 0], .bool false]) ?_ K35.defers ⟨?_, below_put (unhide RB).bel (Nat.le_refl _)⟩
    · have e7 := K35.has 7 _ rfl
      have e6 := K35.has 6 _ rfl
      obtain ⟨⟨p0, p1, p2, p3⟩, g0, g1, g2, g3⟩ := hp
      dsimp only at p0 p1 p2 p3
      generalize putSum U w.heap.size ⟨0, 0, 0, 0⟩ = W9 at *
      simp [results, Try.results26, go_sem, e6, e7, p0, p1, p2, p3]
    · have := unhide FB; rw [Se.rangeI, this]; rfl
end
end Go.Proofs.Ytbkneonbpcmepaa

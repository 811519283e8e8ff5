/- Part 1 of the texts. -/
import Derived.WalkKit
import Derived.Deep.RegionHeld3
import Derived.StillTail
import Derived.Test.YtjnkgakajenoaaaRows
import Derived.WalkSpells
import Derived.RowKit3
import Derived.Below
import Derived.Maps.AppendAt
import Derived.Deep.AppendLies
import Derived.Deep.OwnRows
namespace Go
abbrev zi (x : Int) : Value := .int .i64 x
abbrev zp (b o : Nat) : Value := .pointer (some ⟨b, o, none⟩)
end Go
namespace Go.Arb
set_option linter.unusedVariables false
set_option linter.unusedSimpArgs false
section
variable {P : Program} {ops : Array Oper} {Q : Exit -> Act -> World -> Prop} {S : World -> Prop} {a : Act} {w w' : World} {s d n : Nat} {u v : Value} {o : Oper} {L L' : List (Nat × Value)}
def look : List (Nat × Value) -> Nat -> Option Value
 | [], _ => none
 | (k, v) :: l, s => bif Nat.beq k s then some v else look l s
structure Kn (a : Act) (n : Nat) (L : List (Nat × Value)) : Prop where
 size : a.tmps.size = n
 defers : a.defers = []
 has : ∀ s v, look L s = some v -> a.tmps[s]? = some v
theorem Kn.ev (h : Kn a n L) (hs : look L s = some v) : a.eval (.tmp s) = v := by
 have := h.has s v hs
 simp [Act.eval, this]
theorem Kn.put (h : Kn a n L) (hd : Nat.blt d n = true) : Kn (a.put (some d) v) n ((d, v) :: L) := by
 have hd' : d < n := by simpa [Nat.blt_eq] using hd
 refine ⟨by simp [Act.put, h.size], h.defers, fun s x hx => ?_⟩
 unfold look at hx
 cases e : Nat.beq d s
 ·rw [e] at hx
  have : d ≠ s := fun c => by subst c; simp at e
  simpa [Act.put, Array.getElem?_setIfInBounds, this] using h.has s x hx
 ·rw [e] at hx
  have : d = s := Nat.eq_of_beq_eq_true e
  subst this
  have hx' : v = x := by simpa using hx
  subst hx'
  simp [Act.put, h.size, hd']
def Less (L : List (Nat × Value)) : List (Nat × Value) -> Prop
 | [] => True
 | (s, v) :: r => look L s = some v /\ Less L r
theorem Less.look : ∀ {r : List (Nat × Value)}, Less L r -> look r s = some v -> look L s = some v
 | [], _, h => by cases h
 | (k, x) :: r, h, hl => by
  unfold Go.Arb.look at hl
  cases e : Nat.beq k s
  ·rw [e] at hl; exact h.2.look hl
  ·rw [e] at hl
   have : k = s := Nat.eq_of_beq_eq_true e
   subst this
   have hx' : x = v := by simpa using hl
   subst hx'
   exact h.1
theorem Kn.less (h : Kn a n L) (hs : Less L L') : Kn a n L' := ⟨h.size, h.defers, fun s v hv => h.has s v (hs.look hv)⟩
theorem want_none (h : o.guard = none) {y : Nat -> Option Bool} : Region.wanted o y = true := by simp [Region.wanted, h]
theorem want_some (hk : Kn a n L) {j : Nat} {b : Bool} (hg : o.guard = some (j, b)) (hd : (ops[j]?).bind (·.dst) = some d) (hv : look L d = some (.bool b)) : Region.wanted o (yielded ops a.tmps) = true := by
 have := hk.has d _ hv
 simp [Region.wanted, hg, yielded, hd, this]
theorem want_not (hk : Kn a n L) {j : Nat} {b c : Bool} (hg : o.guard = some (j, b)) (hd : (ops[j]?).bind (·.dst) = some d) (hv : look L d = some (.bool c)) (hne : c ≠ b) : Region.wanted o (yielded ops a.tmps) = false := by
 have := hk.has d _ hv
 simp [Region.wanted, hg, yielded, hd, this, hne]
structure Sees (L : List (Nat × Value)) (ev : Operand -> Value) : Prop where
 tmp : ∀ s v, look L s = some v -> ev (.tmp s) = v
 const : ∀ c, ev (.const c) = c
 func : ∀ f, ev (.func f) = .func (.func f) #[] #[]
theorem Kn.sees (h : Kn a n L) : Sees L a.eval := ⟨fun s v hv => h.ev hv, fun _ => rfl, fun _ => rfl⟩
theorem ltake {rest : List Oper} (hk : Kn a n L) (ho : o.dst = some d) (hd : Nat.blt d n = true) (hw : Region.wanted o (yielded ops a.tmps) = true)
  (hy : ∀ ev, Sees L ev -> (execOp ev o).run P w = .ok (.value v) w') (h : ∀ a', Kn a' n ((d, v) :: L) -> wpList P ops Q rest a' w') : wpList P ops Q (o :: rest) a w :=
 wpList_step fun K hK => by
  rw [if_pos hw]
  unfold Oper.wp
  rw [hy _ hk.sees, Oper.upon_value, ho]
  exact hK _ _ (h _ (hk.put hd))
theorem lstore {rest : List Oper} (hk : Kn a n L) (ho : o.dst = none) (hw : Region.wanted o (yielded ops a.tmps) = true)
  (hy : ∀ ev, Sees L ev -> (execOp ev o).run P w = .ok .skip w') (h : wpList P ops Q rest a w') : wpList P ops Q (o :: rest) a w :=
 wpList_step fun K hK => by
  rw [if_pos hw]
  unfold Oper.wp
  rw [hy _ hk.sees, Oper.upon_skip, ho]
  exact hK _ _ h
theorem lskip {rest : List Oper} (hk : Kn a n L) (ho : o.dst = some d) (hd : Nat.blt d n = true) (hw : Region.wanted o (yielded ops a.tmps) = false)
  (h : ∀ a', Kn a' n ((d, undef) :: L) -> wpList P ops Q rest a' w) : wpList P ops Q (o :: rest) a w :=
 wpList_step fun K hK => by
  rw [if_neg (by rw [hw]; exact Bool.false_ne_true), ho]
  exact hK _ _ (h _ (hk.put hd))
theorem lcall {rest : List Oper} {f : FuncId} {args : Array Value} {R : Ending -> World -> Prop} (hk : Kn a n L) (ho : o.dst = some d) (hd : Nat.blt d n = true) (hw : Region.wanted o (yielded ops a.tmps) = true)
  (hy : ∀ ev, Sees L ev -> (execOp ev o).run P w = .ok (.enter f args) w) (hc : Calls P f args w R)
  (h : ∀ e w', R e w' -> ∃ v, e = .returned v /\ ∀ a', Kn a' n ((d, v) :: L) -> wpList P ops Q rest a' w') : wpList P ops Q (o :: rest) a w :=
 wpList_step fun K hK => by
  rw [if_pos hw]
  unfold Oper.wp
  rw [hy _ hk.sees, Oper.upon_enter, ho]
  refine hc.mono ?_
  intro e w' hr
  obtain ⟨v, rfl, h'⟩ := h e w' hr
  exact hK _ _ (h' _ (hk.put hd))
theorem dtake {i fuel : Nat} {l1 : Array Bool} (hk : Kn a n L) (hq : ∀ c a a' w, Q (.panic c) a w -> Q (.panic c) a' w) (hi : ops[i]? = some o) (hs : Region.noSelect ops = true) (hf : Region.free .any ops l1 i = true) (hr : (Region.ready .any ops l1).contains i = true)
  (ho : o.dst = some d) (hd : Nat.blt d n = true) (hw : Region.wanted o (yielded ops a.tmps) = true) (hy : ∀ ev, Sees L ev -> ∀ w, S w -> (execOp ev o).run P w = .ok (.value v) w) (hS : S w)
  (h : ∀ a', Kn a' n ((d, v) :: L) -> wpAnyH P .any ops Q S fuel (l1.setIfInBounds i true) a' w) : wpAnyH P .any ops Q S (fuel + 1) l1 a w := by
 refine wpAnyH_take hi hs hf hr (fun c a w h => hq c _ _ w h) (Or.inl ⟨hw, hy _ hk.sees⟩) hS ?_
 rw [ho]
 exact h _ (hk.put hd)
theorem dcall {i fuel : Nat} {l1 : Array Bool} {f : FuncId} {args : Array Value} {R : Ending -> World -> Prop} (hk : Kn a n L) (hi : ops[i]? = some o) (hr : Region.ready .any ops l1 = [i])
  (ho : o.dst = some d) (hd : Nat.blt d n = true) (hw : Region.wanted o (yielded ops a.tmps) = true) (hy : ∀ ev, Sees L ev -> (execOp ev o).run P w = .ok (.enter f args) w) (hc : Calls P f args w R)
  (h : ∀ e w', R e w' -> ∃ v, e = .returned v /\ S w' /\ ∀ a', Kn a' n ((d, v) :: L) -> wpAnyH P .any ops Q S fuel (l1.setIfInBounds i true) a' w') : wpAnyH P .any ops Q S (fuel + 1) l1 a w := by
 refine wpAnyH_ready hr (by simp) (AllReadyH.cons hi (fun K hK => ?_) AllReadyH.nil)
 rw [if_pos hw]
 unfold Oper.wp
 rw [hy _ hk.sees, Oper.upon_enter, ho]
 refine hc.mono ?_
 intro e w' hr
 obtain ⟨v, rfl, h1, h2⟩ := h e w' hr
 exact hK.out _ _ h1 (fun _ => h2 _ (hk.put hd))
theorem Kn.of (h1 : a.tmps.size = n) (h2 : a.defers = []) (h : ∀ x ∈ L, a.tmps[x.1]? = some x.2) : Kn a n L := by
 refine ⟨h1, h2, ?_⟩
 induction L with
 | nil => intro s v h; cases h
 | cons x l ih =>
  intro s v hv
  rw [List.forall_mem_cons] at h
  unfold look at hv
  cases e : Nat.beq x.1 s
  ·rw [e] at hv; exact ih h.2 s v hv
  ·rw [e] at hv
   have e' : x.1 = s := Nat.eq_of_beq_eq_true e
   have hx' : x.2 = v := by simpa using hv
   rw [← e', ← hx']
   exact h.1
theorem knCond {x y : Code} {b : Bool} (hk : Kn a n L) (hs : look L s = some (.bool b)) (h : (if b then x else y).wp P Q a w) : (Code.cond (.tmp s) x y).wp P Q a w := wp_cond (hk.ev hs) h
end
section
variable {P : Program} {ops : Array Oper} {Q : Exit -> Act -> World -> Prop} {S : World -> Prop} {a : Act} {w w' : World} {s d n : Nat} {u v : Value} {o : Oper} {L L' : List (Nat × Value)}
def wpTill (P : Program) (ops : Array Oper) (Q : Exit -> Act -> World -> Prop) (t : Nat) (S : World -> Prop) : Nat -> Array Bool -> Act -> World -> Prop
 | 0, l, a, w => Region.ready .any ops l = [] /\ Q .normal a w
 | f + 1, l, a, w => (Region.ready .any ops l = [] -> Q .normal a w) ∧
   ∀ i ∈ Region.ready .any ops l, wpOp P ops Q i (fun a' w' => ((l.setIfInBounds i true).getD t true = false -> S w') /\ wpTill P ops Q t S f (l.setIfInBounds i true) a' w') a w
theorem wpAny_of_till {t : Nat} : ∀ (f : Nat) (l : Array Bool) (a : Act) (w : World), wpTill P ops Q t S f l a w -> wpAny P .any ops Q f l a w
 | 0, _, _, _, h => h
 | f + 1, _, _, _, h => ⟨h.1, fun i hi => wpOp_mono (fun a' w' h' => wpAny_of_till f _ a' w' h'.2) (h.2 i hi)⟩
theorem till_first {t i : Nat} {oi : Oper} (hi : ops[i]? = some oi) (hsel : ∀ (j : Nat) (o : Oper) cs b, ops[j]? = some o -> o.op ≠ .select cs b) (hwt : Region.waitsFor .any ops t i = true)
  (hQ : ∀ c a w, Q (.panic c) (a.put oi.dst v) w -> Q (.panic c) a w) :
  ∀ (f : Nat) (l : Array Bool) (a : Act) (w : World),
   (∀ j oj, ops[j]? = some oj -> j ≠ i -> l.getD j true = false -> (∀ e ∈ oj.after, Region.binds .any e = true -> e.on ≠ i) -> oi.apart ops oj = true) →
   i ∈ Region.ready .any ops l -> l.getD t true = false -> YieldsIf P ops S oi v a -> S w →
   wpTill P ops Q t S f (l.setIfInBounds i true) (a.put oi.dst v) w -> wpTill P ops Q t S (f + 1) l a w := by
 have notT : ∀ (l : Array Bool), i ∈ Region.ready .any ops l -> ∀ j ∈ Region.ready .any ops l, j ≠ t := by
  rintro l hr j hj rfl
  obtain ⟨ot, hot, e, he, hb, hon⟩ := Region.waitsFor_spec hwt
  obtain ⟨_, oj, hoj, hall⟩ := mem_ready.1 hj
  rw [hot] at hoj
  obtain rfl := Option.some.inj hoj
  have h1 := hall e he hb
  have h0 := (mem_ready.1 hr).1
  rw [hon] at h1
  rcases Nat.lt_or_ge i l.size with h' | h'
  ·simp [h'] at h0 h1; rw [h0] at h1; cases h1
  ·simp [Array.getElem?_eq_none h'] at h1
 intro f
 induction f with
 | zero =>
  intro l a w _ hr ht hy hS H
  refine ⟨fun h => (by rw [h] at hr; cases hr), fun j hj => ?_⟩
  by_cases hji : j = i
  ·subst hji; exact hy.wpOp hi hS ⟨fun _ => hS, H⟩
  ·have := ready_mono hj hji
   rw [H.1] at this
   cases this
 | succ f ih =>
  intro l a w hfree hr ht hy hS H
  refine ⟨fun h => (by rw [h] at hr; cases hr), fun j hj => ?_⟩
  by_cases hji : j = i
  ·subst hji; exact hy.wpOp hi hS ⟨fun _ => hS, H⟩
  ·have h1 := H.2 j (ready_mono hj hji)
   obtain ⟨hjun, oj, hoj, hall⟩ := mem_ready.1 hj
   have hnot : ∀ e ∈ oj.after, Region.binds .any e = true -> e.on ≠ i := fun e he hb heq => by
    have h1 := hall e he hb
    have h0 := (mem_ready.1 hr).1
    rw [heq] at h1
    rcases Nat.lt_or_ge i l.size with h' | h'
    ·simp [h'] at h0 h1; rw [h0] at h1; cases h1
    ·simp [Array.getElem?_eq_none h'] at h1
   have hjt : j ≠ t := notT l hr j hj
   have hit : i ≠ t := notT l hr i hr
   have h2 := wpOp_putIf hoj (hfree j oj hoj hji hjun hnot) (fun cs b => hsel i oi cs b hi) (fun cs b => hsel j oj cs b hoj) hQ hy h1
   have hfree' : ∀ k ok, ops[k]? = some ok -> k ≠ i -> (l.setIfInBounds j true).getD k true = false →
     (∀ e ∈ ok.after, Region.binds .any e = true -> e.on ≠ i) -> oi.apart ops ok = true := fun k ok hk hki hun hno => by
    refine hfree k ok hk hki ?_ hno
    by_cases hjk : j = k
    ·subst hjk; exact hjun
    ·rw [getD_set_ne true hjk] at hun; exact hun
   have t1 : (l.setIfInBounds j true).getD t true = false := by rw [getD_set_ne true hjt]; exact ht
   have t2 : ((l.setIfInBounds i true).setIfInBounds j true).getD t true = false := by rw [getD_set_ne true hjt, getD_set_ne true hit]; exact ht
   refine wpOp_mono (fun a' w' h3 => ⟨fun _ => h3.2.1 t2, ih (l.setIfInBounds j true) a' w' hfree' (ready_mono hr (Ne.symm hji)) t1 h3.1 (h3.2.1 t2) ?_⟩) h2
   rw [Array.setIfInBounds_comm _ _ hji]
   exact h3.2.2
theorem utake {i t f : Nat} {l1 : Array Bool} (hk : Kn a n L) (hq : ∀ c a a' w, Q (.panic c) a w -> Q (.panic c) a' w) (hi : ops[i]? = some o) (hs : Region.noSelect ops = true) (hf : Region.free .any ops l1 i = true) (hr : (Region.ready .any ops l1).contains i = true)
  (hwt : Region.waitsFor .any ops t i = true) (ht : l1.getD t true = false) (ho : o.dst = some d) (hd : Nat.blt d n = true) (hw : Region.wanted o (yielded ops a.tmps) = true) (hy : ∀ ev, Sees L ev -> ∀ w, S w -> (execOp ev o).run P w = .ok (.value v) w) (hS : S w)
  (h : ∀ a', Kn a' n ((d, v) :: L) -> wpTill P ops Q t S f (l1.setIfInBounds i true) a' w) : wpTill P ops Q t S (f + 1) l1 a w := by
 refine till_first hi (Region.noSelect_spec hs) hwt (fun c a w h => hq c _ _ w h) f l1 a w (Region.free_spec hi hf) (by simpa using hr) ht (Or.inl ⟨hw, hy _ hk.sees⟩) hS ?_
 rw [ho]
 exact h _ (hk.put hd)
theorem till_pure {t i : Nat} {oi : Oper} (hi : ops[i]? = some oi) (hsel : ∀ (j : Nat) (o : Oper) cs b, ops[j]? = some o -> o.op ≠ .select cs b) (hit : i ≠ t)
  (hQ : ∀ c a w, Q (.panic c) (a.put oi.dst v) w -> Q (.panic c) a w) :
  ∀ (f : Nat) (l : Array Bool) (a : Act) (w : World),
   (∀ j oj, ops[j]? = some oj -> j ≠ i -> l.getD j true = false -> (∀ e ∈ oj.after, Region.binds .any e = true -> e.on ≠ i) -> oi.apart ops oj = true) →
   i ∈ Region.ready .any ops l -> (l.getD t true = false -> S w) -> YieldsIf P ops (fun _ => True) oi v a →
   wpTill P ops Q t S f (l.setIfInBounds i true) (a.put oi.dst v) w -> wpTill P ops Q t S (f + 1) l a w := by
 intro f
 induction f with
 | zero =>
  intro l a w _ hr hS hy H
  refine ⟨fun h => (by rw [h] at hr; cases hr), fun j hj => ?_⟩
  by_cases hji : j = i
  ·subst hji; exact hy.wpOp hi trivial ⟨fun h => hS (by rwa [getD_set_ne true hit] at h), H⟩
  ·have := ready_mono hj hji
   rw [H.1] at this
   cases this
 | succ f ih =>
  intro l a w hfree hr hS hy H
  refine ⟨fun h => (by rw [h] at hr; cases hr), fun j hj => ?_⟩
  by_cases hji : j = i
  ·subst hji; exact hy.wpOp hi trivial ⟨fun h => hS (by rwa [getD_set_ne true hit] at h), H⟩
  ·have h1 := H.2 j (ready_mono hj hji)
   obtain ⟨hjun, oj, hoj, hall⟩ := mem_ready.1 hj
   have hnot : ∀ e ∈ oj.after, Region.binds .any e = true -> e.on ≠ i := fun e he hb heq => by
    have h1 := hall e he hb
    have h0 := (mem_ready.1 hr).1
    rw [heq] at h1
    rcases Nat.lt_or_ge i l.size with h' | h'
    ·simp [h'] at h0 h1; rw [h0] at h1; cases h1
    ·simp [Array.getElem?_eq_none h'] at h1
   have h2 := wpOp_putIf hoj (hfree j oj hoj hji hjun hnot) (fun cs b => hsel i oi cs b hi) (fun cs b => hsel j oj cs b hoj) hQ hy h1
   have hfree' : ∀ k ok, ops[k]? = some ok -> k ≠ i -> (l.setIfInBounds j true).getD k true = false →
     (∀ e ∈ ok.after, Region.binds .any e = true -> e.on ≠ i) -> oi.apart ops ok = true := fun k ok hk hki hun hno => by
    refine hfree k ok hk hki ?_ hno
    by_cases hjk : j = k
    ·subst hjk; exact hjun
    ·rw [getD_set_ne true hjk] at hun; exact hun
   have t2 : (l.setIfInBounds j true).getD t true = false -> ((l.setIfInBounds i true).setIfInBounds j true).getD t true = false := fun h => by
    rw [Array.setIfInBounds_comm _ _ (Ne.symm hji), getD_set_ne true hit]; exact h
   refine wpOp_mono (fun a' w' h3 => ⟨fun h => h3.2.1 (t2 h), ih (l.setIfInBounds j true) a' w' hfree' (ready_mono hr (Ne.symm hji)) (fun h => h3.2.1 (t2 h)) h3.1 ?_⟩) h2
   rw [Array.setIfInBounds_comm _ _ hji]
   exact h3.2.2
theorem upure {i t f : Nat} {l1 : Array Bool} (hk : Kn a n L) (hq : ∀ c a a' w, Q (.panic c) a w -> Q (.panic c) a' w) (hi : ops[i]? = some o) (hs : Region.noSelect ops = true) (hf : Region.free .any ops l1 i = true) (hr : (Region.ready .any ops l1).contains i = true)
  (hit : Nat.beq i t = false) (ho : o.dst = some d) (hd : Nat.blt d n = true) (hw : Region.wanted o (yielded ops a.tmps) = true) (hy : ∀ ev, Sees L ev -> ∀ w, (execOp ev o).run P w = .ok (.value v) w) (hS : l1.getD t true = false -> S w)
  (h : ∀ a', Kn a' n ((d, v) :: L) -> wpTill P ops Q t S f (l1.setIfInBounds i true) a' w) : wpTill P ops Q t S (f + 1) l1 a w := by
 refine till_pure hi (Region.noSelect_spec hs) (fun e => by subst e; simp at hit) (fun c a w h => hq c _ _ w h) f l1 a w (Region.free_spec hi hf) (by simpa using hr) hS (Or.inl ⟨hw, fun w _ => hy _ hk.sees w⟩) ?_
 rw [ho]
 exact h _ (hk.put hd)
def Lvs (P : Program) (Q : Exit -> Act -> World -> Prop) (o : Oper) (a : Act) (w : World) (R : Value -> World -> Prop) : Prop := ∀ K : Act -> World -> Prop, (∀ v w', R v w' -> K (a.put o.dst v) w') -> o.wp P a w K Q
theorem leaves_value (hk : Kn a n L) (hy : ∀ ev, Sees L ev -> (execOp ev o).run P w = .ok (.value v) w') : Lvs P Q o a w (fun x y => x = v /\ y = w') := fun K hK => by
 unfold Oper.wp
 rw [hy _ hk.sees, Oper.upon_value]
 exact hK _ _ ⟨rfl, rfl⟩
theorem leaves_skip (hk : Kn a n L) (hy : ∀ ev, Sees L ev -> (execOp ev o).run P w = .ok .skip w') : Lvs P Q o a w (fun x y => x = undef /\ y = w') := fun K hK => by
 unfold Oper.wp
 rw [hy _ hk.sees, Oper.upon_skip]
 exact hK _ _ ⟨rfl, rfl⟩
theorem leaves_call {fn : FuncId} {args : Array Value} {R : Ending -> World -> Prop} (hk : Kn a n L) (hy : ∀ ev, Sees L ev -> (execOp ev o).run P w = .ok (.enter fn args) w) (hc : Calls P fn args w R) (hR : ∀ e w', R e w' -> ∃ v, e = .returned v) :
  Lvs P Q o a w (fun x y => R (.returned x) y) := fun K hK => by
 unfold Oper.wp
 rw [hy _ hk.sees, Oper.upon_enter]
 refine hc.mono ?_
 intro e w' hr
 obtain ⟨v, rfl⟩ := hR e w' hr
 exact hK _ _ hr
theorem uone {i t f : Nat} {l1 : Array Bool} {R : Value -> World -> Prop} (hk : Kn a n L) (hi : ops[i]? = some o) (hr : Region.ready .any ops l1 = [i]) (ho : o.dst = some d) (hd : Nat.blt d n = true) (hw : Region.wanted o (yielded ops a.tmps) = true)
  (hy : Lvs P Q o a w R) (h : ∀ v w', R v w' -> ((l1.setIfInBounds i true).getD t true = false -> S w') /\ ∀ a', Kn a' n ((d, v) :: L) -> wpTill P ops Q t S f (l1.setIfInBounds i true) a' w') : wpTill P ops Q t S (f + 1) l1 a w := by
 refine ⟨fun h => (by rw [hr] at h; cases h), fun j hj => ?_⟩
 rw [hr] at hj
 obtain rfl : j = i := by simpa using hj
 refine wpOp_step hi (fun K hK => ?_)
 rw [if_pos hw]
 refine hy K (fun v w' hR => ?_)
 obtain ⟨h1, h2⟩ := h v w' hR
 refine hK _ _ ⟨h1, ?_⟩
 rw [ho]
 exact h2 _ (hk.put hd)
theorem ustore {i t f : Nat} {l1 : Array Bool} {R : Value -> World -> Prop} (hk : Kn a n L) (hi : ops[i]? = some o) (hr : Region.ready .any ops l1 = [i]) (ho : o.dst = none) (hw : Region.wanted o (yielded ops a.tmps) = true)
  (hy : ∀ ev, Sees L ev -> (execOp ev o).run P w = .ok .skip w') (h1 : (l1.setIfInBounds i true).getD t true = false -> S w') (h : wpTill P ops Q t S f (l1.setIfInBounds i true) a w') : wpTill P ops Q t S (f + 1) l1 a w := by
 refine ⟨fun h => (by rw [hr] at h; cases h), fun j hj => ?_⟩
 rw [hr] at hj
 obtain rfl : j = i := by simpa using hj
 refine wpOp_step hi (fun K hK => ?_)
 rw [if_pos hw]
 refine leaves_skip hk hy K (fun v w' hR => ?_)
 obtain ⟨rfl, rfl⟩ := hR
 refine hK _ _ ⟨h1, ?_⟩
 rw [ho]
 exact h
theorem till_done {t : Nat} {l : Array Bool} (hr : Region.ready .any ops l = []) (h : Q .normal a w) : ∀ f, wpTill P ops Q t S f l a w
 | 0 => ⟨hr, h⟩
 | _ + 1 => ⟨fun _ => h, by rw [hr]; simp⟩
theorem wp_region_till {id t : Nat} (hm : P.follows .mixedOrders = true) (h : wpTill P ops Q t S ops.size (Array.replicate ops.size false) a w.drew) : (Code.region id ops true).wp P Q a w :=
 wp_region_any hm (wpAny_of_till _ _ _ _ h)
theorem stake {rest : List Oper} {Lq : Act -> Prop} (hk : Kn a n L) (ho : o.dst = some d) (hd : Nat.blt d n = true) (hw : Region.wanted o (yielded ops a.tmps) = true)
  (hy : ∀ ev, Sees L ev -> (execOp ev o).run P w = .ok (.value v) w) (h : ∀ a', Kn a' n ((d, v) :: L) -> wpStill P ops w Lq rest a') : wpStill P ops w Lq (o :: rest) a :=
 wpStill_step fun K hK => by
  rw [if_pos hw]
  have := h _ (hk.put hd)
  unfold Oper.still
  rw [hy _ hk.sees, Oper.stillUpon_value, ho]
  exact hK _ this
theorem lmv {rest : List Oper} {v : Value} (hk : Kn a n L) (ho : o.dst = some d) (hd : Nat.blt d n = true) (hw : Region.wanted o (yielded ops a.tmps) = true) (hop : o.op = .move (.tmp s)) (hu : look L s = some v)
  (h : ∀ a', Kn a' n ((d, v) :: L) -> wpList P ops Q rest a' w) : wpList P ops Q (o :: rest) a w :=
 ltake hk ho hd hw (fun ev E => by have e := E.tmp s v hu; simp [execOp, hop, e, go_sem]) h
theorem las {rest : List Oper} {v : Value} (hk : Kn a n L) (ho : o.dst = some d) (hd : Nat.blt d n = true) (hw : Region.wanted o (yielded ops a.tmps) = true) (hop : o.op = .assign (.tmp s)) (hu : look L s = some v)
  (h : ∀ a', Kn a' n ((d, v) :: L) -> wpList P ops Q rest a' w) : wpList P ops Q (o :: rest) a w :=
 ltake hk ho hd hw (fun ev E => by have e := E.tmp s v hu; simp [execOp, hop, e, go_sem]) h
theorem lac {rest : List Oper} {v : Value} (hk : Kn a n L) (ho : o.dst = some d) (hd : Nat.blt d n = true) (hw : Region.wanted o (yielded ops a.tmps) = true) (hop : o.op = .assign (.const v))
  (h : ∀ a', Kn a' n ((d, v) :: L) -> wpList P ops Q rest a' w) : wpList P ops Q (o :: rest) a w :=
 ltake hk ho hd hw (fun ev E => by have e := E.const v; simp [execOp, hop, e, go_sem]) h
theorem lnc {rest : List Oper} {q : Addr} (hk : Kn a n L) (ho : o.dst = some d) (hd : Nat.blt d n = true) (hw : Region.wanted o (yielded ops a.tmps) = true) (hop : o.op = .nilCheck (.tmp s)) (hu : look L s = some (.pointer (some q)))
  (h : ∀ a', Kn a' n ((d, .pointer (some q)) :: L) -> wpList P ops Q rest a' w) : wpList P ops Q (o :: rest) a w :=
 ltake hk ho hd hw (fun ev E => by have e := E.tmp s _ hu; simp [execOp, hop, e, go_sem]) h
def numb : Nat -> List Value -> List (Nat × Value)
 | _, [] => []
 | k, v :: r => (k, v) :: numb (k + 1) r
theorem numb_has : ∀ (l : List Value) (k s : Nat) (v : Value), look (numb k l) s = some v -> k <= s /\ l[s - k]? = some v
 | [], _, _, _, h => by simp [numb, look] at h
 | x :: r, k, s, v, h => by
  unfold numb look at h
  cases e : Nat.beq k s
  ·rw [e] at h
   obtain ⟨h1, h2⟩ := numb_has r (k + 1) s v h
   refine ⟨by omega, ?_⟩
   rw [show s - k = (s - (k + 1)) + 1 from by omega, List.getElem?_cons_succ]
   exact h2
  ·rw [e] at h
   obtain rfl : k = s := Nat.eq_of_beq_eq_true e
   have hx : x = v := by simpa using h
   subst hx
   simp
theorem callsK {f : FuncId} {fn : Func} {c : Code} {args : Array Value} {R : Ending -> World -> Prop} (hf : P.funcs[f]? = some fn) (hb : fn.body = some c) (hn : fn.ntmps = n) (hL : L = numb 0 args.toList) (hs : Nat.ble args.size n = true)
  (h : ∀ a, Kn a n L -> c.wp P (bodyPost P fn R) a w) : Calls P f args w R := by
 have hs' : args.size <= n := by simpa [Nat.ble_eq] using hs
 refine calls_of_wp hf hb (h _ ⟨by rw [hn]; simp; omega, rfl, fun s v hv => ?_⟩)
 rw [hL] at hv
 have := (numb_has _ _ _ _ hv).2
 rw [Nat.sub_zero, Array.getElem?_toList] at this
 rw [Array.getElem?_append_left (Array.getElem?_eq_some_iff.1 this).1]
 exact this
def FA (P : Program) (T k j : Nat) : Prop := ∀ b o w, (Instr.fieldAt T (zp b o) k).run P w = .ok (zp b (o + j)) w
theorem lfa {rest : List Oper} {T k j b q : Nat} (hk : Kn a n L) (ho : o.dst = some d) (hd : Nat.blt d n = true) (hw : Region.wanted o (yielded ops a.tmps) = true) (hop : o.op = .fieldAddr T (.tmp s) k) (hu : look L s = some (zp b q)) (hF : FA P T k j)
  (h : ∀ a', Kn a' n ((d, zp b (q + j)) :: L) -> wpList P ops Q rest a' w) : wpList P ops Q (o :: rest) a w :=
 ltake hk ho hd hw (fun ev E => by have e := E.tmp s _ hu; have f := hF b q w; simp only [execOp, hop, e]; generalize Instr.fieldAt T (zp b q) k = m at f ⊢; simp [go_sem, f]) h
def pth : List Nat -> Code -> Code
 | [], c => c
 | 0 :: p, .seq x _ => pth p x
 | _ :: p, .seq _ x => pth p x
 | 0 :: p, .cond _ x _ => pth p x
 | _ :: p, .cond _ _ x => pth p x
 | _ :: p, .block _ x => pth p x
 | _ :: p, .loop x => pth p x
 | _, c => c
def rg (p : List Nat) (f : Func) : List Oper := match pth p (f.body.getD .skip) with
 | .region _ o _ => o.toList
 | _ => []
end
section
variable {P : Program} {ops : Array Oper} {Q : Exit → Act → World → Prop} {S : World → Prop} {a : Act} {w : World} {s d n : Nat} {L L' : List (Nat × Value)}
theorem lT {o : Oper} {rest : List Oper} (v : Value) (w' : World) (hk : Kn a n L) (hw : Region.wanted o (yielded ops a.tmps) = true)
  (hy : ∀ ev, Sees L ev → (execOp ev o).run P w = .ok (.value v) w') (h : ∀ a', Kn a' n ((d, v) :: L) → wpList P ops Q rest a' w') (ho : o.dst = some d := by rfl) (hd : Nat.blt d n = true := by rfl) : wpList P ops Q (o :: rest) a w :=
 ltake hk ho hd hw hy h
theorem lM {o : Oper} {v : Value} {rest : List Oper} (hk : Kn a n L) (h : ∀ a', Kn a' n ((d, v) :: L) → wpList P ops Q rest a' w) (ho : o.dst = some d := by rfl) (hop : o.op = .move (.tmp s) := by rfl) (hu : look L s = some v := by rfl) (hd : Nat.blt d n = true := by rfl)
  (hg : o.guard = none := by rfl) : wpList P ops Q (o :: rest) a w := lmv hk ho hd (want_none hg) hop hu h
theorem lA {o : Oper} {v : Value} {rest : List Oper} (hk : Kn a n L) (h : ∀ a', Kn a' n ((d, v) :: L) → wpList P ops Q rest a' w) (ho : o.dst = some d := by rfl) (hop : o.op = .assign (.tmp s) := by rfl) (hu : look L s = some v := by rfl) (hd : Nat.blt d n = true := by rfl)
  (hg : o.guard = none := by rfl) : wpList P ops Q (o :: rest) a w := las hk ho hd (want_none hg) hop hu h
theorem lC {o : Oper} {v : Value} {rest : List Oper} (hk : Kn a n L) (h : ∀ a', Kn a' n ((d, v) :: L) → wpList P ops Q rest a' w) (ho : o.dst = some d := by rfl) (hop : o.op = .assign (.const v) := by rfl) (hd : Nat.blt d n = true := by rfl)
  (hg : o.guard = none := by rfl) : wpList P ops Q (o :: rest) a w := lac hk ho hd (want_none hg) hop h
theorem lN {o : Oper} {q : Addr} {rest : List Oper} (hk : Kn a n L) (h : ∀ a', Kn a' n ((d, .pointer (some q)) :: L) → wpList P ops Q rest a' w) (ho : o.dst = some d := by rfl) (hop : o.op = .nilCheck (.tmp s) := by rfl) (hu : look L s = some (.pointer (some q)) := by rfl) (hd : Nat.blt d n = true := by rfl)
  (hg : o.guard = none := by rfl) : wpList P ops Q (o :: rest) a w := lnc hk ho hd (want_none hg) hop hu h
theorem lF {o : Oper} {T k j b q : Nat} {rest : List Oper} (hk : Kn a n L) (hF : FA P T k j) (h : ∀ a', Kn a' n ((d, .pointer (some ⟨b, q + j, none⟩)) :: L) → wpList P ops Q rest a' w) (ho : o.dst = some d := by rfl) (hop : o.op = .fieldAddr T (.tmp s) k := by rfl) (hu : look L s = some (.pointer (some ⟨b, q, none⟩)) := by rfl) (hd : Nat.blt d n = true := by rfl)
  (hg : o.guard = none := by rfl) : wpList P ops Q (o :: rest) a w := lfa hk ho hd (want_none hg) hop hu hF h
theorem dT (i : Nat) (o : Oper) (v : Value) {fuel : Nat} {l1 : Array Bool} (hk : Kn a n L) (hq : ∀ c a a' w, Q (.panic c) a w → Q (.panic c) a' w) (hs : Region.noSelect ops = true)
  (hw : Region.wanted o (yielded ops a.tmps) = true) (hy : ∀ ev, Sees L ev → ∀ w, S w → (execOp ev o).run P w = .ok (.value v) w) (hS : S w)
  (h : ∀ a', Kn a' n ((d, v) :: L) → wpAnyH P .any ops Q S fuel (l1.setIfInBounds i true) a' w)
  (ho : o.dst = some d := by rfl) (hd : Nat.blt d n = true := by rfl) (hi : ops[i]? = some o := by rfl) (hf : Region.free .any ops l1 i = true := by kernel_rfl) (hr : (Region.ready .any ops l1).contains i = true := by kernel_rfl) : wpAnyH P .any ops Q S (fuel + 1) l1 a w :=
 dtake hk hq hi hs hf hr ho hd hw hy hS h
theorem uP (i : Nat) (o : Oper) (v : Value) {t f : Nat} {l1 : Array Bool} (hk : Kn a n L) (hq : ∀ c a a' w, Q (.panic c) a w → Q (.panic c) a' w) (hs : Region.noSelect ops = true)
  (hw : Region.wanted o (yielded ops a.tmps) = true) (hy : ∀ ev, Sees L ev → ∀ w, (execOp ev o).run P w = .ok (.value v) w) (hS : l1.getD t true = false → S w)
  (h : ∀ a', Kn a' n ((d, v) :: L) → wpTill P ops Q t S f (l1.setIfInBounds i true) a' w)
  (ho : o.dst = some d := by rfl) (hd : Nat.blt d n = true := by rfl) (hi : ops[i]? = some o := by rfl) (hit : Nat.beq i t = false := by rfl) (hf : Region.free .any ops l1 i = true := by kernel_rfl) (hr : (Region.ready .any ops l1).contains i = true := by kernel_rfl) : wpTill P ops Q t S (f + 1) l1 a w :=
 upure hk hq hi hs hf hr hit ho hd hw hy hS h
end
end Go.Arb
namespace Go.Proofs.Ytjnkgakajenoaaa
structure Sm where
 c : Int
 s : Int
 a : Int
 b : Int
theorem Sm.same {x y : Sm} (h1 : x.c = y.c) (h2 : x.s = y.s) (h3 : x.a = y.a) (h4 : x.b = y.b) : x = y := by
 cases x; cases y; simp_all
def jn (x y : Sm) : Sm := if x.c = 0 then y else if y.c = 0 then x else ⟨x.c + y.c, x.s + y.s, min x.a y.a, max x.b y.b⟩
def lf (x : Sm) (n : Int) : Sm := if x.c = 0 then x else ⟨x.c, x.s + x.c * n, x.a + n, x.b + n⟩
def one (n : Int) : Sm := ⟨1, n, n, n⟩
def zero : Sm := ⟨0, 0, 0, 0⟩
def ofL (l : List Int) : Sm := l.foldl (fun x n => jn x (one n)) zero
def ofR : List Int -> Sm
 | [] => zero
 | n :: l => jn (one n) (ofR l)
def Sm.ok (x : Sm) : Prop := 0 <= x.c /\ (x.c = 0 -> x = zero)
theorem ok_zero : zero.ok := ⟨by simp [zero], fun _ => rfl⟩
theorem ok_one (n : Int) : (one n).ok := ⟨by simp [one], fun h => by simp [one] at h⟩
theorem ok_jn {x y : Sm} (hx : x.ok) (hy : y.ok) : (jn x y).ok := by
 unfold jn
 split
 ·exact hy
 ·split
  ·exact hx
  ·rename_i h1 h2
   obtain ⟨h3, _⟩ := hx
   obtain ⟨h4, _⟩ := hy
   exact ⟨by simp; omega, fun h => by simp at h; omega⟩
theorem jn_zero_left (x : Sm) : jn zero x = x := by simp [jn, zero]
theorem jn_zero_right {x : Sm} (h : x.ok) : jn x zero = x := by
 unfold jn
 split
 ·rename_i h0; exact (h.2 h0).symm
 ·simp [zero]
theorem jn_comm {x y : Sm} (hx : x.ok) (hy : y.ok) : jn x y = jn y x := by
 by_cases h1 : x.c = 0
 ·rw [hx.2 h1, jn_zero_left, jn_zero_right hy]
 ·by_cases h2 : y.c = 0
  ·rw [hy.2 h2, jn_zero_left, jn_zero_right hx]
  ·simp only [jn, h1, h2, if_false]
   exact Sm.same (by simp; omega) (by simp; omega) (by simp; omega) (by simp; omega)
theorem jn_assoc {x y z : Sm} (hx : x.ok) (hy : y.ok) (hz : z.ok) : jn (jn x y) z = jn x (jn y z) := by
 by_cases h1 : x.c = 0
 ·rw [hx.2 h1, jn_zero_left, jn_zero_left]
 ·by_cases h2 : y.c = 0
  ·rw [hy.2 h2, jn_zero_left, jn_zero_right hx]
  ·by_cases h3 : z.c = 0
   ·rw [hz.2 h3, jn_zero_right hy, jn_zero_right (ok_jn hx hy)]
   ·have g1 : x.c + y.c ≠ 0 := by have := hx.1; have := hy.1; omega
    have g2 : y.c + z.c ≠ 0 := by have := hz.1; have := hy.1; omega
    simp only [jn, h1, h2, h3, g1, g2, if_false]
    exact Sm.same (by dsimp only; omega) (by dsimp only; omega) (by dsimp only; omega) (by dsimp only; omega)
theorem ok_ofR (l : List Int) : (ofR l).ok := by
 induction l with
 | nil => exact ok_zero
 | cons n l ih => exact ok_jn (ok_one n) ih
theorem foldl_eq (l : List Int) : ∀ x : Sm, x.ok -> l.foldl (fun x n => jn x (one n)) x = jn x (ofR l) := by
 induction l with
 | nil => intro x hx; exact (jn_zero_right hx).symm
 | cons n l ih => intro x hx; rw [List.foldl_cons, ih _ (ok_jn hx (ok_one n))]; exact jn_assoc hx (ok_one n) (ok_ofR l)
theorem ofL_eq (l : List Int) : ofL l = ofR l := by rw [ofL, foldl_eq l zero ok_zero, jn_zero_left]
theorem ofR_append (l m : List Int) : ofR (l ++ m) = jn (ofR l) (ofR m) := by
 induction l with
 | nil => exact (jn_zero_left _).symm
 | cons n l ih => rw [List.cons_append, ofR, ih, ofR, jn_assoc (ok_one n) (ok_ofR l) (ok_ofR m)]
theorem ofL_append (l m : List Int) : ofL (l ++ m) = jn (ofL l) (ofL m) := by rw [ofL_eq, ofL_eq, ofL_eq, ofR_append]
theorem ofL_one (n : Int) : ofL [n] = one n := by simp [ofL, jn_zero_left]
theorem ofR_c (l : List Int) : (ofR l).c = l.length := by
 induction l with
 | nil => rfl
 | cons n l ih =>
  rw [ofR, jn, if_neg (by simp [one])]
  split
  ·rename_i h; rw [h] at ih; simp [one]; omega
  ·simp [one]; omega
theorem ofR_bd (lo hi : Int) (l : List Int) (h : ∀ n ∈ l, lo <= n /\ n <= hi) (hne : l ≠ []) :
  lo <= (ofR l).a /\ (ofR l).a <= (ofR l).b /\ (ofR l).b <= hi /\ (ofR l).c * (ofR l).a <= (ofR l).s /\ (ofR l).s <= (ofR l).c * (ofR l).b := by
 induction l with
 | nil => exact absurd rfl hne
 | cons n l ih =>
  have hn := h n (by simp)
  have hl : ∀ k ∈ l, lo <= k /\ k <= hi := fun k hk => h k (by simp [hk])
  rw [ofR]
  by_cases h0 : l = []
  ·subst h0
   rw [show ofR [] = zero from rfl, jn_zero_right (ok_one n)]
   simp [one]; omega
  ·obtain ⟨i1, i2, i3, i4, i5⟩ := ih hl h0
   have hc : (ofR l).c ≠ 0 := by rw [ofR_c]; have := List.length_pos_iff.2 h0; omega
   have hc0 := (ok_ofR l).1
   generalize ofR l = y at *
   obtain ⟨c, s, a, b⟩ := y
   simp only at *
   rw [jn, if_neg (by simp [one]), if_neg hc]
   simp only [one]
   have m1 : c * min n a <= c * a := Int.mul_le_mul_of_nonneg_left (by omega) hc0
   have m2 : c * b <= c * max n b := Int.mul_le_mul_of_nonneg_left (by omega) hc0
   have e1 : (1 + c) * min n a = min n a + c * min n a := by rw [Int.add_mul]; omega
   have e2 : (1 + c) * max n b = max n b + c * max n b := by rw [Int.add_mul]; omega
   rw [e1, e2]
   refine ⟨by omega, by omega, by omega, by omega, by omega⟩
theorem ofR_s (lo hi : Int) (l : List Int) (h : ∀ n ∈ l, lo <= n /\ n <= hi) : l.length * lo <= (ofR l).s /\ (ofR l).s <= l.length * hi := by
 by_cases h0 : l = []
 ·subst h0; simp [ofR, zero]
 ·obtain ⟨i1, i2, i3, i4, i5⟩ := ofR_bd lo hi l h h0
  rw [ofR_c] at i4 i5
  have m1 : (l.length : Int) * lo <= l.length * (ofR l).a := Int.mul_le_mul_of_nonneg_left i1 (by omega)
  have m2 : (l.length : Int) * (ofR l).b <= l.length * hi := Int.mul_le_mul_of_nonneg_left i3 (by omega)
  omega
theorem lf_jn {x y : Sm} (hx : x.ok) (hy : y.ok) (n : Int) : lf (jn x y) n = jn (lf x n) (lf y n) := by
 by_cases h1 : x.c = 0
 ·rw [hx.2 h1, jn_zero_left]; simp [lf, zero, jn]
 ·by_cases h2 : y.c = 0
  ·rw [hy.2 h2, jn_zero_right hx]; simp [lf, zero, jn, h1]
  ·have g1 : x.c + y.c ≠ 0 := by have := hx.1; have := hy.1; omega
   simp only [jn, lf, h1, h2, g1, if_false]
   exact Sm.same rfl (by simp [Int.add_mul]; omega) (by dsimp only; omega) (by dsimp only; omega)
theorem lf_one (m n : Int) : lf (one m) n = one (m + n) := by simp [lf, one]
theorem ofL_take_bd (zs : List Int) (k : Nat) (hk : k <= 1048576) (hb : ∀ n ∈ zs, -1099511627776 <= n /\ n <= 1099511627776) :
  (0 <= (ofL (zs.take k)).c /\ (ofL (zs.take k)).c <= 1048576) /\ (-1152921504606846976 <= (ofL (zs.take k)).s /\ (ofL (zs.take k)).s <= 1152921504606846976) := by
 have hl : (zs.take k).length <= k := List.length_take_le _ _
 have h := ofR_s _ _ (zs.take k) (fun n hn => hb n (List.mem_of_mem_take hn))
 rw [ofL_eq, ofR_c]
 omega
theorem ofL_take_succ (zs : List Int) (k : Nat) (hk : k < zs.length) : ofL (zs.take (k + 1)) = jn (ofL (zs.take k)) (one (zs.getD k 0)) := by
 have e : zs.take (k + 1) = zs.take k ++ [zs.getD k 0] := by
  rw [List.take_succ_eq_append_getElem hk, List.getD_eq_getElem?_getD, List.getElem?_eq_getElem hk]; rfl
 rw [e, ofL_append, ofL_one]
end Go.Proofs.Ytjnkgakajenoaaa
namespace Go.Proofs.Ytjnkgakajenoaaa
open Go.RowKit
def fitB (w : Int) : Bool := decide (-1099511627776 <= w /\ w <= 1099511627776)
def inB (n e : Int) : Bool := decide (-e <= n /\ n <= e)
set_option maxHeartbeats 400000 in
theorem within_any (n e : Int) (w : World) (h0 : 0 <= e) (h1 : e <= 4398046511104) :
  Calls Try.prog 79 #[zi n, zi e] w fun r w' => r = .returned (.bool (inB n e)) /\ w' = w := by
 by_cases c1 : -e <= n
 ·by_cases c2 : n <= e
  ·go_enter Try.func79, Try.ntmps79
   go_wp2
   go_ret
   exact ⟨by simp [inB, c1, c2], rfl⟩
  ·go_enter Try.func79, Try.ntmps79
   go_wp2
   go_ret
   exact ⟨by simp [inB, c1, c2], rfl⟩
 ·go_enter Try.func79, Try.ntmps79
  go_wp2
  go_ret
  exact ⟨by simp [inB]; omega, rfl⟩
set_option maxHeartbeats 400000 in
theorem fits_any (n : Int) (w : World) :
  Calls Try.prog 52 #[zi n] w fun r w' => r = .returned (.bool (fitB n)) /\ w' = w := by
 go_enter Try.func52, Try.ntmps52
 go_wp2_with (go_at_call 79; refine (within_any _ _ _ (by omega) (by omega)).mono ?_; rintro e w' ⟨rfl, rfl⟩)
 go_ret
 exact ⟨by simp [inB, fitB], rfl⟩
set_option maxHeartbeats 400000 in
theorem rfits_any (n : Int) (w : World) :
  Calls Try.prog 55 #[zi n] w fun r w' => r = .returned (.bool (fitB n)) /\ w' = w := by
 by_cases c1 : -1099511627776 <= n
 ·by_cases c2 : n <= 1099511627776
  ·go_enter Try.func55, Try.ntmps55
   go_wp2
   go_ret
   exact ⟨by simp [fitB, c1, c2], rfl⟩
  ·go_enter Try.func55, Try.ntmps55
   go_wp2
   go_ret
   exact ⟨by simp [fitB, c1, c2], rfl⟩
 ·go_enter Try.func55, Try.ntmps55
  go_wp2
  go_ret
  exact ⟨by simp [fitB]; omega, rfl⟩
theorem bcell {W w1 : World} (hb : Below W.heap.size W w1) : (∀ b o, b < W.heap.size -> w1.cell? ⟨b, o, none⟩ = W.cell? ⟨b, o, none⟩) /\ (∀ b o, b < W.heap.size -> w1.frozen? ⟨b, o, none⟩ = W.frozen? ⟨b, o, none⟩) :=
 ⟨fun b o h => hb.cell (p := ⟨b, o, none⟩) h, fun b o h => hb.frozen (p := ⟨b, o, none⟩) h⟩
set_option maxHeartbeats 400000 in
theorem one_any (n : Int) (w : World) :
  Calls Try.prog 54 #[zi n] w fun r w' => r = .returned (.agg #[zi 1, zi n, zi n, zi n]) /\ Below w.heap.size w w' := by
 go_enter Try.func54, Try.ntmps54
 go_wp2
 refine bodyPost_ret (v := .agg #[zi 1, zi n, zi n, zi n]) (by simp [results, Try.results54, go_sem]) rfl ⟨rfl, ?_⟩
 exact (Below.refl _ _).alloc (Nat.le_refl _) _
set_option maxHeartbeats 400000 in
theorem rone_any (n : Int) (w : World) :
  Calls Try.prog 70 #[zi n] w fun r w' => r = .returned (.agg #[zi 1, zi n, zi n, zi n]) /\ Below w.heap.size w w' := by
 go_enter Try.func70, Try.ntmps70
 go_wp2
 refine bodyPost_ret (v := .agg #[zi 1, zi n, zi n, zi n]) (by simp [results, Try.results70, go_sem]) rfl ⟨rfl, ?_⟩
 exact (Below.refl _ _).alloc (Nat.le_refl _) _
theorem b3 (w : World) (o1 o2 o3 : Obj) : Below w.heap.size w (((w.alloc o1).alloc o2).alloc o3) :=
 (((Below.refl _ _).alloc (Nat.le_refl _) _).alloc (by simp) _).alloc (by simp; omega) _
theorem b2 (w : World) (o1 o2 : Obj) : Below w.heap.size w ((w.alloc o1).alloc o2) :=
 ((Below.refl _ _).alloc (Nat.le_refl _) _).alloc (by simp) _
set_option maxHeartbeats 400000 in
theorem join_any (c s a b c' s' a' b' : Int) (w : World) (k1 : -4611686018427387904 <= c + c') (k2 : c + c' <= 4611686018427387904) (k3 : -4611686018427387904 <= s + s') (k4 : s + s' <= 4611686018427387904) :
  Calls Try.prog 83 #[.agg #[zi c, zi s, zi a, zi b], .agg #[zi c', zi s', zi a', zi b']] w fun r w' =>
   r = .returned (.agg #[zi (jn ⟨c, s, a, b⟩ ⟨c', s', a', b'⟩).c, zi (jn ⟨c, s, a, b⟩ ⟨c', s', a', b'⟩).s, zi (jn ⟨c, s, a, b⟩ ⟨c', s', a', b'⟩).a, zi (jn ⟨c, s, a, b⟩ ⟨c', s', a', b'⟩).b]) /\ Below w.heap.size w w' := by
 by_cases h0 : c = 0
 ·subst h0
  go_enter Try.func83, Try.ntmps83
  go_wp2
  refine bodyPost_ret (v := .agg #[zi c', zi s', zi a', zi b']) (by simp [results, Try.results83, go_sem]) rfl ⟨by simp [jn], b3 _ _ _ _⟩
 ·have e0 : (c == 0) = false := by simpa using h0
  by_cases h1 : c' = 0
  ·subst h1
   go_enter Try.func83, Try.ntmps83
   go_wp2
   refine bodyPost_ret (v := .agg #[zi c, zi s, zi a, zi b]) (by simp [results, Try.results83, go_sem]) rfl ⟨by simp [jn, h0], b3 _ _ _ _⟩
  ·have e1 : (c' == 0) = false := by simpa using h1
   have hj : Hid (jn ⟨c, s, a, b⟩ ⟨c', s', a', b'⟩ = ⟨c + c', s + s', min a a', max b b'⟩) := by simp [jn, h0, h1, Hid]
   go_enter Try.func83, Try.ntmps83
   go_wp2
   all_goals
    rw [hj.out]
    refine bodyPost_ret (v := .agg #[zi (c + c'), zi (s + s'), zi (min a a'), zi (max b b')]) (by simp [results, Try.results83, go_sem]; omega) rfl ⟨rfl, b3 _ _ _ _⟩
set_option maxHeartbeats 400000 in
theorem rjoin_any (c s a b c' s' a' b' : Int) (w : World) (k1 : -4611686018427387904 <= c + c') (k2 : c + c' <= 4611686018427387904) (k3 : -4611686018427387904 <= s + s') (k4 : s + s' <= 4611686018427387904) :
  Calls Try.prog 69 #[.agg #[zi c, zi s, zi a, zi b], .agg #[zi c', zi s', zi a', zi b']] w fun r w' =>
   r = .returned (.agg #[zi (jn ⟨c, s, a, b⟩ ⟨c', s', a', b'⟩).c, zi (jn ⟨c, s, a, b⟩ ⟨c', s', a', b'⟩).s, zi (jn ⟨c, s, a, b⟩ ⟨c', s', a', b'⟩).a, zi (jn ⟨c, s, a, b⟩ ⟨c', s', a', b'⟩).b]) /\ Below w.heap.size w w' := by
 by_cases h0 : c = 0
 ·subst h0
  go_enter Try.func69, Try.ntmps69
  go_wp2
  refine bodyPost_ret (v := .agg #[zi c', zi s', zi a', zi b']) (by simp [results, Try.results69, go_sem]) rfl ⟨by simp [jn], b3 _ _ _ _⟩
 ·have e0 : (c == 0) = false := by simpa using h0
  by_cases h1 : c' = 0
  ·subst h1
   go_enter Try.func69, Try.ntmps69
   go_wp2
   refine bodyPost_ret (v := .agg #[zi c, zi s, zi a, zi b]) (by simp [results, Try.results69, go_sem]) rfl ⟨by simp [jn, h0], b3 _ _ _ _⟩
  ·have e1 : (c' == 0) = false := by simpa using h1
   have hj : Hid (jn ⟨c, s, a, b⟩ ⟨c', s', a', b'⟩ = ⟨c + c', s + s', min a a', max b b'⟩) := by simp [jn, h0, h1, Hid]
   go_enter Try.func69, Try.ntmps69
   go_wp2
   all_goals
    rw [hj.out]
    refine bodyPost_ret (v := .agg #[zi (c + c'), zi (s + s'), zi (min a a'), zi (max b b')]) (by simp [results, Try.results69, go_sem]; omega) rfl ⟨rfl, b3 _ _ _ _⟩
def addB (w n : Int) : Bool := fitB w && inB n 2199023255552 && fitB (w + n)
def addV (w n : Int) : Int := if addB w n then w + n else 0
set_option maxHeartbeats 400000 in
theorem add_any (x n : Int) (w : World) :
  Calls Try.prog 84 #[zi x, zi n] w fun r w' => r = .returned (.tuple #[zi (addV x n), .bool (addB x n)]) /\ w' = w := by
 cases h1 : fitB x
 ·go_enter Try.func84, Try.ntmps84
  go_wp2_with (go_at_call 52; refine (fits_any _ _).mono ?_; rintro e w' ⟨rfl, rfl⟩)
  go_ret2
  exact ⟨by simp [addV, addB, h1], rfl⟩
 ·cases h2 : inB n 2199023255552
  ·go_enter Try.func84, Try.ntmps84
   go_wp2_with (first | (go_at_call 52; refine (fits_any _ _).mono ?_; rintro e w' ⟨rfl, rfl⟩) | (go_at_call 79; refine (within_any _ _ _ (by omega) (by omega)).mono ?_; rintro e w' ⟨rfl, rfl⟩))
   go_ret2
   exact ⟨by simp [addV, addB, h2], rfl⟩
  ·have g1 : -1099511627776 <= x /\ x <= 1099511627776 := by simpa [fitB] using h1
   have g2 : -2199023255552 <= n /\ n <= 2199023255552 := by simpa [inB] using h2
   obtain ⟨g1, g1'⟩ := g1
   obtain ⟨g2, g2'⟩ := g2
   cases h3 : fitB (x + n)
   ·go_enter Try.func84, Try.ntmps84
    go_wp2_with (first | (go_at_call 52; refine (fits_any _ _).mono ?_; rintro e w' ⟨rfl, rfl⟩) | (go_at_call 79; refine (within_any _ _ _ (by omega) (by omega)).mono ?_; rintro e w' ⟨rfl, rfl⟩))
    go_ret2
    exact ⟨by simp [addV, addB, h3], rfl⟩
   ·go_enter Try.func84, Try.ntmps84
    go_wp2_with (first | (go_at_call 52; refine (fits_any _ _).mono ?_; rintro e w' ⟨rfl, rfl⟩) | (go_at_call 79; refine (within_any _ _ _ (by omega) (by omega)).mono ?_; rintro e w' ⟨rfl, rfl⟩))
    go_ret2
    exact ⟨by simp [addV, addB, h1, h2, h3], rfl⟩
set_option maxHeartbeats 400000 in
theorem radd_any (x n : Int) (w : World) :
  Calls Try.prog 68 #[zi x, zi n] w fun r w' => r = .returned (.tuple #[zi (addV x n), .bool (addB x n)]) /\ w' = w := by
 cases h1 : fitB x
 ·go_enter Try.func68, Try.ntmps68
  go_wp2_with (go_at_call 55; refine (rfits_any _ _).mono ?_; rintro e w' ⟨rfl, rfl⟩)
  go_ret2
  exact ⟨by simp [addV, addB, h1], rfl⟩
 ·by_cases h2 : 2199023255552 < n
  ·have hf : inB n 2199023255552 = false := by simp [inB]; omega
   go_enter Try.func68, Try.ntmps68
   go_wp2_with (go_at_call 55; refine (rfits_any _ _).mono ?_; rintro e w' ⟨rfl, rfl⟩)
   go_ret2
   exact ⟨by simp [addV, addB, hf], rfl⟩
  ·by_cases h3 : n < -2199023255552
   ·have hf : inB n 2199023255552 = false := by simp [inB]; omega
    go_enter Try.func68, Try.ntmps68
    go_wp2_with (go_at_call 55; refine (rfits_any _ _).mono ?_; rintro e w' ⟨rfl, rfl⟩)
    go_ret2
    exact ⟨by simp [addV, addB, hf], rfl⟩
   ·have g1 : -1099511627776 <= x /\ x <= 1099511627776 := by simpa [fitB] using h1
    have g2 : inB n 2199023255552 = true := by simp [inB]; omega
    obtain ⟨g1, g1'⟩ := g1
    have H2 : Hid (inB n 2199023255552 = true) := g2
    clear g2
    cases h4 : fitB (x + n)
    ·go_enter Try.func68, Try.ntmps68
     go_wp2_with (go_at_call 55; refine (rfits_any _ _).mono ?_; rintro e w' ⟨rfl, rfl⟩)
     go_ret2
     exact ⟨by simp [addV, addB, h4], rfl⟩
    ·go_enter Try.func68, Try.ntmps68
     go_wp2_with (go_at_call 55; refine (rfits_any _ _).mono ?_; rintro e w' ⟨rfl, rfl⟩)
     go_ret2
     exact ⟨by simp [addV, addB, h1, H2.out, h4], rfl⟩
def SumAt (w : World) (b : Nat) (x : Sm) : Prop :=
 (w.cell? ⟨b, 0, none⟩ = some (zi x.c) /\ w.cell? ⟨b, 1, none⟩ = some (zi x.s) /\ w.cell? ⟨b, 2, none⟩ = some (zi x.a) /\ w.cell? ⟨b, 3, none⟩ = some (zi x.b)) ∧
 w.frozen? ⟨b, 0, none⟩ = false /\ w.frozen? ⟨b, 1, none⟩ = false /\ w.frozen? ⟨b, 2, none⟩ = false /\ w.frozen? ⟨b, 3, none⟩ = false
theorem SumAt.below {W w1 : World} {b : Nat} {x : Sm} (h : SumAt W b x) (hb : Below W.heap.size W w1) (hl : b < W.heap.size) : SumAt w1 b x := by
 obtain ⟨⟨q0, q1, q2, q3⟩, f0, f1, f2, f3⟩ := h
 refine ⟨⟨?_, ?_, ?_, ?_⟩, ?_, ?_, ?_, ?_⟩
 ·rw [hb.cell (p := ⟨b, 0, none⟩) hl]; exact q0
 ·rw [hb.cell (p := ⟨b, 1, none⟩) hl]; exact q1
 ·rw [hb.cell (p := ⟨b, 2, none⟩) hl]; exact q2
 ·rw [hb.cell (p := ⟨b, 3, none⟩) hl]; exact q3
 ·rw [hb.frozen (p := ⟨b, 0, none⟩) hl]; exact f0
 ·rw [hb.frozen (p := ⟨b, 1, none⟩) hl]; exact f1
 ·rw [hb.frozen (p := ⟨b, 2, none⟩) hl]; exact f2
 ·rw [hb.frozen (p := ⟨b, 3, none⟩) hl]; exact f3
def putSum (w : World) (b : Nat) (x : Sm) : World :=
 (((w.setCell ⟨b, 0, none⟩ (zi x.c)).setCell ⟨b, 1, none⟩ (zi x.s)).setCell ⟨b, 2, none⟩ (zi x.a)).setCell ⟨b, 3, none⟩ (zi x.b)
theorem SumAt.put {w : World} {b : Nat} {x y : Sm} (h : SumAt w b y) : SumAt (putSum w b x) b x := by
 obtain ⟨⟨q0, q1, q2, q3⟩, f0, f1, f2, f3⟩ := h
 simp [SumAt, putSum, go_sem, q0, q1, q2, q3, f0, f1, f2, f3]
theorem below_put {B b : Nat} {w w' : World} {x : Sm} (h : Below B w w') (hb : B <= b) : Below B w (putSum w' b x) :=
 (((h.setCell (p := ⟨b, 0, none⟩) hb _).setCell (p := ⟨b, 1, none⟩) hb _).setCell (p := ⟨b, 2, none⟩) hb _).setCell (p := ⟨b, 3, none⟩) hb _
end Go.Proofs.Ytjnkgakajenoaaa
namespace Go.Arb
open Go.RowKit
structure Keep (ks : List Nat) (w w' : World) : Prop where
 os : w'.os = w.os
 tape : w'.tape = w.tape
 output : w'.output = w.output
 size : w.heap.size <= w'.heap.size
 block : ∀ k, k < w.heap.size -> k ∉ ks -> w'.heap[k]? = w.heap[k]?
theorem Keep.refl (ks : List Nat) (w : World) : Keep ks w w := ⟨rfl, rfl, rfl, Nat.le_refl _, fun _ _ _ => rfl⟩
theorem Keep.drew {ks : List Nat} {w w' : World} (h : Keep ks w w') : Keep ks w w'.drew := ⟨h.os, h.tape, h.output, h.size, h.block⟩
theorem Keep.trans {ks js : List Nat} {a b c : World} (h : Keep ks a b) (k : Keep js b c) (hj : ∀ i ∈ js, i ∈ ks ∨ a.heap.size <= i) : Keep ks a c :=
 ⟨k.os.trans h.os, k.tape.trans h.tape, k.output.trans h.output, Nat.le_trans h.size k.size, fun i hi hn =>
  (k.block i (Nat.lt_of_lt_of_le hi h.size) (fun hm => by rcases hj i hm with h1 | h1; exact hn h1; omega)).trans (h.block i hi hn)⟩
theorem Keep.mono {ks js : List Nat} {w w' : World} (h : Keep ks w w') (hs : ∀ k ∈ ks, k ∈ js ∨ w.heap.size <= k) : Keep js w w' :=
 ⟨h.os, h.tape, h.output, h.size, fun k hk hn => h.block k hk (fun hm => by rcases hs k hm with h1 | h1; exact hn h1; omega)⟩
theorem Keep.alloc {ks : List Nat} {a w : World} (h : Keep ks a w) (o : Obj) : Keep ks a (w.alloc o) :=
 h.trans (js := []) ⟨rfl, rfl, rfl, by simp, fun _ hk _ => Below.heap_alloc _ _ _ hk⟩ (by simp)
theorem Keep.setCell {ks : List Nat} {a w : World} (h : Keep ks a w) {p : Addr} (hp : p.block ∈ ks ∨ a.heap.size <= p.block) (u : Value) : Keep ks a (w.setCell p u) :=
 h.trans (js := [p.block]) ⟨rfl, rfl, rfl, by simp [World.setCell], fun k _ hn => Below.heap_setCell _ _ _ _ (by simpa using hn)⟩ (by simpa using hp)
theorem Keep.grown {ks : List Nat} {a w w' : World} {row : Option Nat} (h : Keep ks a w) (hg : w.grownBy w' row) (hr : ∀ k, row = some k -> k ∈ ks ∨ a.heap.size <= k) : Keep ks a w' :=
 h.trans (js := row.toList) ⟨hg.os, hg.tape, hg.output, hg.size, fun k hk hn => hg.block k hk (fun e => hn (by simp [← e]))⟩ (fun i hi => hr i (by simpa using hi))
theorem Keep.below {ks : List Nat} {B : Nat} {a w w' : World} (hb : Below B a w) (h : Keep ks w w') (hB : B <= w.heap.size) (hk : ∀ k ∈ ks, B <= k) : Below B a w' :=
 hb.trans ⟨h.os, h.tape, h.output, h.size, fun k h1 => h.block k (by omega) (fun hm => by have := hk k hm; omega)⟩
theorem Keep.ofBelow {w w' : World} (h : Below w.heap.size w w') (ks : List Nat) : Keep ks w w' := ⟨h.os, h.tape, h.output, h.size, fun k hk _ => h.block k hk⟩
theorem Keep.cell {ks : List Nat} {w w' : World} (h : Keep ks w w') {p : Addr} (hp : p.block < w.heap.size) (hn : p.block ∉ ks) : w'.cell? p = w.cell? p := World.cell?_of_block (w := w) (h.block p.block hp hn)
theorem Keep.frozen {ks : List Nat} {w w' : World} (h : Keep ks w w') {p : Addr} (hp : p.block < w.heap.size) (hn : p.block ∉ ks) : w'.frozen? p = w.frozen? p := World.frozen?_of_block (w := w) (h.block p.block hp hn)
def Grew (w : World) (ks ks' : List Nat) : Prop := ∀ k ∈ ks', k ∈ ks ∨ w.heap.size <= k
theorem Grew.refl (w : World) (ks : List Nat) : Grew w ks ks := fun _ h => .inl h
theorem Grew.trans {w w1 : World} {a b c : List Nat} (h : Grew w a b) (k : Grew w1 b c) (hs : w.heap.size <= w1.heap.size) : Grew w a c := fun i hi => by
 rcases k i hi with h1 | h1
 ·exact h i h1
 ·right; omega
def Off (ks js : List Nat) : Prop := ∀ k ∈ ks, k ∉ js
theorem Off.symm {ks js : List Nat} (h : Off ks js) : Off js ks := fun k hk hj => h k hj hk
theorem Off.grew {w : World} {ks js js' : List Nat} (h : Off ks js) (hk : ∀ k ∈ ks, k < w.heap.size) (hg : Grew w js js') : Off ks js' := fun k h1 h2 => by
 rcases hg k h2 with h3 | h3
 ·exact h k h1 h3
 ·have := hk k h1; omega
theorem ge_grew {w : World} {B : Nat} {ks js : List Nat} (h : ∀ k ∈ ks, B <= k) (hB : B <= w.heap.size) (hg : Grew w ks js) : ∀ k ∈ js, B <= k := fun k hk => by
 rcases hg k hk with h1 | h1
 ·exact h k h1
 ·omega
def flat {α : Type} (f : α -> List Value) (l : List α) : List Value := l.flatMap f
theorem flat_length {α : Type} {f : α -> List Value} {s : Nat} (hf : ∀ a, (f a).length = s) (l : List α) : (flat f l).length = l.length * s := by
 induction l with
 | nil => simp [flat]
 | cons a l ih => simp only [flat, List.flatMap_cons, List.length_append, List.length_cons] at *; rw [ih, hf, Nat.add_mul]; omega
theorem flat_get {α : Type} {f : α -> List Value} {s : Nat} (hf : ∀ a, (f a).length = s) (l : List α) (i j : Nat) (hj : j < s) : (flat f l)[i * s + j]? = (l[i]?).bind fun a => (f a)[j]? := by
 induction l generalizing i with
 | nil => simp [flat]
 | cons a l ih =>
  have ha := hf a
  cases i with
  | zero =>
   simp only [flat, List.flatMap_cons, Nat.zero_mul, Nat.zero_add, List.getElem?_cons_zero, Option.bind_some]
   rw [List.getElem?_append_left (by omega)]
  | succ i =>
   simp only [flat, List.flatMap_cons, List.getElem?_cons_succ] at *
   rw [List.getElem?_append_right (by rw [ha, Nat.add_mul]; omega), ← ih i]
   congr 1
   rw [ha, Nat.add_mul]; omega
theorem flat_set {α : Type} {f : α -> List Value} {s : Nat} (hf : ∀ a, (f a).length = s) (l : List α) (i j : Nat) (hi : i < l.length) (hj : j < s) (b : α) (u : Value) (hb : f b = (f l[i]).set j u) :
  flat f (l.set i b) = (flat f l).set (i * s + j) u := by
 induction l generalizing i with
 | nil => simp at hi
 | cons a l ih =>
  have ha := hf a
  cases i with
  | zero =>
   simp only [List.getElem_cons_zero] at hb
   simp only [flat, List.set_cons_zero, List.flatMap_cons, Nat.zero_mul, Nat.zero_add]
   rw [List.set_append_left _ _ (by omega), hb]
  | succ i =>
   simp only [List.getElem_cons_succ] at hb
   simp only [flat, List.set_cons_succ, List.flatMap_cons] at *
   rw [List.set_append_right _ _ (by rw [ha, Nat.add_mul]; omega), ih i (by simpa using hi) hb]
   congr 2
   rw [ha, Nat.add_mul]; omega
theorem flat_append {α : Type} (f : α -> List Value) (l m : List α) : flat f (l ++ m) = flat f l ++ flat f m := by simp [flat]
theorem news_new (w : World) (cs : Array Value) (t : TypeId) : ∀ j u, cs.toList[j]? = some u -> (w.alloc (.cells cs t)).cell? ((⟨w.heap.size, 0, none⟩ : Addr).add j) = some u :=
 World.news_of_block (heap_alloc_new w _)
def own (v : Value) : List Nat := v.ownBlock.toList
theorem mem_own {v : Value} {k : Nat} : k ∈ own v ↔ v.ownBlock = some k := by
 unfold own; cases v.ownBlock <;> simp; exact eq_comm
theorem row_lt {w : World} {base : Nat} {e : TypeId} {s n : Nat} {v : Value} {xs : List Value} (h : w.ownsRow base e s v n xs) : ∀ k ∈ own v, k < w.heap.size := fun k hk => (h.lt k (mem_own.1 hk)).2
theorem row_ge {w : World} {base : Nat} {e : TypeId} {s n : Nat} {v : Value} {xs : List Value} (h : w.ownsRow base e s v n xs) : ∀ k ∈ own v, base <= k := fun k hk => (h.lt k (mem_own.1 hk)).1
theorem row_keep {w w' : World} {ks : List Nat} {base : Nat} {e : TypeId} {s n : Nat} {v : Value} {xs : List Value} (h : w.ownsRow base e s v n xs) (hk : Keep ks w w') (ho : Off (own v) ks) : w'.ownsRow base e s v n xs := by
 refine ⟨h.1, ?_⟩
 rcases h.2 with hn | ⟨g, cap, cur, rfl, hb, hg, rest⟩
 ·exact .inl hn
 ·refine .inr ⟨g, cap, cur, rfl, hb, ?_, rest⟩
  rw [hk.block g (Array.getElem?_eq_some_iff.1 hg).1 (ho g (by simp [own, Value.ownBlock]))]
  exact hg
theorem row_form {w : World} {base : Nat} {e : TypeId} {s n : Nat} {v : Value} {xs : List Value} (h : w.ownsRow base e s v n xs) : ∃ x cap, v = .slice x n cap /\ n <= cap /\ cap <= maxLen /\ (0 < n -> ∃ g, x = some ⟨g, 0, none⟩ /\ g < w.heap.size /\ own v = [g] /\ ∀ j, j < n * s -> w.cell? ⟨g, j, none⟩ = xs[j]? /\ w.frozen? ⟨g, j, none⟩ = false) := by
 rcases h.2 with ⟨rfl, rfl⟩ | ⟨g, cap, cur, hv, hb, hg, hn, hm, hc, ht⟩
 ·exact ⟨none, 0, rfl, Nat.le_refl _, Nat.zero_le _, fun h0 => by omega⟩
 ·subst hv
  exact ⟨_, cap, rfl, hn, hm, fun _ => ⟨g, rfl, (Array.getElem?_eq_some_iff.1 hg).1, rfl, fun j hj => ⟨h.cellAt j hj, h.frozenAt j⟩⟩⟩
structure Sep (B : Nat) (W : World) (l : List (List Nat)) : Prop where
 pw : l.Pairwise Off
 bd : ∀ ks ∈ l, ∀ k ∈ ks, B <= k /\ k < W.heap.size
theorem Sep.step {B : Nat} {W W' : World} {a a' : List Nat} {l : List (List Nat)} (h : Sep B W (a :: l)) (hB : B <= W.heap.size) (hk : Keep a W W') (hg : Grew W a a') (hl : ∀ k ∈ a', k < W'.heap.size) : Sep B W' (a' :: l) := by
 obtain ⟨h1, h2⟩ := h
 rw [List.pairwise_cons] at h1
 refine ⟨List.pairwise_cons.2 ⟨fun b hb => ?_, h1.2⟩, fun ks hks k hk' => ?_⟩
 ·exact ((h1.1 b hb).symm.grew (w := W) (fun k hk' => (h2 b (List.mem_cons_of_mem _ hb) k hk').2) hg).symm
 ·rcases List.mem_cons.1 hks with rfl | hks
  ·exact ⟨ge_grew (fun k hk => (h2 a (by simp) k hk).1) hB hg k hk', hl k hk'⟩
  ·have := h2 ks (List.mem_cons_of_mem _ hks) k hk'
   exact ⟨this.1, Nat.lt_of_lt_of_le this.2 hk.size⟩
theorem Sep.perm {B : Nat} {W : World} {l l' : List (List Nat)} (h : Sep B W l) (hp : l.Perm l') : Sep B W l' :=
 ⟨(hp.pairwise_iff (fun h => h.symm)).1 h.pw, fun ks hks => h.bd ks (hp.mem_iff.2 hks)⟩
theorem Sep.up {B : Nat} {W W' : World} {l : List (List Nat)} (h : Sep B W l) (hs : W.heap.size <= W'.heap.size) : Sep B W' l :=
 ⟨h.pw, fun ks hks k hk => ⟨(h.bd ks hks k hk).1, Nat.lt_of_lt_of_le (h.bd ks hks k hk).2 hs⟩⟩
theorem Sep.tail {B : Nat} {W : World} {a : List Nat} {l : List (List Nat)} (h : Sep B W (a :: l)) : Sep B W l := ⟨(List.pairwise_cons.1 h.pw).2, fun ks hks => h.bd ks (List.mem_cons_of_mem _ hks)⟩
theorem Sep.nil (B : Nat) (W : World) : Sep B W [] := ⟨List.Pairwise.nil, by simp⟩
theorem Sep.none {B : Nat} {W : World} {l : List (List Nat)} (h : Sep B W l) : Sep B W ([] :: l) := ⟨List.pairwise_cons.2 ⟨fun _ _ _ hk => by simp at hk, h.pw⟩, fun ks hks k hk => by
 rcases List.mem_cons.1 hks with rfl | hks
 ·simp at hk
 ·exact h.bd ks hks k hk⟩
theorem news_at (w : World) (cs : List Value) (t : TypeId) (H : Nat) (hH : w.heap.size = H) : ∀ j u, cs[j]? = some u -> (w.alloc (.cells cs.toArray t)).cell? ((⟨H, 0, none⟩ : Addr).add j) = some u := by
 subst hH
 exact fun j u h => news_new w cs.toArray t j u (by simpa using h)
theorem app_keep {W W1 W2 : World} {v : Value} {g H : Nat} (hk : Keep [] W W1) (hgrow : W1.grownBy W2 v.ownBlock) (hat : v.ownBlock = some g ∨ g = H) (hH : W.heap.size <= H) (hlt : g < W2.heap.size) :
  Keep (own v) W W2 /\ Grew W (own v) [g] /\ ∀ k ∈ [g], k < W2.heap.size := by
 refine ⟨(hk.mono (js := own v) (by simp)).grown hgrow (fun k hk => .inl (mem_own.2 hk)), fun k hk => ?_, by simpa using hlt⟩
 simp at hk
 subst hk
 rcases hat with h | h
 ·exact .inl (mem_own.2 h)
 ·right; omega
end Go.Arb
namespace Go.Proofs.Ytjnkgakajenoaaa
open Go.RowKit Go.Arb
set_option linter.unusedVariables false
set_option linter.unusedSimpArgs false
theorem FA66_0 : FA Try.prog 66 0 0 := fun b o w => by go_simp
theorem FA66_1 : FA Try.prog 66 1 1 := fun b o w => by go_simp
theorem FA75_0 : FA Try.prog 75 0 0 := fun b o w => by go_simp
theorem FA75_1 : FA Try.prog 75 1 1 := fun b o w => by go_simp
theorem FA75_2 : FA Try.prog 75 2 2 := fun b o w => by go_simp
theorem FA75_3 : FA Try.prog 75 3 3 := fun b o w => by go_simp
theorem FA75_4 : FA Try.prog 75 4 4 := fun b o w => by go_simp
theorem FA75_5 : FA Try.prog 75 5 5 := fun b o w => by go_simp
theorem FA75_6 : FA Try.prog 75 6 6 := fun b o w => by go_simp
theorem FA34_0 : FA Try.prog 34 0 0 := fun b o w => by go_simp
theorem FA34_2 : FA Try.prog 34 2 2 := fun b o w => by go_simp
theorem FA34_3 : FA Try.prog 34 3 3 := fun b o w => by go_simp
theorem hide {p : Prop} (h : p) : Hid p := h
theorem unhide {p : Prop} (h : Hid p) : p := h
structure Ms where
 c : Int
 w : Int
structure Sl where
 up : Nat
 l : Nat
 r : Nat
 tn : Bool
 wt : Int
 wa : Int
 sm : Sm
 hg : Ms
 hu : Ms
def Sl.zero : Sl := ⟨0, 0, 0, false, 0, 0, Go.Proofs.Ytjnkgakajenoaaa.zero, ⟨0, 0⟩, ⟨0, 0⟩⟩
abbrev Ss := Nat -> Sl
def upd (S : Ss) (t : Nat) (x : Sl) : Ss := fun j => if j = t then x else S j
theorem upd_same (S : Ss) (t : Nat) (x : Sl) : upd S t x t = x := by simp [upd]
theorem upd_ne (S : Ss) {t u : Nat} (x : Sl) (h : u ≠ t) : upd S t x u = S u := by simp [upd, h]
def slV (s : Sl) : List Value := [zi (s.up : Int), zi (s.l : Int), zi (s.r : Int), .bool s.tn, zi s.wt, zi s.wa, zi s.sm.c, zi s.sm.s, zi s.sm.a, zi s.sm.b, zi s.hg.c, zi s.hg.w, zi s.hu.c, zi s.hu.w]
theorem slV_len (s : Sl) : (slV s).length = 14 := rfl
def smV (x : Sm) : Value := .agg #[zi x.c, zi x.s, zi x.a, zi x.b]
def sl (F : List Sl) : Ss := fun t => F.getD t Sl.zero
structure PoIn (w : World) (p : Nat) (v : Value) (room : Nat) (F : List Sl) : Prop where
 blk : w.heap[p]? = some (.cells #[zi room, v] 66 (0, 0))
 row : w.ownsRow 0 75 14 v F.length (flat slV F)
 ne : p ∉ own v
theorem blk_lt {w : World} {p : Nat} {o : Obj} (h : w.heap[p]? = some o) : p < w.heap.size := (Array.getElem?_eq_some_iff.1 h).1
theorem off_one {ks : List Nat} {b : Nat} (h : b ∉ ks) : Off ks [b] := fun k hk hm => by simp at hm; subst hm; exact h hk
def Pool (w : World) (p g n cap room : Nat) (S : Ss) : Prop := ∃ F, PoIn w p (.slice (some ⟨g, 0, none⟩) n cap) room F /\ F.length = n /\ S = sl F
section
variable {w w' : World} {p g n cap room : Nat} {S : Ss} {ks : List Nat}
theorem Pool.ne (h : Pool w p g n cap room S) : g ≠ p := by
 obtain ⟨F, h1, _, _⟩ := h
 have := h1.ne
 simpa [own, Value.ownBlock, eq_comm] using this
theorem Pool.lt (h : Pool w p g n cap room S) : p < w.heap.size /\ g < w.heap.size := by
 obtain ⟨F, h1, _, _⟩ := h
 exact ⟨blk_lt h1.blk, row_lt h1.row g (by simp [own, Value.ownBlock])⟩
theorem Pool.keep (h : Pool w p g n cap room S) (hk : Keep ks w w') (hp : p ∉ ks) (hg : g ∉ ks) : Pool w' p g n cap room S := by
 obtain ⟨F, h1, h2, h3⟩ := h
 exact ⟨F, ⟨by rw [hk.block p (blk_lt h1.blk) hp]; exact h1.blk, row_keep h1.row hk (fun k h4 => by simp [own, Value.ownBlock] at h4; subst h4; exact hg), h1.ne⟩, h2, h3⟩
theorem Pool.below (h : Pool w p g n cap room S) (hb : Below w.heap.size w w') : Pool w' p g n cap room S := h.keep (Keep.ofBelow hb []) (by simp) (by simp)
theorem Pool.head (h : Pool w p g n cap room S) : w.cell? ⟨p, 0, none⟩ = some (zi room) /\ w.cell? ⟨p, 1, none⟩ = some (.slice (some ⟨g, 0, none⟩) n cap) /\ w.frozen? ⟨p, 0, none⟩ = false /\ w.frozen? ⟨p, 1, none⟩ = false /\ n <= cap /\ cap <= 9223372036854775807 := by
 obtain ⟨F, h1, h2, h3⟩ := h
 obtain ⟨x, c, hv, q1, q2, _⟩ := row_form h1.row
 simp only [Value.slice.injEq] at hv
 obtain ⟨_, _, rfl⟩ := hv
 unfold maxLen at q2
 refine ⟨?_, ?_, ?_, ?_, by omega, by omega⟩ <;> simp [World.cell?, World.frozen?, h1.blk]
theorem Pool.out (h : Pool w p g n cap room S) {t : Nat} (ht : n <= t) : S t = Sl.zero := by
 obtain ⟨F, h1, rfl, rfl⟩ := h
 simp [sl, List.getD_eq_getElem?_getD, ht]
theorem Pool.cell (h : Pool w p g n cap room S) {t : Nat} (ht : t < n) : ∀ k, k < 14 -> w.cell? ⟨g, t * 14 + k, none⟩ = (slV (S t))[k]? /\ w.frozen? ⟨g, t * 14 + k, none⟩ = false := by
 obtain ⟨F, h1, rfl, rfl⟩ := h
 intro k hk
 obtain ⟨x, c, hv, q1, q2, q3⟩ := row_form h1.row
 obtain ⟨g', e, _, _, hc⟩ := q3 (by omega)
 simp only [Value.slice.injEq] at hv
 obtain ⟨rfl, _, rfl⟩ := hv
 simp only [Option.some.injEq, Addr.mk.injEq, and_true] at e
 subst e
 refine ⟨?_, (hc _ (by omega)).2⟩
 rw [(hc _ (by omega)).1, flat_get slV_len F t k hk, List.getElem?_eq_getElem ht]
 simp [sl, List.getD_eq_getElem?_getD, ht]
theorem Pool.slot (h : Pool w p g n cap room S) {t : Nat} (ht : t < n) :
  w.cell? ⟨g, t * 14, none⟩ = some (zi ((S t).up : Int)) /\ w.cell? ⟨g, t * 14 + 1, none⟩ = some (zi ((S t).l : Int)) /\ w.cell? ⟨g, t * 14 + 2, none⟩ = some (zi ((S t).r : Int)) /\ w.cell? ⟨g, t * 14 + 3, none⟩ = some (.bool (S t).tn) /\ w.cell? ⟨g, t * 14 + 4, none⟩ = some (zi (S t).wt) /\ w.cell? ⟨g, t * 14 + 5, none⟩ = some (zi (S t).wa) /\ w.cell? ⟨g, t * 14 + 6, none⟩ = some (zi (S t).sm.c) /\ w.cell? ⟨g, t * 14 + 7, none⟩ = some (zi (S t).sm.s) /\ w.cell? ⟨g, t * 14 + 8, none⟩ = some (zi (S t).sm.a) /\ w.cell? ⟨g, t * 14 + 9, none⟩ = some (zi (S t).sm.b) /\ w.cell? ⟨g, t * 14 + 10, none⟩ = some (zi (S t).hg.c) /\ w.cell? ⟨g, t * 14 + 11, none⟩ = some (zi (S t).hg.w) /\ w.cell? ⟨g, t * 14 + 12, none⟩ = some (zi (S t).hu.c) /\ w.cell? ⟨g, t * 14 + 13, none⟩ = some (zi (S t).hu.w) := by
 have hc := fun k hk => (h.cell ht k hk).1
 exact ⟨hc 0 (by omega), hc 1 (by omega), hc 2 (by omega), hc 3 (by omega), hc 4 (by omega), hc 5 (by omega), hc 6 (by omega), hc 7 (by omega), hc 8 (by omega), hc 9 (by omega), hc 10 (by omega), hc 11 (by omega), hc 12 (by omega), hc 13 (by omega)⟩
theorem Pool.soft (h : Pool w p g n cap room S) {t : Nat} (ht : t < n) :
  w.frozen? ⟨g, t * 14, none⟩ = false /\ w.frozen? ⟨g, t * 14 + 1, none⟩ = false /\ w.frozen? ⟨g, t * 14 + 2, none⟩ = false /\ w.frozen? ⟨g, t * 14 + 3, none⟩ = false /\ w.frozen? ⟨g, t * 14 + 4, none⟩ = false /\ w.frozen? ⟨g, t * 14 + 5, none⟩ = false /\ w.frozen? ⟨g, t * 14 + 6, none⟩ = false /\ w.frozen? ⟨g, t * 14 + 7, none⟩ = false /\ w.frozen? ⟨g, t * 14 + 8, none⟩ = false /\ w.frozen? ⟨g, t * 14 + 9, none⟩ = false /\ w.frozen? ⟨g, t * 14 + 10, none⟩ = false /\ w.frozen? ⟨g, t * 14 + 11, none⟩ = false /\ w.frozen? ⟨g, t * 14 + 12, none⟩ = false /\ w.frozen? ⟨g, t * 14 + 13, none⟩ = false := by
 have hc := fun k hk => (h.cell ht k hk).2
 exact ⟨hc 0 (by omega), hc 1 (by omega), hc 2 (by omega), hc 3 (by omega), hc 4 (by omega), hc 5 (by omega), hc 6 (by omega), hc 7 (by omega), hc 8 (by omega), hc 9 (by omega), hc 10 (by omega), hc 11 (by omega), hc 12 (by omega), hc 13 (by omega)⟩
theorem Pool.put (h : Pool w p g n cap room S) {t : Nat} (ht : t < n) (k : Nat) (hk : k < 14) (x : Sl) (u : Value) (hx : slV x = (slV (S t)).set k u) : Pool (w.setCell ⟨g, t * 14 + k, none⟩ u) p g n cap room (upd S t x) := by
 have hne := h.ne
 obtain ⟨F, h1, rfl, rfl⟩ := h
 refine ⟨F.set t x, ⟨?_, ?_, h1.ne⟩, by simp, ?_⟩
 ·rw [Below.heap_setCell _ _ _ _ hne.symm]; exact h1.blk
 ·have r1 := (h1.row.stored (t * 14 + k) u).1
  have e1 := flat_set slV_len F t k ht hk x u (by rw [hx]; simp [sl, List.getD_eq_getElem?_getD, ht])
  rw [e1]
  simpa using r1
 ·funext j
  by_cases e : j = t
  ·subst e; simp [upd, sl, List.getD_eq_getElem?_getD, ht]
  ·have e' : ¬ t = j := fun h => e h.symm
   simp [upd, sl, List.getD_eq_getElem?_getD, e, e', List.getElem?_set]
theorem keep_cell (w : World) (b o : Nat) (u : Value) : Keep [b] w (w.setCell ⟨b, o, none⟩ u) := Keep.setCell (ks := [b]) (Keep.refl _ _) (p := ⟨b, o, none⟩) (by simp) _
theorem _root_.Go.Arb.Keep.tr {b : Nat} {a w w' : World} (h : Keep [b] a w) (k : Keep [b] w w') : Keep [b] a w' := h.trans k (fun i hi => .inl hi)
theorem _root_.Go.Arb.Keep.cellB {b : Nat} {a w : World} (h : Keep [b] a w) (o : Nat) (u : Value) : Keep [b] a (w.setCell ⟨b, o, none⟩ u) := h.tr (keep_cell w b o u)
theorem _root_.Go.Arb.Keep.belowB {b : Nat} {a w w' : World} (h : Keep [b] a w) (hb : Below w.heap.size w w') : Keep [b] a w' := h.tr (Keep.ofBelow hb _)
end
end Go.Proofs.Ytjnkgakajenoaaa

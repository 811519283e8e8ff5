/- Trees whose items lie as deep as each other, by their height: what they spell, where they lie, and what is done to them. Nothing of the dump. -/
import Derived.Test.YtbkneonbpcmepaaK
import Derived.Below
namespace Go.Proofs.Ytbkneonbpcmepaa

structure Lf where
  a : Nat
  v : Nat
  w : Int
structure Nd (X : Type) where
  a : Nat
  r : Go.Value
  m : Int
  ps : List X
def Tr : Nat → Type
  | 0 => Lf
  | h + 1 => Nd (Tr h)

def adr : (h : Nat) → Tr h → Nat
  | 0, t => Lf.a t
  | _ + 1, t => Nd.a t
def nilS : Go.Value := .slice none 0 0
def rowOf : (h : Nat) → Tr h → Go.Value
  | 0, _ => nilS
  | _ + 1, t => Nd.r t
def itm : (h : Nat) → Tr h → Int
  | 0, t => (Lf.v t : Int)
  | _ + 1, _ => -1
def wt : (h : Nat) → Tr h → Int
  | 0, _ => 0
  | _ + 1, t => Nd.m t
/-- What a tree spells. -/
def its : (h : Nat) → Tr h → List It
  | 0, t => [((Lf.v t, Lf.a t), Lf.w t)]
  | h + 1, t => rz (Nd.m t) ((Nd.ps t).flatMap (its h))
def sm (h : Nat) (t : Tr h) : Sm := smL (its h t)
/-- No knot but the top has too few parts, none too many. -/
def Wf : (h : Nat) → Nat → Tr h → Prop
  | 0, _, t => FitL (its 0 t)
  | h + 1, least, t => (least ≤ (Nd.ps t).length ∧ (Nd.ps t).length ≤ 8) ∧ FitL (its (h + 1) t) ∧ ∀ s ∈ Nd.ps t, Wf h 4 s

theorem Wf.mono : ∀ {h : Nat} {t : Tr h} {k l : Nat}, Wf h k t → l ≤ k → Wf h l t
  | 0, _, _, _, h, _ => h
  | _ + 1, _, _, _, h, hl => ⟨⟨Nat.le_trans hl h.1.1, h.1.2⟩, h.2⟩
theorem Wf.fit : ∀ {h : Nat} {t : Tr h} {k : Nat}, Wf h k t → FitL (its h t)
  | 0, _, _, h => h
  | _ + 1, _, _, h => h.2.1

/-- All of a tree raised. -/
def rais (d : Int) : (h : Nat) → Tr h → Tr h
  | 0, t => (⟨Lf.a t, Lf.v t, Lf.w t + d⟩ : Lf)
  | h + 1, t => (⟨Nd.a t, Nd.r t, Nd.m t + d, Nd.ps t⟩ : Nd (Tr h))
theorem its_rais (d : Int) : ∀ (h : Nat) (t : Tr h), its h (rais d h t) = rz d (its h t)
  | 0, t => by simp [its, rais, rz]
  | h + 1, t => by simp only [its, rais, rz_rz]
theorem adr_rais (d : Int) : ∀ (h : Nat) (t : Tr h), adr h (rais d h t) = adr h t
  | 0, _ => rfl
  | _ + 1, _ => rfl
theorem rowOf_rais (d : Int) : ∀ (h : Nat) (t : Tr h), rowOf h (rais d h t) = rowOf h t
  | 0, _ => rfl
  | _ + 1, _ => rfl
theorem itm_rais (d : Int) : ∀ (h : Nat) (t : Tr h), itm h (rais d h t) = itm h t
  | 0, _ => rfl
  | _ + 1, _ => rfl
theorem Wf.rais {d : Int} : ∀ {h : Nat} {k : Nat} {t : Tr h}, Wf h k t → FitL (rz d (its h t)) → Wf h k (rais d h t)
  | 0, _, t, _, f => by
    show FitL (its 0 (Go.Proofs.Ytbkneonbpcmepaa.rais d 0 t))
    rw [its_rais]; exact f
  | h + 1, _, t, w, f => ⟨w.1, by rw [its_rais]; exact f, w.2.2⟩
/-- What waits at a knot is handed to its parts. -/
def settl (h : Nat) (t : Tr (h + 1)) : Tr (h + 1) := (⟨Nd.a t, Nd.r t, 0, (Nd.ps t).map (rais (Nd.m t) h)⟩ : Nd (Tr h))
theorem rz_flatMap {X : Type} (d : Int) (f : X → List It) (l : List X) : rz d (l.flatMap f) = l.flatMap fun x => rz d (f x) := by
  induction l with
  | nil => rfl
  | cons x l ih => rw [List.flatMap_cons, rz_append, ih, List.flatMap_cons]
theorem its_settl (h : Nat) (t : Tr (h + 1)) : its (h + 1) (settl h t) = its (h + 1) t := by
  show rz 0 (((Nd.ps t).map (rais (Nd.m t) h)).flatMap (its h)) = rz (Nd.m t) ((Nd.ps t).flatMap (its h))
  rw [rz_zero, List.flatMap_map, rz_flatMap]
  congr 1
  funext s
  exact its_rais _ h s
theorem part_mem {h : Nat} {t : Tr (h + 1)} {s : Tr h} (hs : s ∈ Nd.ps t) : ∀ x ∈ rz (Nd.m t) (its h s), x ∈ its (h + 1) t := by
  intro x hx
  show x ∈ rz (Nd.m t) ((Nd.ps t).flatMap (its h))
  rw [rz_flatMap]
  exact List.mem_flatMap.2 ⟨s, hs, hx⟩
theorem Wf.part {h k : Nat} {t : Tr (h + 1)} {s : Tr h} (w : Wf (h + 1) k t) (hs : s ∈ Nd.ps t) : FitL (rz (Nd.m t) (its h s)) := fun x hx => w.2.1 x (part_mem hs x hx)
theorem Wf.settl {h k : Nat} {t : Tr (h + 1)} (w : Wf (h + 1) k t) : Wf (h + 1) k (settl h t) := by
  refine ⟨?_, by rw [its_settl]; exact w.2.1, fun s hs => ?_⟩
  · show k ≤ ((Nd.ps t).map _).length ∧ ((Nd.ps t).map _).length ≤ 8
    rw [List.length_map]; exact w.1
  · obtain ⟨s', hs', rfl⟩ := List.mem_map.1 hs
    exact (w.2.2 s' hs').rais (w.part hs')

theorem its_ne : ∀ {h k : Nat} {t : Tr h}, 0 < k → Wf h k t → its h t ≠ []
  | 0, _, _, _, _ => by simp [its]
  | h + 1, k, t, hk, w => by
    have hl : 0 < (Nd.ps t).length := by have := w.1.1; omega
    obtain ⟨s, hs⟩ := List.exists_mem_of_length_pos hl
    have h1 := its_ne (by decide : 0 < 4) (w.2.2 s hs)
    intro e
    have e2 : (rz (Nd.m t) ((Nd.ps t).flatMap (its h))) = [] := e
    have e3 : (Nd.ps t).flatMap (its h) = [] := by
      rw [← List.length_eq_zero_iff, rz_length, List.length_eq_zero_iff] at e2
      exact e2
    rw [List.flatMap_eq_nil_iff] at e3
    exact h1 (e3 s hs)
/-- A tree of a height has no fewer items than one could count. -/
theorem its_height : ∀ {h k : Nat} {t : Tr h}, 2 ≤ k → Wf h k t → 2 ^ h ≤ (its h t).length
  | 0, _, _, _, _ => by simp [its]
  | h + 1, k, t, hk, w => by
    have e : (its (h + 1) t).length = ((Nd.ps t).flatMap (its h)).length := rz_length _ _
    rw [e]
    have hl : 2 ≤ (Nd.ps t).length := by have := w.1.1; omega
    have hw := w.2.2
    generalize Nd.ps t = l at hl hw
    obtain ⟨a, b, l, rfl⟩ : ∃ a b l', l = a :: b :: l' := by
      match l, hl with
      | a :: b :: l', _ => exact ⟨a, b, l', rfl⟩
    have h1 := its_height (by decide : 2 ≤ 4) (hw a (by simp))
    have h2 := its_height (by decide : 2 ≤ 4) (hw b (by simp))
    rw [List.flatMap_cons, List.flatMap_cons, List.length_append, List.length_append, Nat.pow_succ]
    omega
end Go.Proofs.Ytbkneonbpcmepaa

/- Where two ways up meet, step by step. No Go in sight. -/
import Derived.Test.YtbcibdofcjehcaaT2
namespace Go.Proofs.Ytbcibdofcjehcaa
set_option linter.unusedVariables false

theorem Tr.Wf.same_true {T : Tr} (h : T.Wf) {x y : Int} (hs : T.sameI x y = true) : ∃ i j : Nat, x = i ∧ y = j ∧ T.par i ≠ -2 ∧ T.par j ≠ -2 ∧ ∃ t a b c, Meet (T.up i) (T.up j) t a b c := by
  simp [Tr.sameI] at hs
  obtain ⟨h1, h2⟩ := hs
  cases hx : T.hasI x with
  | false => exact absurd (Tr.rootI_gone hx) h1
  | true =>
    cases hy : T.hasI y with
    | false => rw [Tr.rootI_gone hy] at h2; exact absurd h2 h1
    | true =>
      obtain ⟨i, rfl, hi⟩ := Tr.hasI_true hx
      obtain ⟨j, rfl, hj⟩ := Tr.hasI_true hy
      rw [Tr.rootI, Tr.rootI, T.upI_nat, T.upI_nat] at h2
      exact ⟨i, j, rfl, rfl, hi, hj, meet_root (h.spec hi) (h.spec hj) h2⟩
theorem Tr.Wf.same_false {T : Tr} (h : T.Wf) {x y : Int} (hs : T.sameI x y = false) : ∀ z ∈ T.upI x, z ∉ T.upI y := by
  cases hx : T.hasI x with
  | false => rw [Tr.upI_gone hx]; simp
  | true =>
    cases hy : T.hasI y with
    | false => rw [Tr.upI_gone hy]; simp
    | true =>
      obtain ⟨i, rfl, hi⟩ := Tr.hasI_true hx
      obtain ⟨j, rfl, hj⟩ := Tr.hasI_true hy
      obtain ⟨r, e, _, _⟩ := h.rootI_in hi
      have hne : T.rootI i ≠ T.rootI j := fun e' => by
        simp [Tr.sameI, ← e', e] at hs
      rw [Tr.rootI, Tr.rootI, T.upI_nat, T.upI_nat] at hne
      rw [T.upI_nat, T.upI_nat]
      exact root_meet (h.spec hi) (h.spec hj) hne
theorem Tr.Wf.same_nat {T : Tr} (h : T.Wf) {i j t : Nat} {a b c : List Nat} (hm : Meet (T.up i) (T.up j) t a b c) : T.sameI i j = true := by
  have hi : T.par i ≠ -2 := Tr.there (x := t) (by rw [hm.el]; simp)
  obtain ⟨r, e, _, _⟩ := h.rootI_in hi
  have e2 : T.rootI i = T.rootI j := by
    rw [Tr.rootI, Tr.rootI, T.upI_nat, T.upI_nat, hm.el, hm.em, lastI_append _ (by simp), lastI_append _ (by simp)]
  simp [Tr.sameI, ← e2, e]

/-- Two that go up to where they meet. -/
structure Lv (par : Nat → Int) (x y t : Nat) (a b c : List Nat) : Prop where
  ua : Up par x (a ++ t :: c)
  ub : Up par y (b ++ t :: c)
  dis : ∀ z ∈ a, z ∉ b

theorem up_down {par : Nat → Int} {x z t : Nat} {a c : List Nat} (h : Up par x (z :: a ++ t :: c)) : ∃ q : Nat, par x = (q : Int) ∧ Up par q (a ++ t :: c) ∧ z = x := by
  obtain ⟨l, e⟩ := h.head
  simp at e
  obtain ⟨rfl, _⟩ := e
  rcases h.next with ⟨_, e⟩ | ⟨q, e, hq⟩
  · simp at e
  · exact ⟨q, e, hq, rfl⟩
section
variable {par : Nat → Int} {x y z t : Nat} {a b c : List Nat}
theorem Lv.stepA (h : Lv par x y t (z :: a) b c) : ∃ q : Nat, par x = (q : Int) ∧ Lv par q y t a b c := by
  obtain ⟨q, e, hq, _⟩ := up_down h.ua
  exact ⟨q, e, hq, h.ub, fun u hu => h.dis u (by simp [hu])⟩
theorem Lv.stepB (h : Lv par x y t a (z :: b) c) : ∃ q : Nat, par y = (q : Int) ∧ Lv par x q t a b c := by
  obtain ⟨q, e, hq, _⟩ := up_down h.ub
  exact ⟨q, e, h.ua, hq, fun u hu hb => h.dis u hu (by simp [hb])⟩
theorem Lv.done (h : Lv par x x t a b c) : a = [] ∧ x = t := by
  have e := h.ua.det h.ub
  have e' := List.append_cancel_right e
  subst e'
  cases a with
  | nil =>
    obtain ⟨l, e⟩ := h.ua.head
    simp at e
    exact ⟨rfl, e.1.symm⟩
  | cons z a => exact absurd (by simp) (h.dis z (by simp))
theorem Lv.more (h : Lv par x y t a b c) (hne : x ≠ y) (hl : a.length = b.length) : ∃ z a' z' b', a = z :: a' ∧ b = z' :: b' := by
  cases a with
  | nil =>
    simp at hl
    obtain rfl := List.length_eq_zero_iff.1 hl.symm
    obtain ⟨l, e⟩ := h.ua.head
    obtain ⟨l', e'⟩ := h.ub.head
    simp at e e'
    exact absurd (e.1.symm.trans e'.1) hne
  | cons z a =>
    cases b with
    | nil => simp at hl
    | cons z' b => exact ⟨z, a, z', b, rfl, rfl⟩
end
theorem Meet.lv {T : Tr} (h : T.Wf) {i j t : Nat} {a b c : List Nat} (hi : T.par i ≠ -2) (hj : T.par j ≠ -2) (hm : Meet (T.up i) (T.up j) t a b c) : Lv T.par i j t a b c := by
  have h1 := h.spec hi
  have h2 := h.spec hj
  refine ⟨hm.el ▸ h1, hm.em ▸ h2, fun z hz hb => hm.ha z hz (by rw [hm.em]; simp [hb])⟩
end Go.Proofs.Ytbcibdofcjehcaa

/- Forests as plain mathematics: ways up, and what follows. No Go in sight. -/
import Derived.Test.YtbcibdofcjehcaaM
namespace Go.Proofs.Ytbcibdofcjehcaa

/-- The way up from a node: -1: a root; -2: not there. -/
def Up (par : Nat → Int) : Nat → List Nat → Prop
  | _, [] => False
  | v, [x] => v = x ∧ par v = -1
  | v, x :: y :: l => v = x ∧ par v = (y : Int) ∧ Up par y (y :: l)
theorem Up.root {par : Nat → Int} {v : Nat} (h : par v = -1) : Up par v [v] := ⟨rfl, h⟩
theorem Up.fst {par : Nat → Int} {v : Nat} : ∀ {l : List Nat}, Up par v l → ∃ t, l = v :: t
  | [], h => h.elim
  | [x], h => ⟨[], by rw [h.1]⟩
  | x :: y :: l, h => ⟨y :: l, by rw [h.1]⟩
theorem Up.step {par : Nat → Int} {v p : Nat} {l : List Nat} (h : par v = (p : Int)) (hu : Up par p l) : Up par v (v :: l) := by
  obtain ⟨t, rfl⟩ := hu.fst
  exact ⟨rfl, h, hu⟩
theorem Up.ind {par : Nat → Int} {motive : (v : Nat) → (l : List Nat) → Up par v l → Prop} (root : ∀ {v : Nat} (h : par v = -1), motive v [v] (Up.root h))
    (step : ∀ {v p : Nat} {l : List Nat} (h : par v = (p : Int)) (hu : Up par p l), motive p l hu → motive v (v :: l) (Up.step h hu)) : ∀ {v : Nat} {l : List Nat} (h : Up par v l), motive v l h
  | _, [], h => h.elim
  | v, [x], h => by obtain ⟨rfl, h2⟩ := h; exact root h2
  | v, x :: y :: l, h => by obtain ⟨rfl, h2, h3⟩ := h; exact step h2 h3 (Up.ind root step h3)
theorem Up.cs {par : Nat → Int} {motive : (v : Nat) → (l : List Nat) → Up par v l → Prop} {v : Nat} {l : List Nat} (h : Up par v l) (root : ∀ {v : Nat} (h : par v = -1), motive v [v] (Up.root h))
    (step : ∀ {v p : Nat} {l : List Nat} (h : par v = (p : Int)) (hu : Up par p l), motive v (v :: l) (Up.step h hu)) : motive v l h :=
  Up.ind (motive := motive) root (fun h hu _ => step h hu) h

section
variable {par : Nat → Int} {v x : Nat} {l m a b : List Nat}
theorem Up.there (h : Up par v l) : par v ≠ -2 := by cases h using Up.cs <;> omega
theorem Up.head (h : Up par v l) : ∃ t, l = v :: t := h.fst
theorem Up.det (h : Up par v l) : ∀ {m}, Up par v m → l = m := by
  induction h using Up.ind with
  | root h => intro m k; cases k using Up.cs with
    | root => rfl
    | step h' _ => omega
  | step h hu ih => intro m k; cases k using Up.cs with
    | root h' => omega
    | step h' hu' => have e := h.symm.trans h'; have e' := Int.ofNat_inj.1 e; subst e'; rw [ih hu']
theorem Up.mem (h : Up par v l) : ∀ x ∈ l, par x ≠ -2 := by
  induction h using Up.ind with
  | root h => intro x hx; simp at hx; subst hx; omega
  | step h hu ih => intro x hx; rcases List.mem_cons.1 hx with rfl | hx; omega; exact ih x hx
theorem Up.suffix (h : Up par v l) : ∀ {a x b}, l = a ++ x :: b → Up par x (x :: b) := by
  induction h using Up.ind with
  | root h =>
    intro a x b e
    cases a with
    | nil => simp at e; obtain ⟨rfl, rfl⟩ := e; exact .root h
    | cons y a => simp at e
  | step h hu ih =>
    intro a x b e
    cases a with
    | nil => simp at e; obtain ⟨rfl, rfl⟩ := e; exact .step h hu
    | cons y a => simp at e; exact ih e.2
theorem Up.nodup (h : Up par v l) : l.Nodup := by
  induction h using Up.ind with
  | root => simp
  | @step v p l h hu ih =>
    refine List.nodup_cons.2 ⟨fun hm => ?_, ih⟩
    obtain ⟨a, b, rfl⟩ := List.append_of_mem hm
    have h1 := (Up.step h hu).det (hu.suffix rfl)
    have h2 := congrArg List.length h1
    simp at h2
    omega
/-- What stands behind the first one. -/
theorem Up.next (h : Up par v (v :: l)) : (par v = -1 ∧ l = []) ∨ ∃ p : Nat, par v = (p : Int) ∧ Up par p l := by
  cases l with
  | nil => exact .inl ⟨h.2, rfl⟩
  | cons y l => exact .inr ⟨y, h.2.1, h.2.2⟩

def lastI : List Nat → Int
  | [] => -1
  | [v] => v
  | _ :: y :: l => lastI (y :: l)
theorem lastI_cons (v : Nat) {l : List Nat} (h : l ≠ []) : lastI (v :: l) = lastI l := by
  cases l with
  | nil => exact absurd rfl h
  | cons y l => rfl
theorem lastI_append (l : List Nat) {m : List Nat} (h : m ≠ []) : lastI (l ++ m) = lastI m := by
  induction l with
  | nil => rfl
  | cons v l ih => rw [List.cons_append, lastI_cons _ (by simp [h]), ih]
theorem lastI_snoc (l : List Nat) (v : Nat) : lastI (l ++ [v]) = v := lastI_append l (by simp)
theorem lastI_mem {l : List Nat} (h : l ≠ []) : ∃ r ∈ l, lastI l = (r : Int) := by
  induction l with
  | nil => exact absurd rfl h
  | cons v l ih =>
    by_cases hl : l = []
    · subst hl; exact ⟨v, by simp, rfl⟩
    · obtain ⟨r, hr, e⟩ := ih hl; exact ⟨r, by simp [hr], by rw [lastI_cons v hl]; exact e⟩
theorem Up.ne (h : Up par v l) : l ≠ [] := by obtain ⟨t, rfl⟩ := h.fst; simp
/-- The root. -/
theorem Up.last (h : Up par v l) : ∃ (r : Nat) (a : List Nat), l = a ++ [r] ∧ lastI l = (r : Int) ∧ par r = -1 := by
  induction h using Up.ind with
  | @root v h => exact ⟨v, [], rfl, rfl, h⟩
  | @step v p l h hu ih =>
    obtain ⟨r, a, e1, e2, e3⟩ := ih
    exact ⟨r, v :: a, by rw [e1]; rfl, by rw [lastI_cons v hu.ne]; exact e2, e3⟩
/-- A root on a way up is its last. -/
theorem Up.root_last (h : Up par v l) (hx : x ∈ l) (hr : par x = -1) : lastI l = (x : Int) := by
  obtain ⟨a, b, rfl⟩ := List.append_of_mem hx
  have h1 := h.suffix rfl
  rcases h1.next with ⟨_, rfl⟩ | ⟨p, e, _⟩
  · exact lastI_snoc a x
  · omega

theorem nodup_len : ∀ (n : Nat) (l : List Nat), l.Nodup → (∀ x ∈ l, x < n) → l.length ≤ n
  | 0, l, _, h => by
    cases l with
    | nil => simp
    | cons y l => exact absurd (h y (by simp)) (by omega)
  | n + 1, l, hd, h => by
    by_cases hm : n ∈ l
    · have h1 := nodup_len n (l.erase n) (hd.erase n) (fun x hx => by
        have h2 := (hd.mem_erase_iff).1 hx
        have h3 := h x h2.2
        have := h2.1
        omega)
      rw [List.length_erase_of_mem hm] at h1
      omega
    · have := nodup_len n l hd (fun x hx => by
        have h3 := h x hx
        have : x ≠ n := fun e => hm (e ▸ hx)
        omega)
      omega

def chainF (par : Nat → Int) : Nat → Nat → List Nat
  | 0, _ => []
  | k + 1, v => if par v = -2 then [] else if par v < 0 then [v] else v :: chainF par k (par v).toNat
theorem Up.chainF (h : Up par v l) : ∀ k, l.length ≤ k → chainF par k v = l := by
  induction h using Up.ind with
  | root h => intro k hk; cases k with
    | zero => simp at hk
    | succ k => simp [Go.Proofs.Ytbcibdofcjehcaa.chainF, h]
  | step h hu ih => intro k hk; cases k with
    | zero => simp at hk
    | succ k =>
      simp only [Go.Proofs.Ytbcibdofcjehcaa.chainF, h]
      rw [if_neg (by omega), if_neg (by omega), Int.toNat_natCast, ih k (by simpa using hk)]
theorem chainF_gone (h : par v = -2) (k : Nat) : chainF par k v = [] := by cases k <;> simp [chainF, h]
end

structure Tr where
  n : Nat
  par : Nat → Int
  wt : Nat → Int

/-- Each node that is there has a way up. -/
structure Tr.Wf (T : Tr) : Prop where
  lt : ∀ v, T.par v ≠ -2 → v < T.n
  up : ∀ v, T.par v ≠ -2 → ∃ l, Up T.par v l
/-- Weights are some. -/
structure Tr.Fit (T : Tr) : Prop where
  n : T.n ≤ 1048576
  wt : ∀ v, -1099511627776 ≤ T.wt v ∧ T.wt v ≤ 1099511627776
  zero : ∀ v, T.par v = -2 → T.wt v = 0

def Tr.up (T : Tr) (v : Nat) : List Nat := chainF T.par T.n v

section
variable {T : Tr} {v x c p : Nat} {l m : List Nat}
theorem Tr.Wf.len (h : T.Wf) (hu : Up T.par v l) : l.length ≤ T.n := nodup_len T.n l hu.nodup (fun x hx => h.lt x (hu.mem x hx))
theorem Tr.Wf.eq (h : T.Wf) (hu : Up T.par v l) : T.up v = l := hu.chainF _ (h.len hu)
theorem Tr.Wf.spec (h : T.Wf) (hv : T.par v ≠ -2) : Up T.par v (T.up v) := by
  obtain ⟨l, hl⟩ := h.up v hv
  rw [h.eq hl]; exact hl
theorem Tr.up_gone (T : Tr) (h : T.par v = -2) : T.up v = [] := chainF_gone h _
theorem Tr.Wf.nil (h : T.Wf) : T.up v = [] ↔ T.par v = -2 := ⟨fun e => Classical.byContradiction fun hn => (h.spec hn).ne e, T.up_gone⟩
theorem Tr.there (hx : x ∈ T.up v) : T.par v ≠ -2 := fun e => by rw [T.up_gone e] at hx; simp at hx
theorem Tr.Wf.there' (h : T.Wf) (hx : x ∈ T.up v) : T.par x ≠ -2 := (h.spec (Tr.there hx)).mem x hx
theorem Tr.Wf.self (h : T.Wf) (hv : T.par v ≠ -2) : v ∈ T.up v := by obtain ⟨t, e⟩ := (h.spec hv).head; rw [e]; simp
/-- One on the way up goes on as the way does. -/
theorem Tr.Wf.tail (h : T.Wf) {a b : List Nat} (e : T.up v = a ++ x :: b) : T.up x = x :: b :=
  h.eq ((h.spec (Tr.there (x := x) (by rw [e]; simp))).suffix e)
theorem Tr.Wf.trans (h : T.Wf) (h1 : x ∈ T.up v) (h2 : c ∈ T.up x) : c ∈ T.up v := by
  obtain ⟨a, b, e⟩ := List.append_of_mem h1
  rw [h.tail e] at h2
  rw [e]; simp only [List.mem_append]; exact .inr h2
theorem Tr.Wf.up_root (h : T.Wf) (hv : T.par v = -1) : T.up v = [v] := h.eq (.root hv)
theorem Tr.Wf.up_step (h : T.Wf) (hv : T.par v = (p : Int)) : T.up v = v :: T.up p := by
  have h1 := h.spec (v := v) (by omega)
  obtain ⟨t, e⟩ := h1.head
  rw [e] at h1 ⊢
  rcases h1.next with ⟨h2, _⟩ | ⟨q, h2, h3⟩
  · omega
  · obtain rfl : q = p := by omega
    rw [h.eq h3]
/-- The parent of one that is there is there. -/
theorem Tr.Wf.par_there (h : T.Wf) (hv : T.par v = (p : Int)) : T.par p ≠ -2 := by
  have h1 := h.spec (v := v) (by omega)
  rw [h.up_step hv] at h1
  exact h1.mem p (by
    have h2 : T.up p ≠ [] := fun e => by
      rw [e] at h1
      rcases h1.next with ⟨h3, _⟩ | ⟨q, _, h3⟩
      · omega
      · exact h3.ne rfl
    rcases h1.next with ⟨h3, _⟩ | ⟨q, h3, h4⟩
    · omega
    · obtain rfl : q = p := by omega
      obtain ⟨t, e⟩ := h4.head
      rw [e]; simp)
theorem Tr.Wf.par_cases (h : T.Wf) (hv : T.par v ≠ -2) : T.par v = -1 ∨ ∃ p : Nat, T.par v = (p : Int) ∧ T.par p ≠ -2 := by
  have h1 := h.spec hv
  obtain ⟨t, e⟩ := h1.head
  rw [e] at h1
  rcases h1.next with ⟨h3, _⟩ | ⟨q, h3, h4⟩
  · exact .inl h3
  · exact .inr ⟨q, h3, h4.there⟩
end

/-- What the calls answer, of any numbers. -/
def Tr.hasI (T : Tr) (v : Int) : Bool := decide (0 ≤ v) && (T.par v.toNat != -2)
def Tr.upI (T : Tr) (v : Int) : List Nat := if 0 ≤ v then T.up v.toNat else []
def Tr.rootI (T : Tr) (v : Int) : Int := lastI (T.upI v)
def Tr.parI (T : Tr) (v : Int) : Int := if T.hasI v then T.par v.toNat else -1
def Tr.sameI (T : Tr) (a b : Int) : Bool := (T.rootI a != -1) && (T.rootI a == T.rootI b)
def meetL (l m : List Nat) : Option Nat := l.find? (fun x => decide (x ∈ m))
def lcaL (l m : List Nat) : Int := match meetL l m with | some x => x | none => -1
def wayL (l m : List Nat) : List Nat := match meetL l m with | some t => t :: (l.takeWhile (· != t) ++ m.takeWhile (· != t)) | none => []
def Tr.lcaI (T : Tr) (a b : Int) : Int := lcaL (T.upI a) (T.upI b)
def Tr.wayI (T : Tr) (a b : Int) : List Nat := wayL (T.upI a) (T.upI b)
def Tr.pathI (T : Tr) (a b : Int) : Sm := ofL ((T.wayI a b).map T.wt)
def Tr.getI (T : Tr) (v : Int) : Int := if T.hasI v then T.wt v.toNat else 0
def Tr.sub (T : Tr) (v : Nat) : List Nat := (List.range T.n).filter (fun u => decide (v ∈ T.up u))
def Tr.subI (T : Tr) (v : Int) : Sm := if T.hasI v then ofL ((T.sub v.toNat).map T.wt) else zero
def Tr.sizeI (T : Tr) (v : Int) : Int := (T.subI (T.rootI v)).c

def updF {α : Type} (f : Nat → α) (v : Nat) (x : α) : Nat → α := fun u => if u = v then x else f u
/-- The parents, a way up turned round. -/
def turn (par : Nat → Int) (b : Int) : List Nat → (Nat → Int)
  | [] => par
  | v :: l => turn (updF par v b) v l

def Tr.add (T : Tr) (v : Nat) (w : Int) : Tr := { T with par := updF T.par v (-1), wt := updF T.wt v w }
def Tr.drop (T : Tr) (v : Nat) : Tr := { T with par := updF T.par v (-2), wt := updF T.wt v 0 }
def Tr.link (T : Tr) (c p : Nat) : Tr := { T with par := updF T.par c p }
def Tr.cut (T : Tr) (c : Nat) : Tr := { T with par := updF T.par c (-1) }
def Tr.evert (T : Tr) (v : Nat) : Tr := { T with par := turn T.par (-1) (T.up v) }
def Tr.set (T : Tr) (v : Nat) (w : Int) : Tr := { T with wt := updF T.wt v w }
def raiseF (wt : Nat → Int) (l : List Nat) (by' : Int) : Nat → Int := fun u => if u ∈ l then wt u + by' else wt u
def Tr.raise (T : Tr) (l : List Nat) (by' : Int) : Tr := { T with wt := raiseF T.wt l by' }

section
variable {T : Tr} {v x c p : Nat} {l m a0 b0 cc : List Nat}
theorem Tr.hasI_nat (T : Tr) (v : Nat) : T.hasI v = (T.par v != -2) := by simp [Tr.hasI]
theorem Tr.upI_nat (T : Tr) (v : Nat) : T.upI v = T.up v := by simp [Tr.upI]
theorem Tr.hasI_true {v : Int} (h : T.hasI v = true) : ∃ i : Nat, v = i ∧ T.par i ≠ -2 := by
  simp [Tr.hasI] at h
  exact ⟨v.toNat, by omega, h.2⟩
theorem Tr.upI_gone {v : Int} (h : T.hasI v = false) : T.upI v = [] := by
  unfold Tr.upI
  split
  · rename_i h0
    simp [Tr.hasI, h0] at h
    exact T.up_gone h
  · rfl
theorem Tr.Wf.upI_nil (h : T.Wf) {v : Int} : T.upI v = [] ↔ T.hasI v = false := by
  constructor
  · intro e
    cases hh : T.hasI v with
    | false => rfl
    | true =>
      obtain ⟨i, rfl, hi⟩ := Tr.hasI_true hh
      rw [T.upI_nat] at e
      exact absurd e (h.spec hi).ne
  · exact Tr.upI_gone
theorem Tr.rootI_gone {v : Int} (h : T.hasI v = false) : T.rootI v = -1 := by rw [Tr.rootI, Tr.upI_gone h]; rfl
theorem Tr.Wf.rootI_in (h : T.Wf) (hv : T.par v ≠ -2) : ∃ r : Nat, T.rootI v = r ∧ T.par r = -1 ∧ r ∈ T.up v := by
  obtain ⟨r, a, e1, e2, e3⟩ := (h.spec hv).last
  exact ⟨r, by rw [Tr.rootI, T.upI_nat]; exact e2, e3, by rw [e1]; simp⟩

/-- Two ways up that meet: t is the first of the one that is on the other. -/
structure Meet (l m : List Nat) (t : Nat) (a b c : List Nat) : Prop where
  el : l = a ++ t :: c
  em : m = b ++ t :: c
  ha : ∀ y ∈ a, y ∉ m
  hb : ∀ y ∈ b, y ∉ l

theorem takeWhile_split (a : List Nat) (t : Nat) (c : List Nat) (h : t ∉ a) : (a ++ t :: c).takeWhile (· != t) = a := by
  induction a with
  | nil => simp
  | cons y a ih =>
    simp only [List.mem_cons, not_or] at h
    rw [List.cons_append, List.takeWhile_cons, if_pos (by simpa [bne_iff_ne] using fun e => h.1 e.symm), ih h.2]
theorem Meet.na {t : Nat} (h : Meet l m t a0 b0 cc) : t ∉ a0 := fun hm => h.ha t hm (by rw [h.em]; simp)
theorem Meet.nb {t : Nat} (h : Meet l m t a0 b0 cc) : t ∉ b0 := fun hm => h.hb t hm (by rw [h.el]; simp)
theorem Meet.meetL {t : Nat} (h : Meet l m t a0 b0 cc) : meetL l m = some t := by
  unfold Go.Proofs.Ytbcibdofcjehcaa.meetL
  rw [List.find?_eq_some_iff_append]
  refine ⟨by simp [h.em], a0, cc, h.el, fun y hy => by simpa using h.ha y hy⟩
theorem Meet.lca {t : Nat} (h : Meet l m t a0 b0 cc) : lcaL l m = t := by simp [lcaL, h.meetL]
theorem Meet.way {t : Nat} (h : Meet l m t a0 b0 cc) : wayL l m = t :: (a0 ++ b0) := by
  simp only [wayL, h.meetL]
  rw [show l.takeWhile (· != t) = a0 from by rw [h.el]; exact takeWhile_split _ _ _ h.na, show m.takeWhile (· != t) = b0 from by rw [h.em]; exact takeWhile_split _ _ _ h.nb]
theorem Meet.symm {t : Nat} (h : Meet l m t a0 b0 cc) : Meet m l t b0 a0 cc := ⟨h.em, h.el, h.hb, h.ha⟩
/-- Ways up that share one meet. -/
theorem meet_of {par : Nat → Int} {u v : Nat} (hl : Up par u l) (hm : Up par v m) {x : Nat} (h1 : x ∈ l) (h2 : x ∈ m) : ∃ t a b c, Meet l m t a b c := by
  cases hf : meetL l m with
  | none =>
    unfold meetL at hf
    rw [List.find?_eq_none] at hf
    exact absurd h2 (by simpa using hf x h1)
  | some t =>
    unfold meetL at hf
    rw [List.find?_eq_some_iff_append] at hf
    obtain ⟨ht, a, c, e, ha⟩ := hf
    have ht' : t ∈ m := by simpa using ht
    obtain ⟨b, c', e'⟩ := List.append_of_mem ht'
    have k := (hl.suffix e).det (hm.suffix e')
    simp at k
    subst k
    have ha' : ∀ y ∈ a, y ∉ m := fun y hy => by simpa using ha y hy
    refine ⟨t, a, b, c, e, e', ha', fun y hy hyl => ?_⟩
    rw [e, List.mem_append] at hyl
    rcases hyl with hyl | hyl
    · exact ha' y hyl (by rw [e']; simp [hy])
    · have nd := hm.nodup
      rw [e', List.nodup_append] at nd
      exact nd.2.2 y hy y hyl rfl
theorem meet_none (h : ∀ x ∈ l, x ∉ m) : meetL l m = none := by
  unfold meetL
  rw [List.find?_eq_none]
  intro x hx
  simpa using h x hx
theorem lca_none (h : ∀ x ∈ l, x ∉ m) : lcaL l m = -1 := by simp [lcaL, meet_none h]
theorem way_none (h : ∀ x ∈ l, x ∉ m) : wayL l m = [] := by simp [wayL, meet_none h]
/-- Of one root: they meet; of two: they don't. -/
theorem meet_root {par : Nat → Int} {u v : Nat} (hl : Up par u l) (hm : Up par v m) (h : lastI l = lastI m) : ∃ t a b c, Meet l m t a b c := by
  obtain ⟨r, a, e1, e2, e3⟩ := hl.last
  obtain ⟨r', a', e1', e2', e3'⟩ := hm.last
  have : r = r' := by omega
  subst this
  exact meet_of hl hm (x := r) (by rw [e1]; simp) (by rw [e1']; simp)
theorem root_meet {par : Nat → Int} {u v : Nat} (hl : Up par u l) (hm : Up par v m) (h : lastI l ≠ lastI m) : ∀ x ∈ l, x ∉ m := fun x h1 h2 => by
  obtain ⟨t, a, b, c, k⟩ := meet_of hl hm h1 h2
  rw [k.el, k.em, lastI_append _ (by simp), lastI_append _ (by simp)] at h
  exact h rfl
end
end Go.Proofs.Ytbcibdofcjehcaa

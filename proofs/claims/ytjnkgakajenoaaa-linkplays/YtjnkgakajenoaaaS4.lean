/- Part 4 of the texts. -/
import Derived.Test.YtjnkgakajenoaaaS1
import Derived.Test.YtjnkgakajenoaaaS2
namespace Go.Proofs.Ytjnkgakajenoaaa
def Up (par : Nat -> Int) : Nat -> List Nat -> Prop
 | _, [] => False
 | v, [x] => v = x /\ par v = -1
 | v, x :: y :: l => v = x /\ par v = (y : Int) /\ Up par y (y :: l)
theorem Up.root {par : Nat -> Int} {v : Nat} (h : par v = -1) : Up par v [v] := ⟨rfl, h⟩
theorem Up.fst {par : Nat -> Int} {v : Nat} : ∀ {l : List Nat}, Up par v l -> ∃ t, l = v :: t
 | [], h => h.elim
 | [x], h => ⟨[], by rw [h.1]⟩
 | x :: y :: l, h => ⟨y :: l, by rw [h.1]⟩
theorem Up.step {par : Nat -> Int} {v p : Nat} {l : List Nat} (h : par v = (p : Int)) (hu : Up par p l) : Up par v (v :: l) := by
 obtain ⟨t, rfl⟩ := hu.fst
 exact ⟨rfl, h, hu⟩
theorem Up.ind {par : Nat -> Int} {motive : (v : Nat) -> (l : List Nat) -> Up par v l -> Prop} (root : ∀ {v : Nat} (h : par v = -1), motive v [v] (Up.root h))
  (step : ∀ {v p : Nat} {l : List Nat} (h : par v = (p : Int)) (hu : Up par p l), motive p l hu -> motive v (v :: l) (Up.step h hu)) : ∀ {v : Nat} {l : List Nat} (h : Up par v l), motive v l h
 | _, [], h => h.elim
 | v, [x], h => by obtain ⟨rfl, h2⟩ := h; exact root h2
 | v, x :: y :: l, h => by obtain ⟨rfl, h2, h3⟩ := h; exact step h2 h3 (Up.ind root step h3)
theorem Up.cs {par : Nat -> Int} {motive : (v : Nat) -> (l : List Nat) -> Up par v l -> Prop} {v : Nat} {l : List Nat} (h : Up par v l) (root : ∀ {v : Nat} (h : par v = -1), motive v [v] (Up.root h))
  (step : ∀ {v p : Nat} {l : List Nat} (h : par v = (p : Int)) (hu : Up par p l), motive v (v :: l) (Up.step h hu)) : motive v l h :=
 Up.ind (motive := motive) root (fun h hu _ => step h hu) h
section
variable {par : Nat -> Int} {v x : Nat} {l m a b : List Nat}
theorem Up.there (h : Up par v l) : par v ≠ -2 := by cases h using Up.cs <;> omega
theorem Up.head (h : Up par v l) : ∃ t, l = v :: t := h.fst
theorem Up.det (h : Up par v l) : ∀ {m}, Up par v m -> l = m := by
 induction h using Up.ind with
 | root h => intro m k; cases k using Up.cs with
  | root => rfl
  | step h' _ => omega
 | step h hu ih => intro m k; cases k using Up.cs with
  | root h' => omega
  | step h' hu' => have e := h.symm.trans h'; have e' := Int.ofNat_inj.1 e; subst e'; rw [ih hu']
theorem Up.mem (h : Up par v l) : ∀ x ∈ l, par x ≠ -2 := by
 induction h using Up.ind with
 | root h => intro x hx; simp at hx; subst hx; omega
 | step h hu ih => intro x hx; rcases List.mem_cons.1 hx with rfl | hx; omega; exact ih x hx
theorem Up.suffix (h : Up par v l) : ∀ {a x b}, l = a ++ x :: b -> Up par x (x :: b) := by
 induction h using Up.ind with
 | root h =>
  intro a x b e
  cases a with
  | nil => simp at e; obtain ⟨rfl, rfl⟩ := e; exact .root h
  | cons y a => simp at e
 | step h hu ih =>
  intro a x b e
  cases a with
  | nil => simp at e; obtain ⟨rfl, rfl⟩ := e; exact .step h hu
  | cons y a => simp at e; exact ih e.2
theorem Up.nodup (h : Up par v l) : l.Nodup := by
 induction h using Up.ind with
 | root => simp
 | @step v p l h hu ih =>
  refine List.nodup_cons.2 ⟨fun hm => ?_, ih⟩
  obtain ⟨a, b, rfl⟩ := List.append_of_mem hm
  have h1 := (Up.step h hu).det (hu.suffix rfl)
  have h2 := congrArg List.length h1
  simp at h2
  omega
theorem Up.next (h : Up par v (v :: l)) : (par v = -1 /\ l = []) ∨ ∃ p : Nat, par v = (p : Int) /\ Up par p l := by
 cases l with
 | nil => exact .inl ⟨h.2, rfl⟩
 | cons y l => exact .inr ⟨y, h.2.1, h.2.2⟩
def lastI : List Nat -> Int
 | [] => -1
 | [v] => v
 | _ :: y :: l => lastI (y :: l)
theorem lastI_cons (v : Nat) {l : List Nat} (h : l ≠ []) : lastI (v :: l) = lastI l := by
 cases l with
 | nil => exact absurd rfl h
 | cons y l => rfl
theorem lastI_append (l : List Nat) {m : List Nat} (h : m ≠ []) : lastI (l ++ m) = lastI m := by
 induction l with
 | nil => rfl
 | cons v l ih => rw [List.cons_append, lastI_cons _ (by simp [h]), ih]
theorem lastI_snoc (l : List Nat) (v : Nat) : lastI (l ++ [v]) = v := lastI_append l (by simp)
theorem lastI_mem {l : List Nat} (h : l ≠ []) : ∃ r ∈ l, lastI l = (r : Int) := by
 induction l with
 | nil => exact absurd rfl h
 | cons v l ih =>
  by_cases hl : l = []
  ·subst hl; exact ⟨v, by simp, rfl⟩
  ·obtain ⟨r, hr, e⟩ := ih hl; exact ⟨r, by simp [hr], by rw [lastI_cons v hl]; exact e⟩
theorem Up.ne (h : Up par v l) : l ≠ [] := by obtain ⟨t, rfl⟩ := h.fst; simp
theorem Up.last (h : Up par v l) : ∃ (r : Nat) (a : List Nat), l = a ++ [r] /\ lastI l = (r : Int) /\ par r = -1 := by
 induction h using Up.ind with
 | @root v h => exact ⟨v, [], rfl, rfl, h⟩
 | @step v p l h hu ih =>
  obtain ⟨r, a, e1, e2, e3⟩ := ih
  exact ⟨r, v :: a, by rw [e1]; rfl, by rw [lastI_cons v hu.ne]; exact e2, e3⟩
theorem Up.root_last (h : Up par v l) (hx : x ∈ l) (hr : par x = -1) : lastI l = (x : Int) := by
 obtain ⟨a, b, rfl⟩ := List.append_of_mem hx
 have h1 := h.suffix rfl
 rcases h1.next with ⟨_, rfl⟩ | ⟨p, e, _⟩
 ·exact lastI_snoc a x
 ·omega
theorem nodup_len : ∀ (n : Nat) (l : List Nat), l.Nodup -> (∀ x ∈ l, x < n) -> l.length <= n
 | 0, l, _, h => by
  cases l with
  | nil => simp
  | cons y l => exact absurd (h y (by simp)) (by omega)
 | n + 1, l, hd, h => by
  by_cases hm : n ∈ l
  ·have h1 := nodup_len n (l.erase n) (hd.erase n) (fun x hx => by
    have h2 := (hd.mem_erase_iff).1 hx
    have h3 := h x h2.2
    have := h2.1
    omega)
   rw [List.length_erase_of_mem hm] at h1
   omega
  ·have := nodup_len n l hd (fun x hx => by
    have h3 := h x hx
    have : x ≠ n := fun e => hm (e ▸ hx)
    omega)
   omega
def chainF (par : Nat -> Int) : Nat -> Nat -> List Nat
 | 0, _ => []
 | k + 1, v => if par v = -2 then [] else if par v < 0 then [v] else v :: chainF par k (par v).toNat
theorem Up.chainF (h : Up par v l) : ∀ k, l.length <= k -> chainF par k v = l := by
 induction h using Up.ind with
 | root h => intro k hk; cases k with
  | zero => simp at hk
  | succ k => simp [Go.Proofs.Ytjnkgakajenoaaa.chainF, h]
 | step h hu ih => intro k hk; cases k with
  | zero => simp at hk
  | succ k =>
   simp only [Go.Proofs.Ytjnkgakajenoaaa.chainF, h]
   rw [if_neg (by omega), if_neg (by omega), Int.toNat_natCast, ih k (by simpa using hk)]
theorem chainF_gone (h : par v = -2) (k : Nat) : chainF par k v = [] := by cases k <;> simp [chainF, h]
end
structure Tr where
 n : Nat
 par : Nat -> Int
 wt : Nat -> Int
structure Tr.Wf (T : Tr) : Prop where
 lt : ∀ v, T.par v ≠ -2 -> v < T.n
 up : ∀ v, T.par v ≠ -2 -> ∃ l, Up T.par v l
structure Tr.Fit (T : Tr) : Prop where
 n : T.n <= 1048576
 wt : ∀ v, -1099511627776 <= T.wt v /\ T.wt v <= 1099511627776
 zero : ∀ v, T.par v = -2 -> T.wt v = 0
def Tr.up (T : Tr) (v : Nat) : List Nat := chainF T.par T.n v
section
variable {T : Tr} {v x c p : Nat} {l m : List Nat}
theorem Tr.Wf.len (h : T.Wf) (hu : Up T.par v l) : l.length <= T.n := nodup_len T.n l hu.nodup (fun x hx => h.lt x (hu.mem x hx))
theorem Tr.Wf.eq (h : T.Wf) (hu : Up T.par v l) : T.up v = l := hu.chainF _ (h.len hu)
theorem Tr.Wf.spec (h : T.Wf) (hv : T.par v ≠ -2) : Up T.par v (T.up v) := by
 obtain ⟨l, hl⟩ := h.up v hv
 rw [h.eq hl]; exact hl
theorem Tr.up_gone (T : Tr) (h : T.par v = -2) : T.up v = [] := chainF_gone h _
theorem Tr.Wf.nil (h : T.Wf) : T.up v = [] ↔ T.par v = -2 := ⟨fun e => Classical.byContradiction fun hn => (h.spec hn).ne e, T.up_gone⟩
theorem Tr.there (hx : x ∈ T.up v) : T.par v ≠ -2 := fun e => by rw [T.up_gone e] at hx; simp at hx
theorem Tr.Wf.there' (h : T.Wf) (hx : x ∈ T.up v) : T.par x ≠ -2 := (h.spec (Tr.there hx)).mem x hx
theorem Tr.Wf.self (h : T.Wf) (hv : T.par v ≠ -2) : v ∈ T.up v := by obtain ⟨t, e⟩ := (h.spec hv).head; rw [e]; simp
theorem Tr.Wf.tail (h : T.Wf) {a b : List Nat} (e : T.up v = a ++ x :: b) : T.up x = x :: b :=
 h.eq ((h.spec (Tr.there (x := x) (by rw [e]; simp))).suffix e)
theorem Tr.Wf.trans (h : T.Wf) (h1 : x ∈ T.up v) (h2 : c ∈ T.up x) : c ∈ T.up v := by
 obtain ⟨a, b, e⟩ := List.append_of_mem h1
 rw [h.tail e] at h2
 rw [e]; simp only [List.mem_append]; exact .inr h2
theorem Tr.Wf.up_root (h : T.Wf) (hv : T.par v = -1) : T.up v = [v] := h.eq (.root hv)
theorem Tr.Wf.up_step (h : T.Wf) (hv : T.par v = (p : Int)) : T.up v = v :: T.up p := by
 have h1 := h.spec (v := v) (by omega)
 obtain ⟨t, e⟩ := h1.head
 rw [e] at h1 ⊢
 rcases h1.next with ⟨h2, _⟩ | ⟨q, h2, h3⟩
 ·omega
 ·obtain rfl : q = p := by omega
  rw [h.eq h3]
theorem Tr.Wf.par_cases (h : T.Wf) (hv : T.par v ≠ -2) : T.par v = -1 ∨ ∃ p : Nat, T.par v = (p : Int) /\ T.par p ≠ -2 := by
 have h1 := h.spec hv
 obtain ⟨t, e⟩ := h1.head
 rw [e] at h1
 rcases h1.next with ⟨h3, _⟩ | ⟨q, h3, h4⟩
 ·exact .inl h3
 ·exact .inr ⟨q, h3, h4.there⟩
end
def Tr.hasI (T : Tr) (v : Int) : Bool := decide (0 <= v) && (T.par v.toNat != -2)
def Tr.upI (T : Tr) (v : Int) : List Nat := if 0 <= v then T.up v.toNat else []
def Tr.rootI (T : Tr) (v : Int) : Int := lastI (T.upI v)
def Tr.parI (T : Tr) (v : Int) : Int := if T.hasI v then T.par v.toNat else -1
def Tr.sameI (T : Tr) (a b : Int) : Bool := (T.rootI a != -1) && (T.rootI a == T.rootI b)
def meetL (l m : List Nat) : Option Nat := l.find? (fun x => decide (x ∈ m))
def lcaL (l m : List Nat) : Int := match meetL l m with | some x => x | none => -1
def wayL (l m : List Nat) : List Nat := match meetL l m with | some t => t :: (l.takeWhile (· != t) ++ m.takeWhile (· != t)) | none => []
def Tr.lcaI (T : Tr) (a b : Int) : Int := lcaL (T.upI a) (T.upI b)
def Tr.wayI (T : Tr) (a b : Int) : List Nat := wayL (T.upI a) (T.upI b)
def Tr.pathI (T : Tr) (a b : Int) : Sm := ofL ((T.wayI a b).map T.wt)
def Tr.getI (T : Tr) (v : Int) : Int := if T.hasI v then T.wt v.toNat else 0
def Tr.sub (T : Tr) (v : Nat) : List Nat := (List.range T.n).filter (fun u => decide (v ∈ T.up u))
def Tr.subI (T : Tr) (v : Int) : Sm := if T.hasI v then ofL ((T.sub v.toNat).map T.wt) else zero
def Tr.sizeI (T : Tr) (v : Int) : Int := (T.subI (T.rootI v)).c
def updF {α : Type} (f : Nat -> α) (v : Nat) (x : α) : Nat -> α := fun u => if u = v then x else f u
def turn (par : Nat -> Int) (b : Int) : List Nat -> (Nat -> Int)
 | [] => par
 | v :: l => turn (updF par v b) v l
def Tr.add (T : Tr) (v : Nat) (w : Int) : Tr := { T with par := updF T.par v (-1), wt := updF T.wt v w }
def Tr.drop (T : Tr) (v : Nat) : Tr := { T with par := updF T.par v (-2), wt := updF T.wt v 0 }
def Tr.link (T : Tr) (c p : Nat) : Tr := { T with par := updF T.par c p }
def Tr.cut (T : Tr) (c : Nat) : Tr := { T with par := updF T.par c (-1) }
def Tr.evert (T : Tr) (v : Nat) : Tr := { T with par := turn T.par (-1) (T.up v) }
def Tr.set (T : Tr) (v : Nat) (w : Int) : Tr := { T with wt := updF T.wt v w }
def raiseF (wt : Nat -> Int) (l : List Nat) (by' : Int) : Nat -> Int := fun u => if u ∈ l then wt u + by' else wt u
def Tr.raise (T : Tr) (l : List Nat) (by' : Int) : Tr := { T with wt := raiseF T.wt l by' }
section
variable {T : Tr} {v x c p : Nat} {l m a0 b0 cc : List Nat}
theorem Tr.hasI_nat (T : Tr) (v : Nat) : T.hasI v = (T.par v != -2) := by simp [Tr.hasI]
theorem Tr.upI_nat (T : Tr) (v : Nat) : T.upI v = T.up v := by simp [Tr.upI]
theorem Tr.hasI_true {v : Int} (h : T.hasI v = true) : ∃ i : Nat, v = i /\ T.par i ≠ -2 := by
 simp [Tr.hasI] at h
 exact ⟨v.toNat, by omega, h.2⟩
theorem Tr.upI_gone {v : Int} (h : T.hasI v = false) : T.upI v = [] := by
 unfold Tr.upI
 split
 ·rename_i h0
  simp [Tr.hasI, h0] at h
  exact T.up_gone h
 ·rfl
theorem Tr.rootI_gone {v : Int} (h : T.hasI v = false) : T.rootI v = -1 := by rw [Tr.rootI, Tr.upI_gone h]; rfl
theorem Tr.Wf.rootI_in (h : T.Wf) (hv : T.par v ≠ -2) : ∃ r : Nat, T.rootI v = r /\ T.par r = -1 /\ r ∈ T.up v := by
 obtain ⟨r, a, e1, e2, e3⟩ := (h.spec hv).last
 exact ⟨r, by rw [Tr.rootI, T.upI_nat]; exact e2, e3, by rw [e1]; simp⟩
structure Meet (l m : List Nat) (t : Nat) (a b c : List Nat) : Prop where
 el : l = a ++ t :: c
 em : m = b ++ t :: c
 ha : ∀ y ∈ a, y ∉ m
 hb : ∀ y ∈ b, y ∉ l
theorem takeWhile_split (a : List Nat) (t : Nat) (c : List Nat) (h : t ∉ a) : (a ++ t :: c).takeWhile (· != t) = a := by
 induction a with
 | nil => simp
 | cons y a ih =>
  simp only [List.mem_cons, not_or] at h
  rw [List.cons_append, List.takeWhile_cons, if_pos (by simpa [bne_iff_ne] using fun e => h.1 e.symm), ih h.2]
theorem Meet.na {t : Nat} (h : Meet l m t a0 b0 cc) : t ∉ a0 := fun hm => h.ha t hm (by rw [h.em]; simp)
theorem Meet.nb {t : Nat} (h : Meet l m t a0 b0 cc) : t ∉ b0 := fun hm => h.hb t hm (by rw [h.el]; simp)
theorem Meet.meetL {t : Nat} (h : Meet l m t a0 b0 cc) : meetL l m = some t := by
 unfold Go.Proofs.Ytjnkgakajenoaaa.meetL
 rw [List.find?_eq_some_iff_append]
 refine ⟨by simp [h.em], a0, cc, h.el, fun y hy => by simpa using h.ha y hy⟩
theorem Meet.lca {t : Nat} (h : Meet l m t a0 b0 cc) : lcaL l m = t := by simp [lcaL, h.meetL]
theorem Meet.way {t : Nat} (h : Meet l m t a0 b0 cc) : wayL l m = t :: (a0 ++ b0) := by
 simp only [wayL, h.meetL]
 rw [show l.takeWhile (· != t) = a0 from by rw [h.el]; exact takeWhile_split _ _ _ h.na, show m.takeWhile (· != t) = b0 from by rw [h.em]; exact takeWhile_split _ _ _ h.nb]
theorem Meet.symm {t : Nat} (h : Meet l m t a0 b0 cc) : Meet m l t b0 a0 cc := ⟨h.em, h.el, h.hb, h.ha⟩
theorem meet_of {par : Nat -> Int} {u v : Nat} (hl : Up par u l) (hm : Up par v m) {x : Nat} (h1 : x ∈ l) (h2 : x ∈ m) : ∃ t a b c, Meet l m t a b c := by
 cases hf : meetL l m with
 | none =>
  unfold meetL at hf
  rw [List.find?_eq_none] at hf
  exact absurd h2 (by simpa using hf x h1)
 | some t =>
  unfold meetL at hf
  rw [List.find?_eq_some_iff_append] at hf
  obtain ⟨ht, a, c, e, ha⟩ := hf
  have ht' : t ∈ m := by simpa using ht
  obtain ⟨b, c', e'⟩ := List.append_of_mem ht'
  have k := (hl.suffix e).det (hm.suffix e')
  simp at k
  subst k
  have ha' : ∀ y ∈ a, y ∉ m := fun y hy => by simpa using ha y hy
  refine ⟨t, a, b, c, e, e', ha', fun y hy hyl => ?_⟩
  rw [e, List.mem_append] at hyl
  rcases hyl with hyl | hyl
  ·exact ha' y hyl (by rw [e']; simp [hy])
  ·have nd := hm.nodup
   rw [e', List.nodup_append] at nd
   exact nd.2.2 y hy y hyl rfl
theorem meet_none (h : ∀ x ∈ l, x ∉ m) : meetL l m = none := by
 unfold meetL
 rw [List.find?_eq_none]
 intro x hx
 simpa using h x hx
theorem lca_none (h : ∀ x ∈ l, x ∉ m) : lcaL l m = -1 := by simp [lcaL, meet_none h]
theorem way_none (h : ∀ x ∈ l, x ∉ m) : wayL l m = [] := by simp [wayL, meet_none h]
theorem meet_root {par : Nat -> Int} {u v : Nat} (hl : Up par u l) (hm : Up par v m) (h : lastI l = lastI m) : ∃ t a b c, Meet l m t a b c := by
 obtain ⟨r, a, e1, e2, e3⟩ := hl.last
 obtain ⟨r', a', e1', e2', e3'⟩ := hm.last
 have : r = r' := by omega
 subst this
 exact meet_of hl hm (x := r) (by rw [e1]; simp) (by rw [e1']; simp)
theorem root_meet {par : Nat -> Int} {u v : Nat} (hl : Up par u l) (hm : Up par v m) (h : lastI l ≠ lastI m) : ∀ x ∈ l, x ∉ m := fun x h1 h2 => by
 obtain ⟨t, a, b, c, k⟩ := meet_of hl hm h1 h2
 rw [k.el, k.em, lastI_append _ (by simp), lastI_append _ (by simp)] at h
 exact h rfl
end
end Go.Proofs.Ytjnkgakajenoaaa
namespace Go.Proofs.Ytjnkgakajenoaaa
set_option linter.unusedVariables false
theorem updF_same {α : Type} (f : Nat -> α) (v : Nat) (x : α) : updF f v x v = x := by simp [updF]
theorem updF_other {α : Type} (f : Nat -> α) {v u : Nat} (x : α) (h : u ≠ v) : updF f v x u = f u := by simp [updF, h]
section
variable {par par' : Nat -> Int} {u v x : Nat} {l m a b : List Nat}
theorem Up.frame (h : Up par u l) : (∀ y ∈ l, par' y = par y) -> Up par' u l := by
 induction h using Up.ind with
 | root h => intro k; exact .root (by rw [k _ (by simp)]; exact h)
 | step h hu ih => intro k; exact .step (by rw [k _ (by simp)]; exact h) (ih fun y hy => k y (by simp [hy]))
theorem Up.pre : ∀ {a u}, Up par u (a ++ x :: b) -> (∀ y ∈ a, par' y = par y) -> Up par' x m -> Up par' u (a ++ m)
 | [], u, h, _, hm => by
  obtain ⟨t, e⟩ := h.head
  simp at e
  obtain ⟨rfl, _⟩ := e
  exact hm
 | y :: a, u, h, k, hm => by
  obtain ⟨t, e⟩ := h.head
  simp at e
  obtain ⟨rfl, _⟩ := e
  rcases h.next with ⟨_, e⟩ | ⟨q, hq, hu⟩
  ·simp at e
  ·exact .step (by rw [k _ (by simp)]; exact hq) (hu.pre (fun z hz => k z (by simp [hz])) hm)
theorem Up.first (h : Up par u (a ++ x :: b)) : x ∉ a /\ x ∉ b := by
 have := h.nodup
 rw [List.nodup_append, List.nodup_cons] at this
 exact ⟨fun hm => this.2.2 x hm x (by simp) rfl, this.2.1.1⟩
theorem turn_out : ∀ {l : List Nat} {par : Nat -> Int} {b : Int} {x : Nat}, x ∉ l -> turn par b l x = par x
 | [], _, _, _, _ => rfl
 | y :: l, par, b, x, h => by
  simp only [List.mem_cons, not_or] at h
  rw [turn, turn_out h.2, updF_other _ _ h.1]
theorem turn_at : ∀ {a : List Nat} {par : Nat -> Int} {b : Int} {x : Nat} {c : List Nat}, (a ++ x :: c).Nodup -> turn par b (a ++ x :: c) x = if a = [] then b else lastI a
 | [], par, b, x, c, h => by
  simp only [List.nil_append, List.nodup_cons] at h
  simp [turn, turn_out h.1, updF_same]
 | y :: a, par, b, x, c, h => by
  rw [List.cons_append, List.nodup_cons] at h
  rw [List.cons_append, turn, turn_at h.2]
  cases a with
  | nil => simp [lastI]
  | cons z a => simp [lastI]
end
section
variable {T : Tr} {u v c p : Nat} {w : Int} {a b cc : List Nat}
theorem Tr.Wf.add_up (h : T.Wf) (hv : T.par v = -2) (hu : T.par u ≠ -2) : Up (T.add v w).par u (T.up u) :=
 (h.spec hu).frame fun y hy => updF_other _ _ fun e => h.there' hy (e ▸ hv)
theorem Tr.Wf.add (h : T.Wf) (hv : T.par v = -2) (hn : v < T.n) : (T.add v w).Wf := by
 refine ⟨fun x hx => ?_, fun x hx => ?_⟩
 ·by_cases e : x = v
  ·subst e; exact hn
  ·exact h.lt x (by simpa [Tr.add, updF, e] using hx)
 ·by_cases e : x = v
  ·subst e; exact ⟨_, .root (by simp [Tr.add, updF])⟩
  ·exact ⟨_, h.add_up hv (by simpa [Tr.add, updF, e] using hx)⟩
theorem Tr.Fit.add (h : T.Fit) (hw : -1099511627776 <= w /\ w <= 1099511627776) : (T.add v w).Fit := by
 refine ⟨h.n, fun x => ?_, fun x hx => ?_⟩
 ·by_cases e : x = v
  ·subst e; simpa [Tr.add, updF] using hw
  ·simpa [Tr.add, updF, e] using h.wt x
 ·by_cases e : x = v
  ·subst e; simp [Tr.add, updF] at hx
  ·simp [Tr.add, updF, e] at hx ⊢; exact h.zero x hx
theorem Tr.Wf.alone (h : T.Wf) (hv : ∀ y, T.par y ≠ (v : Int)) (hu : u ≠ v) : v ∉ T.up u := fun hm => by
 have h0 := h.spec (Tr.there hm)
 obtain ⟨a, b, e⟩ := List.append_of_mem hm
 by_cases ha : a = []
 ·subst ha
  obtain ⟨t, e'⟩ := h0.head
  rw [e] at e'
  simp at e'
  exact hu e'.1.symm
 ·have e2 : a = a.dropLast ++ [a.getLast ha] := (List.dropLast_concat_getLast ha).symm
  rw [e, e2] at h0
  have h1 := h0.suffix (a := a.dropLast) (x := a.getLast ha) (b := v :: b) (by simp)
  rcases h1.next with ⟨_, e3⟩ | ⟨q, hq, hq'⟩
  ·simp at e3
  ·obtain ⟨t, e4⟩ := hq'.head
   simp at e4
   exact hv _ (by rw [hq, e4.1])
theorem Tr.Wf.drop_up (h : T.Wf) (hv : ∀ y, T.par y ≠ (v : Int)) (hu : T.par u ≠ -2) (hne : u ≠ v) : Up (T.drop v).par u (T.up u) :=
 (h.spec hu).frame fun y hy => updF_other _ _ fun e => h.alone hv hne (e ▸ hy)
theorem Tr.Wf.drop (h : T.Wf) (hv : ∀ y, T.par y ≠ (v : Int)) : (T.drop v).Wf := by
 have k : ∀ x, (T.drop v).par x ≠ -2 -> x ≠ v /\ T.par x ≠ -2 := fun x hx => by
  by_cases e : x = v
  ·subst e; simp [Tr.drop, updF] at hx
  ·exact ⟨e, by simpa [Tr.drop, updF, e] using hx⟩
 exact ⟨fun x hx => h.lt x (k x hx).2, fun x hx => ⟨_, h.drop_up hv (k x hx).2 (k x hx).1⟩⟩
theorem Tr.Fit.drop (h : T.Fit) : (T.drop v).Fit := by
 refine ⟨h.n, fun x => ?_, fun x hx => ?_⟩
 ·by_cases e : x = v
  ·subst e; simp [Tr.drop, updF]
  ·simpa [Tr.drop, updF, e] using h.wt x
 ·by_cases e : x = v
  ·subst e; simp [Tr.drop, updF]
  ·simp [Tr.drop, updF, e] at hx ⊢; exact h.zero x hx
theorem Tr.Wf.link_out (h : T.Wf) (hu : T.par u ≠ -2) (hn : c ∉ T.up u) : Up (T.link c p).par u (T.up u) :=
 (h.spec hu).frame fun y hy => updF_other _ _ fun e => hn (e ▸ hy)
theorem Tr.Wf.root_end (h : T.Wf) (hc : T.par c = -1) (hu : c ∈ T.up u) : ∃ a, T.up u = a ++ [c] /\ c ∉ a := by
 obtain ⟨a, b, e⟩ := List.append_of_mem hu
 have h0 := h.spec (Tr.there hu)
 rw [e] at h0
 rcases (h0.suffix rfl).next with ⟨_, rfl⟩ | ⟨q, hq, _⟩
 ·exact ⟨a, e, h0.first.1⟩
 ·omega
theorem Tr.Wf.link_in (h : T.Wf) (hc : T.par c = -1) (hp : T.par p ≠ -2) (hr : c ∉ T.up p) (hu : c ∈ T.up u) : Up (T.link c p).par u (T.up u ++ T.up p) := by
 obtain ⟨a, e, ha⟩ := h.root_end hc hu
 have h0 := h.spec (Tr.there hu)
 rw [e] at h0 ⊢
 rw [List.append_assoc]
 refine h0.pre (fun y hy => updF_other _ _ fun e => ha (e ▸ hy)) ?_
 exact .step (updF_same _ _ _) (h.link_out hp hr)
theorem Tr.Wf.link (h : T.Wf) (hc : T.par c = -1) (hp : T.par p ≠ -2) (hr : c ∉ T.up p) : (T.link c p).Wf := by
 have k : ∀ x, (T.link c p).par x ≠ -2 -> T.par x ≠ -2 := fun x hx => by
  by_cases e : x = c
  ·subst e; omega
  ·simpa [Tr.link, updF, e] using hx
 refine ⟨fun x hx => h.lt x (k x hx), fun x hx => ?_⟩
 by_cases hm : c ∈ T.up x
 ·exact ⟨_, h.link_in hc hp hr hm⟩
 ·exact ⟨_, h.link_out (k x hx) hm⟩
theorem Tr.Fit.link (h : T.Fit) (hc : T.par c ≠ -2) : (T.link c p).Fit := by
 refine ⟨h.n, h.wt, fun x hx => ?_⟩
 by_cases e : x = c
 ·subst e; simp [Tr.link, updF] at hx
 ·exact h.zero x (by simpa [Tr.link, updF, e] using hx)
theorem Tr.Wf.cut_out (h : T.Wf) (hu : T.par u ≠ -2) (hn : c ∉ T.up u) : Up (T.cut c).par u (T.up u) :=
 (h.spec hu).frame fun y hy => updF_other _ _ fun e => hn (e ▸ hy)
theorem Tr.Wf.cut_in (h : T.Wf) (e : T.up u = a ++ c :: b) : Up (T.cut c).par u (a ++ [c]) := by
 have h0 := h.spec (v := u) (Tr.there (x := c) (by rw [e]; simp))
 rw [e] at h0
 exact h0.pre (fun y hy => updF_other _ _ fun e => h0.first.1 (e ▸ hy)) (.root (updF_same _ _ _))
theorem Tr.Wf.cut (h : T.Wf) (hc : T.par c ≠ -2) : (T.cut c).Wf := by
 have k : ∀ x, (T.cut c).par x ≠ -2 -> T.par x ≠ -2 := fun x hx => by
  by_cases e : x = c
  ·subst e; exact hc
  ·simpa [Tr.cut, updF, e] using hx
 refine ⟨fun x hx => h.lt x (k x hx), fun x hx => ?_⟩
 by_cases hm : c ∈ T.up x
 ·obtain ⟨a, b, e⟩ := List.append_of_mem hm
  exact ⟨_, h.cut_in e⟩
 ·exact ⟨_, h.cut_out (k x hx) hm⟩
theorem Tr.Fit.cut (h : T.Fit) (hc : T.par c ≠ -2) : (T.cut c).Fit := by
 refine ⟨h.n, h.wt, fun x hx => ?_⟩
 by_cases e : x = c
 ·subst e; simp [Tr.cut, updF] at hx
 ·exact h.zero x (by simpa [Tr.cut, updF, e] using hx)
theorem evert_at {par : Nat -> Int} : ∀ (n : Nat) {a b : List Nat} {x : Nat}, a.length = n -> (a ++ x :: b).Nodup -> Up (turn par (-1) (a ++ x :: b)) x (x :: a.reverse)
 | 0, a, b, x, hn, nd => by
  obtain rfl := List.length_eq_zero_iff.1 hn
  exact .root (by rw [turn_at nd]; simp)
 | n + 1, a, b, x, hn, nd => by
  have ha : a ≠ [] := fun e => by subst e; simp at hn
  have hp := turn_at (par := par) (b := -1) nd
  rw [if_neg ha] at hp
  have e2 : a = a.dropLast ++ [a.getLast ha] := (List.dropLast_concat_getLast ha).symm
  generalize a.dropLast = a', a.getLast ha = y at *
  subst e2
  rw [lastI_snoc] at hp
  rw [List.append_assoc] at nd hp ⊢
  rw [List.reverse_append]
  exact .step hp (evert_at n (by simpa using hn) nd)
theorem Tr.Wf.evert_out (h : T.Wf) (hu : T.par u ≠ -2) (hn : ∀ y ∈ T.up u, y ∉ T.up v) : Up (T.evert v).par u (T.up u) :=
 (h.spec hu).frame fun y hy => turn_out (hn y hy)
theorem Tr.Wf.evert_in {t : Nat} (h : T.Wf) (hm : Meet (T.up u) (T.up v) t a b cc) : Up (T.evert v).par u (a ++ t :: b.reverse) := by
 have h0 := h.spec (v := u) (Tr.there (x := t) (by rw [hm.el]; simp))
 have h1 := h.spec (v := v) (Tr.there (x := t) (by rw [hm.em]; simp))
 rw [hm.el] at h0
 refine h0.pre (fun y hy => turn_out (hm.ha y hy)) ?_
 have nd := h1.nodup
 unfold Tr.evert
 dsimp only
 rw [hm.em] at nd ⊢
 exact evert_at _ rfl nd
theorem Tr.Wf.evert_there (h : T.Wf) (hv : T.par v ≠ -2) : (T.evert v).par u = -2 ↔ T.par u = -2 := by
 by_cases hm : u ∈ T.up v
 ·have h0 := h.spec hv
  obtain ⟨a, b, e⟩ := List.append_of_mem hm
  have nd := h0.nodup
  have k1 := h.there' hm
  have k2 : (T.evert v).par u = if a = [] then -1 else lastI a := by
   show turn T.par (-1) (T.up v) u = _
   rw [e] at nd ⊢
   exact turn_at nd
  have k3 : (T.evert v).par u ≠ -2 := by
   rw [k2]
   split
   ·omega
   ·rename_i ha
    obtain ⟨r, _, e⟩ := lastI_mem ha
    omega
  simp [k1, k3]
 ·show turn T.par (-1) (T.up v) u = -2 ↔ _
  rw [turn_out hm]
theorem Tr.Wf.meets (h : T.Wf) (hu : T.par u ≠ -2) (hv : T.par v ≠ -2) : (∃ t a b c, Meet (T.up u) (T.up v) t a b c) ∨ ∀ y ∈ T.up u, y ∉ T.up v := by
 by_cases hn : ∃ y ∈ T.up u, y ∈ T.up v
 ·obtain ⟨y, h1, h2⟩ := hn
  exact .inl (meet_of (h.spec hu) (h.spec hv) h1 h2)
 ·exact .inr fun y h1 h2 => hn ⟨y, h1, h2⟩
theorem Tr.Wf.evert (h : T.Wf) (hv : T.par v ≠ -2) : (T.evert v).Wf := by
 have k : ∀ x, (T.evert v).par x ≠ -2 -> T.par x ≠ -2 := fun x hx e => hx ((h.evert_there hv).2 e)
 refine ⟨fun x hx => h.lt x (k x hx), fun x hx => ?_⟩
 rcases h.meets (k x hx) hv with ⟨t, a, b, c, hm⟩ | hn
 ·exact ⟨_, h.evert_in hm⟩
 ·exact ⟨_, h.evert_out (k x hx) hn⟩
theorem Tr.Fit.evert (h : T.Fit) (hw : T.Wf) (hv : T.par v ≠ -2) : (T.evert v).Fit :=
 ⟨h.n, h.wt, fun x hx => h.zero x ((hw.evert_there hv).1 hx)⟩
theorem Tr.Wf.set (h : T.Wf) : (T.set v w).Wf := ⟨h.lt, h.up⟩
theorem Tr.Fit.set (h : T.Fit) (hv : T.par v ≠ -2) (hw : -1099511627776 <= w /\ w <= 1099511627776) : (T.set v w).Fit := by
 refine ⟨h.n, fun x => ?_, fun x hx => ?_⟩
 ·by_cases e : x = v
  ·subst e; simpa [Tr.set, updF] using hw
  ·simpa [Tr.set, updF, e] using h.wt x
 ·have : x ≠ v := fun e => hv (e ▸ hx)
  simp [Tr.set, updF, this]; exact h.zero x hx
theorem Tr.Wf.raise (h : T.Wf) {l : List Nat} : (T.raise l w).Wf := ⟨h.lt, h.up⟩
theorem Tr.Fit.raise (h : T.Fit) {l : List Nat} (hl : ∀ x ∈ l, T.par x ≠ -2 /\ -1099511627776 <= T.wt x + w /\ T.wt x + w <= 1099511627776) : (T.raise l w).Fit := by
 refine ⟨h.n, fun x => ?_, fun x hx => ?_⟩
 ·by_cases e : x ∈ l
  ·simpa [Tr.raise, raiseF, e] using (hl x e).2
  ·simpa [Tr.raise, raiseF, e] using h.wt x
 ·have : x ∉ l := fun e => (hl x e).1 hx
  simp [Tr.raise, raiseF, this]; exact h.zero x hx
def Tr.new (n : Nat) : Tr := ⟨n, fun _ => -2, fun _ => 0⟩
theorem Tr.Wf.new (n : Nat) : (Tr.new n).Wf := ⟨fun _ h => absurd rfl h, fun _ h => absurd rfl h⟩
theorem Tr.Fit.new {n : Nat} (h : n <= 1048576) : (Tr.new n).Fit := ⟨h, fun _ => by simp [Tr.new], fun _ _ => rfl⟩
end
theorem Tr.Wf.same_true {T : Tr} (h : T.Wf) {x y : Int} (hs : T.sameI x y = true) : ∃ i j : Nat, x = i /\ y = j /\ T.par i ≠ -2 /\ T.par j ≠ -2 /\ ∃ t a b c, Meet (T.up i) (T.up j) t a b c := by
 simp [Tr.sameI] at hs
 obtain ⟨h1, h2⟩ := hs
 cases hx : T.hasI x with
 | false => exact absurd (Tr.rootI_gone hx) h1
 | true =>
  cases hy : T.hasI y with
  | false => rw [Tr.rootI_gone hy] at h2; exact absurd h2 h1
  | true =>
   obtain ⟨i, rfl, hi⟩ := Tr.hasI_true hx
   obtain ⟨j, rfl, hj⟩ := Tr.hasI_true hy
   rw [Tr.rootI, Tr.rootI, T.upI_nat, T.upI_nat] at h2
   exact ⟨i, j, rfl, rfl, hi, hj, meet_root (h.spec hi) (h.spec hj) h2⟩
theorem Tr.Wf.same_false {T : Tr} (h : T.Wf) {x y : Int} (hs : T.sameI x y = false) : ∀ z ∈ T.upI x, z ∉ T.upI y := by
 cases hx : T.hasI x with
 | false => rw [Tr.upI_gone hx]; simp
 | true =>
  cases hy : T.hasI y with
  | false => rw [Tr.upI_gone hy]; simp
  | true =>
   obtain ⟨i, rfl, hi⟩ := Tr.hasI_true hx
   obtain ⟨j, rfl, hj⟩ := Tr.hasI_true hy
   obtain ⟨r, e, _, _⟩ := h.rootI_in hi
   have hne : T.rootI i ≠ T.rootI j := fun e' => by
    simp [Tr.sameI, ← e', e] at hs
   rw [Tr.rootI, Tr.rootI, T.upI_nat, T.upI_nat] at hne
   rw [T.upI_nat, T.upI_nat]
   exact root_meet (h.spec hi) (h.spec hj) hne
theorem Tr.Wf.same_nat {T : Tr} (h : T.Wf) {i j t : Nat} {a b c : List Nat} (hm : Meet (T.up i) (T.up j) t a b c) : T.sameI i j = true := by
 have hi : T.par i ≠ -2 := Tr.there (x := t) (by rw [hm.el]; simp)
 obtain ⟨r, e, _, _⟩ := h.rootI_in hi
 have e2 : T.rootI i = T.rootI j := by
  rw [Tr.rootI, Tr.rootI, T.upI_nat, T.upI_nat, hm.el, hm.em, lastI_append _ (by simp), lastI_append _ (by simp)]
 simp [Tr.sameI, ← e2, e]
structure Lv (par : Nat -> Int) (x y t : Nat) (a b c : List Nat) : Prop where
 ua : Up par x (a ++ t :: c)
 ub : Up par y (b ++ t :: c)
 dis : ∀ z ∈ a, z ∉ b
section
variable {par : Nat -> Int} {x y z t : Nat} {a b c : List Nat}
theorem Lv.done (h : Lv par x x t a b c) : a = [] /\ x = t := by
 have e := h.ua.det h.ub
 have e' := List.append_cancel_right e
 subst e'
 cases a with
 | nil =>
  obtain ⟨l, e⟩ := h.ua.head
  simp at e
  exact ⟨rfl, e.1.symm⟩
 | cons z a => exact absurd (by simp) (h.dis z (by simp))
end
end Go.Proofs.Ytjnkgakajenoaaa
namespace Go.Proofs.Ytjnkgakajenoaaa
set_option linter.unusedVariables false
set_option linter.unusedSimpArgs false
def Th (T : Tr) (t : Nat) : Prop := 1 <= t /\ T.par (t - 1) ≠ -2
def ps (T : Tr) (t : Nat) : Nat := (T.par (t - 1) + 1).toNat
def U (T : Tr) (t : Nat) : List Nat := if t = 0 then [] else (T.up (t - 1)).map (· + 1)
def dp (T : Tr) (t : Nat) : Nat := (U T t).length
section
variable {T : Tr} {t x y u : Nat} {a b : List Nat}
theorem U_zero (T : Tr) : U T 0 = [] := by simp [U]
theorem U_th (h : T.Wf) (ht : Th T t) : U T t = t :: U T (ps T t) := by
 obtain ⟨h1, h2⟩ := ht
 have e0 : t - 1 + 1 = t := by omega
 rcases h.par_cases h2 with h3 | ⟨p, h3, h4⟩
 ·have e : ps T t = 0 := by simp [ps, h3]
  rw [e, U_zero, U, if_neg (by omega), h.up_root h3]; simp [e0]
 ·have e : ps T t = p + 1 := by simp [ps, h3]
  rw [e, U, if_neg (by omega), h.up_step h3]; simp [e0, U]
theorem ps_th (h : T.Wf) (ht : Th T t) (hp : ps T t ≠ 0) : Th T (ps T t) := by
 rcases h.par_cases ht.2 with h3 | ⟨p, h3, h4⟩
 ·simp [ps, h3] at hp
 ·have e : ps T t = p + 1 := by simp [ps, h3]
  rw [e]; exact ⟨by omega, by simpa using h4⟩
theorem ps_par (ht : Th T t) (hw : T.Wf) : T.par (t - 1) = (ps T t : Int) - 1 := by
 rcases hw.par_cases ht.2 with h3 | ⟨p, h3, h4⟩ <;> simp [ps, h3] <;> omega
theorem U_mem_th (h : T.Wf) (hx : x ∈ U T t) : Th T x := by
 unfold U at hx
 split at hx
 ·simp at hx
 ·obtain ⟨v, hv, rfl⟩ := List.mem_map.1 hx
  exact ⟨by omega, by simpa using h.there' hv⟩
theorem U_mem_th' (h : T.Wf) (hx : x ∈ U T t) : Th T t := by
 unfold U at hx
 split at hx
 ·simp at hx
 ·obtain ⟨v, hv, rfl⟩ := List.mem_map.1 hx
  exact ⟨by omega, Tr.there hv⟩
theorem U_gone (h : T.Wf) (ht : ¬ Th T t) : U T t = [] := by
 rcases he : U T t with _ | ⟨x, l⟩
 ·rfl
 ·exact absurd (U_mem_th' (x := x) h (by rw [he]; simp)) ht
theorem U_self (h : T.Wf) (ht : Th T t) : t ∈ U T t := by rw [U_th h ht]; simp
theorem zero_U (h : T.Wf) : 0 ∉ U T t := fun hm => by have := (U_mem_th h hm).1; omega
theorem U_up (h : T.Wf) (ht : Th T t) : x ∈ U T t ↔ x = t ∨ x ∈ U T (ps T t) := by rw [U_th h ht]; simp
theorem dp_th (h : T.Wf) (ht : Th T t) : dp T t = dp T (ps T t) + 1 := by unfold dp; rw [U_th h ht]; simp
theorem dp_pos (h : T.Wf) (ht : Th T t) : 1 <= dp T t := by rw [dp_th h ht]; omega
theorem U_lt (h : T.Wf) : ∀ (n : Nat) {t : Nat}, dp T t <= n -> x ∈ U T t -> (x = t ∨ dp T x < dp T t) /\ ∀ y ∈ U T x, y ∈ U T t
 | 0, t, hn, hx => by
  have := dp_pos h (U_mem_th' h hx)
  omega
 | n + 1, t, hn, hx => by
  have ht := U_mem_th' h hx
  have hd := dp_th h ht
  rcases (U_up h ht).1 hx with rfl | h2
  ·exact ⟨.inl rfl, fun y hy => hy⟩
  ·have h3 := U_lt h n (by omega) h2
   refine ⟨.inr ?_, fun y hy => (U_up h ht).2 (.inr (h3.2 y hy))⟩
   rcases h3.1 with rfl | h4 <;> omega
theorem U_trans (h : T.Wf) (hx : x ∈ U T t) (hy : y ∈ U T x) : y ∈ U T t := (U_lt h _ (Nat.le_refl _) hx).2 y hy
theorem U_dp (h : T.Wf) (hx : x ∈ U T t) : x = t ∨ dp T x < dp T t := (U_lt h _ (Nat.le_refl _) hx).1
theorem U_anti (h : T.Wf) (hx : x ∈ U T t) (hy : t ∈ U T x) : x = t := by
 rcases U_dp h hx with e | e
 ·exact e
 ·rcases U_dp h hy with e' | e'
  ·exact e'.symm
  ·omega
theorem U_ps (h : T.Wf) (ht : Th T t) (hp : ps T t ≠ 0) : ps T t ∈ U T t := (U_up h ht).2 (.inr (U_self h (ps_th h ht hp)))
theorem ps_notin (h : T.Wf) (ht : Th T t) : t ∉ U T (ps T t) := fun hm => by
 have h1 := dp_th h ht
 rcases U_dp h hm with e | e
 ·rw [← e] at h1; omega
 ·omega
theorem th_lt (h : T.Wf) (ht : Th T t) : t - 1 < T.n := h.lt _ ht.2
end
def sumF : Nat -> (Nat -> Int) -> Int
 | 0, _ => 0
 | n + 1, f => sumF n f + f n
section
variable {f g : Nat -> Int} {n : Nat}
theorem sumF_congr (h : ∀ i, i < n -> f i = g i) : sumF n f = sumF n g := by
 induction n with
 | zero => rfl
 | succ n ih => simp only [sumF]; rw [ih (fun i hi => h i (by omega)), h n (by omega)]
theorem sumF_add : sumF n (fun i => f i + g i) = sumF n f + sumF n g := by
 induction n with
 | zero => rfl
 | succ n ih => simp only [sumF, ih]; omega
theorem sumF_sub : sumF n (fun i => f i - g i) = sumF n f - sumF n g := by
 induction n with
 | zero => rfl
 | succ n ih => simp only [sumF, ih]; omega
theorem sumF_zero (h : ∀ i, i < n -> f i = 0) : sumF n f = 0 := by
 induction n with
 | zero => rfl
 | succ n ih => simp only [sumF]; rw [ih (fun i hi => h i (by omega)), h n (by omega)]; rfl
theorem sumF_one (k : Nat) (x : Int) (hk : k < n) : sumF n (fun i => if i = k then x else 0) = x := by
 induction n with
 | zero => omega
 | succ n ih =>
  simp only [sumF]
  by_cases e : k = n
  ·subst e; rw [sumF_zero (fun i hi => by rw [if_neg (by omega)])]; simp
  ·rw [ih (by omega), if_neg (by omega)]; omega
theorem sumF_nn (h : ∀ i, i < n -> 0 <= f i) : 0 <= sumF n f := by
 induction n with
 | zero => simp [sumF]
 | succ n ih => simp only [sumF]; have := ih (fun i hi => h i (by omega)); have := h n (by omega); omega
theorem sumF_le (h : ∀ i, i < n -> f i <= g i) : sumF n f <= sumF n g := by
 induction n with
 | zero => simp [sumF]
 | succ n ih => simp only [sumF]; have := ih (fun i hi => h i (by omega)); have := h n (by omega); omega
theorem sumF_mul (c : Int) : sumF n (fun i => c * f i) = c * sumF n f := by
 induction n with
 | zero => simp [sumF]
 | succ n ih => simp only [sumF, ih, Int.mul_add]
theorem sumF_const (c : Int) : sumF n (fun _ => c) = n * c := by
 induction n with
 | zero => simp [sumF]
 | succ n ih => simp only [sumF, ih]; rw [show ((n + 1 : Nat) : Int) = n + 1 from by omega, Int.add_mul]; omega
end
def Dc (T : Tr) (t : Nat) : Int := sumF T.n (fun u => if t ∈ U T (u + 1) then 1 else 0)
def Dw (T : Tr) (t : Nat) : Int := sumF T.n (fun u => if t ∈ U T (u + 1) then T.wt u else 0)
section
variable {T : Tr} {t x y u : Nat}
theorem Dc_zero (h : T.Wf) : Dc T 0 = 0 := sumF_zero fun i _ => if_neg (zero_U h)
theorem Dw_zero (h : T.Wf) : Dw T 0 = 0 := sumF_zero fun i _ => if_neg (zero_U h)
theorem Dc_bd (T : Tr) (t : Nat) : 0 <= Dc T t /\ Dc T t <= T.n := by
 refine ⟨sumF_nn fun i _ => by split <;> omega, ?_⟩
 have h1 := sumF_le (n := T.n) (f := fun u => if t ∈ U T (u + 1) then 1 else 0) (g := fun _ => 1) (fun i _ => by split <;> omega)
 rw [sumF_const] at h1
 unfold Dc; omega
def hgI (T : Tr) (t y u : Nat) : Int := if t ∈ U T (u + 1) /\ u + 1 ≠ t /\ y ∉ U T (u + 1) then 1 else 0
theorem hgI_eq (h : T.Wf) (ht : Th T t) (hy : y ≠ 0 -> Th T y /\ ps T y = t) (u : Nat) :
  (if t ∈ U T (u + 1) then (1 : Int) else 0) - (if u = t - 1 then 1 else 0) - (if y ∈ U T (u + 1) then 1 else 0) = hgI T t y u := by
 unfold hgI
 have h1 := ht.1
 by_cases e : u = t - 1
 ·have e' : u + 1 = t := by omega
  have hm : y ∉ U T t := fun hm => by
   have hy0 : y ≠ 0 := fun e => zero_U h (e ▸ hm)
   obtain ⟨hy1, rfl⟩ := hy hy0
   exact ps_notin h hy1 hm
  rw [e', if_pos (U_self h ht), if_pos e, if_neg hm, if_neg (by simp)]; rfl
 ·have e' : u + 1 ≠ t := by omega
  rw [if_neg e]
  by_cases hm : y ∈ U T (u + 1)
  ·have hy0 : y ≠ 0 := fun e => zero_U h (e ▸ hm)
   obtain ⟨hy1, hy2⟩ := hy hy0
   have : t ∈ U T (u + 1) := U_trans h hm (hy2 ▸ U_ps h hy1 (by omega))
   simp [hm, this]
  ·by_cases hm2 : t ∈ U T (u + 1) <;> simp [hm, hm2, e']
theorem Dc_hg (h : T.Wf) (ht : Th T t) (hy : y ≠ 0 -> Th T y /\ ps T y = t) : Dc T t - 1 - Dc T y = sumF T.n (hgI T t y) := by
 rw [← sumF_congr (fun u _ => hgI_eq h ht hy u), sumF_sub, sumF_sub, sumF_one _ _ (th_lt h ht)]; rfl
theorem Dw_hg (h : T.Wf) (ht : Th T t) (hy : y ≠ 0 -> Th T y /\ ps T y = t) : Dw T t - T.wt (t - 1) - Dw T y = sumF T.n (fun u => hgI T t y u * T.wt u) := by
 have e : ∀ u, u < T.n -> (if t ∈ U T (u + 1) then T.wt u else 0) - (if u = t - 1 then T.wt (t - 1) else 0) - (if y ∈ U T (u + 1) then T.wt u else 0) = hgI T t y u * T.wt u := fun u _ => by
  rw [← hgI_eq h ht hy u, Int.sub_mul, Int.sub_mul]
  congr 1
  ·congr 1
   ·split <;> simp
   ·split
    ·rename_i e; subst e; simp
    ·simp
  ·split <;> simp
 rw [← sumF_congr e, sumF_sub, sumF_sub, sumF_one _ _ (th_lt h ht)]; rfl
theorem hg_bd (h : T.Wf) (hf : T.Fit) (ht : Th T t) (hy : y ≠ 0 -> Th T y /\ ps T y = t) :
  0 <= Dc T t - 1 - Dc T y /\ -1099511627776 * (Dc T t - 1 - Dc T y) <= Dw T t - T.wt (t - 1) - Dw T y /\ Dw T t - T.wt (t - 1) - Dw T y <= 1099511627776 * (Dc T t - 1 - Dc T y) := by
 rw [Dc_hg h ht hy, Dw_hg h ht hy, ← sumF_mul, ← sumF_mul]
 refine ⟨sumF_nn fun i _ => by unfold hgI; split <;> omega, sumF_le fun i _ => ?_, sumF_le fun i _ => ?_⟩ <;>
  ·have := hf.wt i
   unfold hgI
   split <;> simp <;> omega
theorem Dw_bd (hf : T.Fit) (t : Nat) : -1099511627776 * Dc T t <= Dw T t /\ Dw T t <= 1099511627776 * Dc T t := by
 unfold Dc Dw
 rw [← sumF_mul, ← sumF_mul]
 refine ⟨sumF_le fun i _ => ?_, sumF_le fun i _ => ?_⟩ <;>
  ·have := hf.wt i
   split <;> simp <;> omega
end
theorem lf_zero (x : Sm) : lf x 0 = x := by unfold lf; split <;> simp
theorem lf_lf (x : Sm) (m n : Int) : lf (lf x m) n = lf x (m + n) := by
 by_cases h : x.c = 0
 ·simp [lf, h]
 ·simp only [lf, h, if_false]
  exact Sm.same rfl (by simp [Int.mul_add]; omega) (by simp; omega) (by simp; omega)
theorem lf_nil (n : Int) : lf zero n = zero := by simp [lf, zero]
theorem ok_lf {x : Sm} (h : x.ok) (n : Int) : (lf x n).ok := by
 refine ⟨by rw [lf_c]; exact h.1, fun h0 => ?_⟩
 rw [lf_c] at h0
 rw [h.2 h0, lf_nil]
theorem jn_c {x y : Sm} : (jn x y).c = x.c + y.c := by
 unfold jn; split
 ·omega
 ·split
  ·omega
  ·rfl
theorem jn_s {x y : Sm} (hx : x.ok) (hy : y.ok) : (jn x y).s = x.s + y.s := by
 unfold jn; split
 ·rename_i h; rw [hx.2 h]; simp [zero]
 ·split
  ·rename_i h; rw [hy.2 h]; simp [zero]
  ·rfl
theorem one_c (n : Int) : (one n).c = 1 := rfl
theorem one_s (n : Int) : (one n).s = n := rfl
structure Gh where
 b : Nat -> Bool
 a : Nat -> Int
 fi : Nat -> Nat
 la : Nat -> Nat
 pn : Nat -> Nat
def Gh.f (G : Gh) (β : Bool) : Nat -> Nat := if β then G.la else G.fi
def Gh.g (G : Gh) (β : Bool) : Nat -> Nat := if β then G.fi else G.la
def Gh.nx (G : Gh) (β : Bool) (x y : Nat) : Prop := if β then G.pn y = x else G.pn x = y
def Top (S : Ss) (t : Nat) : Prop := (S (S t).up).l ≠ t /\ (S (S t).up).r ≠ t
structure Ki (S : Ss) (T : Tr) (G : Gh) (t k : Nat) : Prop where
 th : Th T k
 up : (S k).up = t
 b : G.b k = (G.b t != (S t).tn)
 a : G.a k = G.a t + (S t).wa
structure En (G : Gh) (β : Bool) (l r t : Nat) : Prop where
 l0 : l = 0 -> G.f β t = t
 l1 : l ≠ 0 -> G.f β t = G.f β l /\ G.nx β (G.g β l) t
 r0 : r = 0 -> G.g β t = t
 r1 : r ≠ 0 -> G.g β t = G.g β r /\ G.nx β t (G.f β r)
structure Tp (S : Ss) (T : Tr) (G : Gh) (t : Nat) : Prop where
 b : G.b t = false
 a : G.a t = 0
 fi : ps T (G.fi t) = (S t).up
 pn : G.pn (G.la t) = 0
 nv : G.pn (S t).up ≠ G.fi t
structure Fitm (x : Sm) : Prop where
 c1 : 1 <= x.c
 lo : -1099511627776 <= x.a
 ab : x.a <= x.b
 hi : x.b <= 1099511627776
 slo : x.c * x.a <= x.s
 shi : x.s <= x.c * x.b
structure Loc (S : Ss) (T : Tr) (G : Gh) (t : Nat) : Prop where
 kl : (S t).l ≠ 0 -> Ki S T G t (S t).l
 kr : (S t).r ≠ 0 -> Ki S T G t (S t).r
 lr : (S t).l = (S t).r -> (S t).l = 0
 en : En G (G.b t) (S t).l (S t).r t
 nx : G.pn t ≠ 0 -> Th T (G.pn t) /\ ps T (G.pn t) = t
 wt : (S t).wt + G.a t = T.wt (t - 1)
 sm : (S t).sm = jn (jn (lf (S (S t).l).sm (S t).wa) (one (S t).wt)) (lf (S (S t).r).sm (S t).wa)
 fit : Fitm (S t).sm
 hu : (S t).hu = ⟨(S (S t).l).hu.c + (S t).hg.c + (S (S t).r).hu.c, (S (S t).l).hu.w + (S t).hg.w + (S (S t).r).hu.w⟩
 hgc : (S t).hg.c = Dc T t - 1 - Dc T (G.pn t)
 hgw : (S t).hg.w = Dw T t - T.wt (t - 1) - Dw T (G.pn t)
 id : (S t).l = 0 -> (S t).r = 0 -> (S t).tn = false /\ (S t).wa = 0
 tp : Top S t -> Tp S T G t
structure Lc (S : Ss) (n : Nat) (T : Tr) (G : Gh) : Prop where
 wf : T.Wf
 ft : T.Fit
 lt : ∀ t, Th T t -> t < n
 n0 : 1 <= n
 nn : n <= T.n + 1
 out : ∀ t, ¬ Th T t -> S t = Sl.zero
 p0 : G.pn 0 = 0
 loc : ∀ t, Th T t -> Loc S T G t
section
variable {S : Ss} {n : Nat} {T : Tr} {G : Gh} {t x y k : Nat}
theorem not_th0 (T : Tr) : ¬ Th T 0 := fun h => by have := h.1; omega
theorem Lc.s0 (h : Lc S n T G) : S 0 = Sl.zero := h.out 0 (not_th0 T)
theorem Lc.ok (h : Lc S n T G) (t : Nat) : (S t).sm.ok := by
 by_cases ht : Th T t
 ·have := (h.loc t ht).fit.c1
  exact ⟨by omega, fun h0 => by omega⟩
 ·rw [h.out t ht]; exact ok_zero
theorem Lc.cc (h : Lc S n T G) (ht : Th T t) : (S t).sm.c = (S (S t).l).sm.c + 1 + (S (S t).r).sm.c := by
 rw [(h.loc t ht).sm, jn_c, jn_c, lf_c, lf_c]; rfl
theorem Lc.cn (h : Lc S n T G) (t : Nat) : 0 <= (S t).sm.c := (h.ok t).1
theorem Lc.cl (h : Lc S n T G) (ht : Th T t) : (S (S t).l).sm.c < (S t).sm.c := by have := h.cc ht; have := h.cn (S t).r; omega
theorem Lc.cr (h : Lc S n T G) (ht : Th T t) : (S (S t).r).sm.c < (S t).sm.c := by have := h.cc ht; have := h.cn (S t).l; omega
theorem Lc.th_c (h : Lc S n T G) : Th T t ↔ (S t).sm.c ≠ 0 := by
 constructor
 ·intro ht; have := (h.loc t ht).fit.c1; omega
 ·intro hc; exact Classical.byContradiction fun hn => hc (by rw [h.out t hn]; rfl)
theorem Loc.act (h : Lc S n T G) (ht : Th T t) : lf (S t).sm (G.a t) = jn (jn (lf (S (S t).l).sm (G.a (S t).l)) (one (T.wt (t - 1)))) (lf (S (S t).r).sm (G.a (S t).r)) := by
 have L := h.loc t ht
 have k : ∀ j, (j ≠ 0 -> G.a j = G.a t + (S t).wa) -> lf (lf (S j).sm (S t).wa) (G.a t) = lf (S j).sm (G.a j) := fun j hj => by
  by_cases e : j = 0
  ·subst e; rw [h.s0]; show lf (lf zero _) _ = lf zero _; simp only [lf_nil]
  ·rw [lf_lf, hj e, Int.add_comm]
 rw [L.sm, lf_jn (ok_jn (ok_lf (h.ok _) _) (ok_one _)) (ok_lf (h.ok _) _), lf_jn (ok_lf (h.ok _) _) (ok_one _), lf_one, L.wt, k _ (fun e => (L.kl e).a), k _ (fun e => (L.kr e).a)]
def Pc (pn : Nat -> Nat) : List Nat -> Prop
 | [] => True
 | [_] => True
 | x :: y :: l => pn x = y /\ Pc pn (y :: l)
theorem Pc_app {pn : Nat -> Nat} : ∀ {l m : List Nat} {x y : Nat}, Pc pn (l ++ [x]) -> Pc pn (y :: m) -> pn x = y -> Pc pn (l ++ x :: y :: m)
 | [], m, x, y, _, h2, h3 => ⟨h3, h2⟩
 | [z], m, x, y, h1, h2, h3 => ⟨h1.1, h3, h2⟩
 | z :: z' :: l, m, x, y, h1, h2, h3 => ⟨h1.1, Pc_app (l := z' :: l) h1.2 h2 h3⟩
theorem Pc_app1 {pn : Nat -> Nat} {l m : List Nat} (hl : Pc pn l) (hm : Pc pn m) (h : ∀ x y l' m', l = l' ++ [x] -> m = y :: m' -> pn x = y) : Pc pn (l ++ m) := by
 rcases List.eq_nil_or_concat l with rfl | ⟨l', x, rfl⟩
 ·simpa using hm
 ·cases m with
  | nil => simpa using hl
  | cons y m' =>
   have := Pc_app (l := l') (m := m') (by simpa using hl) hm (h x y l' m' (by simp) rfl)
   simpa using this
structure Sp (S : Ss) (T : Tr) (G : Gh) (x : Nat) (l : List Nat) : Prop where
 hd : ∃ m, l = G.fi x :: m
 ls : ∃ m, l = m ++ [G.la x]
 pc : Pc G.pn l
 me : x ∈ l
 th : ∀ y ∈ l, Th T y
 nt : ∀ y ∈ l, y = x ∨ ¬ Top S y
 c : (l.length : Int) = (S x).sm.c
 s : lf (S x).sm (G.a x) = ofL (l.map (fun y => T.wt (y - 1)))
theorem Sp.comb {A B : List Nat} {L R : Nat} (hx : Th T x) (s0 : S 0 = Sl.zero)
  (hA : L = 0 /\ A = [] ∨ L ≠ 0 /\ Sp S T G L A /\ ¬ Top S L) (hB : R = 0 /\ B = [] ∨ R ≠ 0 /\ Sp S T G R B /\ ¬ Top S R)
  (e1 : L = 0 -> G.fi x = x) (e2 : L ≠ 0 -> G.fi x = G.fi L /\ G.pn (G.la L) = x) (e3 : R = 0 -> G.la x = x) (e4 : R ≠ 0 -> G.la x = G.la R /\ G.pn x = G.fi R)
  (c : (S x).sm.c = (S L).sm.c + 1 + (S R).sm.c) (s : lf (S x).sm (G.a x) = jn (jn (lf (S L).sm (G.a L)) (one (T.wt (x - 1)))) (lf (S R).sm (G.a R))) : Sp S T G x (A ++ x :: B) := by
 have z0 : (S 0).sm = zero := by rw [s0]; rfl
 have pB : Pc G.pn (x :: B) := by
  rcases hB with ⟨_, rfl⟩ | ⟨h1, h2, _⟩
  ·trivial
  ·obtain ⟨m, rfl⟩ := h2.hd
   exact ⟨(e4 h1).2, h2.pc⟩
 refine ⟨?_, ?_, ?_, by simp, ?_, ?_, ?_, ?_⟩
 ·rcases hA with ⟨h1, rfl⟩ | ⟨h1, h2, _⟩
  ·exact ⟨B, by rw [e1 h1]; rfl⟩
  ·obtain ⟨m, rfl⟩ := h2.hd
   exact ⟨m ++ x :: B, by rw [(e2 h1).1]; rfl⟩
 ·rcases hB with ⟨h1, rfl⟩ | ⟨h1, h2, _⟩
  ·exact ⟨A, by rw [e3 h1]⟩
  ·obtain ⟨m, hm⟩ := h2.ls
   exact ⟨A ++ x :: m, by rw [(e4 h1).1]; rw [hm]; simp⟩
 ·refine Pc_app1 ?_ pB ?_
  ·rcases hA with ⟨_, rfl⟩ | ⟨_, h2, _⟩
   ·trivial
   ·exact h2.pc
  ·intro y z l' m' h1 h2
   rcases hA with ⟨_, rfl⟩ | ⟨h3, h4, _⟩
   ·simp at h1
   ·obtain ⟨m, hm⟩ := h4.ls
    rw [hm] at h1
    have := List.append_inj' h1 rfl
    simp at this h2
    obtain ⟨_, rfl⟩ := this
    rw [(e2 h3).2, h2.1]
 ·intro y hy
  rcases List.mem_append.1 hy with h | h
  ·rcases hA with ⟨_, rfl⟩ | ⟨_, h2, _⟩
   ·simp at h
   ·exact h2.th y h
  ·rcases List.mem_cons.1 h with rfl | h
   ·exact hx
   ·rcases hB with ⟨_, rfl⟩ | ⟨_, h2, _⟩
    ·simp at h
    ·exact h2.th y h
 ·intro y hy
  rcases List.mem_append.1 hy with h | h
  ·rcases hA with ⟨_, rfl⟩ | ⟨_, h2, h3⟩
   ·simp at h
   ·rcases h2.nt y h with rfl | h4
    ·exact .inr h3
    ·exact .inr h4
  ·rcases List.mem_cons.1 h with rfl | h
   ·exact .inl rfl
   ·rcases hB with ⟨_, rfl⟩ | ⟨_, h2, h3⟩
    ·simp at h
    ·rcases h2.nt y h with rfl | h4
     ·exact .inr h3
     ·exact .inr h4
 ·have hl : (A.length : Int) = (S L).sm.c := by
   rcases hA with ⟨rfl, rfl⟩ | ⟨_, h2, _⟩
   ·rw [z0]; rfl
   ·exact h2.c
  have hr : (B.length : Int) = (S R).sm.c := by
   rcases hB with ⟨rfl, rfl⟩ | ⟨_, h2, _⟩
   ·rw [z0]; rfl
   ·exact h2.c
  simp; omega
 ·have hl : lf (S L).sm (G.a L) = ofL (A.map (fun y => T.wt (y - 1))) := by
   rcases hA with ⟨rfl, rfl⟩ | ⟨_, h2, _⟩
   ·rw [z0, lf_nil]; rfl
   ·exact h2.s
  have hr : lf (S R).sm (G.a R) = ofL (B.map (fun y => T.wt (y - 1))) := by
   rcases hB with ⟨rfl, rfl⟩ | ⟨_, h2, _⟩
   ·rw [z0, lf_nil]; rfl
   ·exact h2.s
  rw [s, hl, hr, List.map_append, List.map_cons, show T.wt (x - 1) :: B.map (fun y => T.wt (y - 1)) = [T.wt (x - 1)] ++ B.map (fun y => T.wt (y - 1)) from rfl, ← List.append_assoc, ofL_append, ofL_append, ofL_one]
theorem Ki.nt (h : Ki S T G t k) (hk : (S t).l = k ∨ (S t).r = k) : ¬ Top S k := fun ht => by
 unfold Top at ht; rw [h.up] at ht
 rcases hk with e | e
 ·exact ht.1 e
 ·exact ht.2 e
theorem Lc.sp (h : Lc S n T G) : ∀ (k : Nat) (x : Nat), Th T x -> (S x).sm.c <= k -> ∃ l, Sp S T G x l
 | 0, x, hx, hc => by have := (h.loc x hx).fit.c1; omega
 | k + 1, x, hx, hc => by
  have L := h.loc x hx
  have A : ∃ A, (S x).l = 0 /\ A = [] ∨ (S x).l ≠ 0 /\ Sp S T G (S x).l A /\ ¬ Top S (S x).l := by
   by_cases e : (S x).l = 0
   ·exact ⟨[], .inl ⟨e, rfl⟩⟩
   ·obtain ⟨l, hl⟩ := Lc.sp h k _ (L.kl e).th (by have := h.cl hx; omega)
    exact ⟨l, .inr ⟨e, hl, (L.kl e).nt (.inl rfl)⟩⟩
  have B : ∃ B, (S x).r = 0 /\ B = [] ∨ (S x).r ≠ 0 /\ Sp S T G (S x).r B /\ ¬ Top S (S x).r := by
   by_cases e : (S x).r = 0
   ·exact ⟨[], .inl ⟨e, rfl⟩⟩
   ·obtain ⟨l, hl⟩ := Lc.sp h k _ (L.kr e).th (by have := h.cr hx; omega)
    exact ⟨l, .inr ⟨e, hl, (L.kr e).nt (.inr rfl)⟩⟩
  obtain ⟨A, hA⟩ := A
  obtain ⟨B, hB⟩ := B
  have hs := Loc.act h hx
  have hc2 := h.cc hx
  have en := L.en
  cases hb : G.b x
  ·rw [hb] at en
   exact ⟨A ++ x :: B, Sp.comb hx h.s0 hA hB (fun e => en.l0 e) (fun e => en.l1 e) (fun e => en.r0 e) (fun e => en.r1 e) hc2 hs⟩
  ·rw [hb] at en
   refine ⟨B ++ x :: A, Sp.comb hx h.s0 hB hA (fun e => en.r0 e) (fun e => en.r1 e) (fun e => en.l0 e) (fun e => en.l1 e) (by omega) ?_⟩
   have o1 := ok_lf (h.ok (S x).l) (G.a (S x).l)
   have o2 := ok_lf (h.ok (S x).r) (G.a (S x).r)
   rw [hs, jn_comm (ok_jn o1 (ok_one _)) o2, jn_comm o1 (ok_one _), jn_assoc o2 (ok_one _) o1]
theorem Lc.spell (h : Lc S n T G) (hx : Th T x) : ∃ l, Sp S T G x l := h.sp (S x).sm.c.toNat x hx (by omega)
theorem Lc.tele (h : Lc S n T G) : ∀ (k : Nat) (x : Nat), Th T x -> (S x).sm.c <= k -> (S x).hu.c + (S x).sm.c = Dc T (G.fi x) - Dc T (G.pn (G.la x)) /\ (S x).hu.w + (lf (S x).sm (G.a x)).s = Dw T (G.fi x) - Dw T (G.pn (G.la x))
 | 0, x, hx, hc => by have := (h.loc x hx).fit.c1; omega
 | k + 1, x, hx, hc => by
  have L := h.loc x hx
  have hs := Loc.act h hx
  have o1 := ok_lf (h.ok (S x).l) (G.a (S x).l)
  have o2 := ok_lf (h.ok (S x).r) (G.a (S x).r)
  have hs' : (lf (S x).sm (G.a x)).s = (lf (S (S x).l).sm (G.a (S x).l)).s + T.wt (x - 1) + (lf (S (S x).r).sm (G.a (S x).r)).s := by
   rw [hs, jn_s (ok_jn o1 (ok_one _)) o2, jn_s o1 (ok_one _), one_s]
  have hc2 := h.cc hx
  have z : ∀ j, j = 0 -> (S j).hu.c = 0 /\ (S j).hu.w = 0 /\ (S j).sm.c = 0 /\ (lf (S j).sm (G.a j)).s = 0 := fun j e => by
   subst e; rw [h.s0]; exact ⟨rfl, rfl, rfl, by show (lf zero _).s = 0; rw [lf_nil]; rfl⟩
  have A : (S x).l ≠ 0 -> _ := fun e => Lc.tele h k _ (L.kl e).th (by have := h.cl hx; omega)
  have B : (S x).r ≠ 0 -> _ := fun e => Lc.tele h k _ (L.kr e).th (by have := h.cr hx; omega)
  have en := L.en
  have u1 := congrArg Ms.c L.hu
  have u2 := congrArg Ms.w L.hu
  have v1 := L.hgc
  have v2 := L.hgw
  simp only at u1 u2
  have main : ∀ P Q : Nat, ((S P).hu.c + (S P).sm.c + ((S Q).hu.c + (S Q).sm.c) + (S x).hg.c + 1 = (S x).hu.c + (S x).sm.c /\ (S P).hu.w + (lf (S P).sm (G.a P)).s + ((S Q).hu.w + (lf (S Q).sm (G.a Q)).s) + (S x).hg.w + T.wt (x - 1) = (S x).hu.w + (lf (S x).sm (G.a x)).s) →
    (P ≠ 0 -> (S P).hu.c + (S P).sm.c = Dc T (G.fi P) - Dc T (G.pn (G.la P)) /\ (S P).hu.w + (lf (S P).sm (G.a P)).s = Dw T (G.fi P) - Dw T (G.pn (G.la P))) →
    (Q ≠ 0 -> (S Q).hu.c + (S Q).sm.c = Dc T (G.fi Q) - Dc T (G.pn (G.la Q)) /\ (S Q).hu.w + (lf (S Q).sm (G.a Q)).s = Dw T (G.fi Q) - Dw T (G.pn (G.la Q))) →
    (P = 0 -> G.fi x = x) -> (P ≠ 0 -> G.fi x = G.fi P /\ G.pn (G.la P) = x) -> (Q = 0 -> G.la x = x) -> (Q ≠ 0 -> G.la x = G.la Q /\ G.pn x = G.fi Q) →
    (S x).hu.c + (S x).sm.c = Dc T (G.fi x) - Dc T (G.pn (G.la x)) /\ (S x).hu.w + (lf (S x).sm (G.a x)).s = Dw T (G.fi x) - Dw T (G.pn (G.la x)) := by
   intro P Q hh hP hQ e1 e2 e3 e4
   by_cases p : P = 0
   ·obtain ⟨z1, z2, z3, z4⟩ := z P p
    rw [e1 p]
    by_cases q : Q = 0
    ·obtain ⟨y1, y2, y3, y4⟩ := z Q q
     rw [e3 q]; omega
    ·obtain ⟨f1, f2⟩ := e4 q
     obtain ⟨g1, g2⟩ := hQ q
     rw [← f1, ← f2] at g1 g2
     omega
   ·obtain ⟨f1, f2⟩ := e2 p
    obtain ⟨g1, g2⟩ := hP p
    rw [← f1, f2] at g1 g2
    by_cases q : Q = 0
    ·obtain ⟨y1, y2, y3, y4⟩ := z Q q
     rw [e3 q]; omega
    ·obtain ⟨f3, f4⟩ := e4 q
     obtain ⟨g3, g4⟩ := hQ q
     rw [← f3, ← f4] at g3 g4
     omega
  cases hb : G.b x
  ·rw [hb] at en
   exact main (S x).l (S x).r ⟨by omega, by omega⟩ A B (fun e => en.l0 e) (fun e => en.l1 e) (fun e => en.r0 e) (fun e => en.r1 e)
  ·rw [hb] at en
   exact main (S x).r (S x).l ⟨by omega, by omega⟩ B A (fun e => en.r0 e) (fun e => en.r1 e) (fun e => en.l0 e) (fun e => en.l1 e)
theorem Lc.whole (h : Lc S n T G) (hx : Th T x) : (S x).hu.c + (S x).sm.c = Dc T (G.fi x) - Dc T (G.pn (G.la x)) /\ (S x).hu.w + (lf (S x).sm (G.a x)).s = Dw T (G.fi x) - Dw T (G.pn (G.la x)) := h.tele (S x).sm.c.toNat x hx (by omega)
end
section
variable {S S1 : Ss} {n : Nat} {T : Tr} {G G1 : Gh} {t x y k : Nat} {d : Int}
theorem jn_a {x y : Sm} (hx : x.c ≠ 0) : (jn x y).a <= x.a /\ x.b <= (jn x y).b := by
 unfold jn; rw [if_neg hx]; split
 ·omega
 ·dsimp only; omega
theorem jn_a' {x y : Sm} (hy : y.c ≠ 0) : (jn x y).a <= y.a /\ y.b <= (jn x y).b := by
 unfold jn; split
 ·omega
 ·first | (rw [if_neg hy]; dsimp only; omega) | (dsimp only; omega)
theorem lf_ab {x : Sm} (hx : x.c ≠ 0) (d : Int) : (lf x d).a = x.a + d /\ (lf x d).b = x.b + d /\ (lf x d).s = x.s + x.c * d := by
 unfold lf; rw [if_neg hx]; exact ⟨rfl, rfl, rfl⟩
theorem Lc.kid_c (h : Lc S n T G) (hk : Th T k) : (S k).sm.c ≠ 0 := by have := (h.loc k hk).fit.c1; omega
theorem Lc.up_kid (h : Lc S n T G) (ht : Th T t) (hk : k = (S t).l ∨ k = (S t).r) (h0 : k ≠ 0) : Ki S T G t k := by
 rcases hk with rfl | rfl
 ·exact (h.loc t ht).kl h0
 ·exact (h.loc t ht).kr h0
theorem Lc.kid_ne (h : Lc S n T G) (ht : Th T t) (hk : k = (S t).l ∨ k = (S t).r) : k ≠ t := by
 rintro rfl
 rcases hk with e | e
 ·have := h.cl ht; rw [← e] at this; omega
 ·have := h.cr ht; rw [← e] at this; omega
theorem Lc.alone (h : Lc S n T G) (ht : Th T t) (hc : ¬ 1 < (S t).sm.c) : (S t).l = 0 /\ (S t).r = 0 := by
 have L := h.loc t ht
 have h1 := h.cc ht
 have h2 := h.cn (S t).l
 have h3 := h.cn (S t).r
 refine ⟨Classical.byContradiction fun e => ?_, Classical.byContradiction fun e => ?_⟩
 ·have := (h.loc _ (L.kl e).th).fit.c1; omega
 ·have := (h.loc _ (L.kr e).th).fit.c1; omega
theorem Lc.ab (h : Lc S n T G) (ht : Th T t) : (S t).sm.a <= (S t).wt /\ (S t).wt <= (S t).sm.b /\ ∀ k, k ≠ 0 -> k = (S t).l ∨ k = (S t).r -> (S t).sm.a <= (S k).sm.a + (S t).wa /\ (S k).sm.b + (S t).wa <= (S t).sm.b := by
 have L := h.loc t ht
 have e := L.sm
 have o : (one (S t).wt).c ≠ 0 := by simp [one]
 have o1 : (jn (lf (S (S t).l).sm (S t).wa) (one (S t).wt)).c ≠ 0 := by
  rw [jn_c, lf_c, one_c]; have := h.cn (S t).l; omega
 have p1 := jn_a (y := lf (S (S t).r).sm (S t).wa) o1
 have p2 := jn_a' (x := lf (S (S t).l).sm (S t).wa) o
 rw [← e] at p1
 refine ⟨?_, ?_, fun k k0 hk => ?_⟩
 ·have : (one (S t).wt).a = (S t).wt := rfl
  omega
 ·have : (one (S t).wt).b = (S t).wt := rfl
  omega
 ·have K := h.up_kid ht hk k0
  have kc := h.kid_c K.th
  have kl : (lf (S k).sm (S t).wa).c ≠ 0 := by rw [lf_c]; exact kc
  have ab := lf_ab kc (S t).wa
  rcases hk with rfl | rfl
  ·have p3 := jn_a (y := one (S t).wt) kl
   omega
  ·have p3 := jn_a' (x := jn (lf (S (S t).l).sm (S t).wa) (one (S t).wt)) kl
   rw [← e] at p3
   omega
theorem En.flip {β : Bool} {l r : Nat} (h : En G β l r t) : En G (!β) r l t := by
 obtain ⟨h1, h2, h3, h4⟩ := h
 cases β
 ·exact ⟨h3, h4, h1, h2⟩
 ·exact ⟨h3, h4, h1, h2⟩
theorem En.nil {β β' : Bool} (h : En G β 0 0 t) : En G β' 0 0 t := by
 obtain ⟨h1, h2, h3, h4⟩ := h
 have h1 := h1 rfl
 have h3 := h3 rfl
 cases β <;> cases β' <;> simp [Gh.f, Gh.g] at h1 h3 ⊢ <;> refine ⟨fun _ => ?_, fun e => absurd rfl e, fun _ => ?_, fun e => absurd rfl e⟩ <;> simp [Gh.f, Gh.g, h1, h3]
theorem En.gh {β : Bool} {l r : Nat} (h : En G β l r t) (e1 : G1.fi = G.fi) (e2 : G1.la = G.la) (e3 : G1.pn = G.pn) : En G1 β l r t := by
 have f : G1.f = G.f := by funext β; unfold Gh.f; rw [e1, e2]
 have g : G1.g = G.g := by funext β; unfold Gh.g; rw [e1, e2]
 have nx : G1.nx = G.nx := by funext β; unfold Gh.nx; rw [e3]
 obtain ⟨h1, h2, h3, h4⟩ := h
 exact ⟨by rw [f]; exact h1, by rw [f, g, nx]; exact h2, by rw [g]; exact h3, by rw [f, g, nx]; exact h4⟩
structure Like (S S1 : Ss) (G G1 : Gh) : Prop where
 fi : G1.fi = G.fi
 la : G1.la = G.la
 pn : G1.pn = G.pn
 up : ∀ y, (S1 y).up = (S y).up
 lr : ∀ y, ((S1 y).l = (S y).l /\ (S1 y).r = (S y).r) ∨ ((S1 y).l = (S y).r /\ (S1 y).r = (S y).l)
 c : ∀ y, (S1 y).sm.c = (S y).sm.c
theorem Like.refl : Like S S G G := ⟨rfl, rfl, rfl, fun _ => rfl, fun _ => .inl ⟨rfl, rfl⟩, fun _ => rfl⟩
theorem Like.trans {S2 : Ss} {G2 : Gh} (h : Like S S1 G G1) (k : Like S1 S2 G1 G2) : Like S S2 G G2 := by
 refine ⟨k.fi.trans h.fi, k.la.trans h.la, k.pn.trans h.pn, fun y => (k.up y).trans (h.up y), fun y => ?_, fun y => (k.c y).trans (h.c y)⟩
 rcases h.lr y with ⟨h1, h2⟩ | ⟨h1, h2⟩ <;> rcases k.lr y with ⟨k1, k2⟩ | ⟨k1, k2⟩ <;> simp [h1, h2, k1, k2]
theorem Like.top (h : Like S S1 G G1) (y : Nat) : Top S1 y ↔ Top S y := by
 unfold Top; rw [h.up]
 rcases h.lr (S y).up with ⟨h1, h2⟩ | ⟨h1, h2⟩ <;> rw [h1, h2]
 exact And.comm
theorem Tp.like (h : Tp S T G t) (k : Like S S1 G G1) (hb : G1.b t = false) (ha : G1.a t = 0) : Tp S1 T G1 t :=
 ⟨hb, ha, by rw [k.fi, k.up]; exact h.fi, by rw [k.pn, k.la]; exact h.pn, by rw [k.pn, k.fi, k.up]; exact h.nv⟩
theorem Loc.flip (h : Lc S n T G) (hx : Th T x) (k : Like S S1 G G1) (ha : G1.a = G.a) (hs : ∀ y, (S1 y).sm = (S y).sm /\ (S1 y).hu = (S y).hu) (hg : (S1 x).hg = (S x).hg) (hw : (S1 x).wt = (S x).wt) (hwa : (S1 x).wa = (S x).wa)
  (hb : ∀ k, k ≠ 0 -> k = (S x).l ∨ k = (S x).r -> G1.b k = (G1.b x != (S1 x).tn)) (hen : En G (G1.b x) (S1 x).l (S1 x).r x) (hid : (S x).l = 0 -> (S x).r = 0 -> (S1 x).tn = false) (htop : Top S x -> G1.b x = false) : Loc S1 T G1 x := by
 have L := h.loc x hx
 have KK : ∀ j, j ≠ 0 -> j = (S x).l ∨ j = (S x).r -> Ki S1 T G1 x j := fun j j0 hj => by
  have K := h.up_kid hx hj j0
  exact ⟨K.th, by rw [k.up]; exact K.up, hb j j0 hj, by rw [ha, hwa]; exact K.a⟩
 have hl := (ok_lf (h.ok (S x).l) (S x).wa)
 have hr := (ok_lf (h.ok (S x).r) (S x).wa)
 have o := ok_one (S x).wt
 refine ⟨fun e => KK _ e ?_, fun e => KK _ e ?_, ?_, hen.gh k.fi k.la k.pn, by rw [k.pn]; exact L.nx, by rw [hw, ha]; exact L.wt, ?_, by rw [(hs x).1]; exact L.fit, ?_, by rw [hg, k.pn]; exact L.hgc, by rw [hg, k.pn]; exact L.hgw, ?_, fun ht => ?_⟩
 ·rcases k.lr x with ⟨h1, h2⟩ | ⟨h1, h2⟩ <;> simp [h1]
 ·rcases k.lr x with ⟨h1, h2⟩ | ⟨h1, h2⟩ <;> simp [h2]
 ·rcases k.lr x with ⟨h1, h2⟩ | ⟨h1, h2⟩ <;> rw [h1, h2]
  ·exact L.lr
  ·intro e; rw [e]; exact L.lr e.symm
 ·rw [(hs _).1, (hs _).1, (hs _).1, hw, hwa]
  rcases k.lr x with ⟨h1, h2⟩ | ⟨h1, h2⟩ <;> rw [h1, h2]
  ·exact L.sm
  ·rw [L.sm, jn_comm (ok_jn hl o) hr, jn_comm hl o, jn_assoc hr o hl]
 ·rw [(hs _).2, (hs _).2, (hs _).2, hg]
  rcases k.lr x with ⟨h1, h2⟩ | ⟨h1, h2⟩ <;> rw [h1, h2, L.hu]
  congr 1 <;> omega
 ·rcases k.lr x with ⟨h1, h2⟩ | ⟨h1, h2⟩ <;> rw [h1, h2, hwa]
  ·exact fun a b => ⟨hid a b, (L.id a b).2⟩
  ·exact fun a b => ⟨hid b a, (L.id b a).2⟩
 ·have ht' := (k.top x).1 ht
  exact (L.tp ht').like k (htop ht') (by rw [ha]; exact (L.tp ht').a)
def flipS (x : Sl) : Sl := if 1 < x.sm.c then { x with l := x.r, r := x.l, tn := !x.tn } else x
theorem turnS_at (S : Ss) (t : Nat) : turnS S t t = flipS (S t) := by unfold turnS flipS; split <;> simp [upd]
theorem settleT_at (S : Ss) (t : Nat) (hl : (S t).l ≠ t) (hr : (S t).r ≠ t) (hlr : (S t).l = (S t).r -> (S t).l = 0) (h0 : S 0 = Sl.zero) (htn : (S t).tn = true) (x : Nat) :
  settleT S t x = if x = t then { S t with tn := false } else if x = (S t).l ∨ x = (S t).r then flipS (S x) else S x := by
 have f0 : flipS Sl.zero = Sl.zero := rfl
 unfold settleT
 rw [if_pos htn]
 by_cases e : x = t
 ·subst e; rw [if_pos rfl, turnS_ne _ (fun e => hr e.symm), turnS_ne _ (fun e => hl e.symm), upd_same]
 rw [if_neg e]
 by_cases e2 : x = (S t).r
 ·rw [if_pos (.inr e2), e2, turnS_at]
  by_cases e3 : (S t).l = (S t).r
  ·have z := hlr e3
   rw [z] at e3
   rw [← e3, z, turnS_at]
   rw [← e3] at hr
   rw [upd_ne _ _ hr, h0, f0, f0]
  ·rw [turnS_ne _ (fun e => e3 e.symm), upd_ne _ _ hr]
 ·rw [turnS_ne _ e2]
  by_cases e3 : x = (S t).l
  ·rw [if_pos (.inl e3), e3, turnS_at, upd_ne _ _ hl]
  ·rw [if_neg (fun h => h.elim e3 e2), turnS_ne _ e3, upd_ne _ _ e]
theorem flipS_sm (x : Sl) : (flipS x).sm = x.sm /\ (flipS x).hu = x.hu /\ (flipS x).hg = x.hg /\ (flipS x).wt = x.wt /\ (flipS x).wa = x.wa /\ (flipS x).up = x.up := by unfold flipS; split <;> simp
theorem flipS_lr (x : Sl) : ((flipS x).l = x.l /\ (flipS x).r = x.r) ∨ ((flipS x).l = x.r /\ (flipS x).r = x.l) := by unfold flipS; split <;> simp
theorem Lc.settleT (h : Lc S n T G) (ht : Th T t) : ∃ G1, Lc (settleT S t) n T G1 /\ Like S (settleT S t) G G1 /\ G1.b t = G.b t /\ G1.a = G.a /\ (settleT S t t).tn = false /\ (settleT S t t).wa = (S t).wa /\ (settleT S t t).l = (S t).l /\ (settleT S t t).r = (S t).r := by
 have L := h.loc t ht
 have hl : (S t).l ≠ t := h.kid_ne ht (.inl rfl)
 have hr : (S t).r ≠ t := h.kid_ne ht (.inr rfl)
 cases htn : (S t).tn
 ·have e : Go.Proofs.Ytjnkgakajenoaaa.settleT S t = S := by unfold Go.Proofs.Ytjnkgakajenoaaa.settleT; rw [htn]; rfl
  rw [e]; exact ⟨G, h, Like.refl, rfl, rfl, htn, rfl, rfl, rfl⟩
 have at1 := settleT_at S t hl hr L.lr h.s0 htn
 generalize Go.Proofs.Ytjnkgakajenoaaa.settleT S t = S1 at at1 ⊢
 have fl : ∀ y, (S1 y).sm = (S y).sm /\ (S1 y).hu = (S y).hu /\ (S1 y).hg = (S y).hg /\ (S1 y).wt = (S y).wt /\ (S1 y).wa = (S y).wa /\ (S1 y).up = (S y).up := fun y => by
  rw [at1]; split
  ·rename_i e; subst e; simp
  ·split
   ·exact flipS_sm _
   ·simp
 have lk : Like S S1 G { G with b := fun x => if x = (S t).l ∨ x = (S t).r then !(G.b x) else G.b x } := by
  refine ⟨rfl, rfl, rfl, fun y => (fl y).2.2.2.2.2, fun y => ?_, fun y => by rw [(fl y).1]⟩
  rw [at1]; split
  ·rename_i e; subst e; simp
  ·split
   ·exact flipS_lr _
   ·simp
 have bt : (if t = (S t).l ∨ t = (S t).r then !(G.b t) else G.b t) = G.b t := if_neg fun e => e.elim (fun e => hl e.symm) (fun e => hr e.symm)
 refine ⟨{ G with b := fun x => if x = (S t).l ∨ x = (S t).r then !(G.b x) else G.b x }, ⟨h.wf, h.ft, h.lt, h.n0, h.nn, fun x hx => ?_, h.p0, fun x hx => ?_⟩, lk, bt, rfl, by rw [at1]; simp, by rw [at1]; simp, by rw [at1]; simp, by rw [at1]; simp⟩
 ·rw [at1, if_neg (show ¬ x = t from fun e => hx (by rw [e]; exact ht)), h.out x hx]
  split <;> rfl
 ·have Lx := h.loc x hx
  refine Loc.flip h hx lk rfl (fun y => ⟨(fl y).1, (fl y).2.1⟩) (fl x).2.2.1 (fl x).2.2.2.1 (fl x).2.2.2.2.1 ?_ ?_ ?_ ?_
  ·intro j j0 hj
   have K := h.up_kid hx hj j0
   by_cases e : x = t
   ·subst e
    rw [show ({ G with b := fun y => if y = (S x).l ∨ y = (S x).r then !(G.b y) else G.b y } : Gh).b j = !(G.b j) from if_pos hj, show ({ G with b := fun y => if y = (S x).l ∨ y = (S x).r then !(G.b y) else G.b y } : Gh).b x = G.b x from bt, at1, if_pos rfl, K.b, htn]
    cases G.b x <;> rfl
   ·have jn : ¬ (j = (S t).l ∨ j = (S t).r) := fun hj2 => e (by rw [← K.up]; exact (h.up_kid ht hj2 j0).up)
    show (if j = (S t).l ∨ j = (S t).r then !(G.b j) else G.b j) = ((if x = (S t).l ∨ x = (S t).r then !(G.b x) else G.b x) != (S1 x).tn)
    rw [if_neg jn, at1, if_neg e]
    by_cases ek : x = (S t).l ∨ x = (S t).r
    ·rw [if_pos ek, if_pos ek, K.b, flipS]
     have hc : 1 < (S x).sm.c := Classical.byContradiction fun hc => by
      have := h.alone hx hc
      rcases hj with rfl | rfl <;> omega
     rw [if_pos hc]
     cases G.b x <;> cases (S x).tn <;> rfl
    ·rw [if_neg ek, if_neg ek]; exact K.b
  ·show En G (if x = (S t).l ∨ x = (S t).r then !(G.b x) else G.b x) _ _ _
   by_cases e : x = t
   ·subst e; rw [bt, at1, if_pos rfl]; exact L.en
   ·rw [at1, if_neg e]
    by_cases ek : x = (S t).l ∨ x = (S t).r
    ·rw [if_pos ek, if_pos ek, flipS]
     split
     ·exact Lx.en.flip
     ·rename_i hc
      obtain ⟨z1, z2⟩ := h.alone hx hc
      have := Lx.en
      rw [z1, z2] at this ⊢
      exact this.nil
    ·rw [if_neg ek, if_neg ek]; exact Lx.en
  ·intro a b
   rw [at1]
   split
   ·rfl
   ·split
    ·have : ¬ 1 < (S x).sm.c := by
      have := h.cc hx
      rw [a, b, h.s0] at this
      have : (S x).sm.c = 0 + 1 + 0 := this
      omega
     rw [flipS, if_neg this]; exact (Lx.id a b).1
    ·exact (Lx.id a b).1
  ·intro htop
   show (if x = (S t).l ∨ x = (S t).r then !(G.b x) else G.b x) = false
   have : ¬ (x = (S t).l ∨ x = (S t).r) := fun e => by
    have x0 : x ≠ 0 := by have := hx.1; omega
    have K := h.up_kid ht e x0
    exact K.nt (by rcases e with e | e <;> simp [e]) htop
   rw [if_neg this]; exact (Lx.tp htop).b
end
end Go.Proofs.Ytjnkgakajenoaaa

/- The program's forest (part 3 of its contracts and the laws' common texts). -/
import Derived.Test.YtjnkgakajenoaaaL1
import Derived.Test.YtjnkgakajenoaaaL2
import Derived.Deep.LoopGhost
/- Plain mathematics for link: what holds of the slots, and what a part spells. No Go in sight. -/

namespace Go.Proofs.Ytjnkgakajenoaaa
set_option linter.unusedVariables false
set_option linter.unusedSimpArgs false

theorem lf_zero (x : Sm) : lf x 0 = x := by unfold lf; split <;> simp
theorem lf_lf (x : Sm) (m n : Int) : lf (lf x m) n = lf x (m + n) := by
  by_cases h : x.c = 0
  · simp [lf, h]
  · simp only [lf, h, if_false]
    exact Sm.same rfl (by simp [Int.mul_add]; omega) (by simp; omega) (by simp; omega)
theorem lf_nil (n : Int) : lf zero n = zero := by simp [lf, zero]
theorem ok_lf {x : Sm} (h : x.ok) (n : Int) : (lf x n).ok := by
  refine ⟨by rw [lf_c]; exact h.1, fun h0 => ?_⟩
  rw [lf_c] at h0
  rw [h.2 h0, lf_nil]
theorem jn_c {x y : Sm} : (jn x y).c = x.c + y.c := by
  unfold jn; split
  · omega
  · split
    · omega
    · rfl
theorem jn_s {x y : Sm} (hx : x.ok) (hy : y.ok) : (jn x y).s = x.s + y.s := by
  unfold jn; split
  · rename_i h; rw [hx.2 h]; simp [zero]
  · split
    · rename_i h; rw [hy.2 h]; simp [zero]
    · rfl
theorem one_c (n : Int) : (one n).c = 1 := rfl
theorem one_s (n : Int) : (one n).s = n := rfl

/-- What is thought of beside the slots: what waits above a slot, the ends of its part, and who is next down its path. -/
structure Gh where
  b : Nat → Bool
  a : Nat → Int
  fi : Nat → Nat
  la : Nat → Nat
  pn : Nat → Nat
def Gh.f (G : Gh) (β : Bool) : Nat → Nat := if β then G.la else G.fi
def Gh.g (G : Gh) (β : Bool) : Nat → Nat := if β then G.fi else G.la
def Gh.nx (G : Gh) (β : Bool) (x y : Nat) : Prop := if β then G.pn y = x else G.pn x = y
def Top (S : Ss) (t : Nat) : Prop := (S (S t).up).l ≠ t ∧ (S (S t).up).r ≠ t

structure Ki (S : Ss) (T : Tr) (G : Gh) (t k : Nat) : Prop where
  th : Th T k
  up : (S k).up = t
  b : G.b k = (G.b t != (S t).tn)
  a : G.a k = G.a t + (S t).wa
structure En (G : Gh) (β : Bool) (l r t : Nat) : Prop where
  l0 : l = 0 → G.f β t = t
  l1 : l ≠ 0 → G.f β t = G.f β l ∧ G.nx β (G.g β l) t
  r0 : r = 0 → G.g β t = t
  r1 : r ≠ 0 → G.g β t = G.g β r ∧ G.nx β t (G.f β r)
structure Tp (S : Ss) (T : Tr) (G : Gh) (t : Nat) : Prop where
  b : G.b t = false
  a : G.a t = 0
  fi : ps T (G.fi t) = (S t).up
  pn : G.pn (G.la t) = 0
  nv : G.pn (S t).up ≠ G.fi t
structure Fitm (x : Sm) : Prop where
  c1 : 1 ≤ x.c
  lo : -1099511627776 ≤ x.a
  ab : x.a ≤ x.b
  hi : x.b ≤ 1099511627776
  slo : x.c * x.a ≤ x.s
  shi : x.s ≤ x.c * x.b
structure Loc (S : Ss) (T : Tr) (G : Gh) (t : Nat) : Prop where
  kl : (S t).l ≠ 0 → Ki S T G t (S t).l
  kr : (S t).r ≠ 0 → Ki S T G t (S t).r
  lr : (S t).l = (S t).r → (S t).l = 0
  en : En G (G.b t) (S t).l (S t).r t
  nx : G.pn t ≠ 0 → Th T (G.pn t) ∧ ps T (G.pn t) = t
  wt : (S t).wt + G.a t = T.wt (t - 1)
  sm : (S t).sm = jn (jn (lf (S (S t).l).sm (S t).wa) (one (S t).wt)) (lf (S (S t).r).sm (S t).wa)
  fit : Fitm (S t).sm
  hu : (S t).hu = ⟨(S (S t).l).hu.c + (S t).hg.c + (S (S t).r).hu.c, (S (S t).l).hu.w + (S t).hg.w + (S (S t).r).hu.w⟩
  hgc : (S t).hg.c = Dc T t - 1 - Dc T (G.pn t)
  hgw : (S t).hg.w = Dw T t - T.wt (t - 1) - Dw T (G.pn t)
  id : (S t).l = 0 → (S t).r = 0 → (S t).tn = false ∧ (S t).wa = 0
  tp : Top S t → Tp S T G t
structure Lc (S : Ss) (n : Nat) (T : Tr) (G : Gh) : Prop where
  wf : T.Wf
  ft : T.Fit
  lt : ∀ t, Th T t → t < n
  n0 : 1 ≤ n
  nn : n ≤ T.n + 1
  out : ∀ t, ¬ Th T t → S t = Sl.zero
  p0 : G.pn 0 = 0
  loc : ∀ t, Th T t → Loc S T G t

section
variable {S : Ss} {n : Nat} {T : Tr} {G : Gh} {t x y k : Nat}
theorem not_th0 (T : Tr) : ¬ Th T 0 := fun h => by have := h.1; omega
theorem Lc.s0 (h : Lc S n T G) : S 0 = Sl.zero := h.out 0 (not_th0 T)
theorem Lc.ok (h : Lc S n T G) (t : Nat) : (S t).sm.ok := by
  by_cases ht : Th T t
  · have := (h.loc t ht).fit.c1
    exact ⟨by omega, fun h0 => by omega⟩
  · rw [h.out t ht]; exact ok_zero
theorem Lc.cc (h : Lc S n T G) (ht : Th T t) : (S t).sm.c = (S (S t).l).sm.c + 1 + (S (S t).r).sm.c := by
  rw [(h.loc t ht).sm, jn_c, jn_c, lf_c, lf_c]; rfl
theorem Lc.cn (h : Lc S n T G) (t : Nat) : 0 ≤ (S t).sm.c := (h.ok t).1
theorem Lc.cl (h : Lc S n T G) (ht : Th T t) : (S (S t).l).sm.c < (S t).sm.c := by have := h.cc ht; have := h.cn (S t).r; omega
theorem Lc.cr (h : Lc S n T G) (ht : Th T t) : (S (S t).r).sm.c < (S t).sm.c := by have := h.cc ht; have := h.cn (S t).l; omega
theorem Lc.th_c (h : Lc S n T G) : Th T t ↔ (S t).sm.c ≠ 0 := by
  constructor
  · intro ht; have := (h.loc t ht).fit.c1; omega
  · intro hc; exact Classical.byContradiction fun hn => hc (by rw [h.out t hn]; rfl)
/-- What the part comes to, with all that waits. -/
theorem Loc.act (h : Lc S n T G) (ht : Th T t) : lf (S t).sm (G.a t) = jn (jn (lf (S (S t).l).sm (G.a (S t).l)) (one (T.wt (t - 1)))) (lf (S (S t).r).sm (G.a (S t).r)) := by
  have L := h.loc t ht
  have k : ∀ j, (j ≠ 0 → G.a j = G.a t + (S t).wa) → lf (lf (S j).sm (S t).wa) (G.a t) = lf (S j).sm (G.a j) := fun j hj => by
    by_cases e : j = 0
    · subst e; rw [h.s0]; show lf (lf zero _) _ = lf zero _; simp only [lf_nil]
    · rw [lf_lf, hj e, Int.add_comm]
  rw [L.sm, lf_jn (ok_jn (ok_lf (h.ok _) _) (ok_one _)) (ok_lf (h.ok _) _), lf_jn (ok_lf (h.ok _) _) (ok_one _), lf_one, L.wt, k _ (fun e => (L.kl e).a), k _ (fun e => (L.kr e).a)]

def Pc (pn : Nat → Nat) : List Nat → Prop
  | [] => True
  | [_] => True
  | x :: y :: l => pn x = y ∧ Pc pn (y :: l)
theorem Pc_tail {pn : Nat → Nat} {x : Nat} {l : List Nat} (h : Pc pn (x :: l)) : Pc pn l := by
  cases l with
  | nil => trivial
  | cons y l => exact h.2
theorem Pc_app {pn : Nat → Nat} : ∀ {l m : List Nat} {x y : Nat}, Pc pn (l ++ [x]) → Pc pn (y :: m) → pn x = y → Pc pn (l ++ x :: y :: m)
  | [], m, x, y, _, h2, h3 => ⟨h3, h2⟩
  | [z], m, x, y, h1, h2, h3 => ⟨h1.1, h3, h2⟩
  | z :: z' :: l, m, x, y, h1, h2, h3 => ⟨h1.1, Pc_app (l := z' :: l) h1.2 h2 h3⟩
theorem Pc_app1 {pn : Nat → Nat} {l m : List Nat} (hl : Pc pn l) (hm : Pc pn m) (h : ∀ x y l' m', l = l' ++ [x] → m = y :: m' → pn x = y) : Pc pn (l ++ m) := by
  rcases List.eq_nil_or_concat l with rfl | ⟨l', x, rfl⟩
  · simpa using hm
  · cases m with
    | nil => simpa using hl
    | cons y m' =>
      have := Pc_app (l := l') (m := m') (by simpa using hl) hm (h x y l' m' (by simp) rfl)
      simpa using this

structure Sp (S : Ss) (T : Tr) (G : Gh) (x : Nat) (l : List Nat) : Prop where
  hd : ∃ m, l = G.fi x :: m
  ls : ∃ m, l = m ++ [G.la x]
  pc : Pc G.pn l
  me : x ∈ l
  th : ∀ y ∈ l, Th T y
  nt : ∀ y ∈ l, y = x ∨ ¬ Top S y
  c : (l.length : Int) = (S x).sm.c
  s : lf (S x).sm (G.a x) = ofL (l.map (fun y => T.wt (y - 1)))

theorem Sp.comb {A B : List Nat} {L R : Nat} (hx : Th T x) (s0 : S 0 = Sl.zero)
    (hA : L = 0 ∧ A = [] ∨ L ≠ 0 ∧ Sp S T G L A ∧ ¬ Top S L) (hB : R = 0 ∧ B = [] ∨ R ≠ 0 ∧ Sp S T G R B ∧ ¬ Top S R)
    (e1 : L = 0 → G.fi x = x) (e2 : L ≠ 0 → G.fi x = G.fi L ∧ G.pn (G.la L) = x) (e3 : R = 0 → G.la x = x) (e4 : R ≠ 0 → G.la x = G.la R ∧ G.pn x = G.fi R)
    (c : (S x).sm.c = (S L).sm.c + 1 + (S R).sm.c) (s : lf (S x).sm (G.a x) = jn (jn (lf (S L).sm (G.a L)) (one (T.wt (x - 1)))) (lf (S R).sm (G.a R))) : Sp S T G x (A ++ x :: B) := by
  have z0 : (S 0).sm = zero := by rw [s0]; rfl
  have pB : Pc G.pn (x :: B) := by
    rcases hB with ⟨_, rfl⟩ | ⟨h1, h2, _⟩
    · trivial
    · obtain ⟨m, rfl⟩ := h2.hd
      exact ⟨(e4 h1).2, h2.pc⟩
  refine ⟨?_, ?_, ?_, by simp, ?_, ?_, ?_, ?_⟩
  · rcases hA with ⟨h1, rfl⟩ | ⟨h1, h2, _⟩
    · exact ⟨B, by rw [e1 h1]; rfl⟩
    · obtain ⟨m, rfl⟩ := h2.hd
      exact ⟨m ++ x :: B, by rw [(e2 h1).1]; rfl⟩
  · rcases hB with ⟨h1, rfl⟩ | ⟨h1, h2, _⟩
    · exact ⟨A, by rw [e3 h1]⟩
    · obtain ⟨m, hm⟩ := h2.ls
      exact ⟨A ++ x :: m, by rw [(e4 h1).1]; rw [hm]; simp⟩
  · refine Pc_app1 ?_ pB ?_
    · rcases hA with ⟨_, rfl⟩ | ⟨_, h2, _⟩
      · trivial
      · exact h2.pc
    · intro y z l' m' h1 h2
      rcases hA with ⟨_, rfl⟩ | ⟨h3, h4, _⟩
      · simp at h1
      · obtain ⟨m, hm⟩ := h4.ls
        rw [hm] at h1
        have := List.append_inj' h1 rfl
        simp at this h2
        obtain ⟨_, rfl⟩ := this
        rw [(e2 h3).2, h2.1]
  · intro y hy
    rcases List.mem_append.1 hy with h | h
    · rcases hA with ⟨_, rfl⟩ | ⟨_, h2, _⟩
      · simp at h
      · exact h2.th y h
    · rcases List.mem_cons.1 h with rfl | h
      · exact hx
      · rcases hB with ⟨_, rfl⟩ | ⟨_, h2, _⟩
        · simp at h
        · exact h2.th y h
  · intro y hy
    rcases List.mem_append.1 hy with h | h
    · rcases hA with ⟨_, rfl⟩ | ⟨_, h2, h3⟩
      · simp at h
      · rcases h2.nt y h with rfl | h4
        · exact .inr h3
        · exact .inr h4
    · rcases List.mem_cons.1 h with rfl | h
      · exact .inl rfl
      · rcases hB with ⟨_, rfl⟩ | ⟨_, h2, h3⟩
        · simp at h
        · rcases h2.nt y h with rfl | h4
          · exact .inr h3
          · exact .inr h4
  · have hl : (A.length : Int) = (S L).sm.c := by
      rcases hA with ⟨rfl, rfl⟩ | ⟨_, h2, _⟩
      · rw [z0]; rfl
      · exact h2.c
    have hr : (B.length : Int) = (S R).sm.c := by
      rcases hB with ⟨rfl, rfl⟩ | ⟨_, h2, _⟩
      · rw [z0]; rfl
      · exact h2.c
    simp; omega
  · have hl : lf (S L).sm (G.a L) = ofL (A.map (fun y => T.wt (y - 1))) := by
      rcases hA with ⟨rfl, rfl⟩ | ⟨_, h2, _⟩
      · rw [z0, lf_nil]; rfl
      · exact h2.s
    have hr : lf (S R).sm (G.a R) = ofL (B.map (fun y => T.wt (y - 1))) := by
      rcases hB with ⟨rfl, rfl⟩ | ⟨_, h2, _⟩
      · rw [z0, lf_nil]; rfl
      · exact h2.s
    rw [s, hl, hr, List.map_append, List.map_cons, show T.wt (x - 1) :: B.map (fun y => T.wt (y - 1)) = [T.wt (x - 1)] ++ B.map (fun y => T.wt (y - 1)) from rfl, ← List.append_assoc, ofL_append, ofL_append, ofL_one]
theorem Ki.nt (h : Ki S T G t k) (hk : (S t).l = k ∨ (S t).r = k) : ¬ Top S k := fun ht => by
  unfold Top at ht; rw [h.up] at ht
  rcases hk with e | e
  · exact ht.1 e
  · exact ht.2 e
/-- Each part spells a list. -/
theorem Lc.sp (h : Lc S n T G) : ∀ (k : Nat) (x : Nat), Th T x → (S x).sm.c ≤ k → ∃ l, Sp S T G x l
  | 0, x, hx, hc => by have := (h.loc x hx).fit.c1; omega
  | k + 1, x, hx, hc => by
    have L := h.loc x hx
    have A : ∃ A, (S x).l = 0 ∧ A = [] ∨ (S x).l ≠ 0 ∧ Sp S T G (S x).l A ∧ ¬ Top S (S x).l := by
      by_cases e : (S x).l = 0
      · exact ⟨[], .inl ⟨e, rfl⟩⟩
      · obtain ⟨l, hl⟩ := Lc.sp h k _ (L.kl e).th (by have := h.cl hx; omega)
        exact ⟨l, .inr ⟨e, hl, (L.kl e).nt (.inl rfl)⟩⟩
    have B : ∃ B, (S x).r = 0 ∧ B = [] ∨ (S x).r ≠ 0 ∧ Sp S T G (S x).r B ∧ ¬ Top S (S x).r := by
      by_cases e : (S x).r = 0
      · exact ⟨[], .inl ⟨e, rfl⟩⟩
      · obtain ⟨l, hl⟩ := Lc.sp h k _ (L.kr e).th (by have := h.cr hx; omega)
        exact ⟨l, .inr ⟨e, hl, (L.kr e).nt (.inr rfl)⟩⟩
    obtain ⟨A, hA⟩ := A
    obtain ⟨B, hB⟩ := B
    have hs := Loc.act h hx
    have hc2 := h.cc hx
    have en := L.en
    cases hb : G.b x
    · rw [hb] at en
      exact ⟨A ++ x :: B, Sp.comb hx h.s0 hA hB (fun e => en.l0 e) (fun e => en.l1 e) (fun e => en.r0 e) (fun e => en.r1 e) hc2 hs⟩
    · rw [hb] at en
      refine ⟨B ++ x :: A, Sp.comb hx h.s0 hB hA (fun e => en.r0 e) (fun e => en.r1 e) (fun e => en.l0 e) (fun e => en.l1 e) (by omega) ?_⟩
      have o1 := ok_lf (h.ok (S x).l) (G.a (S x).l)
      have o2 := ok_lf (h.ok (S x).r) (G.a (S x).r)
      rw [hs, jn_comm (ok_jn o1 (ok_one _)) o2, jn_comm o1 (ok_one _), jn_assoc o2 (ok_one _) o1]
theorem Lc.spell (h : Lc S n T G) (hx : Th T x) : ∃ l, Sp S T G x l := h.sp (S x).sm.c.toNat x hx (by omega)
/-- What is in a part, and hangs at it. -/
theorem Lc.tele (h : Lc S n T G) : ∀ (k : Nat) (x : Nat), Th T x → (S x).sm.c ≤ k → (S x).hu.c + (S x).sm.c = Dc T (G.fi x) - Dc T (G.pn (G.la x)) ∧ (S x).hu.w + (lf (S x).sm (G.a x)).s = Dw T (G.fi x) - Dw T (G.pn (G.la x))
  | 0, x, hx, hc => by have := (h.loc x hx).fit.c1; omega
  | k + 1, x, hx, hc => by
    have L := h.loc x hx
    have hs := Loc.act h hx
    have o1 := ok_lf (h.ok (S x).l) (G.a (S x).l)
    have o2 := ok_lf (h.ok (S x).r) (G.a (S x).r)
    have hs' : (lf (S x).sm (G.a x)).s = (lf (S (S x).l).sm (G.a (S x).l)).s + T.wt (x - 1) + (lf (S (S x).r).sm (G.a (S x).r)).s := by
      rw [hs, jn_s (ok_jn o1 (ok_one _)) o2, jn_s o1 (ok_one _), one_s]
    have hc2 := h.cc hx
    have z : ∀ j, j = 0 → (S j).hu.c = 0 ∧ (S j).hu.w = 0 ∧ (S j).sm.c = 0 ∧ (lf (S j).sm (G.a j)).s = 0 := fun j e => by
      subst e; rw [h.s0]; exact ⟨rfl, rfl, rfl, by show (lf zero _).s = 0; rw [lf_nil]; rfl⟩
    have A : (S x).l ≠ 0 → _ := fun e => Lc.tele h k _ (L.kl e).th (by have := h.cl hx; omega)
    have B : (S x).r ≠ 0 → _ := fun e => Lc.tele h k _ (L.kr e).th (by have := h.cr hx; omega)
    have en := L.en
    have u1 := congrArg Ms.c L.hu
    have u2 := congrArg Ms.w L.hu
    have v1 := L.hgc
    have v2 := L.hgw
    simp only at u1 u2
    have main : ∀ P Q : Nat, ((S P).hu.c + (S P).sm.c + ((S Q).hu.c + (S Q).sm.c) + (S x).hg.c + 1 = (S x).hu.c + (S x).sm.c ∧ (S P).hu.w + (lf (S P).sm (G.a P)).s + ((S Q).hu.w + (lf (S Q).sm (G.a Q)).s) + (S x).hg.w + T.wt (x - 1) = (S x).hu.w + (lf (S x).sm (G.a x)).s) →
        (P ≠ 0 → (S P).hu.c + (S P).sm.c = Dc T (G.fi P) - Dc T (G.pn (G.la P)) ∧ (S P).hu.w + (lf (S P).sm (G.a P)).s = Dw T (G.fi P) - Dw T (G.pn (G.la P))) →
        (Q ≠ 0 → (S Q).hu.c + (S Q).sm.c = Dc T (G.fi Q) - Dc T (G.pn (G.la Q)) ∧ (S Q).hu.w + (lf (S Q).sm (G.a Q)).s = Dw T (G.fi Q) - Dw T (G.pn (G.la Q))) →
        (P = 0 → G.fi x = x) → (P ≠ 0 → G.fi x = G.fi P ∧ G.pn (G.la P) = x) → (Q = 0 → G.la x = x) → (Q ≠ 0 → G.la x = G.la Q ∧ G.pn x = G.fi Q) →
        (S x).hu.c + (S x).sm.c = Dc T (G.fi x) - Dc T (G.pn (G.la x)) ∧ (S x).hu.w + (lf (S x).sm (G.a x)).s = Dw T (G.fi x) - Dw T (G.pn (G.la x)) := by
      intro P Q hh hP hQ e1 e2 e3 e4
      by_cases p : P = 0
      · obtain ⟨z1, z2, z3, z4⟩ := z P p
        rw [e1 p]
        by_cases q : Q = 0
        · obtain ⟨y1, y2, y3, y4⟩ := z Q q
          rw [e3 q]; omega
        · obtain ⟨f1, f2⟩ := e4 q
          obtain ⟨g1, g2⟩ := hQ q
          rw [← f1, ← f2] at g1 g2
          omega
      · obtain ⟨f1, f2⟩ := e2 p
        obtain ⟨g1, g2⟩ := hP p
        rw [← f1, f2] at g1 g2
        by_cases q : Q = 0
        · obtain ⟨y1, y2, y3, y4⟩ := z Q q
          rw [e3 q]; omega
        · obtain ⟨f3, f4⟩ := e4 q
          obtain ⟨g3, g4⟩ := hQ q
          rw [← f3, ← f4] at g3 g4
          omega
    cases hb : G.b x
    · rw [hb] at en
      exact main (S x).l (S x).r ⟨by omega, by omega⟩ A B (fun e => en.l0 e) (fun e => en.l1 e) (fun e => en.r0 e) (fun e => en.r1 e)
    · rw [hb] at en
      exact main (S x).r (S x).l ⟨by omega, by omega⟩ B A (fun e => en.r0 e) (fun e => en.r1 e) (fun e => en.l0 e) (fun e => en.l1 e)
theorem Lc.whole (h : Lc S n T G) (hx : Th T x) : (S x).hu.c + (S x).sm.c = Dc T (G.fi x) - Dc T (G.pn (G.la x)) ∧ (S x).hu.w + (lf (S x).sm (G.a x)).s = Dw T (G.fi x) - Dw T (G.pn (G.la x)) := h.tele (S x).sm.c.toNat x hx (by omega)
end
end Go.Proofs.Ytjnkgakajenoaaa
/- Plain mathematics for link: what settling does. No Go in sight. -/

namespace Go.Proofs.Ytjnkgakajenoaaa
set_option linter.unusedVariables false
set_option linter.unusedSimpArgs false

section
variable {S S1 : Ss} {n : Nat} {T : Tr} {G G1 : Gh} {t x y k : Nat} {d : Int}
theorem jn_a {x y : Sm} (hx : x.c ≠ 0) : (jn x y).a ≤ x.a ∧ x.b ≤ (jn x y).b := by
  unfold jn; rw [if_neg hx]; split
  · omega
  · dsimp only; omega
theorem jn_a' {x y : Sm} (hy : y.c ≠ 0) : (jn x y).a ≤ y.a ∧ y.b ≤ (jn x y).b := by
  unfold jn; split
  · omega
  · first | (rw [if_neg hy]; dsimp only; omega) | (dsimp only; omega)
theorem lf_ab {x : Sm} (hx : x.c ≠ 0) (d : Int) : (lf x d).a = x.a + d ∧ (lf x d).b = x.b + d ∧ (lf x d).s = x.s + x.c * d := by
  unfold lf; rw [if_neg hx]; exact ⟨rfl, rfl, rfl⟩
theorem Lc.kid_c (h : Lc S n T G) (hk : Th T k) : (S k).sm.c ≠ 0 := by have := (h.loc k hk).fit.c1; omega
theorem Lc.up_kid (h : Lc S n T G) (ht : Th T t) (hk : k = (S t).l ∨ k = (S t).r) (h0 : k ≠ 0) : Ki S T G t k := by
  rcases hk with rfl | rfl
  · exact (h.loc t ht).kl h0
  · exact (h.loc t ht).kr h0
theorem Lc.kid_ne (h : Lc S n T G) (ht : Th T t) (hk : k = (S t).l ∨ k = (S t).r) : k ≠ t := by
  rintro rfl
  rcases hk with e | e
  · have := h.cl ht; rw [← e] at this; omega
  · have := h.cr ht; rw [← e] at this; omega
/-- No kids, if it is alone. -/
theorem Lc.alone (h : Lc S n T G) (ht : Th T t) (hc : ¬ 1 < (S t).sm.c) : (S t).l = 0 ∧ (S t).r = 0 := by
  have L := h.loc t ht
  have h1 := h.cc ht
  have h2 := h.cn (S t).l
  have h3 := h.cn (S t).r
  refine ⟨Classical.byContradiction fun e => ?_, Classical.byContradiction fun e => ?_⟩
  · have := (h.loc _ (L.kl e).th).fit.c1; omega
  · have := (h.loc _ (L.kr e).th).fit.c1; omega
/-- The least and the greatest weight of a part, its own, and those of the parts beside it. -/
theorem Lc.ab (h : Lc S n T G) (ht : Th T t) : (S t).sm.a ≤ (S t).wt ∧ (S t).wt ≤ (S t).sm.b ∧ ∀ k, k ≠ 0 → k = (S t).l ∨ k = (S t).r → (S t).sm.a ≤ (S k).sm.a + (S t).wa ∧ (S k).sm.b + (S t).wa ≤ (S t).sm.b := by
  have L := h.loc t ht
  have e := L.sm
  have o : (one (S t).wt).c ≠ 0 := by simp [one]
  have o1 : (jn (lf (S (S t).l).sm (S t).wa) (one (S t).wt)).c ≠ 0 := by
    rw [jn_c, lf_c, one_c]; have := h.cn (S t).l; omega
  have p1 := jn_a (y := lf (S (S t).r).sm (S t).wa) o1
  have p2 := jn_a' (x := lf (S (S t).l).sm (S t).wa) o
  rw [← e] at p1
  refine ⟨?_, ?_, fun k k0 hk => ?_⟩
  · have : (one (S t).wt).a = (S t).wt := rfl
    omega
  · have : (one (S t).wt).b = (S t).wt := rfl
    omega
  · have K := h.up_kid ht hk k0
    have kc := h.kid_c K.th
    have kl : (lf (S k).sm (S t).wa).c ≠ 0 := by rw [lf_c]; exact kc
    have ab := lf_ab kc (S t).wa
    rcases hk with rfl | rfl
    · have p3 := jn_a (y := one (S t).wt) kl
      omega
    · have p3 := jn_a' (x := jn (lf (S (S t).l).sm (S t).wa) (one (S t).wt)) kl
      rw [← e] at p3
      omega

theorem En.flip {β : Bool} {l r : Nat} (h : En G β l r t) : En G (!β) r l t := by
  obtain ⟨h1, h2, h3, h4⟩ := h
  cases β
  · exact ⟨h3, h4, h1, h2⟩
  · exact ⟨h3, h4, h1, h2⟩
theorem En.nil {β β' : Bool} (h : En G β 0 0 t) : En G β' 0 0 t := by
  obtain ⟨h1, h2, h3, h4⟩ := h
  have h1 := h1 rfl
  have h3 := h3 rfl
  cases β <;> cases β' <;> simp [Gh.f, Gh.g] at h1 h3 ⊢ <;> refine ⟨fun _ => ?_, fun e => absurd rfl e, fun _ => ?_, fun e => absurd rfl e⟩ <;> simp [Gh.f, Gh.g, h1, h3]
theorem En.gh {β : Bool} {l r : Nat} (h : En G β l r t) (e1 : G1.fi = G.fi) (e2 : G1.la = G.la) (e3 : G1.pn = G.pn) : En G1 β l r t := by
  have f : G1.f = G.f := by funext β; unfold Gh.f; rw [e1, e2]
  have g : G1.g = G.g := by funext β; unfold Gh.g; rw [e1, e2]
  have nx : G1.nx = G.nx := by funext β; unfold Gh.nx; rw [e3]
  obtain ⟨h1, h2, h3, h4⟩ := h
  exact ⟨by rw [f]; exact h1, by rw [f, g, nx]; exact h2, by rw [g]; exact h3, by rw [f, g, nx]; exact h4⟩

/-- What stays the same when something that waits is handed on. -/
structure Like (S S1 : Ss) (G G1 : Gh) : Prop where
  fi : G1.fi = G.fi
  la : G1.la = G.la
  pn : G1.pn = G.pn
  up : ∀ y, (S1 y).up = (S y).up
  lr : ∀ y, ((S1 y).l = (S y).l ∧ (S1 y).r = (S y).r) ∨ ((S1 y).l = (S y).r ∧ (S1 y).r = (S y).l)
  c : ∀ y, (S1 y).sm.c = (S y).sm.c
theorem Like.refl : Like S S G G := ⟨rfl, rfl, rfl, fun _ => rfl, fun _ => .inl ⟨rfl, rfl⟩, fun _ => rfl⟩
theorem Like.trans {S2 : Ss} {G2 : Gh} (h : Like S S1 G G1) (k : Like S1 S2 G1 G2) : Like S S2 G G2 := by
  refine ⟨k.fi.trans h.fi, k.la.trans h.la, k.pn.trans h.pn, fun y => (k.up y).trans (h.up y), fun y => ?_, fun y => (k.c y).trans (h.c y)⟩
  rcases h.lr y with ⟨h1, h2⟩ | ⟨h1, h2⟩ <;> rcases k.lr y with ⟨k1, k2⟩ | ⟨k1, k2⟩ <;> simp [h1, h2, k1, k2]
theorem Like.top (h : Like S S1 G G1) (y : Nat) : Top S1 y ↔ Top S y := by
  unfold Top; rw [h.up]
  rcases h.lr (S y).up with ⟨h1, h2⟩ | ⟨h1, h2⟩ <;> rw [h1, h2]
  exact And.comm
theorem Tp.like (h : Tp S T G t) (k : Like S S1 G G1) (hb : G1.b t = false) (ha : G1.a t = 0) : Tp S1 T G1 t :=
  ⟨hb, ha, by rw [k.fi, k.up]; exact h.fi, by rw [k.pn, k.la]; exact h.pn, by rw [k.pn, k.fi, k.up]; exact h.nv⟩
theorem Loc.flip (h : Lc S n T G) (hx : Th T x) (k : Like S S1 G G1) (ha : G1.a = G.a) (hs : ∀ y, (S1 y).sm = (S y).sm ∧ (S1 y).hu = (S y).hu) (hg : (S1 x).hg = (S x).hg) (hw : (S1 x).wt = (S x).wt) (hwa : (S1 x).wa = (S x).wa)
    (hb : ∀ k, k ≠ 0 → k = (S x).l ∨ k = (S x).r → G1.b k = (G1.b x != (S1 x).tn)) (hen : En G (G1.b x) (S1 x).l (S1 x).r x) (hid : (S x).l = 0 → (S x).r = 0 → (S1 x).tn = false) (htop : Top S x → G1.b x = false) : Loc S1 T G1 x := by
  have L := h.loc x hx
  have KK : ∀ j, j ≠ 0 → j = (S x).l ∨ j = (S x).r → Ki S1 T G1 x j := fun j j0 hj => by
    have K := h.up_kid hx hj j0
    exact ⟨K.th, by rw [k.up]; exact K.up, hb j j0 hj, by rw [ha, hwa]; exact K.a⟩
  have hl := (ok_lf (h.ok (S x).l) (S x).wa)
  have hr := (ok_lf (h.ok (S x).r) (S x).wa)
  have o := ok_one (S x).wt
  refine ⟨fun e => KK _ e ?_, fun e => KK _ e ?_, ?_, hen.gh k.fi k.la k.pn, by rw [k.pn]; exact L.nx, by rw [hw, ha]; exact L.wt, ?_, by rw [(hs x).1]; exact L.fit, ?_, by rw [hg, k.pn]; exact L.hgc, by rw [hg, k.pn]; exact L.hgw, ?_, fun ht => ?_⟩
  · rcases k.lr x with ⟨h1, h2⟩ | ⟨h1, h2⟩ <;> simp [h1]
  · rcases k.lr x with ⟨h1, h2⟩ | ⟨h1, h2⟩ <;> simp [h2]
  · rcases k.lr x with ⟨h1, h2⟩ | ⟨h1, h2⟩ <;> rw [h1, h2]
    · exact L.lr
    · intro e; rw [e]; exact L.lr e.symm
  · rw [(hs _).1, (hs _).1, (hs _).1, hw, hwa]
    rcases k.lr x with ⟨h1, h2⟩ | ⟨h1, h2⟩ <;> rw [h1, h2]
    · exact L.sm
    · rw [L.sm, jn_comm (ok_jn hl o) hr, jn_comm hl o, jn_assoc hr o hl]
  · rw [(hs _).2, (hs _).2, (hs _).2, hg]
    rcases k.lr x with ⟨h1, h2⟩ | ⟨h1, h2⟩ <;> rw [h1, h2, L.hu]
    congr 1 <;> omega
  · rcases k.lr x with ⟨h1, h2⟩ | ⟨h1, h2⟩ <;> rw [h1, h2, hwa]
    · exact fun a b => ⟨hid a b, (L.id a b).2⟩
    · exact fun a b => ⟨hid b a, (L.id b a).2⟩
  · have ht' := (k.top x).1 ht
    exact (L.tp ht').like k (htop ht') (by rw [ha]; exact (L.tp ht').a)

def flipS (x : Sl) : Sl := if 1 < x.sm.c then { x with l := x.r, r := x.l, tn := !x.tn } else x
theorem turnS_at (S : Ss) (t : Nat) : turnS S t t = flipS (S t) := by unfold turnS flipS; split <;> simp [upd]
theorem settleT_at (S : Ss) (t : Nat) (hl : (S t).l ≠ t) (hr : (S t).r ≠ t) (hlr : (S t).l = (S t).r → (S t).l = 0) (h0 : S 0 = Sl.zero) (htn : (S t).tn = true) (x : Nat) :
    settleT S t x = if x = t then { S t with tn := false } else if x = (S t).l ∨ x = (S t).r then flipS (S x) else S x := by
  have f0 : flipS Sl.zero = Sl.zero := rfl
  unfold settleT
  rw [if_pos htn]
  by_cases e : x = t
  · subst e; rw [if_pos rfl, turnS_ne _ (fun e => hr e.symm), turnS_ne _ (fun e => hl e.symm), upd_same]
  rw [if_neg e]
  by_cases e2 : x = (S t).r
  · rw [if_pos (.inr e2), e2, turnS_at]
    by_cases e3 : (S t).l = (S t).r
    · have z := hlr e3
      rw [z] at e3
      rw [← e3, z, turnS_at]
      rw [← e3] at hr
      rw [upd_ne _ _ hr, h0, f0, f0]
    · rw [turnS_ne _ (fun e => e3 e.symm), upd_ne _ _ hr]
  · rw [turnS_ne _ e2]
    by_cases e3 : x = (S t).l
    · rw [if_pos (.inl e3), e3, turnS_at, upd_ne _ _ hl]
    · rw [if_neg (fun h => h.elim e3 e2), turnS_ne _ e3, upd_ne _ _ e]

theorem flipS_sm (x : Sl) : (flipS x).sm = x.sm ∧ (flipS x).hu = x.hu ∧ (flipS x).hg = x.hg ∧ (flipS x).wt = x.wt ∧ (flipS x).wa = x.wa ∧ (flipS x).up = x.up := by unfold flipS; split <;> simp
theorem flipS_lr (x : Sl) : ((flipS x).l = x.l ∧ (flipS x).r = x.r) ∨ ((flipS x).l = x.r ∧ (flipS x).r = x.l) := by unfold flipS; split <;> simp
/-- What waits to be turned round is handed on. -/
theorem Lc.settleT (h : Lc S n T G) (ht : Th T t) : ∃ G1, Lc (settleT S t) n T G1 ∧ Like S (settleT S t) G G1 ∧ G1.b t = G.b t ∧ G1.a = G.a ∧ (settleT S t t).tn = false ∧ (settleT S t t).wa = (S t).wa ∧ (settleT S t t).l = (S t).l ∧ (settleT S t t).r = (S t).r := by
  have L := h.loc t ht
  have hl : (S t).l ≠ t := h.kid_ne ht (.inl rfl)
  have hr : (S t).r ≠ t := h.kid_ne ht (.inr rfl)
  cases htn : (S t).tn
  · have e : Go.Proofs.Ytjnkgakajenoaaa.settleT S t = S := by unfold Go.Proofs.Ytjnkgakajenoaaa.settleT; rw [htn]; rfl
    rw [e]; exact ⟨G, h, Like.refl, rfl, rfl, htn, rfl, rfl, rfl⟩
  have at1 := settleT_at S t hl hr L.lr h.s0 htn
  generalize Go.Proofs.Ytjnkgakajenoaaa.settleT S t = S1 at at1 ⊢
  have fl : ∀ y, (S1 y).sm = (S y).sm ∧ (S1 y).hu = (S y).hu ∧ (S1 y).hg = (S y).hg ∧ (S1 y).wt = (S y).wt ∧ (S1 y).wa = (S y).wa ∧ (S1 y).up = (S y).up := fun y => by
    rw [at1]; split
    · rename_i e; subst e; simp
    · split
      · exact flipS_sm _
      · simp
  have lk : Like S S1 G { G with b := fun x => if x = (S t).l ∨ x = (S t).r then !(G.b x) else G.b x } := by
    refine ⟨rfl, rfl, rfl, fun y => (fl y).2.2.2.2.2, fun y => ?_, fun y => by rw [(fl y).1]⟩
    rw [at1]; split
    · rename_i e; subst e; simp
    · split
      · exact flipS_lr _
      · simp
  have bt : (if t = (S t).l ∨ t = (S t).r then !(G.b t) else G.b t) = G.b t := if_neg fun e => e.elim (fun e => hl e.symm) (fun e => hr e.symm)
  refine ⟨{ G with b := fun x => if x = (S t).l ∨ x = (S t).r then !(G.b x) else G.b x }, ⟨h.wf, h.ft, h.lt, h.n0, h.nn, fun x hx => ?_, h.p0, fun x hx => ?_⟩, lk, bt, rfl, by rw [at1]; simp, by rw [at1]; simp, by rw [at1]; simp, by rw [at1]; simp⟩
  · rw [at1, if_neg (show ¬ x = t from fun e => hx (by rw [e]; exact ht)), h.out x hx]
    split <;> rfl
  · have Lx := h.loc x hx
    refine Loc.flip h hx lk rfl (fun y => ⟨(fl y).1, (fl y).2.1⟩) (fl x).2.2.1 (fl x).2.2.2.1 (fl x).2.2.2.2.1 ?_ ?_ ?_ ?_
    · intro j j0 hj
      have K := h.up_kid hx hj j0
      by_cases e : x = t
      · subst e
        rw [show ({ G with b := fun y => if y = (S x).l ∨ y = (S x).r then !(G.b y) else G.b y } : Gh).b j = !(G.b j) from if_pos hj, show ({ G with b := fun y => if y = (S x).l ∨ y = (S x).r then !(G.b y) else G.b y } : Gh).b x = G.b x from bt, at1, if_pos rfl, K.b, htn]
        cases G.b x <;> rfl
      · have jn : ¬ (j = (S t).l ∨ j = (S t).r) := fun hj2 => e (by rw [← K.up]; exact (h.up_kid ht hj2 j0).up)
        show (if j = (S t).l ∨ j = (S t).r then !(G.b j) else G.b j) = ((if x = (S t).l ∨ x = (S t).r then !(G.b x) else G.b x) != (S1 x).tn)
        rw [if_neg jn, at1, if_neg e]
        by_cases ek : x = (S t).l ∨ x = (S t).r
        · rw [if_pos ek, if_pos ek, K.b, flipS]
          have hc : 1 < (S x).sm.c := Classical.byContradiction fun hc => by
            have := h.alone hx hc
            rcases hj with rfl | rfl <;> omega
          rw [if_pos hc]
          cases G.b x <;> cases (S x).tn <;> rfl
        · rw [if_neg ek, if_neg ek]; exact K.b
    · show En G (if x = (S t).l ∨ x = (S t).r then !(G.b x) else G.b x) _ _ _
      by_cases e : x = t
      · subst e; rw [bt, at1, if_pos rfl]; exact L.en
      · rw [at1, if_neg e]
        by_cases ek : x = (S t).l ∨ x = (S t).r
        · rw [if_pos ek, if_pos ek, flipS]
          split
          · exact Lx.en.flip
          · rename_i hc
            obtain ⟨z1, z2⟩ := h.alone hx hc
            have := Lx.en
            rw [z1, z2] at this ⊢
            exact this.nil
        · rw [if_neg ek, if_neg ek]; exact Lx.en
    · intro a b
      rw [at1]
      split
      · rfl
      · split
        · have : ¬ 1 < (S x).sm.c := by
            have := h.cc hx
            rw [a, b, h.s0] at this
            have : (S x).sm.c = 0 + 1 + 0 := this
            omega
          rw [flipS, if_neg this]; exact (Lx.id a b).1
        · exact (Lx.id a b).1
    · intro htop
      show (if x = (S t).l ∨ x = (S t).r then !(G.b x) else G.b x) = false
      have : ¬ (x = (S t).l ∨ x = (S t).r) := fun e => by
        have x0 : x ≠ 0 := by have := hx.1; omega
        have K := h.up_kid ht e x0
        exact K.nt (by rcases e with e | e <;> simp [e]) htop
      rw [if_neg this]; exact (Lx.tp htop).b
end
end Go.Proofs.Ytjnkgakajenoaaa
/- Plain mathematics for link: what settling does to weights, and how great all is. No Go in sight. -/

namespace Go.Proofs.Ytjnkgakajenoaaa
set_option linter.unusedVariables false
set_option linter.unusedSimpArgs false

/-- A mass that is no greater than its count allows. -/
def Mb (m : Ms) : Prop := 0 ≤ m.c ∧ -1099511627776 * m.c ≤ m.w ∧ m.w ≤ 1099511627776 * m.c
section
variable {S S1 : Ss} {n : Nat} {T : Tr} {G G1 : Gh} {t x y k : Nat} {d : Int}
theorem Lc.hg_mb (h : Lc S n T G) (t : Nat) : Mb (S t).hg := by
  by_cases ht : Th T t
  · have L := h.loc t ht
    obtain ⟨h1, h2, h3⟩ := hg_bd h.wf h.ft ht L.nx
    unfold Mb
    rw [L.hgc, L.hgw]
    exact ⟨h1, h2, h3⟩
  · rw [h.out t ht]; simp [Mb, Sl.zero]
theorem Lc.hu_mbk (h : Lc S n T G) : ∀ (k : Nat) (x : Nat), (S x).sm.c ≤ k → Mb (S x).hu
  | 0, x, hc => by
    by_cases hx : Th T x
    · have := (h.loc x hx).fit.c1; omega
    · rw [h.out x hx]; simp [Mb, Sl.zero]
  | k + 1, x, hc => by
    by_cases hx : Th T x
    · have L := h.loc x hx
      have A := Lc.hu_mbk h k (S x).l (by have := h.cl hx; omega)
      have B := Lc.hu_mbk h k (S x).r (by have := h.cr hx; omega)
      have C := h.hg_mb x
      unfold Mb at A B C ⊢
      have u1 := congrArg Ms.c L.hu
      have u2 := congrArg Ms.w L.hu
      dsimp only at u1 u2
      omega
    · rw [h.out x hx]; simp [Mb, Sl.zero]
theorem Lc.hu_mb (h : Lc S n T G) (x : Nat) : Mb (S x).hu := h.hu_mbk (S x).sm.c.toNat x (by have := h.cn x; omega)
/-- How many are in a part, and hang at it. -/
theorem Lc.c_le (h : Lc S n T G) (x : Nat) : (S x).hu.c + (S x).sm.c ≤ 1048576 ∧ (S x).sm.c ≤ 1048576 := by
  by_cases hx : Th T x
  · have h1 := (h.whole hx).1
    have h2 := (Dc_bd T (G.fi x)).2
    have h3 := (Dc_bd T (G.pn (G.la x))).1
    have h4 := (h.hu_mb x).1
    have h5 := h.ft.n
    omega
  · rw [h.out x hx]; simp [Sl.zero, zero]
theorem Lc.hu_c (h : Lc S n T G) (x : Nat) : 0 ≤ (S x).hu.c ∧ (S x).hu.c ≤ 1048576 := by
  have := h.c_le x; have := h.hu_mb x; have := h.cn x
  exact ⟨(h.hu_mb x).1, by omega⟩
theorem Lc.sm_bd (h : Lc S n T G) (x : Nat) : 0 ≤ (S x).sm.c ∧ (S x).sm.c ≤ 1048576 ∧ -1152921504606846976 ≤ (S x).sm.s ∧ (S x).sm.s ≤ 1152921504606846976 ∧ -1099511627776 * (S x).sm.c ≤ (S x).sm.s ∧ (S x).sm.s ≤ 1099511627776 * (S x).sm.c := by
  by_cases hx : Th T x
  · have F := (h.loc x hx).fit
    have := h.c_le x
    have m1 : (S x).sm.c * -1099511627776 ≤ (S x).sm.c * (S x).sm.a := Int.mul_le_mul_of_nonneg_left F.lo (by have := F.c1; omega)
    have m2 : (S x).sm.c * (S x).sm.b ≤ (S x).sm.c * 1099511627776 := Int.mul_le_mul_of_nonneg_left F.hi (by have := F.c1; omega)
    have := F.slo; have := F.shi; have := F.c1
    omega
  · rw [h.out x hx]; simp [Sl.zero, zero]
theorem Fitm.lf {z : Sm} (F : Fitm z) (h1 : -1099511627776 ≤ z.a + d) (h2 : z.b + d ≤ 1099511627776) : Fitm (lf z d) := by
  have c1 := F.c1
  obtain ⟨e1, e2, e3⟩ := lf_ab (show z.c ≠ 0 by omega) d
  refine ⟨by rw [lf_c]; exact c1, by rw [e1]; exact h1, by rw [e1, e2]; have := F.ab; omega, by rw [e2]; exact h2, ?_, ?_⟩
  · rw [lf_c, e1, e3, Int.mul_add]; have := F.slo; omega
  · rw [lf_c, e2, e3, Int.mul_add]; have := F.shi; omega
theorem rbd_of {z : Sl} (F : Fitm z.sm) (hc : z.sm.c ≤ 1048576) (h1 : -1099511627776 ≤ z.sm.a + d) (h2 : z.sm.b + d ≤ 1099511627776) (hw : -2199023255552 ≤ z.wa ∧ z.wa ≤ 2199023255552) : Rbd z d := by
  obtain ⟨c1, lo, ab, hi, slo, shi⟩ := F
  have F2 := Fitm.lf ⟨c1, lo, ab, hi, slo, shi⟩ h1 h2
  have d1 : -2199023255552 ≤ d ∧ d ≤ 2199023255552 := by omega
  have m1 : z.sm.c * -2199023255552 ≤ z.sm.c * d := Int.mul_le_mul_of_nonneg_left d1.1 (by omega)
  have m2 : z.sm.c * d ≤ z.sm.c * 2199023255552 := Int.mul_le_mul_of_nonneg_left d1.2 (by omega)
  obtain ⟨e1, e2, e3⟩ := lf_ab (show z.sm.c ≠ 0 by omega) d
  have s1 := F2.slo
  have s2 := F2.shi
  rw [lf_c, e1, e3] at s1
  rw [lf_c, e2, e3] at s2
  have m3 : z.sm.c * -1099511627776 ≤ z.sm.c * (z.sm.a + d) := Int.mul_le_mul_of_nonneg_left h1 (by omega)
  have m4 : z.sm.c * (z.sm.b + d) ≤ z.sm.c * 1099511627776 := Int.mul_le_mul_of_nonneg_left h2 (by omega)
  exact ⟨⟨by omega, by omega⟩, ⟨by omega, by omega⟩, ⟨by omega, by omega⟩, ⟨by omega, by omega⟩, ⟨by omega, by omega⟩⟩
/-- What waits is a step. -/
theorem Lc.wa_bd (h : Lc S n T G) (t : Nat) : -2199023255552 ≤ (S t).wa ∧ (S t).wa ≤ 2199023255552 := by
  by_cases ht : Th T t
  · have L := h.loc t ht
    have F := L.fit
    by_cases e : (S t).l = 0
    · by_cases e2 : (S t).r = 0
      · rw [(L.id e e2).2]; omega
      · have F2 := (h.loc _ (L.kr e2).th).fit
        have := (h.ab ht).2.2 _ e2 (.inr rfl)
        have := F.lo; have := F.hi; have := F2.lo; have := F2.hi; have := F2.ab; omega
    · have F2 := (h.loc _ (L.kl e).th).fit
      have := (h.ab ht).2.2 _ e (.inl rfl)
      have := F.lo; have := F.hi; have := F2.lo; have := F2.hi; have := F2.ab; omega
  · rw [h.out t ht]; simp [Sl.zero]
theorem Lc.kid_bd (h : Lc S n T G) (ht : Th T t) (hk : k = (S t).l ∨ k = (S t).r) (k0 : k ≠ 0) : Rbd (S k) (S t).wa ∧ Fitm (lf (S k).sm (S t).wa) ∧ addV (S k).wt (S t).wa = (S k).wt + (S t).wa := by
  have K := h.up_kid ht hk k0
  have F2 := (h.loc _ K.th).fit
  have F := (h.loc t ht).fit
  have a1 := (h.ab ht).2.2 k k0 hk
  have a2 := h.ab K.th
  have l1 := F.lo; have l2 := F.hi; have l3 := F2.lo; have l4 := F2.hi; have l5 := F2.ab
  refine ⟨rbd_of F2 (h.c_le k).2 (by omega) (by omega) (h.wa_bd k), F2.lf (by omega) (by omega), ?_⟩
  unfold addV addB fitB inB
  rw [if_pos (by simp; omega)]

def rzS (x : Sl) (d : Int) : Sl := if 1 < x.sm.c then { x with wt := addV x.wt d, wa := x.wa + d, sm := lf x.sm d } else { x with wt := addV x.wt d, sm := lf x.sm d }
theorem raiseS_at (S : Ss) (t : Nat) (d : Int) : raiseS S t d t = if t = 0 then S 0 else rzS (S t) d := by
  unfold raiseS rzS
  by_cases e : t = 0
  · subst e; simp
  · rw [if_neg e, if_neg e, upd_same]
theorem settleW_at (S : Ss) (t : Nat) (t0 : t ≠ 0) (hl : (S t).l ≠ t) (hr : (S t).r ≠ t) (hlr : (S t).l = (S t).r → (S t).l = 0) (hwa : (S t).wa ≠ 0) (x : Nat) :
    settleW S t x = if x = t then { S t with wa := 0 } else if x ≠ 0 ∧ (x = (S t).l ∨ x = (S t).r) then rzS (S x) (S t).wa else S x := by
  unfold settleW
  rw [if_neg hwa]
  by_cases e : x = t
  · subst e; rw [if_pos rfl, raiseS_ne _ _ (fun e => hr e.symm), raiseS_ne _ _ (fun e => hl e.symm), upd_same]
  rw [if_neg e]
  by_cases e0 : x = 0
  · subst e0
    have z : ∀ (S : Ss) (j : Nat), raiseS S j (S t).wa 0 = S 0 := fun S j => by
      by_cases e : j = 0
      · subst e; simp [raiseS]
      · rw [raiseS_ne _ _ (fun h => e h.symm)]
    have z' : ∀ (S' : Ss) (j : Nat) (d : Int), raiseS S' j d 0 = S' 0 := fun S' j d => by
      by_cases e : j = 0
      · subst e; simp [raiseS]
      · rw [raiseS_ne _ _ (fun h => e h.symm)]
    rw [z', z', upd_ne _ _ e]; simp
  by_cases e2 : x = (S t).r
  · rw [if_pos ⟨e0, .inr e2⟩, e2, raiseS_at, if_neg (by omega)]
    have e3 : (S t).l ≠ (S t).r := fun e3 => by have := hlr e3; omega
    rw [raiseS_ne _ _ (fun e => e3 e.symm), upd_ne _ _ hr]
  · rw [raiseS_ne _ _ e2]
    by_cases e3 : x = (S t).l
    · rw [if_pos ⟨e0, .inl e3⟩, e3, raiseS_at, if_neg (by omega), upd_ne _ _ hl]
    · rw [if_neg (fun h => h.2.elim e3 e2), raiseS_ne _ _ e3, upd_ne _ _ e]
theorem rzS_f (x : Sl) (d : Int) : (rzS x d).up = x.up ∧ (rzS x d).l = x.l ∧ (rzS x d).r = x.r ∧ (rzS x d).tn = x.tn ∧ (rzS x d).hg = x.hg ∧ (rzS x d).hu = x.hu ∧ (rzS x d).sm = lf x.sm d ∧ (rzS x d).wt = addV x.wt d := by unfold rzS; split <;> simp
theorem jn_nil (w : Int) : jn (jn zero (one w)) zero = one w := by rw [jn_zero_left, jn_zero_right (ok_one w)]
/-- What waits to be raised is handed on. -/
theorem Lc.settleW (h : Lc S n T G) (ht : Th T t) : ∃ G1, Lc (settleW S t) n T G1 ∧ Like S (settleW S t) G G1 ∧ G1.a t = G.a t ∧ G1.b = G.b ∧ (settleW S t t).tn = (S t).tn ∧ (settleW S t t).wa = 0 ∧ (settleW S t t).l = (S t).l ∧ (settleW S t t).r = (S t).r := by
  have L := h.loc t ht
  have hl : (S t).l ≠ t := h.kid_ne ht (.inl rfl)
  have hr : (S t).r ≠ t := h.kid_ne ht (.inr rfl)
  have t0 : t ≠ 0 := by have := ht.1; omega
  by_cases hwa : (S t).wa = 0
  · have e : Go.Proofs.Ytjnkgakajenoaaa.settleW S t = S := by unfold Go.Proofs.Ytjnkgakajenoaaa.settleW; rw [hwa]; rfl
    rw [e]; exact ⟨G, h, Like.refl, rfl, rfl, rfl, hwa, rfl, rfl⟩
  have at1 := settleW_at S t t0 hl hr L.lr hwa
  generalize Go.Proofs.Ytjnkgakajenoaaa.settleW S t = S1 at at1 ⊢
  have kb := fun k hk k0 => h.kid_bd (k := k) ht hk k0
  generalize hd : (S t).wa = d at *
  have fl : ∀ y, (S1 y).up = (S y).up ∧ (S1 y).l = (S y).l ∧ (S1 y).r = (S y).r ∧ (S1 y).tn = (S y).tn ∧ (S1 y).hg = (S y).hg ∧ (S1 y).hu = (S y).hu := fun y => by
    rw [at1]; split
    · rename_i e; subst e; simp
    · split
      · have := rzS_f (S y) d; simp [this]
      · simp
  have sm1 : ∀ y, y ≠ 0 → y = (S t).l ∨ y = (S t).r → (S1 y).sm = lf (S y).sm d := fun y y0 hy => by
    have : ¬ y = t := h.kid_ne ht hy
    rw [at1, if_neg this, if_pos ⟨y0, hy⟩, (rzS_f _ _).2.2.2.2.2.2.1]
  have sm2 : ∀ y, ¬ (y ≠ 0 ∧ (y = (S t).l ∨ y = (S t).r)) → (S1 y).sm = (S y).sm := fun y hy => by
    rw [at1, if_neg hy]; split
    · rename_i e; subst e; rfl
    · rfl
  have lk : Like S S1 G { G with a := fun x => if x ≠ 0 ∧ (x = (S t).l ∨ x = (S t).r) then G.a t else G.a x } := by
    refine ⟨rfl, rfl, rfl, fun y => (fl y).1, fun y => .inl ⟨(fl y).2.1, (fl y).2.2.1⟩, fun y => ?_⟩
    by_cases hy : y ≠ 0 ∧ (y = (S t).l ∨ y = (S t).r)
    · rw [sm1 y hy.1 hy.2, lf_c]
    · rw [sm2 y hy]
  have at' : (if t ≠ 0 ∧ (t = (S t).l ∨ t = (S t).r) then G.a t else G.a t) = G.a t := by split <;> rfl
  refine ⟨{ G with a := fun x => if x ≠ 0 ∧ (x = (S t).l ∨ x = (S t).r) then G.a t else G.a x }, ⟨h.wf, h.ft, h.lt, h.n0, h.nn, fun x hx => ?_, h.p0, fun x hx => ?_⟩, lk, at', rfl, by rw [at1]; simp, by rw [at1]; simp, by rw [at1]; simp, by rw [at1]; simp⟩
  · have : ¬ (x ≠ 0 ∧ (x = (S t).l ∨ x = (S t).r)) := fun e => hx (h.up_kid ht e.2 e.1).th
    rw [at1, if_neg (show ¬ x = t from fun e => hx (by rw [e]; exact ht)), if_neg this]
    exact h.out x hx
  · have Lx := h.loc x hx
    have x0 : x ≠ 0 := by have := hx.1; omega
    obtain ⟨f1, f2, f3, f4, f5, f6⟩ := fl x
    have tp : Top S1 x → Tp S1 T { G with a := fun x => if x ≠ 0 ∧ (x = (S t).l ∨ x = (S t).r) then G.a t else G.a x } x := fun htop => by
      have htop' := (lk.top x).1 htop
      have : ¬ (x ≠ 0 ∧ (x = (S t).l ∨ x = (S t).r)) := fun e => (h.up_kid ht e.2 e.1).nt (by rcases e.2 with e | e <;> simp [e]) htop'
      refine (Lx.tp htop').like lk (Lx.tp htop').b ?_
      show (if x ≠ 0 ∧ (x = (S t).l ∨ x = (S t).r) then G.a t else G.a x) = 0
      rw [if_neg this]; exact (Lx.tp htop').a
    have huu : (S1 x).hu = ⟨(S1 (S1 x).l).hu.c + (S1 x).hg.c + (S1 (S1 x).r).hu.c, (S1 (S1 x).l).hu.w + (S1 x).hg.w + (S1 (S1 x).r).hu.w⟩ := by
      rw [f2, f3, f5, f6, (fl _).2.2.2.2.2, (fl _).2.2.2.2.2]; exact Lx.hu
    have kk : ∀ j, j ≠ 0 → j = (S x).l ∨ j = (S x).r → (if j ≠ 0 ∧ (j = (S t).l ∨ j = (S t).r) then G.a t else G.a j) = (if x ≠ 0 ∧ (x = (S t).l ∨ x = (S t).r) then G.a t else G.a x) + (S1 x).wa → Ki S1 T { G with a := fun x => if x ≠ 0 ∧ (x = (S t).l ∨ x = (S t).r) then G.a t else G.a x } x j := fun j j0 hj ha => by
      have K := h.up_kid hx hj j0
      exact ⟨K.th, by rw [(fl j).1]; exact K.up, by rw [f4]; exact K.b, ha⟩
    have K2 : ∀ j, j ≠ 0 → j = (S x).l ∨ j = (S x).r → Ki S1 T { G with a := fun x => if x ≠ 0 ∧ (x = (S t).l ∨ x = (S t).r) then G.a t else G.a x } x j := fun j j0 hj => by
      refine kk j j0 hj ?_
      have K := h.up_kid hx hj j0
      by_cases e : x = t
      · subst e
        rw [if_pos ⟨j0, hj⟩, at', at1, if_pos rfl]; simp
      · have jn : ¬ (j ≠ 0 ∧ (j = (S t).l ∨ j = (S t).r)) := fun hj2 => e (by rw [← K.up]; exact (h.up_kid ht hj2.2 j0).up)
        rw [if_neg jn, at1, if_neg e]
        by_cases ek : x ≠ 0 ∧ (x = (S t).l ∨ x = (S t).r)
        · rw [if_pos ek, if_pos ek, rzS]
          have hc : 1 < (S x).sm.c := Classical.byContradiction fun hc => by
            have := h.alone hx hc
            rcases hj with rfl | rfl <;> omega
          rw [if_pos hc, K.a, (h.up_kid ht ek.2 x0).a, hd]
          dsimp only; omega
        · rw [if_neg ek, if_neg ek]; exact K.a
    have nk : ∀ j, j ≠ 0 → j = (S x).l ∨ j = (S x).r → x ≠ t → (S1 j).sm = (S j).sm := fun j j0 hj e => by
      have K := h.up_kid hx hj j0
      exact sm2 j fun hj2 => e (by rw [← K.up]; exact (h.up_kid ht hj2.2 j0).up)
    have s10 : (S1 0).sm = zero := by rw [sm2 0 (by simp), h.s0]; rfl
    have nk' : ∀ j, j = (S x).l ∨ j = (S x).r → x ≠ t → (S1 j).sm = (S j).sm := fun j hj e => by
      by_cases j0 : j = 0
      · rw [j0, s10, h.s0]; rfl
      · exact nk j j0 hj e
    refine ⟨fun e => K2 _ e (.inl f2), fun e => K2 _ e (.inr f3), by rw [f2, f3]; exact Lx.lr, by rw [f2, f3]; exact Lx.en.gh rfl rfl rfl, Lx.nx, ?_, ?_, ?_, huu, by rw [f5]; exact Lx.hgc, by rw [f5]; exact Lx.hgw, ?_, tp⟩
    · show (S1 x).wt + (if x ≠ 0 ∧ (x = (S t).l ∨ x = (S t).r) then G.a t else G.a x) = _
      by_cases e : x = t
      · subst e; rw [at', at1, if_pos rfl]; exact Lx.wt
      · rw [at1, if_neg e]
        by_cases ek : x ≠ 0 ∧ (x = (S t).l ∨ x = (S t).r)
        · rw [if_pos ek, if_pos ek, (rzS_f _ _).2.2.2.2.2.2.2, (kb x ek.2 x0).2.2, ← Lx.wt, (h.up_kid ht ek.2 x0).a, hd]; omega
        · rw [if_neg ek, if_neg ek]; exact Lx.wt
    · rw [f2, f3]
      by_cases e : x = t
      · subst e
        have q : ∀ j, j = (S x).l ∨ j = (S x).r → (S1 j).sm = lf (S j).sm d := fun j hj => by
          by_cases j0 : j = 0
          · rw [j0, s10, h.s0]; exact (lf_nil d).symm
          · exact sm1 j j0 hj
        rw [q _ (.inl rfl), q _ (.inr rfl), at1, if_pos rfl]
        dsimp only
        rw [lf_zero, lf_zero, ← hd]; exact Lx.sm
      · rw [nk' _ (.inl rfl) e, nk' _ (.inr rfl) e]
        by_cases ek : x ≠ 0 ∧ (x = (S t).l ∨ x = (S t).r)
        · have kv := (kb x ek.2 x0).2.2
          have ol := ok_lf (h.ok (S x).l) (S x).wa
          have or' := ok_lf (h.ok (S x).r) (S x).wa
          rw [at1, if_neg e, if_pos ek, rzS]
          split
          · dsimp only
            rw [kv, Lx.sm, lf_jn (ok_jn ol (ok_one _)) or', lf_jn ol (ok_one _), lf_lf, lf_lf, lf_one]
          · rename_i hc
            obtain ⟨z1, z2⟩ := h.alone hx hc
            dsimp only
            rw [kv, Lx.sm, z1, z2, h.s0]
            rw [show Sl.zero.sm = zero from rfl, lf_nil, jn_nil, lf_one, jn_nil]
        · rw [at1, if_neg e, if_neg ek]; exact Lx.sm
    · by_cases ek : x ≠ 0 ∧ (x = (S t).l ∨ x = (S t).r)
      · rw [sm1 x x0 ek.2]; exact (kb x ek.2 x0).2.1
      · rw [sm2 x ek]; exact Lx.fit
    · rw [f2, f3, f4]
      intro a b
      refine ⟨(Lx.id a b).1, ?_⟩
      rw [at1]; split
      · rfl
      · split
        · have : ¬ 1 < (S x).sm.c := by
            have := h.cc hx
            rw [a, b, h.s0] at this
            have : (S x).sm.c = 0 + 1 + 0 := this
            omega
          rw [rzS, if_neg this]; exact (Lx.id a b).2
        · exact (Lx.id a b).2
theorem Lc.settle (h : Lc S n T G) (ht : Th T t) : ∃ G1, Lc (settleS S t) n T G1 ∧ Like S (settleS S t) G G1 ∧ G1.a t = G.a t ∧ G1.b t = G.b t ∧ (settleS S t t).tn = false ∧ (settleS S t t).wa = 0 ∧ (settleS S t t).l = (S t).l ∧ (settleS S t t).r = (S t).r := by
  obtain ⟨G1, h1, k1, b1, a1, n1, w1, l1, r1⟩ := h.settleT ht
  obtain ⟨G2, h2, k2, a2, b2, n2, w2, l2, r2⟩ := h1.settleW ht
  exact ⟨G2, h2, k1.trans k2, by rw [a2, a1], by rw [b2, b1], n2.trans n1, w2, l2.trans l1, r2.trans r1⟩
end
end Go.Proofs.Ytjnkgakajenoaaa
/- Plain mathematics for link: a part is rotated above the one of which it is. No Go in sight. -/

namespace Go.Proofs.Ytjnkgakajenoaaa
set_option linter.unusedVariables false
set_option linter.unusedSimpArgs false

/-- The near side and the far one. -/
def nr (s : Bool) (x : Sl) : Nat := if s then x.r else x.l
def fr (s : Bool) (x : Sl) : Nat := if s then x.l else x.r
section
variable {S S1 : Ss} {n : Nat} {T : Tr} {G G1 : Gh} {t u o A M B x y k : Nat} {d : Int} {s : Bool}
theorem Lc.ends (h : Lc S n T G) : ∀ (k : Nat) (x : Nat), Th T x → (S x).sm.c ≤ k → G.fi x ∈ U T x ∧ x ∈ U T (G.la x)
  | 0, x, hx, hc => by have := (h.loc x hx).fit.c1; omega
  | k + 1, x, hx, hc => by
    have L := h.loc x hx
    have A : (S x).l ≠ 0 → _ := fun e => Lc.ends h k _ (L.kl e).th (by have := h.cl hx; omega)
    have B : (S x).r ≠ 0 → _ := fun e => Lc.ends h k _ (L.kr e).th (by have := h.cr hx; omega)
    have en := L.en
    have pc : ∀ z y, Th T z → G.pn z = y → y ≠ 0 → z ∈ U T y := fun z y hz e y0 => by
      subst e
      obtain ⟨h1, h2⟩ := (h.loc z hz).nx y0
      have h3 := hz.1
      have := U_ps h.wf h1 (by omega)
      rwa [h2] at this
    have main : ∀ P Q : Nat, (P ≠ 0 → G.fi P ∈ U T P ∧ P ∈ U T (G.la P)) → (Q ≠ 0 → G.fi Q ∈ U T Q ∧ Q ∈ U T (G.la Q)) → (P = 0 → G.fi x = x) → (P ≠ 0 → G.fi x = G.fi P ∧ G.pn (G.la P) = x) → (Q = 0 → G.la x = x) → (Q ≠ 0 → G.la x = G.la Q ∧ G.pn x = G.fi Q) → G.fi x ∈ U T x ∧ x ∈ U T (G.la x) := by
      intro P Q hP hQ e1 e2 e3 e4
      have x0 : x ≠ 0 := by have := hx.1; omega
      constructor
      · by_cases p : P = 0
        · rw [e1 p]; exact U_self h.wf hx
        · obtain ⟨q1, q2⟩ := hP p
          obtain ⟨q3, q4⟩ := e2 p
          rw [q3]
          have := pc (G.la P) x (U_mem_th' h.wf q2) q4 x0
          exact U_trans h.wf this (U_trans h.wf q2 q1)
      · by_cases q : Q = 0
        · rw [e3 q]; exact U_self h.wf hx
        · obtain ⟨q1, q2⟩ := hQ q
          obtain ⟨q3, q4⟩ := e4 q
          rw [q3]
          have f0 : G.fi Q ≠ 0 := by have := (U_mem_th h.wf q1).1; omega
          exact U_trans h.wf q2 (U_trans h.wf q1 (pc x (G.fi Q) hx q4 f0))
    cases hb : G.b x
    · rw [hb] at en
      exact main _ _ A B (fun e => en.l0 e) (fun e => en.l1 e) (fun e => en.r0 e) (fun e => en.r1 e)
    · rw [hb] at en
      exact main _ _ B A (fun e => en.r0 e) (fun e => en.r1 e) (fun e => en.l0 e) (fun e => en.l1 e)
theorem Lc.fi_in (h : Lc S n T G) (hx : Th T x) : G.fi x ∈ U T x := (h.ends (S x).sm.c.toNat x hx (by have := h.cn x; omega)).1
theorem Lc.la_in (h : Lc S n T G) (hx : Th T x) : x ∈ U T (G.la x) := (h.ends (S x).sm.c.toNat x hx (by have := h.cn x; omega)).2
theorem Lc.pn_in (h : Lc S n T G) (hx : Th T x) (h0 : G.pn x ≠ 0) : x ∈ U T (G.pn x) := by
  obtain ⟨h1, h2⟩ := (h.loc x hx).nx h0
  have h3 := hx.1
  have := U_ps h.wf h1 (by omega)
  rwa [h2] at this
/-- The upper end of a part is above its kids too. -/
theorem Lc.fi_kid (h : Lc S n T G) (hx : Th T x) (hk : k = (S x).l ∨ k = (S x).r) (k0 : k ≠ 0) : G.fi x ∈ U T k := by
  have L := h.loc x hx
  have K := h.up_kid hx hk k0
  have en := L.en
  have main : ∀ P Q : Nat, (k = P ∨ k = Q) → (P ≠ 0 → G.fi x = G.fi P ∧ G.pn (G.la P) = x) → (Q ≠ 0 → G.la x = G.la Q ∧ G.pn x = G.fi Q) → G.fi x ∈ U T k := by
    intro P Q hk e1 e2
    rcases hk with rfl | rfl
    · rw [(e1 k0).1]; exact h.fi_in K.th
    · have f := h.fi_in K.th
      have f0 : G.fi k ≠ 0 := by have := (U_mem_th h.wf f).1; omega
      have := h.pn_in hx (by rw [(e2 k0).2]; exact f0)
      rw [(e2 k0).2] at this
      exact U_trans h.wf f (U_trans h.wf this (h.fi_in hx))
  cases hb : G.b x
  · rw [hb] at en
    exact main _ _ hk (fun e => en.l1 e) (fun e => en.r1 e)
  · rw [hb] at en
    exact main _ _ hk.symm (fun e => en.r1 e) (fun e => en.l1 e)
theorem Lc.fi_th (h : Lc S n T G) (hx : Th T x) : Th T (G.fi x) := U_mem_th h.wf (h.fi_in hx)
/-- Where a top hangs, it is higher up than all of its part. -/
theorem Lc.up_dp (h : Lc S n T G) (hx : Th T x) (ht : Top S x) : dp T (S x).up < dp T (G.fi x) := by
  have P := (h.loc x hx).tp ht
  have := dp_th h.wf (h.fi_th hx)
  rw [P.fi] at this; omega
theorem not_top : ¬ Top S x ↔ (S (S x).up).l = x ∨ (S (S x).up).r = x := by unfold Top; omega
theorem Lc.nt_up (h : Lc S n T G) (hx : Th T x) (ht : ¬ Top S x) : Th T (S x).up ∧ (x = (S (S x).up).l ∨ x = (S (S x).up).r) ∧ (S x).sm.c < (S (S x).up).sm.c := by
  have h1 := not_top.1 ht
  have x0 := hx.1
  have hu : Th T (S x).up := Classical.byContradiction fun hn => by
    rw [h.out _ hn] at h1
    simp [Sl.zero] at h1; omega
  refine ⟨hu, by omega, ?_⟩
  have k1 := h.cl hu
  have k2 := h.cr hu
  rcases h1 with e | e
  · rw [e] at k1; exact k1
  · rw [e] at k2; exact k2
theorem Fitm.one {w : Int} (h : -1099511627776 ≤ w ∧ w ≤ 1099511627776) : Fitm (one w) := ⟨by simp [Go.Proofs.Ytjnkgakajenoaaa.one], h.1, by simp [Go.Proofs.Ytjnkgakajenoaaa.one], h.2, by simp [Go.Proofs.Ytjnkgakajenoaaa.one], by simp [Go.Proofs.Ytjnkgakajenoaaa.one]⟩
theorem Fitm.jn {x y : Sm} (hx : Fitm x) (hy : Fitm y) : Fitm (jn x y) := by
  obtain ⟨a1, a2, a3, a4, a5, a6⟩ := hx
  obtain ⟨b1, b2, b3, b4, b5, b6⟩ := hy
  unfold Go.Proofs.Ytjnkgakajenoaaa.jn
  rw [if_neg (by omega), if_neg (by omega)]
  have m1 : x.c * min x.a y.a ≤ x.c * x.a := Int.mul_le_mul_of_nonneg_left (by omega) (by omega)
  have m2 : y.c * min x.a y.a ≤ y.c * y.a := Int.mul_le_mul_of_nonneg_left (by omega) (by omega)
  have m3 : x.c * x.b ≤ x.c * max x.b y.b := Int.mul_le_mul_of_nonneg_left (by omega) (by omega)
  have m4 : y.c * y.b ≤ y.c * max x.b y.b := Int.mul_le_mul_of_nonneg_left (by omega) (by omega)
  refine ⟨?_, ?_, ?_, ?_, ?_, ?_⟩ <;> dsimp only
  · omega
  · omega
  · omega
  · omega
  · rw [Int.add_mul]; omega
  · rw [Int.add_mul]; omega
theorem Fitm.mid {x y : Sm} {w : Int} (hx : x = zero ∨ Fitm x) (hy : y = zero ∨ Fitm y) (hw : -1099511627776 ≤ w ∧ w ≤ 1099511627776) : Fitm (Go.Proofs.Ytjnkgakajenoaaa.jn (Go.Proofs.Ytjnkgakajenoaaa.jn x (Go.Proofs.Ytjnkgakajenoaaa.one w)) y) := by
  have h1 : Fitm (Go.Proofs.Ytjnkgakajenoaaa.jn x (Go.Proofs.Ytjnkgakajenoaaa.one w)) := by
    rcases hx with rfl | hx
    · rw [jn_zero_left]; exact Fitm.one hw
    · exact hx.jn (Fitm.one hw)
  rcases hy with rfl | hy
  · rw [jn_zero_right ⟨by have := h1.c1; omega, fun e => by have := h1.c1; omega⟩]; exact h1
  · exact h1.jn hy
theorem Lc.fit0 (h : Lc S n T G) (x : Nat) : (S x).sm = zero ∨ Fitm (S x).sm := by
  by_cases hx : Th T x
  · exact .inr (h.loc x hx).fit
  · rw [h.out x hx]; exact .inl rfl
theorem Lc.wt_bd (h : Lc S n T G) (x : Nat) : -1099511627776 ≤ (S x).wt ∧ (S x).wt ≤ 1099511627776 := by
  by_cases hx : Th T x
  · have F := (h.loc x hx).fit
    have a := h.ab hx
    have := F.lo; have := F.hi; omega
  · rw [h.out x hx]; simp [Sl.zero]

theorem En.side {β : Bool} (s : Bool) {x : Sl} (h : En G β x.l x.r t) : En G (β != s) (nr s x) (fr s x) t := by
  cases s
  · cases β <;> exact h
  · cases β <;> exact h.flip
theorem En.unside {β : Bool} (s : Bool) {x : Sl} (h : En G (β != s) (nr s x) (fr s x) t) : En G β x.l x.r t := by
  cases s
  · cases β <;> exact h
  · cases β
    · exact h.flip
    · exact h.flip
theorem sm_side (s : Bool) (w d : Int) (x : Sl) (ok : ∀ y, (S y).sm.ok) : jn (jn (lf (S x.l).sm d) (one w)) (lf (S x.r).sm d) = jn (jn (lf (S (nr s x)).sm d) (one w)) (lf (S (fr s x)).sm d) := by
  cases s
  · rfl
  · have hl := ok_lf (ok x.l) d
    have hr := ok_lf (ok x.r) d
    show _ = jn (jn (lf (S x.r).sm d) (one w)) (lf (S x.l).sm d)
    rw [jn_comm (ok_jn hl (ok_one w)) hr, jn_comm hl (ok_one w), jn_assoc hr (ok_one w) hl]
theorem hu_side (s : Bool) (x : Sl) (g : Ms) : (⟨(S x.l).hu.c + g.c + (S x.r).hu.c, (S x.l).hu.w + g.w + (S x.r).hu.w⟩ : Ms) = ⟨(S (nr s x)).hu.c + g.c + (S (fr s x)).hu.c, (S (nr s x)).hu.w + g.w + (S (fr s x)).hu.w⟩ := by
  cases s
  · rfl
  · show _ = (⟨(S x.r).hu.c + g.c + (S x.l).hu.c, (S x.r).hu.w + g.w + (S x.l).hu.w⟩ : Ms)
    congr 1 <;> omega
theorem nr_or (s : Bool) (x : Sl) : (nr s x = x.l ∨ nr s x = x.r) ∧ (fr s x = x.l ∨ fr s x = x.r) := by cases s <;> simp [nr, fr]
theorem kid_side (s : Bool) (x : Sl) {k : Nat} : (k = x.l ∨ k = x.r) ↔ (k = nr s x ∨ k = fr s x) := by cases s <;> simp [nr, fr, or_comm]

/-- The state behind a rotation, by its fields. -/
structure Rot (s : Bool) (S S1 : Ss) (t u o A M B : Nat) : Prop where
  all : ∀ x, (S1 x).wt = (S x).wt ∧ (S1 x).wa = (S x).wa ∧ (S1 x).tn = (S x).tn ∧ (S1 x).hg = (S x).hg
  upt : (S1 t).up = o
  upu : (S1 u).up = t
  upM : M ≠ 0 → (S1 M).up = u
  upx : ∀ x, x ≠ t → x ≠ u → (x ≠ M ∨ M = 0) → (S1 x).up = (S x).up
  nt : nr s (S1 t) = A
  ft : fr s (S1 t) = u
  nu : nr s (S1 u) = M
  fu : fr s (S1 u) = B
  lx : ∀ x, x ≠ t → x ≠ u → (S1 x).l = (if (S x).l = u then t else (S x).l) ∧ (S1 x).r = (if (S x).r = u then t else (S x).r)
  sx : ∀ x, x ≠ t → x ≠ u → (S1 x).sm = (S x).sm ∧ (S1 x).hu = (S x).hu
  su : (S1 u).sm = jn (jn (S1 (S1 u).l).sm (one (S u).wt)) (S1 (S1 u).r).sm
  hu : (S1 u).hu = ⟨(S1 (S1 u).l).hu.c + (S u).hg.c + (S1 (S1 u).r).hu.c, (S1 (S1 u).l).hu.w + (S u).hg.w + (S1 (S1 u).r).hu.w⟩
  st : (S1 t).sm = jn (jn (S1 (S1 t).l).sm (one (S t).wt)) (S1 (S1 t).r).sm
  ht : (S1 t).hu = ⟨(S1 (S1 t).l).hu.c + (S t).hg.c + (S1 (S1 t).r).hu.c, (S1 (S1 t).l).hu.w + (S t).hg.w + (S1 (S1 t).r).hu.w⟩

/-- What is thought of, behind a rotation. -/
def rotG (G : Gh) (β : Bool) (t u M : Nat) : Gh :=
  if β then { G with la := updF G.la u (if M = 0 then u else G.la M), fi := updF G.fi t (G.fi u) }
  else { G with fi := updF G.fi u (if M = 0 then u else G.fi M), la := updF G.la t (G.la u) }
theorem rotG_f (G : Gh) (β : Bool) (t u M : Nat) : (rotG G β t u M).f β = updF (G.f β) u (if M = 0 then u else G.f β M) ∧ (rotG G β t u M).g β = updF (G.g β) t (G.g β u) ∧ (rotG G β t u M).nx β = G.nx β ∧ (rotG G β t u M).b = G.b ∧ (rotG G β t u M).a = G.a ∧ (rotG G β t u M).pn = G.pn := by
  cases β <;> simp [rotG, Gh.f, Gh.g] <;> rfl
theorem rotG_x (G : Gh) (β : Bool) {t u M x : Nat} (h1 : x ≠ t) (h2 : x ≠ u) : (rotG G β t u M).fi x = G.fi x ∧ (rotG G β t u M).la x = G.la x := by
  cases β <;> simp [rotG, updF, h1, h2]
theorem rotG_t (G : Gh) (β : Bool) {t u M : Nat} (h : t ≠ u) (hf : G.f β u = G.f β t) : (rotG G β t u M).fi t = G.fi u ∧ (rotG G β t u M).la t = G.la u := by
  cases β <;> simp [rotG, updF, h] <;> simp [Gh.f] at hf <;> exact hf.symm

set_option maxHeartbeats 4000000 in
theorem Lc.rot (h : Lc S n T G) (ht : Th T t) (hu : Th T u) (ku : nr s (S u) = t) (kA : nr s (S t) = A) (kM : fr s (S t) = M) (kB : fr s (S u) = B) (ko : (S u).up = o)
    (nt : (S t).tn = false) (wt : (S t).wa = 0) (nu : (S u).tn = false) (wu : (S u).wa = 0) (R : Rot s S S1 t u o A M B) :
    Lc S1 n T (rotG G (G.b u != s) t u M) ∧ (S1 t).sm = (S u).sm ∧ t ≠ u ∧ (rotG G (G.b u != s) t u M).fi t = G.fi u ∧ (rotG G (G.b u != s) t u M).la t = G.la u ∧ (∀ x, Th T x → Top S x → x ≠ u → Top S1 x ∧ (S1 x).up = (S x).up ∧ x ≠ t) ∧ (Top S1 t ↔ Top S u) := by
  have Lt := h.loc t ht
  have Lu := h.loc u hu
  have t0 : t ≠ 0 := by have := ht.1; omega
  have u0 : u ≠ 0 := by have := hu.1; omega
  have kt : t = (S u).l ∨ t = (S u).r := (kid_side s _).2 (.inl ku.symm)
  have Kt : Ki S T G u t := h.up_kid hu kt t0
  have tu : t ≠ u := h.kid_ne hu kt
  have cA : A = (S t).l ∨ A = (S t).r := (kid_side s _).2 (.inl kA.symm)
  have cM : M = (S t).l ∨ M = (S t).r := (kid_side s _).2 (.inr kM.symm)
  have cB : B = (S u).l ∨ B = (S u).r := (kid_side s _).2 (.inr kB.symm)
  have ctu : (S t).sm.c < (S u).sm.c := by rcases kt with e | e <;> rw [e]; exact h.cl hu; exact h.cr hu
  have cAt : (S A).sm.c < (S t).sm.c := by rcases cA with e | e <;> rw [e]; exact h.cl ht; exact h.cr ht
  have cMt : (S M).sm.c < (S t).sm.c := by rcases cM with e | e <;> rw [e]; exact h.cl ht; exact h.cr ht
  have At : A ≠ t := fun e => by rw [e] at cAt; omega
  have Au : A ≠ u := fun e => by rw [e] at cAt; omega
  have Mt : M ≠ t := fun e => by rw [e] at cMt; omega
  have Mu : M ≠ u := fun e => by rw [e] at cMt; omega
  have Bu : B ≠ u := h.kid_ne hu cB
  have Bt : B ≠ t := fun e => by
    have := Lu.lr
    have e1 : nr s (S u) = fr s (S u) := by rw [ku, kB, e]
    cases s
    · exact t0 (by rw [← ku]; exact this e1)
    · exact t0 (by rw [← ku]; exact (e1.trans (this e1.symm)))
  have KA : A ≠ 0 → Ki S T G t A := fun e => h.up_kid ht cA e
  have KM : M ≠ 0 → Ki S T G t M := fun e => h.up_kid ht cM e
  have KB : B ≠ 0 → Ki S T G u B := fun e => h.up_kid hu cB e
  have MA : M ≠ 0 → A ≠ M := fun e e' => by
    have e1 : nr s (S t) = fr s (S t) := by rw [kA, kM, e']
    have := Lt.lr
    cases s
    · exact e (by rw [← e', ← kA]; exact this e1)
    · exact e (by rw [← kM]; exact this e1.symm)
  have MB : M ≠ 0 → B ≠ M := fun e e' => by
    have h1 := (KM e).up
    have h2 := (KB (by omega)).up
    rw [e'] at h2; omega
  have bt : G.b t = G.b u := by rw [Kt.b, nu]; simp
  have a_t : G.a t = G.a u := by rw [Kt.a, wu]; simp
  -- where it hangs
  have ou : o ≠ u ∧ o ≠ t := by
    by_cases hT : Top S u
    · have h1 := h.up_dp hu hT
      have h2 : G.fi u ∈ U T u := h.fi_in hu
      have h3 : G.fi u ∈ U T t := h.fi_kid hu kt t0
      have h4 := U_dp h.wf h2
      have h5 := U_dp h.wf h3
      rw [ko] at h1
      refine ⟨fun e => ?_, fun e => ?_⟩
      · rw [e] at h1; rcases h4 with e4 | e4
        · rw [e4] at h1; omega
        · omega
      · rw [e] at h1; rcases h5 with e4 | e4
        · rw [e4] at h1; omega
        · omega
    · obtain ⟨h1, h2, h3⟩ := h.nt_up hu hT
      rw [ko] at h3
      refine ⟨fun e => ?_, fun e => ?_⟩ <;> rw [e] at h3 <;> omega
  -- ends
  have enu := Lu.en.side s
  have ent := Lt.en.side s
  rw [bt] at ent
  rw [ku, kB] at enu
  rw [kA, kM] at ent
  generalize hβ : (G.b u != s) = β at *
  obtain ⟨gf, gg, gn, gb, ga, gp⟩ := rotG_f G β t u M
  have fut : G.f β u = G.f β t := (enu.l1 t0).1
  obtain ⟨fit, lat⟩ := rotG_t G β (M := M) tu fut
  have fgt : ∀ γ, (rotG G β t u M).f γ t = G.f γ u ∧ (rotG G β t u M).g γ t = G.g γ u := fun γ => by cases γ <;> simp [Gh.f, Gh.g, fit, lat]
  have fgx : ∀ γ x, x ≠ t → x ≠ u → (rotG G β t u M).f γ x = G.f γ x ∧ (rotG G β t u M).g γ x = G.g γ x := fun γ x h1 h2 => by
    obtain ⟨q1, q2⟩ := rotG_x G β (M := M) h1 h2
    cases γ <;> simp [Gh.f, Gh.g, q1, q2]
  have fu' : (rotG G β t u M).f β u = (if M = 0 then u else G.f β M) := by rw [gf]; simp [updF]
  have gu' : (rotG G β t u M).g β u = G.g β u := by rw [gg]; simp [updF, Ne.symm tu]
  -- sums
  have smt := Lt.sm
  have smu := Lu.sm
  rw [sm_side s _ _ _ h.ok, kA, kM, wt, lf_zero, lf_zero] at smt
  rw [sm_side s _ _ _ h.ok, ku, kB, wu, lf_zero, lf_zero] at smu
  have hut := Lt.hu
  have huu := Lu.hu
  rw [hu_side s, kA, kM] at hut
  rw [hu_side s, ku, kB] at huu
  have sA := R.sx A At Au
  have sM := R.sx M Mt Mu
  have sB := R.sx B Bt Bu
  have oku : ∀ P : Nat, (P = M ∨ P = B) → (S1 P).sm.ok := fun P hP => by
    rcases hP with rfl | rfl
    · rw [sM.1]; exact h.ok _
    · rw [sB.1]; exact h.ok _
  have su : (S1 u).sm = jn (jn (S M).sm (one (S u).wt)) (S B).sm := by
    have e := R.su
    cases s
    · have e1 : (S1 u).l = M := R.nu
      have e2 : (S1 u).r = B := R.fu
      rw [e, e1, e2, sM.1, sB.1]
    · have e1 : (S1 u).r = M := R.nu
      have e2 : (S1 u).l = B := R.fu
      rw [e, e1, e2, sM.1, sB.1, jn_comm (ok_jn (h.ok _) (ok_one _)) (h.ok _), jn_comm (h.ok _) (ok_one _), jn_assoc (h.ok _) (ok_one _) (h.ok _)]
  have oku1 : (S1 u).sm.ok := by rw [su]; exact ok_jn (ok_jn (h.ok _) (ok_one _)) (h.ok _)
  have st : (S1 t).sm = jn (jn (S A).sm (one (S t).wt)) (S1 u).sm := by
    have e := R.st
    cases s
    · have e1 : (S1 t).l = A := R.nt
      have e2 : (S1 t).r = u := R.ft
      rw [e1, e2, sA.1] at e; exact e
    · have e1 : (S1 t).r = A := R.nt
      have e2 : (S1 t).l = u := R.ft
      rw [e1, e2, sA.1] at e
      rw [e, jn_comm (ok_jn oku1 (ok_one _)) (h.ok _), jn_comm oku1 (ok_one _), jn_assoc (h.ok _) (ok_one _) oku1]
  have hu1 : (S1 u).hu = ⟨(S M).hu.c + (S u).hg.c + (S B).hu.c, (S M).hu.w + (S u).hg.w + (S B).hu.w⟩ := by
    have e := R.hu
    rw [hu_side s, R.nu, R.fu, sM.2, sB.2] at e; exact e
  have ht1 : (S1 t).hu = ⟨(S A).hu.c + (S t).hg.c + (S1 u).hu.c, (S A).hu.w + (S t).hg.w + (S1 u).hu.w⟩ := by
    have e := R.ht
    rw [hu_side s, R.nt, R.ft, sA.2] at e; exact e
  have stu : (S1 t).sm = (S u).sm := by
    have o1 := h.ok A
    have o2 := h.ok M
    have o3 := h.ok B
    rw [st, su, smu, smt]
    rw [jn_assoc (ok_jn (ok_jn o1 (ok_one _)) o2) (ok_one _) o3, jn_assoc (ok_jn o1 (ok_one _)) o2 (ok_jn (ok_one _) o3), jn_assoc o2 (ok_one _) o3]
  have htu : (S1 t).hu = (S u).hu := by
    rw [ht1, hu1, huu, hut]
    dsimp only
    congr 1 <;> omega
  have smx : ∀ j, (S1 (if j = u then t else j)).sm = (S j).sm ∧ (S1 (if j = u then t else j)).hu = (S j).hu ∨ j = t := fun j => by
    by_cases e : j = u
    · subst e; rw [if_pos rfl]; exact .inl ⟨stu, htu⟩
    · by_cases e2 : j = t
      · exact .inr e2
      · rw [if_neg e]; exact .inl (R.sx j e2 e)
  have TT : Top S1 t ↔ Top S u := by
    unfold Top
    rw [R.upt, ko, (R.lx o ou.2 ou.1).1, (R.lx o ou.2 ou.1).2]
    have e1 : (S o).l ≠ t := fun e => by
      by_cases ho : Th T o
      · have := (h.up_kid ho (.inl e.symm) t0).up; rw [Kt.up] at this; omega
      · rw [h.out o ho] at e; exact t0 e.symm
    have e2 : (S o).r ≠ t := fun e => by
      by_cases ho : Th T o
      · have := (h.up_kid ho (.inr e.symm) t0).up; rw [Kt.up] at this; omega
      · rw [h.out o ho] at e; exact t0 e.symm
    by_cases q1 : (S o).l = u <;> by_cases q2 : (S o).r = u <;> simp [q1, q2, e1, e2]
  have Tx : ∀ x, Th T x → x ≠ t → x ≠ u → (x ≠ M ∨ M = 0) → (Top S1 x ↔ Top S x) := fun x hx h1 h2 h3 => by
    unfold Top
    rw [R.upx x h1 h2 h3]
    have x0 : x ≠ 0 := by have := hx.1; omega
    have sd : ∀ (X : Sl), (X.l ≠ x ∧ X.r ≠ x) ↔ (nr s X ≠ x ∧ fr s X ≠ x) := fun X => by cases s <;> simp [nr, fr, and_comm]
    by_cases y1 : (S x).up = t
    · rw [y1, sd, sd, R.nt, R.ft, kA, kM]
      have : M ≠ x := fun e => by rcases h3 with h3 | h3 <;> omega
      simp [this, Ne.symm h2]
    · by_cases y2 : (S x).up = u
      · rw [y2, sd, sd, R.nu, R.fu, ku, kB]
        have : M ≠ x := fun e => by rcases h3 with h3 | h3 <;> omega
        simp [this, Ne.symm h1]
      · rw [(R.lx _ y1 y2).1, (R.lx _ y1 y2).2]
        have q : ∀ j : Nat, (if j = u then t else j) ≠ x ↔ j ≠ x := fun j => by
          by_cases e : j = u
          · rw [if_pos e]; exact ⟨fun _ e' => h2 (e'.symm.trans e), fun _ e' => h1 e'.symm⟩
          · rw [if_neg e]
        rw [q, q]
  have Mn : M ≠ 0 → ¬ Top S1 M := fun e hT => by
    unfold Top at hT
    rw [R.upM e] at hT
    have := R.nu
    cases s
    · exact hT.1 this
    · exact hT.2 this
  have un : ¬ Top S1 u := fun hT => by
    unfold Top at hT
    rw [R.upu] at hT
    have := R.ft
    cases s
    · exact hT.2 this
    · exact hT.1 this
  refine ⟨⟨h.wf, h.ft, h.lt, h.n0, h.nn, fun x hx => ?_, by rw [gp]; exact h.p0, fun x hx => ?_⟩, stu, tu, fit, lat, fun x hx hT hxu => ?_, TT⟩
  · have h1 : x ≠ t := fun e => hx (by rw [e]; exact ht)
    have h2 : x ≠ u := fun e => hx (by rw [e]; exact hu)
    have h3 : x ≠ M ∨ M = 0 := by
      by_cases e : M = 0
      · exact .inr e
      · exact .inl fun e' => hx (by rw [e']; exact (KM e).th)
    have z := h.out x hx
    obtain ⟨q1, q2, q3, q4⟩ := R.all x
    obtain ⟨q5, q6⟩ := R.lx x h1 h2
    obtain ⟨q7, q8⟩ := R.sx x h1 h2
    have q9 := R.upx x h1 h2 h3
    rw [z] at q1 q2 q3 q4 q5 q6 q7 q8 q9
    have zl : Sl.zero.l = 0 := rfl
    have zr : Sl.zero.r = 0 := rfl
    rw [zl, if_neg (Ne.symm u0)] at q5
    rw [zr, if_neg (Ne.symm u0)] at q6
    cases hh : S1 x with
    | mk up l r tn wt wa sm hg hu' =>
      rw [hh] at q1 q2 q3 q4 q5 q6 q7 q8 q9
      simp only at q1 q2 q3 q4 q5 q6 q7 q8 q9
      subst q1 q2 q3 q4 q5 q6 q7 q8 q9
      rfl
  · have Lx := h.loc x hx
    have x0 : x ≠ 0 := by have := hx.1; omega
    obtain ⟨w1, w2, w3, w4⟩ := R.all x
    by_cases e1 : x = t
    · subst e1
      have kk : ∀ j, j = (S1 x).l ∨ j = (S1 x).r → j ≠ 0 → Ki S1 T (rotG G β x u M) x j := fun j hj j0 => by
        rw [kid_side s, R.nt, R.ft] at hj
        rcases hj with rfl | rfl
        · have K := KA j0
          exact ⟨K.th, by rw [R.upx j At Au (by by_cases e : M = 0; exact .inr e; exact .inl (MA e))]; exact K.up, by rw [gb, w3]; exact K.b, by rw [ga, w2]; exact K.a⟩
        · exact ⟨hu, R.upu, by rw [gb, w3, nt, bt]; simp, by rw [ga, w2, wt, a_t]; simp⟩
      refine ⟨fun e => kk _ (.inl rfl) e, fun e => kk _ (.inr rfl) e, ?_, ?_, by rw [gp]; exact Lx.nx, by rw [w1, ga]; exact Lx.wt, ?_, by rw [stu]; exact Lu.fit, by rw [w4]; exact R.ht, by rw [w4, gp]; exact Lx.hgc, by rw [w4, gp]; exact Lx.hgw, ?_, ?_⟩
      · have a1 := R.nt
        have a2 := R.ft
        cases s
        · intro e; exact absurd (show A = u by rw [← a1, ← a2]; exact e) Au
        · intro e; exact absurd (show A = u by rw [← a1, ← a2]; exact e.symm) Au
      · rw [gb]
        refine En.unside s ?_
        rw [bt, hβ, R.nt, R.ft]
        refine ⟨fun e => ?_, fun e => ?_, fun e => absurd e u0, fun _ => ⟨?_, ?_⟩⟩
        · rw [(fgt β).1, fut]; exact ent.l0 e
        · rw [(fgt β).1, fut, (fgx β A At Au).1, (fgx β A At Au).2, gn]; exact ent.l1 e
        · rw [(fgt β).2, gu']
        · rw [fu', gn]
          by_cases m : M = 0
          · rw [if_pos m]; have := (enu.l1 x0).2; rwa [ent.r0 m] at this
          · rw [if_neg m]; exact (ent.r1 m).2
      · rw [w1, w2, wt, lf_zero, lf_zero]; exact R.st
      · intro _ _; rw [w3, w2]; exact ⟨nt, wt⟩
      · intro hT
        have P := Lu.tp (TT.1 hT)
        exact ⟨by rw [gb, bt]; exact P.b, by rw [ga, a_t]; exact P.a, by rw [fit, R.upt, ← ko]; exact P.fi, by rw [gp, lat]; exact P.pn, by rw [gp, fit, R.upt, ← ko]; exact P.nv⟩
    · by_cases e2 : x = u
      · subst e2
        have kk : ∀ j, j = (S1 x).l ∨ j = (S1 x).r → j ≠ 0 → Ki S1 T (rotG G β t x M) x j := fun j hj j0 => by
          rw [kid_side s, R.nu, R.fu] at hj
          rcases hj with rfl | rfl
          · have K := KM j0
            exact ⟨K.th, R.upM j0, by rw [gb, w3, nu, K.b, nt, bt], by rw [ga, w2, wu, K.a, wt, a_t]⟩
          · have K := KB j0
            exact ⟨K.th, by rw [R.upx j Bt Bu (by by_cases e : M = 0; exact .inr e; exact .inl (MB e))]; exact K.up, by rw [gb, w3]; exact K.b, by rw [ga, w2]; exact K.a⟩
        refine ⟨fun e => kk _ (.inl rfl) e, fun e => kk _ (.inr rfl) e, ?_, ?_, by rw [gp]; exact Lx.nx, by rw [w1, ga]; exact Lx.wt, ?_, ?_, by rw [w4]; exact R.hu, by rw [w4, gp]; exact Lx.hgc, by rw [w4, gp]; exact Lx.hgw, ?_, fun hT => absurd hT un⟩
        · have a1 := R.nu
          have a2 := R.fu
          have key : M = B → M = 0 := fun e => Classical.byContradiction fun m => MB m e.symm
          cases s
          · intro e
            have := key (by rw [← a1, ← a2]; exact e)
            show nr false (S1 x) = 0
            rw [a1]; exact this
          · intro e
            have := key (by rw [← a1, ← a2]; exact e.symm)
            rw [e]; show nr true (S1 x) = 0
            rw [a1]; exact this
        · rw [gb]
          refine En.unside s ?_
          rw [hβ, R.nu, R.fu]
          refine ⟨fun e => ?_, fun e => ?_, fun e => ?_, fun e => ?_⟩
          · rw [fu', if_pos e]
          · rw [fu', if_neg e, (fgx β M Mt Mu).1, (fgx β M Mt Mu).2, gn]
            refine ⟨rfl, ?_⟩
            have := (enu.l1 t0).2
            rwa [(ent.r1 e).1] at this
          · rw [gu']; exact enu.r0 e
          · rw [gu', (fgx β B Bt Bu).1, (fgx β B Bt Bu).2, gn]; exact enu.r1 e
        · rw [w1, w2, wu, lf_zero, lf_zero]; exact R.su
        · rw [su]; exact Fitm.mid (h.fit0 _) (h.fit0 _) (h.wt_bd _)
        · intro _ _; rw [w3, w2]; exact ⟨nu, wu⟩
      · -- another one
        obtain ⟨l1, l2⟩ := R.lx x e1 e2
        obtain ⟨s1, s2⟩ := R.sx x e1 e2
        have nkt : ∀ j, j = (S x).l ∨ j = (S x).r → j ≠ t := fun j hj e => by
          have := (h.up_kid hx hj (by omega)).up
          rw [e, Kt.up] at this; omega
        have nkM : ∀ j, j = (S x).l ∨ j = (S x).r → j ≠ 0 → j ≠ M := fun j hj j0 e => by
          have := (h.up_kid hx hj j0).up
          rw [e, (KM (by omega)).up] at this; omega
        have kk : ∀ j, j = (S x).l ∨ j = (S x).r → (if j = u then t else j) ≠ 0 → Ki S1 T (rotG G β t u M) x (if j = u then t else j) := fun j hj j0 => by
          by_cases e : j = u
          · rw [if_pos e]
            have K := h.up_kid hx hj (by omega)
            rw [e] at K
            have : o = x := by rw [← ko]; exact K.up
            exact ⟨ht, by rw [R.upt]; exact this, by rw [gb, w3, bt]; exact K.b, by rw [ga, w2, a_t]; exact K.a⟩
          · rw [if_neg e] at j0 ⊢
            have K := h.up_kid hx hj j0
            exact ⟨K.th, by rw [R.upx j (nkt j hj) e (.inl (nkM j hj j0))]; exact K.up, by rw [gb, w3]; exact K.b, by rw [ga, w2]; exact K.a⟩
        have smj : ∀ j, j = (S x).l ∨ j = (S x).r → (S1 (if j = u then t else j)).sm = (S j).sm ∧ (S1 (if j = u then t else j)).hu = (S j).hu := fun j hj => by
          rcases smx j with q | q
          · exact q
          · exact absurd q (nkt j hj)
        have z : ∀ j : Nat, (if j = u then t else j) = 0 ↔ j = 0 := fun j => by
          by_cases e : j = u
          · rw [if_pos e]; omega
          · rw [if_neg e]
        refine ⟨fun e => ?_, fun e => ?_, ?_, ?_, by rw [gp]; exact Lx.nx, by rw [w1, ga]; exact Lx.wt, ?_, by rw [s1]; exact Lx.fit, ?_, by rw [w4, gp]; exact Lx.hgc, by rw [w4, gp]; exact Lx.hgw, ?_, fun hT => ?_⟩
        · rw [l1] at e ⊢; exact kk _ (.inl rfl) e
        · rw [l2] at e ⊢; exact kk _ (.inr rfl) e
        · rw [l1, l2, z]
          intro e
          refine Lx.lr ?_
          by_cases q1 : (S x).l = u <;> by_cases q2 : (S x).r = u
          · omega
          · rw [if_pos q1, if_neg q2] at e; exact absurd e.symm (nkt _ (.inr rfl))
          · rw [if_neg q1, if_pos q2] at e; exact absurd e (nkt _ (.inl rfl))
          · rw [if_neg q1, if_neg q2] at e; exact e
        · rw [gb, l1, l2]
          have en := Lx.en
          have kf : ∀ j, j = (S x).l ∨ j = (S x).r → ∀ γ, (rotG G β t u M).f γ (if j = u then t else j) = G.f γ j ∧ (rotG G β t u M).g γ (if j = u then t else j) = G.g γ j := fun j hj γ => by
            by_cases e : j = u
            · rw [if_pos e, e]; exact fgt γ
            · rw [if_neg e]; exact fgx γ j (nkt j hj) e
          have nxx : (rotG G β t u M).nx = G.nx := by funext γ; unfold Gh.nx; rw [gp]
          refine ⟨fun e => ?_, fun e => ?_, fun e => ?_, fun e => ?_⟩
          · rw [(fgx _ x e1 e2).1]; exact en.l0 ((z _).1 e)
          · rw [(fgx _ x e1 e2).1, (kf _ (.inl rfl) _).1, (kf _ (.inl rfl) _).2, nxx]; exact en.l1 (fun e' => e ((z _).2 e'))
          · rw [(fgx _ x e1 e2).2]; exact en.r0 ((z _).1 e)
          · rw [(fgx _ x e1 e2).2, (kf _ (.inr rfl) _).1, (kf _ (.inr rfl) _).2, nxx]; exact en.r1 (fun e' => e ((z _).2 e'))
        · rw [l1, l2, w1, w2, s1, (smj _ (.inl rfl)).1, (smj _ (.inr rfl)).1]; exact Lx.sm
        · rw [l1, l2, w4, s2, (smj _ (.inl rfl)).2, (smj _ (.inr rfl)).2]; exact Lx.hu
        · rw [l1, l2, z, z, w3, w2]; exact Lx.id
        · by_cases hM : x = M ∧ M ≠ 0
          · rw [hM.1] at hT; exact absurd hT (Mn hM.2)
          · have h3 : x ≠ M ∨ M = 0 := by omega
            have P := Lx.tp ((Tx x hx e1 e2 h3).1 hT)
            obtain ⟨q1, q2⟩ := rotG_x G β (M := M) e1 e2
            exact ⟨by rw [gb]; exact P.b, by rw [ga]; exact P.a, by rw [q1, R.upx x e1 e2 h3]; exact P.fi, by rw [gp, q2]; exact P.pn, by rw [gp, q1, R.upx x e1 e2 h3]; exact P.nv⟩
  · have e1 : x ≠ t := fun e => by
      rw [e] at hT
      exact Kt.nt (by rcases kt with e | e <;> simp [← e]) hT
    have h3 : x ≠ M ∨ M = 0 := by
      by_cases m : M = 0
      · exact .inr m
      · exact .inl fun e => by
          rw [e] at hT
          exact (KM m).nt (by rcases cM with e | e <;> simp [← e]) hT
    exact ⟨(Tx x hx e1 hxu h3).2 hT, R.upx x e1 hxu h3, e1⟩
end
end Go.Proofs.Ytjnkgakajenoaaa
/- Plain mathematics for link: rotate as a function of the slots, and that no sum in it is past its ends. No Go in sight. -/

namespace Go.Proofs.Ytjnkgakajenoaaa
set_option linter.unusedVariables false
set_option linter.unusedSimpArgs false

def overS (S : Ss) (o u t : Nat) : Ss := if (S o).l = u then upd S o { S o with l := t } else if (S o).r = u then upd S o { S o with r := t } else S
def leftS (S : Ss) (t u : Nat) : Ss := holdS (holdS S u (S t).r (S u).r) t ((holdS S u (S t).r (S u).r) t).l u
def rightS (S : Ss) (t u : Nat) : Ss := holdS (holdS S u (S u).l (S t).l) t u ((holdS S u (S u).l (S t).l) t).r
def sideS (S : Ss) (t u : Nat) : Ss := if (S u).l = t then leftS S t u else rightS S t u
def atS (S : Ss) (t o : Nat) : Ss := upd S t { S t with up := o }
def rotS (S : Ss) (t : Nat) : Ss := atS (sideS (overS S (S (S t).up).up (S t).up t) t (S t).up) t (S (S t).up).up

/-- A slot in bounds. -/
structure Bz (z : Sl) : Prop where
  c : 0 ≤ z.sm.c ∧ z.sm.c ≤ 1048576
  s : -1152921504606846976 ≤ z.sm.s ∧ z.sm.s ≤ 1152921504606846976
  uc : 0 ≤ z.hu.c ∧ z.hu.c ≤ 1048576
  uw : -1152921504606846976 ≤ z.hu.w ∧ z.hu.w ≤ 1152921504606846976
  gc : 0 ≤ z.hg.c ∧ z.hg.c ≤ 1048576
  gw : -1152921504606846976 ≤ z.hg.w ∧ z.hg.w ≤ 1152921504606846976
  wt : -1099511627776 ≤ z.wt ∧ z.wt ≤ 1099511627776
section
variable {S S1 : Ss} {n : Nat} {T : Tr} {G G1 : Gh} {t u o A M B x y k l r : Nat} {d : Int} {s : Bool}
theorem jn_s_bd (a b : Sm) : (jn a b).s = a.s ∨ (jn a b).s = b.s ∨ (jn a b).s = a.s + b.s := by
  unfold jn; split
  · exact .inr (.inl rfl)
  · split
    · exact .inl rfl
    · exact .inr (.inr rfl)
theorem gbd_of (hl : Bz (S (S t).l)) (hr : Bz (S (S t).r)) (ht : Bz (S t)) : Gbd S t := by
  have a1 := hl.c; have a2 := hl.s; have a3 := hl.uc; have a4 := hl.uw
  have b1 := hr.c; have b2 := hr.s; have b3 := hr.uc; have b4 := hr.uw
  have c1 := ht.gc; have c2 := ht.gw; have c3 := ht.wt
  have j := jn_s_bd (S (S t).l).sm (one (S t).wt)
  rw [one_s] at j
  refine ⟨⟨by omega, by omega⟩, ⟨by omega, by omega⟩, ⟨?_, ?_⟩, ⟨by omega, by omega⟩, ⟨by omega, by omega⟩, ⟨by omega, by omega⟩, ⟨by omega, by omega⟩, ⟨by omega, by omega⟩⟩ <;> rw [jn_c, one_c] <;> omega
theorem Mb.bd {m : Ms} (h : Mb m) (hc : m.c ≤ 1048576) : -1152921504606846976 ≤ m.w ∧ m.w ≤ 1152921504606846976 := by
  unfold Mb at h; omega
theorem Lc.hg_c (h : Lc S n T G) (x : Nat) : 0 ≤ (S x).hg.c ∧ (S x).hg.c ≤ 1048576 := by
  have h1 := h.hg_mb x
  by_cases hx : Th T x
  · have u1 := congrArg Ms.c (h.loc x hx).hu
    dsimp only at u1
    have := h.hu_c (S x).l; have := h.hu_c (S x).r; have := h.hu_c x
    unfold Mb at h1; omega
  · rw [h.out x hx]; simp [Sl.zero]
theorem Lc.bz (h : Lc S n T G) (x : Nat) : Bz (S x) := by
  have h1 := h.sm_bd x
  exact ⟨⟨h1.1, h1.2.1⟩, ⟨h1.2.2.1, h1.2.2.2.1⟩, h.hu_c x, (h.hu_mb x).bd (h.hu_c x).2, h.hg_c x, (h.hg_mb x).bd (h.hg_c x).2, h.wt_bd x⟩

theorem upS_at (S : Ss) (u t x : Nat) : upS S u t x = if x ≠ 0 ∧ x = u then { S x with up := t } else S x := by
  unfold upS
  by_cases e : u = 0
  · subst e; rw [if_pos rfl, if_neg (by omega)]
  · rw [if_neg e]
    by_cases e2 : x = u
    · subst e2; rw [upd_same, if_pos ⟨e, rfl⟩]
    · rw [upd_ne _ _ e2, if_neg (fun h => e2 h.2)]
theorem besideS_at (S : Ss) {t l r : Nat} (hl : l ≠ t) (hr : r ≠ t) (x : Nat) : besideS S t l r x = if x = t then { S t with l := l, r := r } else if x ≠ 0 ∧ (x = l ∨ x = r) then { S x with up := t } else S x := by
  unfold besideS
  rw [upS_at, upS_at]
  by_cases e : x = t
  · subst e
    rw [if_pos rfl, if_neg (fun h => hr h.2.symm), if_neg (fun h => hl h.2.symm), upd_same]
  · rw [if_neg e, upd_ne _ _ e]
    by_cases e0 : x = 0
    · simp [e0]
    · by_cases e2 : x = r
      · rw [if_pos (show x ≠ 0 ∧ x = r from ⟨e0, e2⟩), if_pos (show x ≠ 0 ∧ (x = l ∨ x = r) from ⟨e0, .inr e2⟩)]
        split <;> rfl
      · rw [if_neg (fun h => e2 h.2)]
        by_cases e1 : x = l
        · rw [if_pos (show x ≠ 0 ∧ x = l from ⟨e0, e1⟩), if_pos (show x ≠ 0 ∧ (x = l ∨ x = r) from ⟨e0, .inl e1⟩)]
        · rw [if_neg (show ¬ (x ≠ 0 ∧ x = l) from fun h => e1 h.2), if_neg (show ¬ (x ≠ 0 ∧ (x = l ∨ x = r)) from fun h => h.2.elim e1 e2)]
theorem holdS_at (S : Ss) {t l r : Nat} (hl : l ≠ t) (hr : r ≠ t) (x : Nat) : holdS S t l r x = if x = t then { S t with l := l, r := r, sm := jn (jn (S l).sm (one (S t).wt)) (S r).sm, hu := ⟨(S l).hu.c + (S t).hg.c + (S r).hu.c, (S l).hu.w + (S t).hg.w + (S r).hu.w⟩ } else if x ≠ 0 ∧ (x = l ∨ x = r) then { S x with up := t } else S x := by
  unfold holdS gatherS
  have bt := besideS_at S hl hr t
  rw [if_pos rfl] at bt
  have bs : ∀ y, y ≠ t → (besideS S t l r y).sm = (S y).sm ∧ (besideS S t l r y).hu = (S y).hu := fun y hy => by
    rw [besideS_at S hl hr, if_neg hy]; split <;> simp
  by_cases e : x = t
  · subst e
    rw [upd_same, if_pos rfl]
    unfold gSm gHu
    rw [bt]
    dsimp only
    rw [(bs l hl).1, (bs r hr).1, (bs l hl).2, (bs r hr).2]
  · rw [upd_ne _ _ e, if_neg e, besideS_at S hl hr, if_neg e]

/-- The slots around a rotation. -/
structure Ard (s : Bool) (S : Ss) (t u o A M B : Nat) : Prop where
  t0 : t ≠ 0
  u0 : u ≠ 0
  tu : t ≠ u
  ot : o ≠ t
  ou : o ≠ u
  At : A ≠ t
  Au : A ≠ u
  Mt : M ≠ t
  Mu : M ≠ u
  Bt : B ≠ t
  Bu : B ≠ u
  upt : (S t).up = u
  upu : (S u).up = o
  ku : nr s (S u) = t
  kA : nr s (S t) = A
  kM : fr s (S t) = M
  kB : fr s (S u) = B
  uA : A ≠ 0 → (S A).up = t
  uM : M ≠ 0 → (S M).up = t
  uB : B ≠ 0 → (S B).up = u
  MA : M ≠ 0 → A ≠ M
  oth : ∀ x, x ≠ o → (S x).l ≠ u ∧ (S x).r ≠ u
  lro : (S o).l = u → (S o).r ≠ u

theorem overS_f (D : Ard s S t u o A M B) (x : Nat) : (overS S o u t x).up = (S x).up ∧ (overS S o u t x).tn = (S x).tn ∧ (overS S o u t x).wt = (S x).wt ∧ (overS S o u t x).wa = (S x).wa ∧ (overS S o u t x).sm = (S x).sm ∧ (overS S o u t x).hg = (S x).hg ∧ (overS S o u t x).hu = (S x).hu ∧ (overS S o u t x).l = (if (S x).l = u then t else (S x).l) ∧ (overS S o u t x).r = (if (S x).r = u then t else (S x).r) := by
  unfold overS
  by_cases e : x = o
  · subst e
    by_cases e1 : (S x).l = u
    · have := D.lro e1
      simp [e1, this, upd_same]
    · by_cases e2 : (S x).r = u
      · simp [e1, e2, upd_same]
      · simp [e1, e2]
  · obtain ⟨h1, h2⟩ := D.oth x e
    rw [if_neg h1, if_neg h2]
    split
    · rw [upd_ne _ _ e]; simp
    · split
      · rw [upd_ne _ _ e]; simp
      · simp
theorem overS_ne (S : Ss) {o u t x : Nat} (h : x ≠ o) : overS S o u t x = S x := by
  unfold overS; split
  · exact upd_ne _ _ h
  · split
    · exact upd_ne _ _ h
    · rfl
theorem rotS_rot (D : Ard s S t u o A M B) : Rot s S (rotS S t) t u o A M B := by
  have F := overS_f D
  have E : ∀ x, x ≠ o → overS S o u t x = S x := fun x hx => overS_ne S hx
  unfold rotS
  rw [D.upt, D.upu]
  generalize overS S o u t = S0 at F E ⊢
  have Et := E t (Ne.symm D.ot)
  have Eu := E u (Ne.symm D.ou)
  obtain ⟨t0, u0, tu, ot, ou, At, Au, Mt, Mu, Bt, Bu, upt, upu, ku, kA, kM, kB, uA, uM, uB, MA, oth, lro⟩ := D
  cases s
  · have ku : (S u).l = t := ku
    have kA : (S t).l = A := kA
    have kM : (S t).r = M := kM
    have kB : (S u).r = B := kB
    have eX : ∀ x, holdS S0 u M B x = _ := holdS_at S0 Mu Bu
    have eXt : holdS S0 u M B t = S t := by
      rw [eX, if_neg tu, if_neg (by rintro ⟨_, h | h⟩; exact Mt h.symm; exact Bt h.symm), Et]
    unfold sideS leftS
    rw [Eu, Et, if_pos ku, kM, kB, eXt, kA]
    generalize holdS S0 u M B = X at eX eXt ⊢
    have eY : ∀ x, holdS X t A u x = _ := holdS_at X At (Ne.symm tu)
    generalize holdS X t A u = Y at eY ⊢
    have eXu := eX u
    rw [if_pos rfl, Eu] at eXu
    have eYt := eY t
    rw [if_pos rfl, eXt] at eYt
    have eYu := eY u
    rw [if_neg (Ne.symm tu), if_pos ⟨u0, .inr rfl⟩, eXu] at eYu
    have s1t : atS Y t o t = { Y t with up := o } := by unfold atS; exact upd_same _ _ _
    have s1x : ∀ x, x ≠ t → atS Y t o x = Y x := fun x hx => by unfold atS; exact upd_ne _ _ hx
    generalize atS Y t o = S1 at s1t s1x ⊢
    have g : ∀ x, x ≠ t → x ≠ u → (S1 x).tn = (S x).tn ∧ (S1 x).wt = (S x).wt ∧ (S1 x).wa = (S x).wa ∧ (S1 x).sm = (S x).sm ∧ (S1 x).hg = (S x).hg ∧ (S1 x).hu = (S x).hu ∧ (S1 x).l = (if (S x).l = u then t else (S x).l) ∧ (S1 x).r = (if (S x).r = u then t else (S x).r) ∧ ((x ≠ M ∨ M = 0) → (S1 x).up = (S x).up) := fun x h1 h2 => by
      rw [s1x x h1, eY, if_neg h1, eX, if_neg h2]
      obtain ⟨f1, f2, f3, f4, f5, f6, f7, f8, f9⟩ := F x
      by_cases a : x ≠ 0 ∧ (x = A ∨ x = u) <;> by_cases b : x ≠ 0 ∧ (x = M ∨ x = B) <;> (first | rw [if_pos a] | rw [if_neg a]) <;> (first | rw [if_pos b] | rw [if_neg b]) <;> refine ⟨f2, f3, f4, f5, f6, f7, f8, f9, fun hM => ?_⟩
      · have : x = A := by omega
        subst this; exact (uA a.1).symm
      · have : x = A := by omega
        subst this; exact (uA a.1).symm
      · have : x = B := by omega
        subst this; exact (uB b.1).symm
      · exact f1
    have ltu : (S1 t).l = A ∧ (S1 t).r = u ∧ (S1 u).l = M ∧ (S1 u).r = B := by
      rw [s1t, s1x u (Ne.symm tu), eYt, eYu]; exact ⟨rfl, rfl, rfl, rfl⟩
    have XA : (X A).sm = (S A).sm ∧ (X A).hu = (S A).hu := by
      rw [eX, if_neg Au]; obtain ⟨f1, f2, f3, f4, f5, f6, f7, f8, f9⟩ := F A
      split <;> exact ⟨f5, f7⟩
    refine ⟨fun x => ?_, ?_, ?_, fun m => ?_, fun x h1 h2 h3 => (g x h1 h2).2.2.2.2.2.2.2.2 h3, ltu.1, ltu.2.1, ltu.2.2.1, ltu.2.2.2, fun x h1 h2 => ⟨(g x h1 h2).2.2.2.2.2.2.1, (g x h1 h2).2.2.2.2.2.2.2.1⟩, fun x h1 h2 => ⟨(g x h1 h2).2.2.2.1, (g x h1 h2).2.2.2.2.2.1⟩, ?_, ?_, ?_, ?_⟩
    · by_cases h1 : x = t
      · subst h1; rw [s1t, eYt]; exact ⟨rfl, rfl, rfl, rfl⟩
      · by_cases h2 : x = u
        · subst h2; rw [s1x x h1, eYu]; exact ⟨rfl, rfl, rfl, rfl⟩
        · have := g x h1 h2; exact ⟨this.2.1, this.2.2.1, this.1, this.2.2.2.2.1⟩
    · rw [s1t]
    · rw [s1x u (Ne.symm tu), eYu]
    · rw [s1x M Mt, eY, if_neg Mt, if_neg (by rintro ⟨_, h | h⟩; exact MA m h.symm; exact Mu h), eX, if_neg Mu, if_pos ⟨m, .inl rfl⟩]
    · rw [ltu.2.2.1, ltu.2.2.2, (g M Mt Mu).2.2.2.1, (g B Bt Bu).2.2.2.1, s1x u (Ne.symm tu), eYu, ← (F M).2.2.2.2.1, ← (F B).2.2.2.2.1]
    · rw [ltu.2.2.1, ltu.2.2.2, (g M Mt Mu).2.2.2.2.2.1, (g B Bt Bu).2.2.2.2.2.1, s1x u (Ne.symm tu), eYu, ← (F M).2.2.2.2.2.2.1, ← (F B).2.2.2.2.2.2.1]
    · rw [ltu.1, ltu.2.1, (g A At Au).2.2.2.1, s1t, eYt, ← XA.1, s1x u (Ne.symm tu), eYu, eXu]
    · rw [ltu.1, ltu.2.1, (g A At Au).2.2.2.2.2.1, s1t, eYt, ← XA.2, s1x u (Ne.symm tu), eYu, eXu]
  · have ku : (S u).r = t := ku
    have kA : (S t).r = A := kA
    have kM : (S t).l = M := kM
    have kB : (S u).l = B := kB
    have eX : ∀ x, holdS S0 u B M x = _ := holdS_at S0 Bu Mu
    have eXt : holdS S0 u B M t = S t := by
      rw [eX, if_neg tu, if_neg (by rintro ⟨_, h | h⟩; exact Bt h.symm; exact Mt h.symm), Et]
    unfold sideS rightS
    rw [Eu, Et, if_neg (by rw [kB]; exact Bt), kM, kB, eXt, kA]
    generalize holdS S0 u B M = X at eX eXt ⊢
    have eY : ∀ x, holdS X t u A x = _ := holdS_at X (Ne.symm tu) At
    generalize holdS X t u A = Y at eY ⊢
    have eXu := eX u
    rw [if_pos rfl, Eu] at eXu
    have eYt := eY t
    rw [if_pos rfl, eXt] at eYt
    have eYu := eY u
    rw [if_neg (Ne.symm tu), if_pos ⟨u0, .inl rfl⟩, eXu] at eYu
    have s1t : atS Y t o t = { Y t with up := o } := by unfold atS; exact upd_same _ _ _
    have s1x : ∀ x, x ≠ t → atS Y t o x = Y x := fun x hx => by unfold atS; exact upd_ne _ _ hx
    generalize atS Y t o = S1 at s1t s1x ⊢
    have g : ∀ x, x ≠ t → x ≠ u → (S1 x).tn = (S x).tn ∧ (S1 x).wt = (S x).wt ∧ (S1 x).wa = (S x).wa ∧ (S1 x).sm = (S x).sm ∧ (S1 x).hg = (S x).hg ∧ (S1 x).hu = (S x).hu ∧ (S1 x).l = (if (S x).l = u then t else (S x).l) ∧ (S1 x).r = (if (S x).r = u then t else (S x).r) ∧ ((x ≠ M ∨ M = 0) → (S1 x).up = (S x).up) := fun x h1 h2 => by
      rw [s1x x h1, eY, if_neg h1, eX, if_neg h2]
      obtain ⟨f1, f2, f3, f4, f5, f6, f7, f8, f9⟩ := F x
      by_cases a : x ≠ 0 ∧ (x = u ∨ x = A) <;> by_cases b : x ≠ 0 ∧ (x = B ∨ x = M) <;> (first | rw [if_pos a] | rw [if_neg a]) <;> (first | rw [if_pos b] | rw [if_neg b]) <;> refine ⟨f2, f3, f4, f5, f6, f7, f8, f9, fun hM => ?_⟩
      · have : x = A := by omega
        subst this; exact (uA a.1).symm
      · have : x = A := by omega
        subst this; exact (uA a.1).symm
      · have : x = B := by omega
        subst this; exact (uB b.1).symm
      · exact f1
    have ltu : (S1 t).r = A ∧ (S1 t).l = u ∧ (S1 u).r = M ∧ (S1 u).l = B := by
      rw [s1t, s1x u (Ne.symm tu), eYt, eYu]; exact ⟨rfl, rfl, rfl, rfl⟩
    have XA : (X A).sm = (S A).sm ∧ (X A).hu = (S A).hu := by
      rw [eX, if_neg Au]; obtain ⟨f1, f2, f3, f4, f5, f6, f7, f8, f9⟩ := F A
      split <;> exact ⟨f5, f7⟩
    refine ⟨fun x => ?_, ?_, ?_, fun m => ?_, fun x h1 h2 h3 => (g x h1 h2).2.2.2.2.2.2.2.2 h3, ltu.1, ltu.2.1, ltu.2.2.1, ltu.2.2.2, fun x h1 h2 => ⟨(g x h1 h2).2.2.2.2.2.2.1, (g x h1 h2).2.2.2.2.2.2.2.1⟩, fun x h1 h2 => ⟨(g x h1 h2).2.2.2.1, (g x h1 h2).2.2.2.2.2.1⟩, ?_, ?_, ?_, ?_⟩
    · by_cases h1 : x = t
      · subst h1; rw [s1t, eYt]; exact ⟨rfl, rfl, rfl, rfl⟩
      · by_cases h2 : x = u
        · subst h2; rw [s1x x h1, eYu]; exact ⟨rfl, rfl, rfl, rfl⟩
        · have := g x h1 h2; exact ⟨this.2.1, this.2.2.1, this.1, this.2.2.2.2.1⟩
    · rw [s1t]
    · rw [s1x u (Ne.symm tu), eYu]
    · rw [s1x M Mt, eY, if_neg Mt, if_neg (by rintro ⟨_, h | h⟩; exact Mu h; exact MA m h.symm), eX, if_neg Mu, if_pos ⟨m, .inr rfl⟩]
    · rw [ltu.2.2.1, ltu.2.2.2, (g M Mt Mu).2.2.2.1, (g B Bt Bu).2.2.2.1, s1x u (Ne.symm tu), eYu, ← (F M).2.2.2.2.1, ← (F B).2.2.2.2.1]
    · rw [ltu.2.2.1, ltu.2.2.2, (g M Mt Mu).2.2.2.2.2.1, (g B Bt Bu).2.2.2.2.2.1, s1x u (Ne.symm tu), eYu, ← (F M).2.2.2.2.2.2.1, ← (F B).2.2.2.2.2.2.1]
    · rw [ltu.1, ltu.2.1, (g A At Au).2.2.2.1, s1t, eYt, ← XA.1, s1x u (Ne.symm tu), eYu, eXu]
    · rw [ltu.1, ltu.2.1, (g A At Au).2.2.2.2.2.1, s1t, eYt, ← XA.2, s1x u (Ne.symm tu), eYu, eXu]
end
end Go.Proofs.Ytjnkgakajenoaaa
/- The program's forest: a slot is put above the one of whose part it is, the whole. -/

namespace Go.Proofs.Ytjnkgakajenoaaa
open Go.RowKit Go.Arb
set_option linter.unusedVariables false
set_option linter.unusedSimpArgs false
set_option maxRecDepth 100000

theorem blockN {P : Program} {R : Act → World → Prop} {a : Act} {w : World} {c : Code} {id : Nat} (h : c.wp P (Norm R) a w) : (Code.block id c).wp P (Norm R) a w :=
  wp_block (Code.wp_mono (fun e a w h => by cases e <;> first | exact h | exact h.elim) h)
set_option maxHeartbeats 4000000 in
theorem over89 {p g n cap room t u o : Nat} {S : Ss} {Q : Exit → Act → World → Prop} {a0 : Act} {w0 w : World} (K0 : Kn a0 139 [(0, .pointer (some ⟨p, 0, none⟩)), (1, .int .i64 (t : Int)), (4, .int .i64 (u : Int)), (5, .int .i64 (o : Int))]) (h : Pool w p g n cap room S) (hk : Keep [g] w0 w) (ht : t < n) (hu : u < n) (ho : o < n)
    (hN : ∀ a' W, Kn a' 139 [(0, .pointer (some ⟨p, 0, none⟩)), (1, .int .i64 (t : Int)), (4, .int .i64 (u : Int)), (5, .int .i64 (o : Int))] → Pool W p g n cap room (overS S o u t) → Keep [g] w0 W → Q .normal a' W) : (Code.seq (Code.region 2 (rg [1, 1, 0, 0] Try.f89).toArray false) (Code.block 0 (Code.seq (Code.region 3 (rg [1, 1, 0, 1, 0, 0] Try.f89).toArray false) (Code.cond (Operand.tmp 23) (Code.region 4 (rg [1, 1, 0, 1, 0, 1, 0] Try.f89).toArray false) (Code.seq (Code.region 5 (rg [1, 1, 0, 1, 0, 1, 1, 0] Try.f89).toArray false) (Code.cond (Operand.tmp 41) (Code.region 6 (rg [1, 1, 0, 1, 0, 1, 1, 1, 0] Try.f89).toArray false) Code.skip)))))).wp Try.prog Q a0 w := by
  have PH := hide h
  have KP := hide hk
  clear h hk
  refine lastN ?_
  refine seqN ?_
  have e1 : (0 : Int) ≤ (t : Int) := by omega
  have e2 : (t : Int) < (n : Int) := by omega
  have e3 : (0 : Int) ≤ (u : Int) := by omega
  have e4 : (u : Int) < (n : Int) := by omega
  have e5 : (0 : Int) ≤ (o : Int) := by omega
  have e6 : (o : Int) < (n : Int) := by omega
  refine wp_region_lit ?_
  refine lmv K0 rfl rfl (want_none rfl) rfl rfl (fun a1 K1 => ?_)
  refine nilN ?_
  refine blockN ?_
  refine seqR ?_
  refine lmv K1 rfl rfl (want_none rfl) rfl rfl (fun a2 K2 => ?_)
  clear K1
  refine lnc K2 rfl rfl (want_none rfl) rfl rfl (fun a3 K3 => ?_)
  clear K2
  refine lfa K3 rfl rfl (want_none rfl) rfl rfl FA66_1 (fun a4 K4 => ?_)
  clear K3
  refine ltake (v := .slice (some ⟨g, 0, none⟩) n cap) (w' := w) K4 rfl rfl (want_none rfl) (fun ev E => ?_) (fun a5 K5 => ?_)
  · obtain ⟨c0, c1, _⟩ := (unhide PH).head; have E26 := E.tmp 26 _ rfl; clear E; clear PH KP hN; go_simp
  clear K4
  refine lmv K5 rfl rfl (want_none rfl) rfl rfl (fun a6 K6 => ?_)
  clear K5
  refine ltake (v := .pointer (some ⟨g, o * 14, none⟩)) (w' := w) K6 rfl rfl (want_none rfl) (fun ev E => ?_) (fun a7 K7 => ?_)
  · have E27 := E.tmp 27 _ rfl; have E28 := E.tmp 28 _ rfl; clear E; clear PH KP hN; go_simp
  clear K6
  refine lfa K7 rfl rfl (want_none rfl) rfl rfl FA75_1 (fun a8 K8 => ?_)
  clear K7
  refine ltake (v := .int .i64 ((S o).l : Int)) (w' := w) K8 rfl rfl (want_none rfl) (fun ev E => ?_) (fun a9 K9 => ?_)
  · obtain ⟨s0, s1, s2, s3, s4, s5, s6, s7, s8, s9, s10, s11, s12, s13⟩ := (unhide PH).slot (t := o) (by assumption); have E30 := E.tmp 30 _ rfl; clear E; clear PH KP hN; go_simp
  clear K8
  by_cases b1 : (S o).l = u
  · have i1 : (u : Int) = ((S o).l : Int) := by omega
    refine ltake (v := .bool true) (w' := w) K9 rfl rfl (want_none rfl) (fun ev E => ?_) (fun a13 K13 => ?_)
    · have E22 := E.tmp 22 _ rfl; have E31 := E.tmp 31 _ rfl; clear E; clear PH KP hN; go_simp
    clear K9
    refine las K13 rfl rfl (want_none rfl) rfl rfl (fun a14 K14 => ?_)
    clear K13
    refine nilN ?_
    clear i1
    refine knCond (b := true) K14 rfl ?_
    have K15 : Kn _ 139 [(0, .pointer (some ⟨p, 0, none⟩)), (1, .int .i64 (t : Int)), (4, .int .i64 (u : Int)), (5, .int .i64 (o : Int))] := K14.less ⟨rfl, rfl, rfl, rfl, trivial⟩
    clear K14
    refine wp_region_lit ?_
    refine lmv K15 rfl rfl (want_none rfl) rfl rfl (fun a16 K16 => ?_)
    clear K15
    refine lnc K16 rfl rfl (want_none rfl) rfl rfl (fun a17 K17 => ?_)
    clear K16
    refine lfa K17 rfl rfl (want_none rfl) rfl rfl FA66_1 (fun a18 K18 => ?_)
    clear K17
    refine ltake (v := .slice (some ⟨g, 0, none⟩) n cap) (w' := w) K18 rfl rfl (want_none rfl) (fun ev E => ?_) (fun a19 K19 => ?_)
    · obtain ⟨c0, c1, _⟩ := (unhide PH).head; have E35 := E.tmp 35 _ rfl; clear E; clear PH KP hN; go_simp
    clear K18
    refine lmv K19 rfl rfl (want_none rfl) rfl rfl (fun a20 K20 => ?_)
    clear K19
    refine lmv K20 rfl rfl (want_none rfl) rfl rfl (fun a21 K21 => ?_)
    clear K20
    refine ltake (v := .pointer (some ⟨g, o * 14, none⟩)) (w' := w) K21 rfl rfl (want_none rfl) (fun ev E => ?_) (fun a22 K22 => ?_)
    · have E36 := E.tmp 36 _ rfl; have E37 := E.tmp 37 _ rfl; clear E; clear PH KP hN; go_simp
    clear K21
    refine lfa K22 rfl rfl (want_none rfl) rfl rfl FA75_1 (fun a23 K23 => ?_)
    clear K22
    obtain ⟨_, sk, _, _, _, _, _, _, _, _, _, _, _, _⟩ := (unhide PH).slot ho
    obtain ⟨_, fk, _, _, _, _, _, _, _, _, _, _, _, _⟩ := (unhide PH).soft ho
    refine lstore (w' := w.setCell ⟨g, o * 14 + 1, none⟩ (.int .i64 (t : Int))) K23 rfl (want_none rfl) (fun ev E => ?_) ?_
    · have E38 := E.tmp 38 _ rfl; have E40 := E.tmp 40 _ rfl; clear E; clear PH KP hN; go_simp
    clear sk fk
    have P1 := (unhide PH).put (t := o) ho 1 (by omega) { S o with l := t } (.int .i64 (t : Int)) rfl
    have Q1 := (unhide KP).cellB (o * 14 + 1) (.int .i64 (t : Int))
    clear PH KP
    have PH := hide P1
    have KP := hide Q1
    clear P1 Q1
    generalize w.setCell ⟨g, o * 14 + 1, none⟩ (.int .i64 (t : Int)) = W1 at *
    refine wpList_nil ?_
    refine hN _ _ (K23.less ⟨rfl, rfl, rfl, rfl, trivial⟩) ?_ (unhide KP)
    rw [overS, if_pos b1]
    exact unhide PH
  · have i1 : ¬ (u : Int) = ((S o).l : Int) := by omega
    refine ltake (v := .bool false) (w' := w) K9 rfl rfl (want_none rfl) (fun ev E => ?_) (fun a13 K13 => ?_)
    · have E22 := E.tmp 22 _ rfl; have E31 := E.tmp 31 _ rfl; clear E; clear PH KP hN; go_simp
    clear K9
    refine las K13 rfl rfl (want_none rfl) rfl rfl (fun a14 K14 => ?_)
    clear K13
    refine nilN ?_
    clear i1
    refine knCond (b := false) K14 rfl ?_
    have K15 : Kn _ 139 [(0, .pointer (some ⟨p, 0, none⟩)), (1, .int .i64 (t : Int)), (4, .int .i64 (u : Int)), (5, .int .i64 (o : Int)), (22, .int .i64 (u : Int))] := K14.less ⟨rfl, rfl, rfl, rfl, rfl, trivial⟩
    clear K14
    refine seqR ?_
    refine lmv K15 rfl rfl (want_none rfl) rfl rfl (fun a16 K16 => ?_)
    clear K15
    refine lnc K16 rfl rfl (want_none rfl) rfl rfl (fun a17 K17 => ?_)
    clear K16
    refine lfa K17 rfl rfl (want_none rfl) rfl rfl FA66_1 (fun a18 K18 => ?_)
    clear K17
    refine ltake (v := .slice (some ⟨g, 0, none⟩) n cap) (w' := w) K18 rfl rfl (want_none rfl) (fun ev E => ?_) (fun a19 K19 => ?_)
    · obtain ⟨c0, c1, _⟩ := (unhide PH).head; have E44 := E.tmp 44 _ rfl; clear E; clear PH KP hN; go_simp
    clear K18
    refine lmv K19 rfl rfl (want_none rfl) rfl rfl (fun a20 K20 => ?_)
    clear K19
    refine ltake (v := .pointer (some ⟨g, o * 14, none⟩)) (w' := w) K20 rfl rfl (want_none rfl) (fun ev E => ?_) (fun a21 K21 => ?_)
    · have E45 := E.tmp 45 _ rfl; have E46 := E.tmp 46 _ rfl; clear E; clear PH KP hN; go_simp
    clear K20
    refine lfa K21 rfl rfl (want_none rfl) rfl rfl FA75_2 (fun a22 K22 => ?_)
    clear K21
    refine ltake (v := .int .i64 ((S o).r : Int)) (w' := w) K22 rfl rfl (want_none rfl) (fun ev E => ?_) (fun a23 K23 => ?_)
    · obtain ⟨s0, s1, s2, s3, s4, s5, s6, s7, s8, s9, s10, s11, s12, s13⟩ := (unhide PH).slot (t := o) (by assumption); have E48 := E.tmp 48 _ rfl; clear E; clear PH KP hN; go_simp
    clear K22
    by_cases b2 : (S o).r = u
    · have i1 : (u : Int) = ((S o).r : Int) := by omega
      refine ltake (v := .bool true) (w' := w) K23 rfl rfl (want_none rfl) (fun ev E => ?_) (fun a27 K27 => ?_)
      · have E22 := E.tmp 22 _ rfl; have E49 := E.tmp 49 _ rfl; clear E; clear PH KP hN; go_simp
      clear K23
      refine las K27 rfl rfl (want_none rfl) rfl rfl (fun a28 K28 => ?_)
      clear K27
      refine nilN ?_
      clear i1
      refine knCond (b := true) K28 rfl ?_
      have K29 : Kn _ 139 [(0, .pointer (some ⟨p, 0, none⟩)), (1, .int .i64 (t : Int)), (4, .int .i64 (u : Int)), (5, .int .i64 (o : Int))] := K28.less ⟨rfl, rfl, rfl, rfl, trivial⟩
      clear K28
      refine wp_region_lit ?_
      refine lmv K29 rfl rfl (want_none rfl) rfl rfl (fun a30 K30 => ?_)
      clear K29
      refine lnc K30 rfl rfl (want_none rfl) rfl rfl (fun a31 K31 => ?_)
      clear K30
      refine lfa K31 rfl rfl (want_none rfl) rfl rfl FA66_1 (fun a32 K32 => ?_)
      clear K31
      refine ltake (v := .slice (some ⟨g, 0, none⟩) n cap) (w' := w) K32 rfl rfl (want_none rfl) (fun ev E => ?_) (fun a33 K33 => ?_)
      · obtain ⟨c0, c1, _⟩ := (unhide PH).head; have E53 := E.tmp 53 _ rfl; clear E; clear PH KP hN; go_simp
      clear K32
      refine lmv K33 rfl rfl (want_none rfl) rfl rfl (fun a34 K34 => ?_)
      clear K33
      refine lmv K34 rfl rfl (want_none rfl) rfl rfl (fun a35 K35 => ?_)
      clear K34
      refine ltake (v := .pointer (some ⟨g, o * 14, none⟩)) (w' := w) K35 rfl rfl (want_none rfl) (fun ev E => ?_) (fun a36 K36 => ?_)
      · have E54 := E.tmp 54 _ rfl; have E55 := E.tmp 55 _ rfl; clear E; clear PH KP hN; go_simp
      clear K35
      refine lfa K36 rfl rfl (want_none rfl) rfl rfl FA75_2 (fun a37 K37 => ?_)
      clear K36
      obtain ⟨_, _, sk, _, _, _, _, _, _, _, _, _, _, _⟩ := (unhide PH).slot ho
      obtain ⟨_, _, fk, _, _, _, _, _, _, _, _, _, _, _⟩ := (unhide PH).soft ho
      refine lstore (w' := w.setCell ⟨g, o * 14 + 2, none⟩ (.int .i64 (t : Int))) K37 rfl (want_none rfl) (fun ev E => ?_) ?_
      · have E56 := E.tmp 56 _ rfl; have E58 := E.tmp 58 _ rfl; clear E; clear PH KP hN; go_simp
      clear sk fk
      have P1 := (unhide PH).put (t := o) ho 2 (by omega) { S o with r := t } (.int .i64 (t : Int)) rfl
      have Q1 := (unhide KP).cellB (o * 14 + 2) (.int .i64 (t : Int))
      clear PH KP
      have PH := hide P1
      have KP := hide Q1
      clear P1 Q1
      generalize w.setCell ⟨g, o * 14 + 2, none⟩ (.int .i64 (t : Int)) = W1 at *
      refine wpList_nil ?_
      refine hN _ _ (K37.less ⟨rfl, rfl, rfl, rfl, trivial⟩) ?_ (unhide KP)
      rw [overS, if_neg b1, if_pos b2]
      exact unhide PH
    · have i1 : ¬ (u : Int) = ((S o).r : Int) := by omega
      refine ltake (v := .bool false) (w' := w) K23 rfl rfl (want_none rfl) (fun ev E => ?_) (fun a27 K27 => ?_)
      · have E22 := E.tmp 22 _ rfl; have E49 := E.tmp 49 _ rfl; clear E; clear PH KP hN; go_simp
      clear K23
      refine las K27 rfl rfl (want_none rfl) rfl rfl (fun a28 K28 => ?_)
      clear K27
      refine nilN ?_
      refine knCond (b := false) K28 rfl (wp_skip (hN _ _ (K28.less ⟨rfl, rfl, rfl, rfl, trivial⟩) ?_ (unhide KP)))
      rw [overS, if_neg b1, if_neg b2]
      exact unhide PH
set_option maxHeartbeats 4000000 in
theorem side89 {p g n cap room t u o : Nat} {S : Ss} {Q : Exit → Act → World → Prop} {a0 : Act} {w0 w : World} (K0 : Kn a0 139 [(0, .pointer (some ⟨p, 0, none⟩)), (1, .int .i64 (t : Int)), (4, .int .i64 (u : Int)), (5, .int .i64 (o : Int))]) (h : Pool w p g n cap room S) (hk : Keep [g] w0 w) (ht : t < n) (hu : u < n) (htu : t ≠ u)
    (hL : (S u).l = t → (S t).r < n ∧ (S u).r < n ∧ (S t).r ≠ u ∧ (S u).r ≠ u ∧ Gbd (besideS S u (S t).r (S u).r) u ∧ (holdS S u (S t).r (S u).r t).l < n ∧ (holdS S u (S t).r (S u).r t).l ≠ t ∧ Gbd (besideS (holdS S u (S t).r (S u).r) t (holdS S u (S t).r (S u).r t).l u) t)
    (hR : (S u).l ≠ t → (S u).l < n ∧ (S t).l < n ∧ (S u).l ≠ u ∧ (S t).l ≠ u ∧ Gbd (besideS S u (S u).l (S t).l) u ∧ (holdS S u (S u).l (S t).l t).r < n ∧ (holdS S u (S u).l (S t).l t).r ≠ t ∧ Gbd (besideS (holdS S u (S u).l (S t).l) t u (holdS S u (S u).l (S t).l t).r) t)
    (hN : ∀ a' W, Kn a' 139 [(0, .pointer (some ⟨p, 0, none⟩)), (1, .int .i64 (t : Int)), (4, .int .i64 (u : Int)), (5, .int .i64 (o : Int))] → Pool W p g n cap room (sideS S t u) → Keep [g] w0 W → Q .normal a' W) : (Code.seq (Code.region 7 (rg [1, 1, 1, 0, 0] Try.f89).toArray false) (Code.cond (Operand.tmp 68) (Code.seq (Code.region 8 OPS89_8.toArray true) (Code.region 9 (rg [1, 1, 1, 0, 1, 0, 1] Try.f89).toArray false)) (Code.seq (Code.region 10 OPS89_10.toArray true) (Code.region 11 (rg [1, 1, 1, 0, 1, 1, 1] Try.f89).toArray false)))).wp Try.prog Q a0 w := by
  have PH := hide h
  have KP := hide hk
  have HL := hide hL
  have HR := hide hR
  clear h hk hL hR
  refine seqN ?_
  have e1 : (0 : Int) ≤ (t : Int) := by omega
  have e2 : (t : Int) < (n : Int) := by omega
  have e3 : (0 : Int) ≤ (u : Int) := by omega
  have e4 : (u : Int) < (n : Int) := by omega
  refine wp_region_lit ?_
  refine lmv K0 rfl rfl (want_none rfl) rfl rfl (fun a1 K1 => ?_)
  refine lnc K1 rfl rfl (want_none rfl) rfl rfl (fun a2 K2 => ?_)
  clear K1
  refine lfa K2 rfl rfl (want_none rfl) rfl rfl FA66_1 (fun a3 K3 => ?_)
  clear K2
  refine ltake (v := .slice (some ⟨g, 0, none⟩) n cap) (w' := w) K3 rfl rfl (want_none rfl) (fun ev E => ?_) (fun a4 K4 => ?_)
  · obtain ⟨c0, c1, _⟩ := (unhide PH).head; have E61 := E.tmp 61 _ rfl; clear E; clear PH KP HL HR hN; go_simp
  clear K3
  refine lmv K4 rfl rfl (want_none rfl) rfl rfl (fun a5 K5 => ?_)
  clear K4
  refine ltake (v := .pointer (some ⟨g, u * 14, none⟩)) (w' := w) K5 rfl rfl (want_none rfl) (fun ev E => ?_) (fun a6 K6 => ?_)
  · have E62 := E.tmp 62 _ rfl; have E63 := E.tmp 63 _ rfl; clear E; clear PH KP HL HR hN; go_simp
  clear K5
  refine lfa K6 rfl rfl (want_none rfl) rfl rfl FA75_1 (fun a7 K7 => ?_)
  clear K6
  refine ltake (v := .int .i64 ((S u).l : Int)) (w' := w) K7 rfl rfl (want_none rfl) (fun ev E => ?_) (fun a8 K8 => ?_)
  · obtain ⟨s0, s1, s2, s3, s4, s5, s6, s7, s8, s9, s10, s11, s12, s13⟩ := (unhide PH).slot (t := u) (by assumption); have E65 := E.tmp 65 _ rfl; clear E; clear PH KP HL HR hN; go_simp
  clear K7
  refine lmv K8 rfl rfl (want_none rfl) rfl rfl (fun a9 K9 => ?_)
  clear K8
  by_cases b1 : (S u).l = t
  · have i1 : ((S u).l : Int) = (t : Int) := by omega
    refine ltake (v := .bool true) (w' := w) K9 rfl rfl (want_none rfl) (fun ev E => ?_) (fun a13 K13 => ?_)
    · have E66 := E.tmp 66 _ rfl; have E67 := E.tmp 67 _ rfl; clear E; clear PH KP HL HR hN; go_simp
    clear K9
    clear i1
    refine nilN ?_
    refine knCond (b := true) K13 rfl ?_
    have K14 : Kn _ 139 [(0, .pointer (some ⟨p, 0, none⟩)), (1, .int .i64 (t : Int)), (4, .int .i64 (u : Int)), (5, .int .i64 (o : Int))] := K13.less ⟨rfl, rfl, rfl, rfl, trivial⟩
    clear K13
    obtain ⟨x1, x2, x3, x4, x5, x6, x7, x8⟩ := unhide HL b1
    refine l89 K14 (unhide PH) (unhide KP) ht hu htu x1 x2 x3 x4 x5 rfl x6 x7 x8 (fun a1 W1 K1 P1 Q1 => hN _ _ K1 ?_ Q1)
    rw [sideS, if_pos b1]
    exact P1
  · have i1 : ¬ ((S u).l : Int) = (t : Int) := by omega
    refine ltake (v := .bool false) (w' := w) K9 rfl rfl (want_none rfl) (fun ev E => ?_) (fun a13 K13 => ?_)
    · have E66 := E.tmp 66 _ rfl; have E67 := E.tmp 67 _ rfl; clear E; clear PH KP HL HR hN; go_simp
    clear K9
    clear i1
    refine nilN ?_
    refine knCond (b := false) K13 rfl ?_
    have K14 : Kn _ 139 [(0, .pointer (some ⟨p, 0, none⟩)), (1, .int .i64 (t : Int)), (4, .int .i64 (u : Int)), (5, .int .i64 (o : Int))] := K13.less ⟨rfl, rfl, rfl, rfl, trivial⟩
    clear K13
    obtain ⟨x1, x2, x3, x4, x5, x6, x7, x8⟩ := unhide HR b1
    refine r89 K14 (unhide PH) (unhide KP) ht hu htu x1 x2 x3 x4 x5 rfl x6 x7 x8 (fun a1 W1 K1 P1 Q1 => hN _ _ K1 ?_ Q1)
    rw [sideS, if_neg b1]
    exact P1
set_option maxHeartbeats 4000000 in
theorem rotate_any {p g n cap room t u o : Nat} {S S0 : Ss} {w : World} (h : Pool w p g n cap room S) (ht : t < n) (hu : u < n) (ho : o < n) (hup : (S t).up = u) (hoo : (S u).up = o) (htu : t ≠ u) (hS0 : S0 = overS S o u t)
    (hL : (S0 u).l = t → (S0 t).r < n ∧ (S0 u).r < n ∧ (S0 t).r ≠ u ∧ (S0 u).r ≠ u ∧ Gbd (besideS S0 u (S0 t).r (S0 u).r) u ∧ (holdS S0 u (S0 t).r (S0 u).r t).l < n ∧ (holdS S0 u (S0 t).r (S0 u).r t).l ≠ t ∧ Gbd (besideS (holdS S0 u (S0 t).r (S0 u).r) t (holdS S0 u (S0 t).r (S0 u).r t).l u) t)
    (hR : (S0 u).l ≠ t → (S0 u).l < n ∧ (S0 t).l < n ∧ (S0 u).l ≠ u ∧ (S0 t).l ≠ u ∧ Gbd (besideS S0 u (S0 u).l (S0 t).l) u ∧ (holdS S0 u (S0 u).l (S0 t).l t).r < n ∧ (holdS S0 u (S0 u).l (S0 t).l t).r ≠ t ∧ Gbd (besideS (holdS S0 u (S0 u).l (S0 t).l) t u (holdS S0 u (S0 u).l (S0 t).l t).r) t) :
    Calls Try.prog 89 #[.pointer (some ⟨p, 0, none⟩), .int .i64 (t : Int)] w fun e w' => e = .returned (.tuple #[]) ∧ Pool w' p g n cap room (rotS S t) ∧ Keep [g] w w' := by
  have PH := hide h
  have KP := hide (Keep.refl [g] w)
  have HL := hide hL
  have HR := hide hR
  have HS := hide hS0
  have HU := hide (And.intro hup hoo)
  clear h hL hR hS0 hup hoo
  have e1 : (0 : Int) ≤ (t : Int) := by omega
  have e2 : (t : Int) < (n : Int) := by omega
  have e3 : (0 : Int) ≤ (u : Int) := by omega
  have e4 : (u : Int) < (n : Int) := by omega
  have e5 : (0 : Int) ≤ (o : Int) := by omega
  have e6 : (o : Int) < (n : Int) := by omega
  refine callsK (n := 139) (L := [(0, .pointer (some ⟨p, 0, none⟩)), (1, .int .i64 (t : Int))]) Try.func89 rfl Try.ntmps89 rfl rfl (fun a0 K0 => ?_)
  refine seqR ?_
  refine lmv K0 rfl rfl (want_none rfl) rfl rfl (fun a1 K1 => ?_)
  refine lnc K1 rfl rfl (want_none rfl) rfl rfl (fun a2 K2 => ?_)
  clear K1
  refine lfa K2 rfl rfl (want_none rfl) rfl rfl FA66_1 (fun a3 K3 => ?_)
  clear K2
  refine ltake (v := .slice (some ⟨g, 0, none⟩) n cap) (w' := w) K3 rfl rfl (want_none rfl) (fun ev E => ?_) (fun a4 K4 => ?_)
  · obtain ⟨c0, c1, _⟩ := (unhide PH).head; have E8 := E.tmp 8 _ rfl; clear E; clear PH KP HL HR HS HU; go_simp
  clear K3
  refine lmv K4 rfl rfl (want_none rfl) rfl rfl (fun a5 K5 => ?_)
  clear K4
  refine ltake (v := .pointer (some ⟨g, t * 14, none⟩)) (w' := w) K5 rfl rfl (want_none rfl) (fun ev E => ?_) (fun a6 K6 => ?_)
  · have E9 := E.tmp 9 _ rfl; have E10 := E.tmp 10 _ rfl; clear E; clear PH KP HL HR HS HU; go_simp
  clear K5
  refine lfa K6 rfl rfl (want_none rfl) rfl rfl FA75_0 (fun a7 K7 => ?_)
  clear K6
  refine ltake (v := .int .i64 ((S t).up : Int)) (w' := w) K7 rfl rfl (want_none rfl) (fun ev E => ?_) (fun a8 K8 => ?_)
  · obtain ⟨s0, s1, s2, s3, s4, s5, s6, s7, s8, s9, s10, s11, s12, s13⟩ := (unhide PH).slot (t := t) (by assumption); have E12 := E.tmp 12 _ rfl; clear E; clear PH KP HL HR HS HU; go_simp
  clear K7
  refine las K8 rfl rfl (want_none rfl) rfl rfl (fun a9 K9 => ?_)
  clear K8
  refine nilN ?_
  have K70 : Kn _ 139 [(0, .pointer (some ⟨p, 0, none⟩)), (1, .int .i64 (t : Int)), (4, .int .i64 ((S t).up : Int))] := K9.less ⟨rfl, rfl, rfl, trivial⟩
  rw [(unhide HU).1] at K70
  clear K9
  refine seqR ?_
  refine lmv K70 rfl rfl (want_none rfl) rfl rfl (fun a10 K10 => ?_)
  clear K70
  refine lnc K10 rfl rfl (want_none rfl) rfl rfl (fun a11 K11 => ?_)
  clear K10
  refine lfa K11 rfl rfl (want_none rfl) rfl rfl FA66_1 (fun a12 K12 => ?_)
  clear K11
  refine ltake (v := .slice (some ⟨g, 0, none⟩) n cap) (w' := w) K12 rfl rfl (want_none rfl) (fun ev E => ?_) (fun a13 K13 => ?_)
  · obtain ⟨c0, c1, _⟩ := (unhide PH).head; have E16 := E.tmp 16 _ rfl; clear E; clear PH KP HL HR HS HU; go_simp
  clear K12
  refine lmv K13 rfl rfl (want_none rfl) rfl rfl (fun a14 K14 => ?_)
  clear K13
  refine ltake (v := .pointer (some ⟨g, u * 14, none⟩)) (w' := w) K14 rfl rfl (want_none rfl) (fun ev E => ?_) (fun a15 K15 => ?_)
  · have E17 := E.tmp 17 _ rfl; have E18 := E.tmp 18 _ rfl; clear E; clear PH KP HL HR HS HU; go_simp
  clear K14
  refine lfa K15 rfl rfl (want_none rfl) rfl rfl FA75_0 (fun a16 K16 => ?_)
  clear K15
  refine ltake (v := .int .i64 ((S u).up : Int)) (w' := w) K16 rfl rfl (want_none rfl) (fun ev E => ?_) (fun a17 K17 => ?_)
  · obtain ⟨s0, s1, s2, s3, s4, s5, s6, s7, s8, s9, s10, s11, s12, s13⟩ := (unhide PH).slot (t := u) (by assumption); have E20 := E.tmp 20 _ rfl; clear E; clear PH KP HL HR HS HU; go_simp
  clear K16
  refine las K17 rfl rfl (want_none rfl) rfl rfl (fun a18 K18 => ?_)
  clear K17
  refine nilN ?_
  have K71 : Kn _ 139 [(0, .pointer (some ⟨p, 0, none⟩)), (1, .int .i64 (t : Int)), (4, .int .i64 (u : Int)), (5, .int .i64 ((S u).up : Int))] := K18.less ⟨rfl, rfl, rfl, rfl, trivial⟩
  rw [(unhide HU).2] at K71
  clear K18
  refine seqN ?_
  refine over89 K71 (unhide PH) (unhide KP) ht hu ho (fun a1 W1 K1 P1 Q1 => ?_)
  show Code.wp _ _ _ _ _
  rw [← unhide HS] at P1
  refine seqN ?_
  refine side89 K1 P1 Q1 ht hu htu (unhide HL) (unhide HR) (fun a2 W2 K2 P2 Q2 => ?_)
  show Code.wp _ _ _ _ _
  clear PH KP K1 K71 P1 Q1 HL HR
  have PH := hide P2
  have KP := hide Q2
  clear P2 Q2
  obtain ⟨S2, hS2⟩ : ∃ z, z = sideS S0 t u := ⟨_, rfl⟩
  rw [← hS2] at PH
  have HS2 := hide hS2
  clear hS2
  refine lastN ?_
  refine wp_region_lit ?_
  refine lmv K2 rfl rfl (want_none rfl) rfl rfl (fun a24 K24 => ?_)
  clear K2
  refine lnc K24 rfl rfl (want_none rfl) rfl rfl (fun a25 K25 => ?_)
  clear K24
  refine lfa K25 rfl rfl (want_none rfl) rfl rfl FA66_1 (fun a26 K26 => ?_)
  clear K25
  refine ltake (v := .slice (some ⟨g, 0, none⟩) n cap) (w' := W2) K26 rfl rfl (want_none rfl) (fun ev E => ?_) (fun a27 K27 => ?_)
  · obtain ⟨c0, c1, _⟩ := (unhide PH).head; have E133 := E.tmp 133 _ rfl; clear E; clear PH KP HS HU HS2; go_simp
  clear K26
  refine lmv K27 rfl rfl (want_none rfl) rfl rfl (fun a28 K28 => ?_)
  clear K27
  refine lmv K28 rfl rfl (want_none rfl) rfl rfl (fun a29 K29 => ?_)
  clear K28
  refine ltake (v := .pointer (some ⟨g, t * 14, none⟩)) (w' := W2) K29 rfl rfl (want_none rfl) (fun ev E => ?_) (fun a30 K30 => ?_)
  · have E134 := E.tmp 134 _ rfl; have E135 := E.tmp 135 _ rfl; clear E; clear PH KP HS HU HS2; go_simp
  clear K29
  refine lfa K30 rfl rfl (want_none rfl) rfl rfl FA75_0 (fun a31 K31 => ?_)
  clear K30
  obtain ⟨sk, _, _, _, _, _, _, _, _, _, _, _, _, _⟩ := (unhide PH).slot ht
  obtain ⟨fk, _, _, _, _, _, _, _, _, _, _, _, _, _⟩ := (unhide PH).soft ht
  refine lstore (w' := W2.setCell ⟨g, t * 14, none⟩ (.int .i64 (o : Int))) K31 rfl (want_none rfl) (fun ev E => ?_) ?_
  · have E136 := E.tmp 136 _ rfl; have E138 := E.tmp 138 _ rfl; clear E; clear PH KP HS HU HS2; go_simp
  clear sk fk
  have P1 := (unhide PH).put (t := t) ht 0 (by omega) { S2 t with up := o } (.int .i64 (o : Int)) rfl
  have Q1 := (unhide KP).cellB (t * 14) (.int .i64 (o : Int))
  clear PH KP
  have PH := hide P1
  have KP := hide Q1
  clear P1 Q1
  generalize W2.setCell ⟨g, t * 14, none⟩ (.int .i64 (o : Int)) = W3 at *
  refine wpList_nil ?_
  refine ⟨K31.defers, .tuple #[], results_none rfl _ _ _, rfl, ?_, unhide KP⟩
  have e : rotS S t = upd S2 t { S2 t with up := o } := by
    rw [unhide HS2, unhide HS, ← (unhide HU).2, ← (unhide HU).1]; rfl
  rw [e]; exact unhide PH
end Go.Proofs.Ytjnkgakajenoaaa
/- Plain mathematics for link: a rotation, what it asks of sums, and a round of splay. No Go in sight. -/

namespace Go.Proofs.Ytjnkgakajenoaaa
set_option linter.unusedVariables false
set_option linter.unusedSimpArgs false

/-- Nothing waits at a slot. -/
def Idle (S : Ss) (z : Nat) : Prop := (S z).tn = false ∧ (S z).wa = 0
/-- What stays of other paths while t is made a top: those that aren't on its way up. -/
structure Fra (T : Tr) (t : Nat) (S : Ss) (G : Gh) (S1 : Ss) (G1 : Gh) : Prop where
  pn : G1.pn = G.pn
  top : ∀ x, Th T x → Top S x → G.fi x ∉ U T t → Top S1 x ∧ (S1 x).up = (S x).up ∧ G1.fi x = G.fi x ∧ G1.la x = G.la x
section
variable {S S1 S2 : Ss} {n : Nat} {T : Tr} {G G1 G2 : Gh} {t u o A M B x y z k l r : Nat} {d : Int} {s : Bool}
theorem Fra.refl : Fra T t S G S G := ⟨rfl, fun _ _ h _ => ⟨h, rfl, rfl, rfl⟩⟩
theorem Fra.trans (h : Fra T t S G S1 G1) (k : Fra T t S1 G1 S2 G2) : Fra T t S G S2 G2 := by
  refine ⟨k.pn.trans h.pn, fun x h1 h2 h3 => ?_⟩
  obtain ⟨a1, a2, a3, a4⟩ := h.top x h1 h2 h3
  obtain ⟨b1, b2, b3, b4⟩ := k.top x h1 a1 (by rw [a3]; exact h3)
  exact ⟨b1, b2.trans a2, b3.trans a3, b4.trans a4⟩
theorem Like.fra (h : Like S S1 G G1) : Fra T t S G S1 G1 := ⟨h.pn, fun x _ h2 _ => ⟨(h.top x).2 h2, h.up x, by rw [h.fi], by rw [h.la]⟩⟩
theorem Lc.fi_kid' (h : Lc S n T G) (hx : Th T x) (hk : k = (S x).l ∨ k = (S x).r) (k0 : k ≠ 0) : G.fi x ∈ U T (G.fi k) := by
  have L := h.loc x hx
  have K := h.up_kid hx hk k0
  have en := L.en
  have main : ∀ P Q : Nat, (k = P ∨ k = Q) → (P ≠ 0 → G.fi x = G.fi P ∧ G.pn (G.la P) = x) → (Q ≠ 0 → G.la x = G.la Q ∧ G.pn x = G.fi Q) → G.fi x ∈ U T (G.fi k) := by
    intro P Q hk e1 e2
    rcases hk with rfl | rfl
    · rw [(e1 k0).1]; exact U_self h.wf (h.fi_th K.th)
    · have f := h.fi_in K.th
      have f0 : G.fi k ≠ 0 := by have := (U_mem_th h.wf f).1; omega
      have := h.pn_in hx (by rw [(e2 k0).2]; exact f0)
      rw [(e2 k0).2] at this
      exact U_trans h.wf this (h.fi_in hx)
  cases hb : G.b x
  · rw [hb] at en
    exact main _ _ hk (fun e => en.l1 e) (fun e => en.r1 e)
  · rw [hb] at en
    exact main _ _ hk.symm (fun e => en.r1 e) (fun e => en.l1 e)
theorem settleS_ne (h : Lc S n T G) (ht : Th T t) (h1 : x ≠ t) (h2 : x ≠ (S t).l) (h3 : x ≠ (S t).r) : settleS S t x = S x := by
  have hl : (S t).l ≠ t := h.kid_ne ht (.inl rfl)
  have hr : (S t).r ≠ t := h.kid_ne ht (.inr rfl)
  have e := settleT_same S hl hr
  unfold settleS settleW
  rw [e]
  have e2 : Go.Proofs.Ytjnkgakajenoaaa.settleT S t x = S x := by
    unfold Go.Proofs.Ytjnkgakajenoaaa.settleT
    split
    · rw [turnS_ne _ h3, turnS_ne _ h2, upd_ne _ _ h1]
    · rfl
  split
  · exact e2
  · rw [raiseS_ne _ _ h3, raiseS_ne _ _ h2, upd_ne _ _ h1, e2]
/-- Settled, one that isn't a kid keeps what it has. -/
theorem Lc.settle_far (h : Lc S n T G) (ht : Th T t) (h1 : x ≠ t) (hx : (S x).up ≠ t ∨ ¬ Th T x) (hi : Idle S x) : Idle (settleS S t) x := by
  have k : ∀ j, j = (S t).l ∨ j = (S t).r → x = j → x = 0 := fun j hj e => Classical.byContradiction fun e0 => by
    have K := h.up_kid ht hj (by omega)
    rw [← e] at K
    rcases hx with hx | hx
    · exact hx K.up
    · exact hx K.th
  have z0 : settleS S t 0 = S 0 := by
    obtain ⟨G1, h1, _⟩ := h.settle ht
    rw [h1.s0, h.s0]
  by_cases e0 : x = 0
  · unfold Idle; rw [e0, z0, h.s0]; exact ⟨rfl, rfl⟩
  · unfold Idle
    rw [settleS_ne h ht h1 (fun e => e0 (k _ (.inl rfl) e)) (fun e => e0 (k _ (.inr rfl) e))]; exact hi
theorem Lc.ard (h : Lc S n T G) (hz : Th T z) (hn : ¬ Top S z) : ∃ s A M B, Ard s S z (S z).up (S (S z).up).up A M B ∧ Th T (S z).up := by
  obtain ⟨hu, kt, ctu⟩ := h.nt_up hz hn
  generalize hu' : (S z).up = u at *
  generalize ho : (S u).up = o
  have z0 : z ≠ 0 := by have := hz.1; omega
  have u0 : u ≠ 0 := by have := hu.1; omega
  obtain ⟨s, ku⟩ : ∃ s, nr s (S u) = z := by
    rcases kt with e | e
    · exact ⟨false, e.symm⟩
    · exact ⟨true, e.symm⟩
  have Kt := h.up_kid hu kt z0
  refine ⟨s, nr s (S z), fr s (S z), fr s (S u), ?_, hu⟩
  generalize kA : nr s (S z) = A
  generalize kM : fr s (S z) = M
  generalize kB : fr s (S u) = B
  have cA : A = (S z).l ∨ A = (S z).r := (kid_side s _).2 (.inl kA.symm)
  have cM : M = (S z).l ∨ M = (S z).r := (kid_side s _).2 (.inr kM.symm)
  have cB : B = (S u).l ∨ B = (S u).r := (kid_side s _).2 (.inr kB.symm)
  have tu : z ≠ u := h.kid_ne hu kt
  have cAt : (S A).sm.c < (S z).sm.c := by rcases cA with e | e <;> rw [e]; exact h.cl hz; exact h.cr hz
  have cMt : (S M).sm.c < (S z).sm.c := by rcases cM with e | e <;> rw [e]; exact h.cl hz; exact h.cr hz
  have KA : A ≠ 0 → Ki S T G z A := fun e => h.up_kid hz cA e
  have KM : M ≠ 0 → Ki S T G z M := fun e => h.up_kid hz cM e
  have KB : B ≠ 0 → Ki S T G u B := fun e => h.up_kid hu cB e
  have ou : o ≠ u ∧ o ≠ z := by
    by_cases hT : Top S u
    · have h1 := h.up_dp hu hT
      have h2 : G.fi u ∈ U T u := h.fi_in hu
      have h3 : G.fi u ∈ U T z := h.fi_kid hu kt z0
      have h4 := U_dp h.wf h2
      have h5 := U_dp h.wf h3
      rw [ho] at h1
      refine ⟨fun e => ?_, fun e => ?_⟩
      · rw [e] at h1; rcases h4 with e4 | e4
        · rw [e4] at h1; omega
        · omega
      · rw [e] at h1; rcases h5 with e4 | e4
        · rw [e4] at h1; omega
        · omega
    · obtain ⟨h1, h2, h3⟩ := h.nt_up hu hT
      rw [ho] at h3
      refine ⟨fun e => ?_, fun e => ?_⟩ <;> rw [e] at h3 <;> omega
  refine ⟨z0, u0, tu, ou.2, ou.1, fun e => by rw [e] at cAt; omega, fun e => by rw [e] at cAt; omega, fun e => by rw [e] at cMt; omega, fun e => by rw [e] at cMt; omega, fun e => ?_, h.kid_ne hu cB, hu', ho, ku, kA, kM, kB, fun e => (KA e).up, fun e => (KM e).up, fun e => (KB e).up, fun e e' => ?_, fun x hx => ?_, fun e e' => ?_⟩
  · have := (h.loc u hu).lr
    have e1 : nr s (S u) = fr s (S u) := by rw [ku, kB, e]
    cases s
    · exact z0 (by rw [← ku]; exact this e1)
    · exact z0 (by rw [← ku]; exact (e1.trans (this e1.symm)))
  · have e1 : nr s (S z) = fr s (S z) := by rw [kA, kM, e']
    have := (h.loc z hz).lr
    cases s
    · exact e (by rw [← e', ← kA]; exact this e1)
    · exact e (by rw [← kM]; exact this e1.symm)
  · by_cases hx' : Th T x
    · exact ⟨fun e => hx (by rw [← ho, ← (h.up_kid hx' (.inl e.symm) u0).up]), fun e => hx (by rw [← ho, ← (h.up_kid hx' (.inr e.symm) u0).up])⟩
    · rw [h.out x hx']; exact ⟨fun e => u0 e.symm, fun e => u0 e.symm⟩
  · by_cases ho' : Th T o
    · have := (h.loc o ho').lr (e.trans e'.symm); omega
    · rw [h.out o ho'] at e; exact u0 e.symm

theorem Lc.rotate (h : Lc S n T G) (hz : Th T z) (hn : ¬ Top S z) (iz : Idle S z) (iu : Idle S (S z).up) :
    ∃ G1, Lc (rotS S z) n T G1 ∧ G1.pn = G.pn ∧ (∀ x, Idle S x → Idle (rotS S z) x) ∧ (rotS S z z).sm = (S (S z).up).sm ∧ (Top (rotS S z) z ↔ Top S (S z).up) ∧ (rotS S z z).up = (S (S z).up).up ∧
      (∀ x, Th T x → Top S x → x ≠ (S z).up → Top (rotS S z) x ∧ (rotS S z x).up = (S x).up ∧ G1.fi x = G.fi x ∧ G1.la x = G.la x) ∧
      (∀ x, Th T x → x = (S z).l ∨ x = (S z).r → ¬ Top (rotS S z) x ∧ ((rotS S z x).up = z ∨ (rotS S z x).up = (S z).up) ∧ (rotS S z x).sm = (S x).sm) := by
  obtain ⟨s, A, M, B, D, hu⟩ := h.ard hz hn
  have R := rotS_rot D
  generalize (S z).up = u at *
  generalize hoo : (S u).up = o at *
  obtain ⟨h1, h2, h3, h4, h5, h6, h7⟩ := h.rot hz hu D.ku D.kA D.kM D.kB D.upu iz.1 iz.2 iu.1 iu.2 R
  obtain ⟨_, _, _, _, _, gp⟩ := rotG_f G (G.b u != s) z u M
  refine ⟨_, h1, gp, fun x hx => ?_, h2, h7, R.upt, fun x hx hT hxu => ?_, fun x hx hk => ?_⟩
  · obtain ⟨w1, w2, w3, w4⟩ := R.all x
    unfold Idle; rw [w2, w3]; exact hx
  · obtain ⟨q1, q2, q3⟩ := h6 x hx hT hxu
    obtain ⟨q4, q5⟩ := rotG_x G (G.b u != s) (M := M) q3 hxu
    exact ⟨q1, q2, q4, q5⟩
  · have x0 : x ≠ 0 := by have := hx.1; omega
    rw [kid_side s, D.kA, D.kM] at hk
    rcases hk with rfl | rfl
    · have K := h1.up_kid hz (k := x) ((kid_side s _).2 (.inl R.nt.symm)) x0
      exact ⟨K.nt ((kid_side s _).2 (.inl R.nt.symm) |>.imp Eq.symm Eq.symm), .inl K.up, (R.sx x D.At D.Au).1⟩
    · have K := h1.up_kid hu (k := x) ((kid_side s _).2 (.inl R.nu.symm)) x0
      exact ⟨K.nt ((kid_side s _).2 (.inl R.nu.symm) |>.imp Eq.symm Eq.symm), .inr K.up, (R.sx x D.Mt D.Mu).1⟩

/-- Rotated within t's tree, all other paths stay. -/
theorem Fra.rot (h : Lc S n T G) (hp : G1.pn = G.pn) (hf : Top S u → G.fi u ∈ U T t) (ht : ∀ x, Th T x → Top S x → x ≠ u → Top S1 x ∧ (S1 x).up = (S x).up ∧ G1.fi x = G.fi x ∧ G1.la x = G.la x) : Fra T t S G S1 G1 :=
  ⟨hp, fun x h1 h2 h3 => ht x h1 h2 fun e => h3 (by rw [e]; exact hf (by rw [← e]; exact h2))⟩

theorem Bz.of {z z' : Sl} (h : Bz z) (e1 : z'.sm = z.sm) (e2 : z'.hu = z.hu) (e3 : z'.hg = z.hg) (e4 : z'.wt = z.wt) : Bz z' := by
  obtain ⟨a, b, c, d, e, f, g⟩ := h
  exact ⟨by rw [e1]; exact a, by rw [e1]; exact b, by rw [e2]; exact c, by rw [e2]; exact d, by rw [e3]; exact e, by rw [e3]; exact f, by rw [e4]; exact g⟩
theorem besideS_f (S : Ss) {t l r : Nat} (hl : l ≠ t) (hr : r ≠ t) (x : Nat) : (besideS S t l r x).sm = (S x).sm ∧ (besideS S t l r x).hu = (S x).hu ∧ (besideS S t l r x).hg = (S x).hg ∧ (besideS S t l r x).wt = (S x).wt := by
  rw [besideS_at S hl hr]; split
  · rename_i e; subst e; exact ⟨rfl, rfl, rfl, rfl⟩
  · split <;> exact ⟨rfl, rfl, rfl, rfl⟩
theorem gbd_beside {t l r : Nat} (hl : l ≠ t) (hr : r ≠ t) (b1 : Bz (S l)) (b2 : Bz (S r)) (b3 : Bz (S t)) : Gbd (besideS S t l r) t := by
  have e := besideS_same S hl hr
  have F := besideS_f S hl hr
  refine gbd_of ?_ ?_ (b3.of (F t).1 (F t).2.1 (F t).2.2.1 (F t).2.2.2)
  · rw [e]; exact b1.of (F l).1 (F l).2.1 (F l).2.2.1 (F l).2.2.2
  · rw [e]; exact b2.of (F r).1 (F r).2.1 (F r).2.2.1 (F r).2.2.2
theorem Lc.lt' (h : Lc S n T G) (hx : x ≠ 0 → Th T x) : x < n := by
  by_cases e : x = 0
  · subst e; exact h.n0
  · exact h.lt x (hx e)
/-- What the two holds of a rotation ask for. -/
theorem Lc.rot_left (h : Lc S n T G) (hz : Th T z) (hn : ¬ Top S z) (iz : Idle S z) (iu : Idle S (S z).up) (hs : (S (S z).up).l = z) :
    let u := (S z).up; let S0 := overS S (S u).up u z
    (S0 z).r < n ∧ (S0 u).r < n ∧ (S0 z).r ≠ u ∧ (S0 u).r ≠ u ∧ Gbd (besideS S0 u (S0 z).r (S0 u).r) u ∧ (holdS S0 u (S0 z).r (S0 u).r z).l < n ∧ (holdS S0 u (S0 z).r (S0 u).r z).l ≠ z ∧ Gbd (besideS (holdS S0 u (S0 z).r (S0 u).r) z (holdS S0 u (S0 z).r (S0 u).r z).l u) z := by
  intro u S0
  obtain ⟨s, A, M, B, D, hu⟩ := h.ard hz hn
  obtain ⟨G1, hR, _⟩ := h.rotate hz hn iz iu
  have F := overS_f D
  have E : ∀ x, x ≠ (S u).up → S0 x = S x := fun x hx => overS_ne S hx
  have Et := E z (Ne.symm D.ot)
  have Eu := E u (Ne.symm D.ou)
  have s0 : s = false := by
    cases s
    · rfl
    · have e1 : (S u).r = z := D.ku
      have e2 : (S u).l = B := D.kB
      exact absurd (e2.symm.trans hs) D.Bt
  subst s0
  have kA : (S z).l = A := D.kA
  have kM : (S z).r = M := D.kM
  have kB : (S u).r = B := D.kB
  have KA : A ≠ 0 → Th T A := fun e => (h.up_kid hz (.inl kA.symm) e).th
  have KM : M ≠ 0 → Th T M := fun e => (h.up_kid hz (.inr kM.symm) e).th
  have KB : B ≠ 0 → Th T B := fun e => (h.up_kid hu (.inr kB.symm) e).th
  have B0 : ∀ x, Bz (S0 x) := fun x => (h.bz x).of (F x).2.2.2.2.1 (F x).2.2.2.2.2.2.1 (F x).2.2.2.2.2.1 (F x).2.2.1
  rw [Et, Eu, kM, kB]
  have eX := holdS_at S0 D.Mu D.Bu
  have eXt : holdS S0 u M B z = S z := by
    rw [eX, if_neg D.tu, if_neg (by rintro ⟨_, h | h⟩; exact D.Mt h.symm; exact D.Bt h.symm), Et]
  have bX : ∀ x, x ≠ u → Bz (holdS S0 u M B x) := fun x hx => by
    rw [eX, if_neg hx]
    split
    · exact (B0 x).of rfl rfl rfl rfl
    · exact B0 x
  have bXu : Bz (holdS S0 u M B u) := by
    have e : rotS S z u = { holdS S0 u M B u with up := z } := by
      have e1 : rotS S z = atS (sideS S0 z u) z (S u).up := rfl
      rw [e1, atS, upd_ne _ _ (Ne.symm D.tu), sideS, Eu, if_pos hs, leftS, Et, Eu, kM, kB, eXt, kA, holdS_at _ D.At (Ne.symm D.tu), if_neg (Ne.symm D.tu), if_pos ⟨D.u0, .inr rfl⟩]
    exact (hR.bz u).of (by rw [e]) (by rw [e]) (by rw [e]) (by rw [e])
  rw [eXt, kA]
  exact ⟨h.lt' KM, h.lt' KB, D.Mu, D.Bu, gbd_beside D.Mu D.Bu (B0 M) (B0 B) (B0 u), h.lt' KA, D.At, gbd_beside D.At (Ne.symm D.tu) (bX A D.Au) bXu (bX z D.tu)⟩
theorem Lc.rot_right (h : Lc S n T G) (hz : Th T z) (hn : ¬ Top S z) (iz : Idle S z) (iu : Idle S (S z).up) (hs : (S (S z).up).l ≠ z) :
    let u := (S z).up; let S0 := overS S (S u).up u z
    (S0 u).l < n ∧ (S0 z).l < n ∧ (S0 u).l ≠ u ∧ (S0 z).l ≠ u ∧ Gbd (besideS S0 u (S0 u).l (S0 z).l) u ∧ (holdS S0 u (S0 u).l (S0 z).l z).r < n ∧ (holdS S0 u (S0 u).l (S0 z).l z).r ≠ z ∧ Gbd (besideS (holdS S0 u (S0 u).l (S0 z).l) z u (holdS S0 u (S0 u).l (S0 z).l z).r) z := by
  intro u S0
  obtain ⟨s, A, M, B, D, hu⟩ := h.ard hz hn
  obtain ⟨G1, hR, _⟩ := h.rotate hz hn iz iu
  have F := overS_f D
  have E : ∀ x, x ≠ (S u).up → S0 x = S x := fun x hx => overS_ne S hx
  have Et := E z (Ne.symm D.ot)
  have Eu := E u (Ne.symm D.ou)
  have s0 : s = true := by
    cases s
    · exact absurd D.ku hs
    · rfl
  subst s0
  have ku : (S u).r = z := D.ku
  have kA : (S z).r = A := D.kA
  have kM : (S z).l = M := D.kM
  have kB : (S u).l = B := D.kB
  have KA : A ≠ 0 → Th T A := fun e => (h.up_kid hz (.inr kA.symm) e).th
  have KM : M ≠ 0 → Th T M := fun e => (h.up_kid hz (.inl kM.symm) e).th
  have KB : B ≠ 0 → Th T B := fun e => (h.up_kid hu (.inl kB.symm) e).th
  have B0 : ∀ x, Bz (S0 x) := fun x => (h.bz x).of (F x).2.2.2.2.1 (F x).2.2.2.2.2.2.1 (F x).2.2.2.2.2.1 (F x).2.2.1
  rw [Et, Eu, kM, kB]
  have eX := holdS_at S0 D.Bu D.Mu
  have eXt : holdS S0 u B M z = S z := by
    rw [eX, if_neg D.tu, if_neg (by rintro ⟨_, h | h⟩; exact D.Bt h.symm; exact D.Mt h.symm), Et]
  have bX : ∀ x, x ≠ u → Bz (holdS S0 u B M x) := fun x hx => by
    rw [eX, if_neg hx]
    split
    · exact (B0 x).of rfl rfl rfl rfl
    · exact B0 x
  have bXu : Bz (holdS S0 u B M u) := by
    have e : rotS S z u = { holdS S0 u B M u with up := z } := by
      have e1 : rotS S z = atS (sideS S0 z u) z (S u).up := rfl
      rw [e1, atS, upd_ne _ _ (Ne.symm D.tu), sideS, Eu, if_neg hs, rightS, Et, Eu, kM, kB, eXt, kA, holdS_at _ (Ne.symm D.tu) D.At, if_neg (Ne.symm D.tu), if_pos ⟨D.u0, .inl rfl⟩]
    exact (hR.bz u).of (by rw [e]) (by rw [e]) (by rw [e]) (by rw [e])
  rw [eXt, kA]
  exact ⟨h.lt' KB, h.lt' KM, D.Bu, D.Mu, gbd_beside D.Bu D.Mu (B0 B) (B0 M) (B0 u), h.lt' KA, D.At, gbd_beside (Ne.symm D.tu) D.At bXu (bX A D.Au) (bX z D.tu)⟩
end
end Go.Proofs.Ytjnkgakajenoaaa
/- Plain mathematics for link: rounds of splay. No Go in sight. -/

namespace Go.Proofs.Ytjnkgakajenoaaa
set_option linter.unusedVariables false
set_option linter.unusedSimpArgs false
section
variable {S S1 S2 : Ss} {n : Nat} {T : Tr} {G G1 G2 : Gh} {t u o A M B x y z k l r : Nat} {d : Int} {s : Bool}
theorem Lc.upA (h : Lc S n T G) (ht : Th T t) (hn : ¬ Top S t) : Th T (S t).up ∧ (S t).up ≠ t ∧ (S (S t).up).up ≠ t ∧ (S (S t).up).up ≠ (S t).up := by
  obtain ⟨s, A, M, B, D, hu⟩ := h.ard ht hn
  exact ⟨hu, Ne.symm D.tu, D.ot, D.ou⟩
theorem Lc.upB (h : Lc S n T G) (ht : Th T t) (hn : ¬ Top S t) (hn2 : ¬ Top S (S t).up) : Th T (S (S t).up).up ∧ (S (S (S t).up).up).up ≠ (S t).up ∧ (S (S (S t).up).up).up ≠ t := by
  obtain ⟨hu, h1, h2, h3⟩ := h.upA ht hn
  obtain ⟨ho, h4, h5, h6⟩ := h.upA hu hn2
  refine ⟨ho, h5, fun e => ?_⟩
  obtain ⟨_, k1, c1⟩ := h.nt_up ht hn
  obtain ⟨_, k2, c2⟩ := h.nt_up hu hn2
  by_cases hT : Top S (S (S t).up).up
  · have d1 := h.up_dp ho hT
    rw [e] at d1
    have t0 := ht.1
    have u0 := hu.1
    have f1 := h.fi_kid' ho k2 (by omega)
    have f2 := h.fi_kid hu k1 (by omega)
    rcases U_dp h.wf (U_trans h.wf f2 f1) with q | q
    · rw [q] at d1; omega
    · omega
  · obtain ⟨_, _, c3⟩ := h.nt_up ho hT
    rw [e] at c3; omega
theorem Lc.last2 (h : Lc S n T G) (ht : Th T t) (hn : ¬ Top S t) (it : Idle S t) (iu : Idle S (S t).up) :
    ∃ G1, Lc (rotS S t) n T G1 ∧ Fra T t S G (rotS S t) G1 ∧ (S t).sm.c < (rotS S t t).sm.c ∧ (Top (rotS S t) t ↔ Top S (S t).up) ∧ Idle (rotS S t) t := by
  obtain ⟨G1, h1, h2, h3, h4, h5, h6, h7, h8⟩ := h.rotate ht hn it iu
  obtain ⟨hu, k1, c1⟩ := h.nt_up ht hn
  have t0 := ht.1
  exact ⟨G1, h1, Fra.rot h h2 (fun _ => h.fi_kid hu k1 (by omega)) h7, by rw [h4]; exact c1, h5, h3 t it⟩
theorem Lc.first2 (h : Lc S n T G) (ht : Th T t) (hn : ¬ Top S t) (hn2 : ¬ Top S (S t).up) (it : Idle S t) (iu : Idle S (S t).up) (io : Idle S (S (S t).up).up) :
    ∃ G1, Lc (rotS S (S t).up) n T G1 ∧ Fra T t S G (rotS S (S t).up) G1 ∧ (rotS S (S t).up t).sm = (S t).sm ∧ ¬ Top (rotS S (S t).up) t ∧ Idle (rotS S (S t).up) t ∧ Idle (rotS S (S t).up) (rotS S (S t).up t).up := by
  obtain ⟨hu, k1, c1⟩ := h.nt_up ht hn
  obtain ⟨ho, k2, c2⟩ := h.nt_up hu hn2
  obtain ⟨G1, h1, h2, h3, h4, h5, h6, h7, h8⟩ := h.rotate hu hn2 iu io
  have t0 := ht.1
  have u0 := hu.1
  obtain ⟨q1, q2, q3⟩ := h8 t ht k1
  refine ⟨G1, h1, Fra.rot h h2 (fun _ => U_trans h.wf (h.fi_kid hu k1 (by omega)) (h.fi_kid' ho k2 (by omega))) h7, q3, q1, h3 t it, ?_⟩
  rcases q2 with q2 | q2 <;> rw [q2]
  · exact h3 _ iu
  · exact h3 _ io
theorem Lc.zag2 (h : Lc S n T G) (ht : Th T t) (hn : ¬ Top S t) (hn2 : ¬ Top S (S t).up) (it : Idle S t) (iu : Idle S (S t).up) (io : Idle S (S (S t).up).up) :
    ∃ G1, Lc (rotS S t) n T G1 ∧ Fra T t S G (rotS S t) G1 ∧ (S t).sm.c ≤ (rotS S t t).sm.c ∧ ¬ Top (rotS S t) t ∧ Idle (rotS S t) t ∧ Idle (rotS S t) (rotS S t t).up := by
  obtain ⟨G1, h1, h2, h3, h4, h5, h6, h7, h8⟩ := h.rotate ht hn it iu
  obtain ⟨hu, k1, c1⟩ := h.nt_up ht hn
  refine ⟨G1, h1, Fra.rot h h2 (fun e => absurd e hn2) h7, by rw [h4]; omega, fun e => hn2 (h5.1 e), h3 t it, ?_⟩
  rw [h6]; exact h3 _ io
theorem isTopB_iff (S : Ss) (t : Nat) : isTopB S t = true ↔ Top S t := by unfold isTopB Top; simp
theorem isTopB_not (S : Ss) (t : Nat) : isTopB S t = false ↔ ¬ Top S t := by rw [← isTopB_iff]; simp
end
end Go.Proofs.Ytjnkgakajenoaaa
/- The program's forest: settle, rotate and isTop, where all is as it must be. -/

namespace Go.Proofs.Ytjnkgakajenoaaa
open Go.RowKit Go.Arb
set_option linter.unusedVariables false
set_option linter.unusedSimpArgs false

section
variable {S : Ss} {nn : Nat} {T : Tr} {G : Gh} {p g n cap room t z : Nat} {w : World}
theorem Lc.up_lt (h : Lc S n T G) (ht : Th T t) : (S t).up < n := by
  refine h.lt' fun e => ?_
  by_cases hT : Top S t
  · have P := (h.loc t ht).tp hT
    have f := h.fi_th ht
    rw [← P.fi] at e ⊢
    exact ps_th h.wf f e
  · exact (h.nt_up ht hT).1
theorem Lc.kids_lt (h : Lc S n T G) (ht : Th T t) : (S t).l < n ∧ (S t).r < n ∧ (S t).l ≠ t ∧ (S t).r ≠ t :=
  ⟨h.lt' fun e => ((h.loc t ht).kl e).th, h.lt' fun e => ((h.loc t ht).kr e).th, h.kid_ne ht (.inl rfl), h.kid_ne ht (.inr rfl)⟩
theorem settleL (h : Pool w p g n cap room S) (L : Lc S n T G) (ht : Th T t) :
    Calls Try.prog 88 #[.pointer (some ⟨p, 0, none⟩), .int .i64 (t : Int)] w fun e w' => e = .returned (.tuple #[]) ∧ Keep [g] w w' ∧ ∃ S1 G1, Pool w' p g n cap room S1 ∧ Lc S1 n T G1 ∧ Like S S1 G G1 ∧ Idle S1 t ∧ (∀ x, x ≠ t → (S x).up ≠ t → Idle S x → Idle S1 x) := by
  obtain ⟨k1, k2, k3, k4⟩ := L.kids_lt ht
  obtain ⟨G1, L1, lk1, b1, a1, n1, w1, l1, r1⟩ := L.settleT ht
  obtain ⟨G2, L2, lk2, b2, a2, n2, w2, l2, r2⟩ := L.settle ht
  have t0 := ht.1
  have far := fun x h1 h2 => L.settle_far (x := x) ht h1 (.inl h2)
  refine (settle_any h (L.lt t ht) k1 k2 k3 k4 rfl (fun _ e => ?_) (fun _ e => ?_)).mono ?_
  · rw [upd_ne _ _ (by rw [l1]; exact k3)]
    exact (L1.kid_bd ht (.inl rfl) e).1
  · by_cases e2 : (settleT S t t).l = (settleT S t t).r
    · have := (L1.loc t ht).lr e2; omega
    · rw [raiseS_ne _ _ (fun e => e2 e.symm), upd_ne _ _ (by rw [r1]; exact k4)]
      exact (L1.kid_bd ht (.inr rfl) e).1
  · rintro e w' ⟨rfl, q1, q2⟩
    exact ⟨rfl, q2, _, G2, q1, L2, lk2, ⟨n2, w2⟩, far⟩
theorem rotateL (h : Pool w p g n cap room S) (L : Lc S n T G) (ht : Th T t) (hn : ¬ Top S t) (it : Idle S t) (iu : Idle S (S t).up) :
    Calls Try.prog 89 #[.pointer (some ⟨p, 0, none⟩), .int .i64 (t : Int)] w fun e w' => e = .returned (.tuple #[]) ∧ Keep [g] w w' ∧ Pool w' p g n cap room (rotS S t) := by
  obtain ⟨s, A, M, B, D, hu⟩ := L.ard ht hn
  have E : ∀ x, x ≠ (S (S t).up).up → overS S (S (S t).up).up (S t).up t x = S x := fun x hx => overS_ne S hx
  have Et := E t (Ne.symm D.ot)
  have Eu := E (S t).up (Ne.symm D.ou)
  refine (rotate_any h (L.lt t ht) (L.up_lt ht) (L.up_lt hu) rfl rfl D.tu rfl (fun hs => ?_) (fun hs => ?_)).mono ?_
  · rw [Eu] at hs; exact L.rot_left ht hn it iu hs
  · rw [Eu] at hs; exact L.rot_right ht hn it iu hs
  · rintro e w' ⟨rfl, q1, q2⟩
    exact ⟨rfl, q2, q1⟩
theorem isTopL (h : Pool w p g n cap room S) (L : Lc S n T G) (ht : Th T t) :
    Calls Try.prog 87 #[.pointer (some ⟨p, 0, none⟩), .int .i64 (t : Int)] w fun e w' => e = .returned (.bool (isTopB S t)) ∧ Pool w' p g n cap room S ∧ Keep [g] w w' := by
  refine (isTop_any h (L.lt t ht) (L.up_lt ht)).mono ?_
  rintro e w' ⟨rfl, q1, q2⟩
  exact ⟨rfl, q1, q2.mono (fun k hk => by simp at hk)⟩
end
end Go.Proofs.Ytjnkgakajenoaaa

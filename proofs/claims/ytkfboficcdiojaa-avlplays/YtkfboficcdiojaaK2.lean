/- Plain facts on raising a part, handing on what waits, and holding two parts. -/
import Derived.Test.YtkfboficcdiojaaK
namespace Go.Proofs.Ytkfboficcdiojaa

def raiseS (S : Ss) (t : Nat) (d : Int) : Ss := if t = 0 then S else upd S t { S t with wt := (S t).wt + d, sm := lf (S t).sm d, wa := if 1 < (S t).h then (S t).wa + d else (S t).wa }
def settleS (S : Ss) (t : Nat) : Ss := if (S t).wa = 0 then S else raiseS (raiseS (upd S t { S t with wa := 0 }) (S t).l (S t).wa) (S t).r (S t).wa
def gatherS (S : Ss) (t : Nat) : Ss := upd S t { S t with h := 1 + max (S (S t).l).h (S (S t).r).h, sm := jn (jn (S (S t).l).sm (one (S t).wt)) (S (S t).r).sm }
def setUp (S : Ss) (c t : Nat) : Ss := if c = 0 then S else upd S c { S c with up := t }
def holdS (S : Ss) (t l r : Nat) : Ss := gatherS (setUp (setUp (upd S t { S t with l := l, r := r }) l t) r t) t

section
variable {S S' : Ss} {t u n m c : Nat} {d : Int} {xs ys xl xr : List It}
theorem raiseS_ne (h : u ≠ t) : raiseS S t d u = S u := by
  unfold raiseS; split
  · rfl
  · exact upd_ne _ _ h
theorem raiseS_h : (raiseS S t d u).h = (S u).h ∧ (raiseS S t d u).up = (S u).up ∧ (raiseS S t d u).l = (S u).l ∧ (raiseS S t d u).r = (S u).r := by
  by_cases e : u = t
  · subst e; unfold raiseS; split
    · simp
    · simp [upd_same]
  · rw [raiseS_ne e]; simp
theorem raiseS_z (z : Z S) : Z (raiseS S t d) := by
  unfold Z raiseS; split
  · exact z
  · rename_i h; rw [upd_ne _ _ (fun e => h e.symm)]; exact z
theorem FitL.mid {a b : Int} (h1 : FitL xs) (h2 : FitL (rz b xs)) (h : (0 ≤ a ∧ a ≤ b) ∨ (b ≤ a ∧ a ≤ 0)) : FitL (rz a xs) := by
  intro x hx
  obtain ⟨y, hy, rfl⟩ := List.mem_map.1 hx
  have k1 := h1 y hy
  have k2 := h2 (y.1, y.2 + b) (List.mem_map.2 ⟨y, hy, rfl⟩)
  dsimp only at *
  omega
theorem FitL.by {b : Int} (h1 : FitL xs) (h2 : FitL (rz b xs)) (h : xs ≠ []) : -2199023255552 ≤ b ∧ b ≤ 2199023255552 := by
  obtain ⟨y, hy⟩ := List.exists_mem_of_ne_nil _ h
  have k1 := h1 y hy
  have k2 := h2 (y.1, y.2 + b) (List.mem_map.2 ⟨y, hy, rfl⟩)
  dsimp only at *
  omega
theorem Nd.fitl (h : Nd S t xl xr xs) : FitL (rz (S t).wa xl) ∧ FitL (rz (S t).wa xr) ∧ (-1099511627776 ≤ (S t).wt ∧ (S t).wt ≤ 1099511627776) := by
  have := h.fit
  rw [h.eq, FitL.append, FitL.cons] at this
  exact ⟨this.1, this.2.2, this.2.1⟩
theorem Nd.wabd (h : Nd S t xl xr xs) (p1 : Pt S (S t).l xl) (p2 : Pt S (S t).r xr) : -2199023255552 ≤ (S t).wa ∧ (S t).wa ≤ 2199023255552 := by
  by_cases e1 : (S t).l = 0
  · by_cases e2 : (S t).r = 0
    · rw [h.wa e1 e2]; omega
    · exact FitL.by p2.fit h.fitl.2.1 (p2.ne_nil e2)
  · exact FitL.by p1.fit h.fitl.1 (p1.ne_nil e1)
theorem Pt.raise (h : Pt S t xs) (z : Z S) (nd : (ids xs).Nodup) (hf : FitL (rz d xs)) : Pt (raiseS S t d) t (rz d xs) := by
  by_cases ht : t = 0
  · subst ht; rw [h.of0]; exact Pt.nil
  obtain ⟨xl, xr, p1, p2, h3⟩ := h.node ht
  have nd' := nd
  rw [h3.idl, List.nodup_append] at nd'
  obtain ⟨n1, n2, n3⟩ := nd'
  rw [List.nodup_cons] at n2
  have el : (S t).l ≠ t := fun e => by
    by_cases e0 : (S t).l = 0
    · rw [e0] at e; exact ht e.symm
    · have := p1.mem e0; rw [e] at this; exact n3 t this t (by simp) rfl
  have er : (S t).r ≠ t := fun e => by
    by_cases e0 : (S t).r = 0
    · rw [e0] at e; exact ht e.symm
    · have := p2.mem e0; rw [e] at this; exact n2.1 this
  have r0 : raiseS S t d t = { S t with wt := (S t).wt + d, sm := lf (S t).sm d, wa := if 1 < (S t).h then (S t).wa + d else (S t).wa } := by simp [raiseS, ht, upd_same]
  have q1 : Pt (raiseS S t d) (S t).l xl := p1.frame (raiseS_ne (fun e => ht e.symm)) n1 (fun u hu => raiseS_ne (fun e => n3 u hu t (by simp) e))
  have q2 : Pt (raiseS S t d) (S t).r xr := p2.frame (raiseS_ne (fun e => ht e.symm)) n2.2 (fun u hu => raiseS_ne (fun e => n2.1 (e ▸ hu)))
  have hh := h3.h
  have hw : rz (if 1 < (S t).h then (S t).wa + d else (S t).wa) xl = rz d (rz (S t).wa xl) ∧ rz (if 1 < (S t).h then (S t).wa + d else (S t).wa) xr = rz d (rz (S t).wa xr) := by
    rw [rz_rz, rz_rz]
    split
    · exact ⟨rfl, rfl⟩
    · have z1 : (S t).l = 0 := (p1.h0 z).1 (by omega)
      have z2 : (S t).r = 0 := (p2.h0 z).1 (by omega)
      rw [z1] at p1; rw [z2] at p2
      rw [p1.of0, p2.of0]; exact ⟨rfl, rfl⟩
  refine Pt.mk (xl := xl) (xr := xr) (by rw [r0]; exact q1) (by rw [r0]; exact q2) ⟨ht, ?_, ?_, ?_, ?_, ?_, hf, ?_, ?_, ?_⟩
  · rw [r0]; dsimp only; rw [hw.1, hw.2, h3.eq, rz_append, rz_cons]
  · rw [r0]; dsimp only; rw [raiseS_ne el, raiseS_ne er]; exact h3.h
  · rw [r0]; dsimp only; rw [raiseS_ne el, raiseS_ne er]; exact h3.b1
  · rw [r0]; dsimp only; rw [raiseS_ne el, raiseS_ne er]; exact h3.b2
  · rw [r0]; dsimp only; rw [h3.sm, smL_rz]
  · rw [r0]; dsimp only; rw [raiseS_ne el]; exact h3.ul
  · rw [r0]; dsimp only; rw [raiseS_ne er]; exact h3.ur
  · rw [r0]; dsimp only; intro e1 e2
    have : ¬ 1 < (S t).h := by
      rw [h3.h, e1, e2, z]; simp [Sl.zero]
    rw [if_neg this]; exact h3.wa e1 e2

/-- A slot's parts lie apart from it, and from each other. -/
structure Ap (S : Ss) (t : Nat) (xl xr : List It) : Prop where
  nl : (ids xl).Nodup
  nr : (ids xr).Nodup
  tl : t ∉ ids xl
  tr : t ∉ ids xr
  lr : ∀ u ∈ ids xl, u ∉ ids xr
theorem Nd.ap (h : Nd S t xl xr xs) (nd : (ids xs).Nodup) : Ap S t xl xr := by
  rw [h.idl, List.nodup_append] at nd
  obtain ⟨n1, n2, n3⟩ := nd
  rw [List.nodup_cons] at n2
  exact ⟨n1, n2.2, fun hm => n3 t hm t (by simp) rfl, n2.1, fun u hu hr => n3 u hu u (by simp [hr]) rfl⟩
theorem Pt.top_ne (p : Pt S c xl) (ht : t ≠ 0) (h : t ∉ ids xl) : c ≠ t := fun e => by
  by_cases e0 : c = 0
  · exact ht (e ▸ e0)
  · exact h (e ▸ p.mem e0)

/-- What settling leaves. -/
structure Settled (S S' : Ss) (t : Nat) (xs : List It) : Prop where
  pt : Pt S' t xs
  at' : S' t = { S t with wa := 0 }
  off : ∀ u, u ∉ ids xs → S' u = S u
  sh : ∀ u, (S' u).h = (S u).h ∧ (S' u).up = (S u).up ∧ (S' u).l = (S u).l ∧ (S' u).r = (S u).r
  z : Z S'
theorem Pt.settle (h : Pt S t xs) (z : Z S) (nd : (ids xs).Nodup) (ht : t ≠ 0) : Settled S (settleS S t) t xs := by
  by_cases hw : (S t).wa = 0
  · have e : settleS S t = S := by simp [settleS, hw]
    rw [e]
    refine ⟨h, ?_, fun _ _ => rfl, fun _ => ⟨rfl, rfl, rfl, rfl⟩, z⟩
    rw [← hw]
  obtain ⟨xl, xr, p1, p2, h3⟩ := h.node ht
  have ap := h3.ap nd
  have el := p1.top_ne ht ap.tl
  have er := p2.top_ne ht ap.tr
  have e : settleS S t = raiseS (raiseS (upd S t { S t with wa := 0 }) (S t).l (S t).wa) (S t).r (S t).wa := by simp [settleS, hw]
  rw [e]
  generalize hS1 : upd S t { S t with wa := 0 } = S1
  have s1t : S1 t = { S t with wa := 0 } := by rw [← hS1, upd_same]
  have s1n : ∀ u, u ≠ t → S1 u = S u := fun u hu => by rw [← hS1, upd_ne _ _ hu]
  have z1 : Z S1 := by unfold Z; rw [s1n 0 (fun e => ht e.symm)]; exact z
  have a1 : Pt S1 (S t).l xl := p1.frame (s1n 0 (fun e => ht e.symm)) ap.nl (fun u hu => s1n u (fun e => ap.tl (e ▸ hu)))
  have a2 : Pt S1 (S t).r xr := p2.frame (s1n 0 (fun e => ht e.symm)) ap.nr (fun u hu => s1n u (fun e => ap.tr (e ▸ hu)))
  have f := h3.fitl
  have b1 := a1.raise z1 ap.nl f.1
  have zz := raiseS_z (t := (S t).l) (d := (S t).wa) z1
  have nel : ∀ u ∈ ids xr, u ≠ (S t).l := fun u hu e => by
    by_cases e0 : (S t).l = 0
    · exact p2.ne0 u hu (e.trans e0)
    · exact ap.lr _ (p1.mem e0) (e ▸ hu)
  have b2 : Pt (raiseS S1 (S t).l (S t).wa) (S t).r xr := a2.frame (by rw [zz, z1]) ap.nr (fun u hu => raiseS_ne (nel u hu))
  have c2 := b2.raise zz ap.nr f.2.1
  have zz2 := raiseS_z (t := (S t).r) (d := (S t).wa) zz
  have ner : ∀ u ∈ ids xl, u ≠ (S t).r := fun u hu e => by
    by_cases e0 : (S t).r = 0
    · exact p1.ne0 u hu (e.trans e0)
    · exact ap.lr u hu (e ▸ p2.mem e0)
  have c1 : Pt (raiseS (raiseS S1 (S t).l (S t).wa) (S t).r (S t).wa) (S t).l (rz (S t).wa xl) := b1.frame (by rw [zz2, zz]) (by rw [ids_rz]; exact ap.nl) (fun u hu => by rw [ids_rz] at hu; exact raiseS_ne (ner u hu))
  generalize hS2 : raiseS (raiseS S1 (S t).l (S t).wa) (S t).r (S t).wa = S2 at *
  have sh : ∀ u, (S2 u).h = (S u).h ∧ (S2 u).up = (S u).up ∧ (S2 u).l = (S u).l ∧ (S2 u).r = (S u).r := fun u => by
    have k1 := raiseS_h (S := raiseS S1 (S t).l (S t).wa) (t := (S t).r) (d := (S t).wa) (u := u)
    have k2 := raiseS_h (S := S1) (t := (S t).l) (d := (S t).wa) (u := u)
    rw [hS2] at k1
    rw [k1.1, k1.2.1, k1.2.2.1, k1.2.2.2, k2.1, k2.2.1, k2.2.2.1, k2.2.2.2]
    by_cases e : u = t
    · subst e; rw [s1t]; simp
    · rw [s1n u e]; simp
  have s2t : S2 t = { S t with wa := 0 } := by rw [← hS2, raiseS_ne er.symm, raiseS_ne el.symm, s1t]
  refine ⟨?_, s2t, fun u hu => ?_, sh, zz2⟩
  · refine Pt.mk (xl := rz (S t).wa xl) (xr := rz (S t).wa xr) (by rw [s2t]; exact c1) (by rw [s2t]; exact c2) ⟨ht, ?_, ?_, ?_, ?_, ?_, h3.fit, ?_, ?_, ?_⟩
    · rw [s2t]; dsimp only; rw [rz_zero, rz_zero]; exact h3.eq
    · rw [s2t]; dsimp only; rw [(sh _).1, (sh _).1]; exact h3.h
    · rw [s2t]; dsimp only; rw [(sh _).1, (sh _).1]; exact h3.b1
    · rw [s2t]; dsimp only; rw [(sh _).1, (sh _).1]; exact h3.b2
    · rw [s2t]; exact h3.sm
    · rw [s2t]; dsimp only; rw [(sh _).2.1]; exact h3.ul
    · rw [s2t]; dsimp only; rw [(sh _).2.1]; exact h3.ur
    · rw [s2t]; intro _ _; rfl
  · rw [h3.idl] at hu
    have u1 : u ≠ t := fun e => hu (by simp [e])
    have u2 : u ≠ (S t).l ∨ u = 0 := by
      by_cases e0 : (S t).l = 0
      · by_cases eu : u = 0
        · exact .inr eu
        · exact .inl (fun e => eu (e.trans e0))
      · exact .inl (fun e => hu (by have := p1.mem e0; rw [← e] at this; simp [this]))
    have u3 : u ≠ (S t).r ∨ u = 0 := by
      by_cases e0 : (S t).r = 0
      · by_cases eu : u = 0
        · exact .inr eu
        · exact .inl (fun e => eu (e.trans e0))
      · exact .inl (fun e => hu (by have := p2.mem e0; rw [← e] at this; simp [this]))
    by_cases eu : u = 0
    · subst eu; rw [zz2, z]
    · rw [← hS2, raiseS_ne (u3.resolve_right eu), raiseS_ne (u2.resolve_right eu), s1n u u1]
/-- A settled slot, opened. -/
theorem Pt.still (h : Pt S t xs) (nd : (ids xs).Nodup) (ht : t ≠ 0) (hw : (S t).wa = 0) : ∃ xl xr, Pt S (S t).l xl ∧ Pt S (S t).r xr ∧ Nd S t xl xr xs ∧ xs = xl ++ (t, (S t).wt) :: xr ∧ Ap S t xl xr := by
  obtain ⟨xl, xr, p1, p2, h3⟩ := h.node ht
  refine ⟨xl, xr, p1, p2, h3, ?_, h3.ap nd⟩
  have := h3.eq
  rwa [hw, rz_zero, rz_zero] at this

/-- A slot that holds two parts, of which one may be higher by 2. -/
structure Held (S S' : Ss) (t l r : Nat) (xl xr : List It) : Prop where
  pl : Pt S' l xl
  pr : Pt S' r xr
  fl : (S' t).l = l
  fr : (S' t).r = r
  wa : (S' t).wa = 0
  wt : (S' t).wt = (S t).wt
  h : (S' t).h = 1 + max (S l).h (S r).h
  sm : (S' t).sm = smL (xl ++ (t, (S t).wt) :: xr)
  hs : ∀ u, u ≠ t → (S' u).h = (S u).h
  ul : l ≠ 0 → (S' l).up = t
  ur : r ≠ 0 → (S' r).up = t
  off : ∀ u, u ≠ t → u ∉ ids xl → u ∉ ids xr → S' u = S u
  z : Z S'
theorem setUp_ne (h : u ≠ c) : setUp S c t u = S u := by
  unfold setUp; split
  · rfl
  · exact upd_ne _ _ h
theorem setUp_bt : Bt (setUp S c t u) (S u) := by
  by_cases e : u = c
  · subst e; unfold setUp; split
    · exact Bt.refl _
    · rw [upd_same]; exact ⟨rfl, rfl, rfl, rfl, rfl, rfl⟩
  · rw [setUp_ne e]; exact Bt.refl _
theorem setUp_up (h : c ≠ 0) : (setUp S c t c).up = t := by simp [setUp, h, upd_same]
theorem hold_ok {l r : Nat} (p1 : Pt S l xl) (p2 : Pt S r xr) (z : Z S) (ht : t ≠ 0) (ap : Ap S t xl xr) (hw : (S t).wa = 0) : Held S (holdS S t l r) t l r xl xr := by
  have el := p1.top_ne ht ap.tl
  have er := p2.top_ne ht ap.tr
  have hlr : l ≠ 0 → l ≠ r := fun h0 e => ap.lr _ (p1.mem h0) (by
    have h1 : r ≠ 0 := e ▸ h0
    rw [e]; exact p2.mem h1)
  generalize hS1 : upd S t { S t with l := l, r := r } = S1
  have s1t : S1 t = { S t with l := l, r := r } := by rw [← hS1, upd_same]
  have s1n : ∀ u, u ≠ t → S1 u = S u := fun u hu => by rw [← hS1, upd_ne _ _ hu]
  generalize hS2 : setUp (setUp S1 l t) r t = S2
  have s2t : S2 t = { S t with l := l, r := r } := by rw [← hS2, setUp_ne er.symm, setUp_ne el.symm, s1t]
  have s2b : ∀ u, u ≠ t → Bt (S2 u) (S u) := fun u hu => by
    have k1 := setUp_bt (S := setUp S1 l t) (c := r) (t := t) (u := u)
    have k2 := setUp_bt (S := S1) (c := l) (t := t) (u := u)
    rw [hS2] at k1
    rw [s1n u hu] at k2
    exact ⟨k1.1.trans k2.1, k1.2.1.trans k2.2.1, k1.2.2.1.trans k2.2.2.1, k1.2.2.2.1.trans k2.2.2.2.1, k1.2.2.2.2.1.trans k2.2.2.2.2.1, k1.2.2.2.2.2.trans k2.2.2.2.2.2⟩
  have s2n : ∀ u, u ≠ t → u ≠ l → u ≠ r → S2 u = S u := fun u h1 h2 h3 => by rw [← hS2, setUp_ne h3, setUp_ne h2, s1n u h1]
  have s20 : S2 0 = S 0 := by
    have h0 : (0 : Nat) ≠ t := fun e => ht e.symm
    by_cases e1 : l = 0
    · by_cases e2 : r = 0
      · rw [← hS2]; simp [setUp, e1, e2, s1n 0 h0]
      · rw [← hS2, setUp_ne (fun e => e2 e.symm), setUp, if_pos e1, s1n 0 h0]
    · by_cases e2 : r = 0
      · rw [← hS2, setUp, if_pos e2, setUp_ne (fun e => e1 e.symm), s1n 0 h0]
      · exact s2n 0 h0 (fun e => e1 e.symm) (fun e => e2 e.symm)
  generalize hS3 : holdS S t l r = S3
  have e3 : S3 = gatherS S2 t := by rw [← hS3, holdS, hS1, hS2]
  have s3n : ∀ u, u ≠ t → S3 u = S2 u := fun u hu => by rw [e3, gatherS, upd_ne _ _ hu]
  have b2l : Bt (S2 l) (S l) := s2b l el
  have b2r : Bt (S2 r) (S r) := s2b r er
  have s3t : S3 t = { S t with l := l, r := r, h := 1 + max (S l).h (S r).h, sm := jn (jn (S l).sm (one (S t).wt)) (S r).sm } := by
    rw [e3, gatherS, upd_same, s2t]; dsimp only
    rw [b2l.2.2.1, b2r.2.2.1, b2l.2.2.2.2.2, b2r.2.2.2.2.2]
  have z3 : S3 0 = S 0 := by rw [s3n 0 (fun e => ht e.symm), s20]
  refine ⟨?_, ?_, by rw [s3t], by rw [s3t], by rw [s3t]; exact hw, by rw [s3t], by rw [s3t], ?_, fun u hu => by rw [s3n u hu]; exact (s2b u hu).2.2.1, ?_, ?_, ?_, ?_⟩
  · refine p1.congr z3 ap.nl (fun u hu hul => ?_) (by rw [s3n l el]; exact b2l)
    have u1 : u ≠ t := fun e => ap.tl (e ▸ hu)
    rw [s3n u u1]
    refine s2n u u1 hul (fun e => ?_)
    by_cases e0 : r = 0
    · exact p1.ne0 u hu (e.trans e0)
    · exact ap.lr u hu (e ▸ p2.mem e0)
  · refine p2.congr z3 ap.nr (fun u hu hul => ?_) (by rw [s3n r er]; exact b2r)
    have u1 : u ≠ t := fun e => ap.tr (e ▸ hu)
    rw [s3n u u1]
    refine s2n u u1 (fun e => ?_) hul
    by_cases e0 : l = 0
    · exact p2.ne0 u hu (e.trans e0)
    · exact ap.lr u (e ▸ p1.mem e0) hu
  · rw [s3t]; dsimp only
    rw [p1.sm z, p2.sm z, smL_append, smL_cons, jn_assoc (smL_ok _) (ok_one _) (smL_ok _)]
  · intro h0
    rw [s3n l el, ← hS2, setUp_ne (hlr h0), setUp_up h0]
  · intro h0
    rw [s3n r er, ← hS2, setUp_up h0]
  · intro u h1 h2 h3
    rw [s3n u h1]
    by_cases u0 : u = 0
    · subst u0; exact s20
    · refine s2n u h1 (fun e => ?_) (fun e => ?_)
      · exact h2 (e ▸ p1.mem (e ▸ u0))
      · exact h3 (e ▸ p2.mem (e ▸ u0))
  · unfold Z; rw [z3]; exact z
/-- If neither side is too high, it is a part. -/
theorem Held.pt {l r : Nat} (h : Held S S' t l r xl xr) (ht : t ≠ 0) (ap : Ap S t xl xr) (p1 : Pt S l xl) (p2 : Pt S r xr) (b1 : (S l).h ≤ (S r).h + 1) (b2 : (S r).h ≤ (S l).h + 1) (hf : -1099511627776 ≤ (S t).wt ∧ (S t).wt ≤ 1099511627776) : Pt S' t (xl ++ (t, (S t).wt) :: xr) := by
  have el := p1.top_ne ht ap.tl
  have er := p2.top_ne ht ap.tr
  refine Pt.mk (xl := xl) (xr := xr) (by rw [h.fl]; exact h.pl) (by rw [h.fr]; exact h.pr) ⟨ht, ?_, ?_, ?_, ?_, h.sm, ?_, ?_, ?_, ?_⟩
  · rw [h.wa, rz_zero, rz_zero, h.wt]
  · rw [h.fl, h.fr, h.hs _ el, h.hs _ er]; exact h.h
  · rw [h.fl, h.fr, h.hs _ el, h.hs _ er]; exact b1
  · rw [h.fl, h.fr, h.hs _ el, h.hs _ er]; exact b2
  · rw [FitL.append, FitL.cons]; exact ⟨p1.fit, hf, p2.fit⟩
  · rw [h.fl]; exact h.ul
  · rw [h.fr]; exact h.ur
  · intro _ _; exact h.wa
end
end Go.Proofs.Ytkfboficcdiojaa

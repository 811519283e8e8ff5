/- Plain facts on turning slots. -/
import Derived.Test.YtkfboficcdiojaaK2
namespace Go.Proofs.Ytkfboficcdiojaa

/-- A slot at which nothing waits, with its two parts; one side may be too high. -/
structure Hb (S : Ss) (t : Nat) (xl xr : List It) : Prop where
  ne : t ≠ 0
  wa : (S t).wa = 0
  pl : Pt S (S t).l xl
  pr : Pt S (S t).r xr
  h : (S t).h = 1 + max (S (S t).l).h (S (S t).r).h
  sm : (S t).sm = smL (xl ++ (t, (S t).wt) :: xr)
  ul : (S t).l ≠ 0 → (S (S t).l).up = t
  ur : (S t).r ≠ 0 → (S (S t).r).up = t
  nd : (ids xl ++ t :: ids xr).Nodup
  ft : -1099511627776 ≤ (S t).wt ∧ (S t).wt ≤ 1099511627776
  z : Z S

section
variable {S S' S0 S1 S2 S3 : Ss} {t a c u n m l r : Nat} {xs ys xl xr x1 x2 x3 : List It}
theorem ap_of (nd : (ids xl ++ t :: ids xr).Nodup) : Ap S t xl xr := by
  rw [List.nodup_append] at nd
  obtain ⟨n1, n2, n3⟩ := nd
  rw [List.nodup_cons] at n2
  exact ⟨n1, n2.2, fun hm => n3 t hm t (by simp) rfl, n2.1, fun u hu hr => n3 u hu u (by simp [hr]) rfl⟩
theorem Ap.nd (h : Ap S t xl xr) : (ids xl ++ t :: ids xr).Nodup := by
  rw [List.nodup_append]
  refine ⟨h.nl, List.nodup_cons.2 ⟨h.tr, h.nr⟩, fun u hu v hv e => ?_⟩
  subst e
  rcases List.mem_cons.1 hv with h' | h'
  · exact h.tl (h' ▸ hu)
  · exact h.lr u hu h'
theorem Held.hb (h : Held S S' t l r xl xr) (ht : t ≠ 0) (p1 : Pt S l xl) (p2 : Pt S r xr) (ap : Ap S t xl xr) (ft : -1099511627776 ≤ (S t).wt ∧ (S t).wt ≤ 1099511627776) : Hb S' t xl xr := by
  have el := p1.top_ne ht ap.tl
  have er := p2.top_ne ht ap.tr
  exact ⟨ht, h.wa, by rw [h.fl]; exact h.pl, by rw [h.fr]; exact h.pr, by rw [h.fl, h.fr, h.hs _ el, h.hs _ er]; exact h.h, by rw [h.wt]; exact h.sm, by rw [h.fl]; exact h.ul, by rw [h.fr]; exact h.ur, ap.nd, by rw [h.wt]; exact ft, h.z⟩
theorem Hb.fit (h : Hb S t xl xr) : FitL (xl ++ (t, (S t).wt) :: xr) := by
  rw [FitL.append, FitL.cons]; exact ⟨h.pl.fit, h.ft, h.pr.fit⟩
theorem Hb.pt (h : Hb S t xl xr) (b1 : (S (S t).l).h ≤ (S (S t).r).h + 1) (b2 : (S (S t).r).h ≤ (S (S t).l).h + 1) : Pt S t (xl ++ (t, (S t).wt) :: xr) :=
  Pt.mk h.pl h.pr ⟨h.ne, by rw [h.wa, rz_zero, rz_zero], h.h, b1, b2, h.sm, h.fit, h.ul, h.ur, fun _ _ => h.wa⟩

/-- What balancing leaves: the same items, as high or lower by 1. -/
structure Bal (S S' : Ss) (t t' : Nat) (xs : List It) : Prop where
  pt : Pt S' t' xs
  ne : t' ≠ 0
  lo : (S' t').h ≤ (S t).h
  hi : (S t).h ≤ (S' t').h + 1
  off : ∀ u, u ∉ ids xs → S' u = S u
  z : Z S'

/-- What a turn leaves. -/
structure Turned (S1 S3 : Ss) (a : Nat) (l r : Nat) (y1 y2 : List It) (hl hr : Nat) : Prop where
  hb : Hb S3 a y1 y2
  fl : (S3 a).l = l
  fr : (S3 a).r = r
  wt : (S3 a).wt = (S1 a).wt
  hl : (S3 l).h = hl
  hr : (S3 r).h = hr
  off : ∀ u, u ∉ ids y1 → u ≠ a → u ∉ ids y2 → S3 u = S1 u
theorem turnedR (H1 : Held S1 S2 t (S1 a).r (S1 t).r x2 x3) (H2 : Held S2 S3 a (S1 a).l t x1 (x2 ++ (t, (S1 t).wt) :: x3)) (e1 : (S2 a).wt = (S1 a).wt) (hh : (S2 (S1 a).l).h = (S1 (S1 a).l).h) (Q : Pt S2 t (x2 ++ (t, (S1 t).wt) :: x3))
    (p1 : Pt S1 (S1 a).l x1) (z : Z S1) (a0 : a ≠ 0) (nd : (ids x1 ++ a :: (ids x2 ++ t :: ids x3)).Nodup) (fa : -1099511627776 ≤ (S1 a).wt ∧ (S1 a).wt ≤ 1099511627776) :
    Turned S1 S3 a (S1 a).l t x1 (x2 ++ (t, (S1 t).wt) :: x3) (S1 (S1 a).l).h (1 + max (S1 (S1 a).r).h (S1 (S1 t).r).h) := by
  have ei : ids (x2 ++ (t, (S1 t).wt) :: x3) = ids x2 ++ t :: ids x3 := by rw [ids_append, ids_cons]
  have ap : Ap S2 a x1 (x2 ++ (t, (S1 t).wt) :: x3) := ap_of (by rw [ei]; exact nd)
  have r1 : Pt S2 (S1 a).l x1 := p1.frame (by rw [H1.z, z]) ap.nl (fun u hu => by
    have := ap.lr u hu
    rw [ei] at this
    simp only [List.mem_append, List.mem_cons, not_or] at this
    exact H1.off u this.2.1 this.1 this.2.2)
  have el : (S1 a).l ≠ a := r1.top_ne a0 ap.tl
  have er : t ≠ a := Q.top_ne a0 ap.tr
  refine ⟨H2.hb a0 r1 Q ap (by rw [e1]; exact fa), H2.fl, H2.fr, by rw [H2.wt, e1], by rw [H2.hs _ el, hh], by rw [H2.hs _ er, H1.h], fun u h1 h2 h3 => ?_⟩
  rw [H2.off u h2 h1 h3]
  rw [ei] at h3
  simp only [List.mem_append, List.mem_cons, not_or] at h3
  exact H1.off u h3.2.1 h3.1 h3.2.2
theorem turnedL (H1 : Held S1 S2 t (S1 t).l (S1 a).l x1 x2) (H2 : Held S2 S3 a t (S1 a).r (x1 ++ (t, (S1 t).wt) :: x2) x3) (e1 : (S2 a).wt = (S1 a).wt) (hh : (S2 (S1 a).r).h = (S1 (S1 a).r).h) (Q : Pt S2 t (x1 ++ (t, (S1 t).wt) :: x2))
    (p3 : Pt S1 (S1 a).r x3) (z : Z S1) (a0 : a ≠ 0) (nd : ((ids x1 ++ t :: ids x2) ++ a :: ids x3).Nodup) (fa : -1099511627776 ≤ (S1 a).wt ∧ (S1 a).wt ≤ 1099511627776) :
    Turned S1 S3 a t (S1 a).r (x1 ++ (t, (S1 t).wt) :: x2) x3 (1 + max (S1 (S1 t).l).h (S1 (S1 a).l).h) (S1 (S1 a).r).h := by
  have ei : ids (x1 ++ (t, (S1 t).wt) :: x2) = ids x1 ++ t :: ids x2 := by rw [ids_append, ids_cons]
  have ap : Ap S2 a (x1 ++ (t, (S1 t).wt) :: x2) x3 := ap_of (by rw [ei]; exact nd)
  have r1 : Pt S2 (S1 a).r x3 := p3.frame (by rw [H1.z, z]) ap.nr (fun u hu => by
    have : u ∉ ids (x1 ++ (t, (S1 t).wt) :: x2) := fun hm => ap.lr u hm hu
    rw [ei] at this
    simp only [List.mem_append, List.mem_cons, not_or] at this
    exact H1.off u this.2.1 this.1 this.2.2)
  have el : t ≠ a := Q.top_ne a0 ap.tl
  have er : (S1 a).r ≠ a := r1.top_ne a0 ap.tr
  refine ⟨H2.hb a0 Q r1 ap (by rw [e1]; exact fa), H2.fl, H2.fr, by rw [H2.wt, e1], by rw [H2.hs _ el, H1.h], by rw [H2.hs _ er, hh], fun u h1 h2 h3 => ?_⟩
  rw [H2.off u h2 h1 h3]
  rw [ei] at h1
  simp only [List.mem_append, List.mem_cons, not_or] at h1
  exact H1.off u h1.2.1 h1.1 h1.2.2

/-- Holding, where a part may be loose. -/
structure HoldW (S S' : Ss) (t l r : Nat) : Prop where
  at' : S' t = { S t with l := l, r := r, h := 1 + max (S l).h (S r).h, sm := jn (jn (S l).sm (one (S t).wt)) (S r).sm }
  bt : ∀ u, u ≠ t → Bt (S' u) (S u)
  off : ∀ u, u ≠ t → u ≠ l → u ≠ r → S' u = S u
  z : S' 0 = S 0
theorem holdw_ok (ht : t ≠ 0) (el : l ≠ t) (er : r ≠ t) : HoldW S (holdS S t l r) t l r := by
  generalize hS1 : upd S t { S t with l := l, r := r } = S1
  have s1t : S1 t = { S t with l := l, r := r } := by rw [← hS1, upd_same]
  have s1n : ∀ u, u ≠ t → S1 u = S u := fun u hu => by rw [← hS1, upd_ne _ _ hu]
  generalize hS2 : setUp (setUp S1 l t) r t = S2
  have s2t : S2 t = { S t with l := l, r := r } := by rw [← hS2, setUp_ne er.symm, setUp_ne el.symm, s1t]
  have s2b : ∀ u, u ≠ t → Bt (S2 u) (S u) := fun u hu => by
    have k1 := setUp_bt (S := setUp S1 l t) (c := r) (t := t) (u := u)
    have k2 := setUp_bt (S := S1) (c := l) (t := t) (u := u)
    rw [hS2] at k1
    rw [s1n u hu] at k2
    exact ⟨k1.1.trans k2.1, k1.2.1.trans k2.2.1, k1.2.2.1.trans k2.2.2.1, k1.2.2.2.1.trans k2.2.2.2.1, k1.2.2.2.2.1.trans k2.2.2.2.2.1, k1.2.2.2.2.2.trans k2.2.2.2.2.2⟩
  have s2n : ∀ u, u ≠ t → u ≠ l → u ≠ r → S2 u = S u := fun u h1 h2 h3 => by rw [← hS2, setUp_ne h3, setUp_ne h2, s1n u h1]
  have s20 : S2 0 = S 0 := by
    have h0 : (0 : Nat) ≠ t := fun e => ht e.symm
    by_cases e1 : l = 0
    · by_cases e2 : r = 0
      · rw [← hS2]; simp [setUp, e1, e2, s1n 0 h0]
      · rw [← hS2, setUp_ne (fun e => e2 e.symm), setUp, if_pos e1, s1n 0 h0]
    · by_cases e2 : r = 0
      · rw [← hS2, setUp, if_pos e2, setUp_ne (fun e => e1 e.symm), s1n 0 h0]
      · exact s2n 0 h0 (fun e => e1 e.symm) (fun e => e2 e.symm)
  generalize hS3 : holdS S t l r = S3
  have e3 : S3 = gatherS S2 t := by rw [← hS3, holdS, hS1, hS2]
  have s3n : ∀ u, u ≠ t → S3 u = S2 u := fun u hu => by rw [e3, gatherS, upd_ne _ _ hu]
  have b2l : Bt (S2 l) (S l) := s2b l el
  have b2r : Bt (S2 r) (S r) := s2b r er
  refine ⟨?_, fun u hu => by rw [s3n u hu]; exact s2b u hu, fun u h1 h2 h3 => by rw [s3n u h1]; exact s2n u h1 h2 h3, by rw [s3n 0 (fun e => ht e.symm)]; exact s20⟩
  rw [e3, gatherS, upd_same, s2t]; dsimp only
  rw [b2l.2.2.1, b2r.2.2.1, b2l.2.2.2.2.2, b2r.2.2.2.2.2]

/-- The left side is too high, and its own left side is no lower than its right one: what turning right wants, and gives. -/
structure PreR (S S1 : Ss) (t a : Nat) (x1 x2 xl xr : List It) : Prop where
  st : Settled S S1 a xl
  eq : xl = x1 ++ (a, (S1 a).wt) :: x2
  p1 : Pt S1 (S1 a).l x1
  p2 : Pt S1 (S1 a).r x2
  at' : S1 t = S t
  p3 : Pt S1 (S1 t).r xr
  a0 : a ≠ 0
  wa : (S1 a).wa = 0
  nd : (ids x1 ++ a :: (ids x2 ++ t :: ids xr)).Nodup
  fa : -1099511627776 ≤ (S1 a).wt ∧ (S1 a).wt ≤ 1099511627776
theorem Hb.preR (h : Hb S t xl xr) (a0 : (S t).l ≠ 0) : ∃ x1 x2, PreR S (settleS S (S t).l) t (S t).l x1 x2 xl xr := by
  have ap : Ap S t xl xr := ap_of h.nd
  have st := h.pl.settle h.z ap.nl a0
  have wa : (settleS S (S t).l (S t).l).wa = 0 := by rw [st.at']
  obtain ⟨x1, x2, p1, p2, nd, eq, ap2⟩ := st.pt.still ap.nl a0 wa
  have et : settleS S (S t).l t = S t := st.off t ap.tl
  refine ⟨x1, x2, st, eq, p1, p2, et, ?_, a0, wa, ?_, nd.fitl.2.2⟩
  · rw [et]
    exact h.pr.frame (by rw [st.z, h.z]) ap.nr (fun u hu => st.off u (fun hm => ap.lr u hm hu))
  · have := h.nd
    rw [eq, ids_append, ids_cons] at this
    simpa using this
/-- The mirror of it. -/
structure PreL (S S1 : Ss) (t a : Nat) (x2 x3 xl xr : List It) : Prop where
  st : Settled S S1 a xr
  eq : xr = x2 ++ (a, (S1 a).wt) :: x3
  p1 : Pt S1 (S1 t).l xl
  p2 : Pt S1 (S1 a).l x2
  at' : S1 t = S t
  p3 : Pt S1 (S1 a).r x3
  a0 : a ≠ 0
  wa : (S1 a).wa = 0
  nd : (ids xl ++ t :: (ids x2 ++ a :: ids x3)).Nodup
  fa : -1099511627776 ≤ (S1 a).wt ∧ (S1 a).wt ≤ 1099511627776
theorem Hb.preL (h : Hb S t xl xr) (a0 : (S t).r ≠ 0) : ∃ x2 x3, PreL S (settleS S (S t).r) t (S t).r x2 x3 xl xr := by
  have ap : Ap S t xl xr := ap_of h.nd
  have st := h.pr.settle h.z ap.nr a0
  have wa : (settleS S (S t).r (S t).r).wa = 0 := by rw [st.at']
  obtain ⟨x2, x3, p2, p3, nd, eq, ap2⟩ := st.pt.still ap.nr a0 wa
  have et : settleS S (S t).r t = S t := st.off t ap.tr
  refine ⟨x2, x3, st, eq, ?_, p2, et, p3, a0, wa, ?_, nd.fitl.2.2⟩
  · rw [et]
    exact h.pl.frame (by rw [st.z, h.z]) ap.nl (fun u hu => st.off u (fun hm => ap.lr u hu hm))
  · have := h.nd
    rw [eq, ids_append, ids_cons] at this
    simpa using this
end
end Go.Proofs.Ytkfboficcdiojaa

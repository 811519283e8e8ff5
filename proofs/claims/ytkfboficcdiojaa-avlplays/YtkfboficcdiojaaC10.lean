import Derived.Test.YtkfboficcdiojaaC9
namespace Go.Proofs.Ytkfboficcdiojaa
open Go.RowKit Go.Arb
set_option linter.unusedVariables false
set_option linter.unusedSimpArgs false

theorem Pool.drewN {w : World} {p g n cap room : Nat} {S : Ss} (h : Pool w p g n cap room S) (k : Nat) : Pool (w.drewN k) p g n cap room S := h.below (below_drewN (Below.refl _ _) k)
theorem keep_drewN {w : World} (ks : List Nat) (k : Nat) : Keep ks w (w.drewN k) := Keep.ofBelow (below_drewN (Below.refl _ _) k) ks

/-- What joining leaves. -/
structure Jd (S S' : Ss) (t' : Nat) (xs : List It) (h : Nat) : Prop where
  pt : Pt S' t' xs
  ne : t' ≠ 0
  lo : h ≤ (S' t').h
  hi : (S' t').h ≤ h + 1
  off : ∀ u, u ∉ ids xs → S' u = S u
  z : Z S'
def BetweenTo (p g n cap room : Nat) (t left right : Nat) (S : Ss) (xs : List It) (h : Nat) : Prop := ∀ W, Pool W p g n cap room S → Calls Try.prog 55 #[.pointer (some ⟨p, 0, none⟩), .int .i64 (left : Int), .int .i64 (t : Int), .int .i64 (right : Int)] W fun e w' => ∃ (t' : Nat) (S' : Ss), e = .returned (.int .i64 (t' : Int)) ∧ Pool w' p g n cap room S' ∧ Keep [g] W w' ∧ Jd S S' t' xs h

section
variable {S S1 S2 S3 S4 : Ss} {t l r m t' : Nat} {xl xr y1 y2 : List It}
/-- The left tree is the higher one: what lies ready behind its settling. -/
structure GoL (S S1 : Ss) (t l r : Nat) (y1 y2 xl xr : List It) : Prop where
  st : Settled S S1 l xl
  eq : xl = y1 ++ (l, (S1 l).wt) :: y2
  p1 : Pt S1 (S1 l).l y1
  p2 : Pt S1 (S1 l).r y2
  p3 : Pt S1 r xr
  at' : S1 t = S t
  ap : Ap S1 t y2 xr
  wl : (S1 l).wa = 0
  l0 : l ≠ 0
  nd : (ids y1 ++ l :: (ids y2 ++ t :: ids xr)).Nodup
  fl : -1099511627776 ≤ (S1 l).wt ∧ (S1 l).wt ≤ 1099511627776
  hr : (S1 r).h = (S r).h
  hk : (S l).h = 1 + max (S1 (S1 l).l).h (S1 (S1 l).r).h ∧ (S1 (S1 l).l).h ≤ (S1 (S1 l).r).h + 1 ∧ (S1 (S1 l).r).h ≤ (S1 (S1 l).l).h + 1
theorem goL (p1 : Pt S l xl) (p2 : Pt S r xr) (z : Z S) (ap : Ap S t xl xr) (l0 : l ≠ 0) : ∃ y1 y2, GoL S (settleS S l) t l r y1 y2 xl xr := by
  have st := p1.settle z ap.nl l0
  have wl : (settleS S l l).wa = 0 := by rw [st.at']
  obtain ⟨y1, y2, q1, q2, nd, eq, ap2⟩ := st.pt.still ap.nl l0 wl
  have hk := st.pt.nodeH l0
  rw [st.hh] at hk
  have ndd : (ids y1 ++ l :: (ids y2 ++ t :: ids xr)).Nodup := by
    have := ap.nd
    rw [eq, ids_append, ids_cons] at this
    simpa using this
  obtain ⟨d1, d2, d3, d4, d5, d6, d7, d8, d9, d10, d11, d12, d13, d14, d15⟩ := nodup5 ndd
  refine ⟨y1, y2, st, eq, q1, q2, p2.frame (by rw [st.z, z]) ap.nr (fun u hu => st.off u (fun hx => ap.lr u hx hu)), st.off t ap.tl, ⟨d2, d3, d8, d9, d13⟩, wl, l0, ndd, nd.fitl.2.2, st.hh r, hk⟩
theorem GoL.hold (h : GoL S S1 t l r y1 y2 xl xr) (j : Jd S1 S2 m (y2 ++ (t, (S1 t).wt) :: xr) (max (S1 (S1 l).r).h (S1 r).h)) :
    Pt S2 (S1 l).l y1 ∧ Ap S2 l y1 (y2 ++ (t, (S1 t).wt) :: xr) ∧ S2 l = S1 l ∧ (S2 (S1 l).l).h = (S1 (S1 l).l).h := by
  obtain ⟨d1, d2, d3, d4, d5, d6, d7, d8, d9, d10, d11, d12, d13, d14, d15⟩ := nodup5 h.nd
  have ei : ids (y2 ++ (t, (S1 t).wt) :: xr) = ids y2 ++ t :: ids xr := by rw [ids_append, ids_cons]
  have ap : Ap S2 l y1 (y2 ++ (t, (S1 t).wt) :: xr) := ap_of (by rw [ei]; exact h.nd)
  have q := h.p1.frame (S' := S2) (by rw [j.z, h.st.z]) d1 (fun u hu => j.off u (ap.lr u hu))
  refine ⟨q, ap, j.off l ap.tr, ?_⟩
  by_cases e0 : (S1 l).l = 0
  · rw [e0, j.z, h.st.z]
  · rw [j.off _ (ap.lr _ (h.p1.mem e0))]
theorem GoL.fin (h : GoL S S1 t l r y1 y2 xl xr) (hh : (S r).h + 1 < (S l).h) (j : Jd S1 S2 m (y2 ++ (t, (S1 t).wt) :: xr) (max (S1 (S1 l).r).h (S1 r).h)) (hd : Held S2 S3 l (S1 l).l m y1 (y2 ++ (t, (S1 t).wt) :: xr))
    (b : Bal S3 S4 l t' (y1 ++ (l, (S3 l).wt) :: (y2 ++ (t, (S1 t).wt) :: xr))) (bh : (S3 (S3 l).l).h ≤ (S3 (S3 l).r).h + 1 → (S3 (S3 l).r).h ≤ (S3 (S3 l).l).h + 1 → (S4 t').h = (S3 l).h) : Jd S S4 t' (xl ++ (t, (S t).wt) :: xr) (max (S l).h (S r).h) := by
  obtain ⟨q, ap, e1, e2⟩ := h.hold j
  have el := q.top_ne h.l0 ap.tl
  have er := j.pt.top_ne h.l0 ap.tr
  rw [hd.fl, hd.fr, hd.hs _ el, hd.hs _ er, e2] at bh
  have hdh := hd.h
  rw [e2] at hdh
  have eqx : xl ++ (t, (S t).wt) :: xr = y1 ++ (l, (S3 l).wt) :: (y2 ++ (t, (S1 t).wt) :: xr) := by rw [h.eq, hd.wt, e1, h.at']; simp
  obtain ⟨g1, g2, g3⟩ := h.hk
  have hr := h.hr
  have j1 := j.lo
  have j2 := j.hi
  have b1 := b.lo
  have b2 := b.hi
  refine ⟨by rw [eqx]; exact b.pt, b.ne, ?_, ?_, fun u hu => ?_, b.z⟩
  · by_cases c1 : (S1 (S1 l).l).h ≤ (S2 m).h + 1
    · by_cases c2 : (S2 m).h ≤ (S1 (S1 l).l).h + 1
      · have := bh c1 c2; omega
      · omega
    · omega
  · by_cases c1 : (S1 (S1 l).l).h ≤ (S2 m).h + 1
    · by_cases c2 : (S2 m).h ≤ (S1 (S1 l).l).h + 1
      · have := bh c1 c2; omega
      · omega
    · omega
  · rw [eqx] at hu
    rw [b.off u hu]
    rw [ids_append, ids_cons] at hu
    simp only [List.mem_append, List.mem_cons, not_or] at hu
    rw [hd.off u hu.2.1 hu.1 hu.2.2, j.off u hu.2.2]
    refine h.st.off u ?_
    have hu2 := hu.2.2
    rw [ids_append, ids_cons] at hu2
    simp only [List.mem_append, List.mem_cons, not_or] at hu2
    rw [h.eq, ids_append, ids_cons]
    simp [hu.1, hu.2.1, hu2.1]
/-- The mirror of it. -/
structure GoR (S S1 : Ss) (t l r : Nat) (y1 y2 xl xr : List It) : Prop where
  st : Settled S S1 r xr
  eq : xr = y1 ++ (r, (S1 r).wt) :: y2
  p1 : Pt S1 l xl
  p2 : Pt S1 (S1 r).l y1
  p3 : Pt S1 (S1 r).r y2
  at' : S1 t = S t
  ap : Ap S1 t xl y1
  wl : (S1 r).wa = 0
  l0 : r ≠ 0
  nd : (ids xl ++ t :: (ids y1 ++ r :: ids y2)).Nodup
  fl : -1099511627776 ≤ (S1 r).wt ∧ (S1 r).wt ≤ 1099511627776
  hr : (S1 l).h = (S l).h
  hk : (S r).h = 1 + max (S1 (S1 r).l).h (S1 (S1 r).r).h ∧ (S1 (S1 r).l).h ≤ (S1 (S1 r).r).h + 1 ∧ (S1 (S1 r).r).h ≤ (S1 (S1 r).l).h + 1
theorem goR (p1 : Pt S l xl) (p2 : Pt S r xr) (z : Z S) (ap : Ap S t xl xr) (l0 : r ≠ 0) : ∃ y1 y2, GoR S (settleS S r) t l r y1 y2 xl xr := by
  have st := p2.settle z ap.nr l0
  have wl : (settleS S r r).wa = 0 := by rw [st.at']
  obtain ⟨y1, y2, q1, q2, nd, eq, ap2⟩ := st.pt.still ap.nr l0 wl
  have hk := st.pt.nodeH l0
  rw [st.hh] at hk
  have ndd : (ids xl ++ t :: (ids y1 ++ r :: ids y2)).Nodup := by
    have := ap.nd
    rw [eq, ids_append, ids_cons] at this
    simpa using this
  obtain ⟨d1, d2, d3, d4, d5, d6, d7, d8, d9, d10, d11, d12, d13, d14, d15⟩ := nodup5l ndd
  refine ⟨y1, y2, st, eq, p1.frame (by rw [st.z, z]) ap.nl (fun u hu => st.off u (fun hx => ap.lr u hu hx)), q1, q2, st.off t ap.tr, ⟨d1, d2, d7, d8, d11⟩, wl, l0, ndd, nd.fitl.2.2, st.hh l, hk⟩
theorem GoR.hold (h : GoR S S1 t l r y1 y2 xl xr) (j : Jd S1 S2 m (xl ++ (t, (S1 t).wt) :: y1) (max (S1 l).h (S1 (S1 r).l).h)) :
    Pt S2 (S1 r).r y2 ∧ Ap S2 r (xl ++ (t, (S1 t).wt) :: y1) y2 ∧ S2 r = S1 r ∧ (S2 (S1 r).r).h = (S1 (S1 r).r).h := by
  obtain ⟨d1, d2, d3, d4, d5, d6, d7, d8, d9, d10, d11, d12, d13, d14, d15⟩ := nodup5l h.nd
  have ei : ids (xl ++ (t, (S1 t).wt) :: y1) = ids xl ++ t :: ids y1 := by rw [ids_append, ids_cons]
  have ap : Ap S2 r (xl ++ (t, (S1 t).wt) :: y1) y2 := ap_of (by rw [ei]; have := h.nd; simpa using this)
  have q := h.p3.frame (S' := S2) (by rw [j.z, h.st.z]) d3 (fun u hu => j.off u (fun hx => ap.lr u hx hu))
  refine ⟨q, ap, j.off r ap.tl, ?_⟩
  by_cases e0 : (S1 r).r = 0
  · rw [e0, j.z, h.st.z]
  · rw [j.off _ (fun hx => ap.lr _ hx (h.p3.mem e0))]
theorem GoR.fin (h : GoR S S1 t l r y1 y2 xl xr) (hh : (S l).h + 1 < (S r).h) (j : Jd S1 S2 m (xl ++ (t, (S1 t).wt) :: y1) (max (S1 l).h (S1 (S1 r).l).h)) (hd : Held S2 S3 r m (S1 r).r (xl ++ (t, (S1 t).wt) :: y1) y2)
    (b : Bal S3 S4 r t' ((xl ++ (t, (S1 t).wt) :: y1) ++ (r, (S3 r).wt) :: y2)) (bh : (S3 (S3 r).l).h ≤ (S3 (S3 r).r).h + 1 → (S3 (S3 r).r).h ≤ (S3 (S3 r).l).h + 1 → (S4 t').h = (S3 r).h) : Jd S S4 t' (xl ++ (t, (S t).wt) :: xr) (max (S l).h (S r).h) := by
  obtain ⟨q, ap, e1, e2⟩ := h.hold j
  have el := q.top_ne h.l0 ap.tr
  have er := j.pt.top_ne h.l0 ap.tl
  rw [hd.fl, hd.fr, hd.hs _ el, hd.hs _ er, e2] at bh
  have hdh := hd.h
  rw [e2] at hdh
  have eqx : xl ++ (t, (S t).wt) :: xr = (xl ++ (t, (S1 t).wt) :: y1) ++ (r, (S3 r).wt) :: y2 := by rw [h.eq, hd.wt, e1, h.at']; simp
  obtain ⟨g1, g2, g3⟩ := h.hk
  have hr := h.hr
  have j1 := j.lo
  have j2 := j.hi
  have b1 := b.lo
  have b2 := b.hi
  refine ⟨by rw [eqx]; exact b.pt, b.ne, ?_, ?_, fun u hu => ?_, b.z⟩
  · by_cases c1 : (S2 m).h ≤ (S1 (S1 r).r).h + 1
    · by_cases c2 : (S1 (S1 r).r).h ≤ (S2 m).h + 1
      · have := bh c1 c2; omega
      · omega
    · omega
  · by_cases c1 : (S2 m).h ≤ (S1 (S1 r).r).h + 1
    · by_cases c2 : (S1 (S1 r).r).h ≤ (S2 m).h + 1
      · have := bh c1 c2; omega
      · omega
    · omega
  · rw [eqx] at hu
    rw [b.off u hu]
    rw [ids_append, ids_cons] at hu
    simp only [List.mem_append, List.mem_cons, not_or] at hu
    rw [hd.off u hu.2.1 hu.1 hu.2.2, j.off u hu.1]
    refine h.st.off u ?_
    have hu2 := hu.1
    rw [ids_append, ids_cons] at hu2
    simp only [List.mem_append, List.mem_cons, not_or] at hu2
    rw [h.eq, ids_append, ids_cons]
    simp [hu.2.1, hu.2.2, hu2.2.2]
end
end Go.Proofs.Ytkfboficcdiojaa

/- Plain facts on turning twice. -/
import Derived.Test.YtkfboficcdiojaaK3
namespace Go.Proofs.Ytkfboficcdiojaa

section
variable {S S' S0 S1 S2 S3 S4 : Ss} {t a c u n m l r : Nat} {xs ys xl xr x1 x2 x3 y1 y2 : List It}
theorem Bt.h {x y : Sl} (h : Bt x y) : x.h = y.h := h.2.2.1
/-- Between the two turns, the left side being too high. -/
structure MidR (S S3 S4 : Ss) (t m : Nat) (y1 y2 xr : List It) : Prop where
  z : Z S4
  tl : (S4 t).l = m
  tr : (S4 t).r = (S t).r
  wt : (S4 t).wa = 0
  wa : (S4 m).wa = 0
  p1 : Pt S4 (S4 m).l y1
  p2 : Pt S4 (S4 m).r y2
  p3 : Pt S4 (S4 t).r xr
  nd : (ids y1 ++ m :: (ids y2 ++ t :: ids xr)).Nodup
  ft : -1099511627776 ≤ (S4 t).wt ∧ (S4 t).wt ≤ 1099511627776
  fa : -1099511627776 ≤ (S4 m).wt ∧ (S4 m).wt ≤ 1099511627776
  h1 : (S4 (S4 m).l).h = (S3 (S3 m).l).h
  h2 : (S4 (S4 m).r).h = (S3 (S3 m).r).h
  h3 : (S4 (S4 t).r).h = (S (S t).r).h
  off : ∀ u, u ∉ ids y1 → u ≠ m → u ∉ ids y2 → u ≠ t → u ∉ ids xr → S4 u = S u
  wtt : (S4 t).wt = (S t).wt
  wtm : (S4 m).wt = (S3 m).wt
theorem Hb.midR (h : Hb S t xl xr) (hm : Hb S3 m y1 y2) (eq : xl = y1 ++ (m, (S3 m).wt) :: y2) (off : ∀ u, u ∉ ids xl → S3 u = S u) (hw : HoldW S3 S4 t m (S t).r) : MidR S S3 S4 t m y1 y2 xr := by
  have nd : (ids y1 ++ m :: (ids y2 ++ t :: ids xr)).Nodup := by
    have := h.nd
    rw [eq, ids_append, ids_cons] at this
    simpa using this
  have ap : Ap S t xl xr := ap_of h.nd
  have ap2 : Ap S3 m y1 y2 := ap_of hm.nd
  have e3t : S3 t = S t := off t ap.tl
  have sub1 : ∀ u ∈ ids y1, u ∈ ids xl := fun u hu => by rw [eq, ids_append]; simp [hu]
  have sub2 : ∀ u ∈ ids y2, u ∈ ids xl := fun u hu => by rw [eq, ids_append, ids_cons]; simp [hu]
  have subm : m ∈ ids xl := by rw [eq, ids_append, ids_cons]; simp
  have mt : m ≠ t := fun e => ap.tl (e ▸ subm)
  have cne : ∀ u ∈ ids xl, u ≠ (S t).r := fun u hu e => by
    by_cases e0 : (S t).r = 0
    · have : u ≠ 0 := by
        rw [eq, ids_append, ids_cons] at hu
        rcases List.mem_append.1 hu with h' | h'
        · exact hm.pl.ne0 u h'
        · rcases List.mem_cons.1 h' with h' | h'
          · rw [h']; exact hm.ne
          · exact hm.pr.ne0 u h'
      exact this (e.trans e0)
    · exact ap.lr u hu (e ▸ h.pr.mem e0)
  have m4 : Bt (S4 m) (S3 m) := hw.bt m mt
  have q1 : Pt S4 (S3 m).l y1 := hm.pl.frame hw.z ap2.nl (fun u hu => hw.off u (fun e => ap.tl (e ▸ sub1 u hu)) (fun e => ap2.tl (e ▸ hu)) (cne u (sub1 u hu)))
  have q2 : Pt S4 (S3 m).r y2 := hm.pr.frame hw.z ap2.nr (fun u hu => hw.off u (fun e => ap.tl (e ▸ sub2 u hu)) (fun e => ap2.tr (e ▸ hu)) (cne u (sub2 u hu)))
  have ct := h.pr.top_ne h.ne ap.tr
  have z3 : S3 0 = S 0 := by rw [hm.z, h.z]
  have q3' : Pt S3 (S t).r xr := h.pr.frame z3 ap.nr (fun u hu => off u (fun hx => ap.lr u hx hu))
  have q3 : Pt S4 (S t).r xr := q3'.congr hw.z ap.nr (fun u hu hc => hw.off u (fun e => ap.tr (e ▸ hu)) (fun e => ap.lr m subm (e ▸ hu)) hc) (hw.bt _ ct)
  have c3 : S3 (S t).r = S (S t).r := by
    by_cases e0 : (S t).r = 0
    · rw [e0, z3]
    · exact off _ (fun hx => ap.lr _ hx (h.pr.mem e0))
  have e4t := hw.at'
  have el1 : (S3 m).l ≠ t := fun e => by
    by_cases e0 : (S3 m).l = 0
    · exact h.ne (e ▸ e0)
    · exact ap.tl (e ▸ sub1 _ (hm.pl.mem e0))
  have el2 : (S3 m).r ≠ t := fun e => by
    by_cases e0 : (S3 m).r = 0
    · exact h.ne (e ▸ e0)
    · exact ap.tl (e ▸ sub2 _ (hm.pr.mem e0))
  refine ⟨?_, by rw [e4t], by rw [e4t], by rw [e4t, e3t]; exact h.wa, by rw [m4.2.2.2.2.1]; exact hm.wa, by rw [m4.1]; exact q1, by rw [m4.2.1]; exact q2, by rw [e4t]; exact q3, nd, by rw [e4t, e3t]; exact h.ft, by rw [m4.2.2.2.1]; exact hm.ft, ?_, ?_, ?_, ?_, by rw [e4t, e3t], m4.2.2.2.1⟩
  · unfold Z; rw [hw.z]; exact hm.z
  · rw [m4.1]; exact (hw.bt _ el1).h
  · rw [m4.2.1]; exact (hw.bt _ el2).h
  · rw [e4t]; dsimp only; rw [(hw.bt _ ct).h, c3]
  · intro u g1 g2 g3 g4 g5
    have hx : u ∉ ids xl := by rw [eq, ids_append, ids_cons]; simp [g1, g2, g3]
    by_cases e : u = (S t).r
    · by_cases e0 : (S t).r = 0
      · rw [e, e0, hw.z, z3]
      · exact absurd (e ▸ h.pr.mem e0) g5
    · rw [hw.off u g4 g2 e, off u hx]
/-- The mirror of it. -/
structure MidL (S S3 S4 : Ss) (t m : Nat) (y1 y2 xl : List It) : Prop where
  z : Z S4
  tl : (S4 t).l = (S t).l
  tr : (S4 t).r = m
  wt : (S4 t).wa = 0
  wa : (S4 m).wa = 0
  p1 : Pt S4 (S4 t).l xl
  p2 : Pt S4 (S4 m).l y1
  p3 : Pt S4 (S4 m).r y2
  nd : (ids xl ++ t :: (ids y1 ++ m :: ids y2)).Nodup
  ft : -1099511627776 ≤ (S4 t).wt ∧ (S4 t).wt ≤ 1099511627776
  fa : -1099511627776 ≤ (S4 m).wt ∧ (S4 m).wt ≤ 1099511627776
  h1 : (S4 (S4 t).l).h = (S (S t).l).h
  h2 : (S4 (S4 m).l).h = (S3 (S3 m).l).h
  h3 : (S4 (S4 m).r).h = (S3 (S3 m).r).h
  off : ∀ u, u ∉ ids y1 → u ≠ m → u ∉ ids y2 → u ≠ t → u ∉ ids xl → S4 u = S u
  wtt : (S4 t).wt = (S t).wt
  wtm : (S4 m).wt = (S3 m).wt
theorem Hb.midL (h : Hb S t xl xr) (hm : Hb S3 m y1 y2) (eq : xr = y1 ++ (m, (S3 m).wt) :: y2) (off : ∀ u, u ∉ ids xr → S3 u = S u) (hw : HoldW S3 S4 t (S t).l m) : MidL S S3 S4 t m y1 y2 xl := by
  have nd : (ids xl ++ t :: (ids y1 ++ m :: ids y2)).Nodup := by
    have := h.nd
    rw [eq, ids_append, ids_cons] at this
    simpa using this
  have ap : Ap S t xl xr := ap_of h.nd
  have ap2 : Ap S3 m y1 y2 := ap_of hm.nd
  have e3t : S3 t = S t := off t ap.tr
  have sub1 : ∀ u ∈ ids y1, u ∈ ids xr := fun u hu => by rw [eq, ids_append]; simp [hu]
  have sub2 : ∀ u ∈ ids y2, u ∈ ids xr := fun u hu => by rw [eq, ids_append, ids_cons]; simp [hu]
  have subm : m ∈ ids xr := by rw [eq, ids_append, ids_cons]; simp
  have mt : m ≠ t := fun e => ap.tr (e ▸ subm)
  have cne : ∀ u ∈ ids xr, u ≠ (S t).l := fun u hu e => by
    by_cases e0 : (S t).l = 0
    · have : u ≠ 0 := by
        rw [eq, ids_append, ids_cons] at hu
        rcases List.mem_append.1 hu with h' | h'
        · exact hm.pl.ne0 u h'
        · rcases List.mem_cons.1 h' with h' | h'
          · rw [h']; exact hm.ne
          · exact hm.pr.ne0 u h'
      exact this (e.trans e0)
    · exact ap.lr u (e ▸ h.pl.mem e0) hu
  have m4 : Bt (S4 m) (S3 m) := hw.bt m mt
  have q1 : Pt S4 (S3 m).l y1 := hm.pl.frame hw.z ap2.nl (fun u hu => hw.off u (fun e => ap.tr (e ▸ sub1 u hu)) (cne u (sub1 u hu)) (fun e => ap2.tl (e ▸ hu)))
  have q2 : Pt S4 (S3 m).r y2 := hm.pr.frame hw.z ap2.nr (fun u hu => hw.off u (fun e => ap.tr (e ▸ sub2 u hu)) (cne u (sub2 u hu)) (fun e => ap2.tr (e ▸ hu)))
  have ct := h.pl.top_ne h.ne ap.tl
  have z3 : S3 0 = S 0 := by rw [hm.z, h.z]
  have q3' : Pt S3 (S t).l xl := h.pl.frame z3 ap.nl (fun u hu => off u (fun hx => ap.lr u hu hx))
  have q3 : Pt S4 (S t).l xl := q3'.congr hw.z ap.nl (fun u hu hc => hw.off u (fun e => ap.tl (e ▸ hu)) hc (fun e => ap.lr u hu (e ▸ subm))) (hw.bt _ ct)
  have c3 : S3 (S t).l = S (S t).l := by
    by_cases e0 : (S t).l = 0
    · rw [e0, z3]
    · exact off _ (fun hx => ap.lr _ (h.pl.mem e0) hx)
  have e4t := hw.at'
  have el1 : (S3 m).l ≠ t := fun e => by
    by_cases e0 : (S3 m).l = 0
    · exact h.ne (e ▸ e0)
    · exact ap.tr (e ▸ sub1 _ (hm.pl.mem e0))
  have el2 : (S3 m).r ≠ t := fun e => by
    by_cases e0 : (S3 m).r = 0
    · exact h.ne (e ▸ e0)
    · exact ap.tr (e ▸ sub2 _ (hm.pr.mem e0))
  refine ⟨?_, by rw [e4t], by rw [e4t], by rw [e4t, e3t]; exact h.wa, by rw [m4.2.2.2.2.1]; exact hm.wa, by rw [e4t]; exact q3, by rw [m4.1]; exact q1, by rw [m4.2.1]; exact q2, nd, by rw [e4t, e3t]; exact h.ft, by rw [m4.2.2.2.1]; exact hm.ft, ?_, ?_, ?_, ?_, by rw [e4t, e3t], m4.2.2.2.1⟩
  · unfold Z; rw [hw.z]; exact hm.z
  · rw [e4t]; dsimp only; rw [(hw.bt _ ct).h, c3]
  · rw [m4.1]; exact (hw.bt _ el1).h
  · rw [m4.2.1]; exact (hw.bt _ el2).h
  · intro u g1 g2 g3 g4 g5
    have hx : u ∉ ids xr := by rw [eq, ids_append, ids_cons]; simp [g1, g2, g3]
    by_cases e : u = (S t).l
    · by_cases e0 : (S t).l = 0
      · rw [e, e0, hw.z, z3]
      · exact absurd (e ▸ h.pl.mem e0) g5
    · rw [hw.off u g4 e g2, off u hx]
end
end Go.Proofs.Ytkfboficcdiojaa

/- Plain facts on raising some places. -/
import Derived.Test.YtkfboficcdiojaaK6
namespace Go.Proofs.Ytkfboficcdiojaa

/-- The places from f on to below e raised by d. -/
def rrL (f e d : Int) : List It → List It
  | [] => []
  | x :: xs => (if f ≤ 0 ∧ 0 < e then (x.1, x.2 + d) else x) :: rrL (f - 1) (e - 1) d xs
section
variable {f e d c : Int} {xs ys : List It}
theorem rrL_length (f e d : Int) (xs : List It) : (rrL f e d xs).length = xs.length := by
  induction xs generalizing f e with
  | nil => rfl
  | cons x xs ih => simp [rrL, ih]
theorem rrL_ids (f e d : Int) (xs : List It) : ids (rrL f e d xs) = ids xs := by
  induction xs generalizing f e with
  | nil => rfl
  | cons x xs ih =>
    rw [rrL, ids_cons, ids_cons, ih]
    split <;> rfl
theorem rrL_append (f e d : Int) (xs ys : List It) : rrL f e d (xs ++ ys) = rrL f e d xs ++ rrL (f - xs.length) (e - xs.length) d ys := by
  induction xs generalizing f e with
  | nil => simp [rrL]
  | cons x xs ih =>
    rw [List.cons_append, rrL, ih, rrL, List.cons_append]
    congr 2
    simp only [List.length_cons]
    congr 1 <;> omega
theorem rrL_all (h1 : f ≤ 0) (h2 : (xs.length : Int) ≤ e) : rrL f e d xs = rz d xs := by
  induction xs generalizing f e with
  | nil => rfl
  | cons x xs ih =>
    simp only [List.length_cons] at h2
    rw [rrL, if_pos (by omega), ih (by omega) (by omega), rz_cons]
theorem rrL_none (h : (xs.length : Int) ≤ f ∨ e ≤ 0) : rrL f e d xs = xs := by
  induction xs generalizing f e with
  | nil => rfl
  | cons x xs ih =>
    simp only [List.length_cons] at h
    rw [rrL, if_neg (by omega), ih (by omega)]
theorem rrL_rz (f e d c : Int) (xs : List It) : rrL f e d (rz c xs) = rz c (rrL f e d xs) := by
  induction xs generalizing f e with
  | nil => rfl
  | cons x xs ih =>
    rw [rz_cons, rrL, ih, rrL, rz_cons]
    congr 1
    split
    · dsimp only; congr 1; omega
    · rfl
theorem rrL_cons (x : It) (f e d : Int) (xs : List It) : rrL f e d (x :: xs) = (if f ≤ 0 ∧ 0 < e then (x.1, x.2 + d) else x) :: rrL (f - 1) (e - 1) d xs := rfl
theorem FitL.rr_part (h : FitL (rrL f e d xs)) {ys : List It} (hy : ∀ y ∈ ys, y ∈ rrL f e d xs) : FitL ys := fun y hy' => h y (hy y hy')
end

/-- What raising places of a part leaves. -/
structure Rg (S S' : Ss) (t : Nat) (xs xs' : List It) : Prop where
  pt : Pt S' t xs'
  sh : ∀ u, (S' u).h = (S u).h ∧ (S' u).up = (S u).up ∧ (S' u).l = (S u).l ∧ (S' u).r = (S u).r
  off : ∀ u, u ∉ ids xs → S' u = S u
  z : Z S'
theorem Rg.refl {S : Ss} {t : Nat} {xs : List It} (h : Pt S t xs) (z : Z S) : Rg S S t xs xs := ⟨h, fun _ => ⟨rfl, rfl, rfl, rfl⟩, fun _ _ => rfl, z⟩
theorem Rg.raise {S : Ss} {t : Nat} {d : Int} {xs : List It} (h : Pt S t xs) (z : Z S) (nd : (ids xs).Nodup) (hf : FitL (rz d xs)) : Rg S (raiseS S t d) t xs (rz d xs) := by
  refine ⟨h.raise z nd hf, fun u => raiseS_h, fun u hu => ?_, raiseS_z z⟩
  by_cases e : u = t
  · subst e
    by_cases e0 : u = 0
    · subst e0; simp [raiseS]
    · exact absurd (h.mem e0) hu
  · exact raiseS_ne e

/-- Both parts of a settled slot raised. -/
structure R2 (S1 S3 : Ss) (t : Nat) (xl xr yl yr : List It) : Prop where
  pl : Pt S3 (S1 t).l yl
  pr : Pt S3 (S1 t).r yr
  at' : S3 t = S1 t
  sh : ∀ u, (S3 u).h = (S1 u).h ∧ (S3 u).up = (S1 u).up ∧ (S3 u).l = (S1 u).l ∧ (S3 u).r = (S1 u).r
  off : ∀ u, u ∉ ids xl → u ∉ ids xr → S3 u = S1 u
  z : Z S3
section
variable {S1 S2 S3 : Ss} {t : Nat} {xl xr xs yl yr : List It}
theorem R2.mk' (ap : Ap S1 t xl xr) (p2 : Pt S1 (S1 t).r xr) (h1 : Rg S1 S2 (S1 t).l xl yl) (z : Z S1) : Pt S2 (S1 t).r xr ∧ (Rg S2 S3 (S1 t).r xr yr → ids yl = ids xl → R2 S1 S3 t xl xr yl yr) := by
  have q := p2.frame (S' := S2) (by rw [h1.z, z]) ap.nr (fun u hu => h1.off u (fun hx => ap.lr u hx hu))
  refine ⟨q, fun h2 e => ?_⟩
  refine ⟨h1.pt.frame (by rw [h2.z, h1.z]) (by rw [e]; exact ap.nl) (fun u hu => h2.off u (by rw [e] at hu; exact ap.lr u hu)), h2.pt, by rw [h2.off t ap.tr, h1.off t ap.tl], fun u => ?_, fun u g1 g2 => by rw [h2.off u g2, h1.off u g1], h2.z⟩
  have a := h2.sh u
  have b := h1.sh u
  exact ⟨a.1.trans b.1, a.2.1.trans b.2.1, a.2.2.1.trans b.2.2.1, a.2.2.2.trans b.2.2.2⟩
/-- The slot's own weight, and its sum. -/
theorem R2.fin {c : Int} (h : R2 S1 S3 t xl xr yl yr) (nd : Nd S1 t xl xr xs) (ap : Ap S1 t xl xr) (wt : (S1 t).wa = 0) (e1 : ids yl = ids xl) (e2 : ids yr = ids xr) (hf : FitL (yl ++ (t, c) :: yr)) :
    Rg S1 (gatherS (upd S3 t { S3 t with wt := c }) t) t xs (yl ++ (t, c) :: yr) := by
  have ne := nd.ne
  have el : (S1 t).l ≠ t := h.pl.top_ne ne (by rw [e1]; exact ap.tl)
  have er : (S1 t).r ≠ t := h.pr.top_ne ne (by rw [e2]; exact ap.tr)
  generalize hS4 : upd S3 t { S3 t with wt := c } = S4
  have s4t : S4 t = { S1 t with wt := c } := by rw [← hS4, upd_same, h.at']
  have s4n : ∀ u, u ≠ t → S4 u = S3 u := fun u hu => by rw [← hS4, upd_ne _ _ hu]
  generalize hS5 : gatherS S4 t = S5
  have s5n : ∀ u, u ≠ t → S5 u = S3 u := fun u hu => by rw [← hS5, gatherS, upd_ne _ _ hu, s4n u hu]
  have s5t : S5 t = { S1 t with wt := c, h := 1 + max (S3 (S1 t).l).h (S3 (S1 t).r).h, sm := jn (jn (S3 (S1 t).l).sm (one c)) (S3 (S1 t).r).sm } := by
    rw [← hS5, gatherS, upd_same, s4t]; dsimp only; rw [s4n _ el, s4n _ er]
  have z5 : S5 0 = S3 0 := s5n 0 (fun e => ne e.symm)
  have q1 : Pt S5 (S1 t).l yl := h.pl.frame z5 (by rw [e1]; exact ap.nl) (fun u hu => s5n u (fun e => ap.tl (by rw [e1] at hu; exact e ▸ hu)))
  have q2 : Pt S5 (S1 t).r yr := h.pr.frame z5 (by rw [e2]; exact ap.nr) (fun u hu => s5n u (fun e => ap.tr (by rw [e2] at hu; exact e ▸ hu)))
  have hh : 1 + max (S3 (S1 t).l).h (S3 (S1 t).r).h = (S1 t).h := by rw [(h.sh _).1, (h.sh _).1]; exact nd.h.symm
  refine ⟨Pt.mk (xl := yl) (xr := yr) (by rw [s5t]; exact q1) (by rw [s5t]; exact q2) ⟨ne, ?_, ?_, ?_, ?_, ?_, hf, ?_, ?_, ?_⟩, fun u => ?_, fun u hu => ?_, ?_⟩
  · rw [s5t]; dsimp only; rw [wt, rz_zero, rz_zero]
  · rw [s5t]; dsimp only; rw [s5n _ el, s5n _ er]
  · rw [s5t]; dsimp only; rw [s5n _ el, s5n _ er, (h.sh _).1, (h.sh _).1]; exact nd.b1
  · rw [s5t]; dsimp only; rw [s5n _ el, s5n _ er, (h.sh _).1, (h.sh _).1]; exact nd.b2
  · rw [s5t]; dsimp only; rw [h.pl.sm h.z, h.pr.sm h.z, smL_append, smL_cons, jn_assoc (smL_ok _) (ok_one _) (smL_ok _)]
  · rw [s5t]; dsimp only; rw [s5n _ el, (h.sh _).2.1]; exact nd.ul
  · rw [s5t]; dsimp only; rw [s5n _ er, (h.sh _).2.1]; exact nd.ur
  · rw [s5t]; intro _ _; exact wt
  · by_cases e : u = t
    · rw [e, s5t]; exact ⟨hh, rfl, rfl, rfl⟩
    · rw [s5n u e]; exact h.sh u
  · rw [nd.idl] at hu
    simp only [List.mem_append, List.mem_cons, not_or] at hu
    rw [s5n u hu.2.1]; exact h.off u hu.1 hu.2.2
  · unfold Z; rw [z5]; exact h.z
end
end Go.Proofs.Ytkfboficcdiojaa

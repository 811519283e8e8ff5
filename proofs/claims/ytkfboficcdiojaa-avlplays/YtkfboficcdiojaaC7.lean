import Derived.Test.YtkfboficcdiojaaC6
import Derived.Test.YtkfboficcdiojaaK4
namespace Go.Proofs.Ytkfboficcdiojaa
open Go.RowKit Go.Arb
set_option linter.unusedVariables false
set_option linter.unusedSimpArgs false

/-- A pool, and a slot's copy beside it. -/
structure Gs (w W : World) (p g n cap room : Nat) (S : Ss) (B : Nat) (x : Sl) : Prop where
  po : Pool W p g n cap room S
  b : SlAt W B x
  lb : B < W.heap.size
  nb : B ≠ g
  kp : Keep [g] w W
  ge : w.heap.size ≤ B
theorem Gs.step {w W W' : World} {p g n cap room B : Nat} {S S' : Ss} {x : Sl} (h : Gs w W p g n cap room S B x) (hk : Keep [g] W W') (hp : Pool W' p g n cap room S') : Gs w W' p g n cap room S' B x :=
  ⟨hp, h.b.keep hk h.lb (by simpa using h.nb), Nat.lt_of_lt_of_le h.lb hk.size, h.nb, h.kp.tr hk, h.ge⟩
theorem Gs.drew {w W : World} {p g n cap room B : Nat} {S : Ss} {x : Sl} (h : Gs w W p g n cap room S B x) : Gs w W.drew p g n cap room S B x := ⟨h.po.drew, h.b, h.lb, h.nb, h.kp.drew, h.ge⟩
theorem Gs.new {w : World} {p g n cap room : Nat} {S : Ss} (h : Pool w p g n cap room S) (x : Sl) : Gs w (w.alloc (.cells #[.int .i64 (x.up : Int), .int .i64 (x.l : Int), .int .i64 (x.r : Int), .int .i64 (x.h : Int), .int .i64 x.wt, .int .i64 x.wa, .int .i64 x.sm.c, .int .i64 x.sm.s, .int .i64 x.sm.a, .int .i64 x.sm.b] 67)) p g n cap room S w.heap.size x := by
  have hl := h.lt.2
  refine ⟨h.keep ((Keep.refl [] w).alloc _) (by simp) (by simp), SlAt.new w x, by simp, by omega, (Keep.refl _ w).alloc _, Nat.le_refl _⟩

theorem Pt.nodeH {S : Ss} {t : Nat} {xs : List It} (h : Pt S t xs) (ht : t ≠ 0) : (S t).h = 1 + max (S (S t).l).h (S (S t).r).h ∧ (S (S t).l).h ≤ (S (S t).r).h + 1 ∧ (S (S t).r).h ≤ (S (S t).l).h + 1 := by
  obtain ⟨_, _, _, _, k⟩ := h.node ht
  exact ⟨k.h, k.b1, k.b2⟩
theorem Settled.hh {S S' : Ss} {t : Nat} {xs : List It} (h : Settled S S' t xs) (u : Nat) : (S' u).h = (S u).h := (h.sh u).1

/-- Turning right once. -/
theorem balR1 (t : Nat) (xl xr : List It) (w : World) (p g n cap room : Nat) (S : Ss) (h : Pool w p g n cap room S) (hb : Hb S t xl xr) (hlen : xl.length + xr.length + 1 ≤ 4194304) (htn : t < n)
    (h2 : (S (S t).l).h = (S (S t).r).h + 2) (h3 : (S (S (S t).l).r).h ≤ (S (S (S t).l).l).h) :
    Calls Try.prog 82 #[.pointer (some ⟨p, 0, none⟩), .int .i64 (t : Int)] w fun e w' => ∃ (t' : Nat) (S' : Ss), e = .returned (.int .i64 (t' : Int)) ∧ Pool w' p g n cap room S' ∧ Keep [g] w w' ∧ Bal S S' t t' (xl ++ (t, (S t).wt) :: xr) := by
  have a0 : (S t).l ≠ 0 := fun e => by rw [e, hb.z] at h2; simp [Sl.zero] at h2
  obtain ⟨x1, x2, pr⟩ := hb.preR a0
  have han := hb.pl.lt h hb.z (by omega)
  obtain ⟨g1, g2, g3⟩ := hb.pl.nodeH a0
  have hle : xl.length = x1.length + x2.length + 1 := by rw [pr.eq]; simp; omega
  have ap : Ap S t xl xr := ap_of hb.nd
  have hpl := hb.pl
  generalize ha : (S t).l = a at *
  generalize hS1 : settleS S a = S1 at *
  have sa : S1 a = { S a with wa := 0 } := pr.st.at'
  have e1 : (S1 (S1 a).r).h = (S (S a).r).h := by rw [pr.st.hh, sa]
  have e2 : (S1 (S1 a).l).h = (S (S a).l).h := by rw [pr.st.hh, sa]
  have e3 : (S1 (S1 t).r).h = (S (S t).r).h := by rw [pr.st.hh, pr.at']
  refine (turnRight_any t a x1 x2 xr w p g n cap room S S S1 h (settle_none htn hb.wa) (by rw [← hS1]; exact settle_to hb.z hpl ap.nl (by omega) a0) ha htn han pr.st.z (by rw [pr.at']; exact hb.wa) pr.wa pr.p1 pr.p2 pr.p3 hb.ne pr.a0 pr.nd (by rw [pr.at']; exact hb.ft) pr.fa (by omega) (by omega) (by omega)).mono ?_
  rintro e w' ⟨rfl, S2, S3, q1, q2, q3, q4, q5, q6, q7⟩
  have T := turnedR q3 q4 q5 q6 q7 pr.p1 pr.st.z pr.a0 pr.nd pr.fa
  refine ⟨a, S3, rfl, q1, q2, ?_⟩
  have hh := T.hb.h
  rw [T.fl, T.fr, T.hl, T.hr] at hh
  have Q := T.hb.pt (by rw [T.fl, T.fr, T.hl, T.hr]; omega) (by rw [T.fl, T.fr, T.hl, T.hr]; omega)
  have eqx : xl ++ (t, (S t).wt) :: xr = x1 ++ (a, (S3 a).wt) :: (x2 ++ (t, (S1 t).wt) :: xr) := by rw [pr.eq, T.wt, pr.at']; simp
  have hbh := hb.h
  rw [ha] at hbh
  refine ⟨by rw [eqx]; exact Q, a0, by omega, by omega, fun u hu => ?_, T.hb.z⟩
  rw [eqx, ids_append, ids_cons] at hu
  simp only [List.mem_append, List.mem_cons, not_or] at hu
  rw [T.off u hu.1 hu.2.1 hu.2.2]
  refine pr.st.off u ?_
  have hu2 := hu.2.2
  rw [ids_append, ids_cons] at hu2
  simp only [List.mem_append, List.mem_cons, not_or] at hu2
  rw [pr.eq, ids_append, ids_cons]
  simp [hu.1, hu.2.1, hu2.1]
/-- Turning left once. -/
theorem balL1 (t : Nat) (xl xr : List It) (w : World) (p g n cap room : Nat) (S : Ss) (h : Pool w p g n cap room S) (hb : Hb S t xl xr) (hlen : xl.length + xr.length + 1 ≤ 4194304) (htn : t < n)
    (h2 : (S (S t).r).h = (S (S t).l).h + 2) (h3 : (S (S (S t).r).l).h ≤ (S (S (S t).r).r).h) :
    Calls Try.prog 81 #[.pointer (some ⟨p, 0, none⟩), .int .i64 (t : Int)] w fun e w' => ∃ (t' : Nat) (S' : Ss), e = .returned (.int .i64 (t' : Int)) ∧ Pool w' p g n cap room S' ∧ Keep [g] w w' ∧ Bal S S' t t' (xl ++ (t, (S t).wt) :: xr) := by
  have a0 : (S t).r ≠ 0 := fun e => by rw [e, hb.z] at h2; simp [Sl.zero] at h2
  obtain ⟨x2, x3, pr⟩ := hb.preL a0
  have han := hb.pr.lt h hb.z (by omega)
  obtain ⟨g1, g2, g3⟩ := hb.pr.nodeH a0
  have hle : xr.length = x2.length + x3.length + 1 := by rw [pr.eq]; simp; omega
  have ap : Ap S t xl xr := ap_of hb.nd
  have hpl := hb.pr
  generalize ha : (S t).r = a at *
  generalize hS1 : settleS S a = S1 at *
  have sa : S1 a = { S a with wa := 0 } := pr.st.at'
  have e1 : (S1 (S1 a).r).h = (S (S a).r).h := by rw [pr.st.hh, sa]
  have e2 : (S1 (S1 a).l).h = (S (S a).l).h := by rw [pr.st.hh, sa]
  have e3 : (S1 (S1 t).l).h = (S (S t).l).h := by rw [pr.st.hh, pr.at']
  refine (turnLeft_any t a xl x2 x3 w p g n cap room S S S1 h (settle_none htn hb.wa) (by rw [← hS1]; exact settle_to hb.z hpl ap.nr (by omega) a0) ha htn han pr.st.z (by rw [pr.at']; exact hb.wa) pr.wa pr.p1 pr.p2 pr.p3 hb.ne pr.a0 pr.nd (by rw [pr.at']; exact hb.ft) pr.fa (by omega) (by omega) (by omega)).mono ?_
  rintro e w' ⟨rfl, S2, S3, q1, q2, q3, q4, q5, q6, q7⟩
  have T := turnedL q3 q4 q5 q6 q7 pr.p3 pr.st.z pr.a0 (by have := pr.nd; simpa using this) pr.fa
  refine ⟨a, S3, rfl, q1, q2, ?_⟩
  have hh := T.hb.h
  rw [T.fl, T.fr, T.hl, T.hr] at hh
  have Q := T.hb.pt (by rw [T.fl, T.fr, T.hl, T.hr]; omega) (by rw [T.fl, T.fr, T.hl, T.hr]; omega)
  have eqx : xl ++ (t, (S t).wt) :: xr = (xl ++ (t, (S1 t).wt) :: x2) ++ (a, (S3 a).wt) :: x3 := by rw [pr.eq, T.wt, pr.at']; simp
  have hbh := hb.h
  rw [ha] at hbh
  refine ⟨by rw [eqx]; exact Q, a0, by omega, by omega, fun u hu => ?_, T.hb.z⟩
  rw [eqx, ids_append, ids_cons] at hu
  simp only [List.mem_append, List.mem_cons, not_or] at hu
  rw [T.off u hu.1 hu.2.1 hu.2.2]
  refine pr.st.off u ?_
  have hu2 := hu.1
  rw [ids_append, ids_cons] at hu2
  simp only [List.mem_append, List.mem_cons, not_or] at hu2
  rw [pr.eq, ids_append, ids_cons]
  simp [hu.2.1, hu.2.2, hu2.2.2]
end Go.Proofs.Ytkfboficcdiojaa

/- Part 5 of the texts. -/
import Derived.Test.YtjnkgakajenoaaaS3
import Derived.Test.YtjnkgakajenoaaaS4
import Derived.Test.YtjnkgakajenoaaaS1
namespace Go.Proofs.Ytjnkgakajenoaaa
set_option linter.unusedVariables false
set_option linter.unusedSimpArgs false
def Mb (m : Ms) : Prop := 0 <= m.c /\ -1099511627776 * m.c <= m.w /\ m.w <= 1099511627776 * m.c
section
variable {S S1 : Ss} {n : Nat} {T : Tr} {G G1 : Gh} {t x y k : Nat} {d : Int}
theorem Lc.hg_mb (h : Lc S n T G) (t : Nat) : Mb (S t).hg := by
 by_cases ht : Th T t
 ·have L := h.loc t ht
  obtain ⟨h1, h2, h3⟩ := hg_bd h.wf h.ft ht L.nx
  unfold Mb
  rw [L.hgc, L.hgw]
  exact ⟨h1, h2, h3⟩
 ·rw [h.out t ht]; simp [Mb, Sl.zero]
theorem Lc.hu_mbk (h : Lc S n T G) : ∀ (k : Nat) (x : Nat), (S x).sm.c <= k -> Mb (S x).hu
 | 0, x, hc => by
  by_cases hx : Th T x
  ·have := (h.loc x hx).fit.c1; omega
  ·rw [h.out x hx]; simp [Mb, Sl.zero]
 | k + 1, x, hc => by
  by_cases hx : Th T x
  ·have L := h.loc x hx
   have A := Lc.hu_mbk h k (S x).l (by have := h.cl hx; omega)
   have B := Lc.hu_mbk h k (S x).r (by have := h.cr hx; omega)
   have C := h.hg_mb x
   unfold Mb at A B C ⊢
   have u1 := congrArg Ms.c L.hu
   have u2 := congrArg Ms.w L.hu
   dsimp only at u1 u2
   omega
  ·rw [h.out x hx]; simp [Mb, Sl.zero]
theorem Lc.hu_mb (h : Lc S n T G) (x : Nat) : Mb (S x).hu := h.hu_mbk (S x).sm.c.toNat x (by have := h.cn x; omega)
theorem Lc.c_le (h : Lc S n T G) (x : Nat) : (S x).hu.c + (S x).sm.c <= 1048576 /\ (S x).sm.c <= 1048576 := by
 by_cases hx : Th T x
 ·have h1 := (h.whole hx).1
  have h2 := (Dc_bd T (G.fi x)).2
  have h3 := (Dc_bd T (G.pn (G.la x))).1
  have h4 := (h.hu_mb x).1
  have h5 := h.ft.n
  omega
 ·rw [h.out x hx]; simp [Sl.zero, zero]
theorem Lc.hu_c (h : Lc S n T G) (x : Nat) : 0 <= (S x).hu.c /\ (S x).hu.c <= 1048576 := by
 have := h.c_le x; have := h.hu_mb x; have := h.cn x
 exact ⟨(h.hu_mb x).1, by omega⟩
theorem Lc.sm_bd (h : Lc S n T G) (x : Nat) : 0 <= (S x).sm.c /\ (S x).sm.c <= 1048576 /\ -1152921504606846976 <= (S x).sm.s /\ (S x).sm.s <= 1152921504606846976 /\ -1099511627776 * (S x).sm.c <= (S x).sm.s /\ (S x).sm.s <= 1099511627776 * (S x).sm.c := by
 by_cases hx : Th T x
 ·have F := (h.loc x hx).fit
  have := h.c_le x
  have m1 : (S x).sm.c * -1099511627776 <= (S x).sm.c * (S x).sm.a := Int.mul_le_mul_of_nonneg_left F.lo (by have := F.c1; omega)
  have m2 : (S x).sm.c * (S x).sm.b <= (S x).sm.c * 1099511627776 := Int.mul_le_mul_of_nonneg_left F.hi (by have := F.c1; omega)
  have := F.slo; have := F.shi; have := F.c1
  omega
 ·rw [h.out x hx]; simp [Sl.zero, zero]
theorem Fitm.lf {z : Sm} (F : Fitm z) (h1 : -1099511627776 <= z.a + d) (h2 : z.b + d <= 1099511627776) : Fitm (lf z d) := by
 have c1 := F.c1
 obtain ⟨e1, e2, e3⟩ := lf_ab (show z.c ≠ 0 by omega) d
 refine ⟨by rw [lf_c]; exact c1, by rw [e1]; exact h1, by rw [e1, e2]; have := F.ab; omega, by rw [e2]; exact h2, ?_, ?_⟩
 ·rw [lf_c, e1, e3, Int.mul_add]; have := F.slo; omega
 ·rw [lf_c, e2, e3, Int.mul_add]; have := F.shi; omega
theorem rbd_of {z : Sl} (F : Fitm z.sm) (hc : z.sm.c <= 1048576) (h1 : -1099511627776 <= z.sm.a + d) (h2 : z.sm.b + d <= 1099511627776) (hw : -2199023255552 <= z.wa /\ z.wa <= 2199023255552) : Rbd z d := by
 obtain ⟨c1, lo, ab, hi, slo, shi⟩ := F
 have F2 := Fitm.lf ⟨c1, lo, ab, hi, slo, shi⟩ h1 h2
 have d1 : -2199023255552 <= d /\ d <= 2199023255552 := by omega
 have m1 : z.sm.c * -2199023255552 <= z.sm.c * d := Int.mul_le_mul_of_nonneg_left d1.1 (by omega)
 have m2 : z.sm.c * d <= z.sm.c * 2199023255552 := Int.mul_le_mul_of_nonneg_left d1.2 (by omega)
 obtain ⟨e1, e2, e3⟩ := lf_ab (show z.sm.c ≠ 0 by omega) d
 have s1 := F2.slo
 have s2 := F2.shi
 rw [lf_c, e1, e3] at s1
 rw [lf_c, e2, e3] at s2
 have m3 : z.sm.c * -1099511627776 <= z.sm.c * (z.sm.a + d) := Int.mul_le_mul_of_nonneg_left h1 (by omega)
 have m4 : z.sm.c * (z.sm.b + d) <= z.sm.c * 1099511627776 := Int.mul_le_mul_of_nonneg_left h2 (by omega)
 exact ⟨⟨by omega, by omega⟩, ⟨by omega, by omega⟩, ⟨by omega, by omega⟩, ⟨by omega, by omega⟩, ⟨by omega, by omega⟩⟩
theorem Lc.wa_bd (h : Lc S n T G) (t : Nat) : -2199023255552 <= (S t).wa /\ (S t).wa <= 2199023255552 := by
 by_cases ht : Th T t
 ·have L := h.loc t ht
  have F := L.fit
  by_cases e : (S t).l = 0
  ·by_cases e2 : (S t).r = 0
   ·rw [(L.id e e2).2]; omega
   ·have F2 := (h.loc _ (L.kr e2).th).fit
    have := (h.ab ht).2.2 _ e2 (.inr rfl)
    have := F.lo; have := F.hi; have := F2.lo; have := F2.hi; have := F2.ab; omega
  ·have F2 := (h.loc _ (L.kl e).th).fit
   have := (h.ab ht).2.2 _ e (.inl rfl)
   have := F.lo; have := F.hi; have := F2.lo; have := F2.hi; have := F2.ab; omega
 ·rw [h.out t ht]; simp [Sl.zero]
theorem Lc.kid_bd (h : Lc S n T G) (ht : Th T t) (hk : k = (S t).l ∨ k = (S t).r) (k0 : k ≠ 0) : Rbd (S k) (S t).wa /\ Fitm (lf (S k).sm (S t).wa) /\ addV (S k).wt (S t).wa = (S k).wt + (S t).wa := by
 have K := h.up_kid ht hk k0
 have F2 := (h.loc _ K.th).fit
 have F := (h.loc t ht).fit
 have a1 := (h.ab ht).2.2 k k0 hk
 have a2 := h.ab K.th
 have l1 := F.lo; have l2 := F.hi; have l3 := F2.lo; have l4 := F2.hi; have l5 := F2.ab
 refine ⟨rbd_of F2 (h.c_le k).2 (by omega) (by omega) (h.wa_bd k), F2.lf (by omega) (by omega), ?_⟩
 unfold addV addB fitB inB
 rw [if_pos (by simp; omega)]
def rzS (x : Sl) (d : Int) : Sl := if 1 < x.sm.c then { x with wt := addV x.wt d, wa := x.wa + d, sm := lf x.sm d } else { x with wt := addV x.wt d, sm := lf x.sm d }
theorem raiseS_at (S : Ss) (t : Nat) (d : Int) : raiseS S t d t = if t = 0 then S 0 else rzS (S t) d := by
 unfold raiseS rzS
 by_cases e : t = 0
 ·subst e; simp
 ·rw [if_neg e, if_neg e, upd_same]
theorem settleW_at (S : Ss) (t : Nat) (t0 : t ≠ 0) (hl : (S t).l ≠ t) (hr : (S t).r ≠ t) (hlr : (S t).l = (S t).r -> (S t).l = 0) (hwa : (S t).wa ≠ 0) (x : Nat) :
  settleW S t x = if x = t then { S t with wa := 0 } else if x ≠ 0 /\ (x = (S t).l ∨ x = (S t).r) then rzS (S x) (S t).wa else S x := by
 unfold settleW
 rw [if_neg hwa]
 by_cases e : x = t
 ·subst e; rw [if_pos rfl, raiseS_ne _ _ (fun e => hr e.symm), raiseS_ne _ _ (fun e => hl e.symm), upd_same]
 rw [if_neg e]
 by_cases e0 : x = 0
 ·subst e0
  have z : ∀ (S : Ss) (j : Nat), raiseS S j (S t).wa 0 = S 0 := fun S j => by
   by_cases e : j = 0
   ·subst e; simp [raiseS]
   ·rw [raiseS_ne _ _ (fun h => e h.symm)]
  have z' : ∀ (S' : Ss) (j : Nat) (d : Int), raiseS S' j d 0 = S' 0 := fun S' j d => by
   by_cases e : j = 0
   ·subst e; simp [raiseS]
   ·rw [raiseS_ne _ _ (fun h => e h.symm)]
  rw [z', z', upd_ne _ _ e]; simp
 by_cases e2 : x = (S t).r
 ·rw [if_pos ⟨e0, .inr e2⟩, e2, raiseS_at, if_neg (by omega)]
  have e3 : (S t).l ≠ (S t).r := fun e3 => by have := hlr e3; omega
  rw [raiseS_ne _ _ (fun e => e3 e.symm), upd_ne _ _ hr]
 ·rw [raiseS_ne _ _ e2]
  by_cases e3 : x = (S t).l
  ·rw [if_pos ⟨e0, .inl e3⟩, e3, raiseS_at, if_neg (by omega), upd_ne _ _ hl]
  ·rw [if_neg (fun h => h.2.elim e3 e2), raiseS_ne _ _ e3, upd_ne _ _ e]
theorem rzS_f (x : Sl) (d : Int) : (rzS x d).up = x.up /\ (rzS x d).l = x.l /\ (rzS x d).r = x.r /\ (rzS x d).tn = x.tn /\ (rzS x d).hg = x.hg /\ (rzS x d).hu = x.hu /\ (rzS x d).sm = lf x.sm d /\ (rzS x d).wt = addV x.wt d := by unfold rzS; split <;> simp
theorem jn_nil (w : Int) : jn (jn zero (one w)) zero = one w := by rw [jn_zero_left, jn_zero_right (ok_one w)]
theorem Lc.settleW (h : Lc S n T G) (ht : Th T t) : ∃ G1, Lc (settleW S t) n T G1 /\ Like S (settleW S t) G G1 /\ G1.a t = G.a t /\ G1.b = G.b /\ (settleW S t t).tn = (S t).tn /\ (settleW S t t).wa = 0 /\ (settleW S t t).l = (S t).l /\ (settleW S t t).r = (S t).r := by
 have L := h.loc t ht
 have hl : (S t).l ≠ t := h.kid_ne ht (.inl rfl)
 have hr : (S t).r ≠ t := h.kid_ne ht (.inr rfl)
 have t0 : t ≠ 0 := by have := ht.1; omega
 by_cases hwa : (S t).wa = 0
 ·have e : Go.Proofs.Ytjnkgakajenoaaa.settleW S t = S := by unfold Go.Proofs.Ytjnkgakajenoaaa.settleW; rw [hwa]; rfl
  rw [e]; exact ⟨G, h, Like.refl, rfl, rfl, rfl, hwa, rfl, rfl⟩
 have at1 := settleW_at S t t0 hl hr L.lr hwa
 generalize Go.Proofs.Ytjnkgakajenoaaa.settleW S t = S1 at at1 ⊢
 have kb := fun k hk k0 => h.kid_bd (k := k) ht hk k0
 generalize hd : (S t).wa = d at *
 have fl : ∀ y, (S1 y).up = (S y).up /\ (S1 y).l = (S y).l /\ (S1 y).r = (S y).r /\ (S1 y).tn = (S y).tn /\ (S1 y).hg = (S y).hg /\ (S1 y).hu = (S y).hu := fun y => by
  rw [at1]; split
  ·rename_i e; subst e; simp
  ·split
   ·have := rzS_f (S y) d; simp [this]
   ·simp
 have sm1 : ∀ y, y ≠ 0 -> y = (S t).l ∨ y = (S t).r -> (S1 y).sm = lf (S y).sm d := fun y y0 hy => by
  have : ¬ y = t := h.kid_ne ht hy
  rw [at1, if_neg this, if_pos ⟨y0, hy⟩, (rzS_f _ _).2.2.2.2.2.2.1]
 have sm2 : ∀ y, ¬ (y ≠ 0 /\ (y = (S t).l ∨ y = (S t).r)) -> (S1 y).sm = (S y).sm := fun y hy => by
  rw [at1, if_neg hy]; split
  ·rename_i e; subst e; rfl
  ·rfl
 have lk : Like S S1 G { G with a := fun x => if x ≠ 0 /\ (x = (S t).l ∨ x = (S t).r) then G.a t else G.a x } := by
  refine ⟨rfl, rfl, rfl, fun y => (fl y).1, fun y => .inl ⟨(fl y).2.1, (fl y).2.2.1⟩, fun y => ?_⟩
  by_cases hy : y ≠ 0 /\ (y = (S t).l ∨ y = (S t).r)
  ·rw [sm1 y hy.1 hy.2, lf_c]
  ·rw [sm2 y hy]
 have at' : (if t ≠ 0 /\ (t = (S t).l ∨ t = (S t).r) then G.a t else G.a t) = G.a t := by split <;> rfl
 refine ⟨{ G with a := fun x => if x ≠ 0 /\ (x = (S t).l ∨ x = (S t).r) then G.a t else G.a x }, ⟨h.wf, h.ft, h.lt, h.n0, h.nn, fun x hx => ?_, h.p0, fun x hx => ?_⟩, lk, at', rfl, by rw [at1]; simp, by rw [at1]; simp, by rw [at1]; simp, by rw [at1]; simp⟩
 ·have : ¬ (x ≠ 0 /\ (x = (S t).l ∨ x = (S t).r)) := fun e => hx (h.up_kid ht e.2 e.1).th
  rw [at1, if_neg (show ¬ x = t from fun e => hx (by rw [e]; exact ht)), if_neg this]
  exact h.out x hx
 ·have Lx := h.loc x hx
  have x0 : x ≠ 0 := by have := hx.1; omega
  obtain ⟨f1, f2, f3, f4, f5, f6⟩ := fl x
  have tp : Top S1 x -> Tp S1 T { G with a := fun x => if x ≠ 0 /\ (x = (S t).l ∨ x = (S t).r) then G.a t else G.a x } x := fun htop => by
   have htop' := (lk.top x).1 htop
   have : ¬ (x ≠ 0 /\ (x = (S t).l ∨ x = (S t).r)) := fun e => (h.up_kid ht e.2 e.1).nt (by rcases e.2 with e | e <;> simp [e]) htop'
   refine (Lx.tp htop').like lk (Lx.tp htop').b ?_
   show (if x ≠ 0 /\ (x = (S t).l ∨ x = (S t).r) then G.a t else G.a x) = 0
   rw [if_neg this]; exact (Lx.tp htop').a
  have huu : (S1 x).hu = ⟨(S1 (S1 x).l).hu.c + (S1 x).hg.c + (S1 (S1 x).r).hu.c, (S1 (S1 x).l).hu.w + (S1 x).hg.w + (S1 (S1 x).r).hu.w⟩ := by
   rw [f2, f3, f5, f6, (fl _).2.2.2.2.2, (fl _).2.2.2.2.2]; exact Lx.hu
  have kk : ∀ j, j ≠ 0 -> j = (S x).l ∨ j = (S x).r -> (if j ≠ 0 /\ (j = (S t).l ∨ j = (S t).r) then G.a t else G.a j) = (if x ≠ 0 /\ (x = (S t).l ∨ x = (S t).r) then G.a t else G.a x) + (S1 x).wa -> Ki S1 T { G with a := fun x => if x ≠ 0 /\ (x = (S t).l ∨ x = (S t).r) then G.a t else G.a x } x j := fun j j0 hj ha => by
   have K := h.up_kid hx hj j0
   exact ⟨K.th, by rw [(fl j).1]; exact K.up, by rw [f4]; exact K.b, ha⟩
  have K2 : ∀ j, j ≠ 0 -> j = (S x).l ∨ j = (S x).r -> Ki S1 T { G with a := fun x => if x ≠ 0 /\ (x = (S t).l ∨ x = (S t).r) then G.a t else G.a x } x j := fun j j0 hj => by
   refine kk j j0 hj ?_
   have K := h.up_kid hx hj j0
   by_cases e : x = t
   ·subst e
    rw [if_pos ⟨j0, hj⟩, at', at1, if_pos rfl]; simp
   ·have jn : ¬ (j ≠ 0 /\ (j = (S t).l ∨ j = (S t).r)) := fun hj2 => e (by rw [← K.up]; exact (h.up_kid ht hj2.2 j0).up)
    rw [if_neg jn, at1, if_neg e]
    by_cases ek : x ≠ 0 /\ (x = (S t).l ∨ x = (S t).r)
    ·rw [if_pos ek, if_pos ek, rzS]
     have hc : 1 < (S x).sm.c := Classical.byContradiction fun hc => by
      have := h.alone hx hc
      rcases hj with rfl | rfl <;> omega
     rw [if_pos hc, K.a, (h.up_kid ht ek.2 x0).a, hd]
     dsimp only; omega
    ·rw [if_neg ek, if_neg ek]; exact K.a
  have nk : ∀ j, j ≠ 0 -> j = (S x).l ∨ j = (S x).r -> x ≠ t -> (S1 j).sm = (S j).sm := fun j j0 hj e => by
   have K := h.up_kid hx hj j0
   exact sm2 j fun hj2 => e (by rw [← K.up]; exact (h.up_kid ht hj2.2 j0).up)
  have s10 : (S1 0).sm = zero := by rw [sm2 0 (by simp), h.s0]; rfl
  have nk' : ∀ j, j = (S x).l ∨ j = (S x).r -> x ≠ t -> (S1 j).sm = (S j).sm := fun j hj e => by
   by_cases j0 : j = 0
   ·rw [j0, s10, h.s0]; rfl
   ·exact nk j j0 hj e
  refine ⟨fun e => K2 _ e (.inl f2), fun e => K2 _ e (.inr f3), by rw [f2, f3]; exact Lx.lr, by rw [f2, f3]; exact Lx.en.gh rfl rfl rfl, Lx.nx, ?_, ?_, ?_, huu, by rw [f5]; exact Lx.hgc, by rw [f5]; exact Lx.hgw, ?_, tp⟩
  ·show (S1 x).wt + (if x ≠ 0 /\ (x = (S t).l ∨ x = (S t).r) then G.a t else G.a x) = _
   by_cases e : x = t
   ·subst e; rw [at', at1, if_pos rfl]; exact Lx.wt
   ·rw [at1, if_neg e]
    by_cases ek : x ≠ 0 /\ (x = (S t).l ∨ x = (S t).r)
    ·rw [if_pos ek, if_pos ek, (rzS_f _ _).2.2.2.2.2.2.2, (kb x ek.2 x0).2.2, ← Lx.wt, (h.up_kid ht ek.2 x0).a, hd]; omega
    ·rw [if_neg ek, if_neg ek]; exact Lx.wt
  ·rw [f2, f3]
   by_cases e : x = t
   ·subst e
    have q : ∀ j, j = (S x).l ∨ j = (S x).r -> (S1 j).sm = lf (S j).sm d := fun j hj => by
     by_cases j0 : j = 0
     ·rw [j0, s10, h.s0]; exact (lf_nil d).symm
     ·exact sm1 j j0 hj
    rw [q _ (.inl rfl), q _ (.inr rfl), at1, if_pos rfl]
    dsimp only
    rw [lf_zero, lf_zero, ← hd]; exact Lx.sm
   ·rw [nk' _ (.inl rfl) e, nk' _ (.inr rfl) e]
    by_cases ek : x ≠ 0 /\ (x = (S t).l ∨ x = (S t).r)
    ·have kv := (kb x ek.2 x0).2.2
     have ol := ok_lf (h.ok (S x).l) (S x).wa
     have or' := ok_lf (h.ok (S x).r) (S x).wa
     rw [at1, if_neg e, if_pos ek, rzS]
     split
     ·dsimp only
      rw [kv, Lx.sm, lf_jn (ok_jn ol (ok_one _)) or', lf_jn ol (ok_one _), lf_lf, lf_lf, lf_one]
     ·rename_i hc
      obtain ⟨z1, z2⟩ := h.alone hx hc
      dsimp only
      rw [kv, Lx.sm, z1, z2, h.s0]
      rw [show Sl.zero.sm = zero from rfl, lf_nil, jn_nil, lf_one, jn_nil]
    ·rw [at1, if_neg e, if_neg ek]; exact Lx.sm
  ·by_cases ek : x ≠ 0 /\ (x = (S t).l ∨ x = (S t).r)
   ·rw [sm1 x x0 ek.2]; exact (kb x ek.2 x0).2.1
   ·rw [sm2 x ek]; exact Lx.fit
  ·rw [f2, f3, f4]
   intro a b
   refine ⟨(Lx.id a b).1, ?_⟩
   rw [at1]; split
   ·rfl
   ·split
    ·have : ¬ 1 < (S x).sm.c := by
      have := h.cc hx
      rw [a, b, h.s0] at this
      have : (S x).sm.c = 0 + 1 + 0 := this
      omega
     rw [rzS, if_neg this]; exact (Lx.id a b).2
    ·exact (Lx.id a b).2
theorem Lc.settle (h : Lc S n T G) (ht : Th T t) : ∃ G1, Lc (settleS S t) n T G1 /\ Like S (settleS S t) G G1 /\ G1.a t = G.a t /\ G1.b t = G.b t /\ (settleS S t t).tn = false /\ (settleS S t t).wa = 0 /\ (settleS S t t).l = (S t).l /\ (settleS S t t).r = (S t).r := by
 obtain ⟨G1, h1, k1, b1, a1, n1, w1, l1, r1⟩ := h.settleT ht
 obtain ⟨G2, h2, k2, a2, b2, n2, w2, l2, r2⟩ := h1.settleW ht
 exact ⟨G2, h2, k1.trans k2, by rw [a2, a1], by rw [b2, b1], n2.trans n1, w2, l2.trans l1, r2.trans r1⟩
end
def nr (s : Bool) (x : Sl) : Nat := if s then x.r else x.l
def fr (s : Bool) (x : Sl) : Nat := if s then x.l else x.r
section
variable {S S1 : Ss} {n : Nat} {T : Tr} {G G1 : Gh} {t u o A M B x y k : Nat} {d : Int} {s : Bool}
theorem Lc.ends (h : Lc S n T G) : ∀ (k : Nat) (x : Nat), Th T x -> (S x).sm.c <= k -> G.fi x ∈ U T x /\ x ∈ U T (G.la x)
 | 0, x, hx, hc => by have := (h.loc x hx).fit.c1; omega
 | k + 1, x, hx, hc => by
  have L := h.loc x hx
  have A : (S x).l ≠ 0 -> _ := fun e => Lc.ends h k _ (L.kl e).th (by have := h.cl hx; omega)
  have B : (S x).r ≠ 0 -> _ := fun e => Lc.ends h k _ (L.kr e).th (by have := h.cr hx; omega)
  have en := L.en
  have pc : ∀ z y, Th T z -> G.pn z = y -> y ≠ 0 -> z ∈ U T y := fun z y hz e y0 => by
   subst e
   obtain ⟨h1, h2⟩ := (h.loc z hz).nx y0
   have h3 := hz.1
   have := U_ps h.wf h1 (by omega)
   rwa [h2] at this
  have main : ∀ P Q : Nat, (P ≠ 0 -> G.fi P ∈ U T P /\ P ∈ U T (G.la P)) -> (Q ≠ 0 -> G.fi Q ∈ U T Q /\ Q ∈ U T (G.la Q)) -> (P = 0 -> G.fi x = x) -> (P ≠ 0 -> G.fi x = G.fi P /\ G.pn (G.la P) = x) -> (Q = 0 -> G.la x = x) -> (Q ≠ 0 -> G.la x = G.la Q /\ G.pn x = G.fi Q) -> G.fi x ∈ U T x /\ x ∈ U T (G.la x) := by
   intro P Q hP hQ e1 e2 e3 e4
   have x0 : x ≠ 0 := by have := hx.1; omega
   constructor
   ·by_cases p : P = 0
    ·rw [e1 p]; exact U_self h.wf hx
    ·obtain ⟨q1, q2⟩ := hP p
     obtain ⟨q3, q4⟩ := e2 p
     rw [q3]
     have := pc (G.la P) x (U_mem_th' h.wf q2) q4 x0
     exact U_trans h.wf this (U_trans h.wf q2 q1)
   ·by_cases q : Q = 0
    ·rw [e3 q]; exact U_self h.wf hx
    ·obtain ⟨q1, q2⟩ := hQ q
     obtain ⟨q3, q4⟩ := e4 q
     rw [q3]
     have f0 : G.fi Q ≠ 0 := by have := (U_mem_th h.wf q1).1; omega
     exact U_trans h.wf q2 (U_trans h.wf q1 (pc x (G.fi Q) hx q4 f0))
  cases hb : G.b x
  ·rw [hb] at en
   exact main _ _ A B (fun e => en.l0 e) (fun e => en.l1 e) (fun e => en.r0 e) (fun e => en.r1 e)
  ·rw [hb] at en
   exact main _ _ B A (fun e => en.r0 e) (fun e => en.r1 e) (fun e => en.l0 e) (fun e => en.l1 e)
theorem Lc.fi_in (h : Lc S n T G) (hx : Th T x) : G.fi x ∈ U T x := (h.ends (S x).sm.c.toNat x hx (by have := h.cn x; omega)).1
theorem Lc.la_in (h : Lc S n T G) (hx : Th T x) : x ∈ U T (G.la x) := (h.ends (S x).sm.c.toNat x hx (by have := h.cn x; omega)).2
theorem Lc.pn_in (h : Lc S n T G) (hx : Th T x) (h0 : G.pn x ≠ 0) : x ∈ U T (G.pn x) := by
 obtain ⟨h1, h2⟩ := (h.loc x hx).nx h0
 have h3 := hx.1
 have := U_ps h.wf h1 (by omega)
 rwa [h2] at this
theorem Lc.fi_kid (h : Lc S n T G) (hx : Th T x) (hk : k = (S x).l ∨ k = (S x).r) (k0 : k ≠ 0) : G.fi x ∈ U T k := by
 have L := h.loc x hx
 have K := h.up_kid hx hk k0
 have en := L.en
 have main : ∀ P Q : Nat, (k = P ∨ k = Q) -> (P ≠ 0 -> G.fi x = G.fi P /\ G.pn (G.la P) = x) -> (Q ≠ 0 -> G.la x = G.la Q /\ G.pn x = G.fi Q) -> G.fi x ∈ U T k := by
  intro P Q hk e1 e2
  rcases hk with rfl | rfl
  ·rw [(e1 k0).1]; exact h.fi_in K.th
  ·have f := h.fi_in K.th
   have f0 : G.fi k ≠ 0 := by have := (U_mem_th h.wf f).1; omega
   have := h.pn_in hx (by rw [(e2 k0).2]; exact f0)
   rw [(e2 k0).2] at this
   exact U_trans h.wf f (U_trans h.wf this (h.fi_in hx))
 cases hb : G.b x
 ·rw [hb] at en
  exact main _ _ hk (fun e => en.l1 e) (fun e => en.r1 e)
 ·rw [hb] at en
  exact main _ _ hk.symm (fun e => en.r1 e) (fun e => en.l1 e)
theorem Lc.fi_th (h : Lc S n T G) (hx : Th T x) : Th T (G.fi x) := U_mem_th h.wf (h.fi_in hx)
theorem Lc.up_dp (h : Lc S n T G) (hx : Th T x) (ht : Top S x) : dp T (S x).up < dp T (G.fi x) := by
 have P := (h.loc x hx).tp ht
 have := dp_th h.wf (h.fi_th hx)
 rw [P.fi] at this; omega
theorem not_top : ¬ Top S x ↔ (S (S x).up).l = x ∨ (S (S x).up).r = x := by unfold Top; omega
theorem Lc.nt_up (h : Lc S n T G) (hx : Th T x) (ht : ¬ Top S x) : Th T (S x).up /\ (x = (S (S x).up).l ∨ x = (S (S x).up).r) /\ (S x).sm.c < (S (S x).up).sm.c := by
 have h1 := not_top.1 ht
 have x0 := hx.1
 have hu : Th T (S x).up := Classical.byContradiction fun hn => by
  rw [h.out _ hn] at h1
  simp [Sl.zero] at h1; omega
 refine ⟨hu, by omega, ?_⟩
 have k1 := h.cl hu
 have k2 := h.cr hu
 rcases h1 with e | e
 ·rw [e] at k1; exact k1
 ·rw [e] at k2; exact k2
theorem Fitm.one {w : Int} (h : -1099511627776 <= w /\ w <= 1099511627776) : Fitm (one w) := ⟨by simp [Go.Proofs.Ytjnkgakajenoaaa.one], h.1, by simp [Go.Proofs.Ytjnkgakajenoaaa.one], h.2, by simp [Go.Proofs.Ytjnkgakajenoaaa.one], by simp [Go.Proofs.Ytjnkgakajenoaaa.one]⟩
theorem Fitm.jn {x y : Sm} (hx : Fitm x) (hy : Fitm y) : Fitm (jn x y) := by
 obtain ⟨a1, a2, a3, a4, a5, a6⟩ := hx
 obtain ⟨b1, b2, b3, b4, b5, b6⟩ := hy
 unfold Go.Proofs.Ytjnkgakajenoaaa.jn
 rw [if_neg (by omega), if_neg (by omega)]
 have m1 : x.c * min x.a y.a <= x.c * x.a := Int.mul_le_mul_of_nonneg_left (by omega) (by omega)
 have m2 : y.c * min x.a y.a <= y.c * y.a := Int.mul_le_mul_of_nonneg_left (by omega) (by omega)
 have m3 : x.c * x.b <= x.c * max x.b y.b := Int.mul_le_mul_of_nonneg_left (by omega) (by omega)
 have m4 : y.c * y.b <= y.c * max x.b y.b := Int.mul_le_mul_of_nonneg_left (by omega) (by omega)
 refine ⟨?_, ?_, ?_, ?_, ?_, ?_⟩ <;> dsimp only
 ·omega
 ·omega
 ·omega
 ·omega
 ·rw [Int.add_mul]; omega
 ·rw [Int.add_mul]; omega
theorem Fitm.mid {x y : Sm} {w : Int} (hx : x = zero ∨ Fitm x) (hy : y = zero ∨ Fitm y) (hw : -1099511627776 <= w /\ w <= 1099511627776) : Fitm (Go.Proofs.Ytjnkgakajenoaaa.jn (Go.Proofs.Ytjnkgakajenoaaa.jn x (Go.Proofs.Ytjnkgakajenoaaa.one w)) y) := by
 have h1 : Fitm (Go.Proofs.Ytjnkgakajenoaaa.jn x (Go.Proofs.Ytjnkgakajenoaaa.one w)) := by
  rcases hx with rfl | hx
  ·rw [jn_zero_left]; exact Fitm.one hw
  ·exact hx.jn (Fitm.one hw)
 rcases hy with rfl | hy
 ·rw [jn_zero_right ⟨by have := h1.c1; omega, fun e => by have := h1.c1; omega⟩]; exact h1
 ·exact h1.jn hy
theorem Lc.fit0 (h : Lc S n T G) (x : Nat) : (S x).sm = zero ∨ Fitm (S x).sm := by
 by_cases hx : Th T x
 ·exact .inr (h.loc x hx).fit
 ·rw [h.out x hx]; exact .inl rfl
theorem Lc.wt_bd (h : Lc S n T G) (x : Nat) : -1099511627776 <= (S x).wt /\ (S x).wt <= 1099511627776 := by
 by_cases hx : Th T x
 ·have F := (h.loc x hx).fit
  have a := h.ab hx
  have := F.lo; have := F.hi; omega
 ·rw [h.out x hx]; simp [Sl.zero]
theorem En.side {β : Bool} (s : Bool) {x : Sl} (h : En G β x.l x.r t) : En G (β != s) (nr s x) (fr s x) t := by
 cases s
 ·cases β <;> exact h
 ·cases β <;> exact h.flip
theorem En.unside {β : Bool} (s : Bool) {x : Sl} (h : En G (β != s) (nr s x) (fr s x) t) : En G β x.l x.r t := by
 cases s
 ·cases β <;> exact h
 ·cases β
  ·exact h.flip
  ·exact h.flip
theorem sm_side (s : Bool) (w d : Int) (x : Sl) (ok : ∀ y, (S y).sm.ok) : jn (jn (lf (S x.l).sm d) (one w)) (lf (S x.r).sm d) = jn (jn (lf (S (nr s x)).sm d) (one w)) (lf (S (fr s x)).sm d) := by
 cases s
 ·rfl
 ·have hl := ok_lf (ok x.l) d
  have hr := ok_lf (ok x.r) d
  show _ = jn (jn (lf (S x.r).sm d) (one w)) (lf (S x.l).sm d)
  rw [jn_comm (ok_jn hl (ok_one w)) hr, jn_comm hl (ok_one w), jn_assoc hr (ok_one w) hl]
theorem hu_side (s : Bool) (x : Sl) (g : Ms) : (⟨(S x.l).hu.c + g.c + (S x.r).hu.c, (S x.l).hu.w + g.w + (S x.r).hu.w⟩ : Ms) = ⟨(S (nr s x)).hu.c + g.c + (S (fr s x)).hu.c, (S (nr s x)).hu.w + g.w + (S (fr s x)).hu.w⟩ := by
 cases s
 ·rfl
 ·show _ = (⟨(S x.r).hu.c + g.c + (S x.l).hu.c, (S x.r).hu.w + g.w + (S x.l).hu.w⟩ : Ms)
  congr 1 <;> omega
theorem kid_side (s : Bool) (x : Sl) {k : Nat} : (k = x.l ∨ k = x.r) ↔ (k = nr s x ∨ k = fr s x) := by cases s <;> simp [nr, fr, or_comm]
structure Rot (s : Bool) (S S1 : Ss) (t u o A M B : Nat) : Prop where
 all : ∀ x, (S1 x).wt = (S x).wt /\ (S1 x).wa = (S x).wa /\ (S1 x).tn = (S x).tn /\ (S1 x).hg = (S x).hg
 upt : (S1 t).up = o
 upu : (S1 u).up = t
 upM : M ≠ 0 -> (S1 M).up = u
 upx : ∀ x, x ≠ t -> x ≠ u -> (x ≠ M ∨ M = 0) -> (S1 x).up = (S x).up
 nt : nr s (S1 t) = A
 ft : fr s (S1 t) = u
 nu : nr s (S1 u) = M
 fu : fr s (S1 u) = B
 lx : ∀ x, x ≠ t -> x ≠ u -> (S1 x).l = (if (S x).l = u then t else (S x).l) /\ (S1 x).r = (if (S x).r = u then t else (S x).r)
 sx : ∀ x, x ≠ t -> x ≠ u -> (S1 x).sm = (S x).sm /\ (S1 x).hu = (S x).hu
 su : (S1 u).sm = jn (jn (S1 (S1 u).l).sm (one (S u).wt)) (S1 (S1 u).r).sm
 hu : (S1 u).hu = ⟨(S1 (S1 u).l).hu.c + (S u).hg.c + (S1 (S1 u).r).hu.c, (S1 (S1 u).l).hu.w + (S u).hg.w + (S1 (S1 u).r).hu.w⟩
 st : (S1 t).sm = jn (jn (S1 (S1 t).l).sm (one (S t).wt)) (S1 (S1 t).r).sm
 ht : (S1 t).hu = ⟨(S1 (S1 t).l).hu.c + (S t).hg.c + (S1 (S1 t).r).hu.c, (S1 (S1 t).l).hu.w + (S t).hg.w + (S1 (S1 t).r).hu.w⟩
def rotG (G : Gh) (β : Bool) (t u M : Nat) : Gh :=
 if β then { G with la := updF G.la u (if M = 0 then u else G.la M), fi := updF G.fi t (G.fi u) }
 else { G with fi := updF G.fi u (if M = 0 then u else G.fi M), la := updF G.la t (G.la u) }
theorem rotG_f (G : Gh) (β : Bool) (t u M : Nat) : (rotG G β t u M).f β = updF (G.f β) u (if M = 0 then u else G.f β M) /\ (rotG G β t u M).g β = updF (G.g β) t (G.g β u) /\ (rotG G β t u M).nx β = G.nx β /\ (rotG G β t u M).b = G.b /\ (rotG G β t u M).a = G.a /\ (rotG G β t u M).pn = G.pn := by
 cases β <;> simp [rotG, Gh.f, Gh.g] <;> rfl
theorem rotG_x (G : Gh) (β : Bool) {t u M x : Nat} (h1 : x ≠ t) (h2 : x ≠ u) : (rotG G β t u M).fi x = G.fi x /\ (rotG G β t u M).la x = G.la x := by
 cases β <;> simp [rotG, updF, h1, h2]
theorem rotG_t (G : Gh) (β : Bool) {t u M : Nat} (h : t ≠ u) (hf : G.f β u = G.f β t) : (rotG G β t u M).fi t = G.fi u /\ (rotG G β t u M).la t = G.la u := by
 cases β <;> simp [rotG, updF, h] <;> simp [Gh.f] at hf <;> exact hf.symm
set_option maxHeartbeats 4000000 in
theorem Lc.rot (h : Lc S n T G) (ht : Th T t) (hu : Th T u) (ku : nr s (S u) = t) (kA : nr s (S t) = A) (kM : fr s (S t) = M) (kB : fr s (S u) = B) (ko : (S u).up = o)
  (nt : (S t).tn = false) (wt : (S t).wa = 0) (nu : (S u).tn = false) (wu : (S u).wa = 0) (R : Rot s S S1 t u o A M B) :
  Lc S1 n T (rotG G (G.b u != s) t u M) /\ (S1 t).sm = (S u).sm /\ t ≠ u /\ (rotG G (G.b u != s) t u M).fi t = G.fi u /\ (rotG G (G.b u != s) t u M).la t = G.la u /\ (∀ x, Th T x -> Top S x -> x ≠ u -> Top S1 x /\ (S1 x).up = (S x).up /\ x ≠ t) /\ (Top S1 t ↔ Top S u) := by
 have Lt := h.loc t ht
 have Lu := h.loc u hu
 have t0 : t ≠ 0 := by have := ht.1; omega
 have u0 : u ≠ 0 := by have := hu.1; omega
 have kt : t = (S u).l ∨ t = (S u).r := (kid_side s _).2 (.inl ku.symm)
 have Kt : Ki S T G u t := h.up_kid hu kt t0
 have tu : t ≠ u := h.kid_ne hu kt
 have cA : A = (S t).l ∨ A = (S t).r := (kid_side s _).2 (.inl kA.symm)
 have cM : M = (S t).l ∨ M = (S t).r := (kid_side s _).2 (.inr kM.symm)
 have cB : B = (S u).l ∨ B = (S u).r := (kid_side s _).2 (.inr kB.symm)
 have ctu : (S t).sm.c < (S u).sm.c := by rcases kt with e | e <;> rw [e]; exact h.cl hu; exact h.cr hu
 have cAt : (S A).sm.c < (S t).sm.c := by rcases cA with e | e <;> rw [e]; exact h.cl ht; exact h.cr ht
 have cMt : (S M).sm.c < (S t).sm.c := by rcases cM with e | e <;> rw [e]; exact h.cl ht; exact h.cr ht
 have At : A ≠ t := fun e => by rw [e] at cAt; omega
 have Au : A ≠ u := fun e => by rw [e] at cAt; omega
 have Mt : M ≠ t := fun e => by rw [e] at cMt; omega
 have Mu : M ≠ u := fun e => by rw [e] at cMt; omega
 have Bu : B ≠ u := h.kid_ne hu cB
 have Bt : B ≠ t := fun e => by
  have := Lu.lr
  have e1 : nr s (S u) = fr s (S u) := by rw [ku, kB, e]
  cases s
  ·exact t0 (by rw [← ku]; exact this e1)
  ·exact t0 (by rw [← ku]; exact (e1.trans (this e1.symm)))
 have KA : A ≠ 0 -> Ki S T G t A := fun e => h.up_kid ht cA e
 have KM : M ≠ 0 -> Ki S T G t M := fun e => h.up_kid ht cM e
 have KB : B ≠ 0 -> Ki S T G u B := fun e => h.up_kid hu cB e
 have MA : M ≠ 0 -> A ≠ M := fun e e' => by
  have e1 : nr s (S t) = fr s (S t) := by rw [kA, kM, e']
  have := Lt.lr
  cases s
  ·exact e (by rw [← e', ← kA]; exact this e1)
  ·exact e (by rw [← kM]; exact this e1.symm)
 have MB : M ≠ 0 -> B ≠ M := fun e e' => by
  have h1 := (KM e).up
  have h2 := (KB (by omega)).up
  rw [e'] at h2; omega
 have bt : G.b t = G.b u := by rw [Kt.b, nu]; simp
 have a_t : G.a t = G.a u := by rw [Kt.a, wu]; simp
 have ou : o ≠ u /\ o ≠ t := by
  by_cases hT : Top S u
  ·have h1 := h.up_dp hu hT
   have h2 : G.fi u ∈ U T u := h.fi_in hu
   have h3 : G.fi u ∈ U T t := h.fi_kid hu kt t0
   have h4 := U_dp h.wf h2
   have h5 := U_dp h.wf h3
   rw [ko] at h1
   refine ⟨fun e => ?_, fun e => ?_⟩
   ·rw [e] at h1; rcases h4 with e4 | e4
    ·rw [e4] at h1; omega
    ·omega
   ·rw [e] at h1; rcases h5 with e4 | e4
    ·rw [e4] at h1; omega
    ·omega
  ·obtain ⟨h1, h2, h3⟩ := h.nt_up hu hT
   rw [ko] at h3
   refine ⟨fun e => ?_, fun e => ?_⟩ <;> rw [e] at h3 <;> omega
 have enu := Lu.en.side s
 have ent := Lt.en.side s
 rw [bt] at ent
 rw [ku, kB] at enu
 rw [kA, kM] at ent
 generalize hβ : (G.b u != s) = β at *
 obtain ⟨gf, gg, gn, gb, ga, gp⟩ := rotG_f G β t u M
 have fut : G.f β u = G.f β t := (enu.l1 t0).1
 obtain ⟨fit, lat⟩ := rotG_t G β (M := M) tu fut
 have fgt : ∀ γ, (rotG G β t u M).f γ t = G.f γ u /\ (rotG G β t u M).g γ t = G.g γ u := fun γ => by cases γ <;> simp [Gh.f, Gh.g, fit, lat]
 have fgx : ∀ γ x, x ≠ t -> x ≠ u -> (rotG G β t u M).f γ x = G.f γ x /\ (rotG G β t u M).g γ x = G.g γ x := fun γ x h1 h2 => by
  obtain ⟨q1, q2⟩ := rotG_x G β (M := M) h1 h2
  cases γ <;> simp [Gh.f, Gh.g, q1, q2]
 have fu' : (rotG G β t u M).f β u = (if M = 0 then u else G.f β M) := by rw [gf]; simp [updF]
 have gu' : (rotG G β t u M).g β u = G.g β u := by rw [gg]; simp [updF, Ne.symm tu]
 have smt := Lt.sm
 have smu := Lu.sm
 rw [sm_side s _ _ _ h.ok, kA, kM, wt, lf_zero, lf_zero] at smt
 rw [sm_side s _ _ _ h.ok, ku, kB, wu, lf_zero, lf_zero] at smu
 have hut := Lt.hu
 have huu := Lu.hu
 rw [hu_side s, kA, kM] at hut
 rw [hu_side s, ku, kB] at huu
 have sA := R.sx A At Au
 have sM := R.sx M Mt Mu
 have sB := R.sx B Bt Bu
 have oku : ∀ P : Nat, (P = M ∨ P = B) -> (S1 P).sm.ok := fun P hP => by
  rcases hP with rfl | rfl
  ·rw [sM.1]; exact h.ok _
  ·rw [sB.1]; exact h.ok _
 have su : (S1 u).sm = jn (jn (S M).sm (one (S u).wt)) (S B).sm := by
  have e := R.su
  cases s
  ·have e1 : (S1 u).l = M := R.nu
   have e2 : (S1 u).r = B := R.fu
   rw [e, e1, e2, sM.1, sB.1]
  ·have e1 : (S1 u).r = M := R.nu
   have e2 : (S1 u).l = B := R.fu
   rw [e, e1, e2, sM.1, sB.1, jn_comm (ok_jn (h.ok _) (ok_one _)) (h.ok _), jn_comm (h.ok _) (ok_one _), jn_assoc (h.ok _) (ok_one _) (h.ok _)]
 have oku1 : (S1 u).sm.ok := by rw [su]; exact ok_jn (ok_jn (h.ok _) (ok_one _)) (h.ok _)
 have st : (S1 t).sm = jn (jn (S A).sm (one (S t).wt)) (S1 u).sm := by
  have e := R.st
  cases s
  ·have e1 : (S1 t).l = A := R.nt
   have e2 : (S1 t).r = u := R.ft
   rw [e1, e2, sA.1] at e; exact e
  ·have e1 : (S1 t).r = A := R.nt
   have e2 : (S1 t).l = u := R.ft
   rw [e1, e2, sA.1] at e
   rw [e, jn_comm (ok_jn oku1 (ok_one _)) (h.ok _), jn_comm oku1 (ok_one _), jn_assoc (h.ok _) (ok_one _) oku1]
 have hu1 : (S1 u).hu = ⟨(S M).hu.c + (S u).hg.c + (S B).hu.c, (S M).hu.w + (S u).hg.w + (S B).hu.w⟩ := by
  have e := R.hu
  rw [hu_side s, R.nu, R.fu, sM.2, sB.2] at e; exact e
 have ht1 : (S1 t).hu = ⟨(S A).hu.c + (S t).hg.c + (S1 u).hu.c, (S A).hu.w + (S t).hg.w + (S1 u).hu.w⟩ := by
  have e := R.ht
  rw [hu_side s, R.nt, R.ft, sA.2] at e; exact e
 have stu : (S1 t).sm = (S u).sm := by
  have o1 := h.ok A
  have o2 := h.ok M
  have o3 := h.ok B
  rw [st, su, smu, smt]
  rw [jn_assoc (ok_jn (ok_jn o1 (ok_one _)) o2) (ok_one _) o3, jn_assoc (ok_jn o1 (ok_one _)) o2 (ok_jn (ok_one _) o3), jn_assoc o2 (ok_one _) o3]
 have htu : (S1 t).hu = (S u).hu := by
  rw [ht1, hu1, huu, hut]
  dsimp only
  congr 1 <;> omega
 have smx : ∀ j, (S1 (if j = u then t else j)).sm = (S j).sm /\ (S1 (if j = u then t else j)).hu = (S j).hu ∨ j = t := fun j => by
  by_cases e : j = u
  ·subst e; rw [if_pos rfl]; exact .inl ⟨stu, htu⟩
  ·by_cases e2 : j = t
   ·exact .inr e2
   ·rw [if_neg e]; exact .inl (R.sx j e2 e)
 have TT : Top S1 t ↔ Top S u := by
  unfold Top
  rw [R.upt, ko, (R.lx o ou.2 ou.1).1, (R.lx o ou.2 ou.1).2]
  have e1 : (S o).l ≠ t := fun e => by
   by_cases ho : Th T o
   ·have := (h.up_kid ho (.inl e.symm) t0).up; rw [Kt.up] at this; omega
   ·rw [h.out o ho] at e; exact t0 e.symm
  have e2 : (S o).r ≠ t := fun e => by
   by_cases ho : Th T o
   ·have := (h.up_kid ho (.inr e.symm) t0).up; rw [Kt.up] at this; omega
   ·rw [h.out o ho] at e; exact t0 e.symm
  by_cases q1 : (S o).l = u <;> by_cases q2 : (S o).r = u <;> simp [q1, q2, e1, e2]
 have Tx : ∀ x, Th T x -> x ≠ t -> x ≠ u -> (x ≠ M ∨ M = 0) -> (Top S1 x ↔ Top S x) := fun x hx h1 h2 h3 => by
  unfold Top
  rw [R.upx x h1 h2 h3]
  have x0 : x ≠ 0 := by have := hx.1; omega
  have sd : ∀ (X : Sl), (X.l ≠ x /\ X.r ≠ x) ↔ (nr s X ≠ x /\ fr s X ≠ x) := fun X => by cases s <;> simp [nr, fr, and_comm]
  by_cases y1 : (S x).up = t
  ·rw [y1, sd, sd, R.nt, R.ft, kA, kM]
   have : M ≠ x := fun e => by rcases h3 with h3 | h3 <;> omega
   simp [this, Ne.symm h2]
  ·by_cases y2 : (S x).up = u
   ·rw [y2, sd, sd, R.nu, R.fu, ku, kB]
    have : M ≠ x := fun e => by rcases h3 with h3 | h3 <;> omega
    simp [this, Ne.symm h1]
   ·rw [(R.lx _ y1 y2).1, (R.lx _ y1 y2).2]
    have q : ∀ j : Nat, (if j = u then t else j) ≠ x ↔ j ≠ x := fun j => by
     by_cases e : j = u
     ·rw [if_pos e]; exact ⟨fun _ e' => h2 (e'.symm.trans e), fun _ e' => h1 e'.symm⟩
     ·rw [if_neg e]
    rw [q, q]
 have Mn : M ≠ 0 -> ¬ Top S1 M := fun e hT => by
  unfold Top at hT
  rw [R.upM e] at hT
  have := R.nu
  cases s
  ·exact hT.1 this
  ·exact hT.2 this
 have un : ¬ Top S1 u := fun hT => by
  unfold Top at hT
  rw [R.upu] at hT
  have := R.ft
  cases s
  ·exact hT.2 this
  ·exact hT.1 this
 refine ⟨⟨h.wf, h.ft, h.lt, h.n0, h.nn, fun x hx => ?_, by rw [gp]; exact h.p0, fun x hx => ?_⟩, stu, tu, fit, lat, fun x hx hT hxu => ?_, TT⟩
 ·have h1 : x ≠ t := fun e => hx (by rw [e]; exact ht)
  have h2 : x ≠ u := fun e => hx (by rw [e]; exact hu)
  have h3 : x ≠ M ∨ M = 0 := by
   by_cases e : M = 0
   ·exact .inr e
   ·exact .inl fun e' => hx (by rw [e']; exact (KM e).th)
  have z := h.out x hx
  obtain ⟨q1, q2, q3, q4⟩ := R.all x
  obtain ⟨q5, q6⟩ := R.lx x h1 h2
  obtain ⟨q7, q8⟩ := R.sx x h1 h2
  have q9 := R.upx x h1 h2 h3
  rw [z] at q1 q2 q3 q4 q5 q6 q7 q8 q9
  have zl : Sl.zero.l = 0 := rfl
  have zr : Sl.zero.r = 0 := rfl
  rw [zl, if_neg (Ne.symm u0)] at q5
  rw [zr, if_neg (Ne.symm u0)] at q6
  cases hh : S1 x with
  | mk up l r tn wt wa sm hg hu' =>
   rw [hh] at q1 q2 q3 q4 q5 q6 q7 q8 q9
   simp only at q1 q2 q3 q4 q5 q6 q7 q8 q9
   subst q1 q2 q3 q4 q5 q6 q7 q8 q9
   rfl
 ·have Lx := h.loc x hx
  have x0 : x ≠ 0 := by have := hx.1; omega
  obtain ⟨w1, w2, w3, w4⟩ := R.all x
  by_cases e1 : x = t
  ·subst e1
   have kk : ∀ j, j = (S1 x).l ∨ j = (S1 x).r -> j ≠ 0 -> Ki S1 T (rotG G β x u M) x j := fun j hj j0 => by
    rw [kid_side s, R.nt, R.ft] at hj
    rcases hj with rfl | rfl
    ·have K := KA j0
     exact ⟨K.th, by rw [R.upx j At Au (by by_cases e : M = 0; exact .inr e; exact .inl (MA e))]; exact K.up, by rw [gb, w3]; exact K.b, by rw [ga, w2]; exact K.a⟩
    ·exact ⟨hu, R.upu, by rw [gb, w3, nt, bt]; simp, by rw [ga, w2, wt, a_t]; simp⟩
   refine ⟨fun e => kk _ (.inl rfl) e, fun e => kk _ (.inr rfl) e, ?_, ?_, by rw [gp]; exact Lx.nx, by rw [w1, ga]; exact Lx.wt, ?_, by rw [stu]; exact Lu.fit, by rw [w4]; exact R.ht, by rw [w4, gp]; exact Lx.hgc, by rw [w4, gp]; exact Lx.hgw, ?_, ?_⟩
   ·have a1 := R.nt
    have a2 := R.ft
    cases s
    ·intro e; exact absurd (show A = u by rw [← a1, ← a2]; exact e) Au
    ·intro e; exact absurd (show A = u by rw [← a1, ← a2]; exact e.symm) Au
   ·rw [gb]
    refine En.unside s ?_
    rw [bt, hβ, R.nt, R.ft]
    refine ⟨fun e => ?_, fun e => ?_, fun e => absurd e u0, fun _ => ⟨?_, ?_⟩⟩
    ·rw [(fgt β).1, fut]; exact ent.l0 e
    ·rw [(fgt β).1, fut, (fgx β A At Au).1, (fgx β A At Au).2, gn]; exact ent.l1 e
    ·rw [(fgt β).2, gu']
    ·rw [fu', gn]
     by_cases m : M = 0
     ·rw [if_pos m]; have := (enu.l1 x0).2; rwa [ent.r0 m] at this
     ·rw [if_neg m]; exact (ent.r1 m).2
   ·rw [w1, w2, wt, lf_zero, lf_zero]; exact R.st
   ·intro _ _; rw [w3, w2]; exact ⟨nt, wt⟩
   ·intro hT
    have P := Lu.tp (TT.1 hT)
    exact ⟨by rw [gb, bt]; exact P.b, by rw [ga, a_t]; exact P.a, by rw [fit, R.upt, ← ko]; exact P.fi, by rw [gp, lat]; exact P.pn, by rw [gp, fit, R.upt, ← ko]; exact P.nv⟩
  ·by_cases e2 : x = u
   ·subst e2
    have kk : ∀ j, j = (S1 x).l ∨ j = (S1 x).r -> j ≠ 0 -> Ki S1 T (rotG G β t x M) x j := fun j hj j0 => by
     rw [kid_side s, R.nu, R.fu] at hj
     rcases hj with rfl | rfl
     ·have K := KM j0
      exact ⟨K.th, R.upM j0, by rw [gb, w3, nu, K.b, nt, bt], by rw [ga, w2, wu, K.a, wt, a_t]⟩
     ·have K := KB j0
      exact ⟨K.th, by rw [R.upx j Bt Bu (by by_cases e : M = 0; exact .inr e; exact .inl (MB e))]; exact K.up, by rw [gb, w3]; exact K.b, by rw [ga, w2]; exact K.a⟩
    refine ⟨fun e => kk _ (.inl rfl) e, fun e => kk _ (.inr rfl) e, ?_, ?_, by rw [gp]; exact Lx.nx, by rw [w1, ga]; exact Lx.wt, ?_, ?_, by rw [w4]; exact R.hu, by rw [w4, gp]; exact Lx.hgc, by rw [w4, gp]; exact Lx.hgw, ?_, fun hT => absurd hT un⟩
    ·have a1 := R.nu
     have a2 := R.fu
     have key : M = B -> M = 0 := fun e => Classical.byContradiction fun m => MB m e.symm
     cases s
     ·intro e
      have := key (by rw [← a1, ← a2]; exact e)
      show nr false (S1 x) = 0
      rw [a1]; exact this
     ·intro e
      have := key (by rw [← a1, ← a2]; exact e.symm)
      rw [e]; show nr true (S1 x) = 0
      rw [a1]; exact this
    ·rw [gb]
     refine En.unside s ?_
     rw [hβ, R.nu, R.fu]
     refine ⟨fun e => ?_, fun e => ?_, fun e => ?_, fun e => ?_⟩
     ·rw [fu', if_pos e]
     ·rw [fu', if_neg e, (fgx β M Mt Mu).1, (fgx β M Mt Mu).2, gn]
      refine ⟨rfl, ?_⟩
      have := (enu.l1 t0).2
      rwa [(ent.r1 e).1] at this
     ·rw [gu']; exact enu.r0 e
     ·rw [gu', (fgx β B Bt Bu).1, (fgx β B Bt Bu).2, gn]; exact enu.r1 e
    ·rw [w1, w2, wu, lf_zero, lf_zero]; exact R.su
    ·rw [su]; exact Fitm.mid (h.fit0 _) (h.fit0 _) (h.wt_bd _)
    ·intro _ _; rw [w3, w2]; exact ⟨nu, wu⟩
   .
    obtain ⟨l1, l2⟩ := R.lx x e1 e2
    obtain ⟨s1, s2⟩ := R.sx x e1 e2
    have nkt : ∀ j, j = (S x).l ∨ j = (S x).r -> j ≠ t := fun j hj e => by
     have := (h.up_kid hx hj (by omega)).up
     rw [e, Kt.up] at this; omega
    have nkM : ∀ j, j = (S x).l ∨ j = (S x).r -> j ≠ 0 -> j ≠ M := fun j hj j0 e => by
     have := (h.up_kid hx hj j0).up
     rw [e, (KM (by omega)).up] at this; omega
    have kk : ∀ j, j = (S x).l ∨ j = (S x).r -> (if j = u then t else j) ≠ 0 -> Ki S1 T (rotG G β t u M) x (if j = u then t else j) := fun j hj j0 => by
     by_cases e : j = u
     ·rw [if_pos e]
      have K := h.up_kid hx hj (by omega)
      rw [e] at K
      have : o = x := by rw [← ko]; exact K.up
      exact ⟨ht, by rw [R.upt]; exact this, by rw [gb, w3, bt]; exact K.b, by rw [ga, w2, a_t]; exact K.a⟩
     ·rw [if_neg e] at j0 ⊢
      have K := h.up_kid hx hj j0
      exact ⟨K.th, by rw [R.upx j (nkt j hj) e (.inl (nkM j hj j0))]; exact K.up, by rw [gb, w3]; exact K.b, by rw [ga, w2]; exact K.a⟩
    have smj : ∀ j, j = (S x).l ∨ j = (S x).r -> (S1 (if j = u then t else j)).sm = (S j).sm /\ (S1 (if j = u then t else j)).hu = (S j).hu := fun j hj => by
     rcases smx j with q | q
     ·exact q
     ·exact absurd q (nkt j hj)
    have z : ∀ j : Nat, (if j = u then t else j) = 0 ↔ j = 0 := fun j => by
     by_cases e : j = u
     ·rw [if_pos e]; omega
     ·rw [if_neg e]
    refine ⟨fun e => ?_, fun e => ?_, ?_, ?_, by rw [gp]; exact Lx.nx, by rw [w1, ga]; exact Lx.wt, ?_, by rw [s1]; exact Lx.fit, ?_, by rw [w4, gp]; exact Lx.hgc, by rw [w4, gp]; exact Lx.hgw, ?_, fun hT => ?_⟩
    ·rw [l1] at e ⊢; exact kk _ (.inl rfl) e
    ·rw [l2] at e ⊢; exact kk _ (.inr rfl) e
    ·rw [l1, l2, z]
     intro e
     refine Lx.lr ?_
     by_cases q1 : (S x).l = u <;> by_cases q2 : (S x).r = u
     ·omega
     ·rw [if_pos q1, if_neg q2] at e; exact absurd e.symm (nkt _ (.inr rfl))
     ·rw [if_neg q1, if_pos q2] at e; exact absurd e (nkt _ (.inl rfl))
     ·rw [if_neg q1, if_neg q2] at e; exact e
    ·rw [gb, l1, l2]
     have en := Lx.en
     have kf : ∀ j, j = (S x).l ∨ j = (S x).r -> ∀ γ, (rotG G β t u M).f γ (if j = u then t else j) = G.f γ j /\ (rotG G β t u M).g γ (if j = u then t else j) = G.g γ j := fun j hj γ => by
      by_cases e : j = u
      ·rw [if_pos e, e]; exact fgt γ
      ·rw [if_neg e]; exact fgx γ j (nkt j hj) e
     have nxx : (rotG G β t u M).nx = G.nx := by funext γ; unfold Gh.nx; rw [gp]
     refine ⟨fun e => ?_, fun e => ?_, fun e => ?_, fun e => ?_⟩
     ·rw [(fgx _ x e1 e2).1]; exact en.l0 ((z _).1 e)
     ·rw [(fgx _ x e1 e2).1, (kf _ (.inl rfl) _).1, (kf _ (.inl rfl) _).2, nxx]; exact en.l1 (fun e' => e ((z _).2 e'))
     ·rw [(fgx _ x e1 e2).2]; exact en.r0 ((z _).1 e)
     ·rw [(fgx _ x e1 e2).2, (kf _ (.inr rfl) _).1, (kf _ (.inr rfl) _).2, nxx]; exact en.r1 (fun e' => e ((z _).2 e'))
    ·rw [l1, l2, w1, w2, s1, (smj _ (.inl rfl)).1, (smj _ (.inr rfl)).1]; exact Lx.sm
    ·rw [l1, l2, w4, s2, (smj _ (.inl rfl)).2, (smj _ (.inr rfl)).2]; exact Lx.hu
    ·rw [l1, l2, z, z, w3, w2]; exact Lx.id
    ·by_cases hM : x = M /\ M ≠ 0
     ·rw [hM.1] at hT; exact absurd hT (Mn hM.2)
     ·have h3 : x ≠ M ∨ M = 0 := by omega
      have P := Lx.tp ((Tx x hx e1 e2 h3).1 hT)
      obtain ⟨q1, q2⟩ := rotG_x G β (M := M) e1 e2
      exact ⟨by rw [gb]; exact P.b, by rw [ga]; exact P.a, by rw [q1, R.upx x e1 e2 h3]; exact P.fi, by rw [gp, q2]; exact P.pn, by rw [gp, q1, R.upx x e1 e2 h3]; exact P.nv⟩
 ·have e1 : x ≠ t := fun e => by
   rw [e] at hT
   exact Kt.nt (by rcases kt with e | e <;> simp [← e]) hT
  have h3 : x ≠ M ∨ M = 0 := by
   by_cases m : M = 0
   ·exact .inr m
   ·exact .inl fun e => by
     rw [e] at hT
     exact (KM m).nt (by rcases cM with e | e <;> simp [← e]) hT
  exact ⟨(Tx x hx e1 hxu h3).2 hT, R.upx x e1 hxu h3, e1⟩
end
def overS (S : Ss) (o u t : Nat) : Ss := if (S o).l = u then upd S o { S o with l := t } else if (S o).r = u then upd S o { S o with r := t } else S
def leftS (S : Ss) (t u : Nat) : Ss := holdS (holdS S u (S t).r (S u).r) t ((holdS S u (S t).r (S u).r) t).l u
def rightS (S : Ss) (t u : Nat) : Ss := holdS (holdS S u (S u).l (S t).l) t u ((holdS S u (S u).l (S t).l) t).r
def sideS (S : Ss) (t u : Nat) : Ss := if (S u).l = t then leftS S t u else rightS S t u
def atS (S : Ss) (t o : Nat) : Ss := upd S t { S t with up := o }
def rotS (S : Ss) (t : Nat) : Ss := atS (sideS (overS S (S (S t).up).up (S t).up t) t (S t).up) t (S (S t).up).up
structure Bz (z : Sl) : Prop where
 c : 0 <= z.sm.c /\ z.sm.c <= 1048576
 s : -1152921504606846976 <= z.sm.s /\ z.sm.s <= 1152921504606846976
 uc : 0 <= z.hu.c /\ z.hu.c <= 1048576
 uw : -1152921504606846976 <= z.hu.w /\ z.hu.w <= 1152921504606846976
 gc : 0 <= z.hg.c /\ z.hg.c <= 1048576
 gw : -1152921504606846976 <= z.hg.w /\ z.hg.w <= 1152921504606846976
 wt : -1099511627776 <= z.wt /\ z.wt <= 1099511627776
section
variable {S S1 : Ss} {n : Nat} {T : Tr} {G G1 : Gh} {t u o A M B x y k l r : Nat} {d : Int} {s : Bool}
theorem jn_s_bd (a b : Sm) : (jn a b).s = a.s ∨ (jn a b).s = b.s ∨ (jn a b).s = a.s + b.s := by
 unfold jn; split
 ·exact .inr (.inl rfl)
 ·split
  ·exact .inl rfl
  ·exact .inr (.inr rfl)
theorem gbd_of (hl : Bz (S (S t).l)) (hr : Bz (S (S t).r)) (ht : Bz (S t)) : Gbd S t := by
 have a1 := hl.c; have a2 := hl.s; have a3 := hl.uc; have a4 := hl.uw
 have b1 := hr.c; have b2 := hr.s; have b3 := hr.uc; have b4 := hr.uw
 have c1 := ht.gc; have c2 := ht.gw; have c3 := ht.wt
 have j := jn_s_bd (S (S t).l).sm (one (S t).wt)
 rw [one_s] at j
 refine ⟨⟨by omega, by omega⟩, ⟨by omega, by omega⟩, ⟨?_, ?_⟩, ⟨by omega, by omega⟩, ⟨by omega, by omega⟩, ⟨by omega, by omega⟩, ⟨by omega, by omega⟩, ⟨by omega, by omega⟩⟩ <;> rw [jn_c, one_c] <;> omega
theorem Mb.bd {m : Ms} (h : Mb m) (hc : m.c <= 1048576) : -1152921504606846976 <= m.w /\ m.w <= 1152921504606846976 := by
 unfold Mb at h; omega
theorem Lc.hg_c (h : Lc S n T G) (x : Nat) : 0 <= (S x).hg.c /\ (S x).hg.c <= 1048576 := by
 have h1 := h.hg_mb x
 by_cases hx : Th T x
 ·have u1 := congrArg Ms.c (h.loc x hx).hu
  dsimp only at u1
  have := h.hu_c (S x).l; have := h.hu_c (S x).r; have := h.hu_c x
  unfold Mb at h1; omega
 ·rw [h.out x hx]; simp [Sl.zero]
theorem Lc.bz (h : Lc S n T G) (x : Nat) : Bz (S x) := by
 have h1 := h.sm_bd x
 exact ⟨⟨h1.1, h1.2.1⟩, ⟨h1.2.2.1, h1.2.2.2.1⟩, h.hu_c x, (h.hu_mb x).bd (h.hu_c x).2, h.hg_c x, (h.hg_mb x).bd (h.hg_c x).2, h.wt_bd x⟩
theorem upS_at (S : Ss) (u t x : Nat) : upS S u t x = if x ≠ 0 /\ x = u then { S x with up := t } else S x := by
 unfold upS
 by_cases e : u = 0
 ·subst e; rw [if_pos rfl, if_neg (by omega)]
 ·rw [if_neg e]
  by_cases e2 : x = u
  ·subst e2; rw [upd_same, if_pos ⟨e, rfl⟩]
  ·rw [upd_ne _ _ e2, if_neg (fun h => e2 h.2)]
theorem besideS_at (S : Ss) {t l r : Nat} (hl : l ≠ t) (hr : r ≠ t) (x : Nat) : besideS S t l r x = if x = t then { S t with l := l, r := r } else if x ≠ 0 /\ (x = l ∨ x = r) then { S x with up := t } else S x := by
 unfold besideS
 rw [upS_at, upS_at]
 by_cases e : x = t
 ·subst e
  rw [if_pos rfl, if_neg (fun h => hr h.2.symm), if_neg (fun h => hl h.2.symm), upd_same]
 ·rw [if_neg e, upd_ne _ _ e]
  by_cases e0 : x = 0
  ·simp [e0]
  ·by_cases e2 : x = r
   ·rw [if_pos (show x ≠ 0 /\ x = r from ⟨e0, e2⟩), if_pos (show x ≠ 0 /\ (x = l ∨ x = r) from ⟨e0, .inr e2⟩)]
    split <;> rfl
   ·rw [if_neg (fun h => e2 h.2)]
    by_cases e1 : x = l
    ·rw [if_pos (show x ≠ 0 /\ x = l from ⟨e0, e1⟩), if_pos (show x ≠ 0 /\ (x = l ∨ x = r) from ⟨e0, .inl e1⟩)]
    ·rw [if_neg (show ¬ (x ≠ 0 /\ x = l) from fun h => e1 h.2), if_neg (show ¬ (x ≠ 0 /\ (x = l ∨ x = r)) from fun h => h.2.elim e1 e2)]
theorem holdS_at (S : Ss) {t l r : Nat} (hl : l ≠ t) (hr : r ≠ t) (x : Nat) : holdS S t l r x = if x = t then { S t with l := l, r := r, sm := jn (jn (S l).sm (one (S t).wt)) (S r).sm, hu := ⟨(S l).hu.c + (S t).hg.c + (S r).hu.c, (S l).hu.w + (S t).hg.w + (S r).hu.w⟩ } else if x ≠ 0 /\ (x = l ∨ x = r) then { S x with up := t } else S x := by
 unfold holdS gatherS
 have bt := besideS_at S hl hr t
 rw [if_pos rfl] at bt
 have bs : ∀ y, y ≠ t -> (besideS S t l r y).sm = (S y).sm /\ (besideS S t l r y).hu = (S y).hu := fun y hy => by
  rw [besideS_at S hl hr, if_neg hy]; split <;> simp
 by_cases e : x = t
 ·subst e
  rw [upd_same, if_pos rfl]
  unfold gSm gHu
  rw [bt]
  dsimp only
  rw [(bs l hl).1, (bs r hr).1, (bs l hl).2, (bs r hr).2]
 ·rw [upd_ne _ _ e, if_neg e, besideS_at S hl hr, if_neg e]
structure Ard (s : Bool) (S : Ss) (t u o A M B : Nat) : Prop where
 t0 : t ≠ 0
 u0 : u ≠ 0
 tu : t ≠ u
 ot : o ≠ t
 ou : o ≠ u
 At : A ≠ t
 Au : A ≠ u
 Mt : M ≠ t
 Mu : M ≠ u
 Bt : B ≠ t
 Bu : B ≠ u
 upt : (S t).up = u
 upu : (S u).up = o
 ku : nr s (S u) = t
 kA : nr s (S t) = A
 kM : fr s (S t) = M
 kB : fr s (S u) = B
 uA : A ≠ 0 -> (S A).up = t
 uM : M ≠ 0 -> (S M).up = t
 uB : B ≠ 0 -> (S B).up = u
 MA : M ≠ 0 -> A ≠ M
 oth : ∀ x, x ≠ o -> (S x).l ≠ u /\ (S x).r ≠ u
 lro : (S o).l = u -> (S o).r ≠ u
theorem overS_f (D : Ard s S t u o A M B) (x : Nat) : (overS S o u t x).up = (S x).up /\ (overS S o u t x).tn = (S x).tn /\ (overS S o u t x).wt = (S x).wt /\ (overS S o u t x).wa = (S x).wa /\ (overS S o u t x).sm = (S x).sm /\ (overS S o u t x).hg = (S x).hg /\ (overS S o u t x).hu = (S x).hu /\ (overS S o u t x).l = (if (S x).l = u then t else (S x).l) /\ (overS S o u t x).r = (if (S x).r = u then t else (S x).r) := by
 unfold overS
 by_cases e : x = o
 ·subst e
  by_cases e1 : (S x).l = u
  ·have := D.lro e1
   simp [e1, this, upd_same]
  ·by_cases e2 : (S x).r = u
   ·simp [e1, e2, upd_same]
   ·simp [e1, e2]
 ·obtain ⟨h1, h2⟩ := D.oth x e
  rw [if_neg h1, if_neg h2]
  split
  ·rw [upd_ne _ _ e]; simp
  ·split
   ·rw [upd_ne _ _ e]; simp
   ·simp
theorem overS_ne (S : Ss) {o u t x : Nat} (h : x ≠ o) : overS S o u t x = S x := by
 unfold overS; split
 ·exact upd_ne _ _ h
 ·split
  ·exact upd_ne _ _ h
  ·rfl
theorem rotS_rot (D : Ard s S t u o A M B) : Rot s S (rotS S t) t u o A M B := by
 have F := overS_f D
 have E : ∀ x, x ≠ o -> overS S o u t x = S x := fun x hx => overS_ne S hx
 unfold rotS
 rw [D.upt, D.upu]
 generalize overS S o u t = S0 at F E ⊢
 have Et := E t (Ne.symm D.ot)
 have Eu := E u (Ne.symm D.ou)
 obtain ⟨t0, u0, tu, ot, ou, At, Au, Mt, Mu, Bt, Bu, upt, upu, ku, kA, kM, kB, uA, uM, uB, MA, oth, lro⟩ := D
 cases s
 ·have ku : (S u).l = t := ku
  have kA : (S t).l = A := kA
  have kM : (S t).r = M := kM
  have kB : (S u).r = B := kB
  have eX : ∀ x, holdS S0 u M B x = _ := holdS_at S0 Mu Bu
  have eXt : holdS S0 u M B t = S t := by
   rw [eX, if_neg tu, if_neg (by rintro ⟨_, h | h⟩; exact Mt h.symm; exact Bt h.symm), Et]
  unfold sideS leftS
  rw [Eu, Et, if_pos ku, kM, kB, eXt, kA]
  generalize holdS S0 u M B = X at eX eXt ⊢
  have eY : ∀ x, holdS X t A u x = _ := holdS_at X At (Ne.symm tu)
  generalize holdS X t A u = Y at eY ⊢
  have eXu := eX u
  rw [if_pos rfl, Eu] at eXu
  have eYt := eY t
  rw [if_pos rfl, eXt] at eYt
  have eYu := eY u
  rw [if_neg (Ne.symm tu), if_pos ⟨u0, .inr rfl⟩, eXu] at eYu
  have s1t : atS Y t o t = { Y t with up := o } := by unfold atS; exact upd_same _ _ _
  have s1x : ∀ x, x ≠ t -> atS Y t o x = Y x := fun x hx => by unfold atS; exact upd_ne _ _ hx
  generalize atS Y t o = S1 at s1t s1x ⊢
  have g : ∀ x, x ≠ t -> x ≠ u -> (S1 x).tn = (S x).tn /\ (S1 x).wt = (S x).wt /\ (S1 x).wa = (S x).wa /\ (S1 x).sm = (S x).sm /\ (S1 x).hg = (S x).hg /\ (S1 x).hu = (S x).hu /\ (S1 x).l = (if (S x).l = u then t else (S x).l) /\ (S1 x).r = (if (S x).r = u then t else (S x).r) /\ ((x ≠ M ∨ M = 0) -> (S1 x).up = (S x).up) := fun x h1 h2 => by
   rw [s1x x h1, eY, if_neg h1, eX, if_neg h2]
   obtain ⟨f1, f2, f3, f4, f5, f6, f7, f8, f9⟩ := F x
   by_cases a : x ≠ 0 /\ (x = A ∨ x = u) <;> by_cases b : x ≠ 0 /\ (x = M ∨ x = B) <;> (first | rw [if_pos a] | rw [if_neg a]) <;> (first | rw [if_pos b] | rw [if_neg b]) <;> refine ⟨f2, f3, f4, f5, f6, f7, f8, f9, fun hM => ?_⟩
   ·have : x = A := by omega
    subst this; exact (uA a.1).symm
   ·have : x = A := by omega
    subst this; exact (uA a.1).symm
   ·have : x = B := by omega
    subst this; exact (uB b.1).symm
   ·exact f1
  have ltu : (S1 t).l = A /\ (S1 t).r = u /\ (S1 u).l = M /\ (S1 u).r = B := by
   rw [s1t, s1x u (Ne.symm tu), eYt, eYu]; exact ⟨rfl, rfl, rfl, rfl⟩
  have XA : (X A).sm = (S A).sm /\ (X A).hu = (S A).hu := by
   rw [eX, if_neg Au]; obtain ⟨f1, f2, f3, f4, f5, f6, f7, f8, f9⟩ := F A
   split <;> exact ⟨f5, f7⟩
  refine ⟨fun x => ?_, ?_, ?_, fun m => ?_, fun x h1 h2 h3 => (g x h1 h2).2.2.2.2.2.2.2.2 h3, ltu.1, ltu.2.1, ltu.2.2.1, ltu.2.2.2, fun x h1 h2 => ⟨(g x h1 h2).2.2.2.2.2.2.1, (g x h1 h2).2.2.2.2.2.2.2.1⟩, fun x h1 h2 => ⟨(g x h1 h2).2.2.2.1, (g x h1 h2).2.2.2.2.2.1⟩, ?_, ?_, ?_, ?_⟩
  ·by_cases h1 : x = t
   ·subst h1; rw [s1t, eYt]; exact ⟨rfl, rfl, rfl, rfl⟩
   ·by_cases h2 : x = u
    ·subst h2; rw [s1x x h1, eYu]; exact ⟨rfl, rfl, rfl, rfl⟩
    ·have := g x h1 h2; exact ⟨this.2.1, this.2.2.1, this.1, this.2.2.2.2.1⟩
  ·rw [s1t]
  ·rw [s1x u (Ne.symm tu), eYu]
  ·rw [s1x M Mt, eY, if_neg Mt, if_neg (by rintro ⟨_, h | h⟩; exact MA m h.symm; exact Mu h), eX, if_neg Mu, if_pos ⟨m, .inl rfl⟩]
  ·rw [ltu.2.2.1, ltu.2.2.2, (g M Mt Mu).2.2.2.1, (g B Bt Bu).2.2.2.1, s1x u (Ne.symm tu), eYu, ← (F M).2.2.2.2.1, ← (F B).2.2.2.2.1]
  ·rw [ltu.2.2.1, ltu.2.2.2, (g M Mt Mu).2.2.2.2.2.1, (g B Bt Bu).2.2.2.2.2.1, s1x u (Ne.symm tu), eYu, ← (F M).2.2.2.2.2.2.1, ← (F B).2.2.2.2.2.2.1]
  ·rw [ltu.1, ltu.2.1, (g A At Au).2.2.2.1, s1t, eYt, ← XA.1, s1x u (Ne.symm tu), eYu, eXu]
  ·rw [ltu.1, ltu.2.1, (g A At Au).2.2.2.2.2.1, s1t, eYt, ← XA.2, s1x u (Ne.symm tu), eYu, eXu]
 ·have ku : (S u).r = t := ku
  have kA : (S t).r = A := kA
  have kM : (S t).l = M := kM
  have kB : (S u).l = B := kB
  have eX : ∀ x, holdS S0 u B M x = _ := holdS_at S0 Bu Mu
  have eXt : holdS S0 u B M t = S t := by
   rw [eX, if_neg tu, if_neg (by rintro ⟨_, h | h⟩; exact Bt h.symm; exact Mt h.symm), Et]
  unfold sideS rightS
  rw [Eu, Et, if_neg (by rw [kB]; exact Bt), kM, kB, eXt, kA]
  generalize holdS S0 u B M = X at eX eXt ⊢
  have eY : ∀ x, holdS X t u A x = _ := holdS_at X (Ne.symm tu) At
  generalize holdS X t u A = Y at eY ⊢
  have eXu := eX u
  rw [if_pos rfl, Eu] at eXu
  have eYt := eY t
  rw [if_pos rfl, eXt] at eYt
  have eYu := eY u
  rw [if_neg (Ne.symm tu), if_pos ⟨u0, .inl rfl⟩, eXu] at eYu
  have s1t : atS Y t o t = { Y t with up := o } := by unfold atS; exact upd_same _ _ _
  have s1x : ∀ x, x ≠ t -> atS Y t o x = Y x := fun x hx => by unfold atS; exact upd_ne _ _ hx
  generalize atS Y t o = S1 at s1t s1x ⊢
  have g : ∀ x, x ≠ t -> x ≠ u -> (S1 x).tn = (S x).tn /\ (S1 x).wt = (S x).wt /\ (S1 x).wa = (S x).wa /\ (S1 x).sm = (S x).sm /\ (S1 x).hg = (S x).hg /\ (S1 x).hu = (S x).hu /\ (S1 x).l = (if (S x).l = u then t else (S x).l) /\ (S1 x).r = (if (S x).r = u then t else (S x).r) /\ ((x ≠ M ∨ M = 0) -> (S1 x).up = (S x).up) := fun x h1 h2 => by
   rw [s1x x h1, eY, if_neg h1, eX, if_neg h2]
   obtain ⟨f1, f2, f3, f4, f5, f6, f7, f8, f9⟩ := F x
   by_cases a : x ≠ 0 /\ (x = u ∨ x = A) <;> by_cases b : x ≠ 0 /\ (x = B ∨ x = M) <;> (first | rw [if_pos a] | rw [if_neg a]) <;> (first | rw [if_pos b] | rw [if_neg b]) <;> refine ⟨f2, f3, f4, f5, f6, f7, f8, f9, fun hM => ?_⟩
   ·have : x = A := by omega
    subst this; exact (uA a.1).symm
   ·have : x = A := by omega
    subst this; exact (uA a.1).symm
   ·have : x = B := by omega
    subst this; exact (uB b.1).symm
   ·exact f1
  have ltu : (S1 t).r = A /\ (S1 t).l = u /\ (S1 u).r = M /\ (S1 u).l = B := by
   rw [s1t, s1x u (Ne.symm tu), eYt, eYu]; exact ⟨rfl, rfl, rfl, rfl⟩
  have XA : (X A).sm = (S A).sm /\ (X A).hu = (S A).hu := by
   rw [eX, if_neg Au]; obtain ⟨f1, f2, f3, f4, f5, f6, f7, f8, f9⟩ := F A
   split <;> exact ⟨f5, f7⟩
  refine ⟨fun x => ?_, ?_, ?_, fun m => ?_, fun x h1 h2 h3 => (g x h1 h2).2.2.2.2.2.2.2.2 h3, ltu.1, ltu.2.1, ltu.2.2.1, ltu.2.2.2, fun x h1 h2 => ⟨(g x h1 h2).2.2.2.2.2.2.1, (g x h1 h2).2.2.2.2.2.2.2.1⟩, fun x h1 h2 => ⟨(g x h1 h2).2.2.2.1, (g x h1 h2).2.2.2.2.2.1⟩, ?_, ?_, ?_, ?_⟩
  ·by_cases h1 : x = t
   ·subst h1; rw [s1t, eYt]; exact ⟨rfl, rfl, rfl, rfl⟩
   ·by_cases h2 : x = u
    ·subst h2; rw [s1x x h1, eYu]; exact ⟨rfl, rfl, rfl, rfl⟩
    ·have := g x h1 h2; exact ⟨this.2.1, this.2.2.1, this.1, this.2.2.2.2.1⟩
  ·rw [s1t]
  ·rw [s1x u (Ne.symm tu), eYu]
  ·rw [s1x M Mt, eY, if_neg Mt, if_neg (by rintro ⟨_, h | h⟩; exact Mu h; exact MA m h.symm), eX, if_neg Mu, if_pos ⟨m, .inr rfl⟩]
  ·rw [ltu.2.2.1, ltu.2.2.2, (g M Mt Mu).2.2.2.1, (g B Bt Bu).2.2.2.1, s1x u (Ne.symm tu), eYu, ← (F M).2.2.2.2.1, ← (F B).2.2.2.2.1]
  ·rw [ltu.2.2.1, ltu.2.2.2, (g M Mt Mu).2.2.2.2.2.1, (g B Bt Bu).2.2.2.2.2.1, s1x u (Ne.symm tu), eYu, ← (F M).2.2.2.2.2.2.1, ← (F B).2.2.2.2.2.2.1]
  ·rw [ltu.1, ltu.2.1, (g A At Au).2.2.2.1, s1t, eYt, ← XA.1, s1x u (Ne.symm tu), eYu, eXu]
  ·rw [ltu.1, ltu.2.1, (g A At Au).2.2.2.2.2.1, s1t, eYt, ← XA.2, s1x u (Ne.symm tu), eYu, eXu]
end
end Go.Proofs.Ytjnkgakajenoaaa
namespace Go.Proofs.Ytjnkgakajenoaaa
open Go.RowKit Go.Arb
set_option linter.unusedVariables false
set_option linter.unusedSimpArgs false
set_option maxRecDepth 100000
theorem blockN {P : Program} {R : Act -> World -> Prop} {a : Act} {w : World} {c : Code} {id : Nat} (h : c.wp P (Norm R) a w) : (Code.block id c).wp P (Norm R) a w :=
 wp_block (Code.wp_mono (fun e a w h => by cases e <;> first | exact h | exact h.elim) h)
set_option maxHeartbeats 4000000 in
theorem over89 {p g n cap room t u o : Nat} {S : Ss} {Q : Exit -> Act -> World -> Prop} {a0 : Act} {w0 w : World} (K0 : Kn a0 139 [(0, zp p 0), (1, zi t), (4, zi u), (5, zi o)]) (h : Pool w p g n cap room S) (hk : Keep [g] w0 w) (ht : t < n) (hu : u < n) (ho : o < n)
  (hN : ∀ a' W, Kn a' 139 [(0, zp p 0), (1, zi t), (4, zi u), (5, zi o)] -> Pool W p g n cap room (overS S o u t) -> Keep [g] w0 W -> Q .normal a' W) : (Code.seq (Code.region 2 (rg [1, 1, 0, 0] Try.f89).toArray false) (Code.block 0 (Code.seq (Code.region 3 (rg [1, 1, 0, 1, 0, 0] Try.f89).toArray false) (Code.cond (Operand.tmp 23) (Code.region 4 (rg [1, 1, 0, 1, 0, 1, 0] Try.f89).toArray false) (Code.seq (Code.region 5 (rg [1, 1, 0, 1, 0, 1, 1, 0] Try.f89).toArray false) (Code.cond (Operand.tmp 41) (Code.region 6 (rg [1, 1, 0, 1, 0, 1, 1, 1, 0] Try.f89).toArray false) Code.skip)))))).wp Try.prog Q a0 w := by
 have PH := hide h
 have KP := hide hk
 clear h hk
 refine lastN ?_
 refine seqN ?_
 have e1 : (0 : Int) <= (t : Int) := by omega
 have e2 : (t : Int) < (n : Int) := by omega
 have e3 : (0 : Int) <= (u : Int) := by omega
 have e4 : (u : Int) < (n : Int) := by omega
 have e5 : (0 : Int) <= (o : Int) := by omega
 have e6 : (o : Int) < (n : Int) := by omega
 refine wp_region_lit ?_
 refine lM K0 fun a1 K1 => ?_
 refine nilN ?_
 refine blockN ?_
 refine seqR ?_
 refine lM K1 fun a2 K2 => ?_
 clear K1
 refine lN K2 fun a3 K3 => ?_
 clear K2
 refine lF K3 FA66_1 fun a4 K4 => ?_
 clear K3
 refine lT (.slice (some ⟨g, 0, none⟩) n cap) w K4 (want_none rfl) (fun ev E => ?_) fun a5 K5 => ?_
 ·obtain ⟨c0, c1, _⟩ := (unhide PH).head; have E26 := E.tmp 26 _ rfl; clear E; clear PH KP hN; go_simp
 clear K4
 refine lM K5 fun a6 K6 => ?_
 clear K5
 refine lT (zp g (o * 14)) w K6 (want_none rfl) (fun ev E => ?_) fun a7 K7 => ?_
 ·have E27 := E.tmp 27 _ rfl; have E28 := E.tmp 28 _ rfl; clear E; clear PH KP hN; go_simp
 clear K6
 refine lF K7 FA75_1 fun a8 K8 => ?_
 clear K7
 refine lT (zi ((S o).l : Int)) w K8 (want_none rfl) (fun ev E => ?_) fun a9 K9 => ?_
 ·obtain ⟨s0, s1, s2, s3, s4, s5, s6, s7, s8, s9, s10, s11, s12, s13⟩ := (unhide PH).slot (t := o) (by assumption); have E30 := E.tmp 30 _ rfl; clear E; clear PH KP hN; go_simp
 clear K8
 by_cases b1 : (S o).l = u
 ·have i1 : (u : Int) = ((S o).l : Int) := by omega
  refine lT (.bool true) w K9 (want_none rfl) (fun ev E => ?_) fun a13 K13 => ?_
  ·have E22 := E.tmp 22 _ rfl; have E31 := E.tmp 31 _ rfl; clear E; clear PH KP hN; go_simp
  clear K9
  refine lA K13 fun a14 K14 => ?_
  clear K13
  refine nilN ?_
  clear i1
  refine knCond (b := true) K14 rfl ?_
  have K15 : Kn _ 139 [(0, zp p 0), (1, zi t), (4, zi u), (5, zi o)] := K14.less ⟨rfl, rfl, rfl, rfl, trivial⟩
  clear K14
  refine wp_region_lit ?_
  refine lM K15 fun a16 K16 => ?_
  clear K15
  refine lN K16 fun a17 K17 => ?_
  clear K16
  refine lF K17 FA66_1 fun a18 K18 => ?_
  clear K17
  refine lT (.slice (some ⟨g, 0, none⟩) n cap) w K18 (want_none rfl) (fun ev E => ?_) fun a19 K19 => ?_
  ·obtain ⟨c0, c1, _⟩ := (unhide PH).head; have E35 := E.tmp 35 _ rfl; clear E; clear PH KP hN; go_simp
  clear K18
  refine lM K19 fun a20 K20 => ?_
  clear K19
  refine lM K20 fun a21 K21 => ?_
  clear K20
  refine lT (zp g (o * 14)) w K21 (want_none rfl) (fun ev E => ?_) fun a22 K22 => ?_
  ·have E36 := E.tmp 36 _ rfl; have E37 := E.tmp 37 _ rfl; clear E; clear PH KP hN; go_simp
  clear K21
  refine lF K22 FA75_1 fun a23 K23 => ?_
  clear K22
  obtain ⟨_, sk, _, _, _, _, _, _, _, _, _, _, _, _⟩ := (unhide PH).slot ho
  obtain ⟨_, fk, _, _, _, _, _, _, _, _, _, _, _, _⟩ := (unhide PH).soft ho
  refine lstore (w' := w.setCell ⟨g, o * 14 + 1, none⟩ (zi t)) K23 rfl (want_none rfl) (fun ev E => ?_) ?_
  ·have E38 := E.tmp 38 _ rfl; have E40 := E.tmp 40 _ rfl; clear E; clear PH KP hN; go_simp
  clear sk fk
  have P1 := (unhide PH).put (t := o) ho 1 (by omega) { S o with l := t } (zi t) rfl
  have Q1 := (unhide KP).cellB (o * 14 + 1) (zi t)
  clear PH KP
  have PH := hide P1
  have KP := hide Q1
  clear P1 Q1
  generalize w.setCell ⟨g, o * 14 + 1, none⟩ (zi t) = W1 at *
  refine wpList_nil ?_
  refine hN _ _ (K23.less ⟨rfl, rfl, rfl, rfl, trivial⟩) ?_ (unhide KP)
  rw [overS, if_pos b1]
  exact unhide PH
 ·have i1 : ¬ (u : Int) = ((S o).l : Int) := by omega
  refine lT (.bool false) w K9 (want_none rfl) (fun ev E => ?_) fun a13 K13 => ?_
  ·have E22 := E.tmp 22 _ rfl; have E31 := E.tmp 31 _ rfl; clear E; clear PH KP hN; go_simp
  clear K9
  refine lA K13 fun a14 K14 => ?_
  clear K13
  refine nilN ?_
  clear i1
  refine knCond (b := false) K14 rfl ?_
  have K15 : Kn _ 139 [(0, zp p 0), (1, zi t), (4, zi u), (5, zi o), (22, zi u)] := K14.less ⟨rfl, rfl, rfl, rfl, rfl, trivial⟩
  clear K14
  refine seqR ?_
  refine lM K15 fun a16 K16 => ?_
  clear K15
  refine lN K16 fun a17 K17 => ?_
  clear K16
  refine lF K17 FA66_1 fun a18 K18 => ?_
  clear K17
  refine lT (.slice (some ⟨g, 0, none⟩) n cap) w K18 (want_none rfl) (fun ev E => ?_) fun a19 K19 => ?_
  ·obtain ⟨c0, c1, _⟩ := (unhide PH).head; have E44 := E.tmp 44 _ rfl; clear E; clear PH KP hN; go_simp
  clear K18
  refine lM K19 fun a20 K20 => ?_
  clear K19
  refine lT (zp g (o * 14)) w K20 (want_none rfl) (fun ev E => ?_) fun a21 K21 => ?_
  ·have E45 := E.tmp 45 _ rfl; have E46 := E.tmp 46 _ rfl; clear E; clear PH KP hN; go_simp
  clear K20
  refine lF K21 FA75_2 fun a22 K22 => ?_
  clear K21
  refine lT (zi ((S o).r : Int)) w K22 (want_none rfl) (fun ev E => ?_) fun a23 K23 => ?_
  ·obtain ⟨s0, s1, s2, s3, s4, s5, s6, s7, s8, s9, s10, s11, s12, s13⟩ := (unhide PH).slot (t := o) (by assumption); have E48 := E.tmp 48 _ rfl; clear E; clear PH KP hN; go_simp
  clear K22
  by_cases b2 : (S o).r = u
  ·have i1 : (u : Int) = ((S o).r : Int) := by omega
   refine lT (.bool true) w K23 (want_none rfl) (fun ev E => ?_) fun a27 K27 => ?_
   ·have E22 := E.tmp 22 _ rfl; have E49 := E.tmp 49 _ rfl; clear E; clear PH KP hN; go_simp
   clear K23
   refine lA K27 fun a28 K28 => ?_
   clear K27
   refine nilN ?_
   clear i1
   refine knCond (b := true) K28 rfl ?_
   have K29 : Kn _ 139 [(0, zp p 0), (1, zi t), (4, zi u), (5, zi o)] := K28.less ⟨rfl, rfl, rfl, rfl, trivial⟩
   clear K28
   refine wp_region_lit ?_
   refine lM K29 fun a30 K30 => ?_
   clear K29
   refine lN K30 fun a31 K31 => ?_
   clear K30
   refine lF K31 FA66_1 fun a32 K32 => ?_
   clear K31
   refine lT (.slice (some ⟨g, 0, none⟩) n cap) w K32 (want_none rfl) (fun ev E => ?_) fun a33 K33 => ?_
   ·obtain ⟨c0, c1, _⟩ := (unhide PH).head; have E53 := E.tmp 53 _ rfl; clear E; clear PH KP hN; go_simp
   clear K32
   refine lM K33 fun a34 K34 => ?_
   clear K33
   refine lM K34 fun a35 K35 => ?_
   clear K34
   refine lT (zp g (o * 14)) w K35 (want_none rfl) (fun ev E => ?_) fun a36 K36 => ?_
   ·have E54 := E.tmp 54 _ rfl; have E55 := E.tmp 55 _ rfl; clear E; clear PH KP hN; go_simp
   clear K35
   refine lF K36 FA75_2 fun a37 K37 => ?_
   clear K36
   obtain ⟨_, _, sk, _, _, _, _, _, _, _, _, _, _, _⟩ := (unhide PH).slot ho
   obtain ⟨_, _, fk, _, _, _, _, _, _, _, _, _, _, _⟩ := (unhide PH).soft ho
   refine lstore (w' := w.setCell ⟨g, o * 14 + 2, none⟩ (zi t)) K37 rfl (want_none rfl) (fun ev E => ?_) ?_
   ·have E56 := E.tmp 56 _ rfl; have E58 := E.tmp 58 _ rfl; clear E; clear PH KP hN; go_simp
   clear sk fk
   have P1 := (unhide PH).put (t := o) ho 2 (by omega) { S o with r := t } (zi t) rfl
   have Q1 := (unhide KP).cellB (o * 14 + 2) (zi t)
   clear PH KP
   have PH := hide P1
   have KP := hide Q1
   clear P1 Q1
   generalize w.setCell ⟨g, o * 14 + 2, none⟩ (zi t) = W1 at *
   refine wpList_nil ?_
   refine hN _ _ (K37.less ⟨rfl, rfl, rfl, rfl, trivial⟩) ?_ (unhide KP)
   rw [overS, if_neg b1, if_pos b2]
   exact unhide PH
  ·have i1 : ¬ (u : Int) = ((S o).r : Int) := by omega
   refine lT (.bool false) w K23 (want_none rfl) (fun ev E => ?_) fun a27 K27 => ?_
   ·have E22 := E.tmp 22 _ rfl; have E49 := E.tmp 49 _ rfl; clear E; clear PH KP hN; go_simp
   clear K23
   refine lA K27 fun a28 K28 => ?_
   clear K27
   refine nilN ?_
   refine knCond (b := false) K28 rfl (wp_skip (hN _ _ (K28.less ⟨rfl, rfl, rfl, rfl, trivial⟩) ?_ (unhide KP)))
   rw [overS, if_neg b1, if_neg b2]
   exact unhide PH
set_option maxHeartbeats 4000000 in
theorem side89 {p g n cap room t u o : Nat} {S : Ss} {Q : Exit -> Act -> World -> Prop} {a0 : Act} {w0 w : World} (K0 : Kn a0 139 [(0, zp p 0), (1, zi t), (4, zi u), (5, zi o)]) (h : Pool w p g n cap room S) (hk : Keep [g] w0 w) (ht : t < n) (hu : u < n) (htu : t ≠ u)
  (hL : (S u).l = t -> (S t).r < n /\ (S u).r < n /\ (S t).r ≠ u /\ (S u).r ≠ u /\ Gbd (besideS S u (S t).r (S u).r) u /\ (holdS S u (S t).r (S u).r t).l < n /\ (holdS S u (S t).r (S u).r t).l ≠ t /\ Gbd (besideS (holdS S u (S t).r (S u).r) t (holdS S u (S t).r (S u).r t).l u) t)
  (hR : (S u).l ≠ t -> (S u).l < n /\ (S t).l < n /\ (S u).l ≠ u /\ (S t).l ≠ u /\ Gbd (besideS S u (S u).l (S t).l) u /\ (holdS S u (S u).l (S t).l t).r < n /\ (holdS S u (S u).l (S t).l t).r ≠ t /\ Gbd (besideS (holdS S u (S u).l (S t).l) t u (holdS S u (S u).l (S t).l t).r) t)
  (hN : ∀ a' W, Kn a' 139 [(0, zp p 0), (1, zi t), (4, zi u), (5, zi o)] -> Pool W p g n cap room (sideS S t u) -> Keep [g] w0 W -> Q .normal a' W) : (Code.seq (Code.region 7 (rg [1, 1, 1, 0, 0] Try.f89).toArray false) (Code.cond (Operand.tmp 68) (Code.seq (Code.region 8 OPS89_8.toArray true) (Code.region 9 (rg [1, 1, 1, 0, 1, 0, 1] Try.f89).toArray false)) (Code.seq (Code.region 10 OPS89_10.toArray true) (Code.region 11 (rg [1, 1, 1, 0, 1, 1, 1] Try.f89).toArray false)))).wp Try.prog Q a0 w := by
 have PH := hide h
 have KP := hide hk
 have HL := hide hL
 have HR := hide hR
 clear h hk hL hR
 refine seqN ?_
 have e1 : (0 : Int) <= (t : Int) := by omega
 have e2 : (t : Int) < (n : Int) := by omega
 have e3 : (0 : Int) <= (u : Int) := by omega
 have e4 : (u : Int) < (n : Int) := by omega
 refine wp_region_lit ?_
 refine lM K0 fun a1 K1 => ?_
 refine lN K1 fun a2 K2 => ?_
 clear K1
 refine lF K2 FA66_1 fun a3 K3 => ?_
 clear K2
 refine lT (.slice (some ⟨g, 0, none⟩) n cap) w K3 (want_none rfl) (fun ev E => ?_) fun a4 K4 => ?_
 ·obtain ⟨c0, c1, _⟩ := (unhide PH).head; have E61 := E.tmp 61 _ rfl; clear E; clear PH KP HL HR hN; go_simp
 clear K3
 refine lM K4 fun a5 K5 => ?_
 clear K4
 refine lT (zp g (u * 14)) w K5 (want_none rfl) (fun ev E => ?_) fun a6 K6 => ?_
 ·have E62 := E.tmp 62 _ rfl; have E63 := E.tmp 63 _ rfl; clear E; clear PH KP HL HR hN; go_simp
 clear K5
 refine lF K6 FA75_1 fun a7 K7 => ?_
 clear K6
 refine lT (zi ((S u).l : Int)) w K7 (want_none rfl) (fun ev E => ?_) fun a8 K8 => ?_
 ·obtain ⟨s0, s1, s2, s3, s4, s5, s6, s7, s8, s9, s10, s11, s12, s13⟩ := (unhide PH).slot (t := u) (by assumption); have E65 := E.tmp 65 _ rfl; clear E; clear PH KP HL HR hN; go_simp
 clear K7
 refine lM K8 fun a9 K9 => ?_
 clear K8
 by_cases b1 : (S u).l = t
 ·have i1 : ((S u).l : Int) = (t : Int) := by omega
  refine lT (.bool true) w K9 (want_none rfl) (fun ev E => ?_) fun a13 K13 => ?_
  ·have E66 := E.tmp 66 _ rfl; have E67 := E.tmp 67 _ rfl; clear E; clear PH KP HL HR hN; go_simp
  clear K9
  clear i1
  refine nilN ?_
  refine knCond (b := true) K13 rfl ?_
  have K14 : Kn _ 139 [(0, zp p 0), (1, zi t), (4, zi u), (5, zi o)] := K13.less ⟨rfl, rfl, rfl, rfl, trivial⟩
  clear K13
  obtain ⟨x1, x2, x3, x4, x5, x6, x7, x8⟩ := unhide HL b1
  refine l89 K14 (unhide PH) (unhide KP) ht hu htu x1 x2 x3 x4 x5 rfl x6 x7 x8 (fun a1 W1 K1 P1 Q1 => hN _ _ K1 ?_ Q1)
  rw [sideS, if_pos b1]
  exact P1
 ·have i1 : ¬ ((S u).l : Int) = (t : Int) := by omega
  refine lT (.bool false) w K9 (want_none rfl) (fun ev E => ?_) fun a13 K13 => ?_
  ·have E66 := E.tmp 66 _ rfl; have E67 := E.tmp 67 _ rfl; clear E; clear PH KP HL HR hN; go_simp
  clear K9
  clear i1
  refine nilN ?_
  refine knCond (b := false) K13 rfl ?_
  have K14 : Kn _ 139 [(0, zp p 0), (1, zi t), (4, zi u), (5, zi o)] := K13.less ⟨rfl, rfl, rfl, rfl, trivial⟩
  clear K13
  obtain ⟨x1, x2, x3, x4, x5, x6, x7, x8⟩ := unhide HR b1
  refine r89 K14 (unhide PH) (unhide KP) ht hu htu x1 x2 x3 x4 x5 rfl x6 x7 x8 (fun a1 W1 K1 P1 Q1 => hN _ _ K1 ?_ Q1)
  rw [sideS, if_neg b1]
  exact P1
set_option maxHeartbeats 4000000 in
theorem rotate_any {p g n cap room t u o : Nat} {S S0 : Ss} {w : World} (h : Pool w p g n cap room S) (ht : t < n) (hu : u < n) (ho : o < n) (hup : (S t).up = u) (hoo : (S u).up = o) (htu : t ≠ u) (hS0 : S0 = overS S o u t)
  (hL : (S0 u).l = t -> (S0 t).r < n /\ (S0 u).r < n /\ (S0 t).r ≠ u /\ (S0 u).r ≠ u /\ Gbd (besideS S0 u (S0 t).r (S0 u).r) u /\ (holdS S0 u (S0 t).r (S0 u).r t).l < n /\ (holdS S0 u (S0 t).r (S0 u).r t).l ≠ t /\ Gbd (besideS (holdS S0 u (S0 t).r (S0 u).r) t (holdS S0 u (S0 t).r (S0 u).r t).l u) t)
  (hR : (S0 u).l ≠ t -> (S0 u).l < n /\ (S0 t).l < n /\ (S0 u).l ≠ u /\ (S0 t).l ≠ u /\ Gbd (besideS S0 u (S0 u).l (S0 t).l) u /\ (holdS S0 u (S0 u).l (S0 t).l t).r < n /\ (holdS S0 u (S0 u).l (S0 t).l t).r ≠ t /\ Gbd (besideS (holdS S0 u (S0 u).l (S0 t).l) t u (holdS S0 u (S0 u).l (S0 t).l t).r) t) :
  Calls Try.prog 89 #[zp p 0, zi t] w fun e w' => e = .returned (.tuple #[]) /\ Pool w' p g n cap room (rotS S t) /\ Keep [g] w w' := by
 have PH := hide h
 have KP := hide (Keep.refl [g] w)
 have HL := hide hL
 have HR := hide hR
 have HS := hide hS0
 have HU := hide (And.intro hup hoo)
 clear h hL hR hS0 hup hoo
 have e1 : (0 : Int) <= (t : Int) := by omega
 have e2 : (t : Int) < (n : Int) := by omega
 have e3 : (0 : Int) <= (u : Int) := by omega
 have e4 : (u : Int) < (n : Int) := by omega
 have e5 : (0 : Int) <= (o : Int) := by omega
 have e6 : (o : Int) < (n : Int) := by omega
 refine callsK (n := 139) (L := [(0, zp p 0), (1, zi t)]) Try.func89 rfl Try.ntmps89 rfl rfl (fun a0 K0 => ?_)
 refine seqR ?_
 refine lM K0 fun a1 K1 => ?_
 refine lN K1 fun a2 K2 => ?_
 clear K1
 refine lF K2 FA66_1 fun a3 K3 => ?_
 clear K2
 refine lT (.slice (some ⟨g, 0, none⟩) n cap) w K3 (want_none rfl) (fun ev E => ?_) fun a4 K4 => ?_
 ·obtain ⟨c0, c1, _⟩ := (unhide PH).head; have E8 := E.tmp 8 _ rfl; clear E; clear PH KP HL HR HS HU; go_simp
 clear K3
 refine lM K4 fun a5 K5 => ?_
 clear K4
 refine lT (zp g (t * 14)) w K5 (want_none rfl) (fun ev E => ?_) fun a6 K6 => ?_
 ·have E9 := E.tmp 9 _ rfl; have E10 := E.tmp 10 _ rfl; clear E; clear PH KP HL HR HS HU; go_simp
 clear K5
 refine lF K6 FA75_0 fun a7 K7 => ?_
 clear K6
 refine lT (zi ((S t).up : Int)) w K7 (want_none rfl) (fun ev E => ?_) fun a8 K8 => ?_
 ·obtain ⟨s0, s1, s2, s3, s4, s5, s6, s7, s8, s9, s10, s11, s12, s13⟩ := (unhide PH).slot (t := t) (by assumption); have E12 := E.tmp 12 _ rfl; clear E; clear PH KP HL HR HS HU; go_simp
 clear K7
 refine lA K8 fun a9 K9 => ?_
 clear K8
 refine nilN ?_
 have K70 : Kn _ 139 [(0, zp p 0), (1, zi t), (4, zi ((S t).up : Int))] := K9.less ⟨rfl, rfl, rfl, trivial⟩
 rw [(unhide HU).1] at K70
 clear K9
 refine seqR ?_
 refine lM K70 fun a10 K10 => ?_
 clear K70
 refine lN K10 fun a11 K11 => ?_
 clear K10
 refine lF K11 FA66_1 fun a12 K12 => ?_
 clear K11
 refine lT (.slice (some ⟨g, 0, none⟩) n cap) w K12 (want_none rfl) (fun ev E => ?_) fun a13 K13 => ?_
 ·obtain ⟨c0, c1, _⟩ := (unhide PH).head; have E16 := E.tmp 16 _ rfl; clear E; clear PH KP HL HR HS HU; go_simp
 clear K12
 refine lM K13 fun a14 K14 => ?_
 clear K13
 refine lT (zp g (u * 14)) w K14 (want_none rfl) (fun ev E => ?_) fun a15 K15 => ?_
 ·have E17 := E.tmp 17 _ rfl; have E18 := E.tmp 18 _ rfl; clear E; clear PH KP HL HR HS HU; go_simp
 clear K14
 refine lF K15 FA75_0 fun a16 K16 => ?_
 clear K15
 refine lT (zi ((S u).up : Int)) w K16 (want_none rfl) (fun ev E => ?_) fun a17 K17 => ?_
 ·obtain ⟨s0, s1, s2, s3, s4, s5, s6, s7, s8, s9, s10, s11, s12, s13⟩ := (unhide PH).slot (t := u) (by assumption); have E20 := E.tmp 20 _ rfl; clear E; clear PH KP HL HR HS HU; go_simp
 clear K16
 refine lA K17 fun a18 K18 => ?_
 clear K17
 refine nilN ?_
 have K71 : Kn _ 139 [(0, zp p 0), (1, zi t), (4, zi u), (5, zi ((S u).up : Int))] := K18.less ⟨rfl, rfl, rfl, rfl, trivial⟩
 rw [(unhide HU).2] at K71
 clear K18
 refine seqN ?_
 refine over89 K71 (unhide PH) (unhide KP) ht hu ho (fun a1 W1 K1 P1 Q1 => ?_)
 show Code.wp _ _ _ _ _
 rw [← unhide HS] at P1
 refine seqN ?_
 refine side89 K1 P1 Q1 ht hu htu (unhide HL) (unhide HR) (fun a2 W2 K2 P2 Q2 => ?_)
 show Code.wp _ _ _ _ _
 clear PH KP K1 K71 P1 Q1 HL HR
 have PH := hide P2
 have KP := hide Q2
 clear P2 Q2
 obtain ⟨S2, hS2⟩ : ∃ z, z = sideS S0 t u := ⟨_, rfl⟩
 rw [← hS2] at PH
 have HS2 := hide hS2
 clear hS2
 refine lastN ?_
 refine wp_region_lit ?_
 refine lM K2 fun a24 K24 => ?_
 clear K2
 refine lN K24 fun a25 K25 => ?_
 clear K24
 refine lF K25 FA66_1 fun a26 K26 => ?_
 clear K25
 refine lT (.slice (some ⟨g, 0, none⟩) n cap) W2 K26 (want_none rfl) (fun ev E => ?_) fun a27 K27 => ?_
 ·obtain ⟨c0, c1, _⟩ := (unhide PH).head; have E133 := E.tmp 133 _ rfl; clear E; clear PH KP HS HU HS2; go_simp
 clear K26
 refine lM K27 fun a28 K28 => ?_
 clear K27
 refine lM K28 fun a29 K29 => ?_
 clear K28
 refine lT (zp g (t * 14)) W2 K29 (want_none rfl) (fun ev E => ?_) fun a30 K30 => ?_
 ·have E134 := E.tmp 134 _ rfl; have E135 := E.tmp 135 _ rfl; clear E; clear PH KP HS HU HS2; go_simp
 clear K29
 refine lF K30 FA75_0 fun a31 K31 => ?_
 clear K30
 obtain ⟨sk, _, _, _, _, _, _, _, _, _, _, _, _, _⟩ := (unhide PH).slot ht
 obtain ⟨fk, _, _, _, _, _, _, _, _, _, _, _, _, _⟩ := (unhide PH).soft ht
 refine lstore (w' := W2.setCell ⟨g, t * 14, none⟩ (zi o)) K31 rfl (want_none rfl) (fun ev E => ?_) ?_
 ·have E136 := E.tmp 136 _ rfl; have E138 := E.tmp 138 _ rfl; clear E; clear PH KP HS HU HS2; go_simp
 clear sk fk
 have P1 := (unhide PH).put (t := t) ht 0 (by omega) { S2 t with up := o } (zi o) rfl
 have Q1 := (unhide KP).cellB (t * 14) (zi o)
 clear PH KP
 have PH := hide P1
 have KP := hide Q1
 clear P1 Q1
 generalize W2.setCell ⟨g, t * 14, none⟩ (zi o) = W3 at *
 refine wpList_nil ?_
 refine ⟨K31.defers, .tuple #[], results_none rfl _ _ _, rfl, ?_, unhide KP⟩
 have e : rotS S t = upd S2 t { S2 t with up := o } := by
  rw [unhide HS2, unhide HS, ← (unhide HU).2, ← (unhide HU).1]; rfl
 rw [e]; exact unhide PH
end Go.Proofs.Ytjnkgakajenoaaa

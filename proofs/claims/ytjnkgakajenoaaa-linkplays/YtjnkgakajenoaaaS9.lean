/- Part 9 of the texts. -/
import Derived.Test.YtjnkgakajenoaaaS8
import Derived.Test.YtjnkgakajenoaaaS1
import Derived.Test.YtjnkgakajenoaaaS7
namespace Go.Proofs.Ytjnkgakajenoaaa
set_option linter.unusedVariables false
set_option linter.unusedSimpArgs false
def attach1 (S : Ss) (c p : Nat) : Ss := upd S c { S c with up := p }
def attach2 (S : Ss) (c p : Nat) : Ss := upd S p { S p with hg := ⟨(S p).hg.c + (wh (S c)).c, (S p).hg.w + (wh (S c)).w⟩ }
def attachS (S : Ss) (c p : Nat) : Ss := gatherS (attach2 (attach1 S c p) c p) p
def detach1 (S : Ss) (t : Nat) : Ss := upd S (S t).l { S (S t).l with up := 0 }
def detachS (S : Ss) (t : Nat) : Ss := holdS (detach1 S t) t 0 (detach1 S t t).r
def newSl (w : Int) : Sl := { Sl.zero with wt := w, sm := one w }
section
variable {S S1 : Ss} {n : Nat} {T T1 : Tr} {G G1 : Gh} {t u x y z k c p q met v m : Nat} {w d : Int} {l : List Nat}
theorem attachS_at (S : Ss) (cp : c ≠ p) (lp : (S p).l ≠ p) (rp : (S p).r ≠ p) (lc : (S p).l ≠ c) (rc : (S p).r ≠ c) (x : Nat) :
  attachS S c p x = if x = p then { S p with hg := ⟨(S p).hg.c + (wh (S c)).c, (S p).hg.w + (wh (S c)).w⟩, sm := jn (jn (S (S p).l).sm (one (S p).wt)) (S (S p).r).sm, hu := ⟨(S (S p).l).hu.c + ((S p).hg.c + (wh (S c)).c) + (S (S p).r).hu.c, (S (S p).l).hu.w + ((S p).hg.w + (wh (S c)).w) + (S (S p).r).hu.w⟩ } else if x = c then { S c with up := p } else S x := by
 have a1 : ∀ y, attach1 S c p y = if y = c then { S c with up := p } else S y := fun y => by
  unfold attach1
  by_cases e : y = c
  ·subst e; rw [upd_same, if_pos rfl]
  ·rw [upd_ne _ _ e, if_neg e]
 have ap : attach1 S c p p = S p := by rw [a1, if_neg (Ne.symm cp)]
 have ac : wh (attach1 S c p c) = wh (S c) := by rw [a1, if_pos rfl]; rfl
 have a2 : ∀ y, attach2 (attach1 S c p) c p y = if y = p then { S p with hg := ⟨(S p).hg.c + (wh (S c)).c, (S p).hg.w + (wh (S c)).w⟩ } else if y = c then { S c with up := p } else S y := fun y => by
  unfold attach2
  by_cases e : y = p
  ·subst e; rw [upd_same, if_pos rfl, ap, ac]
  ·rw [upd_ne _ _ e, if_neg e, a1]
 unfold attachS gatherS
 by_cases e : x = p
 ·subst e
  rw [upd_same, if_pos rfl]
  unfold gSm gHu
  rw [a2 x, if_pos rfl]
  dsimp only
  rw [a2, if_neg lp, if_neg lc, a2, if_neg rp, if_neg rc]
 ·rw [upd_ne _ _ e, a2, if_neg e, if_neg e]
theorem par_root (W : T.Wf) (hc : Th T c) (h0 : ps T c = 0) : T.par (c - 1) = -1 := by
 have := ps_par hc W
 omega
theorem Pth.attach (E : Pth S n T G p) (hc : Th T c) (hT : Top S c) (c0 : (S c).up = 0) (fc : G.fi c = c) (hne : c ∉ U T p) : Lc (attachS S c p) n (T.link (c - 1) (p - 1)) G := by
 have h := E.lc
 have W := h.wf
 have hp := E.th
 have c1 := hc.1
 have p1 := hp.1
 have cc : c - 1 + 1 = c := Nat.sub_add_cancel c1
 have pp : p - 1 + 1 = p := Nat.sub_add_cancel p1
 have cp : c ≠ p := fun e => hne (by rw [e]; exact U_self W hp)
 have Pc' := (h.loc c hc).tp hT
 have psc : ps T c = 0 := by have := Pc'.fi; rwa [fc, c0] at this
 have hroot := par_root W hc psc
 have hnu : c - 1 ∉ T.up (p - 1) := fun q => hne (by have := mem_U1.2 q; rwa [cc, pp] at this)
 have W' := W.link hroot hp.2 hnu
 have nk := h.top_nk hp hT (by omega)
 have at1 := attachS_at S cp (h.kid_ne hp (.inl rfl)) (h.kid_ne hp (.inr rfl)) (Ne.symm nk.1) (Ne.symm nk.2)
 generalize attachS S c p = S1 at at1 ⊢
 have nx : ∀ x, x ≠ p -> x ≠ c -> S1 x = S x := fun x h1 h2 => by rw [at1, if_neg h1, if_neg h2]
 have f : ∀ x, (S1 x).l = (S x).l /\ (S1 x).r = (S x).r /\ (S1 x).tn = (S x).tn /\ (S1 x).wt = (S x).wt /\ (S1 x).wa = (S x).wa := fun x => by
  rw [at1]; split
  ·rename_i e; subst e; simp
  ·split
   ·rename_i e; subst e; simp
   ·simp
 have fu : ∀ x, x ≠ c -> (S1 x).up = (S x).up := fun x hx => by
  rw [at1]; split
  ·rename_i e; subst e; simp
  ·first | rw [if_neg hx] | rfl
 have fuc : (S1 c).up = p := by rw [at1, if_neg cp, if_pos rfl]
 have psl : ∀ x, 1 <= x -> x ≠ c -> ps (T.link (c - 1) (p - 1)) x = ps T x := fun x h1 h2 => ps_link (by rw [cc]; exact h2) h1
 have pslc : ps (T.link (c - 1) (p - 1)) c = p := by have := ps_link_c (T := T) (c := c - 1) (p := p - 1); rwa [cc, pp] at this
 have th : ∀ x, Th (T.link (c - 1) (p - 1)) x ↔ Th T x := fun x => th_link hc.2
 have D := fun x => D_link (x := x) W hroot hp.2 hnu
 rw [cc, pp] at D
 have tp : ∀ x, Th T x -> (Top S1 x ↔ Top S x) := fun x hx => by
  by_cases e : x = c
  ·subst e
   refine ⟨fun _ => hT, fun _ => ?_⟩
   unfold Top
   rw [fuc, (f p).1, (f p).2.1]
   exact ⟨Ne.symm nk.1, Ne.symm nk.2⟩
  ·unfold Top; rw [fu x e, (f _).1, (f _).2.1]
 refine ⟨W', h.ft.link hc.2, fun x hx => h.lt x ((th x).1 hx), h.n0, h.nn, fun x hx => ?_, h.p0, fun x hx' => ?_⟩
 ·have hx2 : ¬ Th T x := fun q => hx ((th x).2 q)
  rw [nx x (fun e => hx2 (by rw [e]; exact hp)) (fun e => hx2 (by rw [e]; exact hc))]; exact h.out x hx2
 have hx := (th x).1 hx'
 have L := h.loc x hx
 have x1 := hx.1
 have kk : ∀ j, j ≠ 0 -> j = (S x).l ∨ j = (S x).r -> Ki S1 (T.link (c - 1) (p - 1)) G x j := fun j j0 hj => by
  have K := h.up_kid hx hj j0
  have jc : j ≠ c := fun e => by
   obtain ⟨k1, k2⟩ := h.top_nk hx hT (by omega)
   rcases hj with q | q
   ·exact k1 (by rw [← e]; exact q)
   ·exact k2 (by rw [← e]; exact q)
  exact ⟨(th j).2 K.th, by rw [fu j jc]; exact K.up, by rw [(f x).2.2.1]; exact K.b, by rw [(f x).2.2.2.2]; exact K.a⟩
 have hnx : G.pn x ≠ 0 -> Th (T.link (c - 1) (p - 1)) (G.pn x) /\ ps (T.link (c - 1) (p - 1)) (G.pn x) = x := fun p0 => by
  obtain ⟨k1, k2⟩ := L.nx p0
  refine ⟨(th _).2 k1, ?_⟩
  rw [psl _ k1.1 (fun e => by rw [e, psc] at k2; omega)]; exact k2
 have smk : ∀ j, j = (S x).l ∨ j = (S x).r -> (S1 j).sm = (S j).sm /\ (S1 j).hu = (S j).hu := fun j hj => by
  by_cases j0 : j = 0
  ·subst j0; rw [nx 0 (by omega) (by omega)]; exact ⟨rfl, rfl⟩
  ·have jp : j ≠ p := fun e => by
    obtain ⟨k1, k2⟩ := h.top_nk hx E.top (by omega)
    rcases hj with q | q
    ·exact k1 (by rw [← e]; exact q)
    ·exact k2 (by rw [← e]; exact q)
   rw [at1, if_neg jp]; split
   ·rename_i e; subst e; exact ⟨rfl, rfl⟩
   ·exact ⟨rfl, rfl⟩
 have tpx : Top S1 x -> Tp S1 (T.link (c - 1) (p - 1)) G x := fun hT1 => by
  have hT' := (tp x hx).1 hT1
  have P := L.tp hT'
  by_cases e : x = c
  ·subst e
   refine ⟨P.b, P.a, by rw [fuc, fc]; exact pslc, P.pn, by rw [fuc, E.pn0, fc]; omega⟩
  ·have fe : G.fi x ≠ c := fun q => e (h.uniq hx hc hT' hT (q.trans fc.symm))
   exact ⟨P.b, P.a, by rw [fu x e, psl _ (h.fi_th hx).1 fe]; exact P.fi, P.pn, by rw [fu x e]; exact P.nv⟩
 by_cases e : x = p
 ·subst e
  have tw := h.top_whole hc hT
  rw [fc] at tw
  have hw1 : (wh (S c)).c = Dc T c /\ (wh (S c)).w = Dw T c := tw
  have dp' := D x
  rw [if_pos (U_self W hx), if_pos (U_self W hx)] at dp'
  have smx : (S1 x).sm = jn (jn (S (S x).l).sm (one (S x).wt)) (S (S x).r).sm := by rw [at1, if_pos rfl]
  refine ⟨fun e => by rw [(f x).1] at e ⊢; exact kk _ e (.inl rfl), fun e => by rw [(f x).2.1] at e ⊢; exact kk _ e (.inr rfl), by rw [(f x).1, (f x).2.1]; exact L.lr, by rw [(f x).1, (f x).2.1]; exact L.en, hnx, by rw [(f x).2.2.2.1]; exact L.wt, ?_, ?_, ?_, ?_, ?_, by rw [(f x).1, (f x).2.1, (f x).2.2.1, (f x).2.2.2.2]; exact L.id, tpx⟩
  ·rw [(f x).1, (f x).2.1, (f x).2.2.2.1, (f x).2.2.2.2, (smk _ (.inl rfl)).1, (smk _ (.inr rfl)).1, E.idle.2, lf_zero, lf_zero]; exact smx
  ·rw [smx]; exact Fitm.mid (h.fit0 _) (h.fit0 _) (h.wt_bd _)
  ·rw [(f x).1, (f x).2.1, (smk _ (.inl rfl)).2, (smk _ (.inr rfl)).2, at1, if_pos rfl]
  ·rw [at1, if_pos rfl, E.pn0]
   show (S x).hg.c + (wh (S c)).c = _
   rw [hw1.1, L.hgc, E.pn0, dp'.1, (D 0).1, if_neg (zero_U W)]; omega
  ·rw [at1, if_pos rfl, E.pn0]
   show (S x).hg.w + (wh (S c)).w = _ - T.wt (x - 1) - _
   rw [hw1.2, L.hgw, E.pn0, dp'.2, (D 0).2, if_neg (zero_U W)]; omega
 ·have dif : (x ∈ U T p ↔ G.pn x ∈ U T p) := by
   constructor
   ·intro hm
    rcases E.below hm with ⟨q, _⟩ | ⟨q, _, _⟩
    ·exact absurd q e
    ·exact q
   ·intro hm
    have p0 : G.pn x ≠ 0 := fun q => by rw [q] at hm; exact zero_U W hm
    exact (E.pn_iff hx p0).2 hm
  have e1 := D x
  have e2 := D (G.pn x)
  by_cases ec : x = c
  .
   subst ec
   refine ⟨fun e => by rw [(f x).1] at e ⊢; exact kk _ e (.inl rfl), fun e => by rw [(f x).2.1] at e ⊢; exact kk _ e (.inr rfl), by rw [(f x).1, (f x).2.1]; exact L.lr, by rw [(f x).1, (f x).2.1]; exact L.en, hnx, by rw [(f x).2.2.2.1]; exact L.wt, ?_, ?_, ?_, ?_, ?_, by rw [(f x).1, (f x).2.1, (f x).2.2.1, (f x).2.2.2.2]; exact L.id, tpx⟩
   ·rw [(f x).1, (f x).2.1, (f x).2.2.2.1, (f x).2.2.2.2, (smk _ (.inl rfl)).1, (smk _ (.inr rfl)).1, at1, if_neg e, if_pos rfl]; exact L.sm
   ·rw [at1, if_neg e, if_pos rfl]; exact L.fit
   ·rw [(f x).1, (f x).2.1, (smk _ (.inl rfl)).2, (smk _ (.inr rfl)).2, at1, if_neg e, if_pos rfl]; exact L.hu
   ·rw [at1, if_neg e, if_pos rfl, e1.1, e2.1, if_neg hne, if_neg (fun q => hne (dif.2 q))]
    have := L.hgc
    show (S x).hg.c = _
    omega
   ·rw [at1, if_neg e, if_pos rfl, e1.2, e2.2, if_neg hne, if_neg (fun q => hne (dif.2 q))]
    have := L.hgw
    show (S x).hg.w = _ - T.wt (x - 1) - _
    omega
  ·refine Loc.move h hx (nx x e ec) smk kk L.en hnx L.wt ?_ ?_ tpx
   ·rw [e1.1, e2.1]
    by_cases hm : x ∈ U T p
    ·rw [if_pos hm, if_pos (dif.1 hm)]; omega
    ·rw [if_neg hm, if_neg (fun q => hm (dif.2 q))]; omega
   ·rw [e1.2, e2.2]
    show _ - T.wt (x - 1) - _ = _
    by_cases hm : x ∈ U T p
    ·rw [if_pos hm, if_pos (dif.1 hm)]; omega
    ·rw [if_neg hm, if_neg (fun q => hm (dif.2 q))]; omega
theorem detachS_at (S : Ss) (hl : (S t).l ≠ t) (r0 : (S t).r = 0) (t0 : t ≠ 0) (x : Nat) :
  detachS S t x = if x = t then { S t with l := 0, r := 0, sm := jn (jn (detach1 S t 0).sm (one (S t).wt)) (detach1 S t 0).sm, hu := ⟨(detach1 S t 0).hu.c + (S t).hg.c + (detach1 S t 0).hu.c, (detach1 S t 0).hu.w + (S t).hg.w + (detach1 S t 0).hu.w⟩ } else if x = (S t).l then { S x with up := 0 } else S x := by
 have at' : detach1 S t t = S t := by unfold detach1; exact upd_ne _ _ (Ne.symm hl)
 unfold detachS
 rw [at', r0, holdS_at _ (Ne.symm t0) (Ne.symm t0)]
 by_cases e : x = t
 ·subst e; rw [if_pos rfl, if_pos rfl, at']
 ·rw [if_neg e, if_neg e, if_neg (fun k => k.1 (by omega))]
  unfold detach1
  by_cases e2 : x = (S t).l
  ·subst e2; rw [upd_same, if_pos rfl]
  ·rw [upd_ne _ _ e2, if_neg e2]
theorem Pth.detach (E : Pth S n T G t) (l0 : (S t).l ≠ 0) : Lc (detachS S t) n (T.cut (t - 1)) { G with fi := updF G.fi t t, pn := updF G.pn (ps T t) 0 } := by
 have h := E.lc
 have W := h.wf
 have ht := E.th
 have t1 := ht.1
 have tt : t - 1 + 1 = t := Nat.sub_add_cancel t1
 have L := h.loc t ht
 have P := L.tp E.top
 have en := L.en
 rw [P.b] at en
 have K := L.kl l0
 have hl : (S t).l ≠ t := h.kid_ne ht (.inl rfl)
 obtain ⟨f1, f2⟩ := en.l1 l0
 have f1 : G.fi t = G.fi (S t).l := f1
 have f2 : G.pn (G.la (S t).l) = t := f2
 have lath := h.la_th K.th
 have psq : ps T t = G.la (S t).l := (h.ps_pn lath f2 (by omega)).2
 have q0 : ps T t ≠ 0 := by rw [psq]; have := lath.1; omega
 have qth := ps_th W ht q0
 have qt : ps T t ≠ t := fun e => by have := dp_th W ht; rw [e] at this; omega
 have pnq : G.pn (ps T t) = t := by rw [psq]; exact f2
 have lt0 := K.th.1
 have at1 := detachS_at S hl E.r0 (by omega)
 have d0 : detach1 S t 0 = S 0 := by unfold detach1; exact upd_ne _ _ (by omega)
 rw [d0, h.s0] at at1
 generalize detachS S t = S1 at at1 ⊢
 have nx : ∀ x, x ≠ t -> x ≠ (S t).l -> S1 x = S x := fun x h1 h2 => by rw [at1, if_neg h1, if_neg h2]
 have S1t : S1 t = _ := (at1 t).trans (if_pos rfl)
 have S1l : S1 (S t).l = { S (S t).l with up := 0 } := by rw [at1, if_neg hl, if_pos rfl]
 have th : ∀ x, Th (T.cut (t - 1)) x ↔ Th T x := fun x => th_cut ht.2
 have psx : ∀ x, 1 <= x -> x ≠ t -> ps (T.cut (t - 1)) x = ps T x := fun x h1 h2 => ps_cut (by rw [tt]; exact h2) h1
 have pst : ps (T.cut (t - 1)) t = 0 := by have := ps_cut_c (T := T) (c := t - 1); rwa [tt] at this
 have D := fun x => D_cut (x := x) W ht.2
 rw [tt] at D
 have pnx : ∀ x, x ≠ ps T t -> updF G.pn (ps T t) 0 x = G.pn x := fun x hx => updF_other _ _ hx
 have pnq' : updF G.pn (ps T t) 0 (ps T t) = 0 := updF_same _ _ _
 have fix : ∀ x, x ≠ t -> updF G.fi t t x = G.fi x := fun x hx => updF_other _ _ hx
 have fit : updF G.fi t t t = t := updF_same _ _ _
 have tU : t ∉ U T (ps T t) := ps_notin W ht
 have W' := W.cut ht.2
 refine ⟨W', h.ft.cut ht.2, fun x hx => h.lt x ((th x).1 hx), h.n0, h.nn, fun x hx => ?_, by show updF G.pn (ps T t) 0 0 = 0; rw [pnx 0 (Ne.symm q0)]; exact h.p0, fun x hx' => ?_⟩
 ·have hx2 : ¬ Th T x := fun q => hx ((th x).2 q)
  rw [nx x (fun e => hx2 (by rw [e]; exact ht)) (fun e => hx2 (by rw [e]; exact K.th))]; exact h.out x hx2
 have hx := (th x).1 hx'
 have Lx := h.loc x hx
 have x1 := hx.1
 by_cases e : x = t
 ·subst e
  have D0 := D 0
  rw [if_neg (zero_U W), if_neg (zero_U W)] at D0
  have Dt := D x
  rw [if_neg tU, if_neg tU] at Dt
  have pnt : updF G.pn (ps T x) 0 x = 0 := by rw [pnx x (Ne.symm qt)]; exact E.pn0
  refine ⟨fun e => absurd (by rw [S1t]) e, fun e => absurd (by rw [S1t]) e, fun _ => by rw [S1t], ?_, ?_, by rw [S1t]; exact L.wt, ?_, ?_, ?_, ?_, ?_, fun _ _ => by rw [S1t]; exact E.idle, fun hT1 => ?_⟩
  ·show En _ (G.b x) _ _ _
   rw [P.b, S1t]
   refine ⟨fun _ => ?_, fun e => absurd rfl e, fun _ => ?_, fun e => absurd rfl e⟩
   ·exact fit
   ·exact E.la
  ·show updF G.pn (ps T x) 0 x ≠ 0 -> _
   rw [pnt]; exact fun e => absurd rfl e
  ·rw [S1t]
   dsimp only
   rw [nx 0 (by omega) (by omega), h.s0]
   show jn (jn zero _) zero = jn (jn (lf zero _) _) (lf zero _)
   rw [lf_nil]
  ·rw [S1t]
   show Fitm (jn (jn zero (one (S x).wt)) zero)
   rw [jn_nil]; exact Fitm.one (h.wt_bd x)
  ·rw [S1t]
   dsimp only
   rw [nx 0 (by omega) (by omega), h.s0]
  ·show (S1 x).hg.c = _ - 1 - Dc _ (updF G.pn (ps T x) 0 x)
   rw [S1t, pnt, D0.1, Dt.1]
   have := L.hgc
   rw [E.pn0] at this
   dsimp only; omega
  ·show (S1 x).hg.w = _ - T.wt (x - 1) - Dw _ (updF G.pn (ps T x) 0 x)
   rw [S1t, pnt, D0.2, Dt.2]
   have := L.hgw
   rw [E.pn0] at this
   dsimp only; omega
  ·refine ⟨P.b, P.a, ?_, ?_, ?_⟩
   ·show ps _ (updF G.fi x x x) = _
    rw [fit, pst, S1t]; exact E.up0.symm
   ·show updF G.pn (ps T x) 0 (G.la x) = 0
    rw [E.la, pnt]
   ·show updF G.pn (ps T x) 0 (S1 x).up ≠ updF G.fi x x x
    rw [S1t, fit]
    dsimp only
    rw [E.up0, pnx 0 (Ne.symm q0), h.p0]; omega
 ·have nkt : ∀ j, j = (S x).l ∨ j = (S x).r -> j ≠ 0 -> j ≠ t := fun j hj j0 e2 => by
   obtain ⟨k1, k2⟩ := h.top_nk hx E.top (by omega)
   rcases hj with q | q
   ·exact k1 (by rw [← e2]; exact q)
   ·exact k2 (by rw [← e2]; exact q)
  have nkl : ∀ j, j = (S x).l ∨ j = (S x).r -> j ≠ 0 -> j ≠ (S t).l := fun j hj j0 e2 => by
   have := (h.up_kid hx hj j0).up
   rw [e2, K.up] at this; exact e this.symm
  have kj : ∀ j, j = (S x).l ∨ j = (S x).r -> S1 j = S j := fun j hj => by
   by_cases j0 : j = 0
   ·subst j0; exact nx 0 (by omega) (by omega)
   ·exact nx j (nkt j hj j0) (nkl j hj j0)
  have fx : (S1 x).l = (S x).l /\ (S1 x).r = (S x).r /\ (S1 x).tn = (S x).tn /\ (S1 x).wt = (S x).wt /\ (S1 x).wa = (S x).wa /\ (S1 x).sm = (S x).sm /\ (S1 x).hg = (S x).hg /\ (S1 x).hu = (S x).hu := by
   by_cases e2 : x = (S t).l
   ·subst e2; rw [S1l]; simp
   ·rw [nx x e e2]; simp
  have kk : ∀ j, j ≠ 0 -> j = (S x).l ∨ j = (S x).r -> Ki S1 (T.cut (t - 1)) { G with fi := updF G.fi t t, pn := updF G.pn (ps T t) 0 } x j := fun j j0 hj => by
   have Kj := h.up_kid hx hj j0
   exact ⟨(th j).2 Kj.th, by rw [kj j hj]; exact Kj.up, by rw [fx.2.2.1]; exact Kj.b, by rw [fx.2.2.2.2.1]; exact Kj.a⟩
  have hen : En { G with fi := updF G.fi t t, pn := updF G.pn (ps T t) 0 } (G.b x) (S x).l (S x).r x := by
   refine Lx.en.agree ⟨fix x e, rfl⟩ (fun j j0 hj => ⟨fix j (nkt j hj j0), rfl⟩) (fun j j0 hj e2 => ?_) (fun j j0 hj e2 => ?_)
   ·show updF G.pn (ps T t) 0 (G.la j) = x
    rw [pnx _ (fun e3 => e (by rw [← e2, e3]; exact pnq))]; exact e2
   ·show updF G.pn (ps T t) 0 x = G.fi j
    by_cases e3 : x = ps T t
    ·rw [e3, pnq] at e2
     have Kj := h.up_kid hx hj j0
     exact absurd e2.symm (h.ends_nt Kj.th E.top (Ne.symm (nkt j hj j0))).2
    ·rw [pnx x e3]; exact e2
  have hnx : updF G.pn (ps T t) 0 x ≠ 0 -> Th (T.cut (t - 1)) (updF G.pn (ps T t) 0 x) /\ ps (T.cut (t - 1)) (updF G.pn (ps T t) 0 x) = x := by
   by_cases e3 : x = ps T t
   ·rw [e3, pnq']; exact fun k => absurd rfl k
   ·rw [pnx x e3]
    intro p0
    obtain ⟨k1, k2⟩ := Lx.nx p0
    exact ⟨(th _).2 k1, by rw [psx _ k1.1 (fun e4 => e3 (by rw [← k2, e4]))]; exact k2⟩
  have hD : Dc (T.cut (t - 1)) x - Dc (T.cut (t - 1)) (updF G.pn (ps T t) 0 x) = Dc T x - Dc T (G.pn x) /\ Dw (T.cut (t - 1)) x - Dw (T.cut (t - 1)) (updF G.pn (ps T t) 0 x) = Dw T x - Dw T (G.pn x) := by
   have D0 := D 0
   rw [if_neg (zero_U W), if_neg (zero_U W), Dc_zero W, Dw_zero W] at D0
   by_cases e3 : x = ps T t
   ·rw [e3, pnq', D0.1, D0.2, (D _).1, (D _).2, if_pos (U_self W qth), if_pos (U_self W qth), pnq]; omega
   ·rw [pnx x e3, (D x).1, (D x).2, (D (G.pn x)).1, (D (G.pn x)).2]
    by_cases hm : x ∈ U T (ps T t)
    ·have hm' : x ∈ U T t := U_trans W (U_ps W ht q0) hm
     have : G.pn x ∈ U T (ps T t) := by
      rcases E.below hm' with ⟨k, _⟩ | ⟨k1, k2, k3⟩
      ·exact absurd k e
      ·rcases (U_up W ht).1 k1 with k4 | k4
       ·rw [k4] at k2; exact absurd k2.symm e3
       ·exact k4
     rw [if_pos hm, if_pos hm, if_pos this, if_pos this]; omega
    ·have : G.pn x ∉ U T (ps T t) := fun k => by
      have p0 : G.pn x ≠ 0 := fun k2 => by rw [k2] at k; exact zero_U W k
      obtain ⟨k1, k2⟩ := Lx.nx p0
      exact hm (by rw [← k2]; exact U_trans W k (U_ps W k1 (by omega)))
     rw [if_neg hm, if_neg hm, if_neg this, if_neg this]; omega
  have htp : Top S1 x -> Tp S1 (T.cut (t - 1)) { G with fi := updF G.fi t t, pn := updF G.pn (ps T t) 0 } x := fun hT1 => by
   by_cases e2 : x = (S t).l
   ·subst e2
    have up0 : (S1 (S t).l).up = 0 := by rw [S1l]
    have fth := h.fi_th K.th
    have ft : G.fi (S t).l ≠ t := fun k => by
     have := E.root
     rw [f1, k] at this; exact q0 this
    refine ⟨by show G.b _ = false; rw [K.b, P.b, E.idle.1]; rfl, by show G.a _ = 0; rw [K.a, P.a, E.idle.2]; rfl, ?_, ?_, ?_⟩
    ·show ps _ (updF G.fi t t (S t).l) = _
     rw [fix _ hl, psx _ fth.1 ft, up0, ← f1]; exact E.root
    ·show updF G.pn (ps T t) 0 (G.la (S t).l) = 0
     rw [← psq, pnq']
    ·show updF G.pn (ps T t) 0 (S1 (S t).l).up ≠ updF G.fi t t (S t).l
     rw [up0, pnx 0 (Ne.symm q0), h.p0, fix _ hl]
     have := fth.1; omega
   ·have hT' : Top S x := by
     unfold Top at hT1 ⊢
     rw [nx x e e2] at hT1
     by_cases u1 : (S x).up = t
     ·rw [u1]
      refine ⟨fun k => e2 k.symm, fun k => ?_⟩
      rw [E.r0] at k; omega
     ·by_cases u2 : (S x).up = (S t).l
      ·rw [u2, S1l] at hT1
       rw [u2]; exact hT1
      ·rw [nx _ u1 u2] at hT1; exact hT1
    have Px := Lx.tp hT'
    have fth := h.fi_th hx
    have ft : G.fi x ≠ t := (h.ends_nt hx E.top (Ne.symm e)).2
    refine ⟨Px.b, Px.a, ?_, ?_, ?_⟩
    ·show ps _ (updF G.fi t t x) = _
     rw [fix x e, psx _ fth.1 ft, nx x e e2]; exact Px.fi
    ·show updF G.pn (ps T t) 0 (G.la x) = 0
     by_cases e3 : G.la x = ps T t
     ·rw [e3, pnq']
     ·rw [pnx _ e3]; exact Px.pn
    ·show updF G.pn (ps T t) 0 (S1 x).up ≠ updF G.fi t t x
     rw [nx x e e2, fix x e]
     by_cases e3 : (S x).up = ps T t
     ·rw [e3, pnq']; have := fth.1; omega
     ·rw [pnx _ e3]; exact Px.nv
  refine ⟨fun e => by rw [fx.1] at e ⊢; exact kk _ e (.inl rfl), fun e => by rw [fx.2.1] at e ⊢; exact kk _ e (.inr rfl), by rw [fx.1, fx.2.1]; exact Lx.lr, by rw [fx.1, fx.2.1]; exact hen, hnx, by rw [fx.2.2.2.1]; exact Lx.wt, ?_, by rw [fx.2.2.2.2.2.1]; exact Lx.fit, ?_, ?_, ?_, by rw [fx.1, fx.2.1, fx.2.2.1, fx.2.2.2.2.1]; exact Lx.id, htp⟩
  ·rw [fx.1, fx.2.1, fx.2.2.2.1, fx.2.2.2.2.1, fx.2.2.2.2.2.1, kj _ (.inl rfl), kj _ (.inr rfl)]; exact Lx.sm
  ·rw [fx.1, fx.2.1, fx.2.2.2.2.2.2.1, fx.2.2.2.2.2.2.2, kj _ (.inl rfl), kj _ (.inr rfl)]; exact Lx.hu
  ·have := hD.1
   rw [fx.2.2.2.2.2.2.1, Lx.hgc]
   show _ = _ - 1 - Dc _ (updF G.pn (ps T t) 0 x)
   omega
  ·have := hD.2
   rw [fx.2.2.2.2.2.2.1, Lx.hgw]
   show _ = _ - T.wt (x - 1) - Dw _ (updF G.pn (ps T t) 0 x)
   omega
end
section
variable {S S1 : Ss} {n : Nat} {T T1 : Tr} {G G1 : Gh} {t u x y z k c p q met v m r : Nat} {w d : Int} {l : List Nat}
def addG (G : Gh) (t : Nat) : Gh := ⟨updF G.b t false, updF G.a t 0, updF G.fi t t, updF G.la t t, updF G.pn t 0⟩
theorem Lc.grow (h : Lc S n T G) (hm : n <= m) (hT : m <= T.n + 1) : Lc S m T G :=
 ⟨h.wf, h.ft, fun t ht => Nat.lt_of_lt_of_le (h.lt t ht) hm, Nat.le_trans h.n0 hm, hT, h.out, h.p0, h.loc⟩
theorem Lc.add (h : Lc S n T G) (hv : T.par v = -2) (hn : v < T.n) (hw : -1099511627776 <= w /\ w <= 1099511627776) (hlt : v + 1 < n) :
  Lc (upd S (v + 1) (newSl w)) n (T.add v w) (addG G (v + 1)) := by
 have W := h.wf
 have nt : ¬ Th T (v + 1) := fun q => q.2 (by simpa using hv)
 have th := fun x => th_add (w := w) (x := x) hv
 have nx : ∀ x, x ≠ v + 1 -> upd S (v + 1) (newSl w) x = S x := fun x hx => upd_ne _ _ hx
 have at' : upd S (v + 1) (newSl w) (v + 1) = newSl w := upd_same _ _ _
 have gx : ∀ x, x ≠ v + 1 -> (addG G (v + 1)).b x = G.b x /\ (addG G (v + 1)).a x = G.a x /\ (addG G (v + 1)).fi x = G.fi x /\ (addG G (v + 1)).la x = G.la x /\ (addG G (v + 1)).pn x = G.pn x := fun x hx =>
  ⟨updF_other _ _ hx, updF_other _ _ hx, updF_other _ _ hx, updF_other _ _ hx, updF_other _ _ hx⟩
 have gt : (addG G (v + 1)).b (v + 1) = false /\ (addG G (v + 1)).a (v + 1) = 0 /\ (addG G (v + 1)).fi (v + 1) = v + 1 /\ (addG G (v + 1)).la (v + 1) = v + 1 /\ (addG G (v + 1)).pn (v + 1) = 0 :=
  ⟨updF_same _ _ _, updF_same _ _ _, updF_same _ _ _, updF_same _ _ _, updF_same _ _ _⟩
 have nz : ∀ y, Th T y -> y ≠ v + 1 := fun y hy e => nt (by rw [← e]; exact hy)
 refine ⟨W.add hv hn, h.ft.add hw, fun x hx => ?_, h.n0, h.nn, fun x hx => ?_, by rw [(gx 0 (by omega)).2.2.2.2]; exact h.p0, fun x hx' => ?_⟩
 ·rcases (th x).1 hx with rfl | q
  ·exact hlt
  ·exact h.lt x q
 ·have h1 : x ≠ v + 1 := fun e => hx ((th x).2 (.inl e))
  rw [nx x h1]; exact h.out x (fun q => hx ((th x).2 (.inr q)))
 by_cases e : x = v + 1
 ·subst e
  have D := D_add_new (w := w) W hv hn
  have z0 := nx 0 (by omega)
  have zl : (newSl w).l = 0 := rfl
  have zr : (newSl w).r = 0 := rfl
  refine ⟨fun e => absurd (by rw [at']; rfl) e, fun e => absurd (by rw [at']; rfl) e, fun _ => by rw [at']; rfl, ?_, fun e => absurd gt.2.2.2.2 e, ?_, ?_, ?_, ?_, ?_, ?_, fun _ _ => by rw [at']; exact ⟨rfl, rfl⟩, fun hT => ?_⟩
  ·rw [gt.1, at', zl, zr]
   exact ⟨fun _ => gt.2.2.1, fun e => absurd rfl e, fun _ => gt.2.2.2.1, fun e => absurd rfl e⟩
  ·rw [at', gt.2.1]
   show w + 0 = updF T.wt v w (v + 1 - 1)
   rw [Nat.add_sub_cancel, updF_same]; omega
  ·rw [at', zl, zr, z0, h.s0]
   show one w = jn (jn (lf zero _) (one w)) (lf zero _)
   rw [lf_nil, jn_nil]
  ·rw [at']; exact Fitm.one hw
  ·rw [at', zl, zr, z0, h.s0]; rfl
  ·rw [at', gt.2.2.2.2, D.1, Dc_zero (W.add hv hn)]; rfl
  ·rw [at', gt.2.2.2.2, D.2, Dw_zero (W.add hv hn)]
   show (0 : Int) = w - updF T.wt v w (v + 1 - 1) - 0
   rw [Nat.add_sub_cancel, updF_same]; omega
  ·refine ⟨gt.1, gt.2.1, ?_, by rw [gt.2.2.2.1]; exact gt.2.2.2.2, ?_⟩
   ·rw [gt.2.2.1, at']
    show (updF T.par v (-1) (v + 1 - 1) + 1).toNat = 0
    rw [Nat.add_sub_cancel, updF_same]; rfl
   ·rw [at', gt.2.2.1]
    show (addG G (v + 1)).pn 0 ≠ _
    rw [(gx 0 (by omega)).2.2.2.2, h.p0]; omega
 ·have hx : Th T x := ((th x).1 hx').resolve_left e
  have L := h.loc x hx
  have ka : ∀ j, j = (S x).l ∨ j = (S x).r -> j ≠ v + 1 := fun j hj e2 => by
   have := (h.up_kid hx hj (by omega)).th
   rw [e2] at this; exact nt this
  refine Loc.move h hx (nx x e) (fun j hj => by rw [nx j (ka j hj)]; exact ⟨rfl, rfl⟩) (fun j j0 hj => ?_) ?_ ?_ ?_ ?_ ?_ (fun hT => ?_)
  ·have K := h.up_kid hx hj j0
   have kn := ka j hj
   exact ⟨(th j).2 (.inr K.th), by rw [nx j kn]; exact K.up, by rw [(gx j kn).1, (gx x e).1, nx x e]; exact K.b, by rw [(gx j kn).2.1, (gx x e).2.1, nx x e]; exact K.a⟩
  ·rw [(gx x e).1]
   refine L.en.agree ⟨(gx x e).2.2.1, (gx x e).2.2.2.1⟩ (fun j j0 hj => ⟨(gx j (ka j hj)).2.2.1, (gx j (ka j hj)).2.2.2.1⟩) (fun j j0 hj e2 => ?_) (fun j j0 hj e2 => ?_)
   ·rw [(gx _ (nz _ (h.la_th (h.up_kid hx hj j0).th))).2.2.2.2]; exact e2
   ·rw [(gx x e).2.2.2.2]; exact e2
  ·rw [(gx x e).2.2.2.2]
   intro p0
   obtain ⟨k1, k2⟩ := L.nx p0
   exact ⟨(th _).2 (.inr k1), by rw [ps_add (nz _ k1) k1.1]; exact k2⟩
  ·rw [(gx x e).2.1]
   show _ = updF T.wt v w (x - 1)
   rw [updF_other _ _ (by have := hx.1; omega)]; exact L.wt
  ·have hp : G.pn x ≠ v + 1 := fun q => by
    have := (L.nx (by omega)).1
    exact nz _ this q
   rw [(gx x e).2.2.2.2, (D_add W hv hn e).1, (D_add W hv hn hp).1]
  ·have hp : G.pn x ≠ v + 1 := fun q => by
    have := (L.nx (by omega)).1
    exact nz _ this q
   rw [(gx x e).2.2.2.2, (D_add W hv hn e).2, (D_add W hv hn hp).2]
   show _ - updF T.wt v w (x - 1) - _ = _
   rw [updF_other _ _ (by have := hx.1; omega)]
  ·have hup : (S x).up ≠ v + 1 := fun q => by
    by_cases hT2 : Top S x
    ·have P := L.tp hT2
     have fth := h.fi_th hx
     rw [← P.fi] at q
     exact nz _ (ps_th W fth (by omega)) q
    ·exact nz _ (h.nt_up hx hT2).1 q
   have hT' : Top S x := by unfold Top at hT ⊢; rw [nx x e, nx _ hup] at hT; exact hT
   have P := L.tp hT'
   have fth := h.fi_th hx
   refine ⟨by rw [(gx x e).1]; exact P.b, by rw [(gx x e).2.1]; exact P.a, ?_, ?_, ?_⟩
   ·rw [(gx x e).2.2.1, nx x e, ps_add (nz _ fth) fth.1]; exact P.fi
   ·rw [(gx x e).2.2.2.1, (gx _ (nz _ (h.la_th hx))).2.2.2.2]; exact P.pn
   ·rw [(gx x e).2.2.1, nx x e, (gx _ hup).2.2.2.2]; exact P.nv
theorem Lc.drop (h : Lc S n T G) (ht : Th T t) (hr : T.par (t - 1) = -1) (hk : ∀ y, T.par y ≠ ((t - 1 : Nat) : Int)) (hT : Top S t) (l0 : (S t).l = 0) (r0 : (S t).r = 0) : Lc (upd S t Sl.zero) n (T.drop (t - 1)) G := by
 have W := h.wf
 have t1 := ht.1
 have tt : t - 1 + 1 = t := Nat.sub_add_cancel t1
 have th : ∀ x, Th (T.drop (t - 1)) x ↔ x ≠ t /\ Th T x := fun x => by have := th_drop (T := T) (v := t - 1) (x := x); rwa [tt] at this
 have nx : ∀ x, x ≠ t -> upd S t Sl.zero x = S x := fun x hx => upd_ne _ _ hx
 have nop : ∀ y, Th T y -> ps T y ≠ t := fun y hy e => by
  have := ps_par hy W
  rw [e] at this
  exact hk (y - 1) (by omega)
 have psd : ∀ x, 1 <= x -> x ≠ t -> ps (T.drop (t - 1)) x = ps T x := fun x h1 h2 => ps_drop (by rw [tt]; exact h2) h1
 have D := fun x (hx : x ≠ t) => D_drop (v := t - 1) (x := x) W hk (by rw [tt]; exact hx) hr
 refine ⟨W.drop hk, h.ft.drop, fun x hx => h.lt x ((th x).1 hx).2, h.n0, h.nn, fun x hx => ?_, h.p0, fun x hx' => ?_⟩
 ·by_cases e : x = t
  ·subst e; exact upd_same _ _ _
  ·rw [nx x e]; exact h.out x fun q => hx ((th x).2 ⟨e, q⟩)
 obtain ⟨e, hx⟩ := (th x).1 hx'
 have L := h.loc x hx
 have pst : ps T t = 0 := by unfold ps; rw [hr]; rfl
 have hp : G.pn x ≠ t := fun q => by
  have := (L.nx (by omega)).2
  rw [q, pst] at this; have := hx.1; omega
 have ka : ∀ j, j = (S x).l ∨ j = (S x).r -> j ≠ t := fun j hj e2 => by
  obtain ⟨k1, k2⟩ := h.top_nk hx hT (by omega)
  rcases hj with q | q
  ·exact k1 (by rw [← e2]; exact q)
  ·exact k2 (by rw [← e2]; exact q)
 refine Loc.move h hx (nx x e) (fun j hj => by rw [nx j (ka j hj)]; exact ⟨rfl, rfl⟩) (fun j j0 hj => ?_) L.en (fun p0 => ?_) ?_ ?_ ?_ (fun hT1 => ?_)
 ·have K := h.up_kid hx hj j0
  exact ⟨(th j).2 ⟨ka j hj, K.th⟩, by rw [nx j (ka j hj)]; exact K.up, by rw [nx x e]; exact K.b, by rw [nx x e]; exact K.a⟩
 ·obtain ⟨k1, k2⟩ := L.nx p0
  exact ⟨(th _).2 ⟨hp, k1⟩, by rw [psd _ k1.1 hp]; exact k2⟩
 ·show _ = updF T.wt (t - 1) 0 (x - 1)
  rw [updF_other _ _ (by have := hx.1; omega)]; exact L.wt
 ·rw [(D x e).1, (D _ hp).1]
 ·rw [(D x e).2, (D _ hp).2]
  show _ - updF T.wt (t - 1) 0 (x - 1) - _ = _
  rw [updF_other _ _ (by have := hx.1; omega)]
 ·have hup : (S x).up ≠ t := fun q => by
   by_cases hT2 : Top S x
   ·have P := L.tp hT2
    exact nop _ (h.fi_th hx) (by rw [P.fi]; exact q)
   ·have := (h.nt_up hx hT2).2.1
    rw [q, l0, r0] at this
    have := hx.1; omega
  have hT' : Top S x := by unfold Top at hT1 ⊢; rw [nx x e, nx _ hup] at hT1; exact hT1
  have P := L.tp hT'
  have fth := h.fi_th hx
  have ft : G.fi x ≠ t := (h.ends_nt hx hT (Ne.symm e)).2
  exact ⟨P.b, P.a, by rw [nx x e, psd _ fth.1 ft]; exact P.fi, P.pn, by rw [nx x e]; exact P.nv⟩
def newG : Gh := ⟨fun _ => false, fun _ => 0, fun x => x, fun x => x, fun _ => 0⟩
theorem Lc.new {n : Nat} (h : n <= 1048576) : Lc (fun _ => Sl.zero) 1 (Tr.new n) newG :=
 ⟨Tr.Wf.new n, Tr.Fit.new h, fun t ht => absurd rfl ht.2, Nat.le_refl _, by show 1 <= n + 1; omega, fun _ _ => rfl, rfl, fun t ht => absurd rfl ht.2⟩
theorem sub_sums (T : Tr) (v : Nat) : (ofL ((T.sub v).map T.wt)).c = Dc T (v + 1) /\ (ofL ((T.sub v).map T.wt)).s = Dw T (v + 1) := by
 rw [ofL_eq]
 unfold Tr.sub Dc Dw
 have key : ∀ n, (ofR (((List.range n).filter (fun u => decide (v ∈ T.up u))).map T.wt)).c = sumF n (fun u => if v + 1 ∈ U T (u + 1) then 1 else 0) /\ (ofR (((List.range n).filter (fun u => decide (v ∈ T.up u))).map T.wt)).s = sumF n (fun u => if v + 1 ∈ U T (u + 1) then T.wt u else 0) := fun n => by
  induction n with
  | zero => exact ⟨rfl, rfl⟩
  | succ n ih =>
   rw [List.range_succ, List.filter_append, List.map_append, ofR_append]
   simp only [sumF]
   rw [← ih.1, ← ih.2]
   by_cases e : v ∈ T.up n
   ·have e' : v + 1 ∈ U T (n + 1) := mem_U1.2 e
    simp only [List.filter_cons, e, decide_true, if_true, List.filter_nil, List.map_cons, List.map_nil, e']
    rw [jn_c, jn_s (ok_ofR _) (ok_ofR _)]
    show _ + (jn (one (T.wt n)) zero).c = _ /\ _ + (jn (one (T.wt n)) zero).s = _
    rw [jn_zero_right (ok_one _)]; exact ⟨rfl, rfl⟩
   ·have e' : v + 1 ∉ U T (n + 1) := fun q => e (mem_U1.1 q)
    simp only [List.filter_cons, e, decide_false, Bool.false_eq_true, if_false, List.filter_nil, List.map_nil, e']
    rw [jn_c, jn_s (ok_ofR _) (ok_ofR _)]
    exact ⟨by show _ + (0 : Int) = _; omega, by show _ + (0 : Int) = _; omega⟩
 exact key T.n
theorem root_of (W : T.Wf) (hv : T.par v ≠ -2) (hr : r ∈ U T (v + 1)) (h0 : ps T r = 0) : T.rootI v = (r : Int) - 1 := by
 have hrt := U_mem_th W hr
 have hp := par_root W hrt h0
 have h1 := hrt.1
 have hr' : (r - 1) ∈ T.up v := mem_U1.1 (by rw [Nat.sub_add_cancel h1]; exact hr)
 rw [Tr.rootI, T.upI_nat, (W.spec hv).root_last hr' hp]
 omega
theorem Pth.rootI (E : Pth S n T G t) : T.rootI ((t - 1 : Nat) : Int) = (G.fi t : Int) - 1 := by
 have t1 := E.th.1
 exact root_of E.lc.wf E.th.2 (by rw [Nat.sub_add_cancel t1]; exact E.fi_mem) E.root
theorem tr_ext {A B : Tr} (hA : A.Wf) (hB : B.Wf) (hn : A.n = B.n) (hw : A.wt = B.wt) (ht : ∀ x, Th A x ↔ Th B x) (hp : ∀ x, Th A x -> ps A x = ps B x) : A = B := by
 cases A with
 | mk n par wt =>
  cases B with
  | mk n' par' wt' =>
   simp only at hn hw
   subst hn hw
   congr 1
   funext v
   by_cases e : Th ⟨n, par, wt⟩ (v + 1)
   ·have e' := (ht _).1 e
    have h1 := ps_par e hA
    have h2 := ps_par e' hB
    have h3 := hp _ e
    simp only [Nat.add_sub_cancel] at h1 h2
    rw [h1, h2, h3]
   ·have e' := fun q => e ((ht _).2 q)
    have h1 : par v = -2 := Classical.byContradiction fun q => e ⟨by omega, by simpa using q⟩
    have h2 : par' v = -2 := Classical.byContradiction fun q => e' ⟨by omega, by simpa using q⟩
    rw [h1, h2]
theorem evert_back (W : T.Wf) (hv : T.par v ≠ -2) (hr : r + 1 ∈ U T (v + 1)) (h0 : ps T (r + 1) = 0) : (T.evert v).evert r = T := by
 have W1 := W.evert hv
 have hrt := U_mem_th W hr
 have hr2 : T.par r ≠ -2 := by simpa using hrt.2
 have hr1 : (T.evert v).par r ≠ -2 := fun q => hr2 ((W.evert_there hv).1 q)
 have hUr : U T (r + 1) = [r + 1] := by rw [U_th W hrt, h0, U_zero]
 have mem : ∀ x, x ∈ U (T.evert v) (r + 1) ↔ x ∈ U T (v + 1) := fun x => by
  constructor
  ·intro q
   refine Classical.byContradiction fun hx => ?_
   rw [mem_evert_out W hv hx, hUr] at q
   simp at q; rw [q] at hx; exact hx hr
  ·intro hx
   have hx' := U_mem_th W hx
   by_cases e : x = v + 1
   ·exact (mem_evert_on W hv hx hr h0 (.inl ⟨e, rfl⟩) r).2 ⟨U_self W hrt, zero_U W⟩
   .
    have key : ∀ (k : Nat) (s : Nat), dp T s <= k -> s ∈ U T (v + 1) -> x ∈ U T s -> x ≠ s -> ∃ z, z ∈ U T (v + 1) /\ ps T z = x := by
     intro k
     induction k with
     | zero => intro s hs hs1 hs2 _; have := dp_pos W (U_mem_th' W hs2); omega
     | succ k ih =>
      intro s hs hs1 hs2 hs3
      have hst := U_mem_th W hs1
      have hd := dp_th W hst
      rcases (U_up W hst).1 hs2 with e | e
      ·exact absurd e hs3
      ·by_cases e2 : x = ps T s
       ·exact ⟨s, hs1, e2.symm⟩
       ·have p0 : ps T s ≠ 0 := fun e3 => by rw [e3, U_zero] at e; simp at e
        exact ih (ps T s) (by omega) (U_trans W hs1 (U_ps W hst p0)) e e2
    obtain ⟨z, hz, hzx⟩ := key _ (v + 1) (Nat.le_refl _) (U_self W ⟨by omega, by simpa using hv⟩) hx e
    refine (mem_evert_on W hv hx hr h0 (.inr ⟨hz, hzx⟩) r).2 ⟨U_self W hrt, fun q => ?_⟩
    rw [hUr] at q
    simp at q
    rw [q, h0] at hzx; have := hx'.1; omega
 have W2 := W1.evert hr1
 refine tr_ext W2 W rfl rfl (fun x => by rw [th_evert W1 hr1, th_evert W hv]) (fun x hx => ?_)
 have hx' : Th T x := (th_evert W hv).1 ((th_evert W1 hr1).1 hx)
 have x1 := hx'.1
 by_cases hm : x ∈ U T (v + 1)
 ·by_cases p0 : ps T x = 0
  ·have : x = r + 1 := by
    rcases U_cmp' W hm hr with q | q
    ·rw [hUr] at q; simpa using q
    ·rw [U_th W hx', p0, U_zero] at q; simp at q; exact q.symm
   subst this
   rw [ps_evert_t W1 hr1, p0]
  ·have e1 := ps_evert_on W hv hm p0
   have hz : ps T x ∈ U T (v + 1) := U_trans W hm (U_ps W hx' p0)
   have e2 := ps_evert_on W1 hr1 ((mem _).2 hz) (by rw [e1]; omega)
   rw [e1] at e2; exact e2
 ·rw [ps_evert_out (fun q => hm ((mem x).1 q)) x1, ps_evert_out hm x1]
end
end Go.Proofs.Ytjnkgakajenoaaa
namespace Go.Proofs.Ytjnkgakajenoaaa
open Go.RowKit Go.Arb
set_option linter.unusedVariables false
set_option linter.unusedSimpArgs false
set_option maxRecDepth 100000
theorem hasI_cases (T : Tr) (x : Int) : (∃ i : Nat, x = i /\ Th T (i + 1) /\ T.hasI x = true) ∨ T.hasI x = false := by
 cases hx : T.hasI x with
 | false => exact .inr rfl
 | true =>
  obtain ⟨i, rfl, hi⟩ := Tr.hasI_true hx
  exact .inl ⟨i, rfl, ⟨by omega, by simpa using hi⟩, rfl⟩
set_option maxHeartbeats 4000000 in
theorem findY {p g n cap room : Nat} {T : Tr} {S : Ss} {G : Gh} {w : World} {i t : Nat} (h : Pool w p g n cap room S) (L : Lc S n T G) (hi : Th T t) (hit : t = i + 1) :
  Calls Try.prog 58 #[zp p 0, zi i] w fun e w' => e = .returned (zi t) /\ Keep [g] w w' /\ Pool w' p g n cap room S := by
 have PH := hide h
 have KP := hide (Keep.refl [g] w)
 have LH := hide L
 clear h L
 have lt1 := (unhide LH).lt t hi
 have nnn := (unhide LH).nn
 have hTn := (unhide LH).ft.n
 have e1 : (0 : Int) <= (i : Int) := by omega
 have e2 : (t : Int) < (n : Int) := by omega
 have e3 : ¬ ((n : Int) - 1 <= (i : Int)) := by omega
 have e4 : ¬ ((i : Int) < 0) := by omega
 have w1 : IntKind.i64.wrap ((i : Int) + 1) = (t : Int) := by rw [IntWalk.i64_in _ (by omega)]; omega
 have w2 : IntKind.i64.wrap ((n : Int) - 1) = (n : Int) - 1 := IntWalk.i64_in _ (by omega)
 have e5 : (0 : Int) <= (t : Int) := by omega
 have hc : ¬ (S t).sm.c = 0 := (unhide LH).th_c.1 hi
 clear hi hit
 go_enter Try.func58, Try.ntmps58
 obtain ⟨c0, c1, _⟩ := (unhide PH).head
 obtain ⟨_, _, _, _, _, _, z1_6, _⟩ := (unhide PH).slot (t := t) (by assumption)
 go_wp2
 refine bodyPost_ret (v := zi t) (by simp [results, Try.results58, go_sem, *]) rfl ⟨rfl, unhide KP, unhide PH⟩
set_option maxHeartbeats 4000000 in
theorem findN1 {p g n cap room : Nat} {T : Tr} {S : Ss} {G : Gh} {w : World} {x : Int} (h : Pool w p g n cap room S) (L : Lc S n T G) (hx : x < 0) :
  Calls Try.prog 58 #[zp p 0, zi x] w fun e w' => e = .returned (zi 0) /\ Keep [g] w w' /\ Pool w' p g n cap room S := by
 have PH := hide h
 have KP := hide (Keep.refl [g] w)
 have LH := hide L
 clear h L
 go_enter Try.func58, Try.ntmps58
 go_wp2
 refine bodyPost_ret (v := zi 0) (by simp [results, Try.results58, go_sem, *]) rfl ⟨rfl, unhide KP, unhide PH⟩
set_option maxHeartbeats 4000000 in
theorem findN2 {p g n cap room : Nat} {T : Tr} {S : Ss} {G : Gh} {w : World} {x : Int} (h : Pool w p g n cap room S) (L : Lc S n T G) (hx : 0 <= x) (hn : (n : Int) - 1 <= x) :
  Calls Try.prog 58 #[zp p 0, zi x] w fun e w' => e = .returned (zi 0) /\ Keep [g] w w' /\ Pool w' p g n cap room S := by
 have PH := hide h
 have KP := hide (Keep.refl [g] w)
 have LH := hide L
 clear h L
 have nnn := (unhide LH).nn
 have hTn := (unhide LH).ft.n
 have e4 : ¬ (x < 0) := by omega
 have w2 : IntKind.i64.wrap ((n : Int) - 1) = (n : Int) - 1 := IntWalk.i64_in _ (by omega)
 go_enter Try.func58, Try.ntmps58
 obtain ⟨c0, c1, _⟩ := (unhide PH).head
 go_wp2
 refine bodyPost_ret (v := zi 0) (by simp [results, Try.results58, go_sem, *]) rfl ⟨rfl, unhide KP, unhide PH⟩
set_option maxHeartbeats 4000000 in
theorem findN3 {p g n cap room : Nat} {T : Tr} {S : Ss} {G : Gh} {w : World} {i t : Nat} (h : Pool w p g n cap room S) (L : Lc S n T G) (lt1 : t < n) (hit : t = i + 1) (hc : (S t).sm.c = 0) :
  Calls Try.prog 58 #[zp p 0, zi i] w fun e w' => e = .returned (zi 0) /\ Keep [g] w w' /\ Pool w' p g n cap room S := by
 have PH := hide h
 have KP := hide (Keep.refl [g] w)
 have LH := hide L
 clear h L
 have nnn := (unhide LH).nn
 have hTn := (unhide LH).ft.n
 have e1 : (0 : Int) <= (i : Int) := by omega
 have e2 : (t : Int) < (n : Int) := by omega
 have e3 : ¬ ((n : Int) - 1 <= (i : Int)) := by omega
 have e4 : ¬ ((i : Int) < 0) := by omega
 have w1 : IntKind.i64.wrap ((i : Int) + 1) = (t : Int) := by rw [IntWalk.i64_in _ (by omega)]; omega
 have w2 : IntKind.i64.wrap ((n : Int) - 1) = (n : Int) - 1 := IntWalk.i64_in _ (by omega)
 have e5 : (0 : Int) <= (t : Int) := by omega
 clear hit
 go_enter Try.func58, Try.ntmps58
 obtain ⟨c0, c1, _⟩ := (unhide PH).head
 obtain ⟨_, _, _, _, _, _, z1_6, _⟩ := (unhide PH).slot (t := t) (by assumption)
 go_wp2
 refine bodyPost_ret (v := zi 0) (by simp [results, Try.results58, go_sem, *]) rfl ⟨rfl, unhide KP, unhide PH⟩
theorem findN {p g n cap room : Nat} {T : Tr} {S : Ss} {G : Gh} {w : World} {x : Int} (h : Pool w p g n cap room S) (L : Lc S n T G) (hx : T.hasI x = false) :
  Calls Try.prog 58 #[zp p 0, zi x] w fun e w' => e = .returned (zi 0) /\ Keep [g] w w' /\ Pool w' p g n cap room S := by
 by_cases h0 : x < 0
 ·exact findN1 h L h0
 ·by_cases h1 : (n : Int) - 1 <= x
  ·exact findN2 h L (by omega) h1
  ·obtain ⟨i, rfl⟩ := Int.eq_ofNat_of_zero_le (show 0 <= x by omega)
   refine findN3 h L (by omega) rfl (Classical.byContradiction fun hc => ?_)
   have ht := L.th_c.2 hc
   rw [T.hasI_nat] at hx
   have := ht.2
   simp at this hx
   exact this hx
set_option maxHeartbeats 4000000 in
theorem hasY {p g n cap room : Nat} {T : Tr} {S : Ss} {G : Gh} {w : World} {i t : Nat} (h : Pool w p g n cap room S) (L : Lc S n T G) (hi : Th T t) (hit : t = i + 1) :
  Calls Try.prog 37 #[zp p 0, zi i] w fun e w' => e = .returned (.bool true) /\ Keep [g] w w' /\ Pool w' p g n cap room S := by
 have PH := hide h
 have KP := hide (Keep.refl [g] w)
 have LH := hide L
 clear h L
 have e5 : ¬ (t : Int) = 0 := by omega
 have e6 : ¬ t = 0 := by omega
 have HI := hide hit
 clear hit
 go_enter Try.func37, Try.ntmps37
 go_wp2_with fail
 refine (findY (unhide PH) (unhide LH) hi (unhide HI)).mono ?_
 rintro e W1 ⟨rfl, Q1, P1⟩
 have Q2 := hide ((unhide KP).tr Q1)
 clear PH KP Q1
 have PH := hide P1
 have KP := Q2
 clear Q2 P1
 go_wp2
 refine bodyPost_ret (v := .bool true) (by simp [results, Try.results37, go_sem, *]) rfl ⟨rfl, unhide KP, unhide PH⟩
set_option maxHeartbeats 4000000 in
theorem hasN {p g n cap room : Nat} {T : Tr} {S : Ss} {G : Gh} {w : World} {x : Int} (h : Pool w p g n cap room S) (L : Lc S n T G) (hx : T.hasI x = false) :
  Calls Try.prog 37 #[zp p 0, zi x] w fun e w' => e = .returned (.bool false) /\ Keep [g] w w' /\ Pool w' p g n cap room S := by
 have PH := hide h
 have KP := hide (Keep.refl [g] w)
 have LH := hide L
 clear h L
 go_enter Try.func37, Try.ntmps37
 go_wp2_with fail
 refine (findN (unhide PH) (unhide LH) hx).mono ?_
 rintro e W1 ⟨rfl, Q1, P1⟩
 have Q2 := hide ((unhide KP).tr Q1)
 clear PH KP Q1
 have PH := hide P1
 have KP := Q2
 clear Q2 P1
 go_wp2
 refine bodyPost_ret (v := .bool false) (by simp [results, Try.results37, go_sem, *]) rfl ⟨rfl, unhide KP, unhide PH⟩
set_option maxHeartbeats 4000000 in
theorem isRootL {p g n cap room : Nat} {T : Tr} {S : Ss} {G : Gh} {w : World} {t : Nat} (h : Pool w p g n cap room S) (L : Lc S n T G) (ht : Th T t) :
  Calls Try.prog 57 #[zp p 0, zi t] w fun e w' => Keep [g] w w' /\ ∃ met S1 G1, e = .returned (.bool (((S1 t).l : Int) == 0)) /\ Pool w' p g n cap room S1 /\ Lc S1 n T G1 /\ Exd n T t S G met S1 G1 := by
 have PH := hide h
 have KP := hide (Keep.refl [g] w)
 have LH := hide L
 clear h L
 have lt1 := (unhide LH).lt t ht
 have e1 : (0 : Int) <= (t : Int) := by omega
 have e2 : (t : Int) < (n : Int) := by omega
 have HT := hide ht
 clear ht
 go_enter Try.func57, Try.ntmps57
 go_wp2_with fail
 refine (exposeL (unhide PH) (unhide LH) (unhide HT)).mono ?_
 rintro e W1 ⟨met, rfl, Q1, S1, G1, P1, L1, X1⟩
 have Q2 := hide ((unhide KP).tr Q1)
 clear PH KP Q1
 have PH := hide P1
 have KP := Q2
 clear Q2 P1
 obtain ⟨c0, c1, _⟩ := (unhide PH).head
 obtain ⟨_, z1_1, _⟩ := (unhide PH).slot (t := t) (by assumption)
 go_wp2
 refine bodyPost_ret (v := .bool (((S1 t).l : Int) == 0)) (by simp [results, Try.results57, go_sem, *]) rfl ⟨unhide KP, met, S1, G1, rfl, unhide PH, L1, X1⟩
def O60_0_0 : Oper := ⟨some 4, .move (.tmp 0), 23, "path.go:123", #[], none⟩
def O60_0_1 : Oper := ⟨some 5, .nilCheck (.tmp 4), 0, "path.go:123", #[⟨0, .data⟩], none⟩
def O60_0_2 : Oper := ⟨some 6, .fieldAddr 66 (.tmp 5) 1, 0, "path.go:123", #[⟨1, .data⟩], none⟩
def O60_0_3 : Oper := ⟨some 7, .load 64 (.tmp 6), 64, "path.go:123", #[⟨2, .data⟩], none⟩
def O60_0_4 : Oper := ⟨some 8, .move (.tmp 0), 23, "path.go:123", #[], none⟩
def O60_0_5 : Oper := ⟨some 9, .nilCheck (.tmp 8), 0, "path.go:123", #[⟨4, .data⟩], none⟩
def O60_0_6 : Oper := ⟨some 10, .fieldAddr 66 (.tmp 9) 1, 0, "path.go:123", #[⟨5, .data⟩], none⟩
def O60_0_7 : Oper := ⟨some 11, .load 64 (.tmp 10), 64, "path.go:123", #[⟨6, .data⟩], none⟩
def O60_0_8 : Oper := ⟨some 12, .move (.tmp 1), 3, "path.go:123", #[], none⟩
def O60_0_9 : Oper := ⟨some 13, .indexAddr 64 (.tmp 11) (.tmp 12), 0, "path.go:123", #[⟨7, .data⟩, ⟨8, .data⟩], none⟩
def O60_0_10 : Oper := ⟨some 14, .fieldAddr 75 (.tmp 13) 1, 0, "path.go:123", #[⟨9, .data⟩], none⟩
def O60_0_11 : Oper := ⟨some 15, .load 3 (.tmp 14), 3, "path.go:123", #[⟨10, .data⟩], none⟩
def O60_0_12 : Oper := ⟨some 16, .indexAddr 64 (.tmp 7) (.tmp 15), 0, "path.go:123", #[⟨3, .data⟩, ⟨11, .data⟩, ⟨0, .phase⟩, ⟨1, .phase⟩, ⟨2, .phase⟩, ⟨3, .phase⟩, ⟨4, .phase⟩, ⟨5, .phase⟩, ⟨6, .phase⟩, ⟨7, .phase⟩, ⟨8, .phase⟩, ⟨9, .phase⟩, ⟨10, .phase⟩, ⟨11, .phase⟩], none⟩
def O60_0_13 : Oper := ⟨some 17, .fieldAddr 75 (.tmp 16) 0, 0, "path.go:123", #[⟨12, .data⟩, ⟨0, .phase⟩, ⟨1, .phase⟩, ⟨2, .phase⟩, ⟨3, .phase⟩, ⟨4, .phase⟩, ⟨5, .phase⟩, ⟨6, .phase⟩, ⟨7, .phase⟩, ⟨8, .phase⟩, ⟨9, .phase⟩, ⟨10, .phase⟩, ⟨11, .phase⟩], none⟩
def O60_0_14 : Oper := ⟨none, .store 3 (.tmp 17) (.const (zi 0)), 0, "path.go:123", #[⟨13, .data⟩, ⟨0, .phase⟩, ⟨1, .phase⟩, ⟨2, .phase⟩, ⟨3, .phase⟩, ⟨4, .phase⟩, ⟨5, .phase⟩, ⟨6, .phase⟩, ⟨7, .phase⟩, ⟨8, .phase⟩, ⟨9, .phase⟩, ⟨10, .phase⟩, ⟨11, .phase⟩], none⟩
def OPS60_0 : List Oper := [O60_0_0, O60_0_1, O60_0_2, O60_0_3, O60_0_4, O60_0_5, O60_0_6, O60_0_7, O60_0_8, O60_0_9, O60_0_10, O60_0_11, O60_0_12, O60_0_13, O60_0_14]
set_option maxHeartbeats 4000000 in
theorem detach_any {p g n cap room t : Nat} {S : Ss} {w : World} (h : Pool w p g n cap room S) (ht : t < n) (t0 : 0 < t) (hl : (S t).l < n) (hlt : (S t).l ≠ t) (hr : (S t).r < n) (hrt : (S t).r ≠ t) (hb : Gbd (besideS (detach1 S t) t 0 (detach1 S t t).r) t) :
  Calls Try.prog 60 #[zp p 0, zi t] w fun e w' => e = .returned (.tuple #[]) /\ Keep [g] w w' /\ Pool w' p g n cap room (detachS S t) := by
 have PH := hide h
 have KP := hide (Keep.refl [g] w)
 have HB := hide hb
 clear h hb
 have e1 : (0 : Int) <= (t : Int) := by omega
 have e2 : (t : Int) < (n : Int) := by omega
 have e3 : (0 : Int) <= ((S t).l : Int) := by omega
 have e4 : ((S t).l : Int) < (n : Int) := by omega
 refine callsK (n := 29) (L := [(0, zp p 0), (1, zi t)]) Try.func60 rfl Try.ntmps60 rfl rfl (fun a0 K0 => ?_)
 refine seqN ?_
 have PD := hide (unhide PH).drew
 have KD := hide (unhide KP).drew
 clear PH KP
 have PH := PD
 have KP := KD
 clear PD KD
 show (Code.region 0 OPS60_0.toArray true).wp _ _ _ _
 refine wp_region_still_tail 14 (by kernel_rfl) (by kernel_rfl) ?_
 change wpStill _ _ w.drew _ _ _
 refine stake (o := O60_0_0) (v := zp p 0) K0 rfl rfl (want_none rfl) (fun ev E => ?_) (fun a1 K1 => ?_)
 ·have E0 := E.tmp 0 _ rfl; clear E; unfold O60_0_0; clear PH KP HB; go_simp
 refine stake (o := O60_0_1) (v := zp p 0) K1 rfl rfl (want_none rfl) (fun ev E => ?_) (fun a2 K2 => ?_)
 ·have E4 := E.tmp 4 _ rfl; clear E; unfold O60_0_1; clear PH KP HB; go_simp
 clear K1
 refine stake (o := O60_0_2) (v := zp p 1) K2 rfl rfl (want_none rfl) (fun ev E => ?_) (fun a3 K3 => ?_)
 ·have E5 := E.tmp 5 _ rfl; clear E; unfold O60_0_2; clear PH KP HB; go_simp
 clear K2
 refine stake (o := O60_0_3) (v := .slice (some ⟨g, 0, none⟩) n cap) K3 rfl rfl (want_none rfl) (fun ev E => ?_) (fun a4 K4 => ?_)
 ·obtain ⟨c0, c1, _⟩ := (unhide PH).head; have E6 := E.tmp 6 _ rfl; clear E; unfold O60_0_3; clear PH KP HB; go_simp
 clear K3
 refine stake (o := O60_0_4) (v := zp p 0) K4 rfl rfl (want_none rfl) (fun ev E => ?_) (fun a5 K5 => ?_)
 ·have E0 := E.tmp 0 _ rfl; clear E; unfold O60_0_4; clear PH KP HB; go_simp
 clear K4
 refine stake (o := O60_0_5) (v := zp p 0) K5 rfl rfl (want_none rfl) (fun ev E => ?_) (fun a6 K6 => ?_)
 ·have E8 := E.tmp 8 _ rfl; clear E; unfold O60_0_5; clear PH KP HB; go_simp
 clear K5
 refine stake (o := O60_0_6) (v := zp p 1) K6 rfl rfl (want_none rfl) (fun ev E => ?_) (fun a7 K7 => ?_)
 ·have E9 := E.tmp 9 _ rfl; clear E; unfold O60_0_6; clear PH KP HB; go_simp
 clear K6
 refine stake (o := O60_0_7) (v := .slice (some ⟨g, 0, none⟩) n cap) K7 rfl rfl (want_none rfl) (fun ev E => ?_) (fun a8 K8 => ?_)
 ·obtain ⟨c0, c1, _⟩ := (unhide PH).head; have E10 := E.tmp 10 _ rfl; clear E; unfold O60_0_7; clear PH KP HB; go_simp
 clear K7
 refine stake (o := O60_0_8) (v := zi t) K8 rfl rfl (want_none rfl) (fun ev E => ?_) (fun a9 K9 => ?_)
 ·have E1 := E.tmp 1 _ rfl; clear E; unfold O60_0_8; clear PH KP HB; go_simp
 clear K8
 refine stake (o := O60_0_9) (v := zp g (t * 14)) K9 rfl rfl (want_none rfl) (fun ev E => ?_) (fun a10 K10 => ?_)
 ·have E11 := E.tmp 11 _ rfl; have E12 := E.tmp 12 _ rfl; clear E; unfold O60_0_9; clear PH KP HB; go_simp
 clear K9
 refine stake (o := O60_0_10) (v := zp g (t * 14 + 1)) K10 rfl rfl (want_none rfl) (fun ev E => ?_) (fun a11 K11 => ?_)
 ·have E13 := E.tmp 13 _ rfl; clear E; unfold O60_0_10; clear PH KP HB; go_simp
 clear K10
 refine stake (o := O60_0_11) (v := zi ((S t).l : Int)) K11 rfl rfl (want_none rfl) (fun ev E => ?_) (fun a12 K12 => ?_)
 ·obtain ⟨s0, s1, s2, s3, s4, s5, s6, s7, s8, s9, s10, s11, s12, s13⟩ := (unhide PH).slot (t := t) (by assumption); have E14 := E.tmp 14 _ rfl; clear E; unfold O60_0_11; clear PH KP HB; go_simp
 clear K11
 refine stake (o := O60_0_12) (v := zp g ((S t).l * 14)) K12 rfl rfl (want_none rfl) (fun ev E => ?_) (fun a13 K13 => ?_)
 ·have E7 := E.tmp 7 _ rfl; have E15 := E.tmp 15 _ rfl; clear E; unfold O60_0_12; clear PH KP HB; go_simp
 clear K12
 refine stake (o := O60_0_13) (v := zp g ((S t).l * 14)) K13 rfl rfl (want_none rfl) (fun ev E => ?_) (fun a14 K14 => ?_)
 ·have E16 := E.tmp 16 _ rfl; clear E; unfold O60_0_13; clear PH KP HB; go_simp
 clear K13
 refine wpStill_nil ?_
 change wpList _ _ _ [_] _ w.drew
 generalize w.drew = VV at *
 obtain ⟨sk, _, _, _, _, _, _, _, _, _, _, _, _, _⟩ := (unhide PH).slot (t := (S t).l) hl
 obtain ⟨fk, _, _, _, _, _, _, _, _, _, _, _, _, _⟩ := (unhide PH).soft (t := (S t).l) hl
 refine lstore (w' := VV.setCell ⟨g, (S t).l * 14, none⟩ (zi 0)) K14 rfl (want_none rfl) (fun ev E => ?_) ?_
 ·have EC := E.const; have E17 := E.tmp 17 _ rfl; clear E; unfold O60_0_14; clear PH KP HB; go_simp
 clear sk fk
 have P1 := (unhide PH).put (t := (S t).l) hl 0 (by omega) { S (S t).l with up := 0 } (zi 0) rfl
 have Q1 := (unhide KP).cellB ((S t).l * 14) (zi 0)
 clear PH KP
 have PH := hide P1
 have KP := hide Q1
 clear P1 Q1
 generalize VV.setCell ⟨g, (S t).l * 14, none⟩ (zi 0) = W1 at *
 refine wpList_nil ?_
 obtain ⟨S1, hS1⟩ : ∃ z, z = detach1 S t := ⟨_, rfl⟩
 have PP : Pool W1 p g n cap room S1 := by rw [hS1]; exact unhide PH
 clear PH
 have PH := hide PP
 clear PP
 have sr : (S1 t).r = (S t).r := by rw [hS1, detach1, upd_ne _ _ (Ne.symm hlt)]
 have HS1 := hide (And.intro hS1 sr)
 clear hS1 sr
 show Code.wp _ _ _ _ _
 refine wp_region_lit ?_
 refine lM K14 fun a16 K16 => ?_
 clear K14
 refine lM K16 fun a17 K17 => ?_
 clear K16
 refine lM K17 fun a18 K18 => ?_
 clear K17
 refine lN K18 fun a19 K19 => ?_
 clear K18
 refine lF K19 FA66_1 fun a20 K20 => ?_
 clear K19
 refine lT (.slice (some ⟨g, 0, none⟩) n cap) W1 K20 (want_none rfl) (fun ev E => ?_) fun a21 K21 => ?_
 ·obtain ⟨c0, c1, _⟩ := (unhide PH).head; have E22 := E.tmp 22 _ rfl; clear E; clear PH KP HB HS1; go_simp
 clear K20
 refine lM K21 fun a22 K22 => ?_
 clear K21
 refine lT (zp g (t * 14)) W1 K22 (want_none rfl) (fun ev E => ?_) fun a23 K23 => ?_
 ·have E23 := E.tmp 23 _ rfl; have E24 := E.tmp 24 _ rfl; clear E; clear PH KP HB HS1; go_simp
 clear K22
 refine lF K23 FA75_2 fun a24 K24 => ?_
 clear K23
 refine lT (zi ((S1 t).r : Int)) W1 K24 (want_none rfl) (fun ev E => ?_) fun a25 K25 => ?_
 ·obtain ⟨s0, s1, s2, s3, s4, s5, s6, s7, s8, s9, s10, s11, s12, s13⟩ := (unhide PH).slot (t := t) (by assumption); have E26 := E.tmp 26 _ rfl; clear E; clear PH KP HB HS1; go_simp
 clear K24
 have hd := unhide HB
 refine lcall (f := 81) (args := #[zp p 0, zi t, zi 0, zi ((S1 t).r : Int)]) K25 rfl rfl (want_none rfl) (fun ev E => ?_) (hold_any (l := 0) (unhide PH) ht (by omega) (by rw [(unhide HS1).2]; exact hr) (by omega) (by rw [(unhide HS1).2]; exact hrt) (by rw [(unhide HS1).1]; exact unhide HB)) (fun e W26 hR => ?_)
 ·have EC := E.const; have EF := E.func; have E18 := E.tmp 18 _ rfl; have E19 := E.tmp 19 _ rfl; have E27 := E.tmp 27 _ rfl; clear E; clear PH KP HB HS1; go_simp
 obtain ⟨rfl, P1, Q1⟩ := hR
 have Q2 := hide ((unhide KP).tr Q1)
 clear PH KP Q1
 have PH := hide P1
 have KP := Q2
 clear Q2 P1
 refine ⟨_, rfl, fun a27 K27 => ?_⟩
 clear K25
 refine wpList_nil ?_
 refine ⟨K27.defers, .tuple #[], results_none rfl _ _ _, rfl, unhide KP, ?_⟩
 have PQ := unhide PH
 rw [(unhide HS1).1] at PQ; exact PQ
theorem detachL {p g n cap room t : Nat} {T : Tr} {S : Ss} {G : Gh} {w : World} (h : Pool w p g n cap room S) (E : Pth S n T G t) (l0 : (S t).l ≠ 0) :
  Calls Try.prog 60 #[zp p 0, zi t] w fun e w' => e = .returned (.tuple #[]) /\ Keep [g] w w' /\ ∃ G1, Pool w' p g n cap room (detachS S t) /\ Lc (detachS S t) n (T.cut (t - 1)) G1 := by
 have L := E.lc
 obtain ⟨k1, k2, k3, k4⟩ := L.kids_lt E.th
 have t0 := E.th.1
 have dt : detach1 S t t = S t := upd_ne _ _ (Ne.symm k3)
 have f : ∀ x, (detach1 S t x).sm = (S x).sm /\ (detach1 S t x).hu = (S x).hu /\ (detach1 S t x).hg = (S x).hg /\ (detach1 S t x).wt = (S x).wt := fun x => by
  unfold detach1
  by_cases e : x = (S t).l
  ·subst e; rw [upd_same]; exact ⟨rfl, rfl, rfl, rfl⟩
  ·rw [upd_ne _ _ e]; exact ⟨rfl, rfl, rfl, rfl⟩
 have B0 : ∀ x, Bz (detach1 S t x) := fun x => (L.bz x).of (f x).1 (f x).2.1 (f x).2.2.1 (f x).2.2.2
 refine (detach_any h (L.lt t E.th) (by omega) k1 k3 k2 k4 (by rw [dt]; exact gbd_beside (by omega) k4 (B0 0) (B0 _) (B0 t))).mono ?_
 rintro e w' ⟨rfl, q1, q2⟩
 exact ⟨rfl, q1, _, q2, E.detach l0⟩
set_option maxHeartbeats 4000000 in
theorem cutN {p g n cap room : Nat} {T : Tr} {S : Ss} {G : Gh} {w : World} {x : Int} (h : Pool w p g n cap room S) (L : Lc S n T G) (hx : T.hasI x = false) :
  Calls Try.prog 23 #[zp p 0, zi x] w fun e w' => e = .returned (.bool false) /\ Keep [g] w w' /\ Pool w' p g n cap room S := by
 have PH := hide h
 have KP := hide (Keep.refl [g] w)
 have LH := hide L
 clear h L
 go_enter Try.func23, Try.ntmps23
 go_wp2_with fail
 refine (findN (unhide PH) (unhide LH) hx).mono ?_
 rintro e W1 ⟨rfl, Q1, P1⟩
 have Q2 := hide ((unhide KP).tr Q1)
 clear PH KP Q1
 have PH := hide P1
 have KP := Q2
 clear Q2 P1
 go_wp2
 refine bodyPost_ret (v := .bool false) (by simp [results, Try.results23, go_sem, *]) rfl ⟨rfl, unhide KP, unhide PH⟩
set_option maxHeartbeats 4000000 in
theorem cutY0 {p g n cap room : Nat} {T : Tr} {S : Ss} {G : Gh} {w : World} {i t : Nat} (h : Pool w p g n cap room S) (L : Lc S n T G) (hi : Th T t) (hit : t = i + 1) (hp : ps T t = 0) :
  Calls Try.prog 23 #[zp p 0, zi i] w fun e w' => e = .returned (.bool false) /\ Keep [g] w w' /\ ∃ S1 G1, Pool w' p g n cap room S1 /\ Lc S1 n T G1 := by
 have PH := hide h
 have KP := hide (Keep.refl [g] w)
 have LH := hide L
 clear h L
 have lt1 := (unhide LH).lt t hi
 have e1 : (0 : Int) <= (t : Int) := by omega
 have e2 : (t : Int) < (n : Int) := by omega
 have t1 := hi.1
 have e5 : ¬ (t : Int) = 0 := by omega
 have e6 : ¬ t = 0 := by omega
 have HT := hide hi
 have HI := hide hit
 have HP := hide hp
 clear hi hit t1 hp
 go_enter Try.func23, Try.ntmps23
 go_wp2_with fail
 refine (findY (unhide PH) (unhide LH) (unhide HT) (unhide HI)).mono ?_
 rintro e W1 ⟨rfl, Q1, P1⟩
 have Q2 := hide ((unhide KP).tr Q1)
 clear PH KP Q1
 have PH := hide P1
 have KP := Q2
 clear Q2 P1
 go_wp2_with fail
 refine (isRootL (unhide PH) (unhide LH) (unhide HT)).mono ?_
 rintro e W2 ⟨Q1, met1, S1, G1, rfl, P1, L1, X1⟩
 have Q2 := hide ((unhide KP).tr Q1)
 clear PH KP Q1
 have PH := hide P1
 have KP := Q2
 clear Q2 P1
 have E1 := X1.pth L1 (unhide HT)
 have hps : ps T t = 0 := unhide HP
 have l0 : ((S1 t).l : Int) = 0 := by
  refine Classical.byContradiction fun e0 => ?_
  have l1 : (S1 t).l ≠ 0 := by omega
  have en := (L1.loc t (unhide HT)).en
  rw [((L1.loc t (unhide HT)).tp X1.top).b] at en
  have q : G1.pn (G1.la (S1 t).l) = t := (en.l1 l1).2
  have := (L1.ps_pn (L1.la_th ((L1.loc t (unhide HT)).kl l1).th) q (by omega)).2
  rw [hps] at this
  have := (L1.la_th ((L1.loc t (unhide HT)).kl l1).th).1
  omega
 clear hps
 rw [show (((S1 t).l : Int) == 0) = true from by rw [l0]; rfl] at ⊢
 clear l0
 go_wp2
 refine bodyPost_ret (v := .bool false) (by simp [results, Try.results23, go_sem, *]) rfl ⟨rfl, unhide KP, S1, G1, unhide PH, L1⟩
set_option maxHeartbeats 4000000 in
theorem cutY1 {p g n cap room : Nat} {T : Tr} {S : Ss} {G : Gh} {w : World} {i t : Nat} (h : Pool w p g n cap room S) (L : Lc S n T G) (hi : Th T t) (hit : t = i + 1) (hp : ¬ ps T t = 0) :
  Calls Try.prog 23 #[zp p 0, zi i] w fun e w' => e = .returned (.bool true) /\ Keep [g] w w' /\ ∃ S1 G1, Pool w' p g n cap room S1 /\ Lc S1 n (T.cut i) G1 := by
 have PH := hide h
 have KP := hide (Keep.refl [g] w)
 have LH := hide L
 clear h L
 have lt1 := (unhide LH).lt t hi
 have e1 : (0 : Int) <= (t : Int) := by omega
 have e2 : (t : Int) < (n : Int) := by omega
 have t1 := hi.1
 have e5 : ¬ (t : Int) = 0 := by omega
 have e6 : ¬ t = 0 := by omega
 have HT := hide hi
 have HI := hide hit
 have HP := hide hp
 clear hi hit t1 hp
 go_enter Try.func23, Try.ntmps23
 go_wp2_with fail
 refine (findY (unhide PH) (unhide LH) (unhide HT) (unhide HI)).mono ?_
 rintro e W1 ⟨rfl, Q1, P1⟩
 have Q2 := hide ((unhide KP).tr Q1)
 clear PH KP Q1
 have PH := hide P1
 have KP := Q2
 clear Q2 P1
 go_wp2_with fail
 refine (isRootL (unhide PH) (unhide LH) (unhide HT)).mono ?_
 rintro e W2 ⟨Q1, met1, S1, G1, rfl, P1, L1, X1⟩
 have Q2 := hide ((unhide KP).tr Q1)
 clear PH KP Q1
 have PH := hide P1
 have KP := Q2
 clear Q2 P1
 have E1 := X1.pth L1 (unhide HT)
 have l0 : ¬ (S1 t).l = 0 := fun e0 => by
  have en := (L1.loc t (unhide HT)).en
  rw [((L1.loc t (unhide HT)).tp X1.top).b] at en
  have q : G1.fi t = t := en.l0 e0
  have := X1.root
  rw [q] at this
  exact unhide HP this
 have l0i : (((S1 t).l : Int) == 0) = false := by simp; omega
 rw [l0i] at ⊢
 have HL := hide l0
 clear l0 l0i
 go_wp2_with fail
 refine (detachL (unhide PH) E1 (unhide HL)).mono ?_
 rintro e W3 ⟨rfl, Q1, G2, P1, L2⟩
 have Q2 := hide ((unhide KP).tr Q1)
 clear PH KP Q1
 have PH := hide P1
 have KP := Q2
 clear Q2 P1
 go_wp2
 have hti : t - 1 = i := by have := unhide HI; omega
 rw [hti] at L2
 refine bodyPost_ret (v := .bool true) (by simp [results, Try.results23, go_sem, *]) rfl ⟨rfl, unhide KP, _, G2, unhide PH, L2⟩
set_option maxHeartbeats 4000000 in
theorem rootN {p g n cap room : Nat} {T : Tr} {S : Ss} {G : Gh} {w : World} {x : Int} (h : Pool w p g n cap room S) (L : Lc S n T G) (hx : T.hasI x = false) :
  Calls Try.prog 39 #[zp p 0, zi x] w fun e w' => e = .returned (zi (-1)) /\ Keep [g] w w' /\ Pool w' p g n cap room S := by
 have PH := hide h
 have KP := hide (Keep.refl [g] w)
 have LH := hide L
 clear h L
 go_enter Try.func39, Try.ntmps39
 go_wp2_with fail
 refine (findN (unhide PH) (unhide LH) hx).mono ?_
 rintro e W1 ⟨rfl, Q1, P1⟩
 have Q2 := hide ((unhide KP).tr Q1)
 clear PH KP Q1
 have PH := hide P1
 have KP := Q2
 clear Q2 P1
 go_wp2
 refine bodyPost_ret (v := zi (-1)) (by simp [results, Try.results39, go_sem, *]) rfl ⟨rfl, unhide KP, unhide PH⟩
set_option maxHeartbeats 4000000 in
theorem rootY {p g n cap room : Nat} {T : Tr} {S : Ss} {G : Gh} {w : World} {i t : Nat} (h : Pool w p g n cap room S) (L : Lc S n T G) (hi : Th T t) (hit : t = i + 1) :
  Calls Try.prog 39 #[zp p 0, zi i] w fun e w' => e = .returned (zi (T.rootI (i : Int))) /\ Keep [g] w w' /\ ∃ S1 G1, Pool w' p g n cap room S1 /\ Lc S1 n T G1 := by
 have PH := hide h
 have KP := hide (Keep.refl [g] w)
 have LH := hide L
 clear h L
 have lt1 := (unhide LH).lt t hi
 have nnn := (unhide LH).nn
 have hTn := (unhide LH).ft.n
 have e1 : (0 : Int) <= (t : Int) := by omega
 have e2 : (t : Int) < (n : Int) := by omega
 have t1 := hi.1
 have e5 : ¬ (t : Int) = 0 := by omega
 have e6 : ¬ t = 0 := by omega
 have HT := hide hi
 have HI := hide hit
 clear hi hit t1
 go_enter Try.func39, Try.ntmps39
 go_wp2_with fail
 refine (findY (unhide PH) (unhide LH) (unhide HT) (unhide HI)).mono ?_
 rintro e W1 ⟨rfl, Q1, P1⟩
 have Q2 := hide ((unhide KP).tr Q1)
 clear PH KP Q1
 have PH := hide P1
 have KP := Q2
 clear Q2 P1
 go_wp2_with fail
 refine (exposeL (unhide PH) (unhide LH) (unhide HT)).mono ?_
 rintro e W2 ⟨met1, rfl, Q1, S1, G1, P1, L1, X1⟩
 have Q2 := hide ((unhide KP).tr Q1)
 clear PH KP Q1
 have PH := hide P1
 have KP := Q2
 clear Q2 P1
 have E1 := X1.pth L1 (unhide HT)
 have hb1 := ((L1.loc t (unhide HT)).tp X1.top).b
 have lf1 := L1.lt _ (L1.fi_th (unhide HT))
 have w1 : IntKind.i64.wrap ((G1.fi t : Int) - 1) = (G1.fi t : Int) - 1 := IntWalk.i64_in _ (by omega)
 go_wp2_with fail
 refine (firstL (unhide PH) L1 (unhide HT) hb1).mono ?_
 rintro e W3 ⟨rfl, Q1, S2, G2, P1, L2, F2, T2, i2⟩
 have Q2 := hide ((unhide KP).tr Q1)
 clear PH KP Q1
 have PH := hide P1
 have KP := Q2
 clear Q2 P1
 go_wp2
 have hr := E1.rootI
 rw [unhide HI, Nat.add_sub_cancel] at hr
 rw [← unhide HI] at hr
 refine bodyPost_ret (v := zi ((G1.fi t : Int) - 1)) (by simp [results, Try.results39, go_sem, *]) rfl ⟨by rw [hr], unhide KP, S2, G2, unhide PH, L2⟩
set_option maxHeartbeats 4000000 in
theorem getN {p g n cap room : Nat} {T : Tr} {S : Ss} {G : Gh} {w : World} {x : Int} (h : Pool w p g n cap room S) (L : Lc S n T G) (hx : T.hasI x = false) :
  Calls Try.prog 35 #[zp p 0, zi x] w fun e w' => e = .returned (.tuple #[zi 0, .bool false]) /\ Keep [g] w w' /\ Pool w' p g n cap room S := by
 have PH := hide h
 have KP := hide (Keep.refl [g] w)
 have LH := hide L
 clear h L
 go_enter Try.func35, Try.ntmps35
 go_wp2_with fail
 refine (findN (unhide PH) (unhide LH) hx).mono ?_
 rintro e W1 ⟨rfl, Q1, P1⟩
 have Q2 := hide ((unhide KP).tr Q1)
 clear PH KP Q1
 have PH := hide P1
 have KP := Q2
 clear Q2 P1
 go_wp2
 refine bodyPost_ret (v := .tuple #[zi 0, .bool false]) (by simp [results, Try.results35, go_sem, *]) rfl ⟨rfl, unhide KP, unhide PH⟩
set_option maxHeartbeats 4000000 in
theorem getY {p g n cap room : Nat} {T : Tr} {S : Ss} {G : Gh} {w : World} {i t : Nat} (h : Pool w p g n cap room S) (L : Lc S n T G) (hi : Th T t) (hit : t = i + 1) :
  Calls Try.prog 35 #[zp p 0, zi i] w fun e w' => e = .returned (.tuple #[zi (T.wt i), .bool true]) /\ Keep [g] w w' /\ ∃ S1 G1, Pool w' p g n cap room S1 /\ Lc S1 n T G1 := by
 have PH := hide h
 have KP := hide (Keep.refl [g] w)
 have LH := hide L
 clear h L
 have lt1 := (unhide LH).lt t hi
 have nnn := (unhide LH).nn
 have hTn := (unhide LH).ft.n
 have e1 : (0 : Int) <= (t : Int) := by omega
 have e2 : (t : Int) < (n : Int) := by omega
 have t1 := hi.1
 have e5 : ¬ (t : Int) = 0 := by omega
 have e6 : ¬ t = 0 := by omega
 have HT := hide hi
 have HI := hide hit
 clear hi hit t1
 go_enter Try.func35, Try.ntmps35
 go_wp2_with fail
 refine (findY (unhide PH) (unhide LH) (unhide HT) (unhide HI)).mono ?_
 rintro e W1 ⟨rfl, Q1, P1⟩
 have Q2 := hide ((unhide KP).tr Q1)
 clear PH KP Q1
 have PH := hide P1
 have KP := Q2
 clear Q2 P1
 go_wp2_with fail
 refine (splayL (unhide PH) (unhide LH) (unhide HT)).mono ?_
 rintro e W2 ⟨rfl, Q1, S1, G1, P1, L1, F1, T1, i1⟩
 have Q2 := hide ((unhide KP).tr Q1)
 clear PH KP Q1
 have PH := hide P1
 have KP := Q2
 clear Q2 P1
 obtain ⟨c0, c1, _⟩ := (unhide PH).head
 obtain ⟨_, _, _, _, z1_4, _⟩ := (unhide PH).slot (t := t) (by assumption)
 go_wp2
 have hw := (L1.loc t (unhide HT)).wt
 rw [((L1.loc t (unhide HT)).tp T1).a] at hw
 have hti : t - 1 = i := by have := unhide HI; omega
 rw [hti] at hw
 simp only [Int.add_zero] at hw
 refine bodyPost_ret (v := .tuple #[zi (S1 t).wt, .bool true]) (by simp [results, Try.results35, go_sem, *]) rfl ⟨by rw [hw], unhide KP, S1, G1, unhide PH, L1⟩
end Go.Proofs.Ytjnkgakajenoaaa

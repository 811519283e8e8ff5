/- Part 6 of the texts. -/
import Derived.Test.YtjnkgakajenoaaaS5
import Derived.Test.YtjnkgakajenoaaaS1
import Derived.Test.YtjnkgakajenoaaaS2
import Derived.Deep.LoopGhost
namespace Go.Proofs.Ytjnkgakajenoaaa
set_option linter.unusedVariables false
set_option linter.unusedSimpArgs false
def Idle (S : Ss) (z : Nat) : Prop := (S z).tn = false /\ (S z).wa = 0
structure Fra (T : Tr) (t : Nat) (S : Ss) (G : Gh) (S1 : Ss) (G1 : Gh) : Prop where
 pn : G1.pn = G.pn
 top : ∀ x, Th T x -> Top S x -> G.fi x ∉ U T t -> Top S1 x /\ (S1 x).up = (S x).up /\ G1.fi x = G.fi x /\ G1.la x = G.la x
section
variable {S S1 S2 : Ss} {n : Nat} {T : Tr} {G G1 G2 : Gh} {t u o A M B x y z k l r : Nat} {d : Int} {s : Bool}
theorem Fra.refl : Fra T t S G S G := ⟨rfl, fun _ _ h _ => ⟨h, rfl, rfl, rfl⟩⟩
theorem Fra.trans (h : Fra T t S G S1 G1) (k : Fra T t S1 G1 S2 G2) : Fra T t S G S2 G2 := by
 refine ⟨k.pn.trans h.pn, fun x h1 h2 h3 => ?_⟩
 obtain ⟨a1, a2, a3, a4⟩ := h.top x h1 h2 h3
 obtain ⟨b1, b2, b3, b4⟩ := k.top x h1 a1 (by rw [a3]; exact h3)
 exact ⟨b1, b2.trans a2, b3.trans a3, b4.trans a4⟩
theorem Like.fra (h : Like S S1 G G1) : Fra T t S G S1 G1 := ⟨h.pn, fun x _ h2 _ => ⟨(h.top x).2 h2, h.up x, by rw [h.fi], by rw [h.la]⟩⟩
theorem Lc.fi_kid' (h : Lc S n T G) (hx : Th T x) (hk : k = (S x).l ∨ k = (S x).r) (k0 : k ≠ 0) : G.fi x ∈ U T (G.fi k) := by
 have L := h.loc x hx
 have K := h.up_kid hx hk k0
 have en := L.en
 have main : ∀ P Q : Nat, (k = P ∨ k = Q) -> (P ≠ 0 -> G.fi x = G.fi P /\ G.pn (G.la P) = x) -> (Q ≠ 0 -> G.la x = G.la Q /\ G.pn x = G.fi Q) -> G.fi x ∈ U T (G.fi k) := by
  intro P Q hk e1 e2
  rcases hk with rfl | rfl
  ·rw [(e1 k0).1]; exact U_self h.wf (h.fi_th K.th)
  ·have f := h.fi_in K.th
   have f0 : G.fi k ≠ 0 := by have := (U_mem_th h.wf f).1; omega
   have := h.pn_in hx (by rw [(e2 k0).2]; exact f0)
   rw [(e2 k0).2] at this
   exact U_trans h.wf this (h.fi_in hx)
 cases hb : G.b x
 ·rw [hb] at en
  exact main _ _ hk (fun e => en.l1 e) (fun e => en.r1 e)
 ·rw [hb] at en
  exact main _ _ hk.symm (fun e => en.r1 e) (fun e => en.l1 e)
theorem settleS_ne (h : Lc S n T G) (ht : Th T t) (h1 : x ≠ t) (h2 : x ≠ (S t).l) (h3 : x ≠ (S t).r) : settleS S t x = S x := by
 have hl : (S t).l ≠ t := h.kid_ne ht (.inl rfl)
 have hr : (S t).r ≠ t := h.kid_ne ht (.inr rfl)
 have e := settleT_same S hl hr
 unfold settleS settleW
 rw [e]
 have e2 : Go.Proofs.Ytjnkgakajenoaaa.settleT S t x = S x := by
  unfold Go.Proofs.Ytjnkgakajenoaaa.settleT
  split
  ·rw [turnS_ne _ h3, turnS_ne _ h2, upd_ne _ _ h1]
  ·rfl
 split
 ·exact e2
 ·rw [raiseS_ne _ _ h3, raiseS_ne _ _ h2, upd_ne _ _ h1, e2]
theorem Lc.settle_far (h : Lc S n T G) (ht : Th T t) (h1 : x ≠ t) (hx : (S x).up ≠ t ∨ ¬ Th T x) (hi : Idle S x) : Idle (settleS S t) x := by
 have k : ∀ j, j = (S t).l ∨ j = (S t).r -> x = j -> x = 0 := fun j hj e => Classical.byContradiction fun e0 => by
  have K := h.up_kid ht hj (by omega)
  rw [← e] at K
  rcases hx with hx | hx
  ·exact hx K.up
  ·exact hx K.th
 have z0 : settleS S t 0 = S 0 := by
  obtain ⟨G1, h1, _⟩ := h.settle ht
  rw [h1.s0, h.s0]
 by_cases e0 : x = 0
 ·unfold Idle; rw [e0, z0, h.s0]; exact ⟨rfl, rfl⟩
 ·unfold Idle
  rw [settleS_ne h ht h1 (fun e => e0 (k _ (.inl rfl) e)) (fun e => e0 (k _ (.inr rfl) e))]; exact hi
theorem Lc.ard (h : Lc S n T G) (hz : Th T z) (hn : ¬ Top S z) : ∃ s A M B, Ard s S z (S z).up (S (S z).up).up A M B /\ Th T (S z).up := by
 obtain ⟨hu, kt, ctu⟩ := h.nt_up hz hn
 generalize hu' : (S z).up = u at *
 generalize ho : (S u).up = o
 have z0 : z ≠ 0 := by have := hz.1; omega
 have u0 : u ≠ 0 := by have := hu.1; omega
 obtain ⟨s, ku⟩ : ∃ s, nr s (S u) = z := by
  rcases kt with e | e
  ·exact ⟨false, e.symm⟩
  ·exact ⟨true, e.symm⟩
 have Kt := h.up_kid hu kt z0
 refine ⟨s, nr s (S z), fr s (S z), fr s (S u), ?_, hu⟩
 generalize kA : nr s (S z) = A
 generalize kM : fr s (S z) = M
 generalize kB : fr s (S u) = B
 have cA : A = (S z).l ∨ A = (S z).r := (kid_side s _).2 (.inl kA.symm)
 have cM : M = (S z).l ∨ M = (S z).r := (kid_side s _).2 (.inr kM.symm)
 have cB : B = (S u).l ∨ B = (S u).r := (kid_side s _).2 (.inr kB.symm)
 have tu : z ≠ u := h.kid_ne hu kt
 have cAt : (S A).sm.c < (S z).sm.c := by rcases cA with e | e <;> rw [e]; exact h.cl hz; exact h.cr hz
 have cMt : (S M).sm.c < (S z).sm.c := by rcases cM with e | e <;> rw [e]; exact h.cl hz; exact h.cr hz
 have KA : A ≠ 0 -> Ki S T G z A := fun e => h.up_kid hz cA e
 have KM : M ≠ 0 -> Ki S T G z M := fun e => h.up_kid hz cM e
 have KB : B ≠ 0 -> Ki S T G u B := fun e => h.up_kid hu cB e
 have ou : o ≠ u /\ o ≠ z := by
  by_cases hT : Top S u
  ·have h1 := h.up_dp hu hT
   have h2 : G.fi u ∈ U T u := h.fi_in hu
   have h3 : G.fi u ∈ U T z := h.fi_kid hu kt z0
   have h4 := U_dp h.wf h2
   have h5 := U_dp h.wf h3
   rw [ho] at h1
   refine ⟨fun e => ?_, fun e => ?_⟩
   ·rw [e] at h1; rcases h4 with e4 | e4
    ·rw [e4] at h1; omega
    ·omega
   ·rw [e] at h1; rcases h5 with e4 | e4
    ·rw [e4] at h1; omega
    ·omega
  ·obtain ⟨h1, h2, h3⟩ := h.nt_up hu hT
   rw [ho] at h3
   refine ⟨fun e => ?_, fun e => ?_⟩ <;> rw [e] at h3 <;> omega
 refine ⟨z0, u0, tu, ou.2, ou.1, fun e => by rw [e] at cAt; omega, fun e => by rw [e] at cAt; omega, fun e => by rw [e] at cMt; omega, fun e => by rw [e] at cMt; omega, fun e => ?_, h.kid_ne hu cB, hu', ho, ku, kA, kM, kB, fun e => (KA e).up, fun e => (KM e).up, fun e => (KB e).up, fun e e' => ?_, fun x hx => ?_, fun e e' => ?_⟩
 ·have := (h.loc u hu).lr
  have e1 : nr s (S u) = fr s (S u) := by rw [ku, kB, e]
  cases s
  ·exact z0 (by rw [← ku]; exact this e1)
  ·exact z0 (by rw [← ku]; exact (e1.trans (this e1.symm)))
 ·have e1 : nr s (S z) = fr s (S z) := by rw [kA, kM, e']
  have := (h.loc z hz).lr
  cases s
  ·exact e (by rw [← e', ← kA]; exact this e1)
  ·exact e (by rw [← kM]; exact this e1.symm)
 ·by_cases hx' : Th T x
  ·exact ⟨fun e => hx (by rw [← ho, ← (h.up_kid hx' (.inl e.symm) u0).up]), fun e => hx (by rw [← ho, ← (h.up_kid hx' (.inr e.symm) u0).up])⟩
  ·rw [h.out x hx']; exact ⟨fun e => u0 e.symm, fun e => u0 e.symm⟩
 ·by_cases ho' : Th T o
  ·have := (h.loc o ho').lr (e.trans e'.symm); omega
  ·rw [h.out o ho'] at e; exact u0 e.symm
theorem Lc.rotate (h : Lc S n T G) (hz : Th T z) (hn : ¬ Top S z) (iz : Idle S z) (iu : Idle S (S z).up) :
  ∃ G1, Lc (rotS S z) n T G1 /\ G1.pn = G.pn /\ (∀ x, Idle S x -> Idle (rotS S z) x) /\ (rotS S z z).sm = (S (S z).up).sm /\ (Top (rotS S z) z ↔ Top S (S z).up) /\ (rotS S z z).up = (S (S z).up).up ∧
   (∀ x, Th T x -> Top S x -> x ≠ (S z).up -> Top (rotS S z) x /\ (rotS S z x).up = (S x).up /\ G1.fi x = G.fi x /\ G1.la x = G.la x) ∧
   (∀ x, Th T x -> x = (S z).l ∨ x = (S z).r -> ¬ Top (rotS S z) x /\ ((rotS S z x).up = z ∨ (rotS S z x).up = (S z).up) /\ (rotS S z x).sm = (S x).sm) := by
 obtain ⟨s, A, M, B, D, hu⟩ := h.ard hz hn
 have R := rotS_rot D
 generalize (S z).up = u at *
 generalize hoo : (S u).up = o at *
 obtain ⟨h1, h2, h3, h4, h5, h6, h7⟩ := h.rot hz hu D.ku D.kA D.kM D.kB D.upu iz.1 iz.2 iu.1 iu.2 R
 obtain ⟨_, _, _, _, _, gp⟩ := rotG_f G (G.b u != s) z u M
 refine ⟨_, h1, gp, fun x hx => ?_, h2, h7, R.upt, fun x hx hT hxu => ?_, fun x hx hk => ?_⟩
 ·obtain ⟨w1, w2, w3, w4⟩ := R.all x
  unfold Idle; rw [w2, w3]; exact hx
 ·obtain ⟨q1, q2, q3⟩ := h6 x hx hT hxu
  obtain ⟨q4, q5⟩ := rotG_x G (G.b u != s) (M := M) q3 hxu
  exact ⟨q1, q2, q4, q5⟩
 ·have x0 : x ≠ 0 := by have := hx.1; omega
  rw [kid_side s, D.kA, D.kM] at hk
  rcases hk with rfl | rfl
  ·have K := h1.up_kid hz (k := x) ((kid_side s _).2 (.inl R.nt.symm)) x0
   exact ⟨K.nt ((kid_side s _).2 (.inl R.nt.symm) |>.imp Eq.symm Eq.symm), .inl K.up, (R.sx x D.At D.Au).1⟩
  ·have K := h1.up_kid hu (k := x) ((kid_side s _).2 (.inl R.nu.symm)) x0
   exact ⟨K.nt ((kid_side s _).2 (.inl R.nu.symm) |>.imp Eq.symm Eq.symm), .inr K.up, (R.sx x D.Mt D.Mu).1⟩
theorem Fra.rot (h : Lc S n T G) (hp : G1.pn = G.pn) (hf : Top S u -> G.fi u ∈ U T t) (ht : ∀ x, Th T x -> Top S x -> x ≠ u -> Top S1 x /\ (S1 x).up = (S x).up /\ G1.fi x = G.fi x /\ G1.la x = G.la x) : Fra T t S G S1 G1 :=
 ⟨hp, fun x h1 h2 h3 => ht x h1 h2 fun e => h3 (by rw [e]; exact hf (by rw [← e]; exact h2))⟩
theorem Bz.of {z z' : Sl} (h : Bz z) (e1 : z'.sm = z.sm) (e2 : z'.hu = z.hu) (e3 : z'.hg = z.hg) (e4 : z'.wt = z.wt) : Bz z' := by
 obtain ⟨a, b, c, d, e, f, g⟩ := h
 exact ⟨by rw [e1]; exact a, by rw [e1]; exact b, by rw [e2]; exact c, by rw [e2]; exact d, by rw [e3]; exact e, by rw [e3]; exact f, by rw [e4]; exact g⟩
theorem besideS_f (S : Ss) {t l r : Nat} (hl : l ≠ t) (hr : r ≠ t) (x : Nat) : (besideS S t l r x).sm = (S x).sm /\ (besideS S t l r x).hu = (S x).hu /\ (besideS S t l r x).hg = (S x).hg /\ (besideS S t l r x).wt = (S x).wt := by
 rw [besideS_at S hl hr]; split
 ·rename_i e; subst e; exact ⟨rfl, rfl, rfl, rfl⟩
 ·split <;> exact ⟨rfl, rfl, rfl, rfl⟩
theorem gbd_beside {t l r : Nat} (hl : l ≠ t) (hr : r ≠ t) (b1 : Bz (S l)) (b2 : Bz (S r)) (b3 : Bz (S t)) : Gbd (besideS S t l r) t := by
 have e := besideS_same S hl hr
 have F := besideS_f S hl hr
 refine gbd_of ?_ ?_ (b3.of (F t).1 (F t).2.1 (F t).2.2.1 (F t).2.2.2)
 ·rw [e]; exact b1.of (F l).1 (F l).2.1 (F l).2.2.1 (F l).2.2.2
 ·rw [e]; exact b2.of (F r).1 (F r).2.1 (F r).2.2.1 (F r).2.2.2
theorem Lc.lt' (h : Lc S n T G) (hx : x ≠ 0 -> Th T x) : x < n := by
 by_cases e : x = 0
 ·subst e; exact h.n0
 ·exact h.lt x (hx e)
theorem Lc.rot_left (h : Lc S n T G) (hz : Th T z) (hn : ¬ Top S z) (iz : Idle S z) (iu : Idle S (S z).up) (hs : (S (S z).up).l = z) :
  let u := (S z).up; let S0 := overS S (S u).up u z
  (S0 z).r < n /\ (S0 u).r < n /\ (S0 z).r ≠ u /\ (S0 u).r ≠ u /\ Gbd (besideS S0 u (S0 z).r (S0 u).r) u /\ (holdS S0 u (S0 z).r (S0 u).r z).l < n /\ (holdS S0 u (S0 z).r (S0 u).r z).l ≠ z /\ Gbd (besideS (holdS S0 u (S0 z).r (S0 u).r) z (holdS S0 u (S0 z).r (S0 u).r z).l u) z := by
 intro u S0
 obtain ⟨s, A, M, B, D, hu⟩ := h.ard hz hn
 obtain ⟨G1, hR, _⟩ := h.rotate hz hn iz iu
 have F := overS_f D
 have E : ∀ x, x ≠ (S u).up -> S0 x = S x := fun x hx => overS_ne S hx
 have Et := E z (Ne.symm D.ot)
 have Eu := E u (Ne.symm D.ou)
 have s0 : s = false := by
  cases s
  ·rfl
  ·have e1 : (S u).r = z := D.ku
   have e2 : (S u).l = B := D.kB
   exact absurd (e2.symm.trans hs) D.Bt
 subst s0
 have kA : (S z).l = A := D.kA
 have kM : (S z).r = M := D.kM
 have kB : (S u).r = B := D.kB
 have KA : A ≠ 0 -> Th T A := fun e => (h.up_kid hz (.inl kA.symm) e).th
 have KM : M ≠ 0 -> Th T M := fun e => (h.up_kid hz (.inr kM.symm) e).th
 have KB : B ≠ 0 -> Th T B := fun e => (h.up_kid hu (.inr kB.symm) e).th
 have B0 : ∀ x, Bz (S0 x) := fun x => (h.bz x).of (F x).2.2.2.2.1 (F x).2.2.2.2.2.2.1 (F x).2.2.2.2.2.1 (F x).2.2.1
 rw [Et, Eu, kM, kB]
 have eX := holdS_at S0 D.Mu D.Bu
 have eXt : holdS S0 u M B z = S z := by
  rw [eX, if_neg D.tu, if_neg (by rintro ⟨_, h | h⟩; exact D.Mt h.symm; exact D.Bt h.symm), Et]
 have bX : ∀ x, x ≠ u -> Bz (holdS S0 u M B x) := fun x hx => by
  rw [eX, if_neg hx]
  split
  ·exact (B0 x).of rfl rfl rfl rfl
  ·exact B0 x
 have bXu : Bz (holdS S0 u M B u) := by
  have e : rotS S z u = { holdS S0 u M B u with up := z } := by
   have e1 : rotS S z = atS (sideS S0 z u) z (S u).up := rfl
   rw [e1, atS, upd_ne _ _ (Ne.symm D.tu), sideS, Eu, if_pos hs, leftS, Et, Eu, kM, kB, eXt, kA, holdS_at _ D.At (Ne.symm D.tu), if_neg (Ne.symm D.tu), if_pos ⟨D.u0, .inr rfl⟩]
  exact (hR.bz u).of (by rw [e]) (by rw [e]) (by rw [e]) (by rw [e])
 rw [eXt, kA]
 exact ⟨h.lt' KM, h.lt' KB, D.Mu, D.Bu, gbd_beside D.Mu D.Bu (B0 M) (B0 B) (B0 u), h.lt' KA, D.At, gbd_beside D.At (Ne.symm D.tu) (bX A D.Au) bXu (bX z D.tu)⟩
theorem Lc.rot_right (h : Lc S n T G) (hz : Th T z) (hn : ¬ Top S z) (iz : Idle S z) (iu : Idle S (S z).up) (hs : (S (S z).up).l ≠ z) :
  let u := (S z).up; let S0 := overS S (S u).up u z
  (S0 u).l < n /\ (S0 z).l < n /\ (S0 u).l ≠ u /\ (S0 z).l ≠ u /\ Gbd (besideS S0 u (S0 u).l (S0 z).l) u /\ (holdS S0 u (S0 u).l (S0 z).l z).r < n /\ (holdS S0 u (S0 u).l (S0 z).l z).r ≠ z /\ Gbd (besideS (holdS S0 u (S0 u).l (S0 z).l) z u (holdS S0 u (S0 u).l (S0 z).l z).r) z := by
 intro u S0
 obtain ⟨s, A, M, B, D, hu⟩ := h.ard hz hn
 obtain ⟨G1, hR, _⟩ := h.rotate hz hn iz iu
 have F := overS_f D
 have E : ∀ x, x ≠ (S u).up -> S0 x = S x := fun x hx => overS_ne S hx
 have Et := E z (Ne.symm D.ot)
 have Eu := E u (Ne.symm D.ou)
 have s0 : s = true := by
  cases s
  ·exact absurd D.ku hs
  ·rfl
 subst s0
 have ku : (S u).r = z := D.ku
 have kA : (S z).r = A := D.kA
 have kM : (S z).l = M := D.kM
 have kB : (S u).l = B := D.kB
 have KA : A ≠ 0 -> Th T A := fun e => (h.up_kid hz (.inr kA.symm) e).th
 have KM : M ≠ 0 -> Th T M := fun e => (h.up_kid hz (.inl kM.symm) e).th
 have KB : B ≠ 0 -> Th T B := fun e => (h.up_kid hu (.inl kB.symm) e).th
 have B0 : ∀ x, Bz (S0 x) := fun x => (h.bz x).of (F x).2.2.2.2.1 (F x).2.2.2.2.2.2.1 (F x).2.2.2.2.2.1 (F x).2.2.1
 rw [Et, Eu, kM, kB]
 have eX := holdS_at S0 D.Bu D.Mu
 have eXt : holdS S0 u B M z = S z := by
  rw [eX, if_neg D.tu, if_neg (by rintro ⟨_, h | h⟩; exact D.Bt h.symm; exact D.Mt h.symm), Et]
 have bX : ∀ x, x ≠ u -> Bz (holdS S0 u B M x) := fun x hx => by
  rw [eX, if_neg hx]
  split
  ·exact (B0 x).of rfl rfl rfl rfl
  ·exact B0 x
 have bXu : Bz (holdS S0 u B M u) := by
  have e : rotS S z u = { holdS S0 u B M u with up := z } := by
   have e1 : rotS S z = atS (sideS S0 z u) z (S u).up := rfl
   rw [e1, atS, upd_ne _ _ (Ne.symm D.tu), sideS, Eu, if_neg hs, rightS, Et, Eu, kM, kB, eXt, kA, holdS_at _ (Ne.symm D.tu) D.At, if_neg (Ne.symm D.tu), if_pos ⟨D.u0, .inl rfl⟩]
  exact (hR.bz u).of (by rw [e]) (by rw [e]) (by rw [e]) (by rw [e])
 rw [eXt, kA]
 exact ⟨h.lt' KB, h.lt' KM, D.Bu, D.Mu, gbd_beside D.Bu D.Mu (B0 B) (B0 M) (B0 u), h.lt' KA, D.At, gbd_beside (Ne.symm D.tu) D.At bXu (bX A D.Au) (bX z D.tu)⟩
end
section
variable {S S1 S2 : Ss} {n : Nat} {T : Tr} {G G1 G2 : Gh} {t u o A M B x y z k l r : Nat} {d : Int} {s : Bool}
theorem Lc.upA (h : Lc S n T G) (ht : Th T t) (hn : ¬ Top S t) : Th T (S t).up /\ (S t).up ≠ t /\ (S (S t).up).up ≠ t /\ (S (S t).up).up ≠ (S t).up := by
 obtain ⟨s, A, M, B, D, hu⟩ := h.ard ht hn
 exact ⟨hu, Ne.symm D.tu, D.ot, D.ou⟩
theorem Lc.upB (h : Lc S n T G) (ht : Th T t) (hn : ¬ Top S t) (hn2 : ¬ Top S (S t).up) : Th T (S (S t).up).up /\ (S (S (S t).up).up).up ≠ (S t).up /\ (S (S (S t).up).up).up ≠ t := by
 obtain ⟨hu, h1, h2, h3⟩ := h.upA ht hn
 obtain ⟨ho, h4, h5, h6⟩ := h.upA hu hn2
 refine ⟨ho, h5, fun e => ?_⟩
 obtain ⟨_, k1, c1⟩ := h.nt_up ht hn
 obtain ⟨_, k2, c2⟩ := h.nt_up hu hn2
 by_cases hT : Top S (S (S t).up).up
 ·have d1 := h.up_dp ho hT
  rw [e] at d1
  have t0 := ht.1
  have u0 := hu.1
  have f1 := h.fi_kid' ho k2 (by omega)
  have f2 := h.fi_kid hu k1 (by omega)
  rcases U_dp h.wf (U_trans h.wf f2 f1) with q | q
  ·rw [q] at d1; omega
  ·omega
 ·obtain ⟨_, _, c3⟩ := h.nt_up ho hT
  rw [e] at c3; omega
theorem Lc.last2 (h : Lc S n T G) (ht : Th T t) (hn : ¬ Top S t) (it : Idle S t) (iu : Idle S (S t).up) :
  ∃ G1, Lc (rotS S t) n T G1 /\ Fra T t S G (rotS S t) G1 /\ (S t).sm.c < (rotS S t t).sm.c /\ (Top (rotS S t) t ↔ Top S (S t).up) /\ Idle (rotS S t) t := by
 obtain ⟨G1, h1, h2, h3, h4, h5, h6, h7, h8⟩ := h.rotate ht hn it iu
 obtain ⟨hu, k1, c1⟩ := h.nt_up ht hn
 have t0 := ht.1
 exact ⟨G1, h1, Fra.rot h h2 (fun _ => h.fi_kid hu k1 (by omega)) h7, by rw [h4]; exact c1, h5, h3 t it⟩
theorem Lc.first2 (h : Lc S n T G) (ht : Th T t) (hn : ¬ Top S t) (hn2 : ¬ Top S (S t).up) (it : Idle S t) (iu : Idle S (S t).up) (io : Idle S (S (S t).up).up) :
  ∃ G1, Lc (rotS S (S t).up) n T G1 /\ Fra T t S G (rotS S (S t).up) G1 /\ (rotS S (S t).up t).sm = (S t).sm /\ ¬ Top (rotS S (S t).up) t /\ Idle (rotS S (S t).up) t /\ Idle (rotS S (S t).up) (rotS S (S t).up t).up := by
 obtain ⟨hu, k1, c1⟩ := h.nt_up ht hn
 obtain ⟨ho, k2, c2⟩ := h.nt_up hu hn2
 obtain ⟨G1, h1, h2, h3, h4, h5, h6, h7, h8⟩ := h.rotate hu hn2 iu io
 have t0 := ht.1
 have u0 := hu.1
 obtain ⟨q1, q2, q3⟩ := h8 t ht k1
 refine ⟨G1, h1, Fra.rot h h2 (fun _ => U_trans h.wf (h.fi_kid hu k1 (by omega)) (h.fi_kid' ho k2 (by omega))) h7, q3, q1, h3 t it, ?_⟩
 rcases q2 with q2 | q2 <;> rw [q2]
 ·exact h3 _ iu
 ·exact h3 _ io
theorem Lc.zag2 (h : Lc S n T G) (ht : Th T t) (hn : ¬ Top S t) (hn2 : ¬ Top S (S t).up) (it : Idle S t) (iu : Idle S (S t).up) (io : Idle S (S (S t).up).up) :
  ∃ G1, Lc (rotS S t) n T G1 /\ Fra T t S G (rotS S t) G1 /\ (S t).sm.c <= (rotS S t t).sm.c /\ ¬ Top (rotS S t) t /\ Idle (rotS S t) t /\ Idle (rotS S t) (rotS S t t).up := by
 obtain ⟨G1, h1, h2, h3, h4, h5, h6, h7, h8⟩ := h.rotate ht hn it iu
 obtain ⟨hu, k1, c1⟩ := h.nt_up ht hn
 refine ⟨G1, h1, Fra.rot h h2 (fun e => absurd e hn2) h7, by rw [h4]; omega, fun e => hn2 (h5.1 e), h3 t it, ?_⟩
 rw [h6]; exact h3 _ io
theorem isTopB_iff (S : Ss) (t : Nat) : isTopB S t = true ↔ Top S t := by unfold isTopB Top; simp
theorem isTopB_not (S : Ss) (t : Nat) : isTopB S t = false ↔ ¬ Top S t := by rw [← isTopB_iff]; simp
end
end Go.Proofs.Ytjnkgakajenoaaa
namespace Go.Proofs.Ytjnkgakajenoaaa
open Go.RowKit Go.Arb
set_option linter.unusedVariables false
set_option linter.unusedSimpArgs false
section
variable {S : Ss} {nn : Nat} {T : Tr} {G : Gh} {p g n cap room t z : Nat} {w : World}
theorem Lc.up_lt (h : Lc S n T G) (ht : Th T t) : (S t).up < n := by
 refine h.lt' fun e => ?_
 by_cases hT : Top S t
 ·have P := (h.loc t ht).tp hT
  have f := h.fi_th ht
  rw [← P.fi] at e ⊢
  exact ps_th h.wf f e
 ·exact (h.nt_up ht hT).1
theorem Lc.kids_lt (h : Lc S n T G) (ht : Th T t) : (S t).l < n /\ (S t).r < n /\ (S t).l ≠ t /\ (S t).r ≠ t :=
 ⟨h.lt' fun e => ((h.loc t ht).kl e).th, h.lt' fun e => ((h.loc t ht).kr e).th, h.kid_ne ht (.inl rfl), h.kid_ne ht (.inr rfl)⟩
theorem settleL (h : Pool w p g n cap room S) (L : Lc S n T G) (ht : Th T t) :
  Calls Try.prog 88 #[zp p 0, zi t] w fun e w' => e = .returned (.tuple #[]) /\ Keep [g] w w' /\ ∃ S1 G1, Pool w' p g n cap room S1 /\ Lc S1 n T G1 /\ Like S S1 G G1 /\ Idle S1 t /\ (∀ x, x ≠ t -> (S x).up ≠ t -> Idle S x -> Idle S1 x) := by
 obtain ⟨k1, k2, k3, k4⟩ := L.kids_lt ht
 obtain ⟨G1, L1, lk1, b1, a1, n1, w1, l1, r1⟩ := L.settleT ht
 obtain ⟨G2, L2, lk2, b2, a2, n2, w2, l2, r2⟩ := L.settle ht
 have t0 := ht.1
 have far := fun x h1 h2 => L.settle_far (x := x) ht h1 (.inl h2)
 refine (settle_any h (L.lt t ht) k1 k2 k3 k4 rfl (fun _ e => ?_) (fun _ e => ?_)).mono ?_
 ·rw [upd_ne _ _ (by rw [l1]; exact k3)]
  exact (L1.kid_bd ht (.inl rfl) e).1
 ·by_cases e2 : (settleT S t t).l = (settleT S t t).r
  ·have := (L1.loc t ht).lr e2; omega
  ·rw [raiseS_ne _ _ (fun e => e2 e.symm), upd_ne _ _ (by rw [r1]; exact k4)]
   exact (L1.kid_bd ht (.inr rfl) e).1
 ·rintro e w' ⟨rfl, q1, q2⟩
  exact ⟨rfl, q2, _, G2, q1, L2, lk2, ⟨n2, w2⟩, far⟩
theorem rotateL (h : Pool w p g n cap room S) (L : Lc S n T G) (ht : Th T t) (hn : ¬ Top S t) (it : Idle S t) (iu : Idle S (S t).up) :
  Calls Try.prog 89 #[zp p 0, zi t] w fun e w' => e = .returned (.tuple #[]) /\ Keep [g] w w' /\ Pool w' p g n cap room (rotS S t) := by
 obtain ⟨s, A, M, B, D, hu⟩ := L.ard ht hn
 have E : ∀ x, x ≠ (S (S t).up).up -> overS S (S (S t).up).up (S t).up t x = S x := fun x hx => overS_ne S hx
 have Et := E t (Ne.symm D.ot)
 have Eu := E (S t).up (Ne.symm D.ou)
 refine (rotate_any h (L.lt t ht) (L.up_lt ht) (L.up_lt hu) rfl rfl D.tu rfl (fun hs => ?_) (fun hs => ?_)).mono ?_
 ·rw [Eu] at hs; exact L.rot_left ht hn it iu hs
 ·rw [Eu] at hs; exact L.rot_right ht hn it iu hs
 ·rintro e w' ⟨rfl, q1, q2⟩
  exact ⟨rfl, q2, q1⟩
theorem isTopL (h : Pool w p g n cap room S) (L : Lc S n T G) (ht : Th T t) :
  Calls Try.prog 87 #[zp p 0, zi t] w fun e w' => e = .returned (.bool (isTopB S t)) /\ Pool w' p g n cap room S /\ Keep [g] w w' := by
 refine (isTop_any h (L.lt t ht) (L.up_lt ht)).mono ?_
 rintro e w' ⟨rfl, q1, q2⟩
 exact ⟨rfl, q1, q2.mono (fun k hk => by simp at hk)⟩
end
end Go.Proofs.Ytjnkgakajenoaaa
namespace Go.Proofs.Ytjnkgakajenoaaa
open Go.RowKit Go.Arb
set_option linter.unusedVariables false
set_option linter.unusedSimpArgs false
set_option maxRecDepth 100000
theorem inRet {Q : Exit -> Act -> World -> Prop} {a : Act} {w : World} {id : Nat} (h : Q .ret a w) : Exit.inBlock id Q .ret a w := h
def O72_10_0 : Oper := ⟨some 47, .move (.tmp 0), 23, "path.go:57", #[], none⟩
def O72_10_1 : Oper := ⟨some 48, .nilCheck (.tmp 47), 0, "path.go:57", #[⟨0, .data⟩], none⟩
def O72_10_2 : Oper := ⟨some 49, .fieldAddr 66 (.tmp 48) 1, 0, "path.go:57", #[⟨1, .data⟩], none⟩
def O72_10_3 : Oper := ⟨some 50, .load 64 (.tmp 49), 64, "path.go:57", #[⟨2, .data⟩], none⟩
def O72_10_4 : Oper := ⟨some 51, .move (.tmp 5), 3, "path.go:57", #[], none⟩
def O72_10_5 : Oper := ⟨some 52, .indexAddr 64 (.tmp 50) (.tmp 51), 0, "path.go:57", #[⟨3, .data⟩, ⟨4, .data⟩], none⟩
def O72_10_6 : Oper := ⟨some 53, .fieldAddr 75 (.tmp 52) 1, 0, "path.go:57", #[⟨5, .data⟩], none⟩
def O72_10_7 : Oper := ⟨some 54, .load 3 (.tmp 53), 3, "path.go:57", #[⟨6, .data⟩], none⟩
def O72_10_8 : Oper := ⟨some 55, .move (.tmp 4), 3, "path.go:57", #[], none⟩
def O72_10_9 : Oper := ⟨some 56, .binOp .eql 3 (.tmp 54) (.tmp 55) 3, 4, "path.go:57", #[⟨7, .data⟩, ⟨8, .data⟩], none⟩
def O72_10_10 : Oper := ⟨some 57, .move (.tmp 0), 23, "path.go:57", #[], none⟩
def O72_10_11 : Oper := ⟨some 58, .nilCheck (.tmp 57), 0, "path.go:57", #[⟨10, .data⟩], none⟩
def O72_10_12 : Oper := ⟨some 59, .fieldAddr 66 (.tmp 58) 1, 0, "path.go:57", #[⟨11, .data⟩], none⟩
def O72_10_13 : Oper := ⟨some 60, .load 64 (.tmp 59), 64, "path.go:57", #[⟨12, .data⟩], none⟩
def O72_10_14 : Oper := ⟨some 61, .move (.tmp 4), 3, "path.go:57", #[], none⟩
def O72_10_15 : Oper := ⟨some 62, .indexAddr 64 (.tmp 60) (.tmp 61), 0, "path.go:57", #[⟨13, .data⟩, ⟨14, .data⟩], none⟩
def O72_10_16 : Oper := ⟨some 63, .fieldAddr 75 (.tmp 62) 1, 0, "path.go:57", #[⟨15, .data⟩], none⟩
def O72_10_17 : Oper := ⟨some 64, .load 3 (.tmp 63), 3, "path.go:57", #[⟨16, .data⟩], none⟩
def O72_10_18 : Oper := ⟨some 65, .move (.tmp 1), 3, "path.go:57", #[], none⟩
def O72_10_19 : Oper := ⟨some 66, .binOp .eql 3 (.tmp 64) (.tmp 65) 3, 4, "path.go:57", #[⟨17, .data⟩, ⟨18, .data⟩], none⟩
def O72_10_20 : Oper := ⟨some 67, .binOp .eql 4 (.tmp 56) (.tmp 66) 4, 4, "path.go:57", #[⟨9, .data⟩, ⟨19, .data⟩], none⟩
def OPS72_10 : List Oper := [O72_10_0, O72_10_1, O72_10_2, O72_10_3, O72_10_4, O72_10_5, O72_10_6, O72_10_7, O72_10_8, O72_10_9, O72_10_10, O72_10_11, O72_10_12, O72_10_13, O72_10_14, O72_10_15, O72_10_16, O72_10_17, O72_10_18, O72_10_19, O72_10_20]
theorem NS72_10 : Region.noSelect OPS72_10.toArray = true := by kernel_rfl
set_option maxHeartbeats 4000000 in
theorem read72 {p g n cap room t u o : Nat} {S3 : Ss} {NX : Act -> World -> Prop} {a0 : Act} {w : World} (K0 : Kn a0 80 [(0, zp p 0), (1, zi t), (4, zi u), (5, zi o)]) (h : Pool w p g n cap room S3) (ht : t < n) (hu : u < n) (ho : o < n)
  (hN : ∀ a' W b, Kn a' 80 [(0, zp p 0), (1, zi t), (4, zi u), (5, zi o), (67, .bool b)] -> Pool W p g n cap room S3 -> Keep [g] w W -> NX a' W) : (Code.region 10 OPS72_10.toArray true).wp Try.prog (Norm NX) a0 w := by
 have hq := @norm_q NX
 have hS : (fun w' : World => Pool w' p g n cap room S3) w.drew := h.drew
 have KP := hide ((Keep.refl [g] w).drew)
 have HN := hide hN
 clear h hN
 have e1 : (0 : Int) <= (t : Int) := by omega
 have e2 : (t : Int) < (n : Int) := by omega
 have e3 : (0 : Int) <= (u : Int) := by omega
 have e4 : (u : Int) < (n : Int) := by omega
 have e5 : (0 : Int) <= (o : Int) := by omega
 have e6 : (o : Int) < (n : Int) := by omega
 show (Code.region 10 OPS72_10.toArray true).wp _ _ _ _
 refine wp_region_held_drew (S := (fun w' : World => Pool w' p g n cap room S3)) (by kernel_rfl) hS (fun hS => ?_)
 rw [show (OPS72_10.toArray).size = 21 from by kernel_rfl]
 refine dT 0 O72_10_0 (zp p 0) K0 hq NS72_10 (want_none rfl) (fun ev E w9 hSw => ?_) hS fun a1 K1 => ?_
 ·clear hSw; have E0 := E.tmp 0 _ rfl; clear E; unfold O72_10_0; clear HN hq hS KP; go_simp
 refine dT 1 O72_10_1 (zp p 0) K1 hq NS72_10 (want_none rfl) (fun ev E w9 hSw => ?_) hS fun a2 K2 => ?_
 ·clear hSw; have E47 := E.tmp 47 _ rfl; clear E; unfold O72_10_1; clear HN hq hS KP; go_simp
 clear K1
 refine dT 2 O72_10_2 (zp p 1) K2 hq NS72_10 (want_none rfl) (fun ev E w9 hSw => ?_) hS fun a3 K3 => ?_
 ·clear hSw; have E48 := E.tmp 48 _ rfl; clear E; unfold O72_10_2; clear HN hq hS KP; go_simp
 clear K2
 refine dT 3 O72_10_3 (.slice (some ⟨g, 0, none⟩) n cap) K3 hq NS72_10 (want_none rfl) (fun ev E w9 hSw => ?_) hS fun a4 K4 => ?_
 ·obtain ⟨c0, c1, _⟩ := hSw.head; clear hSw; have E49 := E.tmp 49 _ rfl; clear E; unfold O72_10_3; clear HN hq hS KP; go_simp
 clear K3
 refine dT 4 O72_10_4 (zi o) K4 hq NS72_10 (want_none rfl) (fun ev E w9 hSw => ?_) hS fun a5 K5 => ?_
 ·clear hSw; have E5 := E.tmp 5 _ rfl; clear E; unfold O72_10_4; clear HN hq hS KP; go_simp
 clear K4
 refine dT 5 O72_10_5 (zp g (o * 14)) K5 hq NS72_10 (want_none rfl) (fun ev E w9 hSw => ?_) hS fun a6 K6 => ?_
 ·clear hSw; have E50 := E.tmp 50 _ rfl; have E51 := E.tmp 51 _ rfl; clear E; unfold O72_10_5; clear HN hq hS KP; go_simp
 clear K5
 refine dT 6 O72_10_6 (zp g (o * 14 + 1)) K6 hq NS72_10 (want_none rfl) (fun ev E w9 hSw => ?_) hS fun a7 K7 => ?_
 ·clear hSw; have E52 := E.tmp 52 _ rfl; clear E; unfold O72_10_6; clear HN hq hS KP; go_simp
 clear K6
 refine dT 7 O72_10_7 (zi ((S3 o).l : Int)) K7 hq NS72_10 (want_none rfl) (fun ev E w9 hSw => ?_) hS fun a8 K8 => ?_
 ·obtain ⟨s0, s1, s2, s3, s4, s5, s6, s7, s8, s9, s10, s11, s12, s13⟩ := hSw.slot (t := o) (by assumption); clear hSw; have E53 := E.tmp 53 _ rfl; clear E; unfold O72_10_7; clear HN hq hS KP; go_simp
 clear K7
 refine dT 8 O72_10_8 (zi u) K8 hq NS72_10 (want_none rfl) (fun ev E w9 hSw => ?_) hS fun a9 K9 => ?_
 ·clear hSw; have E4 := E.tmp 4 _ rfl; clear E; unfold O72_10_8; clear HN hq hS KP; go_simp
 clear K8
 refine dT 9 O72_10_9 (.bool (((S3 o).l : Int) == (u : Int))) K9 hq NS72_10 (want_none rfl) (fun ev E w9 hSw => ?_) hS fun a10 K10 => ?_
 ·clear hSw; have E54 := E.tmp 54 _ rfl; have E55 := E.tmp 55 _ rfl; clear E; unfold O72_10_9; clear HN hq hS KP; go_simp
 clear K9
 refine dT 10 O72_10_10 (zp p 0) K10 hq NS72_10 (want_none rfl) (fun ev E w9 hSw => ?_) hS fun a11 K11 => ?_
 ·clear hSw; have E0 := E.tmp 0 _ rfl; clear E; unfold O72_10_10; clear HN hq hS KP; go_simp
 clear K10
 refine dT 11 O72_10_11 (zp p 0) K11 hq NS72_10 (want_none rfl) (fun ev E w9 hSw => ?_) hS fun a12 K12 => ?_
 ·clear hSw; have E57 := E.tmp 57 _ rfl; clear E; unfold O72_10_11; clear HN hq hS KP; go_simp
 clear K11
 refine dT 12 O72_10_12 (zp p 1) K12 hq NS72_10 (want_none rfl) (fun ev E w9 hSw => ?_) hS fun a13 K13 => ?_
 ·clear hSw; have E58 := E.tmp 58 _ rfl; clear E; unfold O72_10_12; clear HN hq hS KP; go_simp
 clear K12
 refine dT 13 O72_10_13 (.slice (some ⟨g, 0, none⟩) n cap) K13 hq NS72_10 (want_none rfl) (fun ev E w9 hSw => ?_) hS fun a14 K14 => ?_
 ·obtain ⟨c0, c1, _⟩ := hSw.head; clear hSw; have E59 := E.tmp 59 _ rfl; clear E; unfold O72_10_13; clear HN hq hS KP; go_simp
 clear K13
 refine dT 14 O72_10_14 (zi u) K14 hq NS72_10 (want_none rfl) (fun ev E w9 hSw => ?_) hS fun a15 K15 => ?_
 ·clear hSw; have E4 := E.tmp 4 _ rfl; clear E; unfold O72_10_14; clear HN hq hS KP; go_simp
 clear K14
 refine dT 15 O72_10_15 (zp g (u * 14)) K15 hq NS72_10 (want_none rfl) (fun ev E w9 hSw => ?_) hS fun a16 K16 => ?_
 ·clear hSw; have E60 := E.tmp 60 _ rfl; have E61 := E.tmp 61 _ rfl; clear E; unfold O72_10_15; clear HN hq hS KP; go_simp
 clear K15
 refine dT 16 O72_10_16 (zp g (u * 14 + 1)) K16 hq NS72_10 (want_none rfl) (fun ev E w9 hSw => ?_) hS fun a17 K17 => ?_
 ·clear hSw; have E62 := E.tmp 62 _ rfl; clear E; unfold O72_10_16; clear HN hq hS KP; go_simp
 clear K16
 refine dT 17 O72_10_17 (zi ((S3 u).l : Int)) K17 hq NS72_10 (want_none rfl) (fun ev E w9 hSw => ?_) hS fun a18 K18 => ?_
 ·obtain ⟨s0, s1, s2, s3, s4, s5, s6, s7, s8, s9, s10, s11, s12, s13⟩ := hSw.slot (t := u) (by assumption); clear hSw; have E63 := E.tmp 63 _ rfl; clear E; unfold O72_10_17; clear HN hq hS KP; go_simp
 clear K17
 refine dT 18 O72_10_18 (zi t) K18 hq NS72_10 (want_none rfl) (fun ev E w9 hSw => ?_) hS fun a19 K19 => ?_
 ·clear hSw; have E1 := E.tmp 1 _ rfl; clear E; unfold O72_10_18; clear HN hq hS KP; go_simp
 clear K18
 refine dT 19 O72_10_19 (.bool (((S3 u).l : Int) == (t : Int))) K19 hq NS72_10 (want_none rfl) (fun ev E w9 hSw => ?_) hS fun a20 K20 => ?_
 ·clear hSw; have E64 := E.tmp 64 _ rfl; have E65 := E.tmp 65 _ rfl; clear E; unfold O72_10_19; clear HN hq hS KP; go_simp
 clear K19
 refine dT 20 O72_10_20 (.bool ((((S3 o).l : Int) == (u : Int)) == (((S3 u).l : Int) == (t : Int)))) K20 hq NS72_10 (want_none rfl) (fun ev E w9 hSw => ?_) hS fun a21 K21 => ?_
 ·clear hSw; have E56 := E.tmp 56 _ rfl; have E66 := E.tmp 66 _ rfl; clear E; unfold O72_10_20; clear HN hq hS KP; go_simp
 clear K20
 refine wpAnyH_done (by kernel_rfl) ?_ _
 exact unhide HN _ _ _ (K21.less ⟨rfl, rfl, rfl, rfl, rfl, trivial⟩) hS (unhide KP)
set_option maxHeartbeats 4000000 in
theorem round72 {p g n cap room t : Nat} {T : Tr} {S0 S : Ss} {G0 G : Gh} {Q : Exit -> Act -> World -> Prop} {a0 : Act} {w0 w : World} (K0 : Kn a0 80 [(0, zp p 0), (1, zi t)]) (h : Pool w p g n cap room S) (L : Lc S n T G) (FR : Fra T t S0 G0 S G) (hk : Keep [g] w0 w) (ht : Th T t)
  (hN : ∀ a' W S1 G1, Kn a' 80 [(0, zp p 0), (1, zi t)] -> Pool W p g n cap room S1 -> Lc S1 n T G1 -> Fra T t S0 G0 S1 G1 -> Keep [g] w0 W -> (S t).sm.c < (S1 t).sm.c -> Q .normal a' W)
  (hX : ∀ a' W, Kn a' 80 [(0, zp p 0), (1, zi t)] -> Pool W p g n cap room S -> Top S t -> Keep [g] w0 W -> Q (.exit 0) a' W)
  (hR : ∀ a' W S1 G1, Kn a' 80 [] -> Pool W p g n cap room S1 -> Lc S1 n T G1 -> Fra T t S0 G0 S1 G1 -> Top S1 t -> Idle S1 t -> Keep [g] w0 W -> Q .ret a' W) : (Code.seq (Code.seq (Code.region 0 (rg [0, 0, 0, 0, 0] Try.f72).toArray false) (Code.cond (Operand.tmp 9) Code.skip (Code.exit 0))) (Code.block 1 (Code.seq (Code.region 1 (rg [0, 0, 0, 1, 0, 0] Try.f72).toArray false) (Code.seq (Code.seq (Code.region 2 (rg [0, 0, 0, 1, 0, 1, 0, 0] Try.f72).toArray false) (Code.cond (Operand.tmp 20) (Code.seq (Code.region 3 (rg [0, 0, 0, 1, 0, 1, 0, 1, 0, 0] Try.f72).toArray false) (Code.seq (Code.region 4 (rg [0, 0, 0, 1, 0, 1, 0, 1, 0, 1, 0] Try.f72).toArray false) (Code.seq (Code.region 5 (rg [0, 0, 0, 1, 0, 1, 0, 1, 0, 1, 1, 0] Try.f72).toArray false) Code.ret))) Code.skip)) (Code.seq (Code.region 6 (rg [0, 0, 0, 1, 0, 1, 1, 0] Try.f72).toArray false) (Code.seq (Code.region 7 (rg [0, 0, 0, 1, 0, 1, 1, 1, 0] Try.f72).toArray false) (Code.seq (Code.region 8 (rg [0, 0, 0, 1, 0, 1, 1, 1, 1, 0] Try.f72).toArray false) (Code.seq (Code.region 9 (rg [0, 0, 0, 1, 0, 1, 1, 1, 1, 1, 0] Try.f72).toArray false) (Code.seq (Code.seq (Code.region 10 OPS72_10.toArray true) (Code.cond (Operand.tmp 67) (Code.region 11 (rg [0, 0, 0, 1, 0, 1, 1, 1, 1, 1, 1, 0, 1, 0] Try.f72).toArray false) (Code.region 12 (rg [0, 0, 0, 1, 0, 1, 1, 1, 1, 1, 1, 0, 1, 1] Try.f72).toArray false))) (Code.region 13 (rg [0, 0, 0, 1, 0, 1, 1, 1, 1, 1, 1, 1] Try.f72).toArray false)))))))))).wp Try.prog Q a0 w := by
 have PH := hide h
 have KP := hide hk
 clear h hk
 have HN := hide hN
 have HX := hide hX
 have HR := hide hR
 have LH := hide L
 have FH := hide FR
 clear hN hX hR L FR
 have lt1 := (unhide LH).lt t ht
 have e1 : (0 : Int) <= (t : Int) := by omega
 have e2 : (t : Int) < (n : Int) := by omega
 have HT := hide ht
 clear ht
 by_cases hT : Top S t
 ·have hb := (isTopB_iff S t).2 hT
  refine wp_seq ?_
  refine wp_seq ?_
  refine wp_region_lit ?_
  refine lM K0 fun a4 K4 => ?_
  refine lM K4 fun a5 K5 => ?_
  clear K4
  refine lcall (f := 87) (args := #[zp p 0, zi t]) K5 rfl rfl (want_none rfl) (fun ev E => ?_) (by have q := isTopL (unhide PH) (unhide LH) (unhide HT); rw [hb] at q; exact q) (fun e W6 hR => ?_)
  ·have EF := E.func; have E6 := E.tmp 6 _ rfl; have E7 := E.tmp 7 _ rfl; clear E; clear PH KP HN HX HR LH FH HT; go_simp
  obtain ⟨rfl, P1, Q1⟩ := hR
  have Q2 := hide ((unhide KP).tr Q1)
  clear PH KP Q1
  have PH := hide P1
  have KP := Q2
  clear Q2 P1
  refine ⟨_, rfl, fun a7 K7 => ?_⟩
  clear K5
  refine lT (.bool false) W6 K7 (want_none rfl) (fun ev E => ?_) fun a8 K8 => ?_
  ·have E8 := E.tmp 8 _ rfl; clear E; clear PH KP HN HX HR LH FH HT; go_simp
  clear K7
  refine wpList_nil ?_
  show Code.wp _ _ _ _ _
  refine knCond (b := false) K8 rfl ?_
  refine wp_exit ?_
  exact unhide HX _ _ (K8.less ⟨rfl, rfl, trivial⟩) (unhide PH) hT (unhide KP)
 ·have hb := (isTopB_not S t).2 hT
  refine seqN ?_
  refine seqR ?_
  refine lM K0 fun a4 K4 => ?_
  refine lM K4 fun a5 K5 => ?_
  clear K4
  refine lcall (f := 87) (args := #[zp p 0, zi t]) K5 rfl rfl (want_none rfl) (fun ev E => ?_) (by have q := isTopL (unhide PH) (unhide LH) (unhide HT); rw [hb] at q; exact q) (fun e W6 hR => ?_)
  ·have EF := E.func; have E6 := E.tmp 6 _ rfl; have E7 := E.tmp 7 _ rfl; clear E; clear PH KP HN HX HR LH FH HT; go_simp
  obtain ⟨rfl, P1, Q1⟩ := hR
  have Q2 := hide ((unhide KP).tr Q1)
  clear PH KP Q1
  have PH := hide P1
  have KP := Q2
  clear Q2 P1
  refine ⟨_, rfl, fun a7 K7 => ?_⟩
  clear K5
  refine lT (.bool true) W6 K7 (want_none rfl) (fun ev E => ?_) fun a8 K8 => ?_
  ·have E8 := E.tmp 8 _ rfl; clear E; clear PH KP HN HX HR LH FH HT; go_simp
  clear K7
  refine nilN ?_
  refine knCond (b := true) K8 rfl (wp_skip ?_)
  show Code.wp _ _ _ _ _
  have K9 : Kn _ 80 [(0, zp p 0), (1, zi t)] := K8.less ⟨rfl, rfl, trivial⟩
  clear K8
  refine wp_block ?_
  refine seqR ?_
  refine lM K9 fun a10 K10 => ?_
  clear K9
  refine lN K10 fun a11 K11 => ?_
  clear K10
  refine lF K11 FA66_1 fun a12 K12 => ?_
  clear K11
  refine lT (.slice (some ⟨g, 0, none⟩) n cap) W6 K12 (want_none rfl) (fun ev E => ?_) fun a13 K13 => ?_
  ·obtain ⟨c0, c1, _⟩ := (unhide PH).head; have E12 := E.tmp 12 _ rfl; clear E; clear PH KP HN HX HR LH FH HT; go_simp
  clear K12
  refine lM K13 fun a14 K14 => ?_
  clear K13
  refine lT (zp g (t * 14)) W6 K14 (want_none rfl) (fun ev E => ?_) fun a15 K15 => ?_
  ·have E13 := E.tmp 13 _ rfl; have E14 := E.tmp 14 _ rfl; clear E; clear PH KP HN HX HR LH FH HT; go_simp
  clear K14
  refine lF K15 FA75_0 fun a16 K16 => ?_
  clear K15
  refine lT (zi ((S t).up : Int)) W6 K16 (want_none rfl) (fun ev E => ?_) fun a17 K17 => ?_
  ·obtain ⟨s0, s1, s2, s3, s4, s5, s6, s7, s8, s9, s10, s11, s12, s13⟩ := (unhide PH).slot (t := t) (by assumption); have E16 := E.tmp 16 _ rfl; clear E; clear PH KP HN HX HR LH FH HT; go_simp
  clear K16
  refine lA K17 fun a18 K18 => ?_
  clear K17
  refine nilN ?_
  have K19 : Kn _ 80 [(0, zp p 0), (1, zi t), (4, zi ((S t).up : Int))] := K18.less ⟨rfl, rfl, rfl, trivial⟩
  clear K18
  obtain ⟨u, hu⟩ : ∃ u, u = (S t).up := ⟨_, rfl⟩
  rw [← hu] at K19
  obtain ⟨hu1, hu2, hu3, hu4⟩ := (unhide LH).upA (unhide HT) hT
  rw [← hu] at hu1 hu2 hu3 hu4
  have ltu := (unhide LH).lt u hu1
  have e3 : (0 : Int) <= (u : Int) := by omega
  have e4 : (u : Int) < (n : Int) := by omega
  have HU := hide (And.intro hu (And.intro hu1 (And.intro hu2 (And.intro hu3 hu4))))
  have HT2 := hide hT
  clear hu hu1 hu2 hu3 hu4 hb hT
  by_cases hT : Top S u
  ·have hb := (isTopB_iff S u).2 hT
   refine wp_seq ?_
   refine seqR ?_
   refine lM K19 fun a23 K23 => ?_
   clear K19
   refine lM K23 fun a24 K24 => ?_
   clear K23
   refine lcall (f := 87) (args := #[zp p 0, zi u]) K24 rfl rfl (want_none rfl) (fun ev E => ?_) (by have q := isTopL (unhide PH) (unhide LH) (unhide HU).2.1; rw [hb] at q; exact q) (fun e W25 hR => ?_)
   ·have EF := E.func; have E18 := E.tmp 18 _ rfl; have E19 := E.tmp 19 _ rfl; clear E; clear PH KP HN HX HR LH FH HT HT2 HU; clear hT hb; go_simp
   obtain ⟨rfl, P1, Q1⟩ := hR
   have Q2 := hide ((unhide KP).tr Q1)
   clear PH KP Q1
   have PH := hide P1
   have KP := Q2
   clear Q2 P1
   refine ⟨_, rfl, fun a26 K26 => ?_⟩
   clear K24
   refine nilN ?_
   refine knCond (b := true) K26 rfl ?_
   have K27 : Kn _ 80 [(0, zp p 0), (1, zi t), (4, zi u)] := K26.less ⟨rfl, rfl, rfl, trivial⟩
   clear K26
   refine seqR ?_
   refine lM K27 fun a28 K28 => ?_
   clear K27
   refine lM K28 fun a29 K29 => ?_
   clear K28
   refine lcall (f := 88) (args := #[zp p 0, zi u]) K29 rfl rfl (want_none rfl) (fun ev E => ?_) (settleL (unhide PH) (unhide LH) (unhide HU).2.1) (fun e W30 hR => ?_)
   ·have EF := E.func; have E21 := E.tmp 21 _ rfl; have E22 := E.tmp 22 _ rfl; clear E; clear PH KP HN HX HR LH FH HT HT2 HU; clear hT hb; go_simp
   obtain ⟨rfl, Q1, S1, GS1, P1, LS1, lkS1, iS1, fS1⟩ := hR
   have Q2 := hide ((unhide KP).tr Q1)
   clear PH KP Q1
   have PH := hide P1
   have KP := Q2
   clear Q2 P1
   refine ⟨_, rfl, fun a31 K31 => ?_⟩
   clear K29
   refine nilN ?_
   refine seqR ?_
   refine lM K31 fun a32 K32 => ?_
   clear K31
   refine lM K32 fun a33 K33 => ?_
   clear K32
   refine lcall (f := 88) (args := #[zp p 0, zi t]) K33 rfl rfl (want_none rfl) (fun ev E => ?_) (settleL (unhide PH) LS1 (unhide HT)) (fun e W34 hR => ?_)
   ·have EF := E.func; have E24 := E.tmp 24 _ rfl; have E25 := E.tmp 25 _ rfl; clear E; clear PH KP HN HX HR LH FH HT HT2 HU; clear hT hb LS1 lkS1 iS1 fS1; go_simp
   obtain ⟨rfl, Q1, S2, GS2, P1, LS2, lkS2, iS2, fS2⟩ := hR
   have Q2 := hide ((unhide KP).tr Q1)
   clear PH KP Q1
   have PH := hide P1
   have KP := Q2
   clear Q2 P1
   refine ⟨_, rfl, fun a35 K35 => ?_⟩
   clear K33
   refine nilN ?_
   refine seqR ?_
   refine lM K35 fun a36 K36 => ?_
   clear K35
   refine lM K36 fun a37 K37 => ?_
   clear K36
   obtain ⟨hu, hu1, hu2, hu3, hu4⟩ := unhide HU
   have n2 : ¬ Top S2 t := fun q => unhide HT2 ((lkS1.top t).1 ((lkS2.top t).1 q))
   have up2 : (S2 t).up = u := by rw [lkS2.up, lkS1.up, ← hu]
   have iu2 : Idle S2 (S2 t).up := by rw [up2]; exact fS2 u hu2 (by rw [lkS1.up]; exact hu3) iS1
   obtain ⟨G3, L3, F3, c3, T3, i3⟩ := LS2.last2 (unhide HT) n2 iS2 iu2
   have T3' : Top (rotS S2 t) t := T3.2 (by rw [up2]; exact (lkS2.top u).2 ((lkS1.top u).2 hT))
   clear hu hu1 hu2 hu3 hu4 T3 up2 c3
   refine lcall (f := 89) (args := #[zp p 0, zi t]) K37 rfl rfl (want_none rfl) (fun ev E => ?_) (rotateL (unhide PH) LS2 (unhide HT) n2 iS2 iu2) (fun e W38 hR => ?_)
   ·have EF := E.func; have E27 := E.tmp 27 _ rfl; have E28 := E.tmp 28 _ rfl; clear E; clear PH KP HN HX HR LH FH HT HT2 HU; clear hT hb LS1 lkS1 iS1 fS1 LS2 lkS2 fS2 n2 iu2 iS2 L3 F3 T3' i3; go_simp
   obtain ⟨rfl, Q1, P1⟩ := hR
   have Q2 := hide ((unhide KP).tr Q1)
   clear PH KP Q1
   have PH := hide P1
   have KP := Q2
   clear Q2 P1
   refine ⟨_, rfl, fun a39 K39 => ?_⟩
   clear K37
   refine nilN ?_
   refine wp_ret (thenRet (inRet ?_))
   exact unhide HR _ _ _ _ (K39.less trivial) (unhide PH) L3 ((unhide FH).trans (lkS1.fra.trans (lkS2.fra.trans F3))) T3' i3 (unhide KP)
  ·have hb := (isTopB_not S u).2 hT
   refine seqN ?_
   refine seqR ?_
   refine lM K19 fun a23 K23 => ?_
   clear K19
   refine lM K23 fun a24 K24 => ?_
   clear K23
   refine lcall (f := 87) (args := #[zp p 0, zi u]) K24 rfl rfl (want_none rfl) (fun ev E => ?_) (by have q := isTopL (unhide PH) (unhide LH) (unhide HU).2.1; rw [hb] at q; exact q) (fun e W25 hR => ?_)
   ·have EF := E.func; have E18 := E.tmp 18 _ rfl; have E19 := E.tmp 19 _ rfl; clear E; clear PH KP HN HX HR LH FH HT HT2 HU; clear hT hb; go_simp
   obtain ⟨rfl, P1, Q1⟩ := hR
   have Q2 := hide ((unhide KP).tr Q1)
   clear PH KP Q1
   have PH := hide P1
   have KP := Q2
   clear Q2 P1
   refine ⟨_, rfl, fun a26 K26 => ?_⟩
   clear K24
   refine nilN ?_
   refine knCond (b := false) K26 rfl (wp_skip ?_)
   show Code.wp _ _ _ _ _
   have K27 : Kn _ 80 [(0, zp p 0), (1, zi t), (4, zi u)] := K26.less ⟨rfl, rfl, rfl, trivial⟩
   clear K26
   refine seqR ?_
   refine lM K27 fun a28 K28 => ?_
   clear K27
   refine lN K28 fun a29 K29 => ?_
   clear K28
   refine lF K29 FA66_1 fun a30 K30 => ?_
   clear K29
   refine lT (.slice (some ⟨g, 0, none⟩) n cap) W25 K30 (want_none rfl) (fun ev E => ?_) fun a31 K31 => ?_
   ·obtain ⟨c0, c1, _⟩ := (unhide PH).head; have E32 := E.tmp 32 _ rfl; clear E; clear PH KP HN HX HR LH FH HT HT2 HU; clear hT hb; go_simp
   clear K30
   refine lM K31 fun a32 K32 => ?_
   clear K31
   refine lT (zp g (u * 14)) W25 K32 (want_none rfl) (fun ev E => ?_) fun a33 K33 => ?_
   ·have E33 := E.tmp 33 _ rfl; have E34 := E.tmp 34 _ rfl; clear E; clear PH KP HN HX HR LH FH HT HT2 HU; clear hT hb; go_simp
   clear K32
   refine lF K33 FA75_0 fun a34 K34 => ?_
   clear K33
   refine lT (zi ((S u).up : Int)) W25 K34 (want_none rfl) (fun ev E => ?_) fun a35 K35 => ?_
   ·obtain ⟨s0, s1, s2, s3, s4, s5, s6, s7, s8, s9, s10, s11, s12, s13⟩ := (unhide PH).slot (t := u) (by assumption); have E36 := E.tmp 36 _ rfl; clear E; clear PH KP HN HX HR LH FH HT HT2 HU; clear hT hb; go_simp
   clear K34
   refine lA K35 fun a36 K36 => ?_
   clear K35
   refine nilN ?_
   have K37 : Kn _ 80 [(0, zp p 0), (1, zi t), (4, zi u), (5, zi ((S u).up : Int))] := K36.less ⟨rfl, rfl, rfl, rfl, trivial⟩
   clear K36
   obtain ⟨o, ho⟩ : ∃ o, o = (S u).up := ⟨_, rfl⟩
   rw [← ho] at K37
   obtain ⟨hu, hu1, hu2, hu3, hu4⟩ := unhide HU
   obtain ⟨ho1, ho2, ho3⟩ := (unhide LH).upB (unhide HT) (unhide HT2) (by rw [← hu]; exact hT)
   rw [← hu, ← ho] at ho1 ho2 ho3
   rw [← ho] at hu3 hu4
   have lto := (unhide LH).lt o ho1
   have e5 : (0 : Int) <= (o : Int) := by omega
   have e6 : (o : Int) < (n : Int) := by omega
   clear HU
   have HU := hide (And.intro hu (And.intro hu1 (And.intro hu2 (And.intro hu3 hu4))))
   have HO := hide (And.intro ho (And.intro ho1 (And.intro ho2 ho3)))
   have HT3 := hide hT
   clear hu hu1 hu2 hu3 hu4 ho ho1 ho2 ho3 hT hb
   refine seqR ?_
   refine lM K37 fun a38 K38 => ?_
   clear K37
   refine lM K38 fun a39 K39 => ?_
   clear K38
   refine lcall (f := 88) (args := #[zp p 0, zi o]) K39 rfl rfl (want_none rfl) (fun ev E => ?_) (settleL (unhide PH) (unhide LH) (unhide HO).2.1) (fun e W40 hR => ?_)
   ·have EF := E.func; have E38 := E.tmp 38 _ rfl; have E39 := E.tmp 39 _ rfl; clear E; clear PH KP HN HX HR LH FH HT HT2 HU HO HT3; go_simp
   obtain ⟨rfl, Q1, S1, GS1, P1, LS1, lkS1, iS1, fS1⟩ := hR
   have Q2 := hide ((unhide KP).tr Q1)
   clear PH KP Q1
   have PH := hide P1
   have KP := Q2
   clear Q2 P1
   refine ⟨_, rfl, fun a41 K41 => ?_⟩
   clear K39
   refine nilN ?_
   refine seqR ?_
   refine lM K41 fun a42 K42 => ?_
   clear K41
   refine lM K42 fun a43 K43 => ?_
   clear K42
   refine lcall (f := 88) (args := #[zp p 0, zi u]) K43 rfl rfl (want_none rfl) (fun ev E => ?_) (settleL (unhide PH) LS1 (unhide HU).2.1) (fun e W44 hR => ?_)
   ·have EF := E.func; have E41 := E.tmp 41 _ rfl; have E42 := E.tmp 42 _ rfl; clear E; clear PH KP HN HX HR LH FH HT HT2 HU HO HT3; clear LS1 lkS1 iS1 fS1; go_simp
   obtain ⟨rfl, Q1, S2, GS2, P1, LS2, lkS2, iS2, fS2⟩ := hR
   have Q2 := hide ((unhide KP).tr Q1)
   clear PH KP Q1
   have PH := hide P1
   have KP := Q2
   clear Q2 P1
   refine ⟨_, rfl, fun a45 K45 => ?_⟩
   clear K43
   refine nilN ?_
   refine seqR ?_
   refine lM K45 fun a46 K46 => ?_
   clear K45
   refine lM K46 fun a47 K47 => ?_
   clear K46
   refine lcall (f := 88) (args := #[zp p 0, zi t]) K47 rfl rfl (want_none rfl) (fun ev E => ?_) (settleL (unhide PH) LS2 (unhide HT)) (fun e W48 hR => ?_)
   ·have EF := E.func; have E44 := E.tmp 44 _ rfl; have E45 := E.tmp 45 _ rfl; clear E; clear PH KP HN HX HR LH FH HT HT2 HU HO HT3; clear LS1 lkS1 iS1 fS1 LS2 lkS2 iS2 fS2; go_simp
   obtain ⟨rfl, Q1, S3, GS3, P1, LS3, lkS3, iS3, fS3⟩ := hR
   have Q2 := hide ((unhide KP).tr Q1)
   clear PH KP Q1
   have PH := hide P1
   have KP := Q2
   clear Q2 P1
   refine ⟨_, rfl, fun a49 K49 => ?_⟩
   clear K47
   refine nilN ?_
   obtain ⟨hu, hu1, hu2, hu3, hu4⟩ := unhide HU
   obtain ⟨ho, ho1, ho2, ho3⟩ := unhide HO
   have lk := lkS1.trans (lkS2.trans lkS3)
   have n3 : ¬ Top S3 t := fun q => unhide HT2 ((lk.top t).1 q)
   have up3 : (S3 t).up = u := by rw [lk.up, ← hu]
   have upu3 : (S3 u).up = o := by rw [lk.up, ← ho]
   have n3u : ¬ Top S3 (S3 t).up := by rw [up3]; exact fun q => unhide HT3 ((lk.top u).1 q)
   have iu3 : Idle S3 (S3 t).up := by rw [up3]; exact fS3 u hu2 (by rw [lkS2.up, lkS1.up, ← ho]; exact hu3) iS2
   have io3 : Idle S3 (S3 (S3 t).up).up := by
    rw [up3, upu3]
    exact fS3 o hu3 (by rw [lkS2.up, lkS1.up]; exact ho3) (fS2 o hu4 (by rw [lkS1.up]; exact ho2) iS1)
   have c3 : (S3 t).sm.c = (S t).sm.c := lk.c t
   have FF := (unhide FH).trans lk.fra
   have HH := hide (And.intro LS3 (And.intro n3 (And.intro n3u (And.intro iS3 (And.intro iu3 (And.intro io3 (And.intro c3 (And.intro FF up3))))))))
   clear hu hu1 hu2 hu3 hu4 ho ho1 ho2 ho3 lk n3 n3u iu3 io3 c3 FF up3 upu3 LS1 lkS1 iS1 fS1 LS2 lkS2 iS2 fS2 LS3 lkS3 iS3 fS3
   have K50 : Kn _ 80 [(0, zp p 0), (1, zi t), (4, zi u), (5, zi o)] := K49.less ⟨rfl, rfl, rfl, rfl, trivial⟩
   clear K49
   refine seqN ?_
   refine seqN ?_
   refine read72 K50 (unhide PH) (by omega) (by omega) (by omega) (fun a40 V40 bb K40 P40 Q40 => ?_)
   have Q2 := hide ((unhide KP).tr Q40)
   clear PH KP Q40
   have PH := hide P40
   have KP := Q2
   clear Q2 P40
   show Code.wp _ _ _ _ _
   obtain ⟨L3, n3, n3u, i3, iu3, io3, c3, F3, up3⟩ := unhide HH
   cases bb
   ·obtain ⟨G4, L4, F4, c4, n4, i4, iu4⟩ := L3.zag2 (unhide HT) n3 n3u i3 iu3 io3
    refine knCond (b := false) K40 rfl ?_
    show Code.wp _ _ _ _ _
    refine wp_region_lit ?_
    refine lM K40 fun a61 K61 => ?_
    clear K40
    refine lM K61 fun a62 K62 => ?_
    clear K61
    refine lcall (f := 89) (args := #[zp p 0, zi t]) K62 rfl rfl (want_none rfl) (fun ev E => ?_) (rotateL (unhide PH) L3 (unhide HT) n3 i3 iu3) (fun e W63 hR => ?_)
    ·have EF := E.func; have E71 := E.tmp 71 _ rfl; have E72 := E.tmp 72 _ rfl; clear E; clear PH KP HN HX HR LH FH HT HT2 HU HO HT3 HH L3 n3 n3u i3 iu3 io3 F3; clear L4 F4 n4 i4 iu4; go_simp
    obtain ⟨rfl, Q1, P1⟩ := hR
    have Q2 := hide ((unhide KP).tr Q1)
    clear PH KP Q1
    have PH := hide P1
    have KP := Q2
    clear Q2 P1
    refine ⟨_, rfl, fun a64 K64 => ?_⟩
    clear K62
    refine nilN ?_
    refine lastN ?_
    refine wp_region_lit ?_
    refine lM K64 fun a65 K65 => ?_
    clear K64
    refine lM K65 fun a66 K66 => ?_
    clear K65
    obtain ⟨G5, L5, F5, c5, T5, i5⟩ := L4.last2 (unhide HT) n4 i4 iu4
    refine lcall (f := 89) (args := #[zp p 0, zi t]) K66 rfl rfl (want_none rfl) (fun ev E => ?_) (rotateL (unhide PH) L4 (unhide HT) n4 i4 iu4) (fun e W67 hR => ?_)
    ·have EF := E.func; have E74 := E.tmp 74 _ rfl; have E75 := E.tmp 75 _ rfl; clear E; clear PH KP HN HX HR LH FH HT HT2 HU HO HT3 HH L3 n3 n3u i3 iu3 io3 F3; clear L4 F4 n4 i4 iu4; go_simp
    obtain ⟨rfl, Q1, P1⟩ := hR
    have Q2 := hide ((unhide KP).tr Q1)
    clear PH KP Q1
    have PH := hide P1
    have KP := Q2
    clear Q2 P1
    refine ⟨_, rfl, fun a68 K68 => ?_⟩
    clear K66
    refine wpList_nil ?_
    show Q .normal _ _
    exact unhide HN _ _ _ _ (K68.less ⟨rfl, rfl, trivial⟩) (unhide PH) L5 (F3.trans (F4.trans F5)) (unhide KP) (by omega)
   ·obtain ⟨G4, L4, F4, c4, n4, i4, iu4⟩ := L3.first2 (unhide HT) n3 n3u i3 iu3 io3
    have hu1 := (unhide HU).2.1
    rw [up3] at L4 F4 c4 n4 i4 iu4 n3u iu3 io3
    have c4 := congrArg Sm.c c4
    refine knCond (b := true) K40 rfl ?_
    show Code.wp _ _ _ _ _
    refine wp_region_lit ?_
    refine lM K40 fun a61 K61 => ?_
    clear K40
    refine lM K61 fun a62 K62 => ?_
    clear K61
    refine lcall (f := 89) (args := #[zp p 0, zi u]) K62 rfl rfl (want_none rfl) (fun ev E => ?_) (rotateL (unhide PH) L3 hu1 n3u iu3 io3) (fun e W63 hR => ?_)
    ·have EF := E.func; have E68 := E.tmp 68 _ rfl; have E69 := E.tmp 69 _ rfl; clear E; clear PH KP HN HX HR LH FH HT HT2 HU HO HT3 HH L3 n3 n3u i3 iu3 io3 F3; clear L4 F4 n4 i4 iu4 hu1; go_simp
    obtain ⟨rfl, Q1, P1⟩ := hR
    have Q2 := hide ((unhide KP).tr Q1)
    clear PH KP Q1
    have PH := hide P1
    have KP := Q2
    clear Q2 P1
    refine ⟨_, rfl, fun a64 K64 => ?_⟩
    clear K62
    refine nilN ?_
    refine lastN ?_
    refine wp_region_lit ?_
    refine lM K64 fun a65 K65 => ?_
    clear K64
    refine lM K65 fun a66 K66 => ?_
    clear K65
    obtain ⟨G5, L5, F5, c5, T5, i5⟩ := L4.last2 (unhide HT) n4 i4 iu4
    refine lcall (f := 89) (args := #[zp p 0, zi t]) K66 rfl rfl (want_none rfl) (fun ev E => ?_) (rotateL (unhide PH) L4 (unhide HT) n4 i4 iu4) (fun e W67 hR => ?_)
    ·have EF := E.func; have E74 := E.tmp 74 _ rfl; have E75 := E.tmp 75 _ rfl; clear E; clear PH KP HN HX HR LH FH HT HT2 HU HO HT3 HH L3 n3 n3u i3 iu3 io3 F3; clear L4 F4 n4 i4 iu4 hu1; go_simp
    obtain ⟨rfl, Q1, P1⟩ := hR
    have Q2 := hide ((unhide KP).tr Q1)
    clear PH KP Q1
    have PH := hide P1
    have KP := Q2
    clear Q2 P1
    refine ⟨_, rfl, fun a68 K68 => ?_⟩
    clear K66
    refine wpList_nil ?_
    show Q .normal _ _
    exact unhide HN _ _ _ _ (K68.less ⟨rfl, rfl, trivial⟩) (unhide PH) L5 (F3.trans (F4.trans F5)) (unhide KP) (by omega)
set_option maxHeartbeats 4000000 in
theorem splayL {p g n cap room t : Nat} {T : Tr} {S : Ss} {G : Gh} {w : World} (h : Pool w p g n cap room S) (L : Lc S n T G) (ht : Th T t) :
  Calls Try.prog 72 #[zp p 0, zi t] w fun e w' => e = .returned (.tuple #[]) /\ Keep [g] w w' /\ ∃ S1 G1, Pool w' p g n cap room S1 /\ Lc S1 n T G1 /\ Fra T t S G S1 G1 /\ Top S1 t /\ Idle S1 t := by
 refine callsK (n := 80) (L := [(0, zp p 0), (1, zi t)]) Try.func72 rfl Try.ntmps72 rfl rfl (fun a0 K0 => ?_)
 refine wp_seq ?_
 refine wp_block ?_
 refine wp_loop_ghost (fun k a w' => ∃ S1 G1, Kn a 80 [(0, zp p 0), (1, zi t)] /\ Pool w' p g n cap room S1 /\ Lc S1 n T G1 /\ Fra T t S G S1 G1 /\ Keep [g] w w' /\ k = (1048577 - (S1 t).sm.c).toNat) _ ⟨S, G, K0, h, L, Fra.refl, Keep.refl _ _, rfl⟩ ?_
 rintro k a w1 ⟨S1, G1, K1, P1, L1, F1, Q1, hk⟩
 have c1 := L1.c_le t
 refine round72 K1 P1 L1 F1 Q1 ht (fun a' W S2 G2 K2 P2 L2 F2 Q2 hc => ?_) (fun a' W K2 P2 T2 Q2 => ?_) (fun a' W S2 G2 K2 P2 L2 F2 T2 i2 Q2 => ?_)
 ·have c2 := L2.c_le t
  exact ⟨_, by omega, S2, G2, K2, P2, L2, F2, Q2, rfl⟩
 ·show Code.wp _ _ _ _ _
  have PH := hide P2
  have KP := hide Q2
  clear P2 Q2
  have lt1 := L1.lt t ht
  have e1 : (0 : Int) <= (t : Int) := by omega
  have e2 : (t : Int) < (n : Int) := by omega
  have HA := hide (And.intro L1 (And.intro F1 (And.intro T2 ht)))
  clear h L ht K0 K1 P1 L1 F1 Q1 hk c1 T2
  refine wp_region_lit ?_
  refine lM K2 fun a6 K6 => ?_
  clear K2
  refine lM K6 fun a7 K7 => ?_
  clear K6
  refine lcall (f := 88) (args := #[zp p 0, zi t]) K7 rfl rfl (want_none rfl) (fun ev E => ?_) (settleL (unhide PH) (unhide HA).1 (unhide HA).2.2.2) (fun e W3 hR => ?_)
  ·have EF := E.func; have E77 := E.tmp 77 _ rfl; have E78 := E.tmp 78 _ rfl; clear E; clear PH KP HA; go_simp
  obtain ⟨rfl, Q1, S3, G3, P3, L3, lk3, i3, _⟩ := hR
  refine ⟨_, rfl, fun a8 K8 => ?_⟩
  clear K7
  refine wpList_nil ?_
  obtain ⟨L1, F1, T2, ht⟩ := unhide HA
  exact ⟨K8.defers, .tuple #[], results_none rfl _ _ _, rfl, (unhide KP).tr Q1, S3, G3, P3, L3, F1.trans lk3.fra, (lk3.top t).2 T2, i3⟩
 ·refine thenRet (inRet (thenRet ?_)) <;> exact ⟨K2.defers, .tuple #[], results_none rfl _ _ _, rfl, Q2, S2, G2, P2, L2, F2, T2, i2⟩
end Go.Proofs.Ytjnkgakajenoaaa
namespace Go.Proofs.Ytjnkgakajenoaaa
set_option linter.unusedVariables false
set_option linter.unusedSimpArgs false
section
variable {S S1 S2 : Ss} {n : Nat} {T : Tr} {G G1 G2 : Gh} {t u o A M B x y z k l r below : Nat} {d : Int} {s : Bool}
theorem U_cmp (h : T.Wf) : ∀ (n : Nat) {t a b : Nat}, dp T t <= n -> a ∈ U T t -> b ∈ U T t -> a ∈ U T b ∨ b ∈ U T a
 | 0, t, a, b, hn, ha, _ => by
  have := dp_pos h (U_mem_th' h ha); omega
 | n + 1, t, a, b, hn, ha, hb => by
  have ht := U_mem_th' h ha
  rcases (U_up h ht).1 ha with rfl | ha'
  ·exact .inr hb
  ·rcases (U_up h ht).1 hb with rfl | hb'
   ·exact .inl ha
   ·have := dp_th h ht
    exact U_cmp h n (by omega) ha' hb'
theorem U_cmp' (h : T.Wf) {a b : Nat} (ha : a ∈ U T t) (hb : b ∈ U T t) : a ∈ U T b ∨ b ∈ U T a := U_cmp h _ (Nat.le_refl _) ha hb
theorem Lc.ps_pn (h : Lc S n T G) (hx : Th T x) (e : G.pn x = y) (y0 : y ≠ 0) : Th T y /\ ps T y = x := by
 subst e; exact (h.loc x hx).nx y0
theorem Lc.chaink (h : Lc S n T G) : ∀ (k : Nat) (x : Nat), Th T x -> (S x).sm.c <= k -> (∀ z, z ∈ U T x -> G.fi x ∈ U T z -> z ≠ G.fi x -> G.pn (ps T z) = z) /\ (∀ z, z ∈ U T (G.la x) -> x ∈ U T z -> z ≠ x -> G.pn (ps T z) = z)
 | 0, x, hx, hc => by have := (h.loc x hx).fit.c1; omega
 | k + 1, x, hx, hc => by
  have L := h.loc x hx
  have W := h.wf
  have x0 : x ≠ 0 := by have := hx.1; omega
  have A : (S x).l ≠ 0 -> _ := fun e => And.intro (L.kl e).th (Lc.chaink h k _ (L.kl e).th (by have := h.cl hx; omega))
  have B : (S x).r ≠ 0 -> _ := fun e => And.intro (L.kr e).th (Lc.chaink h k _ (L.kr e).th (by have := h.cr hx; omega))
  have en := L.en
  have main : ∀ P Q : Nat, (P ≠ 0 -> Th T P /\ (∀ z, z ∈ U T P -> G.fi P ∈ U T z -> z ≠ G.fi P -> G.pn (ps T z) = z) /\ (∀ z, z ∈ U T (G.la P) -> P ∈ U T z -> z ≠ P -> G.pn (ps T z) = z)) →
    (Q ≠ 0 -> Th T Q /\ (∀ z, z ∈ U T Q -> G.fi Q ∈ U T z -> z ≠ G.fi Q -> G.pn (ps T z) = z) /\ (∀ z, z ∈ U T (G.la Q) -> Q ∈ U T z -> z ≠ Q -> G.pn (ps T z) = z)) →
    (P = 0 -> G.fi x = x) -> (P ≠ 0 -> G.fi x = G.fi P /\ G.pn (G.la P) = x) -> (Q = 0 -> G.la x = x) -> (Q ≠ 0 -> G.la x = G.la Q /\ G.pn x = G.fi Q) →
    (∀ z, z ∈ U T x -> G.fi x ∈ U T z -> z ≠ G.fi x -> G.pn (ps T z) = z) /\ (∀ z, z ∈ U T (G.la x) -> x ∈ U T z -> z ≠ x -> G.pn (ps T z) = z) := by
   intro P Q hP hQ e1 e2 e3 e4
   constructor
   ·intro z hz hf hne
    by_cases p : P = 0
    ·rw [e1 p] at hf hne
     exact absurd (U_anti W hz hf) hne
    ·obtain ⟨P1, P2, P3⟩ := hP p
     obtain ⟨f1, f2⟩ := e2 p
     rw [f1] at hf hne
     have lP := h.la_in P1
     obtain ⟨_, hps⟩ := h.ps_pn (U_mem_th' W lP |> fun q => U_mem_th W (U_self W q)) f2 x0
     rcases (U_up W hx).1 hz with rfl | hz'
     ·rw [hps]; exact f2
     ·rw [hps] at hz'
      rcases U_cmp' W hz' lP with q | q
      ·exact P2 z q hf hne
      ·by_cases e : z = P
       ·subst e; exact P2 z (U_self W P1) hf hne
       ·exact P3 z hz' q e
   ·intro z hz hf hne
    by_cases q : Q = 0
    ·rw [e3 q] at hz
     exact absurd (U_anti W hz hf) hne
    ·obtain ⟨Q1, Q2, Q3⟩ := hQ q
     obtain ⟨f1, f2⟩ := e4 q
     rw [f1] at hz
     have fQ := h.fi_in Q1
     have lQ := h.la_in Q1
     have fth := U_mem_th W fQ
     have f0 : G.fi Q ≠ 0 := by have := fth.1; omega
     obtain ⟨_, hps⟩ := h.ps_pn hx f2 f0
     rcases U_cmp' W hz (U_trans W lQ fQ) with k | k
     ·rcases (U_up W fth).1 k with rfl | k'
      ·rw [hps]; exact f2
      ·rw [hps] at k'
       exact absurd (U_anti W k' hf) hne
     ·by_cases e : z = G.fi Q
      ·rw [e, hps]; exact f2
      ·rcases U_cmp' W hz lQ with c | c
       ·exact Q2 z c k e
       ·by_cases e' : z = Q
        ·subst e'; exact Q2 z (U_self W Q1) k e
        ·exact Q3 z hz c e'
  cases hb : G.b x
  ·rw [hb] at en
   exact main _ _ A B (fun e => en.l0 e) (fun e => en.l1 e) (fun e => en.r0 e) (fun e => en.r1 e)
  ·rw [hb] at en
   exact main _ _ B A (fun e => en.r0 e) (fun e => en.r1 e) (fun e => en.l0 e) (fun e => en.l1 e)
theorem Lc.chain (h : Lc S n T G) (hx : Th T x) : (∀ z, z ∈ U T x -> G.fi x ∈ U T z -> z ≠ G.fi x -> G.pn (ps T z) = z) /\ (∀ z, z ∈ U T (G.la x) -> x ∈ U T z -> z ≠ x -> G.pn (ps T z) = z) :=
 h.chaink (S x).sm.c.toNat x hx (by have := h.cn x; omega)
theorem Pc_det {pn : Nat -> Nat} : ∀ {l m : List Nat} {z : Nat}, Pc pn (z :: l) -> Pc pn (z :: m) -> (∀ y ∈ l, y ≠ 0) -> (∀ y ∈ m, y ≠ 0) -> (∀ a e, z :: l = a ++ [e] -> pn e = 0) -> (∀ a e, z :: m = a ++ [e] -> pn e = 0) -> l = m
 | [], [], _, _, _, _, _, _, _ => rfl
 | [], y :: m, z, _, h2, _, h4, h5, _ => by
  have := h5 [] z rfl
  have e := h2.1
  exact absurd (by rw [← e]; exact this) (h4 y (by simp))
 | y :: l, [], z, h1, _, h3, _, _, h6 => by
  have := h6 [] z rfl
  have e := h1.1
  exact absurd (by rw [← e]; exact this) (h3 y (by simp))
 | y :: l, y' :: m, z, h1, h2, h3, h4, h5, h6 => by
  have e : y = y' := h1.1.symm.trans h2.1
  subst e
  have := Pc_det h1.2 h2.2 (fun x hx => h3 x (by simp [hx])) (fun x hx => h4 x (by simp [hx])) (fun a e k => h5 (z :: a) e (by rw [k]; rfl)) (fun a e k => h6 (z :: a) e (by rw [k]; rfl))
  rw [this]
theorem Lc.uniq (h : Lc S n T G) (hx : Th T x) (hy : Th T y) (tx : Top S x) (ty : Top S y) (e : G.fi x = G.fi y) : x = y := by
 obtain ⟨lx, sx⟩ := h.spell hx
 obtain ⟨ly, sy⟩ := h.spell hy
 obtain ⟨mx, ex⟩ := sx.hd
 obtain ⟨my, ey⟩ := sy.hd
 have nz : ∀ y ∈ lx, y ≠ 0 := fun y hy => by have := (sx.th y hy).1; omega
 have nz' : ∀ y ∈ ly, y ≠ 0 := fun y hy => by have := (sy.th y hy).1; omega
 obtain ⟨ax, kx⟩ := sx.ls
 obtain ⟨ay, ky⟩ := sy.ls
 have px := ((h.loc x hx).tp tx).pn
 have py := ((h.loc y hy).tp ty).pn
 have q := Pc_det (pn := G.pn) (z := G.fi x) (l := mx) (m := my) (by rw [← ex]; exact sx.pc) (by rw [e, ← ey]; exact sy.pc) (fun y hy => nz y (by rw [ex]; simp [hy])) (fun y hy => nz' y (by rw [ey]; simp [hy]))
  (fun a e1 k => by
   rw [← ex, kx] at k
   have := (List.append_inj' k rfl).2
   simp at this
   rw [← this]; exact px)
  (fun a e1 k => by
   rw [e, ← ey, ky] at k
   have := (List.append_inj' k rfl).2
   simp at this
   rw [← this]; exact py)
 have em : x ∈ ly := by rw [ey, ← e, ← q, ← ex]; exact sx.me
 rcases sy.nt x em with r | r
 ·exact r
 ·exact absurd tx r
theorem Lc.ends_nt (h : Lc S n T G) (hx : Th T x) (hz : Top S z) (hne : z ≠ x) : G.la x ≠ z /\ G.fi x ≠ z := by
 obtain ⟨l, sp⟩ := h.spell hx
 have key : ∀ y, y ∈ l -> y ≠ z := fun y hy e => by
  rcases sp.nt y hy with q | q
  ·exact hne (by rw [← e, q])
  ·exact q (by rw [e]; exact hz)
 obtain ⟨m, e⟩ := sp.hd
 obtain ⟨m', e'⟩ := sp.ls
 exact ⟨key _ (by rw [e']; simp), key _ (by rw [e]; simp)⟩
theorem Lc.la_dp (h : Lc S n T G) (hx : Th T x) : dp T x <= dp T (G.la x) := by
 rcases U_dp h.wf (h.la_in hx) with e | e
 ·rw [← e]; exact Nat.le_refl _
 ·omega
theorem Lc.fi_dp (h : Lc S n T G) (hx : Th T x) : dp T (G.fi x) <= dp T x := by
 rcases U_dp h.wf (h.fi_in hx) with e | e
 ·rw [e]; exact Nat.le_refl _
 ·omega
theorem Lc.top_whole (h : Lc S n T G) (hx : Th T x) (hT : Top S x) : (S x).hu.c + (S x).sm.c = Dc T (G.fi x) /\ (S x).hu.w + (S x).sm.s = Dw T (G.fi x) := by
 have P := (h.loc x hx).tp hT
 have := h.whole hx
 rw [P.pn, Dc_zero h.wf, Dw_zero h.wf, P.a, lf_zero] at this
 omega
end
def wh (z : Sl) : Ms := ⟨z.hu.c + z.sm.c, z.hu.w + z.sm.s⟩
def hangS (S : Ss) (t below : Nat) : Ms := ⟨(S t).hg.c + (wh (S (S t).r)).c - (wh (S below)).c, (S t).hg.w + (wh (S (S t).r)).w - (wh (S below)).w⟩
def prefS (S : Ss) (t below : Nat) : Ss := gatherS (upd S t { S t with hg := hangS S t below, r := below }) t
section
variable {S S1 S2 : Ss} {n : Nat} {T : Tr} {G G1 G2 : Gh} {t u o A M B x y z k l r below : Nat} {d : Int} {s : Bool}
def prefG (G : Gh) (t below : Nat) : Gh := { G with la := updF G.la t (if below = 0 then t else G.la below), pn := updF G.pn t (if below = 0 then 0 else G.fi below) }
theorem prefS_at (S : Ss) (hl : (S t).l ≠ t) (hb : below ≠ t) (x : Nat) : prefS S t below x = if x = t then { S t with hg := hangS S t below, r := below, sm := jn (jn (S (S t).l).sm (one (S t).wt)) (S below).sm, hu := ⟨(S (S t).l).hu.c + (hangS S t below).c + (S below).hu.c, (S (S t).l).hu.w + (hangS S t below).w + (S below).hu.w⟩ } else S x := by
 unfold prefS gatherS
 by_cases e : x = t
 ·subst e
  rw [upd_same, if_pos rfl]
  unfold gSm gHu
  rw [upd_same]
  dsimp only
  rw [upd_ne _ _ hl, upd_ne _ _ hb]
 ·rw [upd_ne _ _ e, upd_ne _ _ e, if_neg e]
theorem Lc.prefer (h : Lc S n T G) (ht : Th T t) (hT : Top S t) (ht2 : Idle S t) (hb : below ≠ 0 -> Th T below /\ Top S below /\ (S below).up = t) :
  Lc (prefS S t below) n T (prefG G t below) /\ Top (prefS S t below) t /\ (∀ x, (prefS S t below x).up = (S x).up) /\ (∀ x, Th T x -> Top S x -> x ≠ below -> Top (prefS S t below) x) := by
 have W := h.wf
 have L := h.loc t ht
 have P := L.tp hT
 have t0 : t ≠ 0 := by have := ht.1; omega
 have hl : (S t).l ≠ t := h.kid_ne ht (.inl rfl)
 have hr : (S t).r ≠ t := h.kid_ne ht (.inr rfl)
 have upt : (S t).up ≠ t := fun e => by
  have h1 := h.up_dp ht hT
  have h2 := h.fi_dp ht
  rw [e] at h1; omega
 have bt : below ≠ t := fun e => by
  obtain ⟨_, _, h3⟩ := hb (by omega)
  rw [e] at h3; exact upt h3
 have bl : below ≠ 0 -> below ≠ (S t).l := fun e e' => by
  obtain ⟨_, h2, h3⟩ := hb e
  unfold Top at h2; rw [h3] at h2; exact h2.1 e'.symm
 have br : below ≠ 0 -> below ≠ (S t).r := fun e e' => by
  obtain ⟨_, h2, h3⟩ := hb e
  unfold Top at h2; rw [h3] at h2; exact h2.2 e'.symm
 have at1 := prefS_at (below := below) S hl bt
 generalize prefS S t below = S1 at at1 ⊢
 have en := L.en
 rw [P.b] at en
 have fx : ∀ x, (S1 x).up = (S x).up /\ (S1 x).l = (S x).l /\ (S1 x).tn = (S x).tn /\ (S1 x).wt = (S x).wt /\ (S1 x).wa = (S x).wa := fun x => by
  rw [at1]; split
  ·rename_i e; subst e; simp
  ·simp
 have nx : ∀ x, x ≠ t -> S1 x = S x := fun x hx => by rw [at1, if_neg hx]
 have rt : (S1 t).r = below := by rw [at1, if_pos rfl]
 have laG : ∀ x, x ≠ t -> (prefG G t below).la x = G.la x := fun x hx => updF_other _ _ hx
 have pnG : ∀ x, x ≠ t -> (prefG G t below).pn x = G.pn x := fun x hx => updF_other _ _ hx
 have lat : (prefG G t below).la t = (if below = 0 then t else G.la below) := updF_same _ _ _
 have pnt : (prefG G t below).pn t = (if below = 0 then 0 else G.fi below) := updF_same _ _ _
 have pr0 : (S t).r = 0 -> G.pn t = 0 := fun e => by
  have := en.r0 e
  have q := P.pn
  have e2 : G.la t = t := this
  rw [e2] at q; exact q
 have pr1 : (S t).r ≠ 0 -> G.pn t = G.fi (S t).r /\ G.la t = G.la (S t).r := fun e => ⟨(en.r1 e).2, (en.r1 e).1⟩
 have bf : below ≠ 0 -> Th T (G.fi below) /\ ps T (G.fi below) = t /\ G.pn (G.la below) = 0 /\ G.pn t ≠ G.fi below /\ dp T t < dp T (G.la below) := fun e => by
  obtain ⟨h1, h2, h3⟩ := hb e
  have Pb := (h.loc _ h1).tp h2
  have e1 := Pb.fi
  have e2 := Pb.nv
  rw [h3] at e1 e2
  have f := h.fi_th h1
  refine ⟨f, e1, Pb.pn, e2, ?_⟩
  have d1 := dp_th W f
  have d2 := h.fi_dp h1
  have d3 := h.la_dp h1
  rw [e1] at d1; omega
 have Top1 : ∀ x, Th T x -> (Top S1 x ↔ (Top S x /\ (x ≠ below)) ∨ (x = (S t).r)) := fun x hx => by
  have x0 : x ≠ 0 := by have := hx.1; omega
  unfold Top
  rw [(fx x).1]
  by_cases e : (S x).up = t
  ·rw [e, (fx t).2.1, rt]
   constructor
   ·rintro ⟨q1, q2⟩
    by_cases q3 : x = (S t).r
    ·exact .inr q3
    ·exact .inl ⟨⟨q1, fun k => q3 k.symm⟩, fun k => q2 k.symm⟩
   ·rintro (⟨⟨q1, q2⟩, q3⟩ | q)
    ·exact ⟨q1, fun k => q3 k.symm⟩
    ·refine ⟨fun k => ?_, fun k => ?_⟩
     ·have := L.lr (k.trans q); omega
     ·exact br (by omega) (k.trans q)
  ·rw [nx _ e]
   constructor
   ·intro q
    refine .inl ⟨q, fun k => e ?_⟩
    rw [k]; exact (hb (by omega)).2.2
   ·rintro (⟨q, _⟩ | q)
    ·exact q
    ·exact absurd (by rw [q]; exact (L.kr (by omega)).up) e
 have whr : (wh (S (S t).r)).c = Dc T (G.pn t) /\ (wh (S (S t).r)).w = Dw T (G.pn t) := by
  by_cases e : (S t).r = 0
  ·rw [e, h.s0, pr0 e, Dc_zero W, Dw_zero W]; exact ⟨rfl, rfl⟩
  ·have K := L.kr e
   have q := h.whole K.th
   have a0 : G.a (S t).r = 0 := by rw [K.a, P.a, ht2.2]; rfl
   have p0 : G.pn (G.la (S t).r) = 0 := by rw [← (pr1 e).2]; exact P.pn
   rw [a0, lf_zero, p0, Dc_zero W, Dw_zero W] at q
   rw [(pr1 e).1]
   unfold wh; dsimp only; omega
 have whb : (wh (S below)).c = Dc T (if below = 0 then 0 else G.fi below) /\ (wh (S below)).w = Dw T (if below = 0 then 0 else G.fi below) := by
  by_cases e : below = 0
  ·rw [if_pos e, e, h.s0, Dc_zero W, Dw_zero W]; exact ⟨rfl, rfl⟩
  ·rw [if_neg e]
   exact h.top_whole (hb e).1 (hb e).2.1
 refine ⟨⟨W, h.ft, h.lt, h.n0, h.nn, fun x hx => ?_, by rw [pnG 0 (Ne.symm t0)]; exact h.p0, fun x hx => ?_⟩, (Top1 t ht).2 (.inl ⟨hT, fun e => bt e.symm⟩), fun x => (fx x).1, fun x hx h1 h2 => (Top1 x hx).2 (.inl ⟨h1, h2⟩)⟩
 ·rw [nx x (fun e => hx (by rw [e]; exact ht))]; exact h.out x hx
 ·have Lx := h.loc x hx
  have x0 : x ≠ 0 := by have := hx.1; omega
  by_cases e : x = t
  ·subst e
   have kk : ∀ j, j ≠ 0 -> j = (S x).l ∨ j = below -> Ki S1 T (prefG G x below) x j := fun j j0 hj => by
    rcases hj with rfl | rfl
    ·have K := L.kl j0
     exact ⟨K.th, by rw [(fx _).1]; exact K.up, by rw [(fx x).2.2.1]; exact K.b, by rw [(fx x).2.2.2.2]; exact K.a⟩
    ·obtain ⟨h1, h2, h3⟩ := hb j0
     have Pb := (h.loc _ h1).tp h2
     refine ⟨h1, by rw [(fx _).1]; exact h3, ?_, ?_⟩
     ·show G.b j = (G.b x != _)
      rw [(fx x).2.2.1, Pb.b, P.b, ht2.1]; rfl
     ·show G.a j = G.a x + _
      rw [(fx x).2.2.2.2, Pb.a, P.a, ht2.2]; rfl
   refine ⟨fun e => by rw [(fx x).2.1] at e ⊢; exact kk _ e (.inl rfl), fun e => by rw [rt] at e ⊢; exact kk _ e (.inr rfl), ?_, ?_, ?_, by rw [(fx x).2.2.2.1]; exact L.wt, ?_, ?_, ?_, ?_, ?_, fun a b => by rw [(fx x).2.2.1, (fx x).2.2.2.2]; exact ht2, fun hT1 => ?_⟩
   ·rw [(fx x).2.1, rt]
    intro e
    exact Classical.byContradiction fun e0 => bl (by omega) e.symm
   ·rw [(fx x).2.1, rt]
    show En (prefG G x below) (G.b x) _ _ _
    rw [P.b]
    refine ⟨fun e => en.l0 e, fun e => ⟨(en.l1 e).1, ?_⟩, fun e => ?_, fun e => ⟨?_, ?_⟩⟩
    ·have q : G.pn (G.la (S x).l) = x := (en.l1 e).2
     have K := L.kl e
     have lx : G.la (S x).l ≠ x := fun k => by
      rw [k] at q
      obtain ⟨z1, z2⟩ := h.ps_pn hx q t0
      have := dp_th W hx
      rw [z2] at this; omega
     show (prefG G x below).pn ((prefG G x below).la (S x).l) = x
     rw [laG _ hl, pnG _ lx]; exact q
    ·show (prefG G x below).la x = x
     rw [lat, if_pos e]
    ·show (prefG G x below).la x = (prefG G x below).la below
     rw [lat, if_neg e, laG _ bt]
    ·show (prefG G x below).pn x = G.fi below
     rw [pnt, if_neg e]
   ·rw [pnt]
    intro e
    by_cases e0 : below = 0
    ·rw [if_pos e0] at e; exact absurd rfl e
    ·rw [if_neg e0]; exact ⟨(bf e0).1, (bf e0).2.1⟩
   ·rw [(fx x).2.1, rt, nx _ hl, nx _ bt, at1, if_pos rfl]
    dsimp only
    rw [ht2.2, lf_zero, lf_zero]
   ·rw [at1, if_pos rfl]
    exact Fitm.mid (h.fit0 _) (h.fit0 _) (h.wt_bd _)
   ·rw [(fx x).2.1, rt, nx _ hl, nx _ bt, at1, if_pos rfl]
   ·rw [at1, if_pos rfl, pnt]
    show (S x).hg.c + _ - _ = _
    rw [whr.1, whb.1, L.hgc]; omega
   ·rw [at1, if_pos rfl, pnt]
    show (S x).hg.w + _ - _ = _
    rw [whr.2, whb.2, L.hgw]; omega
   ·refine ⟨P.b, P.a, by rw [(fx x).1]; exact P.fi, ?_, ?_⟩
    ·rw [lat]
     by_cases e0 : below = 0
     ·rw [if_pos e0, pnt, if_pos e0]
     ·rw [if_neg e0, pnG _ (fun k => by have := (bf e0).2.2.2.2; rw [k] at this; omega)]; exact (bf e0).2.2.1
    ·rw [(fx x).1, pnG _ upt]; exact P.nv
  ·have nk : ∀ j, j = (S x).l ∨ j = (S x).r -> j ≠ 0 -> j ≠ t := fun j hj j0 k => by
    have K := h.up_kid hx hj j0
    exact K.nt (by rcases hj with q | q <;> simp [q]) (by rw [k]; exact hT)
   have K2 : ∀ j, j = (S x).l ∨ j = (S x).r -> j ≠ 0 -> Ki S1 T (prefG G t below) x j := fun j hj j0 => by
    have K := h.up_kid hx hj j0
    exact ⟨K.th, by rw [(fx j).1]; exact K.up, by rw [(fx x).2.2.1]; exact K.b, by rw [(fx x).2.2.2.2]; exact K.a⟩
   have nk' : ∀ j, j = (S x).l ∨ j = (S x).r -> S1 j = S j := fun j hj => by
    by_cases j0 : j = 0
    ·subst j0; exact nx 0 (Ne.symm t0)
    ·exact nx j (nk j hj j0)
   have enk : ∀ j, j = (S x).l ∨ j = (S x).r -> j ≠ 0 -> (prefG G t below).la j = G.la j /\ G.la j ≠ t /\ G.fi j ≠ t := fun j hj j0 => by
    have K := h.up_kid hx hj j0
    have q := h.ends_nt K.th hT (Ne.symm (nk j hj j0))
    exact ⟨laG _ (nk j hj j0), q.1, q.2⟩
   have S1x := nx x e
   refine ⟨fun q => ?_, fun q => ?_, by rw [S1x]; exact Lx.lr, ?_, by rw [pnG x e]; exact Lx.nx, by rw [S1x]; exact Lx.wt, by rw [S1x, nk' _ (.inl rfl), nk' _ (.inr rfl)]; exact Lx.sm, by rw [S1x]; exact Lx.fit, by rw [S1x, nk' _ (.inl rfl), nk' _ (.inr rfl)]; exact Lx.hu, by rw [S1x, pnG x e]; exact Lx.hgc, by rw [S1x, pnG x e]; exact Lx.hgw, by rw [S1x]; exact Lx.id, fun hT1 => ?_⟩
   ·rw [S1x] at q ⊢; exact K2 _ (.inl rfl) q
   ·rw [S1x] at q ⊢; exact K2 _ (.inr rfl) q
   ·rw [S1x]
    show En (prefG G t below) (G.b x) _ _ _
    obtain ⟨a1, a2, a3, a4⟩ := Lx.en
    cases hb : G.b x
    ·rw [hb] at a1 a2 a3 a4
     refine ⟨a1, fun q => ?_, fun q => ?_, fun q => ?_⟩
     ·obtain ⟨k1, k2, k3⟩ := enk _ (.inl rfl) q
      refine ⟨(a2 q).1, ?_⟩
      show (prefG G t below).pn ((prefG G t below).la _) = x
      rw [k1, pnG _ k2]; exact (a2 q).2
     ·show (prefG G t below).la x = x
      rw [laG x e]; exact a3 q
     ·obtain ⟨k1, k2, k3⟩ := enk _ (.inr rfl) q
      refine ⟨?_, ?_⟩
      ·show (prefG G t below).la x = (prefG G t below).la _
       rw [laG x e, k1]; exact (a4 q).1
      ·show (prefG G t below).pn x = G.fi _
       rw [pnG x e]; exact (a4 q).2
    ·rw [hb] at a1 a2 a3 a4
     refine ⟨fun q => ?_, fun q => ?_, a3, fun q => ?_⟩
     ·show (prefG G t below).la x = x
      rw [laG x e]; exact a1 q
     ·obtain ⟨k1, k2, k3⟩ := enk _ (.inl rfl) q
      refine ⟨?_, ?_⟩
      ·show (prefG G t below).la x = (prefG G t below).la _
       rw [laG x e, k1]; exact (a2 q).1
      ·show (prefG G t below).pn x = G.fi _
       rw [pnG x e]; exact (a2 q).2
     ·obtain ⟨k1, k2, k3⟩ := enk _ (.inr rfl) q
      refine ⟨(a4 q).1, ?_⟩
      show (prefG G t below).pn ((prefG G t below).la _) = x
      rw [k1, pnG _ k2]; exact (a4 q).2
   ·rcases (Top1 x hx).1 hT1 with ⟨q1, q2⟩ | q
    ·have Px := Lx.tp q1
     have lx := (h.ends_nt hx hT (Ne.symm e)).1
     refine ⟨Px.b, Px.a, by rw [S1x]; exact Px.fi, by rw [laG x e, pnG _ lx]; exact Px.pn, ?_⟩
     rw [S1x]
     by_cases k : (S x).up = t
     ·rw [k, pnt]
      by_cases e0 : below = 0
      ·rw [if_pos e0]
       have := (h.fi_th hx).1
       show 0 ≠ G.fi x
       omega
      ·rw [if_neg e0]
       exact fun k2 => q2 (h.uniq hx (hb e0).1 q1 (hb e0).2.1 k2.symm)
     ·rw [pnG _ k]; exact Px.nv
    ·subst q
     have K := L.kr x0
     obtain ⟨p1, p2⟩ := pr1 x0
     have f0 : G.fi (S t).r ≠ 0 := by have := (h.fi_th K.th).1; omega
     obtain ⟨g1, g2⟩ := h.ps_pn ht p1 f0
     have lx := (h.ends_nt hx hT (Ne.symm e)).1
     refine ⟨?_, ?_, by rw [S1x, K.up]; exact g2, by rw [laG _ e, pnG _ lx, ← p2]; exact P.pn, ?_⟩
     ·show G.b _ = false
      rw [K.b, P.b, ht2.1]; rfl
     ·show G.a _ = 0
      rw [K.a, P.a, ht2.2]; rfl
     ·rw [S1x, K.up, pnt]
      by_cases e0 : below = 0
      ·rw [if_pos e0]; exact fun k => f0 k.symm
      ·rw [if_neg e0]
       have := (bf e0).2.2.2.1
       rw [p1] at this
       exact fun k => this k.symm
end
end Go.Proofs.Ytjnkgakajenoaaa
namespace Go.Proofs.Ytjnkgakajenoaaa
open Go.RowKit Go.Arb
set_option linter.unusedVariables false
set_option linter.unusedSimpArgs false
set_option maxRecDepth 100000
set_option maxHeartbeats 4000000 in
theorem whole_any (u l r wt wa c s a b gc gw uc uw : Int) (tn : Bool) (w : World) (k1 : -4611686018427387904 <= uc + c /\ uc + c <= 4611686018427387904) (k2 : -4611686018427387904 <= uw + s /\ uw + s <= 4611686018427387904) :
  Calls Try.prog 75 #[.agg #[zi u, zi l, zi r, .bool tn, zi wt, zi wa, zi c, zi s, zi a, zi b, zi gc, zi gw, zi uc, zi uw]] w fun r w' => r = .returned (.agg #[zi (uc + c), zi (uw + s)]) /\ Below w.heap.size w w' := by
 go_enter Try.func75, Try.ntmps75
 go_wp2_with (go_at_call 80; refine (with_any _ _ _ _ _ k1 k2).mono ?_; rintro e w1 ⟨rfl, hb⟩; have hc := (bcell hb).1; have hf := (bcell hb).2)
 refine bodyPost_ret (v := .agg #[zi (uc + c), zi (uw + s)]) (by simp [results, Try.results75, go_sem, hc, hf]) rfl ⟨rfl, ?_⟩
 exact (((b2 w _ _).trans (hb.mono (by simp; omega))).setCell (by simp) _).setCell (by simp) _
end Go.Proofs.Ytjnkgakajenoaaa

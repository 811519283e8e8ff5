/- Part 15 of the texts. -/
import Derived.Test.YtjnkgakajenoaaaS1
import Derived.Test.YtjnkgakajenoaaaS14
import Derived.Test.YtjnkgakajenoaaaS11
namespace Go.Proofs.Ytjnkgakajenoaaa
open Go.RowKit Go.Arb
set_option linter.unusedVariables false
set_option linter.unusedSimpArgs false
set_option maxRecDepth 100000
theorem jn_ab {x y : Sm} (hx : -1099511627776 <= x.a /\ x.a <= 1099511627776 /\ -1099511627776 <= x.b /\ x.b <= 1099511627776) (hy : -1099511627776 <= y.a /\ y.a <= 1099511627776 /\ -1099511627776 <= y.b /\ y.b <= 1099511627776) :
  -1099511627776 <= (jn x y).a /\ (jn x y).a <= 1099511627776 /\ -1099511627776 <= (jn x y).b /\ (jn x y).b <= 1099511627776 := by
 unfold jn; split
 ·exact hy
 ·split
  ·exact hx
  ·simp only; omega
theorem Lc.ab2 {S : Ss} {n : Nat} {T : Tr} {G : Gh} (h : Lc S n T G) (x : Nat) : -1099511627776 <= (S x).sm.a /\ (S x).sm.a <= 1099511627776 /\ -1099511627776 <= (S x).sm.b /\ (S x).sm.b <= 1099511627776 := by
 by_cases hx : Th T x
 ·have F := (h.loc x hx).fit
  have := F.lo; have := F.ab; have := F.hi
  omega
 ·rw [h.out x hx]; simp [Sl.zero, zero]
theorem Lc.all_eq {S : Ss} {n : Nat} {T : Tr} {G : Gh} {t : Nat} (h : Lc S n T G) (ht : Th T t) : jn (lf (jn (S (S t).l).sm (S (S t).r).sm) (S t).wa) (one (S t).wt) = (S t).sm := by
 have a := h.ok (S t).l
 have b := h.ok (S t).r
 rw [(h.loc t ht).sm, lf_jn a b, jn_assoc (ok_lf a _) (ok_lf b _) (ok_one _), jn_comm (ok_lf b _) (ok_one _), ← jn_assoc (ok_lf a _) (ok_one _) (ok_lf b _)]
theorem joinK (x y : Sm) (w : World) (k : -4611686018427387904 <= x.c + y.c /\ x.c + y.c <= 4611686018427387904 /\ -4611686018427387904 <= x.s + y.s /\ x.s + y.s <= 4611686018427387904) :
  Calls Try.prog 83 #[.agg #[zi x.c, zi x.s, zi x.a, zi x.b], .agg #[zi y.c, zi y.s, zi y.a, zi y.b]] w fun r w' => r = .returned (.agg #[zi (jn x y).c, zi (jn x y).s, zi (jn x y).a, zi (jn x y).b]) /\ Below w.heap.size w w' :=
 join_any _ _ _ _ _ _ _ _ w k.1 k.2.1 k.2.2.1 k.2.2.2
theorem fitsT (y : Int) (w : World) (hy : fitB y = true) : Calls Try.prog 52 #[zi y] w fun r w' => r = .returned (.bool true) /\ Below w.heap.size w w' := by
 refine (fits_any y w).mono ?_
 rintro e w' ⟨rfl, rfl⟩
 exact ⟨by rw [hy], Below.refl _ _⟩
structure Su (S : Ss) (t : Nat) : Prop where
 j1 : ∀ w, Calls Try.prog 83 #[.agg #[zi (S (S t).l).sm.c, zi (S (S t).l).sm.s, zi (S (S t).l).sm.a, zi (S (S t).l).sm.b], .agg #[zi (S (S t).r).sm.c, zi (S (S t).r).sm.s, zi (S (S t).r).sm.a, zi (S (S t).r).sm.b]] w fun r w' => r = .returned (.agg #[zi (jn (S (S t).l).sm (S (S t).r).sm).c, zi (jn (S (S t).l).sm (S (S t).r).sm).s, zi (jn (S (S t).l).sm (S (S t).r).sm).a, zi (jn (S (S t).l).sm (S (S t).r).sm).b]) /\ Below w.heap.size w w'
 li : ∀ w, Calls Try.prog 86 #[.agg #[zi (jn (S (S t).l).sm (S (S t).r).sm).c, zi (jn (S (S t).l).sm (S (S t).r).sm).s, zi (jn (S (S t).l).sm (S (S t).r).sm).a, zi (jn (S (S t).l).sm (S (S t).r).sm).b], zi (S t).wa] w fun r w' => r = .returned (.agg #[zi (lf (jn (S (S t).l).sm (S (S t).r).sm) (S t).wa).c, zi (lf (jn (S (S t).l).sm (S (S t).r).sm) (S t).wa).s, zi (lf (jn (S (S t).l).sm (S (S t).r).sm) (S t).wa).a, zi (lf (jn (S (S t).l).sm (S (S t).r).sm) (S t).wa).b]) /\ Below w.heap.size w w'
 j2 : ∀ w, Calls Try.prog 83 #[.agg #[zi (lf (jn (S (S t).l).sm (S (S t).r).sm) (S t).wa).c, zi (lf (jn (S (S t).l).sm (S (S t).r).sm) (S t).wa).s, zi (lf (jn (S (S t).l).sm (S (S t).r).sm) (S t).wa).a, zi (lf (jn (S (S t).l).sm (S (S t).r).sm) (S t).wa).b], .agg #[zi 1, zi (S t).wt, zi (S t).wt, zi (S t).wt]] w fun r w' => r = .returned (.agg #[zi (S t).sm.c, zi (S t).sm.s, zi (S t).sm.a, zi (S t).sm.b]) /\ Below w.heap.size w w'
 fa : fitB (S t).sm.a = true
 fb : fitB (S t).sm.b = true
 h1 : ∀ w, Calls Try.prog 80 #[.agg #[zi (S t).hg.c, zi (S t).hg.w], .agg #[zi (S (S t).l).hu.c, zi (S (S t).l).hu.w]] w fun r w' => r = .returned (.agg #[zi ((S t).hg.c + (S (S t).l).hu.c), zi ((S t).hg.w + (S (S t).l).hu.w)]) /\ Below w.heap.size w w'
 h2 : ∀ w, Calls Try.prog 80 #[.agg #[zi ((S t).hg.c + (S (S t).l).hu.c), zi ((S t).hg.w + (S (S t).l).hu.w)], .agg #[zi (S (S t).r).hu.c, zi (S (S t).r).hu.w]] w fun r w' => r = .returned (.agg #[zi (S t).hu.c, zi (S t).hu.w]) /\ Below w.heap.size w w'
 id : ((S t).wa = 0 /\ (S t).tn = false) ∨ ((S t).wa = 0 /\ (S t).tn = true /\ 0 < (jn (S (S t).l).sm (S (S t).r).sm).c) ∨ (¬ (S t).wa = 0 /\ 0 < (jn (S (S t).l).sm (S (S t).r).sm).c)
set_option maxHeartbeats 1000000 in
theorem Lc.su {S : Ss} {n : Nat} {T : Tr} {G : Gh} {t : Nat} (h : Lc S n T G) (ht : Th T t) : Su S t := by
 have L := h.loc t ht
 have bl := h.bz (S t).l
 have br := h.bz (S t).r
 have bt := h.bz t
 have c1 := bl.c; have c2 := br.c; have c3 := bt.c
 have s1 := bl.s; have s2 := br.s; have s3 := bt.s
 have d1 := h.sm_bd (S t).l
 have d2 := h.sm_bd (S t).r
 have ec : (jn (S (S t).l).sm (S (S t).r).sm).c = (S (S t).l).sm.c + (S (S t).r).sm.c := jn_c
 have es : (jn (S (S t).l).sm (S (S t).r).sm).s = (S (S t).l).sm.s + (S (S t).r).sm.s := jn_s (h.ok _) (h.ok _)
 have ct := h.cc ht
 have wb := h.wa_bd t
 have ab := jn_ab (h.ab2 (S t).l) (h.ab2 (S t).r)
 have okb : (jn (S (S t).l).sm (S (S t).r).sm).ok := ok_jn (h.ok _) (h.ok _)
 have ae := h.all_eq ht
 have hu := L.hu
 have hid : ((S t).wa = 0 /\ (S t).tn = false) ∨ ((S t).wa = 0 /\ (S t).tn = true /\ 0 < (jn (S (S t).l).sm (S (S t).r).sm).c) ∨ (¬ (S t).wa = 0 /\ 0 < (jn (S (S t).l).sm (S (S t).r).sm).c) := by
  have hp : ¬ ((S t).wa = 0 /\ (S t).tn = false) -> 0 < (jn (S (S t).l).sm (S (S t).r).sm).c := fun hn => by
   rw [ec]
   by_cases e1 : (S t).l = 0
   ·by_cases e2 : (S t).r = 0
    ·have := L.id e1 e2; exact absurd ⟨this.2, this.1⟩ hn
    ·have := (h.loc _ (L.kr e2).th).fit.c1; omega
   ·have := (h.loc _ (L.kl e1).th).fit.c1; omega
  by_cases e1 : (S t).wa = 0
  ·cases e2 : (S t).tn
   ·exact .inl ⟨e1, rfl⟩
   ·exact .inr (.inl ⟨e1, rfl, hp (by rw [e2]; simp)⟩)
  ·exact .inr (.inr ⟨e1, hp (fun q => e1 q.1)⟩)
 have J1 := fun w => joinK (S (S t).l).sm (S (S t).r).sm w (by omega)
 have fit := L.fit
 have f1 := fit.lo; have f2 := fit.ab; have f3 := fit.hi
 have qc : 0 <= (jn (S (S t).l).sm (S (S t).r).sm).c /\ (jn (S (S t).l).sm (S (S t).r).sm).c <= 1048575 := by omega
 have qs : -1152921504606846976 <= (jn (S (S t).l).sm (S (S t).r).sm).s /\ (jn (S (S t).l).sm (S (S t).r).sm).s <= 1152921504606846976 := by omega
 generalize hbe : jn (S (S t).l).sm (S (S t).r).sm = be at *
 have m1 : be.c * -2199023255552 <= be.c * (S t).wa := Int.mul_le_mul_of_nonneg_left wb.1 qc.1
 have m2 : be.c * (S t).wa <= be.c * 2199023255552 := Int.mul_le_mul_of_nonneg_left wb.2 qc.1
 have LI := fun w => lift_any be.c be.s be.a be.b (S t).wa (be.c * (S t).wa) w rfl (by omega) (by omega) (by omega) (by omega) (by omega) (by omega) (by omega) (by omega)
 have e2c : (lf be (S t).wa).c + (one (S t).wt).c = (S t).sm.c := by rw [← ae, jn_c]
 have e2s : (lf be (S t).wa).s + (one (S t).wt).s = (S t).sm.s := by rw [← ae, jn_s (ok_lf okb _) (ok_one _)]
 have J2 := fun w => joinK (lf be (S t).wa) (one (S t).wt) w (by omega)
 rw [ae] at J2
 have gc := bt.gc; have gw := bt.gw; have u1 := bl.uc; have u2 := bl.uw; have u3 := br.uc; have u4 := br.uw
 have ec2 : (S t).hu.c = (S t).hg.c + (S (S t).l).hu.c + (S (S t).r).hu.c := by rw [hu]; simp only; omega
 have ew2 : (S t).hu.w = (S t).hg.w + (S (S t).l).hu.w + (S (S t).r).hu.w := by rw [hu]; simp only; omega
 clear m1 m2 e2c e2s
 subst hbe
 refine ⟨J1, LI, J2, by simp only [fitB, decide_eq_true_eq]; omega, by simp only [fitB, decide_eq_true_eq]; omega, fun w => with_any _ _ _ _ w (by omega) (by omega), fun w => ?_, hid⟩
 rw [ec2, ew2]
 exact with_any _ _ _ _ w (by omega) (by omega)
def O93_2_0 : Oper := ⟨some 18, .move (.tmp 0), 23, "check.go:70", #[], none⟩
def O93_2_1 : Oper := ⟨some 19, .nilCheck (.tmp 18), 0, "check.go:70", #[⟨0, .data⟩], none⟩
def O93_2_2 : Oper := ⟨some 20, .fieldAddr 66 (.tmp 19) 1, 0, "check.go:70", #[⟨1, .data⟩], none⟩
def O93_2_3 : Oper := ⟨some 21, .load 64 (.tmp 20), 64, "check.go:70", #[⟨2, .data⟩], none⟩
def O93_2_4 : Oper := ⟨some 22, .fieldAddr 75 (.tmp 5) 1, 0, "check.go:70", #[], none⟩
def O93_2_5 : Oper := ⟨some 23, .load 3 (.tmp 22), 3, "check.go:70", #[⟨4, .data⟩], none⟩
def O93_2_6 : Oper := ⟨some 24, .indexAddr 64 (.tmp 21) (.tmp 23), 0, "check.go:70", #[⟨3, .data⟩, ⟨5, .data⟩], none⟩
def O93_2_7 : Oper := ⟨some 25, .load 75 (.tmp 24), 75, "check.go:70", #[⟨6, .data⟩], none⟩
def O93_2_8 : Oper := ⟨some 26, .move (.tmp 0), 23, "check.go:70", #[⟨18, (Ground.gcOnly Departure.lateStores)⟩], none⟩
def O93_2_9 : Oper := ⟨some 27, .nilCheck (.tmp 26), 0, "check.go:70", #[⟨8, .data⟩, ⟨18, (Ground.gcOnly Departure.lateStores)⟩], none⟩
def O93_2_10 : Oper := ⟨some 28, .fieldAddr 66 (.tmp 27) 1, 0, "check.go:70", #[⟨9, .data⟩, ⟨18, (Ground.gcOnly Departure.lateStores)⟩], none⟩
def O93_2_11 : Oper := ⟨some 29, .load 64 (.tmp 28), 64, "check.go:70", #[⟨10, .data⟩, ⟨18, (Ground.gcOnly Departure.lateStores)⟩], none⟩
def O93_2_12 : Oper := ⟨some 30, .fieldAddr 75 (.tmp 5) 2, 0, "check.go:70", #[⟨18, (Ground.gcOnly Departure.lateStores)⟩], none⟩
def O93_2_13 : Oper := ⟨some 31, .load 3 (.tmp 30), 3, "check.go:70", #[⟨12, .data⟩, ⟨18, (Ground.gcOnly Departure.lateStores)⟩], none⟩
def O93_2_14 : Oper := ⟨some 32, .indexAddr 64 (.tmp 29) (.tmp 31), 0, "check.go:70", #[⟨11, .data⟩, ⟨13, .data⟩, ⟨18, (Ground.gcOnly Departure.lateStores)⟩], none⟩
def O93_2_15 : Oper := ⟨some 33, .load 75 (.tmp 32), 75, "check.go:70", #[⟨14, .data⟩, ⟨18, (Ground.gcOnly Departure.lateStores)⟩], none⟩
def O93_2_16 : Oper := ⟨some 6, .alloc 75, 0, "check.go:70", #[], none⟩
def O93_2_17 : Oper := ⟨some 7, .alloc 75, 0, "check.go:70", #[], none⟩
def O93_2_18 : Oper := ⟨none, .store 75 (.tmp 6) (.tmp 25), 0, "check.go:70", #[⟨16, .data⟩, ⟨7, .data⟩, ⟨0, .phase⟩, ⟨1, .phase⟩, ⟨2, .phase⟩, ⟨3, .phase⟩, ⟨4, .phase⟩, ⟨5, .phase⟩, ⟨6, .phase⟩, ⟨7, .phase⟩, ⟨8, (Ground.textOnly Departure.lateStores)⟩, ⟨9, (Ground.textOnly Departure.lateStores)⟩, ⟨10, (Ground.textOnly Departure.lateStores)⟩, ⟨11, (Ground.textOnly Departure.lateStores)⟩, ⟨12, (Ground.textOnly Departure.lateStores)⟩, ⟨13, (Ground.textOnly Departure.lateStores)⟩, ⟨14, (Ground.textOnly Departure.lateStores)⟩, ⟨15, (Ground.textOnly Departure.lateStores)⟩, ⟨16, .phase⟩, ⟨17, .phase⟩], none⟩
def O93_2_19 : Oper := ⟨none, .store 75 (.tmp 7) (.tmp 33), 0, "check.go:70", #[⟨17, .data⟩, ⟨15, .data⟩, ⟨18, .chain⟩, ⟨0, .phase⟩, ⟨1, .phase⟩, ⟨2, .phase⟩, ⟨3, .phase⟩, ⟨4, .phase⟩, ⟨5, .phase⟩, ⟨6, .phase⟩, ⟨7, .phase⟩, ⟨8, .phase⟩, ⟨9, .phase⟩, ⟨10, .phase⟩, ⟨11, .phase⟩, ⟨12, .phase⟩, ⟨13, .phase⟩, ⟨14, .phase⟩, ⟨15, .phase⟩, ⟨16, .phase⟩, ⟨17, .phase⟩, ⟨18, .phase⟩], none⟩
def OPS93_2 : List Oper := [O93_2_0, O93_2_1, O93_2_2, O93_2_3, O93_2_4, O93_2_5, O93_2_6, O93_2_7, O93_2_8, O93_2_9, O93_2_10, O93_2_11, O93_2_12, O93_2_13, O93_2_14, O93_2_15, O93_2_16, O93_2_17, O93_2_18, O93_2_19]
def O93_4_0 : Oper := ⟨some 39, .load 34 (.tmp 8), 34, "check.go:72", #[], none⟩
def O93_4_1 : Oper := ⟨some 40, .fieldAddr 75 (.tmp 5) 5, 0, "check.go:72", #[], none⟩
def O93_4_2 : Oper := ⟨some 41, .load 3 (.tmp 40), 3, "check.go:72", #[⟨1, .data⟩], none⟩
def O93_4_3 : Oper := ⟨some 42, .call { callee := (.value (.func 86)), args := #[(.tmp 39), (.tmp 41)], argTypes := #[34, 3] }, 34, "check.go:72", #[⟨0, .data⟩, ⟨2, .data⟩], none⟩
def O93_4_4 : Oper := ⟨some 43, .fieldAddr 75 (.tmp 5) 4, 0, "check.go:72", #[], none⟩
def O93_4_5 : Oper := ⟨some 44, .load 3 (.tmp 43), 3, "check.go:72", #[⟨4, .data⟩], none⟩
def O93_4_6 : Oper := ⟨some 45, .call { callee := (.value (.func 54)), args := #[(.tmp 44)], argTypes := #[3] }, 34, "check.go:72", #[⟨5, .data⟩, ⟨3, .chain⟩], none⟩
def O93_4_7 : Oper := ⟨some 46, .call { callee := (.value (.func 83)), args := #[(.tmp 42), (.tmp 45)], argTypes := #[34, 34] }, 34, "check.go:72", #[⟨3, .data⟩, ⟨6, .data⟩, ⟨6, .chain⟩], none⟩
def O93_4_8 : Oper := ⟨some 9, .alloc 34, 0, "check.go:72", #[], none⟩
def O93_4_9 : Oper := ⟨none, .store 34 (.tmp 9) (.tmp 46), 0, "check.go:72", #[⟨8, .data⟩, ⟨7, .data⟩, ⟨7, .chain⟩, ⟨0, .phase⟩, ⟨1, .phase⟩, ⟨2, .phase⟩, ⟨3, .phase⟩, ⟨4, .phase⟩, ⟨5, .phase⟩, ⟨6, .phase⟩, ⟨7, .phase⟩, ⟨8, .phase⟩], none⟩
def OPS93_4 : List Oper := [O93_4_0, O93_4_1, O93_4_2, O93_4_3, O93_4_4, O93_4_5, O93_4_6, O93_4_7, O93_4_8, O93_4_9]
def O93_8_0 : Oper := ⟨some 71, .fieldAddr 75 (.tmp 5) 8, 0, "check.go:77", #[], none⟩
def O93_8_1 : Oper := ⟨some 72, .load 73 (.tmp 71), 73, "check.go:77", #[⟨0, .data⟩], none⟩
def O93_8_2 : Oper := ⟨some 73, .fieldAddr 75 (.tmp 5) 7, 0, "check.go:77", #[], none⟩
def O93_8_3 : Oper := ⟨some 74, .load 73 (.tmp 73), 73, "check.go:77", #[⟨2, .data⟩], none⟩
def O93_8_4 : Oper := ⟨some 75, .fieldAddr 75 (.tmp 6) 8, 0, "check.go:77", #[], none⟩
def O93_8_5 : Oper := ⟨some 76, .load 73 (.tmp 75), 73, "check.go:77", #[⟨4, .data⟩], none⟩
def O93_8_6 : Oper := ⟨some 77, .call { callee := (.value (.func 80)), args := #[(.tmp 74), (.tmp 76)], argTypes := #[73, 73] }, 73, "check.go:77", #[⟨3, .data⟩, ⟨5, .data⟩], none⟩
def O93_8_7 : Oper := ⟨some 78, .fieldAddr 75 (.tmp 7) 8, 0, "check.go:77", #[], none⟩
def O93_8_8 : Oper := ⟨some 79, .load 73 (.tmp 78), 73, "check.go:77", #[⟨7, .data⟩], none⟩
def O93_8_9 : Oper := ⟨some 80, .call { callee := (.value (.func 80)), args := #[(.tmp 77), (.tmp 79)], argTypes := #[73, 73] }, 73, "check.go:77", #[⟨6, .data⟩, ⟨8, .data⟩, ⟨6, .chain⟩], none⟩
def O93_8_10 : Oper := ⟨some 81, .binOp .eql 73 (.tmp 72) (.tmp 80) 73, 4, "check.go:77", #[⟨1, .data⟩, ⟨9, .data⟩], none⟩
def O93_8_11 : Oper := ⟨some 82, .move (.tmp 81), 4, "check.go:77", #[⟨10, .data⟩, ⟨9, .chain⟩], none⟩
def O93_8_12 : Oper := ⟨some 83, .move (.tmp 10), 4, "check.go:77", #[⟨11, .guard⟩], some (11, true)⟩
def O93_8_13 : Oper := ⟨some 84, .move (.tmp 83), 4, "check.go:77", #[⟨12, .data⟩, ⟨11, .chain⟩, ⟨11, .guard⟩], some (11, true)⟩
def O93_8_14 : Oper := ⟨some 85, .fieldAddr 34 (.tmp 8) 0, 0, "check.go:77", #[⟨13, .guard⟩], some (13, false)⟩
def O93_8_15 : Oper := ⟨some 86, .load 3 (.tmp 85), 3, "check.go:77", #[⟨14, .data⟩, ⟨13, .guard⟩], some (13, false)⟩
def O93_8_16 : Oper := ⟨some 87, .binOp .gtr 3 (.tmp 86) (.const (zi 0)) 3, 4, "check.go:77", #[⟨15, .data⟩, ⟨13, .guard⟩], some (13, false)⟩
def O93_8_17 : Oper := ⟨some 88, .pick (.tmp 84) (.const (.bool true)) (.tmp 87), 4, "check.go:77", #[⟨13, .data⟩, ⟨16, .data⟩, ⟨11, .guard⟩], some (11, true)⟩
def O93_8_18 : Oper := ⟨some 89, .pick (.tmp 82) (.tmp 88) (.const (.bool false)), 4, "check.go:77", #[⟨11, .data⟩, ⟨17, .data⟩], none⟩
def O93_8_19 : Oper := ⟨some 4, .assign (.tmp 89), 4, "check.go:77", #[⟨18, .data⟩, ⟨13, .chain⟩, ⟨0, .phase⟩, ⟨1, .phase⟩, ⟨2, .phase⟩, ⟨3, .phase⟩, ⟨4, .phase⟩, ⟨5, .phase⟩, ⟨6, .phase⟩, ⟨7, .phase⟩, ⟨8, .phase⟩, ⟨9, .phase⟩, ⟨10, .phase⟩, ⟨11, .phase⟩, ⟨12, .phase⟩, ⟨13, .phase⟩, ⟨14, .phase⟩, ⟨15, .phase⟩, ⟨16, .phase⟩, ⟨17, .phase⟩, ⟨18, .phase⟩], none⟩
def OPS93_8 : List Oper := [O93_8_0, O93_8_1, O93_8_2, O93_8_3, O93_8_4, O93_8_5, O93_8_6, O93_8_7, O93_8_8, O93_8_9, O93_8_10, O93_8_11, O93_8_12, O93_8_13, O93_8_14, O93_8_15, O93_8_16, O93_8_17, O93_8_18, O93_8_19]
set_option maxHeartbeats 4000000 in
theorem sumFitsL {p g n cap room t : Nat} {T : Tr} {S : Ss} {G : Gh} {w : World} (h : Pool w p g n cap room S) (L : Lc S n T G) (ht : Th T t) :
  Calls Try.prog 93 #[zp p 0, zi t] w fun e w' => e = .returned (.bool true) /\ Keep [g] w w' /\ Pool w' p g n cap room S := by
 have FH := hide (Fr.start h)
 have LH := hide L
 have SU := hide (L.su ht)
 obtain ⟨k1, k2, _, _⟩ := L.kids_lt ht
 have lt1 := L.lt t ht
 clear h L ht
 have e1 : (0 : Int) <= (t : Int) := by omega
 have e2 : (t : Int) < (n : Int) := by omega
 have e3 : (0 : Int) <= ((S t).l : Int) := by omega
 have e4 : ((S t).l : Int) < (n : Int) := by omega
 have e5 : (0 : Int) <= ((S t).r : Int) := by omega
 have e6 : ((S t).r : Int) < (n : Int) := by omega
 refine callsK (n := 90) (L := [(0, zp p 0), (1, zi t)]) Try.func93 rfl Try.ntmps93 rfl rfl (fun a0 K0 => ?_)
 refine seqR ?_
 refine lC K0 fun a1 K1 => ?_
 refine nilN ?_
 refine seqR ?_
 refine lM K1 fun a2 K2 => ?_
 clear K1
 refine lN K2 fun a3 K3 => ?_
 clear K2
 refine lF K3 FA66_1 fun a4 K4 => ?_
 clear K3
 refine lT (.slice (some ⟨g, 0, none⟩) n cap) w K4 (want_none rfl) (fun ev E => ?_) fun a5 K5 => ?_
 ·obtain ⟨c0, c1, _⟩ := (unhide FH).po.head; have E13 := E.tmp 13 _ rfl; clear E; clear FH LH SU; (try simp only [slZ, smZ, putF, slV, smL, msL] at *); go_simp
 clear K4
 refine lM K5 fun a6 K6 => ?_
 clear K5
 refine lT (zp g (t * 14)) w K6 (want_none rfl) (fun ev E => ?_) fun a7 K7 => ?_
 ·have E14 := E.tmp 14 _ rfl; have E15 := E.tmp 15 _ rfl; clear E; clear FH LH SU; (try simp only [slZ, smZ, putF, slV, smL, msL] at *); go_simp
 clear K6
 refine lT (.agg #[zi ((S t).up : Int), zi ((S t).l : Int), zi ((S t).r : Int), .bool (S t).tn, zi (S t).wt, zi (S t).wa, zi (S t).sm.c, zi (S t).sm.s, zi (S t).sm.a, zi (S t).sm.b, zi (S t).hg.c, zi (S t).hg.w, zi (S t).hu.c, zi (S t).hu.w]) w K7 (want_none rfl) (fun ev E => ?_) fun a8 K8 => ?_
 ·obtain ⟨s0, s1, s2, s3, s4, s5, s6, s7, s8, s9, s10, s11, s12, s13⟩ := (unhide FH).po.slot (t := t) (by assumption); have E16 := E.tmp 16 _ rfl; clear E; clear FH LH SU; (try simp only [slZ, smZ, putF, slV, smL, msL] at *); go_simp
 clear K7
 refine lT (zp w.heap.size 0) (w.alloc (.cells slZ 75)) K8 (want_none rfl) (fun ev E => ?_) fun a9 K9 => ?_
 ·clear E; clear FH LH SU; (try simp only [slZ, smZ, putF, slV, smL, msL] at *); go_simp
 clear K8
 have F2 := hide ((unhide FH).alloc (.cells slZ 75))
 clear FH
 have FH := F2
 clear F2
 generalize (w.alloc (.cells slZ 75)) = Ab5 at *
 obtain ⟨b5, hd⟩ : ∃ z, z = w.heap.size := ⟨_, rfl⟩
 rw [← hd] at FH K9
 clear hd
 refine lstore (w' := (putF Ab5 b5 0 (slV (S t)))) K9 rfl (want_none rfl) (fun ev E => ?_) ?_
 ·have q0 := (unhide FH).box (List.Mem.head _) 0; have f0 := q0.2 (by decide); replace q0 := q0.1; change _ = some (zi 0 : Value) at q0; have q1 := (unhide FH).box (List.Mem.head _) 1; have f1 := q1.2 (by decide); replace q1 := q1.1; change _ = some (zi 0 : Value) at q1; have q2 := (unhide FH).box (List.Mem.head _) 2; have f2 := q2.2 (by decide); replace q2 := q2.1; change _ = some (zi 0 : Value) at q2; have q3 := (unhide FH).box (List.Mem.head _) 3; have f3 := q3.2 (by decide); replace q3 := q3.1; change _ = some (.bool false : Value) at q3; have q4 := (unhide FH).box (List.Mem.head _) 4; have f4 := q4.2 (by decide); replace q4 := q4.1; change _ = some (zi 0 : Value) at q4; have q5 := (unhide FH).box (List.Mem.head _) 5; have f5 := q5.2 (by decide); replace q5 := q5.1; change _ = some (zi 0 : Value) at q5; have q6 := (unhide FH).box (List.Mem.head _) 6; have f6 := q6.2 (by decide); replace q6 := q6.1; change _ = some (zi 0 : Value) at q6; have q7 := (unhide FH).box (List.Mem.head _) 7; have f7 := q7.2 (by decide); replace q7 := q7.1; change _ = some (zi 0 : Value) at q7; have q8 := (unhide FH).box (List.Mem.head _) 8; have f8 := q8.2 (by decide); replace q8 := q8.1; change _ = some (zi 0 : Value) at q8; have q9 := (unhide FH).box (List.Mem.head _) 9; have f9 := q9.2 (by decide); replace q9 := q9.1; change _ = some (zi 0 : Value) at q9; have q10 := (unhide FH).box (List.Mem.head _) 10; have f10 := q10.2 (by decide); replace q10 := q10.1; change _ = some (zi 0 : Value) at q10; have q11 := (unhide FH).box (List.Mem.head _) 11; have f11 := q11.2 (by decide); replace q11 := q11.1; change _ = some (zi 0 : Value) at q11; have q12 := (unhide FH).box (List.Mem.head _) 12; have f12 := q12.2 (by decide); replace q12 := q12.1; change _ = some (zi 0 : Value) at q12; have q13 := (unhide FH).box (List.Mem.head _) 13; have f13 := q13.2 (by decide); replace q13 := q13.1; change _ = some (zi 0 : Value) at q13; have E5 := E.tmp 5 _ rfl; have E17 := E.tmp 17 _ rfl; clear E; clear FH LH SU; (try simp only [slZ, smZ, putF, slV, smL, msL] at *); go_simp
 have F2 := hide ((unhide FH).putF (0) (slV (S t)))
 clear FH
 have FH := F2
 clear F2
 generalize (putF Ab5 b5 0 (slV (S t))) = V1 at *
 rw [setAll_slZ] at FH
 refine nilN ?_
 refine seqN ?_
 have K11 : Kn _ 90 [(0, zp p 0), (1, zi t), (5, zp b5 0)] := K9.less ⟨rfl, rfl, rfl, trivial⟩
 clear K9
 have FD := (unhide FH).drew
 obtain ⟨V, hV⟩ : ∃ V : (Nat × Nat) -> Nat -> Value, V = fun gg k => ([zp p 0, zp p 0, zp p 1, .slice (some ⟨g, 0, none⟩) n cap, zp b5 1, zi ((S t).l : Int), zp g ((S t).l * 14), .agg #[zi ((S (S t).l).up : Int), zi ((S (S t).l).l : Int), zi ((S (S t).l).r : Int), .bool (S (S t).l).tn, zi (S (S t).l).wt, zi (S (S t).l).wa, zi (S (S t).l).sm.c, zi (S (S t).l).sm.s, zi (S (S t).l).sm.a, zi (S (S t).l).sm.b, zi (S (S t).l).hg.c, zi (S (S t).l).hg.w, zi (S (S t).l).hu.c, zi (S (S t).l).hu.w], zp p 0, zp p 0, zp p 1, .slice (some ⟨g, 0, none⟩) n cap, zp b5 2, zi ((S t).r : Int), zp g ((S t).r * 14), .agg #[zi ((S (S t).r).up : Int), zi ((S (S t).r).l : Int), zi ((S (S t).r).r : Int), .bool (S (S t).r).tn, zi (S (S t).r).wt, zi (S (S t).r).wa, zi (S (S t).r).sm.c, zi (S (S t).r).sm.s, zi (S (S t).r).sm.a, zi (S (S t).r).sm.b, zi (S (S t).r).hg.c, zi (S (S t).r).hg.w, zi (S (S t).r).hu.c, zi (S (S t).r).hu.w], zp gg.1 0, zp gg.2 0, undef, undef] : List Value).getD k undef := ⟨_, rfl⟩
 have vv : ∀ gg k, V gg k = ([zp p 0, zp p 0, zp p 1, .slice (some ⟨g, 0, none⟩) n cap, zp b5 1, zi ((S t).l : Int), zp g ((S t).l * 14), .agg #[zi ((S (S t).l).up : Int), zi ((S (S t).l).l : Int), zi ((S (S t).l).r : Int), .bool (S (S t).l).tn, zi (S (S t).l).wt, zi (S (S t).l).wa, zi (S (S t).l).sm.c, zi (S (S t).l).sm.s, zi (S (S t).l).sm.a, zi (S (S t).l).sm.b, zi (S (S t).l).hg.c, zi (S (S t).l).hg.w, zi (S (S t).l).hu.c, zi (S (S t).l).hu.w], zp p 0, zp p 0, zp p 1, .slice (some ⟨g, 0, none⟩) n cap, zp b5 2, zi ((S t).r : Int), zp g ((S t).r * 14), .agg #[zi ((S (S t).r).up : Int), zi ((S (S t).r).l : Int), zi ((S (S t).r).r : Int), .bool (S (S t).r).tn, zi (S (S t).r).wt, zi (S (S t).r).wa, zi (S (S t).r).sm.c, zi (S (S t).r).sm.s, zi (S (S t).r).sm.a, zi (S (S t).r).sm.b, zi (S (S t).r).hg.c, zi (S (S t).r).hg.w, zi (S (S t).r).hu.c, zi (S (S t).r).hu.w], zp gg.1 0, zp gg.2 0, undef, undef] : List Value).getD k undef := fun _ _ => by rw [hV]
 have HV := hide (And.intro True.intro hV)
 clear hV
 show (Code.region 2 OPS93_2.toArray true).wp _ _ _ _
 refine wp_region_once (A := Nat × Nat) (V := V) (J := fun gg f W => Fr w W p g n cap room S ((bif f 16 then [(gg.1, .cells (bif f 18 then slC (S (S t).l) else slZ) 75 (0, 0))] else []) ++ ((bif f 17 then [(gg.2, .cells (bif f 19 then slC (S (S t).r) else slZ) 75 (0, 0))] else []) ++ [(b5, .cells (slC (S t)) 75 (0, 0))]))) (0, 0) 20 (by kernel_rfl) (by kernel_rfl) K11 (FD) (by kernel_rfl) ?_ (fun gg f a9 W9 hf hk hj => ?_)
 ·clear FH FD K11
  refine obsC (j := 1) (m := 19) rfl rfl ?_ ?_
  ·exact ob_copy (o := O93_2_0) (u := 0) rfl rfl (fun gg => ⟨.inr ⟨by rw [vv]; rfl, by kernel_rfl⟩, trivial⟩) (.inl ⟨rfl, rfl⟩) (fun _ _ _ h => h)
  refine obsC (j := 2) (m := 18) rfl rfl ?_ ?_
  ·refine ob_look (o := O93_2_1) rfl (fun gg => [(18, zp p 0)]) (fun gg => ⟨.inl ⟨0, by kernel_rfl, rfl, vv gg 0⟩, trivial⟩) (.inl ⟨rfl, rfl⟩) (fun _ _ _ h => h) (fun gg f W ev hJ hd hn E => ?_)
   rw [show V gg 1 = zp p 0 from vv gg 1]; clear hJ hd hn; have E18 := E.tmp 18 _ rfl; clear E; clear vv HV LH SU; unfold O93_2_1; (try simp only [slZ, smZ, putF, slV, smL, msL] at *); go_simp
  refine obsC (j := 3) (m := 17) rfl rfl ?_ ?_
  ·refine ob_look (o := O93_2_2) rfl (fun gg => [(19, zp p 0)]) (fun gg => ⟨.inl ⟨1, by kernel_rfl, rfl, vv gg 1⟩, trivial⟩) (.inl ⟨rfl, rfl⟩) (fun _ _ _ h => h) (fun gg f W ev hJ hd hn E => ?_)
   rw [show V gg 2 = zp p 1 from vv gg 2]; clear hJ hd hn; have E19 := E.tmp 19 _ rfl; clear E; clear vv HV LH SU; unfold O93_2_2; (try simp only [slZ, smZ, putF, slV, smL, msL] at *); go_simp
  refine obsC (j := 4) (m := 16) rfl rfl ?_ ?_
  ·refine ob_look (o := O93_2_3) rfl (fun gg => [(20, zp p 1)]) (fun gg => ⟨.inl ⟨2, by kernel_rfl, rfl, vv gg 2⟩, trivial⟩) (.inl ⟨rfl, rfl⟩) (fun _ _ _ h => h) (fun gg f W ev hJ hd hn E => ?_)
   rw [show V gg 3 = .slice (some ⟨g, 0, none⟩) n cap from vv gg 3]; have hJ9 := hJ; obtain ⟨c0, c1, _⟩ := hJ9.po.head; clear hJ9; clear hJ hd hn; have E20 := E.tmp 20 _ rfl; clear E; clear vv HV LH SU; unfold O93_2_3; (try simp only [slZ, smZ, putF, slV, smL, msL] at *); go_simp
  refine obsC (j := 5) (m := 15) rfl rfl ?_ ?_
  ·refine ob_look (o := O93_2_4) rfl (fun gg => [(5, zp b5 0)]) (fun gg => ⟨.inr ⟨rfl, by kernel_rfl⟩, trivial⟩) (.inl ⟨rfl, rfl⟩) (fun _ _ _ h => h) (fun gg f W ev hJ hd hn E => ?_)
   rw [show V gg 4 = zp b5 1 from vv gg 4]; clear hJ hd hn; have E5 := E.tmp 5 _ rfl; clear E; clear vv HV LH SU; unfold O93_2_4; (try simp only [slZ, smZ, putF, slV, smL, msL] at *); go_simp
  refine obsC (j := 6) (m := 14) rfl rfl ?_ ?_
  ·refine ob_look (o := O93_2_5) rfl (fun gg => [(22, zp b5 1)]) (fun gg => ⟨.inl ⟨4, by kernel_rfl, rfl, vv gg 4⟩, trivial⟩) (.inl ⟨rfl, rfl⟩) (fun _ _ _ h => h) (fun gg f W ev hJ hd hn E => ?_)
   rw [show V gg 5 = zi ((S t).l : Int) from vv gg 5]; have hJ9 := hJ; have q0 := (hJ9.box (List.mem_append_right _ (List.mem_append_right _ (List.Mem.head _))) 1).1; change _ = some (zi ((S t).l : Int) : Value) at q0; clear hJ9; clear hJ hd hn; have E22 := E.tmp 22 _ rfl; clear E; clear vv HV LH SU; unfold O93_2_5; (try simp only [slZ, smZ, putF, slV, smL, msL] at *); go_simp
  refine obsC (j := 7) (m := 13) rfl rfl ?_ ?_
  ·refine ob_look (o := O93_2_6) rfl (fun gg => [(21, .slice (some ⟨g, 0, none⟩) n cap), (23, zi ((S t).l : Int))]) (fun gg => ⟨.inl ⟨3, by kernel_rfl, rfl, vv gg 3⟩, .inl ⟨5, by kernel_rfl, rfl, vv gg 5⟩, trivial⟩) (.inl ⟨rfl, rfl⟩) (fun _ _ _ h => h) (fun gg f W ev hJ hd hn E => ?_)
   rw [show V gg 6 = zp g ((S t).l * 14) from vv gg 6]; clear hJ hd hn; have E21 := E.tmp 21 _ rfl; have E23 := E.tmp 23 _ rfl; clear E; clear vv HV LH SU; unfold O93_2_6; (try simp only [slZ, smZ, putF, slV, smL, msL] at *); go_simp
  refine obsC (j := 8) (m := 12) rfl rfl ?_ ?_
  ·refine ob_look (o := O93_2_7) rfl (fun gg => [(24, zp g ((S t).l * 14))]) (fun gg => ⟨.inl ⟨6, by kernel_rfl, rfl, vv gg 6⟩, trivial⟩) (.inl ⟨rfl, rfl⟩) (fun _ _ _ h => h) (fun gg f W ev hJ hd hn E => ?_)
   rw [show V gg 7 = .agg #[zi ((S (S t).l).up : Int), zi ((S (S t).l).l : Int), zi ((S (S t).l).r : Int), .bool (S (S t).l).tn, zi (S (S t).l).wt, zi (S (S t).l).wa, zi (S (S t).l).sm.c, zi (S (S t).l).sm.s, zi (S (S t).l).sm.a, zi (S (S t).l).sm.b, zi (S (S t).l).hg.c, zi (S (S t).l).hg.w, zi (S (S t).l).hu.c, zi (S (S t).l).hu.w] from vv gg 7]; have hJ9 := hJ; obtain ⟨s0, s1, s2, s3, s4, s5, s6, s7, s8, s9, s10, s11, s12, s13⟩ := hJ9.po.slot (t := (S t).l) (by assumption); clear hJ9; clear hJ hd hn; have E24 := E.tmp 24 _ rfl; clear E; clear vv HV LH SU; unfold O93_2_7; (try simp only [slZ, smZ, putF, slV, smL, msL] at *); go_simp
  refine obsC (j := 9) (m := 11) rfl rfl ?_ ?_
  ·exact ob_copy (o := O93_2_8) (u := 0) rfl rfl (fun gg => ⟨.inr ⟨by rw [vv]; rfl, by kernel_rfl⟩, trivial⟩) (.inl ⟨rfl, rfl⟩) (fun _ _ _ h => h)
  refine obsC (j := 10) (m := 10) rfl rfl ?_ ?_
  ·refine ob_look (o := O93_2_9) rfl (fun gg => [(26, zp p 0)]) (fun gg => ⟨.inl ⟨8, by kernel_rfl, rfl, vv gg 8⟩, trivial⟩) (.inl ⟨rfl, rfl⟩) (fun _ _ _ h => h) (fun gg f W ev hJ hd hn E => ?_)
   rw [show V gg 9 = zp p 0 from vv gg 9]; clear hJ hd hn; have E26 := E.tmp 26 _ rfl; clear E; clear vv HV LH SU; unfold O93_2_9; (try simp only [slZ, smZ, putF, slV, smL, msL] at *); go_simp
  refine obsC (j := 11) (m := 9) rfl rfl ?_ ?_
  ·refine ob_look (o := O93_2_10) rfl (fun gg => [(27, zp p 0)]) (fun gg => ⟨.inl ⟨9, by kernel_rfl, rfl, vv gg 9⟩, trivial⟩) (.inl ⟨rfl, rfl⟩) (fun _ _ _ h => h) (fun gg f W ev hJ hd hn E => ?_)
   rw [show V gg 10 = zp p 1 from vv gg 10]; clear hJ hd hn; have E27 := E.tmp 27 _ rfl; clear E; clear vv HV LH SU; unfold O93_2_10; (try simp only [slZ, smZ, putF, slV, smL, msL] at *); go_simp
  refine obsC (j := 12) (m := 8) rfl rfl ?_ ?_
  ·refine ob_look (o := O93_2_11) rfl (fun gg => [(28, zp p 1)]) (fun gg => ⟨.inl ⟨10, by kernel_rfl, rfl, vv gg 10⟩, trivial⟩) (.inl ⟨rfl, rfl⟩) (fun _ _ _ h => h) (fun gg f W ev hJ hd hn E => ?_)
   rw [show V gg 11 = .slice (some ⟨g, 0, none⟩) n cap from vv gg 11]; have hJ9 := hJ; obtain ⟨c0, c1, _⟩ := hJ9.po.head; clear hJ9; clear hJ hd hn; have E28 := E.tmp 28 _ rfl; clear E; clear vv HV LH SU; unfold O93_2_11; (try simp only [slZ, smZ, putF, slV, smL, msL] at *); go_simp
  refine obsC (j := 13) (m := 7) rfl rfl ?_ ?_
  ·refine ob_look (o := O93_2_12) rfl (fun gg => [(5, zp b5 0)]) (fun gg => ⟨.inr ⟨rfl, by kernel_rfl⟩, trivial⟩) (.inl ⟨rfl, rfl⟩) (fun _ _ _ h => h) (fun gg f W ev hJ hd hn E => ?_)
   rw [show V gg 12 = zp b5 2 from vv gg 12]; clear hJ hd hn; have E5 := E.tmp 5 _ rfl; clear E; clear vv HV LH SU; unfold O93_2_12; (try simp only [slZ, smZ, putF, slV, smL, msL] at *); go_simp
  refine obsC (j := 14) (m := 6) rfl rfl ?_ ?_
  ·refine ob_look (o := O93_2_13) rfl (fun gg => [(30, zp b5 2)]) (fun gg => ⟨.inl ⟨12, by kernel_rfl, rfl, vv gg 12⟩, trivial⟩) (.inl ⟨rfl, rfl⟩) (fun _ _ _ h => h) (fun gg f W ev hJ hd hn E => ?_)
   rw [show V gg 13 = zi ((S t).r : Int) from vv gg 13]; have hJ9 := hJ; have q0 := (hJ9.box (List.mem_append_right _ (List.mem_append_right _ (List.Mem.head _))) 2).1; change _ = some (zi ((S t).r : Int) : Value) at q0; clear hJ9; clear hJ hd hn; have E30 := E.tmp 30 _ rfl; clear E; clear vv HV LH SU; unfold O93_2_13; (try simp only [slZ, smZ, putF, slV, smL, msL] at *); go_simp
  refine obsC (j := 15) (m := 5) rfl rfl ?_ ?_
  ·refine ob_look (o := O93_2_14) rfl (fun gg => [(29, .slice (some ⟨g, 0, none⟩) n cap), (31, zi ((S t).r : Int))]) (fun gg => ⟨.inl ⟨11, by kernel_rfl, rfl, vv gg 11⟩, .inl ⟨13, by kernel_rfl, rfl, vv gg 13⟩, trivial⟩) (.inl ⟨rfl, rfl⟩) (fun _ _ _ h => h) (fun gg f W ev hJ hd hn E => ?_)
   rw [show V gg 14 = zp g ((S t).r * 14) from vv gg 14]; clear hJ hd hn; have E29 := E.tmp 29 _ rfl; have E31 := E.tmp 31 _ rfl; clear E; clear vv HV LH SU; unfold O93_2_14; (try simp only [slZ, smZ, putF, slV, smL, msL] at *); go_simp
  refine obsC (j := 16) (m := 4) rfl rfl ?_ ?_
  ·refine ob_look (o := O93_2_15) rfl (fun gg => [(32, zp g ((S t).r * 14))]) (fun gg => ⟨.inl ⟨14, by kernel_rfl, rfl, vv gg 14⟩, trivial⟩) (.inl ⟨rfl, rfl⟩) (fun _ _ _ h => h) (fun gg f W ev hJ hd hn E => ?_)
   rw [show V gg 15 = .agg #[zi ((S (S t).r).up : Int), zi ((S (S t).r).l : Int), zi ((S (S t).r).r : Int), .bool (S (S t).r).tn, zi (S (S t).r).wt, zi (S (S t).r).wa, zi (S (S t).r).sm.c, zi (S (S t).r).sm.s, zi (S (S t).r).sm.a, zi (S (S t).r).sm.b, zi (S (S t).r).hg.c, zi (S (S t).r).hg.w, zi (S (S t).r).hu.c, zi (S (S t).r).hu.w] from vv gg 15]; have hJ9 := hJ; obtain ⟨s0, s1, s2, s3, s4, s5, s6, s7, s8, s9, s10, s11, s12, s13⟩ := hJ9.po.slot (t := (S t).r) (by assumption); clear hJ9; clear hJ hd hn; have E32 := E.tmp 32 _ rfl; clear E; clear vv HV LH SU; unfold O93_2_15; (try simp only [slZ, smZ, putF, slV, smL, msL] at *); go_simp
  refine obsC (j := 17) (m := 3) rfl rfl ?_ ?_
  ·refine ob_run (o := O93_2_16) rfl (fun gg => []) (fun gg => trivial) (.inl ⟨rfl, rfl⟩) (fun gg f W ev hJ hf hd hn E => ?_)
   have h18 := hn 18 (by kernel_rfl)
   have q := hJ
   simp only [hf, cond_false, List.nil_append] at q
   have q2 := q.alloc (.cells slZ 75 (0, 0))
   refine .inl ⟨zp W.heap.size 0, W.alloc (.cells slZ 75 (0, 0)), ?_, (W.heap.size, gg.2), .inr (vv _ 16), fun k => ?_, ?_⟩
   ·clear hJ hf hd hn q q2; clear E; clear vv HV LH SU; unfold O93_2_16; (try simp only [slZ, smZ, putF, slV, smL, msL] at *); go_simp
   ·by_cases ek : k = 16
    ·exact .inl ek
    ·exact .inr (.inr (by rw [(unhide HV).2]; exact getD_other (i := 16) rfl ek))
   ·show Fr w _ p g n cap room S ([(W.heap.size, .cells (bif f 18 then slC (S (S t).l) else slZ) 75 (0, 0))] ++ _)
    rw [h18]; exact q2
  refine obsC (j := 18) (m := 2) rfl rfl ?_ ?_
  ·refine ob_run (o := O93_2_17) rfl (fun gg => []) (fun gg => trivial) (.inl ⟨rfl, rfl⟩) (fun gg f W ev hJ hf hd hn E => ?_)
   have h19 := hn 19 (by kernel_rfl)
   have q := hJ
   simp only [hf, cond_false, List.nil_append] at q
   have q2 := (q.alloc (.cells slZ 75 (0, 0))).perm List.perm_middle.symm
   refine .inl ⟨zp W.heap.size 0, W.alloc (.cells slZ 75 (0, 0)), ?_, (gg.1, W.heap.size), .inr (vv _ 17), fun k => ?_, ?_⟩
   ·clear hJ hf hd hn q q2; clear E; clear vv HV LH SU; unfold O93_2_17; (try simp only [slZ, smZ, putF, slV, smL, msL] at *); go_simp
   ·by_cases ek : k = 17
    ·exact .inl ek
    ·exact .inr (.inr (by rw [(unhide HV).2]; exact getD_other (i := 17) rfl ek))
   ·show Fr w _ p g n cap room S (_ ++ ([(W.heap.size, .cells (bif f 19 then slC (S (S t).r) else slZ) 75 (0, 0))] ++ _))
    rw [h19]; exact q2
  refine obsC (j := 19) (m := 1) rfl rfl ?_ ?_
  ·refine ob_run (o := O93_2_18) rfl (fun gg => [(6, zp gg.1 0), (25, .agg #[zi ((S (S t).l).up : Int), zi ((S (S t).l).l : Int), zi ((S (S t).l).r : Int), .bool (S (S t).l).tn, zi (S (S t).l).wt, zi (S (S t).l).wa, zi (S (S t).l).sm.c, zi (S (S t).l).sm.s, zi (S (S t).l).sm.a, zi (S (S t).l).sm.b, zi (S (S t).l).hg.c, zi (S (S t).l).hg.w, zi (S (S t).l).hu.c, zi (S (S t).l).hu.w])]) (fun gg => ⟨.inl ⟨16, by kernel_rfl, rfl, vv gg 16⟩, .inl ⟨7, by kernel_rfl, rfl, vv gg 7⟩, trivial⟩) (.inl ⟨rfl, rfl⟩) (fun gg f W ev hJ hf hd hn E => ?_)
   have q := hJ
   simp only [hd 16 (by kernel_rfl), hf, cond_true, cond_false, List.cons_append, List.nil_append] at q
   have q2 := q.putF 0 (slV (S (S t).l))
   rw [setAll_slZ] at q2
   refine .inr (.inl ⟨putF W gg.1 0 (slV (S (S t).l)), ?_, gg, .inl rfl, fun _ => .inr (.inr rfl), ?_⟩)
   ·have y0 := q.box (List.Mem.head _) 0; have f0 := y0.2 (by decide); replace y0 := y0.1; change _ = some (zi 0 : Value) at y0; have y1 := q.box (List.Mem.head _) 1; have f1 := y1.2 (by decide); replace y1 := y1.1; change _ = some (zi 0 : Value) at y1; have y2 := q.box (List.Mem.head _) 2; have f2 := y2.2 (by decide); replace y2 := y2.1; change _ = some (zi 0 : Value) at y2; have y3 := q.box (List.Mem.head _) 3; have f3 := y3.2 (by decide); replace y3 := y3.1; change _ = some (.bool false : Value) at y3; have y4 := q.box (List.Mem.head _) 4; have f4 := y4.2 (by decide); replace y4 := y4.1; change _ = some (zi 0 : Value) at y4; have y5 := q.box (List.Mem.head _) 5; have f5 := y5.2 (by decide); replace y5 := y5.1; change _ = some (zi 0 : Value) at y5; have y6 := q.box (List.Mem.head _) 6; have f6 := y6.2 (by decide); replace y6 := y6.1; change _ = some (zi 0 : Value) at y6; have y7 := q.box (List.Mem.head _) 7; have f7 := y7.2 (by decide); replace y7 := y7.1; change _ = some (zi 0 : Value) at y7; have y8 := q.box (List.Mem.head _) 8; have f8 := y8.2 (by decide); replace y8 := y8.1; change _ = some (zi 0 : Value) at y8; have y9 := q.box (List.Mem.head _) 9; have f9 := y9.2 (by decide); replace y9 := y9.1; change _ = some (zi 0 : Value) at y9; have y10 := q.box (List.Mem.head _) 10; have f10 := y10.2 (by decide); replace y10 := y10.1; change _ = some (zi 0 : Value) at y10; have y11 := q.box (List.Mem.head _) 11; have f11 := y11.2 (by decide); replace y11 := y11.1; change _ = some (zi 0 : Value) at y11; have y12 := q.box (List.Mem.head _) 12; have f12 := y12.2 (by decide); replace y12 := y12.1; change _ = some (zi 0 : Value) at y12; have y13 := q.box (List.Mem.head _) 13; have f13 := y13.2 (by decide); replace y13 := y13.1; change _ = some (zi 0 : Value) at y13; clear hJ hf hd hn q q2; have E6 := E.tmp 6 _ rfl; have E25 := E.tmp 25 _ rfl; clear E; clear vv HV LH SU; unfold O93_2_18; (try simp only [slZ, smZ, putF, slV, smL, msL] at *); go_simp
   ·show Fr w _ p g n cap room S ((bif f 16 then [(gg.1, .cells (slC (S (S t).l)) 75 (0, 0))] else []) ++ _)
    rw [hd 16 (by kernel_rfl)]; exact q2
  refine obsC (j := 20) (m := 0) rfl rfl ?_ ?_
  ·refine ob_run (o := O93_2_19) rfl (fun gg => [(7, zp gg.2 0), (33, .agg #[zi ((S (S t).r).up : Int), zi ((S (S t).r).l : Int), zi ((S (S t).r).r : Int), .bool (S (S t).r).tn, zi (S (S t).r).wt, zi (S (S t).r).wa, zi (S (S t).r).sm.c, zi (S (S t).r).sm.s, zi (S (S t).r).sm.a, zi (S (S t).r).sm.b, zi (S (S t).r).hg.c, zi (S (S t).r).hg.w, zi (S (S t).r).hu.c, zi (S (S t).r).hu.w])]) (fun gg => ⟨.inl ⟨17, by kernel_rfl, rfl, vv gg 17⟩, .inl ⟨15, by kernel_rfl, rfl, vv gg 15⟩, trivial⟩) (.inl ⟨rfl, rfl⟩) (fun gg f W ev hJ hf hd hn E => ?_)
   have q := hJ
   simp only [hd 17 (by kernel_rfl), hf, cond_true, cond_false, List.cons_append, List.nil_append] at q
   have q1 := q.perm List.perm_middle
   have q2 := (q1.putF 0 (slV (S (S t).r)))
   rw [setAll_slZ] at q2
   have q3 := q2.perm List.perm_middle.symm
   refine .inr (.inl ⟨putF W gg.2 0 (slV (S (S t).r)), ?_, gg, .inl rfl, fun _ => .inr (.inr rfl), ?_⟩)
   ·have y0 := q1.box (List.Mem.head _) 0; have f0 := y0.2 (by decide); replace y0 := y0.1; change _ = some (zi 0 : Value) at y0; have y1 := q1.box (List.Mem.head _) 1; have f1 := y1.2 (by decide); replace y1 := y1.1; change _ = some (zi 0 : Value) at y1; have y2 := q1.box (List.Mem.head _) 2; have f2 := y2.2 (by decide); replace y2 := y2.1; change _ = some (zi 0 : Value) at y2; have y3 := q1.box (List.Mem.head _) 3; have f3 := y3.2 (by decide); replace y3 := y3.1; change _ = some (.bool false : Value) at y3; have y4 := q1.box (List.Mem.head _) 4; have f4 := y4.2 (by decide); replace y4 := y4.1; change _ = some (zi 0 : Value) at y4; have y5 := q1.box (List.Mem.head _) 5; have f5 := y5.2 (by decide); replace y5 := y5.1; change _ = some (zi 0 : Value) at y5; have y6 := q1.box (List.Mem.head _) 6; have f6 := y6.2 (by decide); replace y6 := y6.1; change _ = some (zi 0 : Value) at y6; have y7 := q1.box (List.Mem.head _) 7; have f7 := y7.2 (by decide); replace y7 := y7.1; change _ = some (zi 0 : Value) at y7; have y8 := q1.box (List.Mem.head _) 8; have f8 := y8.2 (by decide); replace y8 := y8.1; change _ = some (zi 0 : Value) at y8; have y9 := q1.box (List.Mem.head _) 9; have f9 := y9.2 (by decide); replace y9 := y9.1; change _ = some (zi 0 : Value) at y9; have y10 := q1.box (List.Mem.head _) 10; have f10 := y10.2 (by decide); replace y10 := y10.1; change _ = some (zi 0 : Value) at y10; have y11 := q1.box (List.Mem.head _) 11; have f11 := y11.2 (by decide); replace y11 := y11.1; change _ = some (zi 0 : Value) at y11; have y12 := q1.box (List.Mem.head _) 12; have f12 := y12.2 (by decide); replace y12 := y12.1; change _ = some (zi 0 : Value) at y12; have y13 := q1.box (List.Mem.head _) 13; have f13 := y13.2 (by decide); replace y13 := y13.1; change _ = some (zi 0 : Value) at y13; clear hJ hf hd hn q q1 q2 q3; have E7 := E.tmp 7 _ rfl; have E33 := E.tmp 33 _ rfl; clear E; clear vv HV LH SU; unfold O93_2_19; (try simp only [slZ, smZ, putF, slV, smL, msL] at *); go_simp
   ·show Fr w _ p g n cap room S (_ ++ ((bif f 17 then [(gg.2, .cells (slC (S (S t).r)) 75 (0, 0))] else []) ++ _))
    rw [hd 17 (by kernel_rfl)]; exact q3
  exact True.intro
 have K12 : Kn a9 90 [(0, zp p 0), (1, zi t), (5, zp b5 0), (6, zp gg.1 0), (7, zp gg.2 0)] := hk.kn' (by kernel_rfl) hf ⟨.inr ⟨rfl, by kernel_rfl⟩, .inr ⟨rfl, by kernel_rfl⟩, .inr ⟨rfl, by kernel_rfl⟩, .inl ⟨16, by kernel_rfl, rfl, vv gg 16⟩, .inl ⟨17, by kernel_rfl, rfl, vv gg 17⟩, trivial⟩
 clear hk FH FD HV vv K11
 obtain ⟨b6, b7⟩ := gg
 simp only [hf 16 rfl, hf 17 rfl, hf 18 rfl, hf 19 rfl, cond_true, List.cons_append, List.nil_append] at hj
 have FH := hide hj
 clear hj hf
 show Code.wp _ _ _ _ _
 replace K12 : Kn a9 90 [(0, zp p 0), (1, zi t), (5, zp b5 0), (6, zp b6 0), (7, zp b7 0)] := K12
 refine seqR ?_
 refine lF K12 FA75_6 fun a13 K13 => ?_
 clear K12
 refine lT (.agg #[zi (S (S t).l).sm.c, zi (S (S t).l).sm.s, zi (S (S t).l).sm.a, zi (S (S t).l).sm.b]) W9 K13 (want_none rfl) (fun ev E => ?_) fun a14 K14 => ?_
 ·have q0 := ((unhide FH).box (List.Mem.head _) 6).1; change _ = some (zi (S (S t).l).sm.c : Value) at q0; have q1 := ((unhide FH).box (List.Mem.head _) 7).1; change _ = some (zi (S (S t).l).sm.s : Value) at q1; have q2 := ((unhide FH).box (List.Mem.head _) 8).1; change _ = some (zi (S (S t).l).sm.a : Value) at q2; have q3 := ((unhide FH).box (List.Mem.head _) 9).1; change _ = some (zi (S (S t).l).sm.b : Value) at q3; have E34 := E.tmp 34 _ rfl; clear E; clear FH LH SU; (try simp only [slZ, smZ, putF, slV, smL, msL] at *); go_simp
 clear K13
 refine lF K14 FA75_6 fun a15 K15 => ?_
 clear K14
 refine lT (.agg #[zi (S (S t).r).sm.c, zi (S (S t).r).sm.s, zi (S (S t).r).sm.a, zi (S (S t).r).sm.b]) W9 K15 (want_none rfl) (fun ev E => ?_) fun a16 K16 => ?_
 ·have q0 := ((unhide FH).box (List.Mem.tail _ (List.Mem.head _)) 6).1; change _ = some (zi (S (S t).r).sm.c : Value) at q0; have q1 := ((unhide FH).box (List.Mem.tail _ (List.Mem.head _)) 7).1; change _ = some (zi (S (S t).r).sm.s : Value) at q1; have q2 := ((unhide FH).box (List.Mem.tail _ (List.Mem.head _)) 8).1; change _ = some (zi (S (S t).r).sm.a : Value) at q2; have q3 := ((unhide FH).box (List.Mem.tail _ (List.Mem.head _)) 9).1; change _ = some (zi (S (S t).r).sm.b : Value) at q3; have E36 := E.tmp 36 _ rfl; clear E; clear FH LH SU; (try simp only [slZ, smZ, putF, slV, smL, msL] at *); go_simp
 clear K15
 refine lcall (f := 83) (args := #[.agg #[zi (S (S t).l).sm.c, zi (S (S t).l).sm.s, zi (S (S t).l).sm.a, zi (S (S t).l).sm.b], .agg #[zi (S (S t).r).sm.c, zi (S (S t).r).sm.s, zi (S (S t).r).sm.a, zi (S (S t).r).sm.b]]) K16 rfl rfl (want_none rfl) (fun ev E => ?_) ((unhide SU).j1 _) (fun e W17 hR => ?_)
 ·have EF := E.func; have E35 := E.tmp 35 _ rfl; have E37 := E.tmp 37 _ rfl; clear E; clear FH LH SU; (try simp only [slZ, smZ, putF, slV, smL, msL] at *); go_simp
 obtain ⟨rfl, Q1⟩ := hR
 have F2 := hide ((unhide FH).below Q1)
 clear FH Q1
 have FH := F2
 clear F2
 refine ⟨_, rfl, fun a18 K18 => ?_⟩
 clear K16
 refine lT (zp W17.heap.size 0) (W17.alloc (.cells smZ 34)) K18 (want_none rfl) (fun ev E => ?_) fun a19 K19 => ?_
 ·clear E; clear FH LH SU; (try simp only [slZ, smZ, putF, slV, smL, msL] at *); go_simp
 clear K18
 have F2 := hide ((unhide FH).alloc (.cells smZ 34))
 clear FH
 have FH := F2
 clear F2
 generalize (W17.alloc (.cells smZ 34)) = Ab8 at *
 obtain ⟨b8, hd⟩ : ∃ z, z = W17.heap.size := ⟨_, rfl⟩
 rw [← hd] at FH K19
 clear hd
 refine lstore (w' := (putF Ab8 b8 0 (smL (jn (S (S t).l).sm (S (S t).r).sm)))) K19 rfl (want_none rfl) (fun ev E => ?_) ?_
 ·have q0 := (unhide FH).box (List.Mem.head _) 0; have f0 := q0.2 (by decide); replace q0 := q0.1; change _ = some (zi 0 : Value) at q0; have q1 := (unhide FH).box (List.Mem.head _) 1; have f1 := q1.2 (by decide); replace q1 := q1.1; change _ = some (zi 0 : Value) at q1; have q2 := (unhide FH).box (List.Mem.head _) 2; have f2 := q2.2 (by decide); replace q2 := q2.1; change _ = some (zi 0 : Value) at q2; have q3 := (unhide FH).box (List.Mem.head _) 3; have f3 := q3.2 (by decide); replace q3 := q3.1; change _ = some (zi 0 : Value) at q3; have E8 := E.tmp 8 _ rfl; have E38 := E.tmp 38 _ rfl; clear E; clear FH LH SU; (try simp only [slZ, smZ, putF, slV, smL, msL] at *); go_simp
 have F2 := hide ((unhide FH).putF (0) (smL (jn (S (S t).l).sm (S (S t).r).sm)))
 clear FH
 have FH := F2
 clear F2
 generalize (putF Ab8 b8 0 (smL (jn (S (S t).l).sm (S (S t).r).sm))) = V3 at *
 rw [setAll_smZ] at FH
 refine nilN ?_
 refine seqN ?_
 have K21 : Kn _ 90 [(0, zp p 0), (1, zi t), (5, zp b5 0), (6, zp b6 0), (7, zp b7 0), (8, zp b8 0)] := K19.less ⟨rfl, rfl, rfl, rfl, rfl, rfl, trivial⟩
 clear K19
 have FD := (unhide FH).drew
 obtain ⟨V, hV⟩ : ∃ V : (Nat) -> Nat -> Value, V = fun gg k => ([.agg #[zi (jn (S (S t).l).sm (S (S t).r).sm).c, zi (jn (S (S t).l).sm (S (S t).r).sm).s, zi (jn (S (S t).l).sm (S (S t).r).sm).a, zi (jn (S (S t).l).sm (S (S t).r).sm).b], zp b5 5, zi (S t).wa, .agg #[zi (lf (jn (S (S t).l).sm (S (S t).r).sm) (S t).wa).c, zi (lf (jn (S (S t).l).sm (S (S t).r).sm) (S t).wa).s, zi (lf (jn (S (S t).l).sm (S (S t).r).sm) (S t).wa).a, zi (lf (jn (S (S t).l).sm (S (S t).r).sm) (S t).wa).b], zp b5 4, zi (S t).wt, .agg #[zi 1, zi (S t).wt, zi (S t).wt, zi (S t).wt], .agg #[zi (S t).sm.c, zi (S t).sm.s, zi (S t).sm.a, zi (S t).sm.b], zp gg 0, undef] : List Value).getD k undef := ⟨_, rfl⟩
 have vv : ∀ gg k, V gg k = ([.agg #[zi (jn (S (S t).l).sm (S (S t).r).sm).c, zi (jn (S (S t).l).sm (S (S t).r).sm).s, zi (jn (S (S t).l).sm (S (S t).r).sm).a, zi (jn (S (S t).l).sm (S (S t).r).sm).b], zp b5 5, zi (S t).wa, .agg #[zi (lf (jn (S (S t).l).sm (S (S t).r).sm) (S t).wa).c, zi (lf (jn (S (S t).l).sm (S (S t).r).sm) (S t).wa).s, zi (lf (jn (S (S t).l).sm (S (S t).r).sm) (S t).wa).a, zi (lf (jn (S (S t).l).sm (S (S t).r).sm) (S t).wa).b], zp b5 4, zi (S t).wt, .agg #[zi 1, zi (S t).wt, zi (S t).wt, zi (S t).wt], .agg #[zi (S t).sm.c, zi (S t).sm.s, zi (S t).sm.a, zi (S t).sm.b], zp gg 0, undef] : List Value).getD k undef := fun _ _ => by rw [hV]
 have HV := hide (And.intro True.intro hV)
 clear hV
 show (Code.region 4 OPS93_4.toArray true).wp _ _ _ _
 refine wp_region_once (A := Nat) (V := V) (J := fun gg f W => Fr w W p g n cap room S ((bif f 8 then [(gg, .cells (bif f 9 then smC (S t).sm else smZ) 34 (0, 0))] else []) ++ [(b8, .cells (smC (jn (S (S t).l).sm (S (S t).r).sm)) 34 (0, 0)), (b6, .cells (slC (S (S t).l)) 75 (0, 0)), (b7, .cells (slC (S (S t).r)) 75 (0, 0)), (b5, .cells (slC (S t)) 75 (0, 0))])) 0 10 (by kernel_rfl) (by kernel_rfl) K21 (FD) (by kernel_rfl) ?_ (fun gg f a9 W9 hf hk hj => ?_)
 ·clear FH FD K21
  refine obsC (j := 1) (m := 9) rfl rfl ?_ ?_
  ·refine ob_look (o := O93_4_0) rfl (fun gg => [(8, zp b8 0)]) (fun gg => ⟨.inr ⟨rfl, by kernel_rfl⟩, trivial⟩) (.inl ⟨rfl, rfl⟩) (fun _ _ _ h => h) (fun gg f W ev hJ hd hn E => ?_)
   rw [show V gg 0 = .agg #[zi (jn (S (S t).l).sm (S (S t).r).sm).c, zi (jn (S (S t).l).sm (S (S t).r).sm).s, zi (jn (S (S t).l).sm (S (S t).r).sm).a, zi (jn (S (S t).l).sm (S (S t).r).sm).b] from vv gg 0]; have hJ9 := hJ; have q0 := (hJ9.box (List.mem_append_right _ (List.Mem.head _)) 0).1; change _ = some (zi (jn (S (S t).l).sm (S (S t).r).sm).c : Value) at q0; have q1 := (hJ9.box (List.mem_append_right _ (List.Mem.head _)) 1).1; change _ = some (zi (jn (S (S t).l).sm (S (S t).r).sm).s : Value) at q1; have q2 := (hJ9.box (List.mem_append_right _ (List.Mem.head _)) 2).1; change _ = some (zi (jn (S (S t).l).sm (S (S t).r).sm).a : Value) at q2; have q3 := (hJ9.box (List.mem_append_right _ (List.Mem.head _)) 3).1; change _ = some (zi (jn (S (S t).l).sm (S (S t).r).sm).b : Value) at q3; clear hJ9; clear hJ hd hn; have E8 := E.tmp 8 _ rfl; clear E; clear vv HV LH SU; unfold O93_4_0; (try simp only [slZ, smZ, putF, slV, smL, msL] at *); go_simp
  refine obsC (j := 2) (m := 8) rfl rfl ?_ ?_
  ·refine ob_look (o := O93_4_1) rfl (fun gg => [(5, zp b5 0)]) (fun gg => ⟨.inr ⟨rfl, by kernel_rfl⟩, trivial⟩) (.inl ⟨rfl, rfl⟩) (fun _ _ _ h => h) (fun gg f W ev hJ hd hn E => ?_)
   rw [show V gg 1 = zp b5 5 from vv gg 1]; clear hJ hd hn; have E5 := E.tmp 5 _ rfl; clear E; clear vv HV LH SU; unfold O93_4_1; (try simp only [slZ, smZ, putF, slV, smL, msL] at *); go_simp
  refine obsC (j := 3) (m := 7) rfl rfl ?_ ?_
  ·refine ob_look (o := O93_4_2) rfl (fun gg => [(40, zp b5 5)]) (fun gg => ⟨.inl ⟨1, by kernel_rfl, rfl, vv gg 1⟩, trivial⟩) (.inl ⟨rfl, rfl⟩) (fun _ _ _ h => h) (fun gg f W ev hJ hd hn E => ?_)
   rw [show V gg 2 = zi (S t).wa from vv gg 2]; have hJ9 := hJ; have q0 := (hJ9.box (List.mem_append_right _ (List.Mem.tail _ (List.Mem.tail _ (List.Mem.tail _ (List.Mem.head _))))) 5).1; change _ = some (zi (S t).wa : Value) at q0; clear hJ9; clear hJ hd hn; have E40 := E.tmp 40 _ rfl; clear E; clear vv HV LH SU; unfold O93_4_2; (try simp only [slZ, smZ, putF, slV, smL, msL] at *); go_simp
  refine obsC (j := 4) (m := 6) rfl rfl ?_ ?_
  ·refine ob_run (o := O93_4_3) rfl (fun gg => [(39, .agg #[zi (jn (S (S t).l).sm (S (S t).r).sm).c, zi (jn (S (S t).l).sm (S (S t).r).sm).s, zi (jn (S (S t).l).sm (S (S t).r).sm).a, zi (jn (S (S t).l).sm (S (S t).r).sm).b]), (41, zi (S t).wa)]) (fun gg => ⟨.inl ⟨0, by kernel_rfl, rfl, vv gg 0⟩, .inl ⟨2, by kernel_rfl, rfl, vv gg 2⟩, trivial⟩) (.inl ⟨rfl, rfl⟩) (fun gg f W ev hJ hf hd hn E => ?_)
   refine .inr (.inr ⟨86, #[.agg #[zi (jn (S (S t).l).sm (S (S t).r).sm).c, zi (jn (S (S t).l).sm (S (S t).r).sm).s, zi (jn (S (S t).l).sm (S (S t).r).sm).a, zi (jn (S (S t).l).sm (S (S t).r).sm).b], zi (S t).wa], ?_, ((unhide SU).li _).mono ?_⟩)
   ·clear hJ hf hd hn; have EF := E.func; have E39 := E.tmp 39 _ rfl; have E41 := E.tmp 41 _ rfl; clear E; clear vv HV LH SU; unfold O93_4_3; go_simp
   ·rintro e w9 ⟨rfl, hb9⟩
    exact ⟨_, rfl, gg, .inr (vv gg 3), fun _ => .inr (.inr rfl), hJ.below hb9⟩
  refine obsC (j := 5) (m := 5) rfl rfl ?_ ?_
  ·refine ob_look (o := O93_4_4) rfl (fun gg => [(5, zp b5 0)]) (fun gg => ⟨.inr ⟨rfl, by kernel_rfl⟩, trivial⟩) (.inl ⟨rfl, rfl⟩) (fun _ _ _ h => h) (fun gg f W ev hJ hd hn E => ?_)
   rw [show V gg 4 = zp b5 4 from vv gg 4]; clear hJ hd hn; have E5 := E.tmp 5 _ rfl; clear E; clear vv HV LH SU; unfold O93_4_4; (try simp only [slZ, smZ, putF, slV, smL, msL] at *); go_simp
  refine obsC (j := 6) (m := 4) rfl rfl ?_ ?_
  ·refine ob_look (o := O93_4_5) rfl (fun gg => [(43, zp b5 4)]) (fun gg => ⟨.inl ⟨4, by kernel_rfl, rfl, vv gg 4⟩, trivial⟩) (.inl ⟨rfl, rfl⟩) (fun _ _ _ h => h) (fun gg f W ev hJ hd hn E => ?_)
   rw [show V gg 5 = zi (S t).wt from vv gg 5]; have hJ9 := hJ; have q0 := (hJ9.box (List.mem_append_right _ (List.Mem.tail _ (List.Mem.tail _ (List.Mem.tail _ (List.Mem.head _))))) 4).1; change _ = some (zi (S t).wt : Value) at q0; clear hJ9; clear hJ hd hn; have E43 := E.tmp 43 _ rfl; clear E; clear vv HV LH SU; unfold O93_4_5; (try simp only [slZ, smZ, putF, slV, smL, msL] at *); go_simp
  refine obsC (j := 7) (m := 3) rfl rfl ?_ ?_
  ·refine ob_run (o := O93_4_6) rfl (fun gg => [(44, zi (S t).wt)]) (fun gg => ⟨.inl ⟨5, by kernel_rfl, rfl, vv gg 5⟩, trivial⟩) (.inl ⟨rfl, rfl⟩) (fun gg f W ev hJ hf hd hn E => ?_)
   refine .inr (.inr ⟨54, #[zi (S t).wt], ?_, (one_any _ _).mono ?_⟩)
   ·clear hJ hf hd hn; have EF := E.func; have E44 := E.tmp 44 _ rfl; clear E; clear vv HV LH SU; unfold O93_4_6; go_simp
   ·rintro e w9 ⟨rfl, hb9⟩
    exact ⟨_, rfl, gg, .inr (vv gg 6), fun _ => .inr (.inr rfl), hJ.below hb9⟩
  refine obsC (j := 8) (m := 2) rfl rfl ?_ ?_
  ·refine ob_run (o := O93_4_7) rfl (fun gg => [(42, .agg #[zi (lf (jn (S (S t).l).sm (S (S t).r).sm) (S t).wa).c, zi (lf (jn (S (S t).l).sm (S (S t).r).sm) (S t).wa).s, zi (lf (jn (S (S t).l).sm (S (S t).r).sm) (S t).wa).a, zi (lf (jn (S (S t).l).sm (S (S t).r).sm) (S t).wa).b]), (45, .agg #[zi 1, zi (S t).wt, zi (S t).wt, zi (S t).wt])]) (fun gg => ⟨.inl ⟨3, by kernel_rfl, rfl, vv gg 3⟩, .inl ⟨6, by kernel_rfl, rfl, vv gg 6⟩, trivial⟩) (.inl ⟨rfl, rfl⟩) (fun gg f W ev hJ hf hd hn E => ?_)
   refine .inr (.inr ⟨83, #[.agg #[zi (lf (jn (S (S t).l).sm (S (S t).r).sm) (S t).wa).c, zi (lf (jn (S (S t).l).sm (S (S t).r).sm) (S t).wa).s, zi (lf (jn (S (S t).l).sm (S (S t).r).sm) (S t).wa).a, zi (lf (jn (S (S t).l).sm (S (S t).r).sm) (S t).wa).b], .agg #[zi 1, zi (S t).wt, zi (S t).wt, zi (S t).wt]], ?_, ((unhide SU).j2 _).mono ?_⟩)
   ·clear hJ hf hd hn; have EF := E.func; have E42 := E.tmp 42 _ rfl; have E45 := E.tmp 45 _ rfl; clear E; clear vv HV LH SU; unfold O93_4_7; go_simp
   ·rintro e w9 ⟨rfl, hb9⟩
    exact ⟨_, rfl, gg, .inr (vv gg 7), fun _ => .inr (.inr rfl), hJ.below hb9⟩
  refine obsC (j := 9) (m := 1) rfl rfl ?_ ?_
  ·refine ob_run (o := O93_4_8) rfl (fun gg => []) (fun gg => trivial) (.inl ⟨rfl, rfl⟩) (fun gg f W ev hJ hf hd hn E => ?_)
   have h9 := hn 9 (by kernel_rfl)
   have q := hJ
   simp only [hf, cond_false, List.nil_append] at q
   have q2 := q.alloc (.cells smZ 34 (0, 0))
   refine .inl ⟨zp W.heap.size 0, W.alloc (.cells smZ 34 (0, 0)), ?_, W.heap.size, .inr (vv _ 8), fun k => ?_, ?_⟩
   ·clear hJ hf hd hn q q2; clear E; clear vv HV LH SU; unfold O93_4_8; (try simp only [slZ, smZ, putF, slV, smL, msL] at *); go_simp
   ·by_cases ek : k = 8
    ·exact .inl ek
    ·exact .inr (.inr (by rw [(unhide HV).2]; exact getD_other (i := 8) rfl ek))
   ·show Fr w _ p g n cap room S ([(W.heap.size, .cells (bif f 9 then smC (S t).sm else smZ) 34 (0, 0))] ++ _)
    rw [h9]; exact q2
  refine obsC (j := 10) (m := 0) rfl rfl ?_ ?_
  ·refine ob_run (o := O93_4_9) rfl (fun gg => [(9, zp gg 0), (46, .agg #[zi (S t).sm.c, zi (S t).sm.s, zi (S t).sm.a, zi (S t).sm.b])]) (fun gg => ⟨.inl ⟨8, by kernel_rfl, rfl, vv gg 8⟩, .inl ⟨7, by kernel_rfl, rfl, vv gg 7⟩, trivial⟩) (.inl ⟨rfl, rfl⟩) (fun gg f W ev hJ hf hd hn E => ?_)
   have q := hJ
   simp only [hd 8 (by kernel_rfl), hf, cond_true, cond_false, List.cons_append, List.nil_append] at q
   have q2 := q.putF 0 (smL (S t).sm)
   rw [setAll_smZ] at q2
   refine .inr (.inl ⟨putF W gg 0 (smL (S t).sm), ?_, gg, .inl rfl, fun _ => .inr (.inr rfl), ?_⟩)
   ·have y0 := q.box (List.Mem.head _) 0; have f0 := y0.2 (by decide); replace y0 := y0.1; change _ = some (zi 0 : Value) at y0; have y1 := q.box (List.Mem.head _) 1; have f1 := y1.2 (by decide); replace y1 := y1.1; change _ = some (zi 0 : Value) at y1; have y2 := q.box (List.Mem.head _) 2; have f2 := y2.2 (by decide); replace y2 := y2.1; change _ = some (zi 0 : Value) at y2; have y3 := q.box (List.Mem.head _) 3; have f3 := y3.2 (by decide); replace y3 := y3.1; change _ = some (zi 0 : Value) at y3; clear hJ hf hd hn q q2; have E9 := E.tmp 9 _ rfl; have E46 := E.tmp 46 _ rfl; clear E; clear vv HV LH SU; unfold O93_4_9; (try simp only [slZ, smZ, putF, slV, smL, msL] at *); go_simp
   ·show Fr w _ p g n cap room S ((bif f 8 then [(gg, .cells (smC (S t).sm) 34 (0, 0))] else []) ++ _)
    rw [hd 8 (by kernel_rfl)]; exact q2
  exact True.intro
 have K22 : Kn a9 90 [(0, zp p 0), (1, zi t), (5, zp b5 0), (6, zp b6 0), (7, zp b7 0), (8, zp b8 0), (9, zp gg 0)] := hk.kn' (by kernel_rfl) hf ⟨.inr ⟨rfl, by kernel_rfl⟩, .inr ⟨rfl, by kernel_rfl⟩, .inr ⟨rfl, by kernel_rfl⟩, .inr ⟨rfl, by kernel_rfl⟩, .inr ⟨rfl, by kernel_rfl⟩, .inr ⟨rfl, by kernel_rfl⟩, .inl ⟨8, by kernel_rfl, rfl, vv gg 8⟩, trivial⟩
 clear hk FH FD HV vv K21
 simp only [hf 8 rfl, hf 9 rfl, cond_true, List.cons_append, List.nil_append] at hj
 have FH := hide hj
 clear hj hf
 obtain ⟨b9, hb9⟩ : ∃ z, z = gg := ⟨_, rfl⟩
 rw [← hb9] at FH K22
 clear hb9
 show Code.wp _ _ _ _ _
 refine seqN ?_
 refine seqR ?_
 refine lF K22 FA75_6 fun a23 K23 => ?_
 clear K22
 refine lT (.agg #[zi (S t).sm.c, zi (S t).sm.s, zi (S t).sm.a, zi (S t).sm.b]) W9 K23 (want_none rfl) (fun ev E => ?_) fun a24 K24 => ?_
 ·have q0 := ((unhide FH).box (List.Mem.tail _ (List.Mem.tail _ (List.Mem.tail _ (List.Mem.tail _ (List.Mem.head _))))) 6).1; change _ = some (zi (S t).sm.c : Value) at q0; have q1 := ((unhide FH).box (List.Mem.tail _ (List.Mem.tail _ (List.Mem.tail _ (List.Mem.tail _ (List.Mem.head _))))) 7).1; change _ = some (zi (S t).sm.s : Value) at q1; have q2 := ((unhide FH).box (List.Mem.tail _ (List.Mem.tail _ (List.Mem.tail _ (List.Mem.tail _ (List.Mem.head _))))) 8).1; change _ = some (zi (S t).sm.a : Value) at q2; have q3 := ((unhide FH).box (List.Mem.tail _ (List.Mem.tail _ (List.Mem.tail _ (List.Mem.tail _ (List.Mem.head _))))) 9).1; change _ = some (zi (S t).sm.b : Value) at q3; have E47 := E.tmp 47 _ rfl; clear E; clear FH LH SU; (try simp only [slZ, smZ, putF, slV, smL, msL] at *); go_simp
 clear K23
 refine lT (.agg #[zi (S t).sm.c, zi (S t).sm.s, zi (S t).sm.a, zi (S t).sm.b]) W9 K24 (want_none rfl) (fun ev E => ?_) fun a25 K25 => ?_
 ·have q0 := ((unhide FH).box (List.Mem.head _) 0).1; change _ = some (zi (S t).sm.c : Value) at q0; have q1 := ((unhide FH).box (List.Mem.head _) 1).1; change _ = some (zi (S t).sm.s : Value) at q1; have q2 := ((unhide FH).box (List.Mem.head _) 2).1; change _ = some (zi (S t).sm.a : Value) at q2; have q3 := ((unhide FH).box (List.Mem.head _) 3).1; change _ = some (zi (S t).sm.b : Value) at q3; have E9 := E.tmp 9 _ rfl; clear E; clear FH LH SU; (try simp only [slZ, smZ, putF, slV, smL, msL] at *); go_simp
 clear K24
 refine lT (.bool false) W9 K25 (want_none rfl) (fun ev E => ?_) fun a26 K26 => ?_
 ·have E48 := E.tmp 48 _ rfl; have E49 := E.tmp 49 _ rfl; clear E; clear FH LH SU; (try simp only [slZ, smZ, putF, slV, smL, msL] at *); go_simp
 clear K25
 refine lM K26 fun a27 K27 => ?_
 clear K26
 refine lfa K27 rfl rfl (want_some K27 rfl rfl rfl) rfl rfl FA34_2 (fun a28 K28 => ?_)
 clear K27
 refine lT (zi (S t).sm.a) W9 K28 (want_some K28 rfl rfl rfl) (fun ev E => ?_) fun a29 K29 => ?_
 ·have q0 := ((unhide FH).box (List.Mem.head _) 2).1; change _ = some (zi (S t).sm.a : Value) at q0; have E52 := E.tmp 52 _ rfl; clear E; clear FH LH SU; (try simp only [slZ, smZ, putF, slV, smL, msL] at *); go_simp
 clear K28
 refine lcall (f := 52) (args := #[zi (S t).sm.a]) K29 rfl rfl (want_some K29 rfl rfl rfl) (fun ev E => ?_) (fitsT _ _ (unhide SU).fa) (fun e W30 hR => ?_)
 ·have EF := E.func; have E53 := E.tmp 53 _ rfl; clear E; clear FH LH SU; (try simp only [slZ, smZ, putF, slV, smL, msL] at *); go_simp
 obtain ⟨rfl, Q1⟩ := hR
 have F2 := hide ((unhide FH).below Q1)
 clear FH Q1
 have FH := F2
 clear F2
 refine ⟨_, rfl, fun a31 K31 => ?_⟩
 clear K29
 refine lT (.bool false) W30 K31 (want_some K31 rfl rfl rfl) (fun ev E => ?_) fun a32 K32 => ?_
 ·have E54 := E.tmp 54 _ rfl; clear E; clear FH LH SU; (try simp only [slZ, smZ, putF, slV, smL, msL] at *); go_simp
 clear K31
 refine lT (.bool false) W30 K32 (want_none rfl) (fun ev E => ?_) fun a33 K33 => ?_
 ·have EC := E.const; have E51 := E.tmp 51 _ rfl; have E55 := E.tmp 55 _ rfl; clear E; clear FH LH SU; (try simp only [slZ, smZ, putF, slV, smL, msL] at *); go_simp
 clear K32
 refine lM K33 fun a34 K34 => ?_
 clear K33
 refine lfa K34 rfl rfl (want_some K34 rfl rfl rfl) rfl rfl FA34_3 (fun a35 K35 => ?_)
 clear K34
 refine lT (zi (S t).sm.b) W30 K35 (want_some K35 rfl rfl rfl) (fun ev E => ?_) fun a36 K36 => ?_
 ·have q0 := ((unhide FH).box (List.Mem.head _) 3).1; change _ = some (zi (S t).sm.b : Value) at q0; have E58 := E.tmp 58 _ rfl; clear E; clear FH LH SU; (try simp only [slZ, smZ, putF, slV, smL, msL] at *); go_simp
 clear K35
 refine lcall (f := 52) (args := #[zi (S t).sm.b]) K36 rfl rfl (want_some K36 rfl rfl rfl) (fun ev E => ?_) (fitsT _ _ (unhide SU).fb) (fun e W37 hR => ?_)
 ·have EF := E.func; have E59 := E.tmp 59 _ rfl; clear E; clear FH LH SU; (try simp only [slZ, smZ, putF, slV, smL, msL] at *); go_simp
 obtain ⟨rfl, Q1⟩ := hR
 have F2 := hide ((unhide FH).below Q1)
 clear FH Q1
 have FH := F2
 clear F2
 refine ⟨_, rfl, fun a38 K38 => ?_⟩
 clear K36
 refine lT (.bool false) W37 K38 (want_some K38 rfl rfl rfl) (fun ev E => ?_) fun a39 K39 => ?_
 ·have E60 := E.tmp 60 _ rfl; clear E; clear FH LH SU; (try simp only [slZ, smZ, putF, slV, smL, msL] at *); go_simp
 clear K38
 refine lT (.bool false) W37 K39 (want_none rfl) (fun ev E => ?_) fun a40 K40 => ?_
 ·have EC := E.const; have E57 := E.tmp 57 _ rfl; have E61 := E.tmp 61 _ rfl; clear E; clear FH LH SU; (try simp only [slZ, smZ, putF, slV, smL, msL] at *); go_simp
 clear K39
 refine nilN ?_
 refine knCond (b := false) K40 rfl (wp_skip ?_)
 show Code.wp _ _ _ _ _
 have K41 : Kn _ 90 [(0, zp p 0), (5, zp b5 0), (6, zp b6 0), (7, zp b7 0), (8, zp b8 0)] := K40.less ⟨rfl, rfl, rfl, rfl, rfl, trivial⟩
 clear K40
 rcases (unhide SU).id with ⟨i1, i2⟩ | ⟨i1, i2, i3⟩ | ⟨i1, i3⟩
 ·refine seqR ?_
  refine lF K41 FA75_5 fun a42 K42 => ?_
  clear K41
  refine lT (zi (S t).wa) W37 K42 (want_none rfl) (fun ev E => ?_) fun a43 K43 => ?_
  ·have q0 := ((unhide FH).box (List.Mem.tail _ (List.Mem.tail _ (List.Mem.tail _ (List.Mem.tail _ (List.Mem.head _))))) 5).1; change _ = some (zi (S t).wa : Value) at q0; have E63 := E.tmp 63 _ rfl; clear E; clear FH LH SU; (try simp only [slZ, smZ, putF, slV, smL, msL] at *); go_simp
  clear K42
  refine lT (.bool true) W37 K43 (want_none rfl) (fun ev E => ?_) fun a44 K44 => ?_
  ·have EC := E.const; have E64 := E.tmp 64 _ rfl; clear E; clear FH LH SU; (try simp only [slZ, smZ, putF, slV, smL, msL] at *); go_simp
  clear K43
  refine lM K44 fun a45 K45 => ?_
  clear K44
  refine lfa K45 rfl rfl (want_some K45 rfl rfl rfl) rfl rfl FA75_3 (fun a46 K46 => ?_)
  clear K45
  refine lT (.bool false) W37 K46 (want_some K46 rfl rfl rfl) (fun ev E => ?_) fun a47 K47 => ?_
  ·have q0 := ((unhide FH).box (List.Mem.tail _ (List.Mem.tail _ (List.Mem.tail _ (List.Mem.tail _ (List.Mem.head _))))) 3).1; change _ = some (.bool (S t).tn : Value) at q0; have E67 := E.tmp 67 _ rfl; clear E; clear FH LH SU; (try simp only [slZ, smZ, putF, slV, smL, msL] at *); go_simp
  clear K46
  refine lT (.bool true) W37 K47 (want_some K47 rfl rfl rfl) (fun ev E => ?_) fun a48 K48 => ?_
  ·have E68 := E.tmp 68 _ rfl; clear E; clear FH LH SU; (try simp only [slZ, smZ, putF, slV, smL, msL] at *); go_simp
  clear K47
  refine lT (.bool true) W37 K48 (want_none rfl) (fun ev E => ?_) fun a49 K49 => ?_
  ·have EC := E.const; have E66 := E.tmp 66 _ rfl; have E69 := E.tmp 69 _ rfl; clear E; clear FH LH SU; (try simp only [slZ, smZ, putF, slV, smL, msL] at *); go_simp
  clear K48
  refine lA K49 fun a50 K50 => ?_
  clear K49
  refine nilN ?_
  refine wp_seq ?_
  have FD := (unhide FH).drew
  obtain ⟨V, hV⟩ : ∃ V : (Unit) -> Nat -> Value, V = fun gg k => ([zp b5 12, .agg #[zi (S t).hu.c, zi (S t).hu.w], zp b5 10, .agg #[zi (S t).hg.c, zi (S t).hg.w], zp b6 12, .agg #[zi (S (S t).l).hu.c, zi (S (S t).l).hu.w], .agg #[zi ((S t).hg.c + (S (S t).l).hu.c), zi ((S t).hg.w + (S (S t).l).hu.w)], zp b7 12, .agg #[zi (S (S t).r).hu.c, zi (S (S t).r).hu.w], .agg #[zi (S t).hu.c, zi (S t).hu.w], .bool true, .bool true, .bool true, .bool true, undef, undef, undef, .bool true, .bool true, .bool true] : List Value).getD k undef := ⟨_, rfl⟩
  have vv : ∀ gg k, V gg k = ([zp b5 12, .agg #[zi (S t).hu.c, zi (S t).hu.w], zp b5 10, .agg #[zi (S t).hg.c, zi (S t).hg.w], zp b6 12, .agg #[zi (S (S t).l).hu.c, zi (S (S t).l).hu.w], .agg #[zi ((S t).hg.c + (S (S t).l).hu.c), zi ((S t).hg.w + (S (S t).l).hu.w)], zp b7 12, .agg #[zi (S (S t).r).hu.c, zi (S (S t).r).hu.w], .agg #[zi (S t).hu.c, zi (S t).hu.w], .bool true, .bool true, .bool true, .bool true, undef, undef, undef, .bool true, .bool true, .bool true] : List Value).getD k undef := fun _ _ => by rw [hV]
  have HV := hide (And.intro True.intro hV)
  clear hV
  show (Code.region 8 OPS93_8.toArray true).wp _ _ _ _
  refine wp_region_once (A := Unit) (V := V) (J := fun gg f W => Fr w W p g n cap room S [(b9, .cells (smC (S t).sm) 34 (0, 0)), (b8, .cells (smC (jn (S (S t).l).sm (S (S t).r).sm)) 34 (0, 0)), (b6, .cells (slC (S (S t).l)) 75 (0, 0)), (b7, .cells (slC (S (S t).r)) 75 (0, 0)), (b5, .cells (slC (S t)) 75 (0, 0))]) () 20 (by kernel_rfl) (by kernel_rfl) K50 (FD) (by kernel_rfl) ?_ (fun gg f a9 W9 hf hk hj => ?_)
  ·clear FH FD K50
   refine obsC (j := 1) (m := 19) rfl rfl ?_ ?_
   ·refine ob_look (o := O93_8_0) rfl (fun gg => [(5, zp b5 0)]) (fun gg => ⟨.inr ⟨rfl, by kernel_rfl⟩, trivial⟩) (.inl ⟨rfl, rfl⟩) (fun _ _ _ h => h) (fun gg f W ev hJ hd hn E => ?_)
    rw [show V gg 0 = zp b5 12 from vv gg 0]; clear hJ hd hn; have E5 := E.tmp 5 _ rfl; clear E; clear vv HV LH SU; unfold O93_8_0; (try simp only [slZ, smZ, putF, slV, smL, msL] at *); go_simp
   refine obsC (j := 2) (m := 18) rfl rfl ?_ ?_
   ·refine ob_look (o := O93_8_1) rfl (fun gg => [(71, zp b5 12)]) (fun gg => ⟨.inl ⟨0, by kernel_rfl, rfl, vv gg 0⟩, trivial⟩) (.inl ⟨rfl, rfl⟩) (fun _ _ _ h => h) (fun gg f W ev hJ hd hn E => ?_)
    rw [show V gg 1 = .agg #[zi (S t).hu.c, zi (S t).hu.w] from vv gg 1]; have hJ9 := hJ; have q0 := (hJ9.box (List.Mem.tail _ (List.Mem.tail _ (List.Mem.tail _ (List.Mem.tail _ (List.Mem.head _))))) 12).1; change _ = some (zi (S t).hu.c : Value) at q0; have q1 := (hJ9.box (List.Mem.tail _ (List.Mem.tail _ (List.Mem.tail _ (List.Mem.tail _ (List.Mem.head _))))) 13).1; change _ = some (zi (S t).hu.w : Value) at q1; clear hJ9; clear hJ hd hn; have E71 := E.tmp 71 _ rfl; clear E; clear vv HV LH SU; unfold O93_8_1; (try simp only [slZ, smZ, putF, slV, smL, msL] at *); go_simp
   refine obsC (j := 3) (m := 17) rfl rfl ?_ ?_
   ·refine ob_look (o := O93_8_2) rfl (fun gg => [(5, zp b5 0)]) (fun gg => ⟨.inr ⟨rfl, by kernel_rfl⟩, trivial⟩) (.inl ⟨rfl, rfl⟩) (fun _ _ _ h => h) (fun gg f W ev hJ hd hn E => ?_)
    rw [show V gg 2 = zp b5 10 from vv gg 2]; clear hJ hd hn; have E5 := E.tmp 5 _ rfl; clear E; clear vv HV LH SU; unfold O93_8_2; (try simp only [slZ, smZ, putF, slV, smL, msL] at *); go_simp
   refine obsC (j := 4) (m := 16) rfl rfl ?_ ?_
   ·refine ob_look (o := O93_8_3) rfl (fun gg => [(73, zp b5 10)]) (fun gg => ⟨.inl ⟨2, by kernel_rfl, rfl, vv gg 2⟩, trivial⟩) (.inl ⟨rfl, rfl⟩) (fun _ _ _ h => h) (fun gg f W ev hJ hd hn E => ?_)
    rw [show V gg 3 = .agg #[zi (S t).hg.c, zi (S t).hg.w] from vv gg 3]; have hJ9 := hJ; have q0 := (hJ9.box (List.Mem.tail _ (List.Mem.tail _ (List.Mem.tail _ (List.Mem.tail _ (List.Mem.head _))))) 10).1; change _ = some (zi (S t).hg.c : Value) at q0; have q1 := (hJ9.box (List.Mem.tail _ (List.Mem.tail _ (List.Mem.tail _ (List.Mem.tail _ (List.Mem.head _))))) 11).1; change _ = some (zi (S t).hg.w : Value) at q1; clear hJ9; clear hJ hd hn; have E73 := E.tmp 73 _ rfl; clear E; clear vv HV LH SU; unfold O93_8_3; (try simp only [slZ, smZ, putF, slV, smL, msL] at *); go_simp
   refine obsC (j := 5) (m := 15) rfl rfl ?_ ?_
   ·refine ob_look (o := O93_8_4) rfl (fun gg => [(6, zp b6 0)]) (fun gg => ⟨.inr ⟨rfl, by kernel_rfl⟩, trivial⟩) (.inl ⟨rfl, rfl⟩) (fun _ _ _ h => h) (fun gg f W ev hJ hd hn E => ?_)
    rw [show V gg 4 = zp b6 12 from vv gg 4]; clear hJ hd hn; have E6 := E.tmp 6 _ rfl; clear E; clear vv HV LH SU; unfold O93_8_4; (try simp only [slZ, smZ, putF, slV, smL, msL] at *); go_simp
   refine obsC (j := 6) (m := 14) rfl rfl ?_ ?_
   ·refine ob_look (o := O93_8_5) rfl (fun gg => [(75, zp b6 12)]) (fun gg => ⟨.inl ⟨4, by kernel_rfl, rfl, vv gg 4⟩, trivial⟩) (.inl ⟨rfl, rfl⟩) (fun _ _ _ h => h) (fun gg f W ev hJ hd hn E => ?_)
    rw [show V gg 5 = .agg #[zi (S (S t).l).hu.c, zi (S (S t).l).hu.w] from vv gg 5]; have hJ9 := hJ; have q0 := (hJ9.box (List.Mem.tail _ (List.Mem.tail _ (List.Mem.head _))) 12).1; change _ = some (zi (S (S t).l).hu.c : Value) at q0; have q1 := (hJ9.box (List.Mem.tail _ (List.Mem.tail _ (List.Mem.head _))) 13).1; change _ = some (zi (S (S t).l).hu.w : Value) at q1; clear hJ9; clear hJ hd hn; have E75 := E.tmp 75 _ rfl; clear E; clear vv HV LH SU; unfold O93_8_5; (try simp only [slZ, smZ, putF, slV, smL, msL] at *); go_simp
   refine obsC (j := 7) (m := 13) rfl rfl ?_ ?_
   ·refine ob_run (o := O93_8_6) rfl (fun gg => [(74, .agg #[zi (S t).hg.c, zi (S t).hg.w]), (76, .agg #[zi (S (S t).l).hu.c, zi (S (S t).l).hu.w])]) (fun gg => ⟨.inl ⟨3, by kernel_rfl, rfl, vv gg 3⟩, .inl ⟨5, by kernel_rfl, rfl, vv gg 5⟩, trivial⟩) (.inl ⟨rfl, rfl⟩) (fun gg f W ev hJ hf hd hn E => ?_)
    refine .inr (.inr ⟨80, #[.agg #[zi (S t).hg.c, zi (S t).hg.w], .agg #[zi (S (S t).l).hu.c, zi (S (S t).l).hu.w]], ?_, ((unhide SU).h1 _).mono ?_⟩)
    ·clear hJ hf hd hn; have EF := E.func; have E74 := E.tmp 74 _ rfl; have E76 := E.tmp 76 _ rfl; clear E; clear vv HV LH SU; unfold O93_8_6; go_simp
    ·rintro e w9 ⟨rfl, hb9⟩
     exact ⟨_, rfl, gg, .inr (vv gg 6), fun _ => .inr (.inr rfl), hJ.below hb9⟩
   refine obsC (j := 8) (m := 12) rfl rfl ?_ ?_
   ·refine ob_look (o := O93_8_7) rfl (fun gg => [(7, zp b7 0)]) (fun gg => ⟨.inr ⟨rfl, by kernel_rfl⟩, trivial⟩) (.inl ⟨rfl, rfl⟩) (fun _ _ _ h => h) (fun gg f W ev hJ hd hn E => ?_)
    rw [show V gg 7 = zp b7 12 from vv gg 7]; clear hJ hd hn; have E7 := E.tmp 7 _ rfl; clear E; clear vv HV LH SU; unfold O93_8_7; (try simp only [slZ, smZ, putF, slV, smL, msL] at *); go_simp
   refine obsC (j := 9) (m := 11) rfl rfl ?_ ?_
   ·refine ob_look (o := O93_8_8) rfl (fun gg => [(78, zp b7 12)]) (fun gg => ⟨.inl ⟨7, by kernel_rfl, rfl, vv gg 7⟩, trivial⟩) (.inl ⟨rfl, rfl⟩) (fun _ _ _ h => h) (fun gg f W ev hJ hd hn E => ?_)
    rw [show V gg 8 = .agg #[zi (S (S t).r).hu.c, zi (S (S t).r).hu.w] from vv gg 8]; have hJ9 := hJ; have q0 := (hJ9.box (List.Mem.tail _ (List.Mem.tail _ (List.Mem.tail _ (List.Mem.head _)))) 12).1; change _ = some (zi (S (S t).r).hu.c : Value) at q0; have q1 := (hJ9.box (List.Mem.tail _ (List.Mem.tail _ (List.Mem.tail _ (List.Mem.head _)))) 13).1; change _ = some (zi (S (S t).r).hu.w : Value) at q1; clear hJ9; clear hJ hd hn; have E78 := E.tmp 78 _ rfl; clear E; clear vv HV LH SU; unfold O93_8_8; (try simp only [slZ, smZ, putF, slV, smL, msL] at *); go_simp
   refine obsC (j := 10) (m := 10) rfl rfl ?_ ?_
   ·refine ob_run (o := O93_8_9) rfl (fun gg => [(77, .agg #[zi ((S t).hg.c + (S (S t).l).hu.c), zi ((S t).hg.w + (S (S t).l).hu.w)]), (79, .agg #[zi (S (S t).r).hu.c, zi (S (S t).r).hu.w])]) (fun gg => ⟨.inl ⟨6, by kernel_rfl, rfl, vv gg 6⟩, .inl ⟨8, by kernel_rfl, rfl, vv gg 8⟩, trivial⟩) (.inl ⟨rfl, rfl⟩) (fun gg f W ev hJ hf hd hn E => ?_)
    refine .inr (.inr ⟨80, #[.agg #[zi ((S t).hg.c + (S (S t).l).hu.c), zi ((S t).hg.w + (S (S t).l).hu.w)], .agg #[zi (S (S t).r).hu.c, zi (S (S t).r).hu.w]], ?_, ((unhide SU).h2 _).mono ?_⟩)
    ·clear hJ hf hd hn; have EF := E.func; have E77 := E.tmp 77 _ rfl; have E79 := E.tmp 79 _ rfl; clear E; clear vv HV LH SU; unfold O93_8_9; go_simp
    ·rintro e w9 ⟨rfl, hb9⟩
     exact ⟨_, rfl, gg, .inr (vv gg 9), fun _ => .inr (.inr rfl), hJ.below hb9⟩
   refine obsC (j := 11) (m := 9) rfl rfl ?_ ?_
   ·refine ob_look (o := O93_8_10) rfl (fun gg => [(72, .agg #[zi (S t).hu.c, zi (S t).hu.w]), (80, .agg #[zi (S t).hu.c, zi (S t).hu.w])]) (fun gg => ⟨.inl ⟨1, by kernel_rfl, rfl, vv gg 1⟩, .inl ⟨9, by kernel_rfl, rfl, vv gg 9⟩, trivial⟩) (.inl ⟨rfl, rfl⟩) (fun _ _ _ h => h) (fun gg f W ev hJ hd hn E => ?_)
    rw [show V gg 10 = .bool true from vv gg 10]; clear hJ hd hn; have E72 := E.tmp 72 _ rfl; have E80 := E.tmp 80 _ rfl; clear E; clear vv HV LH SU; unfold O93_8_10; (try simp only [slZ, smZ, putF, slV, smL, msL] at *); go_simp
   refine obsC (j := 12) (m := 8) rfl rfl ?_ ?_
   ·exact ob_copy (o := O93_8_11) (u := 81) rfl rfl (fun gg => ⟨.inl ⟨10, by kernel_rfl, rfl, (vv gg 10).trans (vv gg 11).symm⟩, trivial⟩) (.inl ⟨rfl, rfl⟩) (fun _ _ _ h => h)
   refine obsC (j := 13) (m := 7) rfl rfl ?_ ?_
   ·exact ob_copy (o := O93_8_12) (u := 10) rfl rfl (fun gg => ⟨.inr ⟨by rw [vv]; rfl, by kernel_rfl⟩, trivial⟩) (.inr (.inl ⟨11, true, rfl, by kernel_rfl, ⟨82, rfl⟩, fun gg => ⟨true, vv gg 11, rfl⟩⟩)) (fun _ _ _ h => h)
   refine obsC (j := 14) (m := 6) rfl rfl ?_ ?_
   ·exact ob_copy (o := O93_8_13) (u := 83) rfl rfl (fun gg => ⟨.inl ⟨12, by kernel_rfl, rfl, (vv gg 12).trans (vv gg 13).symm⟩, trivial⟩) (.inr (.inl ⟨11, true, rfl, by kernel_rfl, ⟨82, rfl⟩, fun gg => ⟨true, vv gg 11, rfl⟩⟩)) (fun _ _ _ h => h)
   refine obsC (j := 15) (m := 5) rfl rfl ?_ ?_
   ·exact ob_skip (o := O93_8_14) rfl (.inr (.inl ⟨13, false, rfl, by kernel_rfl, ⟨84, rfl⟩, fun gg => ⟨true, vv gg 13, rfl⟩⟩)) (fun _ _ _ h => h) (fun gg => vv gg 14)
   refine obsC (j := 16) (m := 4) rfl rfl ?_ ?_
   ·exact ob_skip (o := O93_8_15) rfl (.inr (.inl ⟨13, false, rfl, by kernel_rfl, ⟨84, rfl⟩, fun gg => ⟨true, vv gg 13, rfl⟩⟩)) (fun _ _ _ h => h) (fun gg => vv gg 15)
   refine obsC (j := 17) (m := 3) rfl rfl ?_ ?_
   ·exact ob_skip (o := O93_8_16) rfl (.inr (.inl ⟨13, false, rfl, by kernel_rfl, ⟨84, rfl⟩, fun gg => ⟨true, vv gg 13, rfl⟩⟩)) (fun _ _ _ h => h) (fun gg => vv gg 16)
   refine obsC (j := 18) (m := 2) rfl rfl ?_ ?_
   ·refine ob_look (o := O93_8_17) rfl (fun gg => [(84, .bool true), (87, undef)]) (fun gg => ⟨.inl ⟨13, by kernel_rfl, rfl, vv gg 13⟩, .inl ⟨16, by kernel_rfl, rfl, vv gg 16⟩, trivial⟩) (.inr (.inl ⟨11, true, rfl, by kernel_rfl, ⟨82, rfl⟩, fun gg => ⟨true, vv gg 11, rfl⟩⟩)) (fun _ _ _ h => h) (fun gg f W ev hJ hd hn E => ?_)
    rw [show V gg 17 = .bool true from vv gg 17]; clear hJ hd hn; have EC := E.const; have E84 := E.tmp 84 _ rfl; have E87 := E.tmp 87 _ rfl; clear E; clear vv HV LH SU; unfold O93_8_17; (try simp only [slZ, smZ, putF, slV, smL, msL] at *); go_simp
   refine obsC (j := 19) (m := 1) rfl rfl ?_ ?_
   ·refine ob_look (o := O93_8_18) rfl (fun gg => [(82, .bool true), (88, .bool true)]) (fun gg => ⟨.inl ⟨11, by kernel_rfl, rfl, vv gg 11⟩, .inl ⟨17, by kernel_rfl, rfl, vv gg 17⟩, trivial⟩) (.inl ⟨rfl, rfl⟩) (fun _ _ _ h => h) (fun gg f W ev hJ hd hn E => ?_)
    rw [show V gg 18 = .bool true from vv gg 18]; clear hJ hd hn; have EC := E.const; have E82 := E.tmp 82 _ rfl; have E88 := E.tmp 88 _ rfl; clear E; clear vv HV LH SU; unfold O93_8_18; (try simp only [slZ, smZ, putF, slV, smL, msL] at *); go_simp
   refine obsC (j := 20) (m := 0) rfl rfl ?_ ?_
   ·exact ob_copy (o := O93_8_19) (u := 89) rfl rfl (fun gg => ⟨.inl ⟨18, by kernel_rfl, rfl, (vv gg 18).trans (vv gg 19).symm⟩, trivial⟩) (.inl ⟨rfl, rfl⟩) (fun _ _ _ h => h)
   exact True.intro
  have K51 : Kn a9 90 [(4, .bool true)] := hk.kn' (by kernel_rfl) hf ⟨.inl ⟨19, by kernel_rfl, rfl, vv gg 19⟩, trivial⟩
  clear hk FH FD HV vv K50
  have FH := hide hj
  clear hj hf
  refine thenN ?_
  refine wp_ret ?_
  refine bodyPost_ret (v := .bool true) ?_ K51.defers ⟨rfl, (unhide FH).keep, (unhide FH).po⟩
  have e4 := K51.has 4 _ rfl
  simp [results, Try.results93, go_sem, e4]
 ·refine seqR ?_
  refine lF K41 FA75_5 fun a42 K42 => ?_
  clear K41
  refine lT (zi (S t).wa) W37 K42 (want_none rfl) (fun ev E => ?_) fun a43 K43 => ?_
  ·have q0 := ((unhide FH).box (List.Mem.tail _ (List.Mem.tail _ (List.Mem.tail _ (List.Mem.tail _ (List.Mem.head _))))) 5).1; change _ = some (zi (S t).wa : Value) at q0; have E63 := E.tmp 63 _ rfl; clear E; clear FH LH SU; (try simp only [slZ, smZ, putF, slV, smL, msL] at *); go_simp
  clear K42
  refine lT (.bool true) W37 K43 (want_none rfl) (fun ev E => ?_) fun a44 K44 => ?_
  ·have EC := E.const; have E64 := E.tmp 64 _ rfl; clear E; clear FH LH SU; (try simp only [slZ, smZ, putF, slV, smL, msL] at *); go_simp
  clear K43
  refine lM K44 fun a45 K45 => ?_
  clear K44
  refine lfa K45 rfl rfl (want_some K45 rfl rfl rfl) rfl rfl FA75_3 (fun a46 K46 => ?_)
  clear K45
  refine lT (.bool true) W37 K46 (want_some K46 rfl rfl rfl) (fun ev E => ?_) fun a47 K47 => ?_
  ·have q0 := ((unhide FH).box (List.Mem.tail _ (List.Mem.tail _ (List.Mem.tail _ (List.Mem.tail _ (List.Mem.head _))))) 3).1; change _ = some (.bool (S t).tn : Value) at q0; have E67 := E.tmp 67 _ rfl; clear E; clear FH LH SU; (try simp only [slZ, smZ, putF, slV, smL, msL] at *); go_simp
  clear K46
  refine lT (.bool false) W37 K47 (want_some K47 rfl rfl rfl) (fun ev E => ?_) fun a48 K48 => ?_
  ·have E68 := E.tmp 68 _ rfl; clear E; clear FH LH SU; (try simp only [slZ, smZ, putF, slV, smL, msL] at *); go_simp
  clear K47
  refine lT (.bool false) W37 K48 (want_none rfl) (fun ev E => ?_) fun a49 K49 => ?_
  ·have EC := E.const; have E66 := E.tmp 66 _ rfl; have E69 := E.tmp 69 _ rfl; clear E; clear FH LH SU; (try simp only [slZ, smZ, putF, slV, smL, msL] at *); go_simp
  clear K48
  refine lA K49 fun a50 K50 => ?_
  clear K49
  refine nilN ?_
  refine wp_seq ?_
  have FD := (unhide FH).drew
  obtain ⟨V, hV⟩ : ∃ V : (Unit) -> Nat -> Value, V = fun gg k => ([zp b5 12, .agg #[zi (S t).hu.c, zi (S t).hu.w], zp b5 10, .agg #[zi (S t).hg.c, zi (S t).hg.w], zp b6 12, .agg #[zi (S (S t).l).hu.c, zi (S (S t).l).hu.w], .agg #[zi ((S t).hg.c + (S (S t).l).hu.c), zi ((S t).hg.w + (S (S t).l).hu.w)], zp b7 12, .agg #[zi (S (S t).r).hu.c, zi (S (S t).r).hu.w], .agg #[zi (S t).hu.c, zi (S t).hu.w], .bool true, .bool true, .bool false, .bool false, zp b8 0, zi (jn (S (S t).l).sm (S (S t).r).sm).c, .bool true, .bool true, .bool true, .bool true] : List Value).getD k undef := ⟨_, rfl⟩
  have vv : ∀ gg k, V gg k = ([zp b5 12, .agg #[zi (S t).hu.c, zi (S t).hu.w], zp b5 10, .agg #[zi (S t).hg.c, zi (S t).hg.w], zp b6 12, .agg #[zi (S (S t).l).hu.c, zi (S (S t).l).hu.w], .agg #[zi ((S t).hg.c + (S (S t).l).hu.c), zi ((S t).hg.w + (S (S t).l).hu.w)], zp b7 12, .agg #[zi (S (S t).r).hu.c, zi (S (S t).r).hu.w], .agg #[zi (S t).hu.c, zi (S t).hu.w], .bool true, .bool true, .bool false, .bool false, zp b8 0, zi (jn (S (S t).l).sm (S (S t).r).sm).c, .bool true, .bool true, .bool true, .bool true] : List Value).getD k undef := fun _ _ => by rw [hV]
  have HV := hide (And.intro True.intro hV)
  clear hV
  show (Code.region 8 OPS93_8.toArray true).wp _ _ _ _
  refine wp_region_once (A := Unit) (V := V) (J := fun gg f W => Fr w W p g n cap room S [(b9, .cells (smC (S t).sm) 34 (0, 0)), (b8, .cells (smC (jn (S (S t).l).sm (S (S t).r).sm)) 34 (0, 0)), (b6, .cells (slC (S (S t).l)) 75 (0, 0)), (b7, .cells (slC (S (S t).r)) 75 (0, 0)), (b5, .cells (slC (S t)) 75 (0, 0))]) () 20 (by kernel_rfl) (by kernel_rfl) K50 (FD) (by kernel_rfl) ?_ (fun gg f a9 W9 hf hk hj => ?_)
  ·clear FH FD K50
   refine obsC (j := 1) (m := 19) rfl rfl ?_ ?_
   ·refine ob_look (o := O93_8_0) rfl (fun gg => [(5, zp b5 0)]) (fun gg => ⟨.inr ⟨rfl, by kernel_rfl⟩, trivial⟩) (.inl ⟨rfl, rfl⟩) (fun _ _ _ h => h) (fun gg f W ev hJ hd hn E => ?_)
    rw [show V gg 0 = zp b5 12 from vv gg 0]; clear hJ hd hn; have E5 := E.tmp 5 _ rfl; clear E; clear vv HV LH SU; unfold O93_8_0; (try simp only [slZ, smZ, putF, slV, smL, msL] at *); go_simp
   refine obsC (j := 2) (m := 18) rfl rfl ?_ ?_
   ·refine ob_look (o := O93_8_1) rfl (fun gg => [(71, zp b5 12)]) (fun gg => ⟨.inl ⟨0, by kernel_rfl, rfl, vv gg 0⟩, trivial⟩) (.inl ⟨rfl, rfl⟩) (fun _ _ _ h => h) (fun gg f W ev hJ hd hn E => ?_)
    rw [show V gg 1 = .agg #[zi (S t).hu.c, zi (S t).hu.w] from vv gg 1]; have hJ9 := hJ; have q0 := (hJ9.box (List.Mem.tail _ (List.Mem.tail _ (List.Mem.tail _ (List.Mem.tail _ (List.Mem.head _))))) 12).1; change _ = some (zi (S t).hu.c : Value) at q0; have q1 := (hJ9.box (List.Mem.tail _ (List.Mem.tail _ (List.Mem.tail _ (List.Mem.tail _ (List.Mem.head _))))) 13).1; change _ = some (zi (S t).hu.w : Value) at q1; clear hJ9; clear hJ hd hn; have E71 := E.tmp 71 _ rfl; clear E; clear vv HV LH SU; unfold O93_8_1; (try simp only [slZ, smZ, putF, slV, smL, msL] at *); go_simp
   refine obsC (j := 3) (m := 17) rfl rfl ?_ ?_
   ·refine ob_look (o := O93_8_2) rfl (fun gg => [(5, zp b5 0)]) (fun gg => ⟨.inr ⟨rfl, by kernel_rfl⟩, trivial⟩) (.inl ⟨rfl, rfl⟩) (fun _ _ _ h => h) (fun gg f W ev hJ hd hn E => ?_)
    rw [show V gg 2 = zp b5 10 from vv gg 2]; clear hJ hd hn; have E5 := E.tmp 5 _ rfl; clear E; clear vv HV LH SU; unfold O93_8_2; (try simp only [slZ, smZ, putF, slV, smL, msL] at *); go_simp
   refine obsC (j := 4) (m := 16) rfl rfl ?_ ?_
   ·refine ob_look (o := O93_8_3) rfl (fun gg => [(73, zp b5 10)]) (fun gg => ⟨.inl ⟨2, by kernel_rfl, rfl, vv gg 2⟩, trivial⟩) (.inl ⟨rfl, rfl⟩) (fun _ _ _ h => h) (fun gg f W ev hJ hd hn E => ?_)
    rw [show V gg 3 = .agg #[zi (S t).hg.c, zi (S t).hg.w] from vv gg 3]; have hJ9 := hJ; have q0 := (hJ9.box (List.Mem.tail _ (List.Mem.tail _ (List.Mem.tail _ (List.Mem.tail _ (List.Mem.head _))))) 10).1; change _ = some (zi (S t).hg.c : Value) at q0; have q1 := (hJ9.box (List.Mem.tail _ (List.Mem.tail _ (List.Mem.tail _ (List.Mem.tail _ (List.Mem.head _))))) 11).1; change _ = some (zi (S t).hg.w : Value) at q1; clear hJ9; clear hJ hd hn; have E73 := E.tmp 73 _ rfl; clear E; clear vv HV LH SU; unfold O93_8_3; (try simp only [slZ, smZ, putF, slV, smL, msL] at *); go_simp
   refine obsC (j := 5) (m := 15) rfl rfl ?_ ?_
   ·refine ob_look (o := O93_8_4) rfl (fun gg => [(6, zp b6 0)]) (fun gg => ⟨.inr ⟨rfl, by kernel_rfl⟩, trivial⟩) (.inl ⟨rfl, rfl⟩) (fun _ _ _ h => h) (fun gg f W ev hJ hd hn E => ?_)
    rw [show V gg 4 = zp b6 12 from vv gg 4]; clear hJ hd hn; have E6 := E.tmp 6 _ rfl; clear E; clear vv HV LH SU; unfold O93_8_4; (try simp only [slZ, smZ, putF, slV, smL, msL] at *); go_simp
   refine obsC (j := 6) (m := 14) rfl rfl ?_ ?_
   ·refine ob_look (o := O93_8_5) rfl (fun gg => [(75, zp b6 12)]) (fun gg => ⟨.inl ⟨4, by kernel_rfl, rfl, vv gg 4⟩, trivial⟩) (.inl ⟨rfl, rfl⟩) (fun _ _ _ h => h) (fun gg f W ev hJ hd hn E => ?_)
    rw [show V gg 5 = .agg #[zi (S (S t).l).hu.c, zi (S (S t).l).hu.w] from vv gg 5]; have hJ9 := hJ; have q0 := (hJ9.box (List.Mem.tail _ (List.Mem.tail _ (List.Mem.head _))) 12).1; change _ = some (zi (S (S t).l).hu.c : Value) at q0; have q1 := (hJ9.box (List.Mem.tail _ (List.Mem.tail _ (List.Mem.head _))) 13).1; change _ = some (zi (S (S t).l).hu.w : Value) at q1; clear hJ9; clear hJ hd hn; have E75 := E.tmp 75 _ rfl; clear E; clear vv HV LH SU; unfold O93_8_5; (try simp only [slZ, smZ, putF, slV, smL, msL] at *); go_simp
   refine obsC (j := 7) (m := 13) rfl rfl ?_ ?_
   ·refine ob_run (o := O93_8_6) rfl (fun gg => [(74, .agg #[zi (S t).hg.c, zi (S t).hg.w]), (76, .agg #[zi (S (S t).l).hu.c, zi (S (S t).l).hu.w])]) (fun gg => ⟨.inl ⟨3, by kernel_rfl, rfl, vv gg 3⟩, .inl ⟨5, by kernel_rfl, rfl, vv gg 5⟩, trivial⟩) (.inl ⟨rfl, rfl⟩) (fun gg f W ev hJ hf hd hn E => ?_)
    refine .inr (.inr ⟨80, #[.agg #[zi (S t).hg.c, zi (S t).hg.w], .agg #[zi (S (S t).l).hu.c, zi (S (S t).l).hu.w]], ?_, ((unhide SU).h1 _).mono ?_⟩)
    ·clear hJ hf hd hn; have EF := E.func; have E74 := E.tmp 74 _ rfl; have E76 := E.tmp 76 _ rfl; clear E; clear vv HV LH SU; unfold O93_8_6; go_simp
    ·rintro e w9 ⟨rfl, hb9⟩
     exact ⟨_, rfl, gg, .inr (vv gg 6), fun _ => .inr (.inr rfl), hJ.below hb9⟩
   refine obsC (j := 8) (m := 12) rfl rfl ?_ ?_
   ·refine ob_look (o := O93_8_7) rfl (fun gg => [(7, zp b7 0)]) (fun gg => ⟨.inr ⟨rfl, by kernel_rfl⟩, trivial⟩) (.inl ⟨rfl, rfl⟩) (fun _ _ _ h => h) (fun gg f W ev hJ hd hn E => ?_)
    rw [show V gg 7 = zp b7 12 from vv gg 7]; clear hJ hd hn; have E7 := E.tmp 7 _ rfl; clear E; clear vv HV LH SU; unfold O93_8_7; (try simp only [slZ, smZ, putF, slV, smL, msL] at *); go_simp
   refine obsC (j := 9) (m := 11) rfl rfl ?_ ?_
   ·refine ob_look (o := O93_8_8) rfl (fun gg => [(78, zp b7 12)]) (fun gg => ⟨.inl ⟨7, by kernel_rfl, rfl, vv gg 7⟩, trivial⟩) (.inl ⟨rfl, rfl⟩) (fun _ _ _ h => h) (fun gg f W ev hJ hd hn E => ?_)
    rw [show V gg 8 = .agg #[zi (S (S t).r).hu.c, zi (S (S t).r).hu.w] from vv gg 8]; have hJ9 := hJ; have q0 := (hJ9.box (List.Mem.tail _ (List.Mem.tail _ (List.Mem.tail _ (List.Mem.head _)))) 12).1; change _ = some (zi (S (S t).r).hu.c : Value) at q0; have q1 := (hJ9.box (List.Mem.tail _ (List.Mem.tail _ (List.Mem.tail _ (List.Mem.head _)))) 13).1; change _ = some (zi (S (S t).r).hu.w : Value) at q1; clear hJ9; clear hJ hd hn; have E78 := E.tmp 78 _ rfl; clear E; clear vv HV LH SU; unfold O93_8_8; (try simp only [slZ, smZ, putF, slV, smL, msL] at *); go_simp
   refine obsC (j := 10) (m := 10) rfl rfl ?_ ?_
   ·refine ob_run (o := O93_8_9) rfl (fun gg => [(77, .agg #[zi ((S t).hg.c + (S (S t).l).hu.c), zi ((S t).hg.w + (S (S t).l).hu.w)]), (79, .agg #[zi (S (S t).r).hu.c, zi (S (S t).r).hu.w])]) (fun gg => ⟨.inl ⟨6, by kernel_rfl, rfl, vv gg 6⟩, .inl ⟨8, by kernel_rfl, rfl, vv gg 8⟩, trivial⟩) (.inl ⟨rfl, rfl⟩) (fun gg f W ev hJ hf hd hn E => ?_)
    refine .inr (.inr ⟨80, #[.agg #[zi ((S t).hg.c + (S (S t).l).hu.c), zi ((S t).hg.w + (S (S t).l).hu.w)], .agg #[zi (S (S t).r).hu.c, zi (S (S t).r).hu.w]], ?_, ((unhide SU).h2 _).mono ?_⟩)
    ·clear hJ hf hd hn; have EF := E.func; have E77 := E.tmp 77 _ rfl; have E79 := E.tmp 79 _ rfl; clear E; clear vv HV LH SU; unfold O93_8_9; go_simp
    ·rintro e w9 ⟨rfl, hb9⟩
     exact ⟨_, rfl, gg, .inr (vv gg 9), fun _ => .inr (.inr rfl), hJ.below hb9⟩
   refine obsC (j := 11) (m := 9) rfl rfl ?_ ?_
   ·refine ob_look (o := O93_8_10) rfl (fun gg => [(72, .agg #[zi (S t).hu.c, zi (S t).hu.w]), (80, .agg #[zi (S t).hu.c, zi (S t).hu.w])]) (fun gg => ⟨.inl ⟨1, by kernel_rfl, rfl, vv gg 1⟩, .inl ⟨9, by kernel_rfl, rfl, vv gg 9⟩, trivial⟩) (.inl ⟨rfl, rfl⟩) (fun _ _ _ h => h) (fun gg f W ev hJ hd hn E => ?_)
    rw [show V gg 10 = .bool true from vv gg 10]; clear hJ hd hn; have E72 := E.tmp 72 _ rfl; have E80 := E.tmp 80 _ rfl; clear E; clear vv HV LH SU; unfold O93_8_10; (try simp only [slZ, smZ, putF, slV, smL, msL] at *); go_simp
   refine obsC (j := 12) (m := 8) rfl rfl ?_ ?_
   ·exact ob_copy (o := O93_8_11) (u := 81) rfl rfl (fun gg => ⟨.inl ⟨10, by kernel_rfl, rfl, (vv gg 10).trans (vv gg 11).symm⟩, trivial⟩) (.inl ⟨rfl, rfl⟩) (fun _ _ _ h => h)
   refine obsC (j := 13) (m := 7) rfl rfl ?_ ?_
   ·exact ob_copy (o := O93_8_12) (u := 10) rfl rfl (fun gg => ⟨.inr ⟨by rw [vv]; rfl, by kernel_rfl⟩, trivial⟩) (.inr (.inl ⟨11, true, rfl, by kernel_rfl, ⟨82, rfl⟩, fun gg => ⟨true, vv gg 11, rfl⟩⟩)) (fun _ _ _ h => h)
   refine obsC (j := 14) (m := 6) rfl rfl ?_ ?_
   ·exact ob_copy (o := O93_8_13) (u := 83) rfl rfl (fun gg => ⟨.inl ⟨12, by kernel_rfl, rfl, (vv gg 12).trans (vv gg 13).symm⟩, trivial⟩) (.inr (.inl ⟨11, true, rfl, by kernel_rfl, ⟨82, rfl⟩, fun gg => ⟨true, vv gg 11, rfl⟩⟩)) (fun _ _ _ h => h)
   refine obsC (j := 15) (m := 5) rfl rfl ?_ ?_
   ·refine ob_look (o := O93_8_14) rfl (fun gg => [(8, zp b8 0)]) (fun gg => ⟨.inr ⟨rfl, by kernel_rfl⟩, trivial⟩) (.inr (.inl ⟨13, false, rfl, by kernel_rfl, ⟨84, rfl⟩, fun gg => ⟨false, vv gg 13, rfl⟩⟩)) (fun _ _ _ h => h) (fun gg f W ev hJ hd hn E => ?_)
    rw [show V gg 14 = zp b8 0 from vv gg 14]; clear hJ hd hn; have E8 := E.tmp 8 _ rfl; clear E; clear vv HV LH SU; unfold O93_8_14; (try simp only [slZ, smZ, putF, slV, smL, msL] at *); go_simp
   refine obsC (j := 16) (m := 4) rfl rfl ?_ ?_
   ·refine ob_look (o := O93_8_15) rfl (fun gg => [(85, zp b8 0)]) (fun gg => ⟨.inl ⟨14, by kernel_rfl, rfl, vv gg 14⟩, trivial⟩) (.inr (.inl ⟨13, false, rfl, by kernel_rfl, ⟨84, rfl⟩, fun gg => ⟨false, vv gg 13, rfl⟩⟩)) (fun _ _ _ h => h) (fun gg f W ev hJ hd hn E => ?_)
    rw [show V gg 15 = zi (jn (S (S t).l).sm (S (S t).r).sm).c from vv gg 15]; have hJ9 := hJ; have q0 := (hJ9.box (List.Mem.tail _ (List.Mem.head _)) 0).1; change _ = some (zi (jn (S (S t).l).sm (S (S t).r).sm).c : Value) at q0; clear hJ9; clear hJ hd hn; have E85 := E.tmp 85 _ rfl; clear E; clear vv HV LH SU; unfold O93_8_15; (try simp only [slZ, smZ, putF, slV, smL, msL] at *); go_simp
   refine obsC (j := 17) (m := 3) rfl rfl ?_ ?_
   ·refine ob_look (o := O93_8_16) rfl (fun gg => [(86, zi (jn (S (S t).l).sm (S (S t).r).sm).c)]) (fun gg => ⟨.inl ⟨15, by kernel_rfl, rfl, vv gg 15⟩, trivial⟩) (.inr (.inl ⟨13, false, rfl, by kernel_rfl, ⟨84, rfl⟩, fun gg => ⟨false, vv gg 13, rfl⟩⟩)) (fun _ _ _ h => h) (fun gg f W ev hJ hd hn E => ?_)
    rw [show V gg 16 = .bool true from vv gg 16]; clear hJ hd hn; have EC := E.const; have E86 := E.tmp 86 _ rfl; clear E; clear vv HV LH SU; unfold O93_8_16; (try simp only [slZ, smZ, putF, slV, smL, msL] at *); go_simp
   refine obsC (j := 18) (m := 2) rfl rfl ?_ ?_
   ·refine ob_look (o := O93_8_17) rfl (fun gg => [(84, .bool false), (87, .bool true)]) (fun gg => ⟨.inl ⟨13, by kernel_rfl, rfl, vv gg 13⟩, .inl ⟨16, by kernel_rfl, rfl, vv gg 16⟩, trivial⟩) (.inr (.inl ⟨11, true, rfl, by kernel_rfl, ⟨82, rfl⟩, fun gg => ⟨true, vv gg 11, rfl⟩⟩)) (fun _ _ _ h => h) (fun gg f W ev hJ hd hn E => ?_)
    rw [show V gg 17 = .bool true from vv gg 17]; clear hJ hd hn; have EC := E.const; have E84 := E.tmp 84 _ rfl; have E87 := E.tmp 87 _ rfl; clear E; clear vv HV LH SU; unfold O93_8_17; (try simp only [slZ, smZ, putF, slV, smL, msL] at *); go_simp
   refine obsC (j := 19) (m := 1) rfl rfl ?_ ?_
   ·refine ob_look (o := O93_8_18) rfl (fun gg => [(82, .bool true), (88, .bool true)]) (fun gg => ⟨.inl ⟨11, by kernel_rfl, rfl, vv gg 11⟩, .inl ⟨17, by kernel_rfl, rfl, vv gg 17⟩, trivial⟩) (.inl ⟨rfl, rfl⟩) (fun _ _ _ h => h) (fun gg f W ev hJ hd hn E => ?_)
    rw [show V gg 18 = .bool true from vv gg 18]; clear hJ hd hn; have EC := E.const; have E82 := E.tmp 82 _ rfl; have E88 := E.tmp 88 _ rfl; clear E; clear vv HV LH SU; unfold O93_8_18; (try simp only [slZ, smZ, putF, slV, smL, msL] at *); go_simp
   refine obsC (j := 20) (m := 0) rfl rfl ?_ ?_
   ·exact ob_copy (o := O93_8_19) (u := 89) rfl rfl (fun gg => ⟨.inl ⟨18, by kernel_rfl, rfl, (vv gg 18).trans (vv gg 19).symm⟩, trivial⟩) (.inl ⟨rfl, rfl⟩) (fun _ _ _ h => h)
   exact True.intro
  have K51 : Kn a9 90 [(4, .bool true)] := hk.kn' (by kernel_rfl) hf ⟨.inl ⟨19, by kernel_rfl, rfl, vv gg 19⟩, trivial⟩
  clear hk FH FD HV vv K50
  have FH := hide hj
  clear hj hf
  refine thenN ?_
  refine wp_ret ?_
  refine bodyPost_ret (v := .bool true) ?_ K51.defers ⟨rfl, (unhide FH).keep, (unhide FH).po⟩
  have e4 := K51.has 4 _ rfl
  simp [results, Try.results93, go_sem, e4]
 ·refine seqR ?_
  refine lF K41 FA75_5 fun a42 K42 => ?_
  clear K41
  refine lT (zi (S t).wa) W37 K42 (want_none rfl) (fun ev E => ?_) fun a43 K43 => ?_
  ·have q0 := ((unhide FH).box (List.Mem.tail _ (List.Mem.tail _ (List.Mem.tail _ (List.Mem.tail _ (List.Mem.head _))))) 5).1; change _ = some (zi (S t).wa : Value) at q0; have E63 := E.tmp 63 _ rfl; clear E; clear FH LH SU; (try simp only [slZ, smZ, putF, slV, smL, msL] at *); go_simp
  clear K42
  refine lT (.bool false) W37 K43 (want_none rfl) (fun ev E => ?_) fun a44 K44 => ?_
  ·have EC := E.const; have E64 := E.tmp 64 _ rfl; clear E; clear FH LH SU; (try simp only [slZ, smZ, putF, slV, smL, msL] at *); go_simp
  clear K43
  refine lM K44 fun a45 K45 => ?_
  clear K44
  refine lskip K45 rfl rfl (want_not K45 rfl rfl rfl (by decide)) (fun a46 K46 => ?_)
  refine lskip K46 rfl rfl (want_not K46 rfl rfl rfl (by decide)) (fun a47 K47 => ?_)
  refine lskip K47 rfl rfl (want_not K47 rfl rfl rfl (by decide)) (fun a48 K48 => ?_)
  refine lT (.bool false) W37 K48 (want_none rfl) (fun ev E => ?_) fun a49 K49 => ?_
  ·have EC := E.const; have E66 := E.tmp 66 _ rfl; have E69 := E.tmp 69 _ rfl; clear E; clear FH LH SU; (try simp only [slZ, smZ, putF, slV, smL, msL] at *); go_simp
  clear K48
  refine lA K49 fun a50 K50 => ?_
  clear K49
  refine nilN ?_
  refine wp_seq ?_
  have FD := (unhide FH).drew
  obtain ⟨V, hV⟩ : ∃ V : (Unit) -> Nat -> Value, V = fun gg k => ([zp b5 12, .agg #[zi (S t).hu.c, zi (S t).hu.w], zp b5 10, .agg #[zi (S t).hg.c, zi (S t).hg.w], zp b6 12, .agg #[zi (S (S t).l).hu.c, zi (S (S t).l).hu.w], .agg #[zi ((S t).hg.c + (S (S t).l).hu.c), zi ((S t).hg.w + (S (S t).l).hu.w)], zp b7 12, .agg #[zi (S (S t).r).hu.c, zi (S (S t).r).hu.w], .agg #[zi (S t).hu.c, zi (S t).hu.w], .bool true, .bool true, .bool false, .bool false, zp b8 0, zi (jn (S (S t).l).sm (S (S t).r).sm).c, .bool true, .bool true, .bool true, .bool true] : List Value).getD k undef := ⟨_, rfl⟩
  have vv : ∀ gg k, V gg k = ([zp b5 12, .agg #[zi (S t).hu.c, zi (S t).hu.w], zp b5 10, .agg #[zi (S t).hg.c, zi (S t).hg.w], zp b6 12, .agg #[zi (S (S t).l).hu.c, zi (S (S t).l).hu.w], .agg #[zi ((S t).hg.c + (S (S t).l).hu.c), zi ((S t).hg.w + (S (S t).l).hu.w)], zp b7 12, .agg #[zi (S (S t).r).hu.c, zi (S (S t).r).hu.w], .agg #[zi (S t).hu.c, zi (S t).hu.w], .bool true, .bool true, .bool false, .bool false, zp b8 0, zi (jn (S (S t).l).sm (S (S t).r).sm).c, .bool true, .bool true, .bool true, .bool true] : List Value).getD k undef := fun _ _ => by rw [hV]
  have HV := hide (And.intro True.intro hV)
  clear hV
  show (Code.region 8 OPS93_8.toArray true).wp _ _ _ _
  refine wp_region_once (A := Unit) (V := V) (J := fun gg f W => Fr w W p g n cap room S [(b9, .cells (smC (S t).sm) 34 (0, 0)), (b8, .cells (smC (jn (S (S t).l).sm (S (S t).r).sm)) 34 (0, 0)), (b6, .cells (slC (S (S t).l)) 75 (0, 0)), (b7, .cells (slC (S (S t).r)) 75 (0, 0)), (b5, .cells (slC (S t)) 75 (0, 0))]) () 20 (by kernel_rfl) (by kernel_rfl) K50 (FD) (by kernel_rfl) ?_ (fun gg f a9 W9 hf hk hj => ?_)
  ·clear FH FD K50
   refine obsC (j := 1) (m := 19) rfl rfl ?_ ?_
   ·refine ob_look (o := O93_8_0) rfl (fun gg => [(5, zp b5 0)]) (fun gg => ⟨.inr ⟨rfl, by kernel_rfl⟩, trivial⟩) (.inl ⟨rfl, rfl⟩) (fun _ _ _ h => h) (fun gg f W ev hJ hd hn E => ?_)
    rw [show V gg 0 = zp b5 12 from vv gg 0]; clear hJ hd hn; have E5 := E.tmp 5 _ rfl; clear E; clear vv HV LH SU; unfold O93_8_0; (try simp only [slZ, smZ, putF, slV, smL, msL] at *); go_simp
   refine obsC (j := 2) (m := 18) rfl rfl ?_ ?_
   ·refine ob_look (o := O93_8_1) rfl (fun gg => [(71, zp b5 12)]) (fun gg => ⟨.inl ⟨0, by kernel_rfl, rfl, vv gg 0⟩, trivial⟩) (.inl ⟨rfl, rfl⟩) (fun _ _ _ h => h) (fun gg f W ev hJ hd hn E => ?_)
    rw [show V gg 1 = .agg #[zi (S t).hu.c, zi (S t).hu.w] from vv gg 1]; have hJ9 := hJ; have q0 := (hJ9.box (List.Mem.tail _ (List.Mem.tail _ (List.Mem.tail _ (List.Mem.tail _ (List.Mem.head _))))) 12).1; change _ = some (zi (S t).hu.c : Value) at q0; have q1 := (hJ9.box (List.Mem.tail _ (List.Mem.tail _ (List.Mem.tail _ (List.Mem.tail _ (List.Mem.head _))))) 13).1; change _ = some (zi (S t).hu.w : Value) at q1; clear hJ9; clear hJ hd hn; have E71 := E.tmp 71 _ rfl; clear E; clear vv HV LH SU; unfold O93_8_1; (try simp only [slZ, smZ, putF, slV, smL, msL] at *); go_simp
   refine obsC (j := 3) (m := 17) rfl rfl ?_ ?_
   ·refine ob_look (o := O93_8_2) rfl (fun gg => [(5, zp b5 0)]) (fun gg => ⟨.inr ⟨rfl, by kernel_rfl⟩, trivial⟩) (.inl ⟨rfl, rfl⟩) (fun _ _ _ h => h) (fun gg f W ev hJ hd hn E => ?_)
    rw [show V gg 2 = zp b5 10 from vv gg 2]; clear hJ hd hn; have E5 := E.tmp 5 _ rfl; clear E; clear vv HV LH SU; unfold O93_8_2; (try simp only [slZ, smZ, putF, slV, smL, msL] at *); go_simp
   refine obsC (j := 4) (m := 16) rfl rfl ?_ ?_
   ·refine ob_look (o := O93_8_3) rfl (fun gg => [(73, zp b5 10)]) (fun gg => ⟨.inl ⟨2, by kernel_rfl, rfl, vv gg 2⟩, trivial⟩) (.inl ⟨rfl, rfl⟩) (fun _ _ _ h => h) (fun gg f W ev hJ hd hn E => ?_)
    rw [show V gg 3 = .agg #[zi (S t).hg.c, zi (S t).hg.w] from vv gg 3]; have hJ9 := hJ; have q0 := (hJ9.box (List.Mem.tail _ (List.Mem.tail _ (List.Mem.tail _ (List.Mem.tail _ (List.Mem.head _))))) 10).1; change _ = some (zi (S t).hg.c : Value) at q0; have q1 := (hJ9.box (List.Mem.tail _ (List.Mem.tail _ (List.Mem.tail _ (List.Mem.tail _ (List.Mem.head _))))) 11).1; change _ = some (zi (S t).hg.w : Value) at q1; clear hJ9; clear hJ hd hn; have E73 := E.tmp 73 _ rfl; clear E; clear vv HV LH SU; unfold O93_8_3; (try simp only [slZ, smZ, putF, slV, smL, msL] at *); go_simp
   refine obsC (j := 5) (m := 15) rfl rfl ?_ ?_
   ·refine ob_look (o := O93_8_4) rfl (fun gg => [(6, zp b6 0)]) (fun gg => ⟨.inr ⟨rfl, by kernel_rfl⟩, trivial⟩) (.inl ⟨rfl, rfl⟩) (fun _ _ _ h => h) (fun gg f W ev hJ hd hn E => ?_)
    rw [show V gg 4 = zp b6 12 from vv gg 4]; clear hJ hd hn; have E6 := E.tmp 6 _ rfl; clear E; clear vv HV LH SU; unfold O93_8_4; (try simp only [slZ, smZ, putF, slV, smL, msL] at *); go_simp
   refine obsC (j := 6) (m := 14) rfl rfl ?_ ?_
   ·refine ob_look (o := O93_8_5) rfl (fun gg => [(75, zp b6 12)]) (fun gg => ⟨.inl ⟨4, by kernel_rfl, rfl, vv gg 4⟩, trivial⟩) (.inl ⟨rfl, rfl⟩) (fun _ _ _ h => h) (fun gg f W ev hJ hd hn E => ?_)
    rw [show V gg 5 = .agg #[zi (S (S t).l).hu.c, zi (S (S t).l).hu.w] from vv gg 5]; have hJ9 := hJ; have q0 := (hJ9.box (List.Mem.tail _ (List.Mem.tail _ (List.Mem.head _))) 12).1; change _ = some (zi (S (S t).l).hu.c : Value) at q0; have q1 := (hJ9.box (List.Mem.tail _ (List.Mem.tail _ (List.Mem.head _))) 13).1; change _ = some (zi (S (S t).l).hu.w : Value) at q1; clear hJ9; clear hJ hd hn; have E75 := E.tmp 75 _ rfl; clear E; clear vv HV LH SU; unfold O93_8_5; (try simp only [slZ, smZ, putF, slV, smL, msL] at *); go_simp
   refine obsC (j := 7) (m := 13) rfl rfl ?_ ?_
   ·refine ob_run (o := O93_8_6) rfl (fun gg => [(74, .agg #[zi (S t).hg.c, zi (S t).hg.w]), (76, .agg #[zi (S (S t).l).hu.c, zi (S (S t).l).hu.w])]) (fun gg => ⟨.inl ⟨3, by kernel_rfl, rfl, vv gg 3⟩, .inl ⟨5, by kernel_rfl, rfl, vv gg 5⟩, trivial⟩) (.inl ⟨rfl, rfl⟩) (fun gg f W ev hJ hf hd hn E => ?_)
    refine .inr (.inr ⟨80, #[.agg #[zi (S t).hg.c, zi (S t).hg.w], .agg #[zi (S (S t).l).hu.c, zi (S (S t).l).hu.w]], ?_, ((unhide SU).h1 _).mono ?_⟩)
    ·clear hJ hf hd hn; have EF := E.func; have E74 := E.tmp 74 _ rfl; have E76 := E.tmp 76 _ rfl; clear E; clear vv HV LH SU; unfold O93_8_6; go_simp
    ·rintro e w9 ⟨rfl, hb9⟩
     exact ⟨_, rfl, gg, .inr (vv gg 6), fun _ => .inr (.inr rfl), hJ.below hb9⟩
   refine obsC (j := 8) (m := 12) rfl rfl ?_ ?_
   ·refine ob_look (o := O93_8_7) rfl (fun gg => [(7, zp b7 0)]) (fun gg => ⟨.inr ⟨rfl, by kernel_rfl⟩, trivial⟩) (.inl ⟨rfl, rfl⟩) (fun _ _ _ h => h) (fun gg f W ev hJ hd hn E => ?_)
    rw [show V gg 7 = zp b7 12 from vv gg 7]; clear hJ hd hn; have E7 := E.tmp 7 _ rfl; clear E; clear vv HV LH SU; unfold O93_8_7; (try simp only [slZ, smZ, putF, slV, smL, msL] at *); go_simp
   refine obsC (j := 9) (m := 11) rfl rfl ?_ ?_
   ·refine ob_look (o := O93_8_8) rfl (fun gg => [(78, zp b7 12)]) (fun gg => ⟨.inl ⟨7, by kernel_rfl, rfl, vv gg 7⟩, trivial⟩) (.inl ⟨rfl, rfl⟩) (fun _ _ _ h => h) (fun gg f W ev hJ hd hn E => ?_)
    rw [show V gg 8 = .agg #[zi (S (S t).r).hu.c, zi (S (S t).r).hu.w] from vv gg 8]; have hJ9 := hJ; have q0 := (hJ9.box (List.Mem.tail _ (List.Mem.tail _ (List.Mem.tail _ (List.Mem.head _)))) 12).1; change _ = some (zi (S (S t).r).hu.c : Value) at q0; have q1 := (hJ9.box (List.Mem.tail _ (List.Mem.tail _ (List.Mem.tail _ (List.Mem.head _)))) 13).1; change _ = some (zi (S (S t).r).hu.w : Value) at q1; clear hJ9; clear hJ hd hn; have E78 := E.tmp 78 _ rfl; clear E; clear vv HV LH SU; unfold O93_8_8; (try simp only [slZ, smZ, putF, slV, smL, msL] at *); go_simp
   refine obsC (j := 10) (m := 10) rfl rfl ?_ ?_
   ·refine ob_run (o := O93_8_9) rfl (fun gg => [(77, .agg #[zi ((S t).hg.c + (S (S t).l).hu.c), zi ((S t).hg.w + (S (S t).l).hu.w)]), (79, .agg #[zi (S (S t).r).hu.c, zi (S (S t).r).hu.w])]) (fun gg => ⟨.inl ⟨6, by kernel_rfl, rfl, vv gg 6⟩, .inl ⟨8, by kernel_rfl, rfl, vv gg 8⟩, trivial⟩) (.inl ⟨rfl, rfl⟩) (fun gg f W ev hJ hf hd hn E => ?_)
    refine .inr (.inr ⟨80, #[.agg #[zi ((S t).hg.c + (S (S t).l).hu.c), zi ((S t).hg.w + (S (S t).l).hu.w)], .agg #[zi (S (S t).r).hu.c, zi (S (S t).r).hu.w]], ?_, ((unhide SU).h2 _).mono ?_⟩)
    ·clear hJ hf hd hn; have EF := E.func; have E77 := E.tmp 77 _ rfl; have E79 := E.tmp 79 _ rfl; clear E; clear vv HV LH SU; unfold O93_8_9; go_simp
    ·rintro e w9 ⟨rfl, hb9⟩
     exact ⟨_, rfl, gg, .inr (vv gg 9), fun _ => .inr (.inr rfl), hJ.below hb9⟩
   refine obsC (j := 11) (m := 9) rfl rfl ?_ ?_
   ·refine ob_look (o := O93_8_10) rfl (fun gg => [(72, .agg #[zi (S t).hu.c, zi (S t).hu.w]), (80, .agg #[zi (S t).hu.c, zi (S t).hu.w])]) (fun gg => ⟨.inl ⟨1, by kernel_rfl, rfl, vv gg 1⟩, .inl ⟨9, by kernel_rfl, rfl, vv gg 9⟩, trivial⟩) (.inl ⟨rfl, rfl⟩) (fun _ _ _ h => h) (fun gg f W ev hJ hd hn E => ?_)
    rw [show V gg 10 = .bool true from vv gg 10]; clear hJ hd hn; have E72 := E.tmp 72 _ rfl; have E80 := E.tmp 80 _ rfl; clear E; clear vv HV LH SU; unfold O93_8_10; (try simp only [slZ, smZ, putF, slV, smL, msL] at *); go_simp
   refine obsC (j := 12) (m := 8) rfl rfl ?_ ?_
   ·exact ob_copy (o := O93_8_11) (u := 81) rfl rfl (fun gg => ⟨.inl ⟨10, by kernel_rfl, rfl, (vv gg 10).trans (vv gg 11).symm⟩, trivial⟩) (.inl ⟨rfl, rfl⟩) (fun _ _ _ h => h)
   refine obsC (j := 13) (m := 7) rfl rfl ?_ ?_
   ·exact ob_copy (o := O93_8_12) (u := 10) rfl rfl (fun gg => ⟨.inr ⟨by rw [vv]; rfl, by kernel_rfl⟩, trivial⟩) (.inr (.inl ⟨11, true, rfl, by kernel_rfl, ⟨82, rfl⟩, fun gg => ⟨true, vv gg 11, rfl⟩⟩)) (fun _ _ _ h => h)
   refine obsC (j := 14) (m := 6) rfl rfl ?_ ?_
   ·exact ob_copy (o := O93_8_13) (u := 83) rfl rfl (fun gg => ⟨.inl ⟨12, by kernel_rfl, rfl, (vv gg 12).trans (vv gg 13).symm⟩, trivial⟩) (.inr (.inl ⟨11, true, rfl, by kernel_rfl, ⟨82, rfl⟩, fun gg => ⟨true, vv gg 11, rfl⟩⟩)) (fun _ _ _ h => h)
   refine obsC (j := 15) (m := 5) rfl rfl ?_ ?_
   ·refine ob_look (o := O93_8_14) rfl (fun gg => [(8, zp b8 0)]) (fun gg => ⟨.inr ⟨rfl, by kernel_rfl⟩, trivial⟩) (.inr (.inl ⟨13, false, rfl, by kernel_rfl, ⟨84, rfl⟩, fun gg => ⟨false, vv gg 13, rfl⟩⟩)) (fun _ _ _ h => h) (fun gg f W ev hJ hd hn E => ?_)
    rw [show V gg 14 = zp b8 0 from vv gg 14]; clear hJ hd hn; have E8 := E.tmp 8 _ rfl; clear E; clear vv HV LH SU; unfold O93_8_14; (try simp only [slZ, smZ, putF, slV, smL, msL] at *); go_simp
   refine obsC (j := 16) (m := 4) rfl rfl ?_ ?_
   ·refine ob_look (o := O93_8_15) rfl (fun gg => [(85, zp b8 0)]) (fun gg => ⟨.inl ⟨14, by kernel_rfl, rfl, vv gg 14⟩, trivial⟩) (.inr (.inl ⟨13, false, rfl, by kernel_rfl, ⟨84, rfl⟩, fun gg => ⟨false, vv gg 13, rfl⟩⟩)) (fun _ _ _ h => h) (fun gg f W ev hJ hd hn E => ?_)
    rw [show V gg 15 = zi (jn (S (S t).l).sm (S (S t).r).sm).c from vv gg 15]; have hJ9 := hJ; have q0 := (hJ9.box (List.Mem.tail _ (List.Mem.head _)) 0).1; change _ = some (zi (jn (S (S t).l).sm (S (S t).r).sm).c : Value) at q0; clear hJ9; clear hJ hd hn; have E85 := E.tmp 85 _ rfl; clear E; clear vv HV LH SU; unfold O93_8_15; (try simp only [slZ, smZ, putF, slV, smL, msL] at *); go_simp
   refine obsC (j := 17) (m := 3) rfl rfl ?_ ?_
   ·refine ob_look (o := O93_8_16) rfl (fun gg => [(86, zi (jn (S (S t).l).sm (S (S t).r).sm).c)]) (fun gg => ⟨.inl ⟨15, by kernel_rfl, rfl, vv gg 15⟩, trivial⟩) (.inr (.inl ⟨13, false, rfl, by kernel_rfl, ⟨84, rfl⟩, fun gg => ⟨false, vv gg 13, rfl⟩⟩)) (fun _ _ _ h => h) (fun gg f W ev hJ hd hn E => ?_)
    rw [show V gg 16 = .bool true from vv gg 16]; clear hJ hd hn; have EC := E.const; have E86 := E.tmp 86 _ rfl; clear E; clear vv HV LH SU; unfold O93_8_16; (try simp only [slZ, smZ, putF, slV, smL, msL] at *); go_simp
   refine obsC (j := 18) (m := 2) rfl rfl ?_ ?_
   ·refine ob_look (o := O93_8_17) rfl (fun gg => [(84, .bool false), (87, .bool true)]) (fun gg => ⟨.inl ⟨13, by kernel_rfl, rfl, vv gg 13⟩, .inl ⟨16, by kernel_rfl, rfl, vv gg 16⟩, trivial⟩) (.inr (.inl ⟨11, true, rfl, by kernel_rfl, ⟨82, rfl⟩, fun gg => ⟨true, vv gg 11, rfl⟩⟩)) (fun _ _ _ h => h) (fun gg f W ev hJ hd hn E => ?_)
    rw [show V gg 17 = .bool true from vv gg 17]; clear hJ hd hn; have EC := E.const; have E84 := E.tmp 84 _ rfl; have E87 := E.tmp 87 _ rfl; clear E; clear vv HV LH SU; unfold O93_8_17; (try simp only [slZ, smZ, putF, slV, smL, msL] at *); go_simp
   refine obsC (j := 19) (m := 1) rfl rfl ?_ ?_
   ·refine ob_look (o := O93_8_18) rfl (fun gg => [(82, .bool true), (88, .bool true)]) (fun gg => ⟨.inl ⟨11, by kernel_rfl, rfl, vv gg 11⟩, .inl ⟨17, by kernel_rfl, rfl, vv gg 17⟩, trivial⟩) (.inl ⟨rfl, rfl⟩) (fun _ _ _ h => h) (fun gg f W ev hJ hd hn E => ?_)
    rw [show V gg 18 = .bool true from vv gg 18]; clear hJ hd hn; have EC := E.const; have E82 := E.tmp 82 _ rfl; have E88 := E.tmp 88 _ rfl; clear E; clear vv HV LH SU; unfold O93_8_18; (try simp only [slZ, smZ, putF, slV, smL, msL] at *); go_simp
   refine obsC (j := 20) (m := 0) rfl rfl ?_ ?_
   ·exact ob_copy (o := O93_8_19) (u := 89) rfl rfl (fun gg => ⟨.inl ⟨18, by kernel_rfl, rfl, (vv gg 18).trans (vv gg 19).symm⟩, trivial⟩) (.inl ⟨rfl, rfl⟩) (fun _ _ _ h => h)
   exact True.intro
  have K51 : Kn a9 90 [(4, .bool true)] := hk.kn' (by kernel_rfl) hf ⟨.inl ⟨19, by kernel_rfl, rfl, vv gg 19⟩, trivial⟩
  clear hk FH FD HV vv K50
  have FH := hide hj
  clear hj hf
  refine thenN ?_
  refine wp_ret ?_
  refine bodyPost_ret (v := .bool true) ?_ K51.defers ⟨rfl, (unhide FH).keep, (unhide FH).po⟩
  have e4 := K51.has 4 _ rfl
  simp [results, Try.results93, go_sem, e4]
end Go.Proofs.Ytjnkgakajenoaaa

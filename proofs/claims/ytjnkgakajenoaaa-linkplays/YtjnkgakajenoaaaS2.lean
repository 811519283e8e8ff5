/- Part 2 of the texts. -/
import Derived.Test.YtjnkgakajenoaaaS1
namespace Go.Proofs.Ytjnkgakajenoaaa
open Go.RowKit Go.Arb
set_option linter.unusedVariables false
set_option linter.unusedSimpArgs false
set_option maxRecDepth 100000
def Norm (R : Act -> World -> Prop) : Exit -> Act -> World -> Prop
 | .normal, a, w => R a w
 | _, _, _ => False
theorem norm_q {NX : Act -> World -> Prop} : ∀ c a a' w, Norm NX (.panic c) a w -> Norm NX (.panic c) a' w := fun _ _ _ _ h => h
theorem seqN {P : Program} {Q : Exit -> Act -> World -> Prop} {a : Act} {w : World} {x y : Code} (h : x.wp P (Norm (fun a w => y.wp P Q a w)) a w) : (Code.seq x y).wp P Q a w :=
 wp_seq (Code.wp_mono (fun e a w h => by cases e <;> first | exact h | exact h.elim) h)
theorem nilN {P : Program} {ops : Array Oper} {R : Act -> World -> Prop} {a : Act} {w : World} (h : R a w) : wpList P ops (Norm R) [] a w := wpList_nil h
theorem seqR {P : Program} {Q : Exit -> Act -> World -> Prop} {a : Act} {w : World} {id : Nat} {l : List Oper} {y : Code} (h : wpList P l.toArray (Norm (fun a w => y.wp P Q a w)) l a w) : (Code.seq (Code.region id l.toArray false) y).wp P Q a w := seqN (wp_region_lit h)
theorem lastN {P : Program} {Q : Exit -> Act -> World -> Prop} {a : Act} {w : World} {x : Code} (h : x.wp P (Norm (fun a w => Q .normal a w)) a w) : x.wp P Q a w :=
 Code.wp_mono (fun e a w h => by cases e <;> first | exact h | exact h.elim) h
theorem thenRet {next : Act -> World -> Prop} {Q : Exit -> Act -> World -> Prop} {a : Act} {w : World} (h : Q .ret a w) : Exit.then next Q .ret a w := h
theorem Pool.drew {w : World} {p g n cap room : Nat} {S : Ss} (h : Pool w p g n cap room S) : Pool w.drew p g n cap room S := h.keep ((Keep.refl [] w).drew) (by simp) (by simp)
def isTopB (S : Ss) (t : Nat) : Bool := !(((S (S t).up).l == t) || ((S (S t).up).r == t))
def O87_1_0 : Oper := ⟨some 6, .move (.tmp 0), 23, "path.go:5", #[], none⟩
def O87_1_1 : Oper := ⟨some 7, .nilCheck (.tmp 6), 0, "path.go:5", #[⟨0, .data⟩], none⟩
def O87_1_2 : Oper := ⟨some 8, .fieldAddr 66 (.tmp 7) 1, 0, "path.go:5", #[⟨1, .data⟩], none⟩
def O87_1_3 : Oper := ⟨some 9, .load 64 (.tmp 8), 64, "path.go:5", #[⟨2, .data⟩], none⟩
def O87_1_4 : Oper := ⟨some 10, .move (.tmp 0), 23, "path.go:5", #[], none⟩
def O87_1_5 : Oper := ⟨some 11, .nilCheck (.tmp 10), 0, "path.go:5", #[⟨4, .data⟩], none⟩
def O87_1_6 : Oper := ⟨some 12, .fieldAddr 66 (.tmp 11) 1, 0, "path.go:5", #[⟨5, .data⟩], none⟩
def O87_1_7 : Oper := ⟨some 13, .load 64 (.tmp 12), 64, "path.go:5", #[⟨6, .data⟩], none⟩
def O87_1_8 : Oper := ⟨some 14, .move (.tmp 1), 3, "path.go:5", #[], none⟩
def O87_1_9 : Oper := ⟨some 15, .indexAddr 64 (.tmp 13) (.tmp 14), 0, "path.go:5", #[⟨7, .data⟩, ⟨8, .data⟩], none⟩
def O87_1_10 : Oper := ⟨some 16, .fieldAddr 75 (.tmp 15) 0, 0, "path.go:5", #[⟨9, .data⟩], none⟩
def O87_1_11 : Oper := ⟨some 17, .load 3 (.tmp 16), 3, "path.go:5", #[⟨10, .data⟩], none⟩
def O87_1_12 : Oper := ⟨some 18, .indexAddr 64 (.tmp 9) (.tmp 17), 0, "path.go:5", #[⟨3, .data⟩, ⟨11, .data⟩], none⟩
def O87_1_13 : Oper := ⟨some 5, .assign (.tmp 18), 85, "path.go:5", #[⟨12, .data⟩, ⟨0, .phase⟩, ⟨1, .phase⟩, ⟨2, .phase⟩, ⟨3, .phase⟩, ⟨4, .phase⟩, ⟨5, .phase⟩, ⟨6, .phase⟩, ⟨7, .phase⟩, ⟨8, .phase⟩, ⟨9, .phase⟩, ⟨10, .phase⟩, ⟨11, .phase⟩, ⟨12, .phase⟩], none⟩
def OPS87_1 : List Oper := [O87_1_0, O87_1_1, O87_1_2, O87_1_3, O87_1_4, O87_1_5, O87_1_6, O87_1_7, O87_1_8, O87_1_9, O87_1_10, O87_1_11, O87_1_12, O87_1_13]
theorem NS87_1 : Region.noSelect OPS87_1.toArray = true := by kernel_rfl
set_option maxHeartbeats 4000000 in
theorem rg87_1 {p g n cap room t : Nat} {S : Ss} {NX : Act -> World -> Prop} {a0 : Act} {w : World} (K0 : Kn a0 33 [(0, zp p 0), (1, zi t)]) (h : Pool w p g n cap room S) (ht : t < n) (hu : (S t).up < n)
  (hN : ∀ a', Kn a' 33 [(1, zi t), (5, zp g ((S t).up * 14))] -> NX a' w.drew) : (Code.region 1 OPS87_1.toArray true).wp Try.prog (Norm NX) a0 w := by
 have hq := @norm_q NX
 have hS : (fun w' : World => Pool w' p g n cap room S) w.drew := h.drew
 have e1 : (0 : Int) <= (t : Int) := by omega
 have e2 : (t : Int) < (n : Int) := by omega
 have e3 : (0 : Int) <= ((S t).up : Int) := by omega
 have e4 : ((S t).up : Int) < (n : Int) := by omega
 clear h
 refine wp_region_till (t := 13) (S := (fun w' : World => Pool w' p g n cap room S)) (by kernel_rfl) ?_
 rw [show (OPS87_1.toArray).size = 14 from by kernel_rfl]
 refine utake (i := 0) (o := O87_1_0) (v := zp p 0) K0 hq rfl NS87_1 (by kernel_rfl) (by kernel_rfl) (by kernel_rfl) (by kernel_rfl) rfl rfl (want_none rfl) (fun ev E w9 hSw => ?_) hS (fun a1 K1 => ?_)
 ·clear hSw; clear hN hq hS; have E0 := E.tmp 0 _ rfl; clear E; unfold O87_1_0; go_simp
 refine utake (i := 1) (o := O87_1_1) (v := zp p 0) K1 hq rfl NS87_1 (by kernel_rfl) (by kernel_rfl) (by kernel_rfl) (by kernel_rfl) rfl rfl (want_none rfl) (fun ev E w9 hSw => ?_) hS (fun a2 K2 => ?_)
 ·clear hSw; clear hN hq hS; have E6 := E.tmp 6 _ rfl; clear E; unfold O87_1_1; go_simp
 clear K1
 refine utake (i := 2) (o := O87_1_2) (v := zp p 1) K2 hq rfl NS87_1 (by kernel_rfl) (by kernel_rfl) (by kernel_rfl) (by kernel_rfl) rfl rfl (want_none rfl) (fun ev E w9 hSw => ?_) hS (fun a3 K3 => ?_)
 ·clear hSw; clear hN hq hS; have E7 := E.tmp 7 _ rfl; clear E; unfold O87_1_2; go_simp
 clear K2
 refine utake (i := 3) (o := O87_1_3) (v := .slice (some ⟨g, 0, none⟩) n cap) K3 hq rfl NS87_1 (by kernel_rfl) (by kernel_rfl) (by kernel_rfl) (by kernel_rfl) rfl rfl (want_none rfl) (fun ev E w9 hSw => ?_) hS (fun a4 K4 => ?_)
 ·obtain ⟨_, c1, _⟩ := hSw.head; obtain ⟨s0, _⟩ := hSw.slot ht; clear hSw; clear hN hq hS; have E8 := E.tmp 8 _ rfl; clear E; unfold O87_1_3; go_simp
 clear K3
 refine utake (i := 4) (o := O87_1_4) (v := zp p 0) K4 hq rfl NS87_1 (by kernel_rfl) (by kernel_rfl) (by kernel_rfl) (by kernel_rfl) rfl rfl (want_none rfl) (fun ev E w9 hSw => ?_) hS (fun a5 K5 => ?_)
 ·clear hSw; clear hN hq hS; have E0 := E.tmp 0 _ rfl; clear E; unfold O87_1_4; go_simp
 clear K4
 refine utake (i := 5) (o := O87_1_5) (v := zp p 0) K5 hq rfl NS87_1 (by kernel_rfl) (by kernel_rfl) (by kernel_rfl) (by kernel_rfl) rfl rfl (want_none rfl) (fun ev E w9 hSw => ?_) hS (fun a6 K6 => ?_)
 ·clear hSw; clear hN hq hS; have E10 := E.tmp 10 _ rfl; clear E; unfold O87_1_5; go_simp
 clear K5
 refine utake (i := 6) (o := O87_1_6) (v := zp p 1) K6 hq rfl NS87_1 (by kernel_rfl) (by kernel_rfl) (by kernel_rfl) (by kernel_rfl) rfl rfl (want_none rfl) (fun ev E w9 hSw => ?_) hS (fun a7 K7 => ?_)
 ·clear hSw; clear hN hq hS; have E11 := E.tmp 11 _ rfl; clear E; unfold O87_1_6; go_simp
 clear K6
 refine utake (i := 7) (o := O87_1_7) (v := .slice (some ⟨g, 0, none⟩) n cap) K7 hq rfl NS87_1 (by kernel_rfl) (by kernel_rfl) (by kernel_rfl) (by kernel_rfl) rfl rfl (want_none rfl) (fun ev E w9 hSw => ?_) hS (fun a8 K8 => ?_)
 ·obtain ⟨_, c1, _⟩ := hSw.head; obtain ⟨s0, _⟩ := hSw.slot ht; clear hSw; clear hN hq hS; have E12 := E.tmp 12 _ rfl; clear E; unfold O87_1_7; go_simp
 clear K7
 refine utake (i := 8) (o := O87_1_8) (v := zi t) K8 hq rfl NS87_1 (by kernel_rfl) (by kernel_rfl) (by kernel_rfl) (by kernel_rfl) rfl rfl (want_none rfl) (fun ev E w9 hSw => ?_) hS (fun a9 K9 => ?_)
 ·clear hSw; clear hN hq hS; have E1 := E.tmp 1 _ rfl; clear E; unfold O87_1_8; go_simp
 clear K8
 refine utake (i := 9) (o := O87_1_9) (v := zp g (t * 14)) K9 hq rfl NS87_1 (by kernel_rfl) (by kernel_rfl) (by kernel_rfl) (by kernel_rfl) rfl rfl (want_none rfl) (fun ev E w9 hSw => ?_) hS (fun a10 K10 => ?_)
 ·clear hSw; clear hN hq hS; have E13 := E.tmp 13 _ rfl; have E14 := E.tmp 14 _ rfl; clear E; unfold O87_1_9; go_simp
 clear K9
 refine utake (i := 10) (o := O87_1_10) (v := zp g (t * 14)) K10 hq rfl NS87_1 (by kernel_rfl) (by kernel_rfl) (by kernel_rfl) (by kernel_rfl) rfl rfl (want_none rfl) (fun ev E w9 hSw => ?_) hS (fun a11 K11 => ?_)
 ·clear hSw; clear hN hq hS; have E15 := E.tmp 15 _ rfl; clear E; unfold O87_1_10; go_simp
 clear K10
 refine utake (i := 11) (o := O87_1_11) (v := zi ((S t).up : Int)) K11 hq rfl NS87_1 (by kernel_rfl) (by kernel_rfl) (by kernel_rfl) (by kernel_rfl) rfl rfl (want_none rfl) (fun ev E w9 hSw => ?_) hS (fun a12 K12 => ?_)
 ·obtain ⟨_, c1, _⟩ := hSw.head; obtain ⟨s0, _⟩ := hSw.slot ht; clear hSw; clear hN hq hS; have E16 := E.tmp 16 _ rfl; clear E; unfold O87_1_11; go_simp
 clear K11
 refine utake (i := 12) (o := O87_1_12) (v := zp g ((S t).up * 14)) K12 hq rfl NS87_1 (by kernel_rfl) (by kernel_rfl) (by kernel_rfl) (by kernel_rfl) rfl rfl (want_none rfl) (fun ev E w9 hSw => ?_) hS (fun a13 K13 => ?_)
 ·clear hSw; clear hN hq hS; have E9 := E.tmp 9 _ rfl; have E17 := E.tmp 17 _ rfl; clear E; unfold O87_1_12; go_simp
 clear K12
 refine uone (i := 13) (o := ⟨some 5, .assign (.tmp 18), 85, "path.go:5", #[⟨12, .data⟩, ⟨0, .phase⟩, ⟨1, .phase⟩, ⟨2, .phase⟩, ⟨3, .phase⟩, ⟨4, .phase⟩, ⟨5, .phase⟩, ⟨6, .phase⟩, ⟨7, .phase⟩, ⟨8, .phase⟩, ⟨9, .phase⟩, ⟨10, .phase⟩, ⟨11, .phase⟩, ⟨12, .phase⟩], none⟩) K13 rfl (by kernel_rfl) rfl rfl (want_none rfl) (leaves_value (v := zp g ((S t).up * 14)) (w' := w.drew) K13 (fun ev E => by clear hN hq hS; have E18 := E.tmp 18 _ rfl; clear E; go_simp)) (fun v9 W9 hR => ?_)
 obtain ⟨rfl, rfl⟩ := hR
 refine ⟨fun hx => absurd hx (by decide), fun a14 K14 => ?_⟩
 refine till_done (by kernel_rfl) ?_ _
 exact hN _ (K14.less ⟨rfl, rfl, trivial⟩)
set_option maxHeartbeats 4000000 in
theorem isTop_any {p g n cap room t : Nat} {S : Ss} {w : World} (h : Pool w p g n cap room S) (ht : t < n) (hu : (S t).up < n) :
  Calls Try.prog 87 #[zp p 0, zi t] w fun e w' => e = .returned (.bool (isTopB S t)) /\ Pool w' p g n cap room S /\ Keep [] w w' := by
 have HH := hide h
 clear h
 refine callsK (n := 33) (L := [(0, zp p 0), (1, zi t)]) Try.func87 rfl Try.ntmps87 rfl rfl (fun a0 K0 => ?_)
 refine seqR ?_
 refine lC K0 fun a1 K1 => ?_
 refine nilN ?_
 have K2 : Kn _ 33 [(0, zp p 0), (1, zi t)] := K1.less ⟨rfl, rfl, trivial⟩
 clear K1
 refine seqN (rg87_1 K2 (unhide HH) ht hu fun a9 K9 => ?_)
 have HP := hide (And.intro (unhide HH).drew ((Keep.refl [] w).drew))
 generalize w.drew = V at *
 obtain ⟨_, s1, s2, _⟩ := (unhide HP).1.slot hu
 by_cases h1 : (S (S t).up).l = t
 ·have i1 : ((S (S t).up).l : Int) = (t : Int) := by omega
  refine seqR ?_
  refine lM K9 fun a8 K8 => ?_
  clear K9
  refine lN K8 fun a9 K9 => ?_
  clear K8
  refine lF K9 FA75_1 fun a10 K10 => ?_
  clear K9
  refine lT (zi ((S (S t).up).l : Int)) V K10 (want_none rfl) (fun ev E => ?_) fun a11 K11 => ?_
  ·have E21 := E.tmp 21 _ rfl; clear E; clear HH HP; go_simp
  clear K10
  refine lM K11 fun a12 K12 => ?_
  clear K11
  refine lT (.bool false) V K12 (want_none rfl) (fun ev E => ?_) fun a13 K13 => ?_
  ·have E22 := E.tmp 22 _ rfl; have E23 := E.tmp 23 _ rfl; clear E; clear HH HP; go_simp
  clear K12
  refine lM K13 fun a14 K14 => ?_
  clear K13
  refine lskip K14 rfl rfl (want_not K14 rfl rfl rfl (by decide)) (fun a15 K15 => ?_)
  refine lskip K15 rfl rfl (want_not K15 rfl rfl rfl (by decide)) (fun a16 K16 => ?_)
  refine lskip K16 rfl rfl (want_not K16 rfl rfl rfl (by decide)) (fun a17 K17 => ?_)
  refine lskip K17 rfl rfl (want_not K17 rfl rfl rfl (by decide)) (fun a18 K18 => ?_)
  refine lskip K18 rfl rfl (want_not K18 rfl rfl rfl (by decide)) (fun a19 K19 => ?_)
  refine lskip K19 rfl rfl (want_not K19 rfl rfl rfl (by decide)) (fun a20 K20 => ?_)
  refine lT (.bool false) V K20 (want_none rfl) (fun ev E => ?_) fun a21 K21 => ?_
  ·have EC := E.const; have E25 := E.tmp 25 _ rfl; have E31 := E.tmp 31 _ rfl; clear E; clear HH HP; go_simp
  clear K20
  refine lA K21 fun a22 K22 => ?_
  clear K21
  refine wpList_nil ?_
  refine wp_ret ?_
  refine bodyPost_ret (v := .bool false) ?_ K22.defers ⟨by simp [isTopB, *], unhide HP⟩
  have e4 := K22.has 4 _ rfl
  simp [results, Try.results87, go_sem, e4]
 ·have i1 : ¬ ((S (S t).up).l : Int) = (t : Int) := by omega
  by_cases h2 : (S (S t).up).r = t
  ·have i2 : ((S (S t).up).r : Int) = (t : Int) := by omega
   refine seqR ?_
   refine lM K9 fun a8 K8 => ?_
   clear K9
   refine lN K8 fun a9 K9 => ?_
   clear K8
   refine lF K9 FA75_1 fun a10 K10 => ?_
   clear K9
   refine lT (zi ((S (S t).up).l : Int)) V K10 (want_none rfl) (fun ev E => ?_) fun a11 K11 => ?_
   ·have E21 := E.tmp 21 _ rfl; clear E; clear HH HP; go_simp
   clear K10
   refine lM K11 fun a12 K12 => ?_
   clear K11
   refine lT (.bool true) V K12 (want_none rfl) (fun ev E => ?_) fun a13 K13 => ?_
   ·have E22 := E.tmp 22 _ rfl; have E23 := E.tmp 23 _ rfl; clear E; clear HH HP; go_simp
   clear K12
   refine lM K13 fun a14 K14 => ?_
   clear K13
   refine lmv K14 rfl rfl (want_some K14 rfl rfl rfl) rfl rfl (fun a15 K15 => ?_)
   clear K14
   refine lnc K15 rfl rfl (want_some K15 rfl rfl rfl) rfl rfl (fun a16 K16 => ?_)
   clear K15
   refine lfa K16 rfl rfl (want_some K16 rfl rfl rfl) rfl rfl FA75_2 (fun a17 K17 => ?_)
   clear K16
   refine lT (zi ((S (S t).up).r : Int)) V K17 (want_some K17 rfl rfl rfl) (fun ev E => ?_) fun a18 K18 => ?_
   ·have E28 := E.tmp 28 _ rfl; clear E; clear HH HP; go_simp
   clear K17
   refine lmv K18 rfl rfl (want_some K18 rfl rfl rfl) rfl rfl (fun a19 K19 => ?_)
   clear K18
   refine lT (.bool false) V K19 (want_some K19 rfl rfl rfl) (fun ev E => ?_) fun a20 K20 => ?_
   ·have E29 := E.tmp 29 _ rfl; have E30 := E.tmp 30 _ rfl; clear E; clear HH HP; go_simp
   clear K19
   refine lT (.bool false) V K20 (want_none rfl) (fun ev E => ?_) fun a21 K21 => ?_
   ·have EC := E.const; have E25 := E.tmp 25 _ rfl; have E31 := E.tmp 31 _ rfl; clear E; clear HH HP; go_simp
   clear K20
   refine lA K21 fun a22 K22 => ?_
   clear K21
   refine wpList_nil ?_
   refine wp_ret ?_
   refine bodyPost_ret (v := .bool false) ?_ K22.defers ⟨by simp [isTopB, *], unhide HP⟩
   have e4 := K22.has 4 _ rfl
   simp [results, Try.results87, go_sem, e4]
  ·have i2 : ¬ ((S (S t).up).r : Int) = (t : Int) := by omega
   refine seqR ?_
   refine lM K9 fun a8 K8 => ?_
   clear K9
   refine lN K8 fun a9 K9 => ?_
   clear K8
   refine lF K9 FA75_1 fun a10 K10 => ?_
   clear K9
   refine lT (zi ((S (S t).up).l : Int)) V K10 (want_none rfl) (fun ev E => ?_) fun a11 K11 => ?_
   ·have E21 := E.tmp 21 _ rfl; clear E; clear HH HP; go_simp
   clear K10
   refine lM K11 fun a12 K12 => ?_
   clear K11
   refine lT (.bool true) V K12 (want_none rfl) (fun ev E => ?_) fun a13 K13 => ?_
   ·have E22 := E.tmp 22 _ rfl; have E23 := E.tmp 23 _ rfl; clear E; clear HH HP; go_simp
   clear K12
   refine lM K13 fun a14 K14 => ?_
   clear K13
   refine lmv K14 rfl rfl (want_some K14 rfl rfl rfl) rfl rfl (fun a15 K15 => ?_)
   clear K14
   refine lnc K15 rfl rfl (want_some K15 rfl rfl rfl) rfl rfl (fun a16 K16 => ?_)
   clear K15
   refine lfa K16 rfl rfl (want_some K16 rfl rfl rfl) rfl rfl FA75_2 (fun a17 K17 => ?_)
   clear K16
   refine lT (zi ((S (S t).up).r : Int)) V K17 (want_some K17 rfl rfl rfl) (fun ev E => ?_) fun a18 K18 => ?_
   ·have E28 := E.tmp 28 _ rfl; clear E; clear HH HP; go_simp
   clear K17
   refine lmv K18 rfl rfl (want_some K18 rfl rfl rfl) rfl rfl (fun a19 K19 => ?_)
   clear K18
   refine lT (.bool true) V K19 (want_some K19 rfl rfl rfl) (fun ev E => ?_) fun a20 K20 => ?_
   ·have E29 := E.tmp 29 _ rfl; have E30 := E.tmp 30 _ rfl; clear E; clear HH HP; go_simp
   clear K19
   refine lT (.bool true) V K20 (want_none rfl) (fun ev E => ?_) fun a21 K21 => ?_
   ·have EC := E.const; have E25 := E.tmp 25 _ rfl; have E31 := E.tmp 31 _ rfl; clear E; clear HH HP; go_simp
   clear K20
   refine lA K21 fun a22 K22 => ?_
   clear K21
   refine wpList_nil ?_
   refine wp_ret ?_
   refine bodyPost_ret (v := .bool true) ?_ K22.defers ⟨by simp [isTopB, *], unhide HP⟩
   have e4 := K22.has 4 _ rfl
   simp [results, Try.results87, go_sem, e4]
def turnS (S : Ss) (t : Nat) : Ss := if 1 < (S t).sm.c then upd S t { S t with l := (S t).r, r := (S t).l, tn := !(S t).tn } else S
def O62_2_0 : Oper := ⟨some 17, .move (.tmp 4), 85, "slot.go:56", #[], none⟩
def O62_2_1 : Oper := ⟨some 18, .move (.tmp 4), 85, "slot.go:56", #[⟨12, (Ground.gcOnly Departure.lateStores)⟩], none⟩
def O62_2_2 : Oper := ⟨some 19, .move (.tmp 4), 85, "slot.go:56", #[], none⟩
def O62_2_3 : Oper := ⟨some 20, .nilCheck (.tmp 19), 0, "slot.go:56", #[⟨2, .data⟩], none⟩
def O62_2_4 : Oper := ⟨some 21, .fieldAddr 75 (.tmp 20) 2, 0, "slot.go:56", #[⟨3, .data⟩], none⟩
def O62_2_5 : Oper := ⟨some 22, .load 3 (.tmp 21), 3, "slot.go:56", #[⟨4, .data⟩], none⟩
def O62_2_6 : Oper := ⟨some 23, .move (.tmp 4), 85, "slot.go:56", #[], none⟩
def O62_2_7 : Oper := ⟨some 24, .nilCheck (.tmp 23), 0, "slot.go:56", #[⟨6, .data⟩], none⟩
def O62_2_8 : Oper := ⟨some 25, .fieldAddr 75 (.tmp 24) 1, 0, "slot.go:56", #[⟨7, .data⟩], none⟩
def O62_2_9 : Oper := ⟨some 26, .load 3 (.tmp 25), 3, "slot.go:56", #[⟨8, .data⟩], none⟩
def O62_2_10 : Oper := ⟨some 27, .nilCheck (.tmp 17), 0, "slot.go:56", #[⟨0, .data⟩, ⟨0, .phase⟩, ⟨1, (Ground.textOnly Departure.lateStores)⟩, ⟨2, .phase⟩, ⟨3, .phase⟩, ⟨4, .phase⟩, ⟨5, .phase⟩, ⟨6, (Ground.textOnly Departure.lateStores)⟩, ⟨7, (Ground.textOnly Departure.lateStoresUnsure)⟩, ⟨8, (Ground.textOnly Departure.lateStoresUnsure)⟩, ⟨9, .phase⟩], none⟩
def O62_2_11 : Oper := ⟨some 28, .fieldAddr 75 (.tmp 27) 1, 0, "slot.go:56", #[⟨10, .data⟩, ⟨0, .phase⟩, ⟨1, (Ground.textOnly Departure.lateStores)⟩, ⟨2, .phase⟩, ⟨3, .phase⟩, ⟨4, .phase⟩, ⟨5, .phase⟩, ⟨6, (Ground.textOnly Departure.lateStores)⟩, ⟨7, (Ground.textOnly Departure.lateStoresUnsure)⟩, ⟨8, (Ground.textOnly Departure.lateStoresUnsure)⟩, ⟨9, .phase⟩], none⟩
def O62_2_12 : Oper := ⟨none, .store 3 (.tmp 28) (.tmp 22), 0, "slot.go:56", #[⟨11, .data⟩, ⟨5, .data⟩, ⟨0, .phase⟩, ⟨1, (Ground.textOnly Departure.lateStores)⟩, ⟨2, .phase⟩, ⟨3, .phase⟩, ⟨4, .phase⟩, ⟨5, .phase⟩, ⟨6, (Ground.textOnly Departure.lateStores)⟩, ⟨7, (Ground.textOnly Departure.lateStoresUnsure)⟩, ⟨8, (Ground.textOnly Departure.lateStoresUnsure)⟩, ⟨9, .phase⟩], none⟩
def O62_2_13 : Oper := ⟨some 29, .nilCheck (.tmp 18), 0, "slot.go:56", #[⟨1, .data⟩, ⟨0, .phase⟩, ⟨1, .phase⟩, ⟨2, .phase⟩, ⟨3, .phase⟩, ⟨4, .phase⟩, ⟨5, .phase⟩, ⟨6, .phase⟩, ⟨7, .phase⟩, ⟨8, .phase⟩, ⟨9, .phase⟩, ⟨10, .phase⟩, ⟨11, .phase⟩, ⟨12, .phase⟩], none⟩
def O62_2_14 : Oper := ⟨some 30, .fieldAddr 75 (.tmp 29) 2, 0, "slot.go:56", #[⟨13, .data⟩, ⟨0, .phase⟩, ⟨1, .phase⟩, ⟨2, .phase⟩, ⟨3, .phase⟩, ⟨4, .phase⟩, ⟨5, .phase⟩, ⟨6, .phase⟩, ⟨7, .phase⟩, ⟨8, .phase⟩, ⟨9, .phase⟩, ⟨10, .phase⟩, ⟨11, .phase⟩, ⟨12, .phase⟩], none⟩
def O62_2_15 : Oper := ⟨none, .store 3 (.tmp 30) (.tmp 26), 0, "slot.go:56", #[⟨14, .data⟩, ⟨9, .data⟩, ⟨12, .chain⟩, ⟨0, .phase⟩, ⟨1, .phase⟩, ⟨2, .phase⟩, ⟨3, .phase⟩, ⟨4, .phase⟩, ⟨5, .phase⟩, ⟨6, .phase⟩, ⟨7, .phase⟩, ⟨8, .phase⟩, ⟨9, .phase⟩, ⟨10, .phase⟩, ⟨11, .phase⟩, ⟨12, .phase⟩], none⟩
def OPS62_2 : List Oper := [O62_2_0, O62_2_1, O62_2_2, O62_2_3, O62_2_4, O62_2_5, O62_2_6, O62_2_7, O62_2_8, O62_2_9, O62_2_10, O62_2_11, O62_2_12, O62_2_13, O62_2_14, O62_2_15]
theorem NS62_2 : Region.noSelect OPS62_2.toArray = true := by kernel_rfl
set_option maxHeartbeats 4000000 in
theorem rg62_2 {p g n cap room t : Nat} {S : Ss} {NX : Act -> World -> Prop} {a0 : Act} {w : World} (K0 : Kn a0 39 [(4, zp g (t * 14))]) (h : Pool w p g n cap room S) (ht : t < n)
  (hN : ∀ a' W, Kn a' 39 [(4, zp g (t * 14))] -> Pool W p g n cap room (upd (upd S t { S t with l := (S t).r }) t { S t with l := (S t).r, r := (S t).l }) -> Keep [g] w W -> NX a' W) : (Code.region 2 OPS62_2.toArray true).wp Try.prog (Norm NX) a0 w := by
 have hq := @norm_q NX
 have hS : (fun w' : World => Pool w' p g n cap room S) w.drew := h.drew
 obtain ⟨_, s1', _⟩ := h.drew.slot ht
 obtain ⟨_, f1', _⟩ := h.drew.soft ht
 have P1 := hide (h.drew.put (t := t) ht 1 (by omega) { S t with l := (S t).r } (zi ((S t).r : Int)) rfl)
 have K1' : Keep [g] w (w.drew.setCell ⟨g, t * 14 + 1, none⟩ (zi ((S t).r : Int))) := ((Keep.refl [g] w).drew).cellB _ _
 have KP := hide K1'
 clear h K1'
 refine wp_region_till (t := 12) (S := (fun w' : World => Pool w' p g n cap room S)) (by kernel_rfl) ?_
 rw [show (OPS62_2.toArray).size = 16 from by kernel_rfl]
 refine uP 0 O62_2_0 (zp g (t * 14)) K0 hq NS62_2 (want_none rfl) (fun ev E w9 => ?_) (fun _ => hS) fun a1 K1 => ?_
 ·have E4 := E.tmp 4 _ rfl; clear E; unfold O62_2_0; clear hN hq hS P1 KP; go_simp
 refine uP 1 O62_2_1 (zp g (t * 14)) K1 hq NS62_2 (want_none rfl) (fun ev E w9 => ?_) (fun _ => hS) fun a2 K2 => ?_
 ·have E4 := E.tmp 4 _ rfl; clear E; unfold O62_2_1; clear hN hq hS P1 KP; go_simp
 clear K1
 refine uP 2 O62_2_2 (zp g (t * 14)) K2 hq NS62_2 (want_none rfl) (fun ev E w9 => ?_) (fun _ => hS) fun a3 K3 => ?_
 ·have E4 := E.tmp 4 _ rfl; clear E; unfold O62_2_2; clear hN hq hS P1 KP; go_simp
 clear K2
 refine uP 3 O62_2_3 (zp g (t * 14)) K3 hq NS62_2 (want_none rfl) (fun ev E w9 => ?_) (fun _ => hS) fun a4 K4 => ?_
 ·have E19 := E.tmp 19 _ rfl; clear E; unfold O62_2_3; clear hN hq hS P1 KP; go_simp
 clear K3
 refine uP 4 O62_2_4 (zp g (t * 14 + 2)) K4 hq NS62_2 (want_none rfl) (fun ev E w9 => ?_) (fun _ => hS) fun a5 K5 => ?_
 ·have E20 := E.tmp 20 _ rfl; clear E; unfold O62_2_4; clear hN hq hS P1 KP; go_simp
 clear K4
 refine utake (i := 5) (o := O62_2_5) (v := zi ((S t).r : Int)) K5 hq rfl NS62_2 (by kernel_rfl) (by kernel_rfl) (by kernel_rfl) (by kernel_rfl) rfl rfl (want_none rfl) (fun ev E w9 hSw => ?_) hS (fun a6 K6 => ?_)
 ·obtain ⟨s0, s1, s2, s3, s4, s5, s6, s7, s8, s9, s10, s11, s12, s13⟩ := hSw.slot (t := t) (by assumption); clear hSw; have E21 := E.tmp 21 _ rfl; clear E; unfold O62_2_5; clear hN hq hS P1 KP; go_simp
 clear K5
 refine uP 6 O62_2_6 (zp g (t * 14)) K6 hq NS62_2 (want_none rfl) (fun ev E w9 => ?_) (fun _ => hS) fun a7 K7 => ?_
 ·have E4 := E.tmp 4 _ rfl; clear E; unfold O62_2_6; clear hN hq hS P1 KP; go_simp
 clear K6
 refine uP 7 O62_2_7 (zp g (t * 14)) K7 hq NS62_2 (want_none rfl) (fun ev E w9 => ?_) (fun _ => hS) fun a8 K8 => ?_
 ·have E23 := E.tmp 23 _ rfl; clear E; unfold O62_2_7; clear hN hq hS P1 KP; go_simp
 clear K7
 refine uP 8 O62_2_8 (zp g (t * 14 + 1)) K8 hq NS62_2 (want_none rfl) (fun ev E w9 => ?_) (fun _ => hS) fun a9 K9 => ?_
 ·have E24 := E.tmp 24 _ rfl; clear E; unfold O62_2_8; clear hN hq hS P1 KP; go_simp
 clear K8
 refine utake (i := 9) (o := O62_2_9) (v := zi ((S t).l : Int)) K9 hq rfl NS62_2 (by kernel_rfl) (by kernel_rfl) (by kernel_rfl) (by kernel_rfl) rfl rfl (want_none rfl) (fun ev E w9 hSw => ?_) hS (fun a10 K10 => ?_)
 ·obtain ⟨s0, s1, s2, s3, s4, s5, s6, s7, s8, s9, s10, s11, s12, s13⟩ := hSw.slot (t := t) (by assumption); clear hSw; have E25 := E.tmp 25 _ rfl; clear E; unfold O62_2_9; clear hN hq hS P1 KP; go_simp
 clear K9
 refine uP 10 O62_2_10 (zp g (t * 14)) K10 hq NS62_2 (want_none rfl) (fun ev E w9 => ?_) (fun _ => hS) fun a11 K11 => ?_
 ·have E17 := E.tmp 17 _ rfl; clear E; unfold O62_2_10; clear hN hq hS P1 KP; go_simp
 clear K10
 refine uP 11 O62_2_11 (zp g (t * 14 + 1)) K11 hq NS62_2 (want_none rfl) (fun ev E w9 => ?_) (fun _ => hS) fun a12 K12 => ?_
 ·have E27 := E.tmp 27 _ rfl; clear E; unfold O62_2_11; clear hN hq hS P1 KP; go_simp
 clear K11
 refine ustore (R := fun _ _ => True) (i := 12) (o := O62_2_12) (w' := w.drew.setCell ⟨g, t * 14 + 1, none⟩ (zi ((S t).r : Int))) K12 rfl (by kernel_rfl) rfl (want_none rfl) (fun ev E => ?_) (fun hx => absurd hx (by decide)) ?_
 ·have E22 := E.tmp 22 _ rfl; have E28 := E.tmp 28 _ rfl; clear E; unfold O62_2_12; clear hN hq hS P1 KP; go_simp
 generalize w.drew.setCell ⟨g, t * 14 + 1, none⟩ (zi ((S t).r : Int)) = W1 at *
 obtain ⟨_, _, s2', _⟩ := (unhide P1).slot ht
 obtain ⟨_, _, f2', _⟩ := (unhide P1).soft ht
 rw [upd_same] at s2'
 dsimp only at s2'
 have P2 := (unhide P1).put (t := t) ht 2 (by omega) { S t with l := (S t).r, r := (S t).l } (zi ((S t).l : Int)) (by rw [upd_same]; rfl)
 have H2 := hide (And.intro P2 ((unhide KP).cellB (t * 14 + 2) (zi ((S t).l : Int))))
 clear P1 P2 KP
 refine uone (i := 13) (o := ⟨some 29, .nilCheck (.tmp 18), 0, "slot.go:56", #[⟨1, .data⟩, ⟨0, .phase⟩, ⟨1, .phase⟩, ⟨2, .phase⟩, ⟨3, .phase⟩, ⟨4, .phase⟩, ⟨5, .phase⟩, ⟨6, .phase⟩, ⟨7, .phase⟩, ⟨8, .phase⟩, ⟨9, .phase⟩, ⟨10, .phase⟩, ⟨11, .phase⟩, ⟨12, .phase⟩], none⟩) K12 rfl (by kernel_rfl) rfl rfl (want_none rfl) (leaves_value (v := zp g (t * 14)) (w' := W1) K12 (fun ev E => by clear hN hq H2; have E18 := E.tmp 18 _ rfl; clear E; go_simp)) (fun v9 W9 hR => ?_)
 obtain ⟨rfl, hWW⟩ := hR
 rw [hWW]
 clear hWW
 refine ⟨fun hx => absurd hx (by decide), fun a13 K13 => ?_⟩
 refine uone (i := 14) (o := ⟨some 30, .fieldAddr 75 (.tmp 29) 2, 0, "slot.go:56", #[⟨13, .data⟩, ⟨0, .phase⟩, ⟨1, .phase⟩, ⟨2, .phase⟩, ⟨3, .phase⟩, ⟨4, .phase⟩, ⟨5, .phase⟩, ⟨6, .phase⟩, ⟨7, .phase⟩, ⟨8, .phase⟩, ⟨9, .phase⟩, ⟨10, .phase⟩, ⟨11, .phase⟩, ⟨12, .phase⟩], none⟩) K13 rfl (by kernel_rfl) rfl rfl (want_none rfl) (leaves_value (v := zp g (t * 14 + 2)) (w' := W1) K13 (fun ev E => by clear hN hq H2; have E29 := E.tmp 29 _ rfl; clear E; go_simp)) (fun v9 W9 hR => ?_)
 obtain ⟨rfl, hWW⟩ := hR
 rw [hWW]
 clear hWW
 refine ⟨fun hx => absurd hx (by decide), fun a14 K14 => ?_⟩
 refine ustore (R := fun _ _ => True) (i := 15) (o := O62_2_15) (w' := W1.setCell ⟨g, t * 14 + 2, none⟩ (zi ((S t).l : Int))) K14 rfl (by kernel_rfl) rfl (want_none rfl) (fun ev E => ?_) (fun hx => absurd hx (by decide)) ?_
 ·have E26 := E.tmp 26 _ rfl; have E30 := E.tmp 30 _ rfl; clear E; unfold O62_2_15; clear hN hq H2; go_simp
 refine till_done (by kernel_rfl) ?_ _
 exact hN _ _ (K14.less ⟨rfl, trivial⟩) (unhide H2).1 (unhide H2).2
set_option maxHeartbeats 4000000 in
theorem turn_any {p g n cap room t : Nat} {S : Ss} {w : World} (h : Pool w p g n cap room S) (ht : t < n) :
  Calls Try.prog 62 #[zp p 0, zi t] w fun e w' => e = .returned (.tuple #[]) /\ Pool w' p g n cap room (turnS S t) /\ Keep [g] w w' := by
 have PH := hide h
 clear h
 have e1 : (0 : Int) <= (t : Int) := by omega
 have e2 : (t : Int) < (n : Int) := by omega
 refine callsK (n := 39) (L := [(0, zp p 0), (1, zi t)]) Try.func62 rfl Try.ntmps62 rfl rfl (fun a0 K0 => ?_)
 refine seqR ?_
 refine lM K0 fun a1 K1 => ?_
 refine lN K1 fun a2 K2 => ?_
 clear K1
 refine lF K2 FA66_1 fun a3 K3 => ?_
 clear K2
 refine lT (.slice (some ⟨g, 0, none⟩) n cap) w K3 (want_none rfl) (fun ev E => ?_) fun a4 K4 => ?_
 ·obtain ⟨c0, c1, _⟩ := (unhide PH).head; have E7 := E.tmp 7 _ rfl; clear E; clear PH; go_simp
 clear K3
 refine lM K4 fun a5 K5 => ?_
 clear K4
 refine lT (zp g (t * 14)) w K5 (want_none rfl) (fun ev E => ?_) fun a6 K6 => ?_
 ·have E8 := E.tmp 8 _ rfl; have E9 := E.tmp 9 _ rfl; clear E; clear PH; go_simp
 clear K5
 refine lA K6 fun a7 K7 => ?_
 clear K6
 refine nilN ?_
 have K8 : Kn _ 39 [(4, zp g (t * 14))] := K7.less ⟨rfl, trivial⟩
 clear K7
 by_cases hc : 1 < (S t).sm.c
 ·refine seqR ?_
  refine lM K8 fun a9 K9 => ?_
  clear K8
  refine lN K9 fun a10 K10 => ?_
  clear K9
  refine lF K10 FA75_6 fun a11 K11 => ?_
  clear K10
  refine lF K11 FA34_0 fun a12 K12 => ?_
  clear K11
  refine lT (zi (S t).sm.c) w K12 (want_none rfl) (fun ev E => ?_) fun a13 K13 => ?_
  ·obtain ⟨s0, s1, s2, s3, s4, s5, s6, s7, s8, s9, s10, s11, s12, s13⟩ := (unhide PH).slot (t := t) (by assumption); have E14 := E.tmp 14 _ rfl; clear E; clear PH; go_simp
  clear K12
  refine lT (.bool true) w K13 (want_none rfl) (fun ev E => ?_) fun a14 K14 => ?_
  ·have EC := E.const; have E15 := E.tmp 15 _ rfl; clear E; clear PH; go_simp
  clear K13
  refine nilN ?_
  refine knCond (b := true) K14 rfl ?_
  have K15 : Kn _ 39 [(4, zp g (t * 14))] := K14.less ⟨rfl, trivial⟩
  clear K14
  refine seqN (rg62_2 K15 (unhide PH) ht fun a9 W9 K9 hP hK => ?_)
  clear PH
  have PH := hide hP
  have KP := hide hK
  clear hP hK
  obtain ⟨_, _, _, s3, _⟩ := (unhide PH).slot ht
  obtain ⟨_, _, _, f3, _⟩ := (unhide PH).soft ht
  rw [upd_same] at s3
  dsimp only at s3
  refine wp_region_lit ?_
  refine lM K9 fun a21 K21 => ?_
  clear K9
  refine lM K21 fun a22 K22 => ?_
  clear K21
  refine lN K22 fun a23 K23 => ?_
  clear K22
  refine lF K23 FA75_3 fun a24 K24 => ?_
  clear K23
  refine lT (.bool (S t).tn) W9 K24 (want_none rfl) (fun ev E => ?_) fun a25 K25 => ?_
  ·have E34 := E.tmp 34 _ rfl; clear E; clear PH KP; go_simp
  clear K24
  refine lT (.bool (!(S t).tn)) W9 K25 (want_none rfl) (fun ev E => ?_) fun a26 K26 => ?_
  ·have E35 := E.tmp 35 _ rfl; clear E; clear PH KP; go_simp
  clear K25
  refine lN K26 fun a27 K27 => ?_
  clear K26
  refine lF K27 FA75_3 fun a28 K28 => ?_
  clear K27
  refine lstore (w' := W9.setCell ⟨g, t * 14 + 3, none⟩ (.bool (!(S t).tn))) K28 rfl (want_none rfl) (fun ev E => ?_) ?_
  ·have E36 := E.tmp 36 _ rfl; have E38 := E.tmp 38 _ rfl; clear E; clear PH KP; go_simp
  refine wpList_nil ?_
  have PP := (unhide PH).put (t := t) ht 3 (by omega) { S t with l := (S t).r, r := (S t).l, tn := !(S t).tn } (.bool (!(S t).tn)) (by rw [upd_same]; rfl)
  have ee : upd (upd (upd S t { S t with l := (S t).r }) t { S t with l := (S t).r, r := (S t).l }) t { S t with l := (S t).r, r := (S t).l, tn := !(S t).tn } = turnS S t := by
   funext j
   by_cases hj : j = t
   ·subst hj; simp [turnS, hc, upd]
   ·simp [turnS, hc, upd, hj]
  rw [ee] at PP
  refine ⟨K28.defers, .tuple #[], results_none rfl _ _ _, rfl, PP, (unhide KP).cellB _ _⟩
 ·refine seqR ?_
  refine lM K8 fun a9 K9 => ?_
  clear K8
  refine lN K9 fun a10 K10 => ?_
  clear K9
  refine lF K10 FA75_6 fun a11 K11 => ?_
  clear K10
  refine lF K11 FA34_0 fun a12 K12 => ?_
  clear K11
  refine lT (zi (S t).sm.c) w K12 (want_none rfl) (fun ev E => ?_) fun a13 K13 => ?_
  ·obtain ⟨s0, s1, s2, s3, s4, s5, s6, s7, s8, s9, s10, s11, s12, s13⟩ := (unhide PH).slot (t := t) (by assumption); have E14 := E.tmp 14 _ rfl; clear E; clear PH; go_simp
  clear K12
  refine lT (.bool false) w K13 (want_none rfl) (fun ev E => ?_) fun a14 K14 => ?_
  ·have EC := E.const; have E15 := E.tmp 15 _ rfl; clear E; clear PH; go_simp
  clear K13
  refine nilN ?_
  refine knCond (b := false) K14 rfl (wp_skip ?_)
  refine ⟨K14.defers, .tuple #[], results_none rfl _ _ _, rfl, ?_, Keep.refl _ _⟩
  rw [turnS, if_neg hc]
  exact unhide PH
end Go.Proofs.Ytjnkgakajenoaaa
namespace Go.Proofs.Ytjnkgakajenoaaa
open Go.RowKit Go.Arb
set_option linter.unusedVariables false
set_option linter.unusedSimpArgs false
set_option maxHeartbeats 400000 in
theorem lift_any (c s a b n q : Int) (w : World) (hq : c * n = q) (k1 : -4611686018427387904 <= q) (k2 : q <= 4611686018427387904) (k3 : -4611686018427387904 <= s + q) (k4 : s + q <= 4611686018427387904)
  (k5 : -4611686018427387904 <= a + n) (k6 : a + n <= 4611686018427387904) (k7 : -4611686018427387904 <= b + n) (k8 : b + n <= 4611686018427387904) :
  Calls Try.prog 86 #[.agg #[zi c, zi s, zi a, zi b], zi n] w fun r w' =>
   r = .returned (smV (lf ⟨c, s, a, b⟩ n)) /\ Below w.heap.size w w' := by
 by_cases h0 : c = 0
 ·subst h0
  go_enter Try.func86, Try.ntmps86
  go_wp2
  refine bodyPost_ret (v := .agg #[zi 0, zi s, zi a, zi b]) (by simp [results, Try.results86, go_sem]) rfl ⟨by simp [lf, smV], b2 _ _ _⟩
 ·have e0 : (c == 0) = false := by simpa using h0
  have hj : Hid (smV (lf ⟨c, s, a, b⟩ n) = .agg #[zi c, zi (s + q), zi (a + n), zi (b + n)]) := by simp [lf, h0, Hid, smV, hq]
  go_enter Try.func86, Try.ntmps86
  go_wp2
  rw [hj.out]
  refine bodyPost_ret (v := .agg #[zi c, zi (s + q), zi (a + n), zi (b + n)]) (by simp [results, Try.results86, go_sem]) rfl ⟨rfl, b2 _ _ _⟩
set_option maxHeartbeats 400000 in
theorem heavier_any (x n : Int) (w : World) : Calls Try.prog 85 #[zi x, zi n] w fun r w' => r = .returned (zi (addV x n)) /\ w = w' := by
 go_enter Try.func85, Try.ntmps85
 go_wp2_with (go_at_call 84; refine (add_any _ _ _).mono ?_; rintro e w' ⟨rfl, rfl⟩)
 go_ret
 exact ⟨rfl, rfl⟩
set_option maxHeartbeats 400000 in
theorem canRise_any (c s a b n : Int) (w : World) : Calls Try.prog 65 #[.agg #[zi c, zi s, zi a, zi b], zi n] w fun r w' => r = .returned (.bool (addB a n && addB b n)) /\ Below w.heap.size w w' := by
 cases h1 : addB a n
 ·go_enter Try.func65, Try.ntmps65
  go_wp2_with (go_at_call 84; refine (add_any _ _ _).mono ?_; (first | rw [h1] | skip); rintro e w' ⟨rfl, rfl⟩)
  go_ret
  exact ⟨rfl, (Below.refl _ _).alloc (Nat.le_refl _) _⟩
 ·go_enter Try.func65, Try.ntmps65
  go_wp2_with (go_at_call 84; refine (add_any _ _ _).mono ?_; (first | rw [h1] | skip); rintro e w' ⟨rfl, rfl⟩)
  go_ret
  exact ⟨rfl, (Below.refl _ _).alloc (Nat.le_refl _) _⟩
set_option maxHeartbeats 400000 in
theorem with_any (a b c d : Int) (w : World) (k1 : -4611686018427387904 <= a + c /\ a + c <= 4611686018427387904) (k2 : -4611686018427387904 <= b + d /\ b + d <= 4611686018427387904) :
  Calls Try.prog 80 #[.agg #[zi a, zi b], .agg #[zi c, zi d]] w fun r w' => r = .returned (.agg #[zi (a + c), zi (b + d)]) /\ Below w.heap.size w w' := by
 have w1 : IntKind.i64.wrap (a + c) = a + c := IntWalk.i64_in _ (by omega)
 have w2 : IntKind.i64.wrap (b + d) = b + d := IntWalk.i64_in _ (by omega)
 go_enter Try.func80, Try.ntmps80
 go_wp2
 refine bodyPost_ret (v := .agg #[zi (a + c), zi (b + d)]) (by simp [results, Try.results80, go_sem]) rfl ⟨rfl, b3 _ _ _ _⟩
set_option maxHeartbeats 400000 in
theorem without_any (a b c d : Int) (w : World) (k1 : -4611686018427387904 <= a - c /\ a - c <= 4611686018427387904) (k2 : -4611686018427387904 <= b - d /\ b - d <= 4611686018427387904) :
  Calls Try.prog 94 #[.agg #[zi a, zi b], .agg #[zi c, zi d]] w fun r w' => r = .returned (.agg #[zi (a - c), zi (b - d)]) /\ Below w.heap.size w w' := by
 have w1 : IntKind.i64.wrap (a - c) = a - c := IntWalk.i64_in _ (by omega)
 have w2 : IntKind.i64.wrap (b - d) = b - d := IntWalk.i64_in _ (by omega)
 go_enter Try.func94, Try.ntmps94
 go_wp2
 refine bodyPost_ret (v := .agg #[zi (a - c), zi (b - d)]) (by simp [results, Try.results94, go_sem]) rfl ⟨rfl, b3 _ _ _ _⟩
end Go.Proofs.Ytjnkgakajenoaaa
namespace Go.Proofs.Ytjnkgakajenoaaa
open Go.RowKit Go.Arb
set_option linter.unusedVariables false
set_option linter.unusedSimpArgs false
set_option maxRecDepth 100000
def raiseS (S : Ss) (t : Nat) (d : Int) : Ss := if t = 0 then S else upd S t (if 1 < (S t).sm.c then { S t with wt := addV (S t).wt d, wa := (S t).wa + d, sm := lf (S t).sm d } else { S t with wt := addV (S t).wt d, sm := lf (S t).sm d })
structure Rbd (x : Sl) (d : Int) : Prop where
 q : -4611686018427387904 <= x.sm.c * d /\ x.sm.c * d <= 4611686018427387904
 s : -4611686018427387904 <= x.sm.s + x.sm.c * d /\ x.sm.s + x.sm.c * d <= 4611686018427387904
 a : -4611686018427387904 <= x.sm.a + d /\ x.sm.a + d <= 4611686018427387904
 b : -4611686018427387904 <= x.sm.b + d /\ x.sm.b + d <= 4611686018427387904
 w : -4611686018427387904 <= x.wa + d /\ x.wa + d <= 4611686018427387904
theorem lf_c (x : Sm) (d : Int) : (lf x d).c = x.c := by unfold lf; split <;> rfl
set_option maxHeartbeats 4000000 in
theorem raise_any {p g n cap room t : Nat} {d : Int} {S : Ss} {w : World} (h : Pool w p g n cap room S) (ht : t < n) (hb : t ≠ 0 -> Rbd (S t) d) :
  Calls Try.prog 66 #[zp p 0, zi t, zi d] w fun e w' => e = .returned (.tuple #[]) /\ Pool w' p g n cap room (raiseS S t d) /\ Keep [g] w w' := by
 have PH := hide h
 have KP := hide (Keep.refl [g] w)
 clear h
 have e1 : (0 : Int) <= (t : Int) := by omega
 have e2 : (t : Int) < (n : Int) := by omega
 refine callsK (n := 47) (L := [(0, zp p 0), (1, zi t), (2, zi d)]) Try.func66 rfl Try.ntmps66 rfl rfl (fun a0 K0 => ?_)
 by_cases h0 : t = 0
 ·have i0 : (t : Int) = 0 := by omega
  refine wp_seq (seqN ?_)
  refine wp_region_lit ?_
  refine lM K0 fun a1 K1 => ?_
  refine lT (.bool true) w K1 (want_none rfl) (fun ev E => ?_) fun a2 K2 => ?_
  ·have EC := E.const; have E7 := E.tmp 7 _ rfl; clear E; clear PH KP hb; go_simp
  clear K1
  refine nilN ?_
  refine knCond (b := true) K2 rfl (wp_ret (thenRet ?_))
  refine ⟨K2.defers, .tuple #[], results_none rfl _ _ _, rfl, ?_, unhide KP⟩
  rw [raiseS, if_pos h0]
  exact unhide PH
 ·have i0 : ¬ (t : Int) = 0 := by omega
  have i0' : ((t : Int) == 0) = false := by rw [beq_eq_false_iff_ne]; exact i0
  have HB := hide (hb h0)
  clear hb
  refine wp_seq (seqN ?_)
  refine wp_region_lit ?_
  refine lM K0 fun a1 K1 => ?_
  refine lT (.bool false) w K1 (want_none rfl) (fun ev E => ?_) fun a2 K2 => ?_
  ·have EC := E.const; have E7 := E.tmp 7 _ rfl; clear E; clear PH KP HB; go_simp
  clear K1
  refine nilN ?_
  refine knCond (b := false) K2 rfl (wp_skip ?_)
  show Code.wp _ _ _ _ _
  refine seqR ?_
  refine lM K2 fun a3 K3 => ?_
  clear K2
  refine lN K3 fun a4 K4 => ?_
  clear K3
  refine lF K4 FA66_1 fun a5 K5 => ?_
  clear K4
  refine lT (.slice (some ⟨g, 0, none⟩) n cap) w K5 (want_none rfl) (fun ev E => ?_) fun a6 K6 => ?_
  ·obtain ⟨c0, c1, _⟩ := (unhide PH).head; have E11 := E.tmp 11 _ rfl; clear E; clear PH KP; (try clear HB); go_simp
  clear K5
  refine lM K6 fun a7 K7 => ?_
  clear K6
  refine lT (zp g (t * 14)) w K7 (want_none rfl) (fun ev E => ?_) fun a8 K8 => ?_
  ·have E12 := E.tmp 12 _ rfl; have E13 := E.tmp 13 _ rfl; clear E; clear PH KP; (try clear HB); go_simp
  clear K7
  refine lA K8 fun a9 K9 => ?_
  clear K8
  refine nilN ?_
  have K10 : Kn _ 47 [(2, zi d), (6, zp g (t * 14))] := K9.less ⟨rfl, rfl, trivial⟩
  clear K9
  refine seqR ?_
  refine lM K10 fun a11 K11 => ?_
  clear K10
  refine lM K11 fun a12 K12 => ?_
  clear K11
  refine lN K12 fun a13 K13 => ?_
  clear K12
  refine lF K13 FA75_4 fun a14 K14 => ?_
  clear K13
  refine lT (zi (S t).wt) w K14 (want_none rfl) (fun ev E => ?_) fun a15 K15 => ?_
  ·obtain ⟨s0, s1, s2, s3, s4, s5, s6, s7, s8, s9, s10, s11, s12, s13⟩ := (unhide PH).slot (t := t) (by assumption); have E18 := E.tmp 18 _ rfl; clear E; clear PH KP; (try clear HB); go_simp
  clear K14
  refine lM K15 fun a16 K16 => ?_
  clear K15
  refine lcall (f := 85) (args := #[zi (S t).wt, zi d]) K16 rfl rfl (want_none rfl) (fun ev E => ?_) (heavier_any _ _ _) (fun e w1 hR => ?_)
  ·have EF := E.func; have E19 := E.tmp 19 _ rfl; have E20 := E.tmp 20 _ rfl; clear E; clear PH KP; (try clear HB); go_simp
  obtain ⟨rfl, hw1⟩ := hR
  rw [← hw1]
  clear hw1
  refine ⟨_, rfl, fun a17 K17 => ?_⟩
  clear K16
  refine lN K17 fun a18 K18 => ?_
  clear K17
  refine lF K18 FA75_4 fun a19 K19 => ?_
  clear K18
  obtain ⟨_, _, _, _, s4, _, _, _, _, _, _, _, _, _⟩ := (unhide PH).slot ht
  obtain ⟨_, _, _, _, f4, _, _, _, _, _, _, _, _, _⟩ := (unhide PH).soft ht
  refine lstore (w' := w.setCell ⟨g, t * 14 + 4, none⟩ (zi (addV (S t).wt d))) K19 rfl (want_none rfl) (fun ev E => ?_) ?_
  ·have E21 := E.tmp 21 _ rfl; have E23 := E.tmp 23 _ rfl; clear E; clear PH KP; (try clear HB); go_simp
  clear s4 f4
  have P1 := (unhide PH).put (t := t) ht 4 (by omega) { S t with wt := addV (S t).wt d } (zi (addV (S t).wt d)) rfl
  have Q1 := (unhide KP).cellB (t * 14 + 4) (zi (addV (S t).wt d))
  clear PH KP
  have PH := hide P1
  have KP := hide Q1
  clear P1 Q1
  generalize w.setCell ⟨g, t * 14 + 4, none⟩ (zi (addV (S t).wt d)) = W1 at *
  refine nilN ?_
  refine seqR ?_
  refine lM K19 fun a21 K21 => ?_
  clear K19
  refine lM K21 fun a22 K22 => ?_
  clear K21
  refine lN K22 fun a23 K23 => ?_
  clear K22
  refine lF K23 FA75_6 fun a24 K24 => ?_
  clear K23
  refine lT (.agg #[zi (S t).sm.c, zi (S t).sm.s, zi (S t).sm.a, zi (S t).sm.b]) W1 K24 (want_none rfl) (fun ev E => ?_) fun a25 K25 => ?_
  ·obtain ⟨_, _, _, _, _, _, s6, s7, s8, s9, _, _, _, _⟩ := (unhide PH).slot ht; rw [upd_same] at s6 s7 s8 s9; dsimp only at s6 s7 s8 s9; have E27 := E.tmp 27 _ rfl; clear E; clear PH KP; (try clear HB); go_simp
  clear K24
  refine lM K25 fun a26 K26 => ?_
  clear K25
  refine lcall (f := 86) (args := #[.agg #[zi (S t).sm.c, zi (S t).sm.s, zi (S t).sm.a, zi (S t).sm.b], zi d]) K26 rfl rfl (want_none rfl) (fun ev E => ?_) (lift_any _ _ _ _ d _ _ rfl (unhide HB).q.1 (unhide HB).q.2 (unhide HB).s.1 (unhide HB).s.2 (unhide HB).a.1 (unhide HB).a.2 (unhide HB).b.1 (unhide HB).b.2) (fun e W2 hR => ?_)
  ·have EF := E.func; have E28 := E.tmp 28 _ rfl; have E29 := E.tmp 29 _ rfl; clear E; clear PH KP; (try clear HB); go_simp
  obtain ⟨rfl, hb2⟩ := hR
  have P2 := hide ((unhide PH).below hb2)
  have Q2 := hide ((unhide KP).belowB hb2)
  clear PH KP hb2
  have PH := P2
  have KP := Q2
  clear P2 Q2
  unfold smV
  generalize hr : lf ⟨(S t).sm.c, (S t).sm.s, (S t).sm.a, (S t).sm.b⟩ d = R at *
  refine ⟨_, rfl, fun a27 K27 => ?_⟩
  clear K26
  refine lN K27 fun a28 K28 => ?_
  clear K27
  refine lF K28 FA75_6 fun a29 K29 => ?_
  clear K28
  obtain ⟨_, _, _, _, _, _, s6, s7, s8, s9, _, _, _, _⟩ := (unhide PH).slot ht
  obtain ⟨_, _, _, _, _, _, f6, f7, f8, f9, _, _, _, _⟩ := (unhide PH).soft ht
  rw [upd_same] at s6 s7 s8 s9
  dsimp only at s6 s7 s8 s9
  refine lstore (w' := (((W2.setCell ⟨g, t * 14 + 6, none⟩ (zi R.c)).setCell ⟨g, t * 14 + 7, none⟩ (zi R.s)).setCell ⟨g, t * 14 + 8, none⟩ (zi R.a)).setCell ⟨g, t * 14 + 9, none⟩ (zi R.b)) K29 rfl (want_none rfl) (fun ev E => ?_) ?_
  ·have E30 := E.tmp 30 _ rfl; have E32 := E.tmp 32 _ rfl; clear E; clear PH KP; (try clear HB); go_simp
  clear s6 s7 s8 s9 f6 f7 f8 f9
  have hR : R = lf (S t).sm d := hr.symm
  clear hr
  have P3 := ((((unhide PH).put (t := t) ht 6 (by omega) { S t with wt := addV (S t).wt d, sm := { (S t).sm with c := R.c } } (zi R.c) (by rw [upd_same]; rfl)).put (t := t) ht 7 (by omega) { S t with wt := addV (S t).wt d, sm := { (S t).sm with c := R.c, s := R.s } } (zi R.s) (by rw [upd_same]; rfl)).put (t := t) ht 8 (by omega) { S t with wt := addV (S t).wt d, sm := { (S t).sm with c := R.c, s := R.s, a := R.a } } (zi R.a) (by rw [upd_same]; rfl)).put (t := t) ht 9 (by omega) { S t with wt := addV (S t).wt d, sm := R } (zi R.b) (by rw [upd_same]; rfl)
  have Q3 := ((((unhide KP).cellB (t * 14 + 6) (zi R.c)).cellB (t * 14 + 7) (zi R.s)).cellB (t * 14 + 8) (zi R.a)).cellB (t * 14 + 9) (zi R.b)
  rw [hR] at P3 Q3 ⊢
  have hE : ∀ (T : Ss) (x : Sl), (∀ j, j ≠ t -> T j = S j) -> upd T t x = upd S t x := fun T x hT => by
   funext j
   by_cases hj : j = t
   ·subst hj; simp [upd]
   ·simp [upd, hj, hT j hj]
  rw [hE _ _ (fun j hj => by simp [upd, hj])] at P3
  clear PH KP
  have PH := hide P3
  have KP := hide Q3
  clear P3 Q3 hR
  generalize (((W2.setCell ⟨g, t * 14 + 6, none⟩ (zi (lf (S t).sm d).c)).setCell ⟨g, t * 14 + 7, none⟩ (zi (lf (S t).sm d).s)).setCell ⟨g, t * 14 + 8, none⟩ (zi (lf (S t).sm d).a)).setCell ⟨g, t * 14 + 9, none⟩ (zi (lf (S t).sm d).b) = W3 at *
  refine nilN ?_
  have K31 : Kn _ 47 [(2, zi d), (6, zp g (t * 14))] := K29.less ⟨rfl, rfl, trivial⟩
  clear K29
  by_cases hc : 1 < (S t).sm.c
  ·refine seqR ?_
   refine lM K31 fun a32 K32 => ?_
   clear K31
   refine lN K32 fun a33 K33 => ?_
   clear K32
   refine lF K33 FA75_6 fun a34 K34 => ?_
   clear K33
   refine lF K34 FA34_0 fun a35 K35 => ?_
   clear K34
   refine lT (zi (S t).sm.c) W3 K35 (want_none rfl) (fun ev E => ?_) fun a36 K36 => ?_
   ·obtain ⟨_, _, _, _, _, _, s6, _, _, _, _, _, _, _⟩ := (unhide PH).slot ht; rw [upd_same] at s6; dsimp only at s6; rw [lf_c] at s6; have E36 := E.tmp 36 _ rfl; clear E; clear PH KP HB hE; go_simp
   clear K35
   refine lT (.bool true) W3 K36 (want_none rfl) (fun ev E => ?_) fun a37 K37 => ?_
   ·have EC := E.const; have E37 := E.tmp 37 _ rfl; clear E; clear PH KP HB hE; go_simp
   clear K36
   refine nilN ?_
   refine knCond (b := true) K37 rfl ?_
   refine wp_region_lit ?_
   have wr1 : IntKind.i64.wrap ((S t).wa + d) = (S t).wa + d := IntWalk.i64_in _ (by have := (unhide HB).w; omega)
   obtain ⟨_, _, _, _, _, s5, _, _, _, _, _, _, _, _⟩ := (unhide PH).slot ht
   obtain ⟨_, _, _, _, _, f5, _, _, _, _, _, _, _, _⟩ := (unhide PH).soft ht
   rw [upd_same] at s5
   dsimp only at s5
   refine lM K37 fun a38 K38 => ?_
   clear K37
   refine lN K38 fun a39 K39 => ?_
   clear K38
   refine lF K39 FA75_5 fun a40 K40 => ?_
   clear K39
   refine lT (zi (S t).wa) W3 K40 (want_none rfl) (fun ev E => ?_) fun a41 K41 => ?_
   ·have E41 := E.tmp 41 _ rfl; clear E; clear PH KP HB hE; go_simp
   clear K40
   refine lM K41 fun a42 K42 => ?_
   clear K41
   refine lT (zi ((S t).wa + d)) W3 K42 (want_none rfl) (fun ev E => ?_) fun a43 K43 => ?_
   ·have E42 := E.tmp 42 _ rfl; have E43 := E.tmp 43 _ rfl; clear E; clear PH KP HB hE; go_simp
   clear K42
   refine lN K43 fun a44 K44 => ?_
   clear K43
   refine lF K44 FA75_5 fun a45 K45 => ?_
   clear K44
   refine lstore (w' := W3.setCell ⟨g, t * 14 + 5, none⟩ (zi ((S t).wa + d))) K45 rfl (want_none rfl) (fun ev E => ?_) ?_
   ·have E44 := E.tmp 44 _ rfl; have E46 := E.tmp 46 _ rfl; clear E; clear PH KP HB hE; go_simp
   refine wpList_nil ?_
   have P4 := (unhide PH).put (t := t) ht 5 (by omega) { S t with wt := addV (S t).wt d, wa := (S t).wa + d, sm := lf (S t).sm d } (zi ((S t).wa + d)) (by rw [upd_same]; rfl)
   rw [hE _ _ (fun j hj => by simp [upd, hj])] at P4
   refine ⟨K45.defers, .tuple #[], results_none rfl _ _ _, rfl, ?_, (unhide KP).cellB _ _⟩
   rw [raiseS, if_neg h0, if_pos hc]
   exact P4
  ·refine seqR ?_
   refine lM K31 fun a32 K32 => ?_
   clear K31
   refine lN K32 fun a33 K33 => ?_
   clear K32
   refine lF K33 FA75_6 fun a34 K34 => ?_
   clear K33
   refine lF K34 FA34_0 fun a35 K35 => ?_
   clear K34
   refine lT (zi (S t).sm.c) W3 K35 (want_none rfl) (fun ev E => ?_) fun a36 K36 => ?_
   ·obtain ⟨_, _, _, _, _, _, s6, _, _, _, _, _, _, _⟩ := (unhide PH).slot ht; rw [upd_same] at s6; dsimp only at s6; rw [lf_c] at s6; have E36 := E.tmp 36 _ rfl; clear E; clear PH KP HB hE; go_simp
   clear K35
   refine lT (.bool false) W3 K36 (want_none rfl) (fun ev E => ?_) fun a37 K37 => ?_
   ·have EC := E.const; have E37 := E.tmp 37 _ rfl; clear E; clear PH KP HB hE; go_simp
   clear K36
   refine nilN ?_
   refine knCond (b := false) K37 rfl (wp_skip ?_)
   refine ⟨K37.defers, .tuple #[], results_none rfl _ _ _, rfl, ?_, unhide KP⟩
   rw [raiseS, if_neg h0, if_neg hc]
   exact unhide PH
theorem turnS_ne (S : Ss) {t u : Nat} (h : u ≠ t) : turnS S t u = S u := by unfold turnS; split <;> simp [upd, h]
theorem raiseS_ne (S : Ss) {t u : Nat} (d : Int) (h : u ≠ t) : raiseS S t d u = S u := by unfold raiseS; split <;> simp [upd, h]
def settleT (S : Ss) (t : Nat) : Ss := if (S t).tn then turnS (turnS (upd S t { S t with tn := false }) (S t).l) (S t).r else S
def settleW (S : Ss) (t : Nat) : Ss := if (S t).wa = 0 then S else raiseS (raiseS (upd S t { S t with wa := 0 }) (S t).l (S t).wa) (S t).r (S t).wa
def settleS (S : Ss) (t : Nat) : Ss := settleW (settleT S t) t
theorem settleT_same (S : Ss) {t : Nat} (hl : (S t).l ≠ t) (hr : (S t).r ≠ t) : settleT S t t = { S t with tn := false } := by
 unfold settleT
 split
 ·rw [turnS_ne _ (fun e => hr e.symm), turnS_ne _ (fun e => hl e.symm), upd_same]
 ·rename_i h
  have : (S t).tn = false := by simpa using h
  rw [← this]
set_option maxHeartbeats 4000000 in
theorem t88 {p g n cap room t : Nat} {S : Ss} {Q : Exit -> Act -> World -> Prop} {a0 : Act} {w0 w : World} (K0 : Kn a0 57 [(0, zp p 0), (4, zp g (t * 14)), (15, .bool (S t).tn)]) (h : Pool w p g n cap room S) (hk : Keep [g] w0 w) (ht : t < n) (hl : (S t).l < n) (hr : (S t).r < n) (hlt : (S t).l ≠ t) (hrt : (S t).r ≠ t)
  (hN : ∀ a' W, Kn a' 57 [(0, zp p 0), (4, zp g (t * 14))] -> Pool W p g n cap room (settleT S t) -> Keep [g] w0 W -> Q .normal a' W) : (Code.cond (Operand.tmp 15) (Code.seq (Code.region 2 (rg [1, 0, 1, 0, 0] Try.f88).toArray false) (Code.seq (Code.region 3 (rg [1, 0, 1, 0, 1, 0] Try.f88).toArray false) (Code.region 4 (rg [1, 0, 1, 0, 1, 1] Try.f88).toArray false))) Code.skip).wp Try.prog Q a0 w := by
 have PH := hide h
 have KP := hide hk
 clear h hk
 cases htn : (S t).tn
 ·rw [htn] at K0
  refine knCond (b := false) K0 rfl (wp_skip (hN _ _ (K0.less ⟨rfl, rfl, trivial⟩) ?_ (unhide KP)))
  rw [settleT, htn]
  exact unhide PH
 ·rw [htn] at K0
  refine knCond (b := true) K0 rfl ?_
  refine seqR ?_
  refine lM K0 fun a1 K1 => ?_
  refine lN K1 fun a2 K2 => ?_
  clear K1
  refine lF K2 FA75_3 fun a3 K3 => ?_
  clear K2
  obtain ⟨_, _, _, sk, _, _, _, _, _, _, _, _, _, _⟩ := (unhide PH).slot ht
  obtain ⟨_, _, _, fk, _, _, _, _, _, _, _, _, _, _⟩ := (unhide PH).soft ht
  refine lstore (w' := w.setCell ⟨g, t * 14 + 3, none⟩ (.bool false)) K3 rfl (want_none rfl) (fun ev E => ?_) ?_
  ·have EC := E.const; have E18 := E.tmp 18 _ rfl; clear E; clear PH KP hN; go_simp
  clear sk fk
  have P1 := (unhide PH).put (t := t) ht 3 (by omega) { S t with tn := false } (.bool false) rfl
  have Q1 := (unhide KP).cellB (t * 14 + 3) (.bool false)
  clear PH KP
  have PH := hide P1
  have KP := hide Q1
  clear P1 Q1
  generalize w.setCell ⟨g, t * 14 + 3, none⟩ (.bool false) = W1 at *
  refine nilN ?_
  refine seqR ?_
  obtain ⟨_, sk, _, _, _, _, _, _, _, _, _, _, _, _⟩ := (unhide PH).slot ht
  rw [upd_same] at sk
  dsimp only at sk
  refine lM K3 fun a5 K5 => ?_
  clear K3
  refine lM K5 fun a6 K6 => ?_
  clear K5
  refine lN K6 fun a7 K7 => ?_
  clear K6
  refine lF K7 FA75_1 fun a8 K8 => ?_
  clear K7
  refine lT (zi ((S t).l : Int)) W1 K8 (want_none rfl) (fun ev E => ?_) fun a9 K9 => ?_
  ·have E22 := E.tmp 22 _ rfl; clear E; clear PH KP hN; go_simp
  clear K8
  refine lcall (f := 62) (args := #[zp p 0, zi ((S t).l : Int)]) K9 rfl rfl (want_none rfl) (fun ev E => ?_) (turn_any (unhide PH) hl) (fun e W2 hR => ?_)
  ·have EF := E.func; have E19 := E.tmp 19 _ rfl; have E23 := E.tmp 23 _ rfl; clear E; clear PH KP hN; go_simp
  obtain ⟨rfl, P1, Q1⟩ := hR
  clear PH sk
  have PH := hide P1
  have Q2 := hide ((unhide KP).tr Q1)
  clear KP P1 Q1
  have KP := Q2
  clear Q2
  refine ⟨_, rfl, fun a10 K10 => ?_⟩
  clear K9
  refine nilN ?_
  refine wp_region_lit ?_
  obtain ⟨_, _, sk, _, _, _, _, _, _, _, _, _, _, _⟩ := (unhide PH).slot ht
  rw [turnS_ne _ (fun e => hlt e.symm), upd_same] at sk
  dsimp only at sk
  refine lM K10 fun a11 K11 => ?_
  clear K10
  refine lM K11 fun a12 K12 => ?_
  clear K11
  refine lN K12 fun a13 K13 => ?_
  clear K12
  refine lF K13 FA75_2 fun a14 K14 => ?_
  clear K13
  refine lT (zi ((S t).r : Int)) W2 K14 (want_none rfl) (fun ev E => ?_) fun a15 K15 => ?_
  ·have E28 := E.tmp 28 _ rfl; clear E; clear PH KP hN; go_simp
  clear K14
  refine lcall (f := 62) (args := #[zp p 0, zi ((S t).r : Int)]) K15 rfl rfl (want_none rfl) (fun ev E => ?_) (turn_any (unhide PH) hr) (fun e W3 hR => ?_)
  ·have EF := E.func; have E25 := E.tmp 25 _ rfl; have E29 := E.tmp 29 _ rfl; clear E; clear PH KP hN; go_simp
  obtain ⟨rfl, P1, Q1⟩ := hR
  clear PH sk
  have PH := hide P1
  have Q2 := hide ((unhide KP).tr Q1)
  clear KP P1 Q1
  have KP := Q2
  clear Q2
  refine ⟨_, rfl, fun a16 K16 => ?_⟩
  clear K15
  refine wpList_nil ?_
  refine hN _ _ (K16.less ⟨rfl, rfl, trivial⟩) ?_ (unhide KP)
  rw [settleT, htn, if_pos rfl]
  exact unhide PH
set_option maxHeartbeats 4000000 in
theorem w88 {p g n cap room t : Nat} {S : Ss} {Q : Exit -> Act -> World -> Prop} {a0 : Act} {w0 w : World} (K0 : Kn a0 57 [(0, zp p 0), (4, zp g (t * 14)), (35, .bool (!decide ((S t).wa = 0)))]) (h : Pool w p g n cap room S) (hk : Keep [g] w0 w) (ht : t < n) (hl : (S t).l < n) (hr : (S t).r < n) (hlt : (S t).l ≠ t) (hrt : (S t).r ≠ t) (hb1 : (S t).wa ≠ 0 -> (S t).l ≠ 0 -> Rbd (upd S t { S t with wa := 0 } (S t).l) (S t).wa) (hb2 : (S t).wa ≠ 0 -> (S t).r ≠ 0 -> Rbd (raiseS (upd S t { S t with wa := 0 }) (S t).l (S t).wa (S t).r) (S t).wa)
  (hN : ∀ a' W, Kn a' 57 [(0, zp p 0), (4, zp g (t * 14))] -> Pool W p g n cap room (settleW S t) -> Keep [g] w0 W -> Q .normal a' W) : (Code.cond (Operand.tmp 35) (Code.seq (Code.region 6 (rg [1, 1, 1, 0, 0] Try.f88).toArray false) (Code.seq (Code.region 7 (rg [1, 1, 1, 0, 1, 0] Try.f88).toArray false) (Code.seq (Code.region 8 (rg [1, 1, 1, 0, 1, 1, 0] Try.f88).toArray false) (Code.region 9 (rg [1, 1, 1, 0, 1, 1, 1] Try.f88).toArray false)))) Code.skip).wp Try.prog Q a0 w := by
 have PH := hide h
 have KP := hide hk
 clear h hk
 by_cases hwa : (S t).wa = 0
 ·rw [show (!decide ((S t).wa = 0)) = false from by simp [hwa]] at K0
  refine knCond (b := false) K0 rfl (wp_skip (hN _ _ (K0.less ⟨rfl, rfl, trivial⟩) ?_ (unhide KP)))
  rw [settleW, if_pos hwa]
  exact unhide PH
 ·rw [show (!decide ((S t).wa = 0)) = true from by simp [hwa]] at K0
  refine knCond (b := true) K0 rfl ?_
  have HB := hide (And.intro (hb1 hwa) (hb2 hwa))
  clear hb1 hb2
  refine seqR ?_
  refine lM K0 fun a1 K1 => ?_
  refine lN K1 fun a2 K2 => ?_
  clear K1
  refine lF K2 FA75_5 fun a3 K3 => ?_
  clear K2
  refine lT (zi (S t).wa) w K3 (want_none rfl) (fun ev E => ?_) fun a4 K4 => ?_
  ·obtain ⟨s0, s1, s2, s3, s4, s5, s6, s7, s8, s9, s10, s11, s12, s13⟩ := (unhide PH).slot (t := t) (by assumption); have E38 := E.tmp 38 _ rfl; clear E; clear PH KP hN HB; go_simp
  clear K3
  refine lA K4 fun a5 K5 => ?_
  clear K4
  refine nilN ?_
  refine seqR ?_
  refine lM K5 fun a6 K6 => ?_
  clear K5
  refine lN K6 fun a7 K7 => ?_
  clear K6
  refine lF K7 FA75_5 fun a8 K8 => ?_
  clear K7
  obtain ⟨_, _, _, _, _, sk, _, _, _, _, _, _, _, _⟩ := (unhide PH).slot ht
  obtain ⟨_, _, _, _, _, fk, _, _, _, _, _, _, _, _⟩ := (unhide PH).soft ht
  refine lstore (w' := w.setCell ⟨g, t * 14 + 5, none⟩ (zi 0)) K8 rfl (want_none rfl) (fun ev E => ?_) ?_
  ·have EC := E.const; have E42 := E.tmp 42 _ rfl; clear E; clear PH KP hN HB; go_simp
  clear sk fk
  have P1 := (unhide PH).put (t := t) ht 5 (by omega) { S t with wa := 0 } (zi 0) rfl
  have Q1 := (unhide KP).cellB (t * 14 + 5) (zi 0)
  clear PH KP
  have PH := hide P1
  have KP := hide Q1
  clear P1 Q1
  generalize w.setCell ⟨g, t * 14 + 5, none⟩ (zi 0) = W1 at *
  refine nilN ?_
  refine seqR ?_
  obtain ⟨_, sk, _, _, _, _, _, _, _, _, _, _, _, _⟩ := (unhide PH).slot ht
  rw [upd_same] at sk
  dsimp only at sk
  refine lM K8 fun a10 K10 => ?_
  clear K8
  refine lM K10 fun a11 K11 => ?_
  clear K10
  refine lN K11 fun a12 K12 => ?_
  clear K11
  refine lF K12 FA75_1 fun a13 K13 => ?_
  clear K12
  refine lT (zi ((S t).l : Int)) W1 K13 (want_none rfl) (fun ev E => ?_) fun a14 K14 => ?_
  ·have E46 := E.tmp 46 _ rfl; clear E; clear PH KP hN HB; go_simp
  clear K13
  refine lM K14 fun a15 K15 => ?_
  clear K14
  refine lcall (f := 66) (args := #[zp p 0, zi ((S t).l : Int), zi (S t).wa]) K15 rfl rfl (want_none rfl) (fun ev E => ?_) (raise_any (unhide PH) hl (unhide HB).1) (fun e W2 hR => ?_)
  ·have EF := E.func; have E43 := E.tmp 43 _ rfl; have E47 := E.tmp 47 _ rfl; have E48 := E.tmp 48 _ rfl; clear E; clear PH KP hN HB; go_simp
  obtain ⟨rfl, P1, Q1⟩ := hR
  clear PH sk
  have PH := hide P1
  have Q2 := hide ((unhide KP).tr Q1)
  clear KP P1 Q1
  have KP := Q2
  clear Q2
  refine ⟨_, rfl, fun a16 K16 => ?_⟩
  clear K15
  refine nilN ?_
  refine wp_region_lit ?_
  obtain ⟨_, _, sk, _, _, _, _, _, _, _, _, _, _, _⟩ := (unhide PH).slot ht
  rw [raiseS_ne _ _ (fun e => hlt e.symm), upd_same] at sk
  dsimp only at sk
  refine lM K16 fun a17 K17 => ?_
  clear K16
  refine lM K17 fun a18 K18 => ?_
  clear K17
  refine lN K18 fun a19 K19 => ?_
  clear K18
  refine lF K19 FA75_2 fun a20 K20 => ?_
  clear K19
  refine lT (zi ((S t).r : Int)) W2 K20 (want_none rfl) (fun ev E => ?_) fun a21 K21 => ?_
  ·have E53 := E.tmp 53 _ rfl; clear E; clear PH KP hN HB; go_simp
  clear K20
  refine lM K21 fun a22 K22 => ?_
  clear K21
  refine lcall (f := 66) (args := #[zp p 0, zi ((S t).r : Int), zi (S t).wa]) K22 rfl rfl (want_none rfl) (fun ev E => ?_) (raise_any (unhide PH) hr (unhide HB).2) (fun e W3 hR => ?_)
  ·have EF := E.func; have E50 := E.tmp 50 _ rfl; have E54 := E.tmp 54 _ rfl; have E55 := E.tmp 55 _ rfl; clear E; clear PH KP hN HB; go_simp
  obtain ⟨rfl, P1, Q1⟩ := hR
  clear PH sk
  have PH := hide P1
  have Q2 := hide ((unhide KP).tr Q1)
  clear KP P1 Q1
  have KP := Q2
  clear Q2
  refine ⟨_, rfl, fun a23 K23 => ?_⟩
  clear K22
  refine wpList_nil ?_
  refine hN _ _ (K23.less ⟨rfl, rfl, trivial⟩) ?_ (unhide KP)
  rw [settleW, if_neg hwa]
  exact unhide PH
set_option maxHeartbeats 4000000 in
theorem settle_any {p g n cap room t : Nat} {S S1 : Ss} {w : World} (h : Pool w p g n cap room S) (ht : t < n) (hl : (S t).l < n) (hr : (S t).r < n) (hlt : (S t).l ≠ t) (hrt : (S t).r ≠ t) (hS1 : S1 = settleT S t)
  (hb1 : (S1 t).wa ≠ 0 -> (S1 t).l ≠ 0 -> Rbd (upd S1 t { S1 t with wa := 0 } (S1 t).l) (S1 t).wa) (hb2 : (S1 t).wa ≠ 0 -> (S1 t).r ≠ 0 -> Rbd (raiseS (upd S1 t { S1 t with wa := 0 }) (S1 t).l (S1 t).wa (S1 t).r) (S1 t).wa) :
  Calls Try.prog 88 #[zp p 0, zi t] w fun e w' => e = .returned (.tuple #[]) /\ Pool w' p g n cap room (settleS S t) /\ Keep [g] w w' := by
 have PH := hide h
 have hsame := settleT_same S hlt hrt
 rw [← hS1] at hsame
 have HB := hide (And.intro hb1 hb2)
 clear h hb1 hb2
 have e1 : (0 : Int) <= (t : Int) := by omega
 have e2 : (t : Int) < (n : Int) := by omega
 refine callsK (n := 57) (L := [(0, zp p 0), (1, zi t)]) Try.func88 rfl Try.ntmps88 rfl rfl (fun a0 K0 => ?_)
 refine seqR ?_
 refine lM K0 fun a1 K1 => ?_
 refine lN K1 fun a2 K2 => ?_
 clear K1
 refine lF K2 FA66_1 fun a3 K3 => ?_
 clear K2
 refine lT (.slice (some ⟨g, 0, none⟩) n cap) w K3 (want_none rfl) (fun ev E => ?_) fun a4 K4 => ?_
 ·obtain ⟨c0, c1, _⟩ := (unhide PH).head; have E8 := E.tmp 8 _ rfl; clear E; clear PH HB hsame; go_simp
 clear K3
 refine lM K4 fun a5 K5 => ?_
 clear K4
 refine lT (zp g (t * 14)) w K5 (want_none rfl) (fun ev E => ?_) fun a6 K6 => ?_
 ·have E9 := E.tmp 9 _ rfl; have E10 := E.tmp 10 _ rfl; clear E; clear PH HB hsame; go_simp
 clear K5
 refine lA K6 fun a7 K7 => ?_
 clear K6
 refine nilN ?_
 refine wp_seq (seqN ?_)
 refine wp_region_lit ?_
 refine lM K7 fun a8 K8 => ?_
 clear K7
 refine lN K8 fun a9 K9 => ?_
 clear K8
 refine lF K9 FA75_3 fun a10 K10 => ?_
 clear K9
 refine lT (.bool (S t).tn) w K10 (want_none rfl) (fun ev E => ?_) fun a11 K11 => ?_
 ·obtain ⟨s0, s1, s2, s3, s4, s5, s6, s7, s8, s9, s10, s11, s12, s13⟩ := (unhide PH).slot (t := t) (by assumption); have E14 := E.tmp 14 _ rfl; clear E; clear PH HB hsame; go_simp
 clear K10
 refine wpList_nil ?_
 have K12 : Kn _ 57 [(0, zp p 0), (4, zp g (t * 14)), (15, .bool (S t).tn)] := K11.less ⟨rfl, rfl, rfl, trivial⟩
 clear K11
 refine t88 K12 (unhide PH) (Keep.refl [g] w) ht hl hr hlt hrt (fun a1 W1 K1 P1 Q1 => ?_)
 rw [← hS1] at P1
 clear PH
 have PH := hide P1
 have KP := hide Q1
 clear P1 Q1
 show Code.wp _ _ _ _ _
 refine seqR ?_
 refine lM K1 fun a18 K18 => ?_
 clear K1
 refine lN K18 fun a19 K19 => ?_
 clear K18
 refine lF K19 FA75_5 fun a20 K20 => ?_
 clear K19
 refine lT (zi (S1 t).wa) W1 K20 (want_none rfl) (fun ev E => ?_) fun a21 K21 => ?_
 ·obtain ⟨s0, s1, s2, s3, s4, s5, s6, s7, s8, s9, s10, s11, s12, s13⟩ := (unhide PH).slot (t := t) (by assumption); have E33 := E.tmp 33 _ rfl; clear E; clear PH KP HB hsame; go_simp
 clear K20
 refine lT (.bool (!decide ((S1 t).wa = 0))) W1 K21 (want_none rfl) (fun ev E => ?_) fun a22 K22 => ?_
 ·have EC := E.const; have E34 := E.tmp 34 _ rfl; clear E; clear PH KP HB hsame hS1; generalize (S1 t).wa = z at *; first | (go_simp; done) | (simp [go_sem, *]; done) | (simp [go_sem, *]; rfl)
 clear K21
 refine wpList_nil ?_
 have K23 : Kn _ 57 [(0, zp p 0), (4, zp g (t * 14)), (35, .bool (!decide ((S1 t).wa = 0)))] := K22.less ⟨rfl, rfl, rfl, trivial⟩
 clear K22
 refine w88 K23 (unhide PH) (unhide KP) ht (by rw [hsame]; exact hl) (by rw [hsame]; exact hr) (by rw [hsame]; exact hlt) (by rw [hsame]; exact hrt) (unhide HB).1 (unhide HB).2 (fun a2 W2 K2 P2 Q2 => ?_)
 refine ⟨K2.defers, .tuple #[], results_none rfl _ _ _, rfl, ?_, Q2⟩
 rw [settleS, ← hS1]
 exact P2
end Go.Proofs.Ytjnkgakajenoaaa

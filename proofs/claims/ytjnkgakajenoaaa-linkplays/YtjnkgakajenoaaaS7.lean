/- Part 7 of the texts. -/
import Derived.Test.YtjnkgakajenoaaaS1
import Derived.Test.YtjnkgakajenoaaaS6
namespace Go.Proofs.Ytjnkgakajenoaaa
open Go.RowKit Go.Arb
set_option linter.unusedVariables false
set_option linter.unusedSimpArgs false
set_option maxRecDepth 100000
def O82_1_0 : Oper := ⟨some 13, .move (.tmp 6), 85, "path.go:70", #[], none⟩
def O82_1_1 : Oper := ⟨some 14, .move (.tmp 6), 85, "path.go:70", #[], none⟩
def O82_1_2 : Oper := ⟨some 15, .nilCheck (.tmp 14), 0, "path.go:70", #[⟨1, .data⟩], none⟩
def O82_1_3 : Oper := ⟨some 16, .fieldAddr 75 (.tmp 15) 7, 0, "path.go:70", #[⟨2, .data⟩], none⟩
def O82_1_4 : Oper := ⟨some 17, .load 73 (.tmp 16), 73, "path.go:70", #[⟨3, .data⟩], none⟩
def O82_1_5 : Oper := ⟨some 18, .move (.tmp 0), 23, "path.go:70", #[], none⟩
def O82_1_6 : Oper := ⟨some 19, .nilCheck (.tmp 18), 0, "path.go:70", #[⟨5, .data⟩], none⟩
def O82_1_7 : Oper := ⟨some 20, .fieldAddr 66 (.tmp 19) 1, 0, "path.go:70", #[⟨6, .data⟩], none⟩
def O82_1_8 : Oper := ⟨some 21, .load 64 (.tmp 20), 64, "path.go:70", #[⟨7, .data⟩], none⟩
def O82_1_9 : Oper := ⟨some 22, .move (.tmp 6), 85, "path.go:70", #[], none⟩
def O82_1_10 : Oper := ⟨some 23, .nilCheck (.tmp 22), 0, "path.go:70", #[⟨9, .data⟩], none⟩
def O82_1_11 : Oper := ⟨some 24, .fieldAddr 75 (.tmp 23) 2, 0, "path.go:70", #[⟨10, .data⟩], none⟩
def O82_1_12 : Oper := ⟨some 25, .load 3 (.tmp 24), 3, "path.go:70", #[⟨11, .data⟩], none⟩
def O82_1_13 : Oper := ⟨some 26, .indexAddr 64 (.tmp 21) (.tmp 25), 0, "path.go:70", #[⟨8, .data⟩, ⟨12, .data⟩], none⟩
def O82_1_14 : Oper := ⟨some 27, .load 75 (.tmp 26), 75, "path.go:70", #[⟨13, .data⟩], none⟩
def O82_1_15 : Oper := ⟨some 28, .call { callee := (.value (.func 75)), args := #[(.tmp 27)], argTypes := #[75] }, 73, "path.go:70", #[⟨14, .data⟩], none⟩
def O82_1_16 : Oper := ⟨some 29, .call { callee := (.value (.func 80)), args := #[(.tmp 17), (.tmp 28)], argTypes := #[73, 73] }, 73, "path.go:70", #[⟨4, .data⟩, ⟨15, .data⟩, ⟨15, .chain⟩], none⟩
def O82_1_17 : Oper := ⟨some 30, .move (.tmp 0), 23, "path.go:70", #[], none⟩
def O82_1_18 : Oper := ⟨some 31, .nilCheck (.tmp 30), 0, "path.go:70", #[⟨17, .data⟩], none⟩
def O82_1_19 : Oper := ⟨some 32, .fieldAddr 66 (.tmp 31) 1, 0, "path.go:70", #[⟨18, .data⟩], none⟩
def O82_1_20 : Oper := ⟨some 33, .load 64 (.tmp 32), 64, "path.go:70", #[⟨19, .data⟩], none⟩
def O82_1_21 : Oper := ⟨some 34, .move (.tmp 2), 3, "path.go:70", #[], none⟩
def O82_1_22 : Oper := ⟨some 35, .indexAddr 64 (.tmp 33) (.tmp 34), 0, "path.go:70", #[⟨20, .data⟩, ⟨21, .data⟩], none⟩
def O82_1_23 : Oper := ⟨some 36, .load 75 (.tmp 35), 75, "path.go:70", #[⟨22, .data⟩], none⟩
def O82_1_24 : Oper := ⟨some 37, .call { callee := (.value (.func 75)), args := #[(.tmp 36)], argTypes := #[75] }, 73, "path.go:70", #[⟨23, .data⟩, ⟨16, .chain⟩], none⟩
def O82_1_25 : Oper := ⟨some 38, .call { callee := (.value (.func 94)), args := #[(.tmp 29), (.tmp 37)], argTypes := #[73, 73] }, 73, "path.go:70", #[⟨16, .data⟩, ⟨24, .data⟩, ⟨24, .chain⟩], none⟩
def O82_1_26 : Oper := ⟨some 39, .nilCheck (.tmp 13), 0, "path.go:70", #[⟨0, .data⟩, ⟨0, .phase⟩, ⟨1, .phase⟩, ⟨2, .phase⟩, ⟨3, .phase⟩, ⟨4, .phase⟩, ⟨5, .phase⟩, ⟨6, .phase⟩, ⟨7, .phase⟩, ⟨8, .phase⟩, ⟨9, .phase⟩, ⟨10, .phase⟩, ⟨11, .phase⟩, ⟨12, .phase⟩, ⟨13, .phase⟩, ⟨14, .phase⟩, ⟨15, .phase⟩, ⟨16, .phase⟩, ⟨17, .phase⟩, ⟨18, .phase⟩, ⟨19, .phase⟩, ⟨20, .phase⟩, ⟨21, .phase⟩, ⟨22, .phase⟩, ⟨23, .phase⟩, ⟨24, .phase⟩, ⟨25, .phase⟩], none⟩
def O82_1_27 : Oper := ⟨some 40, .fieldAddr 75 (.tmp 39) 7, 0, "path.go:70", #[⟨26, .data⟩, ⟨0, .phase⟩, ⟨1, .phase⟩, ⟨2, .phase⟩, ⟨3, .phase⟩, ⟨4, .phase⟩, ⟨5, .phase⟩, ⟨6, .phase⟩, ⟨7, .phase⟩, ⟨8, .phase⟩, ⟨9, .phase⟩, ⟨10, .phase⟩, ⟨11, .phase⟩, ⟨12, .phase⟩, ⟨13, .phase⟩, ⟨14, .phase⟩, ⟨15, .phase⟩, ⟨16, .phase⟩, ⟨17, .phase⟩, ⟨18, .phase⟩, ⟨19, .phase⟩, ⟨20, .phase⟩, ⟨21, .phase⟩, ⟨22, .phase⟩, ⟨23, .phase⟩, ⟨24, .phase⟩, ⟨25, .phase⟩], none⟩
def O82_1_28 : Oper := ⟨none, .store 73 (.tmp 40) (.tmp 38), 0, "path.go:70", #[⟨27, .data⟩, ⟨25, .data⟩, ⟨25, .chain⟩, ⟨0, .phase⟩, ⟨1, .phase⟩, ⟨2, .phase⟩, ⟨3, .phase⟩, ⟨4, .phase⟩, ⟨5, .phase⟩, ⟨6, .phase⟩, ⟨7, .phase⟩, ⟨8, .phase⟩, ⟨9, .phase⟩, ⟨10, .phase⟩, ⟨11, .phase⟩, ⟨12, .phase⟩, ⟨13, .phase⟩, ⟨14, .phase⟩, ⟨15, .phase⟩, ⟨16, .phase⟩, ⟨17, .phase⟩, ⟨18, .phase⟩, ⟨19, .phase⟩, ⟨20, .phase⟩, ⟨21, .phase⟩, ⟨22, .phase⟩, ⟨23, .phase⟩, ⟨24, .phase⟩, ⟨25, .phase⟩], none⟩
def OPS82_1 : List Oper := [O82_1_0, O82_1_1, O82_1_2, O82_1_3, O82_1_4, O82_1_5, O82_1_6, O82_1_7, O82_1_8, O82_1_9, O82_1_10, O82_1_11, O82_1_12, O82_1_13, O82_1_14, O82_1_15, O82_1_16, O82_1_17, O82_1_18, O82_1_19, O82_1_20, O82_1_21, O82_1_22, O82_1_23, O82_1_24, O82_1_25, O82_1_26, O82_1_27, O82_1_28]
theorem NS82_1 : Region.noSelect OPS82_1.toArray = true := by kernel_rfl
set_option maxHeartbeats 4000000 in
theorem rg82_1 {p g n cap room t d : Nat} {S : Ss} {NX : Act -> World -> Prop} {a0 : Act} {w : World} (K0 : Kn a0 48 [(0, zp p 0), (1, zi t), (2, zi d), (6, zp g (t * 14))]) (h : Pool w p g n cap room S) (ht : t < n) (hr : (S t).r < n) (hd : d < n) (k1 : (-4611686018427387904 <= (S (S t).r).hu.c + (S (S t).r).sm.c /\ (S (S t).r).hu.c + (S (S t).r).sm.c <= 4611686018427387904)) (k2 : (-4611686018427387904 <= (S (S t).r).hu.w + (S (S t).r).sm.s /\ (S (S t).r).hu.w + (S (S t).r).sm.s <= 4611686018427387904)) (k3 : (-4611686018427387904 <= (S d).hu.c + (S d).sm.c /\ (S d).hu.c + (S d).sm.c <= 4611686018427387904)) (k4 : (-4611686018427387904 <= (S d).hu.w + (S d).sm.s /\ (S d).hu.w + (S d).sm.s <= 4611686018427387904)) (k5 : (-4611686018427387904 <= (S t).hg.c + ((S (S t).r).hu.c + (S (S t).r).sm.c) /\ (S t).hg.c + ((S (S t).r).hu.c + (S (S t).r).sm.c) <= 4611686018427387904)) (k6 : (-4611686018427387904 <= (S t).hg.w + ((S (S t).r).hu.w + (S (S t).r).sm.s) /\ (S t).hg.w + ((S (S t).r).hu.w + (S (S t).r).sm.s) <= 4611686018427387904)) (k7 : (-4611686018427387904 <= (S t).hg.c + ((S (S t).r).hu.c + (S (S t).r).sm.c) - ((S d).hu.c + (S d).sm.c) /\ (S t).hg.c + ((S (S t).r).hu.c + (S (S t).r).sm.c) - ((S d).hu.c + (S d).sm.c) <= 4611686018427387904)) (k8 : (-4611686018427387904 <= (S t).hg.w + ((S (S t).r).hu.w + (S (S t).r).sm.s) - ((S d).hu.w + (S d).sm.s) /\ (S t).hg.w + ((S (S t).r).hu.w + (S (S t).r).sm.s) - ((S d).hu.w + (S d).sm.s) <= 4611686018427387904))
  (hN : ∀ a' W, Kn a' 48 [(0, zp p 0), (1, zi t), (2, zi d), (6, zp g (t * 14))] -> Pool W p g n cap room (upd S t { S t with hg := hangS S t d }) -> Keep [g] w W -> NX a' W) : (Code.region 1 OPS82_1.toArray true).wp Try.prog (Norm NX) a0 w := by
 have hq := @norm_q NX
 have hS : (fun w' : World => Pool w' p g n cap room S) w.drew := h.drew
 have HP := hide h
 have b0 : Below w.heap.size w w.drew := (Below.refl _ _).drew
 have e1 : (0 : Int) <= (t : Int) := by omega
 have e2 : (t : Int) < (n : Int) := by omega
 have e3 : (0 : Int) <= ((S t).r : Int) := by omega
 have e4 : ((S t).r : Int) < (n : Int) := by omega
 have e5 : (0 : Int) <= (d : Int) := by omega
 have e6 : (d : Int) < (n : Int) := by omega
 clear h
 refine wp_region_till (t := 28) (S := (fun w' : World => Pool w' p g n cap room S)) (by kernel_rfl) ?_
 rw [show (OPS82_1.toArray).size = 29 from by kernel_rfl]
 refine uP 0 O82_1_0 (zp g (t * 14)) K0 hq NS82_1 (want_none rfl) (fun ev E w9 => ?_) (fun _ => hS) fun a1 K1 => ?_
 ·have E6 := E.tmp 6 _ rfl; clear E; unfold O82_1_0; clear hN hq hS HP; go_simp
 refine uP 1 O82_1_1 (zp g (t * 14)) K1 hq NS82_1 (want_none rfl) (fun ev E w9 => ?_) (fun _ => hS) fun a2 K2 => ?_
 ·have E6 := E.tmp 6 _ rfl; clear E; unfold O82_1_1; clear hN hq hS HP; go_simp
 clear K1
 refine uP 2 O82_1_2 (zp g (t * 14)) K2 hq NS82_1 (want_none rfl) (fun ev E w9 => ?_) (fun _ => hS) fun a3 K3 => ?_
 ·have E14 := E.tmp 14 _ rfl; clear E; unfold O82_1_2; clear hN hq hS HP; go_simp
 clear K2
 refine uP 3 O82_1_3 (zp g (t * 14 + 10)) K3 hq NS82_1 (want_none rfl) (fun ev E w9 => ?_) (fun _ => hS) fun a4 K4 => ?_
 ·have E15 := E.tmp 15 _ rfl; clear E; unfold O82_1_3; clear hN hq hS HP; go_simp
 clear K3
 refine utake (i := 4) (o := O82_1_4) (v := .agg #[zi (S t).hg.c, zi (S t).hg.w]) K4 hq rfl NS82_1 (by kernel_rfl) (by kernel_rfl) (by kernel_rfl) (by kernel_rfl) rfl rfl (want_none rfl) (fun ev E w9 hSw => ?_) hS (fun a5 K5 => ?_)
 ·obtain ⟨s0, s1, s2, s3, s4, s5, s6, s7, s8, s9, s10, s11, s12, s13⟩ := hSw.slot (t := t) (by assumption); clear hSw; have E16 := E.tmp 16 _ rfl; clear E; unfold O82_1_4; clear hN hq hS HP; go_simp
 clear K4
 refine uP 5 O82_1_5 (zp p 0) K5 hq NS82_1 (want_none rfl) (fun ev E w9 => ?_) (fun _ => hS) fun a6 K6 => ?_
 ·have E0 := E.tmp 0 _ rfl; clear E; unfold O82_1_5; clear hN hq hS HP; go_simp
 clear K5
 refine uP 6 O82_1_6 (zp p 0) K6 hq NS82_1 (want_none rfl) (fun ev E w9 => ?_) (fun _ => hS) fun a7 K7 => ?_
 ·have E18 := E.tmp 18 _ rfl; clear E; unfold O82_1_6; clear hN hq hS HP; go_simp
 clear K6
 refine uP 7 O82_1_7 (zp p 1) K7 hq NS82_1 (want_none rfl) (fun ev E w9 => ?_) (fun _ => hS) fun a8 K8 => ?_
 ·have E19 := E.tmp 19 _ rfl; clear E; unfold O82_1_7; clear hN hq hS HP; go_simp
 clear K7
 refine utake (i := 8) (o := O82_1_8) (v := .slice (some ⟨g, 0, none⟩) n cap) K8 hq rfl NS82_1 (by kernel_rfl) (by kernel_rfl) (by kernel_rfl) (by kernel_rfl) rfl rfl (want_none rfl) (fun ev E w9 hSw => ?_) hS (fun a9 K9 => ?_)
 ·obtain ⟨c0, c1, _⟩ := hSw.head; clear hSw; have E20 := E.tmp 20 _ rfl; clear E; unfold O82_1_8; clear hN hq hS HP; go_simp
 clear K8
 refine uP 9 O82_1_9 (zp g (t * 14)) K9 hq NS82_1 (want_none rfl) (fun ev E w9 => ?_) (fun _ => hS) fun a10 K10 => ?_
 ·have E6 := E.tmp 6 _ rfl; clear E; unfold O82_1_9; clear hN hq hS HP; go_simp
 clear K9
 refine uP 10 O82_1_10 (zp g (t * 14)) K10 hq NS82_1 (want_none rfl) (fun ev E w9 => ?_) (fun _ => hS) fun a11 K11 => ?_
 ·have E22 := E.tmp 22 _ rfl; clear E; unfold O82_1_10; clear hN hq hS HP; go_simp
 clear K10
 refine uP 11 O82_1_11 (zp g (t * 14 + 2)) K11 hq NS82_1 (want_none rfl) (fun ev E w9 => ?_) (fun _ => hS) fun a12 K12 => ?_
 ·have E23 := E.tmp 23 _ rfl; clear E; unfold O82_1_11; clear hN hq hS HP; go_simp
 clear K11
 refine utake (i := 12) (o := O82_1_12) (v := zi ((S t).r : Int)) K12 hq rfl NS82_1 (by kernel_rfl) (by kernel_rfl) (by kernel_rfl) (by kernel_rfl) rfl rfl (want_none rfl) (fun ev E w9 hSw => ?_) hS (fun a13 K13 => ?_)
 ·obtain ⟨s0, s1, s2, s3, s4, s5, s6, s7, s8, s9, s10, s11, s12, s13⟩ := hSw.slot (t := t) (by assumption); clear hSw; have E24 := E.tmp 24 _ rfl; clear E; unfold O82_1_12; clear hN hq hS HP; go_simp
 clear K12
 refine uP 13 O82_1_13 (zp g ((S t).r * 14)) K13 hq NS82_1 (want_none rfl) (fun ev E w9 => ?_) (fun _ => hS) fun a14 K14 => ?_
 ·have E21 := E.tmp 21 _ rfl; have E25 := E.tmp 25 _ rfl; clear E; unfold O82_1_13; clear hN hq hS HP; go_simp
 clear K13
 refine utake (i := 14) (o := O82_1_14) (v := .agg #[zi ((S (S t).r).up : Int), zi ((S (S t).r).l : Int), zi ((S (S t).r).r : Int), .bool (S (S t).r).tn, zi (S (S t).r).wt, zi (S (S t).r).wa, zi (S (S t).r).sm.c, zi (S (S t).r).sm.s, zi (S (S t).r).sm.a, zi (S (S t).r).sm.b, zi (S (S t).r).hg.c, zi (S (S t).r).hg.w, zi (S (S t).r).hu.c, zi (S (S t).r).hu.w]) K14 hq rfl NS82_1 (by kernel_rfl) (by kernel_rfl) (by kernel_rfl) (by kernel_rfl) rfl rfl (want_none rfl) (fun ev E w9 hSw => ?_) hS (fun a15 K15 => ?_)
 ·obtain ⟨s0, s1, s2, s3, s4, s5, s6, s7, s8, s9, s10, s11, s12, s13⟩ := hSw.slot (t := (S t).r) (by assumption); clear hSw; have E26 := E.tmp 26 _ rfl; clear E; unfold O82_1_14; clear hN hq hS HP; go_simp
 clear K14
 refine uP 17 O82_1_17 (zp p 0) K15 hq NS82_1 (want_none rfl) (fun ev E w9 => ?_) (fun _ => hS) fun a16 K16 => ?_
 ·have E0 := E.tmp 0 _ rfl; clear E; unfold O82_1_17; clear hN hq hS HP; go_simp
 clear K15
 refine uP 18 O82_1_18 (zp p 0) K16 hq NS82_1 (want_none rfl) (fun ev E w9 => ?_) (fun _ => hS) fun a17 K17 => ?_
 ·have E30 := E.tmp 30 _ rfl; clear E; unfold O82_1_18; clear hN hq hS HP; go_simp
 clear K16
 refine uP 19 O82_1_19 (zp p 1) K17 hq NS82_1 (want_none rfl) (fun ev E w9 => ?_) (fun _ => hS) fun a18 K18 => ?_
 ·have E31 := E.tmp 31 _ rfl; clear E; unfold O82_1_19; clear hN hq hS HP; go_simp
 clear K17
 refine utake (i := 20) (o := O82_1_20) (v := .slice (some ⟨g, 0, none⟩) n cap) K18 hq rfl NS82_1 (by kernel_rfl) (by kernel_rfl) (by kernel_rfl) (by kernel_rfl) rfl rfl (want_none rfl) (fun ev E w9 hSw => ?_) hS (fun a19 K19 => ?_)
 ·obtain ⟨c0, c1, _⟩ := hSw.head; clear hSw; have E32 := E.tmp 32 _ rfl; clear E; unfold O82_1_20; clear hN hq hS HP; go_simp
 clear K18
 refine uP 21 O82_1_21 (zi d) K19 hq NS82_1 (want_none rfl) (fun ev E w9 => ?_) (fun _ => hS) fun a20 K20 => ?_
 ·have E2 := E.tmp 2 _ rfl; clear E; unfold O82_1_21; clear hN hq hS HP; go_simp
 clear K19
 refine uP 22 O82_1_22 (zp g (d * 14)) K20 hq NS82_1 (want_none rfl) (fun ev E w9 => ?_) (fun _ => hS) fun a21 K21 => ?_
 ·have E33 := E.tmp 33 _ rfl; have E34 := E.tmp 34 _ rfl; clear E; unfold O82_1_22; clear hN hq hS HP; go_simp
 clear K20
 refine utake (i := 23) (o := O82_1_23) (v := .agg #[zi ((S d).up : Int), zi ((S d).l : Int), zi ((S d).r : Int), .bool (S d).tn, zi (S d).wt, zi (S d).wa, zi (S d).sm.c, zi (S d).sm.s, zi (S d).sm.a, zi (S d).sm.b, zi (S d).hg.c, zi (S d).hg.w, zi (S d).hu.c, zi (S d).hu.w]) K21 hq rfl NS82_1 (by kernel_rfl) (by kernel_rfl) (by kernel_rfl) (by kernel_rfl) rfl rfl (want_none rfl) (fun ev E w9 hSw => ?_) hS (fun a22 K22 => ?_)
 ·obtain ⟨s0, s1, s2, s3, s4, s5, s6, s7, s8, s9, s10, s11, s12, s13⟩ := hSw.slot (t := d) (by assumption); clear hSw; have E35 := E.tmp 35 _ rfl; clear E; unfold O82_1_23; clear hN hq hS HP; go_simp
 clear K21
 refine uone (i := 15) (o := ⟨some 28, .call { callee := (.value (.func 75)), args := #[(.tmp 27)], argTypes := #[75] }, 73, "path.go:70", #[⟨14, .data⟩], none⟩) K22 rfl (by kernel_rfl) rfl rfl (want_none rfl) (leaves_call (fn := 75) (args := #[.agg #[zi ((S (S t).r).up : Int), zi ((S (S t).r).l : Int), zi ((S (S t).r).r : Int), .bool (S (S t).r).tn, zi (S (S t).r).wt, zi (S (S t).r).wa, zi (S (S t).r).sm.c, zi (S (S t).r).sm.s, zi (S (S t).r).sm.a, zi (S (S t).r).sm.b, zi (S (S t).r).hg.c, zi (S (S t).r).hg.w, zi (S (S t).r).hu.c, zi (S (S t).r).hu.w]]) K22 (fun ev E => by clear hN hq hS HP; have EF := E.func; have E27 := E.tmp 27 _ rfl; clear E; go_simp) (whole_any _ _ _ _ _ _ _ _ _ _ _ _ _ _ _ k1 k2) (fun e w' h => ⟨_, h.1⟩)) (fun v23 C1 hR => ?_)
 obtain ⟨hv, hb⟩ := hR
 injection hv with hv
 subst hv
 have b1 : Below w.heap.size w C1 := b0.trans (hb.mono b0.size)
 clear hS hb
 have hS : (fun w' : World => Pool w' p g n cap room S) C1 := (unhide HP).below b1
 refine ⟨fun _ => hS, fun a23 K23 => ?_⟩
 clear K22
 replace K23 : Kn _ 48 ((28, .agg #[zi ((S (S t).r).hu.c + (S (S t).r).sm.c), zi ((S (S t).r).hu.w + (S (S t).r).sm.s)]) :: _) := K23
 refine uone (i := 16) (o := ⟨some 29, .call { callee := (.value (.func 80)), args := #[(.tmp 17), (.tmp 28)], argTypes := #[73, 73] }, 73, "path.go:70", #[⟨4, .data⟩, ⟨15, .data⟩, ⟨15, .chain⟩], none⟩) K23 rfl (by kernel_rfl) rfl rfl (want_none rfl) (leaves_call (fn := 80) (args := #[.agg #[zi (S t).hg.c, zi (S t).hg.w], .agg #[zi ((S (S t).r).hu.c + (S (S t).r).sm.c), zi ((S (S t).r).hu.w + (S (S t).r).sm.s)]]) K23 (fun ev E => by clear hN hq hS HP; have EF := E.func; have E17 := E.tmp 17 _ rfl; have E28 := E.tmp 28 _ rfl; clear E; go_simp) (with_any _ _ _ _ _ k5 k6) (fun e w' h => ⟨_, h.1⟩)) (fun v24 C2 hR => ?_)
 obtain ⟨hv, hb⟩ := hR
 injection hv with hv
 subst hv
 have b2 : Below w.heap.size w C2 := b1.trans (hb.mono b1.size)
 clear hS hb
 have hS : (fun w' : World => Pool w' p g n cap room S) C2 := (unhide HP).below b2
 refine ⟨fun _ => hS, fun a24 K24 => ?_⟩
 clear K23
 replace K24 : Kn _ 48 ((29, .agg #[zi ((S t).hg.c + ((S (S t).r).hu.c + (S (S t).r).sm.c)), zi ((S t).hg.w + ((S (S t).r).hu.w + (S (S t).r).sm.s))]) :: _) := K24
 refine uone (i := 24) (o := ⟨some 37, .call { callee := (.value (.func 75)), args := #[(.tmp 36)], argTypes := #[75] }, 73, "path.go:70", #[⟨23, .data⟩, ⟨16, .chain⟩], none⟩) K24 rfl (by kernel_rfl) rfl rfl (want_none rfl) (leaves_call (fn := 75) (args := #[.agg #[zi ((S d).up : Int), zi ((S d).l : Int), zi ((S d).r : Int), .bool (S d).tn, zi (S d).wt, zi (S d).wa, zi (S d).sm.c, zi (S d).sm.s, zi (S d).sm.a, zi (S d).sm.b, zi (S d).hg.c, zi (S d).hg.w, zi (S d).hu.c, zi (S d).hu.w]]) K24 (fun ev E => by clear hN hq hS HP; have EF := E.func; have E36 := E.tmp 36 _ rfl; clear E; go_simp) (whole_any _ _ _ _ _ _ _ _ _ _ _ _ _ _ _ k3 k4) (fun e w' h => ⟨_, h.1⟩)) (fun v25 C3 hR => ?_)
 obtain ⟨hv, hb⟩ := hR
 injection hv with hv
 subst hv
 have b3 : Below w.heap.size w C3 := b2.trans (hb.mono b2.size)
 clear hS hb
 have hS : (fun w' : World => Pool w' p g n cap room S) C3 := (unhide HP).below b3
 refine ⟨fun _ => hS, fun a25 K25 => ?_⟩
 clear K24
 replace K25 : Kn _ 48 ((37, .agg #[zi ((S d).hu.c + (S d).sm.c), zi ((S d).hu.w + (S d).sm.s)]) :: _) := K25
 refine uone (i := 25) (o := ⟨some 38, .call { callee := (.value (.func 94)), args := #[(.tmp 29), (.tmp 37)], argTypes := #[73, 73] }, 73, "path.go:70", #[⟨16, .data⟩, ⟨24, .data⟩, ⟨24, .chain⟩], none⟩) K25 rfl (by kernel_rfl) rfl rfl (want_none rfl) (leaves_call (fn := 94) (args := #[.agg #[zi ((S t).hg.c + ((S (S t).r).hu.c + (S (S t).r).sm.c)), zi ((S t).hg.w + ((S (S t).r).hu.w + (S (S t).r).sm.s))], .agg #[zi ((S d).hu.c + (S d).sm.c), zi ((S d).hu.w + (S d).sm.s)]]) K25 (fun ev E => by clear hN hq hS HP; have EF := E.func; have E29 := E.tmp 29 _ rfl; have E37 := E.tmp 37 _ rfl; clear E; go_simp) (without_any _ _ _ _ _ k7 k8) (fun e w' h => ⟨_, h.1⟩)) (fun v26 C4 hR => ?_)
 obtain ⟨hv, hb⟩ := hR
 injection hv with hv
 subst hv
 have b4 : Below w.heap.size w C4 := b3.trans (hb.mono b3.size)
 clear hS hb
 have hS : (fun w' : World => Pool w' p g n cap room S) C4 := (unhide HP).below b4
 refine ⟨fun _ => hS, fun a26 K26 => ?_⟩
 clear K25
 replace K26 : Kn _ 48 ((38, .agg #[zi ((S t).hg.c + ((S (S t).r).hu.c + (S (S t).r).sm.c) - ((S d).hu.c + (S d).sm.c)), zi ((S t).hg.w + ((S (S t).r).hu.w + (S (S t).r).sm.s) - ((S d).hu.w + (S d).sm.s))]) :: _) := K26
 refine uP 26 O82_1_26 (zp g (t * 14)) K26 hq NS82_1 (want_none rfl) (fun ev E w9 => ?_) (fun _ => hS) fun a27 K27 => ?_
 ·have E13 := E.tmp 13 _ rfl; clear E; unfold O82_1_26; clear hN hq hS HP; go_simp
 clear K26
 refine uP 27 O82_1_27 (zp g (t * 14 + 10)) K27 hq NS82_1 (want_none rfl) (fun ev E w9 => ?_) (fun _ => hS) fun a28 K28 => ?_
 ·have E39 := E.tmp 39 _ rfl; clear E; unfold O82_1_27; clear hN hq hS HP; go_simp
 clear K27
 have P0 := hide hS
 clear hS
 obtain ⟨s0, s1, s2, s3, s4, s5, s6, s7, s8, s9, s10, s11, s12, s13⟩ := (unhide P0).slot ht
 obtain ⟨f0, f1, f2, f3, f4, f5, f6, f7, f8, f9, f10, f11, f12, f13⟩ := (unhide P0).soft ht
 refine ustore (R := fun _ _ => True) (i := 28) (o := O82_1_28) (w' := ((C4).setCell ⟨g, t * 14 + 10, none⟩ (zi ((S t).hg.c + ((S (S t).r).hu.c + (S (S t).r).sm.c) - ((S d).hu.c + (S d).sm.c)))).setCell ⟨g, t * 14 + 11, none⟩ (zi ((S t).hg.w + ((S (S t).r).hu.w + (S (S t).r).sm.s) - ((S d).hu.w + (S d).sm.s)))) K28 rfl (by kernel_rfl) rfl (want_none rfl) (fun ev E => ?_) (fun hx => absurd hx (by decide)) ?_
 ·have E38 := E.tmp 38 _ rfl; have E40 := E.tmp 40 _ rfl; clear E; unfold O82_1_28; clear hN hq HP P0; go_simp
 refine till_done (by kernel_rfl) ?_ _
 have P3 := ((unhide P0).put (t := t) ht 10 (by omega) { S t with hg := { (S t).hg with c := (hangS S t d).c } } (zi ((S t).hg.c + ((S (S t).r).hu.c + (S (S t).r).sm.c) - ((S d).hu.c + (S d).sm.c))) rfl).put (t := t) ht 11 (by omega) { S t with hg := hangS S t d } (zi ((S t).hg.w + ((S (S t).r).hu.w + (S (S t).r).sm.s) - ((S d).hu.w + (S d).sm.s))) (by rw [upd_same]; rfl)
 have Q3 := ((Keep.ofBelow b4 [g]).cellB (t * 14 + 10) (zi ((S t).hg.c + ((S (S t).r).hu.c + (S (S t).r).sm.c) - ((S d).hu.c + (S d).sm.c)))).cellB (t * 14 + 11) (zi ((S t).hg.w + ((S (S t).r).hu.w + (S (S t).r).sm.s) - ((S d).hu.w + (S d).sm.s)))
 have hE : ∀ (T : Ss) (x : Sl), (∀ j, j ≠ t -> T j = S j) -> upd T t x = upd S t x := fun T x hT => by
  funext j
  by_cases hj : j = t
  ·subst hj; simp [upd]
  ·simp [upd, hj, hT j hj]
 rw [hE _ _ (fun j hj => by simp [upd, hj])] at P3
 exact hN _ _ (K28.less ⟨rfl, rfl, rfl, rfl, trivial⟩) P3 Q3
set_option maxHeartbeats 4000000 in
theorem prefer_any {p g n cap room t d : Nat} {S : Ss} {w : World} (h : Pool w p g n cap room S) (ht : t < n) (hl : (S t).l < n) (hr : (S t).r < n) (hd : d < n) (hlt : (S t).l ≠ t) (hdt : d ≠ t) (k1 : (-4611686018427387904 <= (S (S t).r).hu.c + (S (S t).r).sm.c /\ (S (S t).r).hu.c + (S (S t).r).sm.c <= 4611686018427387904)) (k2 : (-4611686018427387904 <= (S (S t).r).hu.w + (S (S t).r).sm.s /\ (S (S t).r).hu.w + (S (S t).r).sm.s <= 4611686018427387904)) (k3 : (-4611686018427387904 <= (S d).hu.c + (S d).sm.c /\ (S d).hu.c + (S d).sm.c <= 4611686018427387904)) (k4 : (-4611686018427387904 <= (S d).hu.w + (S d).sm.s /\ (S d).hu.w + (S d).sm.s <= 4611686018427387904)) (k5 : (-4611686018427387904 <= (S t).hg.c + ((S (S t).r).hu.c + (S (S t).r).sm.c) /\ (S t).hg.c + ((S (S t).r).hu.c + (S (S t).r).sm.c) <= 4611686018427387904)) (k6 : (-4611686018427387904 <= (S t).hg.w + ((S (S t).r).hu.w + (S (S t).r).sm.s) /\ (S t).hg.w + ((S (S t).r).hu.w + (S (S t).r).sm.s) <= 4611686018427387904)) (k7 : (-4611686018427387904 <= (S t).hg.c + ((S (S t).r).hu.c + (S (S t).r).sm.c) - ((S d).hu.c + (S d).sm.c) /\ (S t).hg.c + ((S (S t).r).hu.c + (S (S t).r).sm.c) - ((S d).hu.c + (S d).sm.c) <= 4611686018427387904)) (k8 : (-4611686018427387904 <= (S t).hg.w + ((S (S t).r).hu.w + (S (S t).r).sm.s) - ((S d).hu.w + (S d).sm.s) /\ (S t).hg.w + ((S (S t).r).hu.w + (S (S t).r).sm.s) - ((S d).hu.w + (S d).sm.s) <= 4611686018427387904))
  (hb : Gbd (upd S t { S t with hg := hangS S t d, r := d }) t) :
  Calls Try.prog 82 #[zp p 0, zi t, zi d] w fun e w' => e = .returned (.tuple #[]) /\ Pool w' p g n cap room (prefS S t d) /\ Keep [g] w w' := by
 have PH := hide h
 have HB := hide hb
 have HK := hide (And.intro k1 (And.intro k2 (And.intro k3 (And.intro k4 (And.intro k5 (And.intro k6 (And.intro k7 k8)))))))
 clear h hb k1 k2 k3 k4 k5 k6 k7 k8
 have e1 : (0 : Int) <= (t : Int) := by omega
 have e2 : (t : Int) < (n : Int) := by omega
 refine callsK (n := 48) (L := [(0, zp p 0), (1, zi t), (2, zi d)]) Try.func82 rfl Try.ntmps82 rfl rfl (fun a0 K0 => ?_)
 refine seqR ?_
 refine lM K0 fun a1 K1 => ?_
 refine lN K1 fun a2 K2 => ?_
 clear K1
 refine lF K2 FA66_1 fun a3 K3 => ?_
 clear K2
 refine lT (.slice (some ⟨g, 0, none⟩) n cap) w K3 (want_none rfl) (fun ev E => ?_) fun a4 K4 => ?_
 ·obtain ⟨c0, c1, _⟩ := (unhide PH).head; have E9 := E.tmp 9 _ rfl; clear E; clear PH HB HK; go_simp
 clear K3
 refine lM K4 fun a5 K5 => ?_
 clear K4
 refine lT (zp g (t * 14)) w K5 (want_none rfl) (fun ev E => ?_) fun a6 K6 => ?_
 ·have E10 := E.tmp 10 _ rfl; have E11 := E.tmp 11 _ rfl; clear E; clear PH HB HK; go_simp
 clear K5
 refine lA K6 fun a7 K7 => ?_
 clear K6
 refine nilN ?_
 have K8 : Kn _ 48 [(0, zp p 0), (1, zi t), (2, zi d), (6, zp g (t * 14))] := K7.less ⟨rfl, rfl, rfl, rfl, trivial⟩
 clear K7
 obtain ⟨k1, k2, k3, k4, k5, k6, k7, k8⟩ := unhide HK
 refine seqN (rg82_1 K8 (unhide PH) ht hr hd k1 k2 k3 k4 k5 k6 k7 k8 fun a1 W1 K1 P1 Q1 => ?_)
 clear PH k1 k2 k3 k4 k5 k6 k7 k8
 obtain ⟨S1, hS1⟩ : ∃ z, z = upd S t { S t with hg := hangS S t d } := ⟨_, rfl⟩
 rw [← hS1] at P1
 have PH := hide P1
 have KP := hide Q1
 have HS1 := hide hS1
 clear P1 Q1 hS1
 show Code.wp _ _ _ _ _
 refine seqR ?_
 refine lM K1 fun a14 K14 => ?_
 clear K1
 refine lM K14 fun a15 K15 => ?_
 clear K14
 refine lN K15 fun a16 K16 => ?_
 clear K15
 refine lF K16 FA75_2 fun a17 K17 => ?_
 clear K16
 obtain ⟨_, _, sk, _, _, _, _, _, _, _, _, _, _, _⟩ := (unhide PH).slot ht
 obtain ⟨_, _, fk, _, _, _, _, _, _, _, _, _, _, _⟩ := (unhide PH).soft ht
 refine lstore (w' := W1.setCell ⟨g, t * 14 + 2, none⟩ (zi d)) K17 rfl (want_none rfl) (fun ev E => ?_) ?_
 ·have E42 := E.tmp 42 _ rfl; have E44 := E.tmp 44 _ rfl; clear E; clear PH KP HB HK HS1; go_simp
 clear sk fk
 have P1 := (unhide PH).put (t := t) ht 2 (by omega) { S1 t with r := d } (zi d) rfl
 have Q1 := (unhide KP).cellB (t * 14 + 2) (zi d)
 clear PH KP
 have PH := hide P1
 have KP := hide Q1
 clear P1 Q1
 generalize W1.setCell ⟨g, t * 14 + 2, none⟩ (zi d) = W2 at *
 refine nilN ?_
 have K19 : Kn _ 48 [(0, zp p 0), (1, zi t)] := K17.less ⟨rfl, rfl, trivial⟩
 clear K17
 have hE : upd S1 t { S1 t with r := d } = upd S t { S t with hg := hangS S t d, r := d } := by
  rw [unhide HS1]
  funext j
  by_cases hj : j = t
  ·subst hj; simp [upd]
  ·simp [upd, hj]
 rw [hE] at PH
 clear hE HS1
 obtain ⟨S2, hS2⟩ : ∃ z, z = upd S t { S t with hg := hangS S t d, r := d } := ⟨_, rfl⟩
 have s2 : S2 t = { S t with hg := hangS S t d, r := d } := by rw [hS2, upd_same]
 rw [← hS2] at PH HB
 have HS2 := hide (And.intro hS2 s2)
 clear hS2 s2
 refine lastN ?_
 refine wp_region_lit ?_
 refine lM K19 fun a20 K20 => ?_
 clear K19
 refine lM K20 fun a21 K21 => ?_
 clear K20
 refine lcall (f := 63) (args := #[zp p 0, zi t]) K21 rfl rfl (want_none rfl) (fun ev E => ?_) (gather_any (unhide PH) ht (by rw [(unhide HS2).2]; exact hl) (by rw [(unhide HS2).2]; exact hd) (by rw [(unhide HS2).2]; exact hlt) (by rw [(unhide HS2).2]; exact hdt) (unhide HB)) (fun e V3 hR => ?_)
 ·have EF := E.func; have E45 := E.tmp 45 _ rfl; have E46 := E.tmp 46 _ rfl; clear E; clear PH KP HB HK HS2; go_simp
 obtain ⟨rfl, P3, Q3⟩ := hR
 refine ⟨_, rfl, fun a22 K22 => ?_⟩
 clear K21
 refine wpList_nil ?_
 refine ⟨K22.defers, .tuple #[], results_none rfl _ _ _, rfl, ?_, (unhide KP).tr Q3⟩
 rw [(unhide HS2).1] at P3; exact P3
end Go.Proofs.Ytjnkgakajenoaaa
namespace Go.Proofs.Ytjnkgakajenoaaa
set_option linter.unusedVariables false
set_option linter.unusedSimpArgs false
section
variable {S S0 S1 S2 : Ss} {n : Nat} {T : Tr} {G G0 G1 G2 : Gh} {t u x y z k met next below : Nat} {d : Int} {s : Bool}
def Out (T : Tr) (t : Nat) (S0 : Ss) (G0 : Gh) (S : Ss) (G : Gh) : Prop := ∀ x, Th T x -> Top S0 x -> G0.fi x ∉ U T t -> Top S x /\ (S x).up = (S0 x).up /\ G.fi x = G0.fi x /\ G.la x = G0.la x
theorem Out.refl : Out T t S G S G := fun _ _ h _ => ⟨h, rfl, rfl, rfl⟩
theorem Out.trans (h : Out T t S0 G0 S1 G1) (k : Out T t S1 G1 S2 G2) : Out T t S0 G0 S2 G2 := fun x h1 h2 h3 => by
 obtain ⟨a1, a2, a3, a4⟩ := h x h1 h2 h3
 obtain ⟨b1, b2, b3, b4⟩ := k x h1 a1 (by rw [a3]; exact h3)
 exact ⟨b1, b2.trans a2, b3.trans a3, b4.trans a4⟩
structure Ex (n : Nat) (T : Tr) (t : Nat) (S0 : Ss) (G0 : Gh) (met next : Nat) (S : Ss) (G : Gh) : Prop where
 m0 : met = 0 -> next = t
 out : Out T t S0 G0 S G
 m1 : met ≠ 0 -> Th T met /\ Top S met /\ (S met).up = next /\ G.la met = t /\ G.pn t = 0 /\ met ∈ U T t /\ (met = t ∨ ∃ y, y ∈ U T t /\ ps T y = met /\ G0.pn met ≠ y) /\ (next = 0 -> ∀ z, z ∈ U T met -> ps T z ≠ 0 -> G0.pn (ps T z) = z)
 nx : next ≠ 0 -> next ∈ U T t
 pa : ∀ z, z ∈ U T next -> G.pn z = G0.pn z
structure Exd (n : Nat) (T : Tr) (t : Nat) (S0 : Ss) (G0 : Gh) (met : Nat) (S : Ss) (G : Gh) : Prop where
 top : Top S t
 idle : Idle S t
 up0 : (S t).up = 0
 r0 : (S t).r = 0
 pn0 : G.pn t = 0
 la : G.la t = t
 root : ps T (G.fi t) = 0
 chain : ∀ z, z ∈ U T t -> ps T z ≠ 0 -> G.pn (ps T z) = z
 out : Out T t S0 G0 S G
 mu : met ∈ U T t
 m1 : met = t ∨ ∃ y, y ∈ U T t /\ ps T y = met /\ G0.pn met ≠ y
 mc : ∀ z, z ∈ U T met -> ps T z ≠ 0 -> G0.pn (ps T z) = z
theorem Ex.init (ht : Th T t) (W : T.Wf) : Ex n T t S0 G0 0 t S0 G0 :=
 ⟨fun _ => rfl, Out.refl, fun h => absurd rfl h, fun _ => U_self W ht, fun _ _ => rfl⟩
theorem Fra.out (h : Fra T t S G S1 G1) : Out T t S G S1 G1 := h.top
theorem Lc.chain0 (h : Lc S n T G) (hx : Th T x) (h0 : ps T (G.fi x) = 0) (hz : z ∈ U T x) (hp : ps T z ≠ 0) : G.pn (ps T z) = z := by
 have hf := h.fi_th hx
 have ne : z ≠ G.fi x := fun e => hp (by rw [e]; exact h0)
 rcases U_cmp' h.wf hz (h.fi_in hx) with q | q
 ·rcases (U_up h.wf hf).1 q with e | e
  ·exact absurd e ne
  ·rw [h0, U_zero] at e; simp at e
 ·exact (h.chain hx).1 z hz q ne
theorem Ex.splayed (E : Ex n T t S0 G0 met next S G) (h : Lc S n T G) (hn : next ≠ 0) (F : Fra T next S G S1 G1) (h1 : Lc S1 n T G1) : met ≠ 0 -> Th T met /\ Top S1 met /\ (S1 met).up = next := fun m => by
 obtain ⟨a1, a2, a3, a4, a5, a6, a7, a8⟩ := E.m1 m
 have P := (h.loc met a1).tp a2
 have nin : G.fi met ∉ U T next := fun q => by
  have d1 := dp_th h.wf (h.fi_th a1)
  rw [P.fi, a3] at d1
  rcases U_dp h.wf q with e | e
  ·rw [e] at d1; omega
  ·omega
 obtain ⟨b1, b2, _, _⟩ := F.top met a1 a2 nin
 exact ⟨a1, b1, b2.trans a3⟩
theorem Ex.round (E : Ex n T t S0 G0 met next S G) (h : Lc S n T G) (ht : Th T t) (hn : next ≠ 0) (F : Fra T next S G S1 G1) (h1 : Lc S1 n T G1) (hT : Top S1 next) (hi : Idle S1 next) :
  Lc (prefS S1 next met) n T (prefG G1 next met) /\ Ex n T t S0 G0 next (prefS S1 next met next).up (prefS S1 next met) (prefG G1 next met) /\ dp T (prefS S1 next met next).up < dp T next := by
 have W := h.wf
 have nin := E.nx hn
 have hnx := U_mem_th W nin
 have hb := E.splayed h hn F h1
 obtain ⟨p1, p2, p3, p4⟩ := h1.prefer hnx hT hi hb
 have P1 := (h1.loc next hnx).tp hT
 have dlt := h1.up_dp hnx hT
 have fdp := h1.fi_dp hnx
 have fin := h1.fi_in hnx
 have pn1 : ∀ z, z ≠ next -> (prefG G1 next met).pn z = G.pn z := fun z hz => by
  rw [← F.pn]; exact updF_other _ _ hz
 have la1 : ∀ z, z ≠ next -> (prefG G1 next met).la z = G1.la z := fun z hz => updF_other _ _ hz
 have metf : met ≠ 0 -> G1.fi met = G.fi met /\ G1.la met = G.la met /\ dp T next < dp T met /\ G1.fi met ∈ U T t := fun m => by
  obtain ⟨a1, a2, a3, a4, a5, a6, a7, a8⟩ := E.m1 m
  have P := (h.loc met a1).tp a2
  have d1 := dp_th W (h.fi_th a1)
  rw [P.fi, a3] at d1
  have d2 := h.fi_dp a1
  have nin : G.fi met ∉ U T next := fun q => by
   rcases U_dp W q with e | e
   ·rw [e] at d1; omega
   ·omega
  obtain ⟨_, _, b3, b4⟩ := F.top met a1 a2 nin
  exact ⟨b3, b4, by omega, by rw [b3]; exact U_trans W a6 (h.fi_in a1)⟩
 refine ⟨p1, ⟨fun e => absurd e hn, ?_, fun _ => ⟨hnx, p2, rfl, ?_, ?_, nin, ?_, ?_⟩, ?_, ?_⟩, by rw [p3]; omega⟩
 ·refine E.out.trans fun x x1 x2 x3 => ?_
  obtain ⟨b1, b2, b3, b4⟩ := F.top x x1 x2 (fun q => x3 (U_trans W nin q))
  have xm : x ≠ met := fun e => by
   have m : met ≠ 0 := by rw [← e]; have := x1.1; omega
   have := (metf m).2.2.2
   rw [← e, b3] at this; exact x3 this
  have xn : x ≠ next := fun e => by
   rw [← b3, e] at x3
   exact x3 (U_trans W nin fin)
  exact ⟨p4 x x1 b1 xm, (p3 x).trans b2, b3, (la1 x xn).trans b4⟩
 ·show updF G1.la next _ next = t
  rw [updF_same]
  by_cases m : met = 0
  ·rw [if_pos m]; exact E.m0 m
  ·rw [if_neg m, (metf m).2.1]; exact (E.m1 m).2.2.2.1
 ·by_cases m : met = 0
  ·rw [← E.m0 m]
   show updF G1.pn next _ next = 0
   rw [updF_same, if_pos m]
  ·have tn : t ≠ next := fun e => by
    have d := (metf m).2.2.1
    rcases U_dp W (E.m1 m).2.2.2.2.2.1 with q | q
    ·rw [q, e] at d; omega
    ·rw [← e] at d; omega
   rw [pn1 t tn]; exact (E.m1 m).2.2.2.2.1
 ·by_cases m : met = 0
  ·exact .inl (E.m0 m)
  ·obtain ⟨b1, b2, b3⟩ := hb m
   have Pm := (h1.loc met b1).tp b2
   have e1 := Pm.fi
   have e2 := Pm.nv
   rw [b3] at e1 e2
   refine .inr ⟨G1.fi met, (metf m).2.2.2, e1, ?_⟩
   rw [F.pn, E.pa next (U_self W hnx)] at e2
   exact e2
 ·intro e z hz hp
  rw [p3] at e
  have q := h1.chain0 hnx (by rw [P1.fi]; exact e) hz hp
  rw [F.pn] at q
  have hz' := U_mem_th W hz
  have := E.pa (ps T z) (U_trans W hz (U_ps W hz' hp))
  rw [← this]; exact q
 ·intro e
  rw [p3] at e ⊢
  rw [← P1.fi] at e ⊢
  exact U_trans W nin (U_trans W fin (U_ps W (h1.fi_th hnx) e))
 ·intro z hz
  rw [p3] at hz
  have z1 : z ≠ next := fun e => by
   rcases U_dp W hz with q | q
   ·rw [← q, e] at dlt; omega
   ·rw [e] at q; omega
  have u0 : (S1 next).up ≠ 0 := fun e => by rw [e, U_zero] at hz; simp at hz
  have : (S1 next).up ∈ U T next := by
   rw [← P1.fi] at u0 ⊢
   exact U_trans W fin (U_ps W (h1.fi_th hnx) u0)
  rw [pn1 z z1]
  exact E.pa z (U_trans W this hz)
theorem Ex.done (E : Ex n T t S0 G0 met 0 S G) (h : Lc S n T G) (ht : Th T t) (F : Fra T t S G S1 G1) (h1 : Lc S1 n T G1) (hT : Top S1 t) (hi : Idle S1 t) : Exd n T t S0 G0 met S1 G1 := by
 have W := h.wf
 have t0 := ht.1
 have m : met ≠ 0 := fun m => by have := E.m0 m; omega
 obtain ⟨a1, a2, a3, a4, a5, a6, a7, a8⟩ := E.m1 m
 have P := (h.loc met a1).tp a2
 have P1 := (h1.loc t ht).tp hT
 have ch : ∀ z, z ∈ U T t -> ps T z ≠ 0 -> G1.pn (ps T z) = z := fun z hz hp => by
  rw [F.pn]
  rcases U_cmp' W hz a6 with q | q
  ·exact h.chain0 a1 (by rw [P.fi]; exact a3) q hp
  ·by_cases e : z = met
   ·exact h.chain0 a1 (by rw [P.fi]; exact a3) (by rw [e]; exact U_self W a1) hp
   ·exact (h.chain a1).2 z (by rw [a4]; exact hz) q e
 have up0 : (S1 t).up = 0 := Classical.byContradiction fun u0 => by
  have := ch (G1.fi t) (h1.fi_in ht) (by rw [P1.fi]; exact u0)
  rw [P1.fi] at this
  exact P1.nv this
 have en := (h1.loc t ht).en
 rw [P1.b] at en
 have pn0 : G1.pn t = 0 := by rw [F.pn]; exact a5
 have r0 : (S1 t).r = 0 := Classical.byContradiction fun r => by
  have e : G1.pn t = G1.fi (S1 t).r := (en.r1 r).2
  have := (h1.fi_th ((h1.loc t ht).kr r).th).1
  omega
 exact ⟨hT, hi, up0, r0, pn0, en.r0 r0, by rw [P1.fi]; exact up0, ch, E.out.trans F.out, a6, a7, a8 rfl⟩
theorem Lc.wh_r (h : Lc S n T G) (ht : Th T t) (hT : Top S t) (hi : Idle S t) : (wh (S (S t).r)).c = Dc T (G.pn t) /\ (wh (S (S t).r)).w = Dw T (G.pn t) := by
 have W := h.wf
 have L := h.loc t ht
 have P := L.tp hT
 have en := L.en
 rw [P.b] at en
 by_cases e : (S t).r = 0
 ·have q := P.pn
  have e2 : G.la t = t := en.r0 e
  rw [e2] at q
  rw [e, h.s0, q, Dc_zero W, Dw_zero W]; exact ⟨rfl, rfl⟩
 ·have K := L.kr e
  have q := h.whole K.th
  have e1 : G.pn t = G.fi (S t).r := (en.r1 e).2
  have e2 : G.la t = G.la (S t).r := (en.r1 e).1
  have a0 : G.a (S t).r = 0 := by rw [K.a, P.a, hi.2]; rfl
  have p0 : G.pn (G.la (S t).r) = 0 := by rw [← e2]; exact P.pn
  rw [a0, lf_zero, p0, Dc_zero W, Dw_zero W] at q
  rw [e1]
  unfold wh; dsimp only; omega
theorem Lc.wh_b (h : Lc S n T G) (hb : below ≠ 0 -> Th T below /\ Top S below) : ∃ j, (wh (S below)).c = Dc T j /\ (wh (S below)).w = Dw T j := by
 by_cases e : below = 0
 ·exact ⟨0, by rw [e, h.s0, Dc_zero h.wf]; rfl, by rw [e, h.s0, Dw_zero h.wf]; rfl⟩
 ·exact ⟨G.fi below, h.top_whole (hb e).1 (hb e).2⟩
theorem Dw_abs (hf : T.Fit) (j : Nat) : -1152921504606846976 <= Dw T j /\ Dw T j <= 1152921504606846976 := by
 have h1 := Dw_bd hf j
 have h2 := Dc_bd T j
 have h3 := hf.n
 omega
end
end Go.Proofs.Ytjnkgakajenoaaa
namespace Go.Proofs.Ytjnkgakajenoaaa
open Go.RowKit Go.Arb
set_option linter.unusedVariables false
set_option linter.unusedSimpArgs false
set_option maxRecDepth 100000
section
variable {S : Ss} {T : Tr} {G : Gh} {p g n cap room t d : Nat} {w : World}
theorem preferL (h : Pool w p g n cap room S) (L : Lc S n T G) (ht : Th T t) (hT : Top S t) (hi : Idle S t) (hb : d ≠ 0 -> Th T d /\ Top S d /\ (S d).up = t) :
  Calls Try.prog 82 #[zp p 0, zi t, zi d] w fun e w' => e = .returned (.tuple #[]) /\ Pool w' p g n cap room (prefS S t d) /\ Keep [g] w w' := by
 obtain ⟨k1, k2, k3, k4⟩ := L.kids_lt ht
 obtain ⟨L1, _⟩ := L.prefer ht hT hi hb
 have P := (L.loc t ht).tp hT
 have dt : d ≠ t := fun e => by
  obtain ⟨_, _, h3⟩ := hb (by have := ht.1; omega)
  rw [e] at h3
  have h1 := L.up_dp ht hT
  have h2 := L.fi_dp ht
  rw [h3] at h1; omega
 have bt := L.bz t
 have br := L.bz (S t).r
 have bd := L.bz d
 have r1 := L.wh_r ht hT hi
 obtain ⟨j, b1, b2⟩ := L.wh_b (below := d) (fun e => ⟨(hb e).1, (hb e).2.1⟩)
 have g1 := (L.loc t ht).hgc
 have g2 := (L.loc t ht).hgw
 have w1 := (L.ft.wt (t - 1))
 have d1 := Dw_abs L.ft t
 have d2 := Dw_abs L.ft j
 have d3 := Dc_bd T j
 have d4 := Dc_bd T t
 have d5 := L.ft.n
 have e1 := prefS_at (below := d) S k3 dt t
 rw [if_pos rfl] at e1
 have b9 := L1.bz t
 rw [e1] at b9
 have q1 := bt.c; have q2 := bt.s; have q3 := bt.gc; have q4 := bt.gw
 have s1 := br.c; have s2 := br.s; have s3 := br.uc; have s4 := br.uw
 have t1 := bd.c; have t2 := bd.s; have t3 := bd.uc; have t4 := bd.uw
 unfold wh at r1 b1 b2
 dsimp only at r1 b1 b2
 refine prefer_any h (L.lt t ht) k1 k2 (L.lt' fun e => (hb e).1) k3 dt ⟨by omega, by omega⟩ ⟨by omega, by omega⟩ ⟨by omega, by omega⟩ ⟨by omega, by omega⟩ ⟨by omega, by omega⟩ ⟨by omega, by omega⟩ ⟨by omega, by omega⟩ ⟨by omega, by omega⟩ ?_
 refine gbd_of ?_ ?_ ?_
 ·rw [upd_same]; dsimp only; rw [upd_ne _ _ k3]; exact L.bz _
 ·rw [upd_same]; dsimp only; rw [upd_ne _ _ dt]; exact bd
 ·rw [upd_same]
  exact ⟨bt.c, bt.s, bt.uc, bt.uw, b9.gc, b9.gw, bt.wt⟩
end
set_option maxHeartbeats 4000000 in
theorem round61 {p g n cap room t met next : Nat} {T : Tr} {S0 S : Ss} {G0 G : Gh} {Q : Exit -> Act -> World -> Prop} {a0 : Act} {w0 w : World} (K0 : Kn a0 30 [(0, zp p 0), (1, zi t), (5, zi met), (6, zi next)]) (h : Pool w p g n cap room S) (L : Lc S n T G) (EX : Ex n T t S0 G0 met next S G) (hk : Keep [g] w0 w) (ht : Th T t)
  (hN : ∀ a' W S1 G1 (next' : Nat), Kn a' 30 [(0, zp p 0), (1, zi t), (5, zi next), (6, zi next')] -> Pool W p g n cap room S1 -> Lc S1 n T G1 -> Ex n T t S0 G0 next next' S1 G1 -> Keep [g] w0 W -> dp T next' < dp T next -> Q .normal a' W)
  (hX : ∀ a' W, next = 0 -> Kn a' 30 [(0, zp p 0), (1, zi t), (5, zi met), (6, zi next)] -> Pool W p g n cap room S -> Keep [g] w0 W -> Q (.exit 0) a' W) : (Code.seq (Code.seq (Code.region 3 (rg [1, 1, 0, 1, 0, 0, 0, 0] Try.f61).toArray false) (Code.cond (Operand.tmp 9) Code.skip (Code.exit 0))) (Code.seq (Code.block 1 (Code.seq (Code.region 5 (rg [1, 1, 0, 1, 0, 0, 1, 0, 0, 0] Try.f61).toArray false) (Code.seq (Code.region 6 (rg [1, 1, 0, 1, 0, 0, 1, 0, 0, 1, 0] Try.f61).toArray false) (Code.region 7 (rg [1, 1, 0, 1, 0, 0, 1, 0, 0, 1, 1] Try.f61).toArray false)))) (Code.region 4 (rg [1, 1, 0, 1, 0, 0, 1, 1] Try.f61).toArray false))).wp Try.prog Q a0 w := by
 have PH := hide h
 have KP := hide hk
 have HN := hide hN
 have HX := hide hX
 have LH := hide L
 have EH := hide EX
 clear hN hX L EX h hk
 by_cases n0 : next = 0
 ·have i0 : (next : Int) = 0 := by omega
  refine wp_seq ?_
  refine wp_seq ?_
  refine wp_region_lit ?_
  refine lM K0 fun a1 K1 => ?_
  refine lT (.bool false) w K1 (want_none rfl) (fun ev E => ?_) fun a2 K2 => ?_
  ·have EC := E.const; have E8 := E.tmp 8 _ rfl; clear E; clear PH KP HN HX LH EH; go_simp
  clear K1
  refine wpList_nil ?_
  show Code.wp _ _ _ _ _
  refine knCond (b := false) K2 rfl ?_
  refine wp_exit ?_
  exact unhide HX _ _ n0 (K2.less ⟨rfl, rfl, rfl, rfl, trivial⟩) (unhide PH) (unhide KP)
 ·have i0 : ¬ (next : Int) = 0 := by omega
  refine seqN ?_
  refine seqR ?_
  refine lM K0 fun a1 K1 => ?_
  refine lT (.bool true) w K1 (want_none rfl) (fun ev E => ?_) fun a2 K2 => ?_
  ·have EC := E.const; have E8 := E.tmp 8 _ rfl; clear E; clear PH KP HN HX LH EH; go_simp
  clear K1
  refine nilN ?_
  refine knCond (b := true) K2 rfl (wp_skip ?_)
  show Code.wp _ _ _ _ _
  have K3 : Kn _ 30 [(0, zp p 0), (1, zi t), (5, zi met), (6, zi next)] := K2.less ⟨rfl, rfl, rfl, rfl, trivial⟩
  clear K2
  have hnx := U_mem_th (unhide LH).wf ((unhide EH).nx n0)
  have lnx := (unhide LH).lt next hnx
  have e1 : (0 : Int) <= (next : Int) := by omega
  have e2 : (next : Int) < (n : Int) := by omega
  clear i0
  refine seqN ?_
  refine blockN ?_
  refine seqR ?_
  refine lM K3 fun a4 K4 => ?_
  clear K3
  refine lM K4 fun a5 K5 => ?_
  clear K4
  refine lcall (f := 72) (args := #[zp p 0, zi next]) K5 rfl rfl (want_none rfl) (fun ev E => ?_) (splayL (unhide PH) (unhide LH) hnx) (fun e W5 hR => ?_)
  ·have EF := E.func; have E18 := E.tmp 18 _ rfl; have E19 := E.tmp 19 _ rfl; clear E; clear PH KP HN HX LH EH; clear hnx; go_simp
  obtain ⟨rfl, Q1, S1, G1, P1, L1, F1, T1, i1⟩ := hR
  have Q2 := hide ((unhide KP).tr Q1)
  clear PH KP Q1
  have PH := hide P1
  have KP := Q2
  clear Q2 P1
  refine ⟨_, rfl, fun a6 K6 => ?_⟩
  clear K5
  refine nilN ?_
  refine seqR ?_
  refine lM K6 fun a7 K7 => ?_
  clear K6
  refine lM K7 fun a8 K8 => ?_
  clear K7
  refine lM K8 fun a9 K9 => ?_
  clear K8
  have hb := (unhide EH).splayed (unhide LH) n0 F1 L1
  obtain ⟨L2, E2, d2⟩ := (unhide EH).round (unhide LH) ht n0 F1 L1 T1 i1
  refine lcall (f := 82) (args := #[zp p 0, zi next, zi met]) K9 rfl rfl (want_none rfl) (fun ev E => ?_) (preferL (unhide PH) L1 hnx T1 i1 hb) (fun e W6 hR => ?_)
  ·have EF := E.func; have E21 := E.tmp 21 _ rfl; have E22 := E.tmp 22 _ rfl; have E23 := E.tmp 23 _ rfl; clear E; clear PH KP HN HX LH EH; clear hnx L1 F1 T1 i1 hb L2 E2 d2; go_simp
  obtain ⟨rfl, P1, Q1⟩ := hR
  have Q2 := hide ((unhide KP).tr Q1)
  clear PH KP Q1
  have PH := hide P1
  have KP := Q2
  clear Q2 P1
  refine ⟨_, rfl, fun a10 K10 => ?_⟩
  clear K9
  obtain ⟨S2, hS2⟩ : ∃ z, z = prefS S1 next met := ⟨_, rfl⟩
  rw [← hS2] at PH L2 E2 d2
  clear hS2 hb L1 F1 T1 i1
  refine nilN ?_
  refine wp_region_lit ?_
  refine lM K10 fun a11 K11 => ?_
  clear K10
  refine lA K11 fun a12 K12 => ?_
  clear K11
  refine nilN ?_
  refine wp_region_lit ?_
  refine lM K12 fun a13 K13 => ?_
  clear K12
  refine lN K13 fun a14 K14 => ?_
  clear K13
  refine lF K14 FA66_1 fun a15 K15 => ?_
  clear K14
  refine lT (.slice (some ⟨g, 0, none⟩) n cap) W6 K15 (want_none rfl) (fun ev E => ?_) fun a16 K16 => ?_
  ·obtain ⟨c0, c1, _⟩ := (unhide PH).head; have E12 := E.tmp 12 _ rfl; clear E; clear PH KP HN HX LH EH; clear hnx L2 E2 d2; go_simp
  clear K15
  refine lM K16 fun a17 K17 => ?_
  clear K16
  refine lT (zp g (next * 14)) W6 K17 (want_none rfl) (fun ev E => ?_) fun a18 K18 => ?_
  ·have E13 := E.tmp 13 _ rfl; have E14 := E.tmp 14 _ rfl; clear E; clear PH KP HN HX LH EH; clear hnx L2 E2 d2; go_simp
  clear K17
  refine lF K18 FA75_0 fun a19 K19 => ?_
  clear K18
  refine lT (zi ((S2 next).up : Int)) W6 K19 (want_none rfl) (fun ev E => ?_) fun a20 K20 => ?_
  ·obtain ⟨s0, s1, s2, s3, s4, s5, s6, s7, s8, s9, s10, s11, s12, s13⟩ := (unhide PH).slot (t := next) (by assumption); have E16 := E.tmp 16 _ rfl; clear E; clear PH KP HN HX LH EH; clear hnx L2 E2 d2; go_simp
  clear K19
  refine lA K20 fun a21 K21 => ?_
  clear K20
  refine wpList_nil ?_
  exact unhide HN _ _ S2 _ _ (K21.less ⟨rfl, rfl, rfl, rfl, trivial⟩) (unhide PH) L2 E2 (unhide KP) d2
set_option maxHeartbeats 4000000 in
theorem exposeL {p g n cap room t : Nat} {T : Tr} {S : Ss} {G : Gh} {w : World} (h : Pool w p g n cap room S) (L : Lc S n T G) (ht : Th T t) :
  Calls Try.prog 61 #[zp p 0, zi t] w fun e w' => ∃ met : Nat, e = .returned (zi met) /\ Keep [g] w w' /\ ∃ S1 G1, Pool w' p g n cap room S1 /\ Lc S1 n T G1 /\ Exd n T t S G met S1 G1 := by
 refine callsK (n := 30) (L := [(0, zp p 0), (1, zi t)]) Try.func61 rfl Try.ntmps61 rfl rfl (fun a0 K0 => ?_)
 refine seqR ?_
 refine lC K0 fun a1 K1 => ?_
 refine nilN ?_
 refine seqR ?_
 refine lC K1 fun a2 K2 => ?_
 clear K1
 refine nilN ?_
 refine seqN ?_
 refine seqR ?_
 refine lM K2 fun a3 K3 => ?_
 clear K2
 refine lA K3 fun a4 K4 => ?_
 clear K3
 refine nilN ?_
 have K5 : Kn _ 30 [(0, zp p 0), (1, zi t), (5, zi 0), (6, zi t)] := K4.less ⟨rfl, rfl, rfl, rfl, trivial⟩
 clear K4
 refine wp_block ?_
 refine wp_loop_ghost (fun k a w' => ∃ S1 G1 met next, Kn a 30 [(0, zp p 0), (1, zi t), (5, zi ((met : Nat) : Int)), (6, zi ((next : Nat) : Int))] /\ Pool w' p g n cap room S1 /\ Lc S1 n T G1 /\ Ex n T t S G met next S1 G1 /\ Keep [g] w w' /\ k = dp T next) _ ⟨S, G, 0, t, K5, h, L, Ex.init ht L.wf, Keep.refl _ _, rfl⟩ ?_
 rintro k a w1 ⟨S1, G1, met, next, K1, P1, L1, X1, Q1, hk⟩
 refine round61 K1 P1 L1 X1 Q1 ht (fun a' W S2 G2 next' K2 P2 L2 X2 Q2 hd => ?_) (fun a' W n0 KZ P2 Q2 => ?_)
 ·exact ⟨_, by omega, S2, G2, next, next', K2, P2, L2, X2, Q2, rfl⟩
 ·subst n0
  show Code.wp _ _ _ _ _
  have PH := hide P2
  have KP := hide Q2
  clear P2 Q2 P1 Q1 hk
  have lt1 := L1.lt t ht
  have e1 : (0 : Int) <= (t : Int) := by omega
  have e2 : (t : Int) < (n : Int) := by omega
  have HA := hide (And.intro L1 (And.intro X1 ht))
  clear h L ht K0 K1 L1 X1 K5
  refine seqR ?_
  refine lM KZ fun a31 K31 => ?_
  clear KZ
  refine lM K31 fun a32 K32 => ?_
  clear K31
  refine lcall (f := 72) (args := #[zp p 0, zi t]) K32 rfl rfl (want_none rfl) (fun ev E => ?_) (splayL (unhide PH) (unhide HA).1 (unhide HA).2.2) (fun e W3 hR => ?_)
  ·have EF := E.func; have E26 := E.tmp 26 _ rfl; have E27 := E.tmp 27 _ rfl; clear E; clear PH KP HA; go_simp
  obtain ⟨rfl, Q1, S3, G3, P1, L3, F3, T3, i3⟩ := hR
  have Q2 := hide ((unhide KP).tr Q1)
  clear PH KP Q1
  have PH := hide P1
  have KP := Q2
  clear Q2 P1
  refine ⟨_, rfl, fun a33 K33 => ?_⟩
  clear K32
  refine nilN ?_
  refine seqR ?_
  refine lM K33 fun a34 K34 => ?_
  clear K33
  refine lA K34 fun a35 K35 => ?_
  clear K34
  refine wpList_nil ?_
  refine wp_ret ?_
  obtain ⟨L1, X1, ht⟩ := unhide HA
  refine bodyPost_ret (v := zi met) ?_ K35.defers ⟨met, rfl, unhide KP, S3, G3, unhide PH, L3, X1.done L1 ht F3 L3 T3 i3⟩
  have e4 := K35.has 4 _ rfl
  simp [results, Try.results61, go_sem, e4]
theorem settleF {p g n cap room t : Nat} {T : Tr} {S : Ss} {G : Gh} {w : World} (h : Pool w p g n cap room S) (L : Lc S n T G) (ht : Th T t) :
  Calls Try.prog 88 #[zp p 0, zi t] w fun e w' => e = .returned (.tuple #[]) /\ Keep [g] w w' /\ ∃ S1 G1, Pool w' p g n cap room S1 /\ Lc S1 n T G1 /\ Like S S1 G G1 /\ Idle S1 t /\ (S1 t).l = (S t).l /\ (S1 t).r = (S t).r /\ G1.b t = G.b t := by
 obtain ⟨k1, k2, k3, k4⟩ := L.kids_lt ht
 obtain ⟨G1, L1, lk1, b1, a1, n1, w1, l1, r1⟩ := L.settleT ht
 obtain ⟨G2, L2, lk2, b2, a2, n2, w2, l2, r2⟩ := L.settle ht
 refine (settle_any h (L.lt t ht) k1 k2 k3 k4 rfl (fun _ e => ?_) (fun _ e => ?_)).mono ?_
 ·rw [upd_ne _ _ (by rw [l1]; exact k3)]
  exact (L1.kid_bd ht (.inl rfl) e).1
 ·by_cases e2 : (settleT S t t).l = (settleT S t t).r
  ·have := (L1.loc t ht).lr e2; omega
  ·rw [raiseS_ne _ _ (fun e => e2 e.symm), upd_ne _ _ (by rw [r1]; exact k4)]
   exact (L1.kid_bd ht (.inr rfl) e).1
 ·rintro e w' ⟨rfl, q1, q2⟩
  exact ⟨rfl, q2, _, G2, q1, L2, lk2, ⟨n2, w2⟩, l2, r2, a2⟩
set_option maxHeartbeats 4000000 in
theorem round73 {p g n cap room t : Nat} {T : Tr} {S : Ss} {G : Gh} {Q : Exit -> Act -> World -> Prop} {a0 : Act} {w0 w : World} (K0 : Kn a0 29 [(0, zp p 0), (1, zi t)]) (h : Pool w p g n cap room S) (L : Lc S n T G) (hk : Keep [g] w0 w) (ht : Th T t) (hb : G.b t = false)
  (hN : ∀ a' W S1 G1 t', Kn a' 29 [(0, zp p 0), (1, zi ((t' : Nat) : Int))] -> Pool W p g n cap room S1 -> Lc S1 n T G1 -> Like S S1 G G1 -> Th T t' -> G1.b t' = false -> G1.fi t' = G.fi t -> Keep [g] w0 W -> (S1 t').sm.c < (S t).sm.c -> Q .normal a' W)
  (hX : ∀ a' W, G.fi t = t -> Kn a' 29 [(0, zp p 0), (1, zi t)] -> Pool W p g n cap room S -> Keep [g] w0 W -> Q (.exit 0) a' W) : (Code.seq (Code.seq (Code.region 1 (rg [1, 0, 0, 0, 0, 0] Try.f73).toArray false) (Code.cond (Operand.tmp 13) Code.skip (Code.exit 0))) (Code.block 1 (Code.seq (Code.region 2 (rg [1, 0, 0, 0, 1, 0, 0] Try.f73).toArray false) (Code.region 3 (rg [1, 0, 0, 0, 1, 0, 1] Try.f73).toArray false)))).wp Try.prog Q a0 w := by
 have PH := hide h
 have KP := hide hk
 have HN := hide hN
 have HX := hide hX
 have LH := hide L
 clear hN hX L h hk
 have lt1 := (unhide LH).lt t ht
 have e1 : (0 : Int) <= (t : Int) := by omega
 have e2 : (t : Int) < (n : Int) := by omega
 have HT := hide (And.intro ht hb)
 clear ht hb
 by_cases n0 : (S t).l = 0
 ·have i0 : ((S t).l : Int) = 0 := by omega
  refine wp_seq ?_
  refine wp_seq ?_
  refine wp_region_lit ?_
  refine lM K0 fun a1 K1 => ?_
  refine lN K1 fun a2 K2 => ?_
  clear K1
  refine lF K2 FA66_1 fun a3 K3 => ?_
  clear K2
  refine lT (.slice (some ⟨g, 0, none⟩) n cap) w K3 (want_none rfl) (fun ev E => ?_) fun a4 K4 => ?_
  ·obtain ⟨c0, c1, _⟩ := (unhide PH).head; have E7 := E.tmp 7 _ rfl; clear E; clear PH KP HN HX LH HT; go_simp
  clear K3
  refine lM K4 fun a5 K5 => ?_
  clear K4
  refine lT (zp g (t * 14)) w K5 (want_none rfl) (fun ev E => ?_) fun a6 K6 => ?_
  ·have E8 := E.tmp 8 _ rfl; have E9 := E.tmp 9 _ rfl; clear E; clear PH KP HN HX LH HT; go_simp
  clear K5
  refine lF K6 FA75_1 fun a7 K7 => ?_
  clear K6
  refine lT (zi ((S t).l : Int)) w K7 (want_none rfl) (fun ev E => ?_) fun a8 K8 => ?_
  ·obtain ⟨s0, s1, s2, s3, s4, s5, s6, s7, s8, s9, s10, s11, s12, s13⟩ := (unhide PH).slot (t := t) (by assumption); have E11 := E.tmp 11 _ rfl; clear E; clear PH KP HN HX LH HT; go_simp
  clear K7
  refine lT (.bool false) w K8 (want_none rfl) (fun ev E => ?_) fun a9 K9 => ?_
  ·have EC := E.const; have E12 := E.tmp 12 _ rfl; clear E; clear PH KP HN HX LH HT; go_simp
  clear K8
  refine wpList_nil ?_
  show Code.wp _ _ _ _ _
  refine knCond (b := false) K9 rfl ?_
  refine wp_exit ?_
  have L := unhide LH
  have en := (L.loc t (unhide HT).1).en
  rw [(unhide HT).2] at en
  exact unhide HX _ _ (en.l0 n0) (K9.less ⟨rfl, rfl, trivial⟩) (unhide PH) (unhide KP)
 ·have i0 : ¬ ((S t).l : Int) = 0 := by omega
  refine seqN ?_
  refine seqR ?_
  refine lM K0 fun a1 K1 => ?_
  refine lN K1 fun a2 K2 => ?_
  clear K1
  refine lF K2 FA66_1 fun a3 K3 => ?_
  clear K2
  refine lT (.slice (some ⟨g, 0, none⟩) n cap) w K3 (want_none rfl) (fun ev E => ?_) fun a4 K4 => ?_
  ·obtain ⟨c0, c1, _⟩ := (unhide PH).head; have E7 := E.tmp 7 _ rfl; clear E; clear PH KP HN HX LH HT; go_simp
  clear K3
  refine lM K4 fun a5 K5 => ?_
  clear K4
  refine lT (zp g (t * 14)) w K5 (want_none rfl) (fun ev E => ?_) fun a6 K6 => ?_
  ·have E8 := E.tmp 8 _ rfl; have E9 := E.tmp 9 _ rfl; clear E; clear PH KP HN HX LH HT; go_simp
  clear K5
  refine lF K6 FA75_1 fun a7 K7 => ?_
  clear K6
  refine lT (zi ((S t).l : Int)) w K7 (want_none rfl) (fun ev E => ?_) fun a8 K8 => ?_
  ·obtain ⟨s0, s1, s2, s3, s4, s5, s6, s7, s8, s9, s10, s11, s12, s13⟩ := (unhide PH).slot (t := t) (by assumption); have E11 := E.tmp 11 _ rfl; clear E; clear PH KP HN HX LH HT; go_simp
  clear K7
  refine lT (.bool true) w K8 (want_none rfl) (fun ev E => ?_) fun a9 K9 => ?_
  ·have EC := E.const; have E12 := E.tmp 12 _ rfl; clear E; clear PH KP HN HX LH HT; go_simp
  clear K8
  refine nilN ?_
  refine knCond (b := true) K9 rfl (wp_skip ?_)
  show Code.wp _ _ _ _ _
  have K10 : Kn _ 29 [(0, zp p 0), (1, zi t)] := K9.less ⟨rfl, rfl, trivial⟩
  clear K9
  clear i0
  refine wp_block ?_
  refine seqR ?_
  refine lM K10 fun a11 K11 => ?_
  clear K10
  refine lM K11 fun a12 K12 => ?_
  clear K11
  refine lcall (f := 88) (args := #[zp p 0, zi t]) K12 rfl rfl (want_none rfl) (fun ev E => ?_) (settleF (unhide PH) (unhide LH) (unhide HT).1) (fun e W5 hR => ?_)
  ·have EF := E.func; have E14 := E.tmp 14 _ rfl; have E15 := E.tmp 15 _ rfl; clear E; clear PH KP HN HX LH HT; go_simp
  obtain ⟨rfl, Q1, S1, G1, P1, L1, lk1, i1, kl1, kr1, b1⟩ := hR
  have Q2 := hide ((unhide KP).tr Q1)
  clear PH KP Q1
  have PH := hide P1
  have KP := Q2
  clear Q2 P1
  refine ⟨_, rfl, fun a13 K13 => ?_⟩
  clear K12
  refine nilN ?_
  refine wp_region_lit ?_
  refine lM K13 fun a14 K14 => ?_
  clear K13
  refine lN K14 fun a15 K15 => ?_
  clear K14
  refine lF K15 FA66_1 fun a16 K16 => ?_
  clear K15
  refine lT (.slice (some ⟨g, 0, none⟩) n cap) W5 K16 (want_none rfl) (fun ev E => ?_) fun a17 K17 => ?_
  ·obtain ⟨c0, c1, _⟩ := (unhide PH).head; have E19 := E.tmp 19 _ rfl; clear E; clear PH KP HN HX LH HT; clear L1 lk1 i1 kl1 kr1 b1; go_simp
  clear K16
  refine lM K17 fun a18 K18 => ?_
  clear K17
  refine lT (zp g (t * 14)) W5 K18 (want_none rfl) (fun ev E => ?_) fun a19 K19 => ?_
  ·have E20 := E.tmp 20 _ rfl; have E21 := E.tmp 21 _ rfl; clear E; clear PH KP HN HX LH HT; clear L1 lk1 i1 kl1 kr1 b1; go_simp
  clear K18
  refine lF K19 FA75_1 fun a20 K20 => ?_
  clear K19
  refine lT (zi ((S1 t).l : Int)) W5 K20 (want_none rfl) (fun ev E => ?_) fun a21 K21 => ?_
  ·obtain ⟨s0, s1, s2, s3, s4, s5, s6, s7, s8, s9, s10, s11, s12, s13⟩ := (unhide PH).slot (t := t) (by assumption); have E23 := E.tmp 23 _ rfl; clear E; clear PH KP HN HX LH HT; clear L1 lk1 i1 kl1 kr1 b1; go_simp
  clear K20
  refine lA K21 fun a22 K22 => ?_
  clear K21
  refine wpList_nil ?_
  show Q .normal _ _
  have n1 : (S1 t).l ≠ 0 := by rw [kl1]; exact n0
  have Lt := L1.loc t (unhide HT).1
  have Kk := Lt.kl n1
  have bt : G1.b t = false := by rw [b1]; exact (unhide HT).2
  have en := Lt.en
  rw [bt] at en
  refine unhide HN _ _ S1 G1 _ (K22.less ⟨rfl, rfl, trivial⟩) (unhide PH) L1 lk1 Kk.th (by rw [Kk.b, bt, i1.1]; rfl) ?_ (unhide KP) ?_
  ·have q : G1.fi t = G1.fi (S1 t).l := (en.l1 n1).1
   rw [← q, lk1.fi]
  ·rw [← lk1.c t]; exact L1.cl (unhide HT).1
set_option maxHeartbeats 4000000 in
theorem firstL {p g n cap room t : Nat} {T : Tr} {S : Ss} {G : Gh} {w : World} (h : Pool w p g n cap room S) (L : Lc S n T G) (ht : Th T t) (hb : G.b t = false) :
  Calls Try.prog 73 #[zp p 0, zi t] w fun e w' => e = .returned (zi (G.fi t : Int)) /\ Keep [g] w w' /\ ∃ S1 G1, Pool w' p g n cap room S1 /\ Lc S1 n T G1 /\ Fra T (G.fi t) S G S1 G1 /\ Top S1 (G.fi t) /\ Idle S1 (G.fi t) := by
 refine callsK (n := 29) (L := [(0, zp p 0), (1, zi t)]) Try.func73 rfl Try.ntmps73 rfl rfl (fun a0 K0 => ?_)
 refine seqR ?_
 refine lC K0 fun a1 K1 => ?_
 refine nilN ?_
 have K2 : Kn _ 29 [(0, zp p 0), (1, zi t)] := K1.less ⟨rfl, rfl, trivial⟩
 clear K1
 refine seqN ?_
 refine wp_block ?_
 refine wp_loop_ghost (fun k a w' => ∃ S1 G1 t', Kn a 29 [(0, zp p 0), (1, zi ((t' : Nat) : Int))] /\ Pool w' p g n cap room S1 /\ Lc S1 n T G1 /\ Like S S1 G G1 /\ Th T t' /\ G1.b t' = false /\ G1.fi t' = G.fi t /\ Keep [g] w w' /\ k = (S1 t').sm.c.toNat) _ ⟨S, G, t, K2, h, L, Like.refl, ht, hb, rfl, Keep.refl _ _, rfl⟩ ?_
 rintro k a w1 ⟨S1, G1, t', K1, P1, L1, lk1, ht1, hb1, hf1, Q1, hk⟩
 refine round73 K1 P1 L1 Q1 ht1 hb1 (fun a' W S2 G2 t2 K2 P2 L2 lk2 ht2 hb2 hf2 Q2 hd => ?_) (fun a' W n0 KZ P2 Q2 => ?_)
 ·have := L1.cn t'
  have := L2.cn t2
  exact ⟨_, by omega, S2, G2, t2, K2, P2, L2, lk1.trans lk2, ht2, hb2, hf2.trans hf1, Q2, rfl⟩
 ·rw [hf1] at n0
  rw [n0]
  show Code.wp _ _ _ _ _
  have PH := hide P2
  have KP := hide Q2
  clear P2 Q2 P1 Q1 hk
  have lt1 := L1.lt t' ht1
  have e1 : (0 : Int) <= (t' : Int) := by omega
  have e2 : (t' : Int) < (n : Int) := by omega
  have HA := hide (And.intro L1 (And.intro ht1 lk1))
  clear h L ht hb K0 K1 L1 lk1 ht1 hb1 hf1 n0 K2
  refine seqR ?_
  refine lM KZ fun a31 K31 => ?_
  clear KZ
  refine lM K31 fun a32 K32 => ?_
  clear K31
  refine lcall (f := 72) (args := #[zp p 0, zi t']) K32 rfl rfl (want_none rfl) (fun ev E => ?_) (splayL (unhide PH) (unhide HA).1 (unhide HA).2.1) (fun e W3 hR => ?_)
  ·have EF := E.func; have E25 := E.tmp 25 _ rfl; have E26 := E.tmp 26 _ rfl; clear E; clear PH KP HA; go_simp
  obtain ⟨rfl, Q1, S3, G3, P1, L3, F3, T3, i3⟩ := hR
  have Q2 := hide ((unhide KP).tr Q1)
  clear PH KP Q1
  have PH := hide P1
  have KP := Q2
  clear Q2 P1
  refine ⟨_, rfl, fun a33 K33 => ?_⟩
  clear K32
  refine nilN ?_
  refine seqR ?_
  refine lM K33 fun a34 K34 => ?_
  clear K33
  refine lA K34 fun a35 K35 => ?_
  clear K34
  refine wpList_nil ?_
  refine wp_ret ?_
  obtain ⟨L1, ht1, lk1⟩ := unhide HA
  refine bodyPost_ret (v := zi t') ?_ K35.defers ⟨rfl, unhide KP, S3, G3, unhide PH, L3, lk1.fra.trans F3, T3, i3⟩
  have e4 := K35.has 4 _ rfl
  simp [results, Try.results73, go_sem, e4]
set_option maxHeartbeats 4000000 in
theorem round74 {p g n cap room t : Nat} {T : Tr} {S : Ss} {G : Gh} {Q : Exit -> Act -> World -> Prop} {a0 : Act} {w0 w : World} (K0 : Kn a0 29 [(0, zp p 0), (1, zi t)]) (h : Pool w p g n cap room S) (L : Lc S n T G) (hk : Keep [g] w0 w) (ht : Th T t) (hb : G.b t = false)
  (hN : ∀ a' W S1 G1 t', Kn a' 29 [(0, zp p 0), (1, zi ((t' : Nat) : Int))] -> Pool W p g n cap room S1 -> Lc S1 n T G1 -> Like S S1 G G1 -> Th T t' -> G1.b t' = false -> G1.la t' = G.la t -> Keep [g] w0 W -> (S1 t').sm.c < (S t).sm.c -> Q .normal a' W)
  (hX : ∀ a' W, G.la t = t -> Kn a' 29 [(0, zp p 0), (1, zi t)] -> Pool W p g n cap room S -> Keep [g] w0 W -> Q (.exit 0) a' W) : (Code.seq (Code.seq (Code.region 1 (rg [1, 0, 0, 0, 0, 0] Try.f74).toArray false) (Code.cond (Operand.tmp 13) Code.skip (Code.exit 0))) (Code.block 1 (Code.seq (Code.region 2 (rg [1, 0, 0, 0, 1, 0, 0] Try.f74).toArray false) (Code.region 3 (rg [1, 0, 0, 0, 1, 0, 1] Try.f74).toArray false)))).wp Try.prog Q a0 w := by
 have PH := hide h
 have KP := hide hk
 have HN := hide hN
 have HX := hide hX
 have LH := hide L
 clear hN hX L h hk
 have lt1 := (unhide LH).lt t ht
 have e1 : (0 : Int) <= (t : Int) := by omega
 have e2 : (t : Int) < (n : Int) := by omega
 have HT := hide (And.intro ht hb)
 clear ht hb
 by_cases n0 : (S t).r = 0
 ·have i0 : ((S t).r : Int) = 0 := by omega
  refine wp_seq ?_
  refine wp_seq ?_
  refine wp_region_lit ?_
  refine lM K0 fun a1 K1 => ?_
  refine lN K1 fun a2 K2 => ?_
  clear K1
  refine lF K2 FA66_1 fun a3 K3 => ?_
  clear K2
  refine lT (.slice (some ⟨g, 0, none⟩) n cap) w K3 (want_none rfl) (fun ev E => ?_) fun a4 K4 => ?_
  ·obtain ⟨c0, c1, _⟩ := (unhide PH).head; have E7 := E.tmp 7 _ rfl; clear E; clear PH KP HN HX LH HT; go_simp
  clear K3
  refine lM K4 fun a5 K5 => ?_
  clear K4
  refine lT (zp g (t * 14)) w K5 (want_none rfl) (fun ev E => ?_) fun a6 K6 => ?_
  ·have E8 := E.tmp 8 _ rfl; have E9 := E.tmp 9 _ rfl; clear E; clear PH KP HN HX LH HT; go_simp
  clear K5
  refine lF K6 FA75_2 fun a7 K7 => ?_
  clear K6
  refine lT (zi ((S t).r : Int)) w K7 (want_none rfl) (fun ev E => ?_) fun a8 K8 => ?_
  ·obtain ⟨s0, s1, s2, s3, s4, s5, s6, s7, s8, s9, s10, s11, s12, s13⟩ := (unhide PH).slot (t := t) (by assumption); have E11 := E.tmp 11 _ rfl; clear E; clear PH KP HN HX LH HT; go_simp
  clear K7
  refine lT (.bool false) w K8 (want_none rfl) (fun ev E => ?_) fun a9 K9 => ?_
  ·have EC := E.const; have E12 := E.tmp 12 _ rfl; clear E; clear PH KP HN HX LH HT; go_simp
  clear K8
  refine wpList_nil ?_
  show Code.wp _ _ _ _ _
  refine knCond (b := false) K9 rfl ?_
  refine wp_exit ?_
  have L := unhide LH
  have en := (L.loc t (unhide HT).1).en
  rw [(unhide HT).2] at en
  exact unhide HX _ _ (en.r0 n0) (K9.less ⟨rfl, rfl, trivial⟩) (unhide PH) (unhide KP)
 ·have i0 : ¬ ((S t).r : Int) = 0 := by omega
  refine seqN ?_
  refine seqR ?_
  refine lM K0 fun a1 K1 => ?_
  refine lN K1 fun a2 K2 => ?_
  clear K1
  refine lF K2 FA66_1 fun a3 K3 => ?_
  clear K2
  refine lT (.slice (some ⟨g, 0, none⟩) n cap) w K3 (want_none rfl) (fun ev E => ?_) fun a4 K4 => ?_
  ·obtain ⟨c0, c1, _⟩ := (unhide PH).head; have E7 := E.tmp 7 _ rfl; clear E; clear PH KP HN HX LH HT; go_simp
  clear K3
  refine lM K4 fun a5 K5 => ?_
  clear K4
  refine lT (zp g (t * 14)) w K5 (want_none rfl) (fun ev E => ?_) fun a6 K6 => ?_
  ·have E8 := E.tmp 8 _ rfl; have E9 := E.tmp 9 _ rfl; clear E; clear PH KP HN HX LH HT; go_simp
  clear K5
  refine lF K6 FA75_2 fun a7 K7 => ?_
  clear K6
  refine lT (zi ((S t).r : Int)) w K7 (want_none rfl) (fun ev E => ?_) fun a8 K8 => ?_
  ·obtain ⟨s0, s1, s2, s3, s4, s5, s6, s7, s8, s9, s10, s11, s12, s13⟩ := (unhide PH).slot (t := t) (by assumption); have E11 := E.tmp 11 _ rfl; clear E; clear PH KP HN HX LH HT; go_simp
  clear K7
  refine lT (.bool true) w K8 (want_none rfl) (fun ev E => ?_) fun a9 K9 => ?_
  ·have EC := E.const; have E12 := E.tmp 12 _ rfl; clear E; clear PH KP HN HX LH HT; go_simp
  clear K8
  refine nilN ?_
  refine knCond (b := true) K9 rfl (wp_skip ?_)
  show Code.wp _ _ _ _ _
  have K10 : Kn _ 29 [(0, zp p 0), (1, zi t)] := K9.less ⟨rfl, rfl, trivial⟩
  clear K9
  clear i0
  refine wp_block ?_
  refine seqR ?_
  refine lM K10 fun a11 K11 => ?_
  clear K10
  refine lM K11 fun a12 K12 => ?_
  clear K11
  refine lcall (f := 88) (args := #[zp p 0, zi t]) K12 rfl rfl (want_none rfl) (fun ev E => ?_) (settleF (unhide PH) (unhide LH) (unhide HT).1) (fun e W5 hR => ?_)
  ·have EF := E.func; have E14 := E.tmp 14 _ rfl; have E15 := E.tmp 15 _ rfl; clear E; clear PH KP HN HX LH HT; go_simp
  obtain ⟨rfl, Q1, S1, G1, P1, L1, lk1, i1, kl1, kr1, b1⟩ := hR
  have Q2 := hide ((unhide KP).tr Q1)
  clear PH KP Q1
  have PH := hide P1
  have KP := Q2
  clear Q2 P1
  refine ⟨_, rfl, fun a13 K13 => ?_⟩
  clear K12
  refine nilN ?_
  refine wp_region_lit ?_
  refine lM K13 fun a14 K14 => ?_
  clear K13
  refine lN K14 fun a15 K15 => ?_
  clear K14
  refine lF K15 FA66_1 fun a16 K16 => ?_
  clear K15
  refine lT (.slice (some ⟨g, 0, none⟩) n cap) W5 K16 (want_none rfl) (fun ev E => ?_) fun a17 K17 => ?_
  ·obtain ⟨c0, c1, _⟩ := (unhide PH).head; have E19 := E.tmp 19 _ rfl; clear E; clear PH KP HN HX LH HT; clear L1 lk1 i1 kl1 kr1 b1; go_simp
  clear K16
  refine lM K17 fun a18 K18 => ?_
  clear K17
  refine lT (zp g (t * 14)) W5 K18 (want_none rfl) (fun ev E => ?_) fun a19 K19 => ?_
  ·have E20 := E.tmp 20 _ rfl; have E21 := E.tmp 21 _ rfl; clear E; clear PH KP HN HX LH HT; clear L1 lk1 i1 kl1 kr1 b1; go_simp
  clear K18
  refine lF K19 FA75_2 fun a20 K20 => ?_
  clear K19
  refine lT (zi ((S1 t).r : Int)) W5 K20 (want_none rfl) (fun ev E => ?_) fun a21 K21 => ?_
  ·obtain ⟨s0, s1, s2, s3, s4, s5, s6, s7, s8, s9, s10, s11, s12, s13⟩ := (unhide PH).slot (t := t) (by assumption); have E23 := E.tmp 23 _ rfl; clear E; clear PH KP HN HX LH HT; clear L1 lk1 i1 kl1 kr1 b1; go_simp
  clear K20
  refine lA K21 fun a22 K22 => ?_
  clear K21
  refine wpList_nil ?_
  show Q .normal _ _
  have n1 : (S1 t).r ≠ 0 := by rw [kr1]; exact n0
  have Lt := L1.loc t (unhide HT).1
  have Kk := Lt.kr n1
  have bt : G1.b t = false := by rw [b1]; exact (unhide HT).2
  have en := Lt.en
  rw [bt] at en
  refine unhide HN _ _ S1 G1 _ (K22.less ⟨rfl, rfl, trivial⟩) (unhide PH) L1 lk1 Kk.th (by rw [Kk.b, bt, i1.1]; rfl) ?_ (unhide KP) ?_
  ·have q : G1.la t = G1.la (S1 t).r := (en.r1 n1).1
   rw [← q, lk1.la]
  ·rw [← lk1.c t]; exact L1.cr (unhide HT).1
set_option maxHeartbeats 4000000 in
theorem lastL {p g n cap room t : Nat} {T : Tr} {S : Ss} {G : Gh} {w : World} (h : Pool w p g n cap room S) (L : Lc S n T G) (ht : Th T t) (hb : G.b t = false) :
  Calls Try.prog 74 #[zp p 0, zi t] w fun e w' => e = .returned (zi (G.la t : Int)) /\ Keep [g] w w' /\ ∃ S1 G1, Pool w' p g n cap room S1 /\ Lc S1 n T G1 /\ Fra T (G.la t) S G S1 G1 /\ Top S1 (G.la t) /\ Idle S1 (G.la t) := by
 refine callsK (n := 29) (L := [(0, zp p 0), (1, zi t)]) Try.func74 rfl Try.ntmps74 rfl rfl (fun a0 K0 => ?_)
 refine seqR ?_
 refine lC K0 fun a1 K1 => ?_
 refine nilN ?_
 have K2 : Kn _ 29 [(0, zp p 0), (1, zi t)] := K1.less ⟨rfl, rfl, trivial⟩
 clear K1
 refine seqN ?_
 refine wp_block ?_
 refine wp_loop_ghost (fun k a w' => ∃ S1 G1 t', Kn a 29 [(0, zp p 0), (1, zi ((t' : Nat) : Int))] /\ Pool w' p g n cap room S1 /\ Lc S1 n T G1 /\ Like S S1 G G1 /\ Th T t' /\ G1.b t' = false /\ G1.la t' = G.la t /\ Keep [g] w w' /\ k = (S1 t').sm.c.toNat) _ ⟨S, G, t, K2, h, L, Like.refl, ht, hb, rfl, Keep.refl _ _, rfl⟩ ?_
 rintro k a w1 ⟨S1, G1, t', K1, P1, L1, lk1, ht1, hb1, hf1, Q1, hk⟩
 refine round74 K1 P1 L1 Q1 ht1 hb1 (fun a' W S2 G2 t2 K2 P2 L2 lk2 ht2 hb2 hf2 Q2 hd => ?_) (fun a' W n0 KZ P2 Q2 => ?_)
 ·have := L1.cn t'
  have := L2.cn t2
  exact ⟨_, by omega, S2, G2, t2, K2, P2, L2, lk1.trans lk2, ht2, hb2, hf2.trans hf1, Q2, rfl⟩
 ·rw [hf1] at n0
  rw [n0]
  show Code.wp _ _ _ _ _
  have PH := hide P2
  have KP := hide Q2
  clear P2 Q2 P1 Q1 hk
  have lt1 := L1.lt t' ht1
  have e1 : (0 : Int) <= (t' : Int) := by omega
  have e2 : (t' : Int) < (n : Int) := by omega
  have HA := hide (And.intro L1 (And.intro ht1 lk1))
  clear h L ht hb K0 K1 L1 lk1 ht1 hb1 hf1 n0 K2
  refine seqR ?_
  refine lM KZ fun a31 K31 => ?_
  clear KZ
  refine lM K31 fun a32 K32 => ?_
  clear K31
  refine lcall (f := 72) (args := #[zp p 0, zi t']) K32 rfl rfl (want_none rfl) (fun ev E => ?_) (splayL (unhide PH) (unhide HA).1 (unhide HA).2.1) (fun e W3 hR => ?_)
  ·have EF := E.func; have E25 := E.tmp 25 _ rfl; have E26 := E.tmp 26 _ rfl; clear E; clear PH KP HA; go_simp
  obtain ⟨rfl, Q1, S3, G3, P1, L3, F3, T3, i3⟩ := hR
  have Q2 := hide ((unhide KP).tr Q1)
  clear PH KP Q1
  have PH := hide P1
  have KP := Q2
  clear Q2 P1
  refine ⟨_, rfl, fun a33 K33 => ?_⟩
  clear K32
  refine nilN ?_
  refine seqR ?_
  refine lM K33 fun a34 K34 => ?_
  clear K33
  refine lA K34 fun a35 K35 => ?_
  clear K34
  refine wpList_nil ?_
  refine wp_ret ?_
  obtain ⟨L1, ht1, lk1⟩ := unhide HA
  refine bodyPost_ret (v := zi t') ?_ K35.defers ⟨rfl, unhide KP, S3, G3, unhide PH, L3, lk1.fra.trans F3, T3, i3⟩
  have e4 := K35.has 4 _ rfl
  simp [results, Try.results74, go_sem, e4]
end Go.Proofs.Ytjnkgakajenoaaa

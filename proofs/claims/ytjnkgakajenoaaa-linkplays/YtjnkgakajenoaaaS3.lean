/- Part 3 of the texts. -/
import Derived.Test.YtjnkgakajenoaaaS1
import Derived.Test.YtjnkgakajenoaaaS2
namespace Go.Proofs.Ytjnkgakajenoaaa
open Go.RowKit Go.Arb
set_option linter.unusedVariables false
set_option linter.unusedSimpArgs false
set_option maxRecDepth 100000
def gSm (S : Ss) (t : Nat) : Sm := jn (jn (S (S t).l).sm (one (S t).wt)) (S (S t).r).sm
def gHu (S : Ss) (t : Nat) : Ms := ⟨(S (S t).l).hu.c + (S t).hg.c + (S (S t).r).hu.c, (S (S t).l).hu.w + (S t).hg.w + (S (S t).r).hu.w⟩
def gatherS (S : Ss) (t : Nat) : Ss := upd S t { S t with sm := gSm S t, hu := gHu S t }
def O63_1_0 : Oper := ⟨some 13, .move (.tmp 0), 23, "slot.go:46", #[], none⟩
def O63_1_1 : Oper := ⟨some 14, .nilCheck (.tmp 13), 0, "slot.go:46", #[⟨0, .data⟩], none⟩
def O63_1_2 : Oper := ⟨some 15, .fieldAddr 66 (.tmp 14) 1, 0, "slot.go:46", #[⟨1, .data⟩], none⟩
def O63_1_3 : Oper := ⟨some 16, .load 64 (.tmp 15), 64, "slot.go:46", #[⟨2, .data⟩], none⟩
def O63_1_4 : Oper := ⟨some 17, .move (.tmp 4), 85, "slot.go:46", #[], none⟩
def O63_1_5 : Oper := ⟨some 18, .nilCheck (.tmp 17), 0, "slot.go:46", #[⟨4, .data⟩], none⟩
def O63_1_6 : Oper := ⟨some 19, .fieldAddr 75 (.tmp 18) 1, 0, "slot.go:46", #[⟨5, .data⟩], none⟩
def O63_1_7 : Oper := ⟨some 20, .load 3 (.tmp 19), 3, "slot.go:46", #[⟨6, .data⟩], none⟩
def O63_1_8 : Oper := ⟨some 21, .indexAddr 64 (.tmp 16) (.tmp 20), 0, "slot.go:46", #[⟨3, .data⟩, ⟨7, .data⟩], none⟩
def O63_1_9 : Oper := ⟨some 22, .move (.tmp 0), 23, "slot.go:46", #[⟨18, (Ground.gcOnly Departure.lateStores)⟩], none⟩
def O63_1_10 : Oper := ⟨some 23, .nilCheck (.tmp 22), 0, "slot.go:46", #[⟨9, .data⟩, ⟨18, (Ground.gcOnly Departure.lateStores)⟩], none⟩
def O63_1_11 : Oper := ⟨some 24, .fieldAddr 66 (.tmp 23) 1, 0, "slot.go:46", #[⟨10, .data⟩, ⟨18, (Ground.gcOnly Departure.lateStores)⟩], none⟩
def O63_1_12 : Oper := ⟨some 25, .load 64 (.tmp 24), 64, "slot.go:46", #[⟨11, .data⟩, ⟨18, (Ground.gcOnly Departure.lateStores)⟩], none⟩
def O63_1_13 : Oper := ⟨some 26, .move (.tmp 4), 85, "slot.go:46", #[⟨18, (Ground.gcOnly Departure.lateStores)⟩], none⟩
def O63_1_14 : Oper := ⟨some 27, .nilCheck (.tmp 26), 0, "slot.go:46", #[⟨13, .data⟩, ⟨18, (Ground.gcOnly Departure.lateStores)⟩], none⟩
def O63_1_15 : Oper := ⟨some 28, .fieldAddr 75 (.tmp 27) 2, 0, "slot.go:46", #[⟨14, .data⟩, ⟨18, (Ground.gcOnly Departure.lateStores)⟩], none⟩
def O63_1_16 : Oper := ⟨some 29, .load 3 (.tmp 28), 3, "slot.go:46", #[⟨15, .data⟩, ⟨18, (Ground.gcOnly Departure.lateStores)⟩], none⟩
def O63_1_17 : Oper := ⟨some 30, .indexAddr 64 (.tmp 25) (.tmp 29), 0, "slot.go:46", #[⟨12, .data⟩, ⟨16, .data⟩, ⟨18, (Ground.gcOnly Departure.lateStores)⟩], none⟩
def O63_1_18 : Oper := ⟨some 5, .assign (.tmp 21), 85, "slot.go:46", #[⟨8, .data⟩, ⟨0, .phase⟩, ⟨1, .phase⟩, ⟨2, .phase⟩, ⟨3, .phase⟩, ⟨4, .phase⟩, ⟨5, .phase⟩, ⟨6, .phase⟩, ⟨7, .phase⟩, ⟨8, .phase⟩, ⟨9, (Ground.textOnly Departure.lateStores)⟩, ⟨10, (Ground.textOnly Departure.lateStores)⟩, ⟨11, (Ground.textOnly Departure.lateStores)⟩, ⟨12, (Ground.textOnly Departure.lateStores)⟩, ⟨13, (Ground.textOnly Departure.lateStores)⟩, ⟨14, (Ground.textOnly Departure.lateStores)⟩, ⟨15, (Ground.textOnly Departure.lateStores)⟩, ⟨16, (Ground.textOnly Departure.lateStores)⟩, ⟨17, (Ground.textOnly Departure.lateStores)⟩], none⟩
def O63_1_19 : Oper := ⟨some 6, .assign (.tmp 30), 85, "slot.go:46", #[⟨17, .data⟩, ⟨18, .chain⟩, ⟨0, .phase⟩, ⟨1, .phase⟩, ⟨2, .phase⟩, ⟨3, .phase⟩, ⟨4, .phase⟩, ⟨5, .phase⟩, ⟨6, .phase⟩, ⟨7, .phase⟩, ⟨8, .phase⟩, ⟨9, .phase⟩, ⟨10, .phase⟩, ⟨11, .phase⟩, ⟨12, .phase⟩, ⟨13, .phase⟩, ⟨14, .phase⟩, ⟨15, .phase⟩, ⟨16, .phase⟩, ⟨17, .phase⟩, ⟨18, .phase⟩], none⟩
def OPS63_1 : List Oper := [O63_1_0, O63_1_1, O63_1_2, O63_1_3, O63_1_4, O63_1_5, O63_1_6, O63_1_7, O63_1_8, O63_1_9, O63_1_10, O63_1_11, O63_1_12, O63_1_13, O63_1_14, O63_1_15, O63_1_16, O63_1_17, O63_1_18, O63_1_19]
theorem NS63_1 : Region.noSelect OPS63_1.toArray = true := by kernel_rfl
def O63_2_0 : Oper := ⟨some 31, .move (.tmp 4), 85, "slot.go:47", #[], none⟩
def O63_2_1 : Oper := ⟨some 32, .move (.tmp 5), 85, "slot.go:47", #[], none⟩
def O63_2_2 : Oper := ⟨some 33, .nilCheck (.tmp 32), 0, "slot.go:47", #[⟨1, .data⟩], none⟩
def O63_2_3 : Oper := ⟨some 34, .fieldAddr 75 (.tmp 33) 6, 0, "slot.go:47", #[⟨2, .data⟩], none⟩
def O63_2_4 : Oper := ⟨some 35, .load 34 (.tmp 34), 34, "slot.go:47", #[⟨3, .data⟩], none⟩
def O63_2_5 : Oper := ⟨some 36, .move (.tmp 4), 85, "slot.go:47", #[], none⟩
def O63_2_6 : Oper := ⟨some 37, .nilCheck (.tmp 36), 0, "slot.go:47", #[⟨5, .data⟩], none⟩
def O63_2_7 : Oper := ⟨some 38, .fieldAddr 75 (.tmp 37) 4, 0, "slot.go:47", #[⟨6, .data⟩], none⟩
def O63_2_8 : Oper := ⟨some 39, .load 3 (.tmp 38), 3, "slot.go:47", #[⟨7, .data⟩], none⟩
def O63_2_9 : Oper := ⟨some 40, .call { callee := (.value (.func 54)), args := #[(.tmp 39)], argTypes := #[3] }, 34, "slot.go:47", #[⟨8, .data⟩], none⟩
def O63_2_10 : Oper := ⟨some 41, .call { callee := (.value (.func 83)), args := #[(.tmp 35), (.tmp 40)], argTypes := #[34, 34] }, 34, "slot.go:47", #[⟨4, .data⟩, ⟨9, .data⟩, ⟨9, .chain⟩], none⟩
def O63_2_11 : Oper := ⟨some 42, .move (.tmp 6), 85, "slot.go:47", #[], none⟩
def O63_2_12 : Oper := ⟨some 43, .nilCheck (.tmp 42), 0, "slot.go:47", #[⟨11, .data⟩], none⟩
def O63_2_13 : Oper := ⟨some 44, .fieldAddr 75 (.tmp 43) 6, 0, "slot.go:47", #[⟨12, .data⟩], none⟩
def O63_2_14 : Oper := ⟨some 45, .load 34 (.tmp 44), 34, "slot.go:47", #[⟨13, .data⟩], none⟩
def O63_2_15 : Oper := ⟨some 46, .call { callee := (.value (.func 83)), args := #[(.tmp 41), (.tmp 45)], argTypes := #[34, 34] }, 34, "slot.go:47", #[⟨10, .data⟩, ⟨14, .data⟩, ⟨10, .chain⟩], none⟩
def O63_2_16 : Oper := ⟨some 47, .nilCheck (.tmp 31), 0, "slot.go:47", #[⟨0, .data⟩, ⟨0, .phase⟩, ⟨1, .phase⟩, ⟨2, .phase⟩, ⟨3, .phase⟩, ⟨4, .phase⟩, ⟨5, .phase⟩, ⟨6, .phase⟩, ⟨7, .phase⟩, ⟨8, .phase⟩, ⟨9, .phase⟩, ⟨10, .phase⟩, ⟨11, .phase⟩, ⟨12, .phase⟩, ⟨13, .phase⟩, ⟨14, .phase⟩, ⟨15, .phase⟩], none⟩
def O63_2_17 : Oper := ⟨some 48, .fieldAddr 75 (.tmp 47) 6, 0, "slot.go:47", #[⟨16, .data⟩, ⟨0, .phase⟩, ⟨1, .phase⟩, ⟨2, .phase⟩, ⟨3, .phase⟩, ⟨4, .phase⟩, ⟨5, .phase⟩, ⟨6, .phase⟩, ⟨7, .phase⟩, ⟨8, .phase⟩, ⟨9, .phase⟩, ⟨10, .phase⟩, ⟨11, .phase⟩, ⟨12, .phase⟩, ⟨13, .phase⟩, ⟨14, .phase⟩, ⟨15, .phase⟩], none⟩
def O63_2_18 : Oper := ⟨none, .store 34 (.tmp 48) (.tmp 46), 0, "slot.go:47", #[⟨17, .data⟩, ⟨15, .data⟩, ⟨15, .chain⟩, ⟨0, .phase⟩, ⟨1, .phase⟩, ⟨2, .phase⟩, ⟨3, .phase⟩, ⟨4, .phase⟩, ⟨5, .phase⟩, ⟨6, .phase⟩, ⟨7, .phase⟩, ⟨8, .phase⟩, ⟨9, .phase⟩, ⟨10, .phase⟩, ⟨11, .phase⟩, ⟨12, .phase⟩, ⟨13, .phase⟩, ⟨14, .phase⟩, ⟨15, .phase⟩], none⟩
def OPS63_2 : List Oper := [O63_2_0, O63_2_1, O63_2_2, O63_2_3, O63_2_4, O63_2_5, O63_2_6, O63_2_7, O63_2_8, O63_2_9, O63_2_10, O63_2_11, O63_2_12, O63_2_13, O63_2_14, O63_2_15, O63_2_16, O63_2_17, O63_2_18]
theorem NS63_2 : Region.noSelect OPS63_2.toArray = true := by kernel_rfl
def O63_3_0 : Oper := ⟨some 49, .move (.tmp 4), 85, "slot.go:48", #[], none⟩
def O63_3_1 : Oper := ⟨some 50, .move (.tmp 5), 85, "slot.go:48", #[], none⟩
def O63_3_2 : Oper := ⟨some 51, .nilCheck (.tmp 50), 0, "slot.go:48", #[⟨1, .data⟩], none⟩
def O63_3_3 : Oper := ⟨some 52, .fieldAddr 75 (.tmp 51) 8, 0, "slot.go:48", #[⟨2, .data⟩], none⟩
def O63_3_4 : Oper := ⟨some 53, .load 73 (.tmp 52), 73, "slot.go:48", #[⟨3, .data⟩], none⟩
def O63_3_5 : Oper := ⟨some 54, .move (.tmp 4), 85, "slot.go:48", #[], none⟩
def O63_3_6 : Oper := ⟨some 55, .nilCheck (.tmp 54), 0, "slot.go:48", #[⟨5, .data⟩], none⟩
def O63_3_7 : Oper := ⟨some 56, .fieldAddr 75 (.tmp 55) 7, 0, "slot.go:48", #[⟨6, .data⟩], none⟩
def O63_3_8 : Oper := ⟨some 57, .load 73 (.tmp 56), 73, "slot.go:48", #[⟨7, .data⟩], none⟩
def O63_3_9 : Oper := ⟨some 58, .call { callee := (.value (.func 80)), args := #[(.tmp 53), (.tmp 57)], argTypes := #[73, 73] }, 73, "slot.go:48", #[⟨4, .data⟩, ⟨8, .data⟩], none⟩
def O63_3_10 : Oper := ⟨some 59, .move (.tmp 6), 85, "slot.go:48", #[], none⟩
def O63_3_11 : Oper := ⟨some 60, .nilCheck (.tmp 59), 0, "slot.go:48", #[⟨10, .data⟩], none⟩
def O63_3_12 : Oper := ⟨some 61, .fieldAddr 75 (.tmp 60) 8, 0, "slot.go:48", #[⟨11, .data⟩], none⟩
def O63_3_13 : Oper := ⟨some 62, .load 73 (.tmp 61), 73, "slot.go:48", #[⟨12, .data⟩], none⟩
def O63_3_14 : Oper := ⟨some 63, .call { callee := (.value (.func 80)), args := #[(.tmp 58), (.tmp 62)], argTypes := #[73, 73] }, 73, "slot.go:48", #[⟨9, .data⟩, ⟨13, .data⟩, ⟨9, .chain⟩], none⟩
def O63_3_15 : Oper := ⟨some 64, .nilCheck (.tmp 49), 0, "slot.go:48", #[⟨0, .data⟩, ⟨0, .phase⟩, ⟨1, .phase⟩, ⟨2, .phase⟩, ⟨3, .phase⟩, ⟨4, .phase⟩, ⟨5, .phase⟩, ⟨6, .phase⟩, ⟨7, .phase⟩, ⟨8, .phase⟩, ⟨9, .phase⟩, ⟨10, .phase⟩, ⟨11, .phase⟩, ⟨12, .phase⟩, ⟨13, .phase⟩, ⟨14, .phase⟩], none⟩
def O63_3_16 : Oper := ⟨some 65, .fieldAddr 75 (.tmp 64) 8, 0, "slot.go:48", #[⟨15, .data⟩, ⟨0, .phase⟩, ⟨1, .phase⟩, ⟨2, .phase⟩, ⟨3, .phase⟩, ⟨4, .phase⟩, ⟨5, .phase⟩, ⟨6, .phase⟩, ⟨7, .phase⟩, ⟨8, .phase⟩, ⟨9, .phase⟩, ⟨10, .phase⟩, ⟨11, .phase⟩, ⟨12, .phase⟩, ⟨13, .phase⟩, ⟨14, .phase⟩], none⟩
def O63_3_17 : Oper := ⟨none, .store 73 (.tmp 65) (.tmp 63), 0, "slot.go:48", #[⟨16, .data⟩, ⟨14, .data⟩, ⟨14, .chain⟩, ⟨0, .phase⟩, ⟨1, .phase⟩, ⟨2, .phase⟩, ⟨3, .phase⟩, ⟨4, .phase⟩, ⟨5, .phase⟩, ⟨6, .phase⟩, ⟨7, .phase⟩, ⟨8, .phase⟩, ⟨9, .phase⟩, ⟨10, .phase⟩, ⟨11, .phase⟩, ⟨12, .phase⟩, ⟨13, .phase⟩, ⟨14, .phase⟩], none⟩
def OPS63_3 : List Oper := [O63_3_0, O63_3_1, O63_3_2, O63_3_3, O63_3_4, O63_3_5, O63_3_6, O63_3_7, O63_3_8, O63_3_9, O63_3_10, O63_3_11, O63_3_12, O63_3_13, O63_3_14, O63_3_15, O63_3_16, O63_3_17]
theorem NS63_3 : Region.noSelect OPS63_3.toArray = true := by kernel_rfl
set_option maxHeartbeats 4000000 in
theorem rg63_1 {p g n cap room t : Nat} {S : Ss} {NX : Act -> World -> Prop} {a0 : Act} {w : World} (K0 : Kn a0 66 [(0, zp p 0), (4, zp g (t * 14))]) (h : Pool w p g n cap room S) (ht : t < n) (hl : (S t).l < n) (hr : (S t).r < n)
  (hN : ∀ a', Kn a' 66 [(4, zp g (t * 14)), (5, zp g ((S t).l * 14)), (6, zp g ((S t).r * 14))] -> NX a' w.drew) : (Code.region 1 OPS63_1.toArray true).wp Try.prog (Norm NX) a0 w := by
 have hq := @norm_q NX
 have hS : (fun w' : World => Pool w' p g n cap room S) w.drew := h.drew
 have e1 : (0 : Int) <= (t : Int) := by omega
 have e2 : (t : Int) < (n : Int) := by omega
 have e3 : (0 : Int) <= ((S t).l : Int) := by omega
 have e4 : ((S t).l : Int) < (n : Int) := by omega
 have e5 : (0 : Int) <= ((S t).r : Int) := by omega
 have e6 : ((S t).r : Int) < (n : Int) := by omega
 clear h
 refine wp_region_till (t := 19) (S := (fun w' : World => Pool w' p g n cap room S)) (by kernel_rfl) ?_
 rw [show (OPS63_1.toArray).size = 20 from by kernel_rfl]
 refine uP 0 O63_1_0 (zp p 0) K0 hq NS63_1 (want_none rfl) (fun ev E w9 => ?_) (fun _ => hS) fun a1 K1 => ?_
 ·have E0 := E.tmp 0 _ rfl; clear E; unfold O63_1_0; clear hN hq hS; go_simp
 refine uP 1 O63_1_1 (zp p 0) K1 hq NS63_1 (want_none rfl) (fun ev E w9 => ?_) (fun _ => hS) fun a2 K2 => ?_
 ·have E13 := E.tmp 13 _ rfl; clear E; unfold O63_1_1; clear hN hq hS; go_simp
 clear K1
 refine uP 2 O63_1_2 (zp p 1) K2 hq NS63_1 (want_none rfl) (fun ev E w9 => ?_) (fun _ => hS) fun a3 K3 => ?_
 ·have E14 := E.tmp 14 _ rfl; clear E; unfold O63_1_2; clear hN hq hS; go_simp
 clear K2
 refine utake (i := 3) (o := O63_1_3) (v := .slice (some ⟨g, 0, none⟩) n cap) K3 hq rfl NS63_1 (by kernel_rfl) (by kernel_rfl) (by kernel_rfl) (by kernel_rfl) rfl rfl (want_none rfl) (fun ev E w9 hSw => ?_) hS (fun a4 K4 => ?_)
 ·obtain ⟨c0, c1, _⟩ := hSw.head; clear hSw; have E15 := E.tmp 15 _ rfl; clear E; unfold O63_1_3; clear hN hq hS; go_simp
 clear K3
 refine uP 4 O63_1_4 (zp g (t * 14)) K4 hq NS63_1 (want_none rfl) (fun ev E w9 => ?_) (fun _ => hS) fun a5 K5 => ?_
 ·have E4 := E.tmp 4 _ rfl; clear E; unfold O63_1_4; clear hN hq hS; go_simp
 clear K4
 refine uP 5 O63_1_5 (zp g (t * 14)) K5 hq NS63_1 (want_none rfl) (fun ev E w9 => ?_) (fun _ => hS) fun a6 K6 => ?_
 ·have E17 := E.tmp 17 _ rfl; clear E; unfold O63_1_5; clear hN hq hS; go_simp
 clear K5
 refine uP 6 O63_1_6 (zp g (t * 14 + 1)) K6 hq NS63_1 (want_none rfl) (fun ev E w9 => ?_) (fun _ => hS) fun a7 K7 => ?_
 ·have E18 := E.tmp 18 _ rfl; clear E; unfold O63_1_6; clear hN hq hS; go_simp
 clear K6
 refine utake (i := 7) (o := O63_1_7) (v := zi ((S t).l : Int)) K7 hq rfl NS63_1 (by kernel_rfl) (by kernel_rfl) (by kernel_rfl) (by kernel_rfl) rfl rfl (want_none rfl) (fun ev E w9 hSw => ?_) hS (fun a8 K8 => ?_)
 ·obtain ⟨s0, s1, s2, s3, s4, s5, s6, s7, s8, s9, s10, s11, s12, s13⟩ := hSw.slot (t := t) (by assumption); clear hSw; have E19 := E.tmp 19 _ rfl; clear E; unfold O63_1_7; clear hN hq hS; go_simp
 clear K7
 refine uP 8 O63_1_8 (zp g ((S t).l * 14)) K8 hq NS63_1 (want_none rfl) (fun ev E w9 => ?_) (fun _ => hS) fun a9 K9 => ?_
 ·have E16 := E.tmp 16 _ rfl; have E20 := E.tmp 20 _ rfl; clear E; unfold O63_1_8; clear hN hq hS; go_simp
 clear K8
 refine uP 9 O63_1_9 (zp p 0) K9 hq NS63_1 (want_none rfl) (fun ev E w9 => ?_) (fun _ => hS) fun a10 K10 => ?_
 ·have E0 := E.tmp 0 _ rfl; clear E; unfold O63_1_9; clear hN hq hS; go_simp
 clear K9
 refine uP 10 O63_1_10 (zp p 0) K10 hq NS63_1 (want_none rfl) (fun ev E w9 => ?_) (fun _ => hS) fun a11 K11 => ?_
 ·have E22 := E.tmp 22 _ rfl; clear E; unfold O63_1_10; clear hN hq hS; go_simp
 clear K10
 refine uP 11 O63_1_11 (zp p 1) K11 hq NS63_1 (want_none rfl) (fun ev E w9 => ?_) (fun _ => hS) fun a12 K12 => ?_
 ·have E23 := E.tmp 23 _ rfl; clear E; unfold O63_1_11; clear hN hq hS; go_simp
 clear K11
 refine utake (i := 12) (o := O63_1_12) (v := .slice (some ⟨g, 0, none⟩) n cap) K12 hq rfl NS63_1 (by kernel_rfl) (by kernel_rfl) (by kernel_rfl) (by kernel_rfl) rfl rfl (want_none rfl) (fun ev E w9 hSw => ?_) hS (fun a13 K13 => ?_)
 ·obtain ⟨c0, c1, _⟩ := hSw.head; clear hSw; have E24 := E.tmp 24 _ rfl; clear E; unfold O63_1_12; clear hN hq hS; go_simp
 clear K12
 refine uP 13 O63_1_13 (zp g (t * 14)) K13 hq NS63_1 (want_none rfl) (fun ev E w9 => ?_) (fun _ => hS) fun a14 K14 => ?_
 ·have E4 := E.tmp 4 _ rfl; clear E; unfold O63_1_13; clear hN hq hS; go_simp
 clear K13
 refine uP 14 O63_1_14 (zp g (t * 14)) K14 hq NS63_1 (want_none rfl) (fun ev E w9 => ?_) (fun _ => hS) fun a15 K15 => ?_
 ·have E26 := E.tmp 26 _ rfl; clear E; unfold O63_1_14; clear hN hq hS; go_simp
 clear K14
 refine uP 15 O63_1_15 (zp g (t * 14 + 2)) K15 hq NS63_1 (want_none rfl) (fun ev E w9 => ?_) (fun _ => hS) fun a16 K16 => ?_
 ·have E27 := E.tmp 27 _ rfl; clear E; unfold O63_1_15; clear hN hq hS; go_simp
 clear K15
 refine utake (i := 16) (o := O63_1_16) (v := zi ((S t).r : Int)) K16 hq rfl NS63_1 (by kernel_rfl) (by kernel_rfl) (by kernel_rfl) (by kernel_rfl) rfl rfl (want_none rfl) (fun ev E w9 hSw => ?_) hS (fun a17 K17 => ?_)
 ·obtain ⟨s0, s1, s2, s3, s4, s5, s6, s7, s8, s9, s10, s11, s12, s13⟩ := hSw.slot (t := t) (by assumption); clear hSw; have E28 := E.tmp 28 _ rfl; clear E; unfold O63_1_16; clear hN hq hS; go_simp
 clear K16
 refine uP 17 O63_1_17 (zp g ((S t).r * 14)) K17 hq NS63_1 (want_none rfl) (fun ev E w9 => ?_) (fun _ => hS) fun a18 K18 => ?_
 ·have E25 := E.tmp 25 _ rfl; have E29 := E.tmp 29 _ rfl; clear E; unfold O63_1_17; clear hN hq hS; go_simp
 clear K17
 refine uP 18 O63_1_18 (zp g ((S t).l * 14)) K18 hq NS63_1 (want_none rfl) (fun ev E w9 => ?_) (fun _ => hS) fun a19 K19 => ?_
 ·have E21 := E.tmp 21 _ rfl; clear E; unfold O63_1_18; clear hN hq hS; go_simp
 clear K18
 refine uone (i := 19) (o := ⟨some 6, .assign (.tmp 30), 85, "slot.go:46", #[⟨17, .data⟩, ⟨18, .chain⟩, ⟨0, .phase⟩, ⟨1, .phase⟩, ⟨2, .phase⟩, ⟨3, .phase⟩, ⟨4, .phase⟩, ⟨5, .phase⟩, ⟨6, .phase⟩, ⟨7, .phase⟩, ⟨8, .phase⟩, ⟨9, .phase⟩, ⟨10, .phase⟩, ⟨11, .phase⟩, ⟨12, .phase⟩, ⟨13, .phase⟩, ⟨14, .phase⟩, ⟨15, .phase⟩, ⟨16, .phase⟩, ⟨17, .phase⟩, ⟨18, .phase⟩], none⟩) K19 rfl (by kernel_rfl) rfl rfl (want_none rfl) (leaves_value (v := zp g ((S t).r * 14)) (w' := w.drew) K19 (fun ev E => by clear hN hq hS; have E30 := E.tmp 30 _ rfl; clear E; go_simp)) (fun v9 W9 hR => ?_)
 obtain ⟨rfl, rfl⟩ := hR
 refine ⟨fun hx => absurd hx (by decide), fun a20 K20 => ?_⟩
 refine till_done (by kernel_rfl) ?_ _
 exact hN _ (K20.less ⟨rfl, rfl, rfl, trivial⟩)
set_option maxHeartbeats 4000000 in
theorem rg63_2 {p g n cap room t : Nat} {S : Ss} {NX : Act -> World -> Prop} {a0 : Act} {w : World} (K0 : Kn a0 66 [(4, zp g (t * 14)), (5, zp g ((S t).l * 14)), (6, zp g ((S t).r * 14))]) (h : Pool w p g n cap room S) (ht : t < n) (hl : (S t).l < n) (hr : (S t).r < n) (k1 : -4611686018427387904 <= (S (S t).l).sm.c + 1 /\ (S (S t).l).sm.c + 1 <= 4611686018427387904) (k2 : -4611686018427387904 <= (S (S t).l).sm.s + (S t).wt /\ (S (S t).l).sm.s + (S t).wt <= 4611686018427387904) (k3 : -4611686018427387904 <= (jn (S (S t).l).sm (one (S t).wt)).c + (S (S t).r).sm.c /\ (jn (S (S t).l).sm (one (S t).wt)).c + (S (S t).r).sm.c <= 4611686018427387904) (k4 : -4611686018427387904 <= (jn (S (S t).l).sm (one (S t).wt)).s + (S (S t).r).sm.s /\ (jn (S (S t).l).sm (one (S t).wt)).s + (S (S t).r).sm.s <= 4611686018427387904)
  (hN : ∀ a' W, Kn a' 66 [(4, zp g (t * 14)), (5, zp g ((S t).l * 14)), (6, zp g ((S t).r * 14))] -> Pool W p g n cap room (upd S t { S t with sm := gSm S t }) -> Keep [g] w W -> NX a' W) : (Code.region 2 OPS63_2.toArray true).wp Try.prog (Norm NX) a0 w := by
 have hq := @norm_q NX
 have hS : (fun w' : World => Pool w' p g n cap room S) w.drew := h.drew
 have HP := hide h
 have b0 : Below w.heap.size w w.drew := (Below.refl _ _).drew
 have e1 : (0 : Int) <= (t : Int) := by omega
 have e2 : (t : Int) < (n : Int) := by omega
 have e3 : (0 : Int) <= ((S t).l : Int) := by omega
 have e4 : ((S t).l : Int) < (n : Int) := by omega
 have e5 : (0 : Int) <= ((S t).r : Int) := by omega
 have e6 : ((S t).r : Int) < (n : Int) := by omega
 clear h
 refine wp_region_till (t := 18) (S := (fun w' : World => Pool w' p g n cap room S)) (by kernel_rfl) ?_
 rw [show (OPS63_2.toArray).size = 19 from by kernel_rfl]
 refine uP 0 O63_2_0 (zp g (t * 14)) K0 hq NS63_2 (want_none rfl) (fun ev E w9 => ?_) (fun _ => hS) fun a1 K1 => ?_
 ·have E4 := E.tmp 4 _ rfl; clear E; unfold O63_2_0; clear hN hq hS HP; go_simp
 refine uP 1 O63_2_1 (zp g ((S t).l * 14)) K1 hq NS63_2 (want_none rfl) (fun ev E w9 => ?_) (fun _ => hS) fun a2 K2 => ?_
 ·have E5 := E.tmp 5 _ rfl; clear E; unfold O63_2_1; clear hN hq hS HP; go_simp
 clear K1
 refine uP 2 O63_2_2 (zp g ((S t).l * 14)) K2 hq NS63_2 (want_none rfl) (fun ev E w9 => ?_) (fun _ => hS) fun a3 K3 => ?_
 ·have E32 := E.tmp 32 _ rfl; clear E; unfold O63_2_2; clear hN hq hS HP; go_simp
 clear K2
 refine uP 3 O63_2_3 (zp g ((S t).l * 14 + 6)) K3 hq NS63_2 (want_none rfl) (fun ev E w9 => ?_) (fun _ => hS) fun a4 K4 => ?_
 ·have E33 := E.tmp 33 _ rfl; clear E; unfold O63_2_3; clear hN hq hS HP; go_simp
 clear K3
 refine utake (i := 4) (o := O63_2_4) (v := .agg #[zi (S (S t).l).sm.c, zi (S (S t).l).sm.s, zi (S (S t).l).sm.a, zi (S (S t).l).sm.b]) K4 hq rfl NS63_2 (by kernel_rfl) (by kernel_rfl) (by kernel_rfl) (by kernel_rfl) rfl rfl (want_none rfl) (fun ev E w9 hSw => ?_) hS (fun a5 K5 => ?_)
 ·obtain ⟨s0, s1, s2, s3, s4, s5, s6, s7, s8, s9, s10, s11, s12, s13⟩ := hSw.slot (t := (S t).l) (by assumption); clear hSw; have E34 := E.tmp 34 _ rfl; clear E; unfold O63_2_4; clear hN hq hS HP; go_simp
 clear K4
 refine uP 5 O63_2_5 (zp g (t * 14)) K5 hq NS63_2 (want_none rfl) (fun ev E w9 => ?_) (fun _ => hS) fun a6 K6 => ?_
 ·have E4 := E.tmp 4 _ rfl; clear E; unfold O63_2_5; clear hN hq hS HP; go_simp
 clear K5
 refine uP 6 O63_2_6 (zp g (t * 14)) K6 hq NS63_2 (want_none rfl) (fun ev E w9 => ?_) (fun _ => hS) fun a7 K7 => ?_
 ·have E36 := E.tmp 36 _ rfl; clear E; unfold O63_2_6; clear hN hq hS HP; go_simp
 clear K6
 refine uP 7 O63_2_7 (zp g (t * 14 + 4)) K7 hq NS63_2 (want_none rfl) (fun ev E w9 => ?_) (fun _ => hS) fun a8 K8 => ?_
 ·have E37 := E.tmp 37 _ rfl; clear E; unfold O63_2_7; clear hN hq hS HP; go_simp
 clear K7
 refine utake (i := 8) (o := O63_2_8) (v := zi (S t).wt) K8 hq rfl NS63_2 (by kernel_rfl) (by kernel_rfl) (by kernel_rfl) (by kernel_rfl) rfl rfl (want_none rfl) (fun ev E w9 hSw => ?_) hS (fun a9 K9 => ?_)
 ·obtain ⟨s0, s1, s2, s3, s4, s5, s6, s7, s8, s9, s10, s11, s12, s13⟩ := hSw.slot (t := t) (by assumption); clear hSw; have E38 := E.tmp 38 _ rfl; clear E; unfold O63_2_8; clear hN hq hS HP; go_simp
 clear K8
 refine uP 11 O63_2_11 (zp g ((S t).r * 14)) K9 hq NS63_2 (want_none rfl) (fun ev E w9 => ?_) (fun _ => hS) fun a10 K10 => ?_
 ·have E6 := E.tmp 6 _ rfl; clear E; unfold O63_2_11; clear hN hq hS HP; go_simp
 clear K9
 refine uP 12 O63_2_12 (zp g ((S t).r * 14)) K10 hq NS63_2 (want_none rfl) (fun ev E w9 => ?_) (fun _ => hS) fun a11 K11 => ?_
 ·have E42 := E.tmp 42 _ rfl; clear E; unfold O63_2_12; clear hN hq hS HP; go_simp
 clear K10
 refine uP 13 O63_2_13 (zp g ((S t).r * 14 + 6)) K11 hq NS63_2 (want_none rfl) (fun ev E w9 => ?_) (fun _ => hS) fun a12 K12 => ?_
 ·have E43 := E.tmp 43 _ rfl; clear E; unfold O63_2_13; clear hN hq hS HP; go_simp
 clear K11
 refine utake (i := 14) (o := O63_2_14) (v := .agg #[zi (S (S t).r).sm.c, zi (S (S t).r).sm.s, zi (S (S t).r).sm.a, zi (S (S t).r).sm.b]) K12 hq rfl NS63_2 (by kernel_rfl) (by kernel_rfl) (by kernel_rfl) (by kernel_rfl) rfl rfl (want_none rfl) (fun ev E w9 hSw => ?_) hS (fun a13 K13 => ?_)
 ·obtain ⟨s0, s1, s2, s3, s4, s5, s6, s7, s8, s9, s10, s11, s12, s13⟩ := hSw.slot (t := (S t).r) (by assumption); clear hSw; have E44 := E.tmp 44 _ rfl; clear E; unfold O63_2_14; clear hN hq hS HP; go_simp
 clear K12
 refine uone (i := 9) (o := ⟨some 40, .call { callee := (.value (.func 54)), args := #[(.tmp 39)], argTypes := #[3] }, 34, "slot.go:47", #[⟨8, .data⟩], none⟩) K13 rfl (by kernel_rfl) rfl rfl (want_none rfl) (leaves_call (fn := 54) (args := #[zi (S t).wt]) K13 (fun ev E => by clear hN hq hS HP; have EF := E.func; have E39 := E.tmp 39 _ rfl; clear E; go_simp) (one_any _ _) (fun e w' h => ⟨_, h.1⟩)) (fun v14 C1 hR => ?_)
 obtain ⟨hv, hb⟩ := hR
 injection hv with hv
 subst hv
 have b1 : Below w.heap.size w C1 := b0.trans (hb.mono b0.size)
 clear hS hb
 have hS : (fun w' : World => Pool w' p g n cap room S) C1 := (unhide HP).below b1
 refine ⟨fun _ => hS, fun a14 K14 => ?_⟩
 clear K13
 replace K14 : Kn _ 66 ((40, .agg #[zi 1, zi (S t).wt, zi (S t).wt, zi (S t).wt]) :: _) := K14
 refine uone (i := 10) (o := ⟨some 41, .call { callee := (.value (.func 83)), args := #[(.tmp 35), (.tmp 40)], argTypes := #[34, 34] }, 34, "slot.go:47", #[⟨4, .data⟩, ⟨9, .data⟩, ⟨9, .chain⟩], none⟩) K14 rfl (by kernel_rfl) rfl rfl (want_none rfl) (leaves_call (fn := 83) (args := #[.agg #[zi (S (S t).l).sm.c, zi (S (S t).l).sm.s, zi (S (S t).l).sm.a, zi (S (S t).l).sm.b], .agg #[zi 1, zi (S t).wt, zi (S t).wt, zi (S t).wt]]) K14 (fun ev E => by clear hN hq hS HP; have EF := E.func; have E35 := E.tmp 35 _ rfl; have E40 := E.tmp 40 _ rfl; clear E; go_simp) (join_any _ _ _ _ 1 _ _ _ _ k1.1 k1.2 k2.1 k2.2) (fun e w' h => ⟨_, h.1⟩)) (fun v15 C2 hR => ?_)
 obtain ⟨hv, hb⟩ := hR
 injection hv with hv
 subst hv
 have b2 : Below w.heap.size w C2 := b1.trans (hb.mono b1.size)
 clear hS hb
 have hS : (fun w' : World => Pool w' p g n cap room S) C2 := (unhide HP).below b2
 refine ⟨fun _ => hS, fun a15 K15 => ?_⟩
 clear K14
 replace K15 : Kn _ 66 ((41, .agg #[zi (jn (S (S t).l).sm (one (S t).wt)).c, zi (jn (S (S t).l).sm (one (S t).wt)).s, zi (jn (S (S t).l).sm (one (S t).wt)).a, zi (jn (S (S t).l).sm (one (S t).wt)).b]) :: _) := K15
 refine uone (i := 15) (o := ⟨some 46, .call { callee := (.value (.func 83)), args := #[(.tmp 41), (.tmp 45)], argTypes := #[34, 34] }, 34, "slot.go:47", #[⟨10, .data⟩, ⟨14, .data⟩, ⟨10, .chain⟩], none⟩) K15 rfl (by kernel_rfl) rfl rfl (want_none rfl) (leaves_call (fn := 83) (args := #[.agg #[zi (jn (S (S t).l).sm (one (S t).wt)).c, zi (jn (S (S t).l).sm (one (S t).wt)).s, zi (jn (S (S t).l).sm (one (S t).wt)).a, zi (jn (S (S t).l).sm (one (S t).wt)).b], .agg #[zi (S (S t).r).sm.c, zi (S (S t).r).sm.s, zi (S (S t).r).sm.a, zi (S (S t).r).sm.b]]) K15 (fun ev E => by clear hN hq hS HP; have EF := E.func; have E41 := E.tmp 41 _ rfl; have E45 := E.tmp 45 _ rfl; clear E; go_simp) (join_any _ _ _ _ _ _ _ _ _ k3.1 k3.2 k4.1 k4.2) (fun e w' h => ⟨_, h.1⟩)) (fun v16 C3 hR => ?_)
 obtain ⟨hv, hb⟩ := hR
 injection hv with hv
 subst hv
 have b3 : Below w.heap.size w C3 := b2.trans (hb.mono b2.size)
 clear hS hb
 have hS : (fun w' : World => Pool w' p g n cap room S) C3 := (unhide HP).below b3
 refine ⟨fun _ => hS, fun a16 K16 => ?_⟩
 clear K15
 replace K16 : Kn _ 66 ((46, .agg #[zi (gSm S t).c, zi (gSm S t).s, zi (gSm S t).a, zi (gSm S t).b]) :: _) := K16
 refine uP 16 O63_2_16 (zp g (t * 14)) K16 hq NS63_2 (want_none rfl) (fun ev E w9 => ?_) (fun _ => hS) fun a17 K17 => ?_
 ·have E31 := E.tmp 31 _ rfl; clear E; unfold O63_2_16; clear hN hq hS HP; go_simp
 clear K16
 refine uP 17 O63_2_17 (zp g (t * 14 + 6)) K17 hq NS63_2 (want_none rfl) (fun ev E w9 => ?_) (fun _ => hS) fun a18 K18 => ?_
 ·have E47 := E.tmp 47 _ rfl; clear E; unfold O63_2_17; clear hN hq hS HP; go_simp
 clear K17
 skip
 have P0 := hide hS
 clear hS
 obtain ⟨s0, s1, s2, s3, s4, s5, s6, s7, s8, s9, s10, s11, s12, s13⟩ := (unhide P0).slot ht
 obtain ⟨f0, f1, f2, f3, f4, f5, f6, f7, f8, f9, f10, f11, f12, f13⟩ := (unhide P0).soft ht
 refine ustore (R := fun _ _ => True) (i := 18) (o := O63_2_18) (w' := ((((C3).setCell ⟨g, t * 14 + 6, none⟩ (zi (gSm S t).c)).setCell ⟨g, t * 14 + 7, none⟩ (zi (gSm S t).s)).setCell ⟨g, t * 14 + 8, none⟩ (zi (gSm S t).a)).setCell ⟨g, t * 14 + 9, none⟩ (zi (gSm S t).b)) K18 rfl (by kernel_rfl) rfl (want_none rfl) (fun ev E => ?_) (fun hx => absurd hx (by decide)) ?_
 ·have E46 := E.tmp 46 _ rfl; have E48 := E.tmp 48 _ rfl; clear E; unfold O63_2_18; clear hN hq HP P0; go_simp
 refine till_done (by kernel_rfl) ?_ _
 have P3 := ((((unhide P0).put (t := t) ht 6 (by omega) { S t with sm := { (S t).sm with c := (gSm S t).c } } (zi (gSm S t).c) rfl).put (t := t) ht 7 (by omega) { S t with sm := { (S t).sm with c := (gSm S t).c, s := (gSm S t).s } } (zi (gSm S t).s) (by rw [upd_same]; rfl)).put (t := t) ht 8 (by omega) { S t with sm := { (S t).sm with c := (gSm S t).c, s := (gSm S t).s, a := (gSm S t).a } } (zi (gSm S t).a) (by rw [upd_same]; rfl)).put (t := t) ht 9 (by omega) { S t with sm := gSm S t } (zi (gSm S t).b) (by rw [upd_same]; rfl)
 have Q3 := ((((Keep.ofBelow b3 [g]).cellB (t * 14 + 6) (zi (gSm S t).c)).cellB (t * 14 + 7) (zi (gSm S t).s)).cellB (t * 14 + 8) (zi (gSm S t).a)).cellB (t * 14 + 9) (zi (gSm S t).b)
 have hE : ∀ (T : Ss) (x : Sl), (∀ j, j ≠ t -> T j = S j) -> upd T t x = upd S t x := fun T x hT => by
  funext j
  by_cases hj : j = t
  ·subst hj; simp [upd]
  ·simp [upd, hj, hT j hj]
 rw [hE _ _ (fun j hj => by simp [upd, hj])] at P3
 exact hN _ _ (K18.less ⟨rfl, rfl, rfl, trivial⟩) P3 Q3
set_option maxHeartbeats 4000000 in
theorem rg63_3 {p g n cap room t : Nat} {S : Ss} {NX : Act -> World -> Prop} {a0 : Act} {w : World} (K0 : Kn a0 66 [(4, zp g (t * 14)), (5, zp g ((S t).l * 14)), (6, zp g ((S t).r * 14))]) (h : Pool w p g n cap room S) (ht : t < n) (hl : (S t).l < n) (hr : (S t).r < n) (k1 : -4611686018427387904 <= (S (S t).l).hu.c + (S t).hg.c /\ (S (S t).l).hu.c + (S t).hg.c <= 4611686018427387904) (k2 : -4611686018427387904 <= (S (S t).l).hu.w + (S t).hg.w /\ (S (S t).l).hu.w + (S t).hg.w <= 4611686018427387904) (k3 : -4611686018427387904 <= (S (S t).l).hu.c + (S t).hg.c + (S (S t).r).hu.c /\ (S (S t).l).hu.c + (S t).hg.c + (S (S t).r).hu.c <= 4611686018427387904) (k4 : -4611686018427387904 <= (S (S t).l).hu.w + (S t).hg.w + (S (S t).r).hu.w /\ (S (S t).l).hu.w + (S t).hg.w + (S (S t).r).hu.w <= 4611686018427387904)
  (hN : ∀ a' W, Kn a' 66 [(4, zp g (t * 14)), (5, zp g ((S t).l * 14)), (6, zp g ((S t).r * 14))] -> Pool W p g n cap room (upd S t { S t with hu := gHu S t }) -> Keep [g] w W -> NX a' W) : (Code.region 3 OPS63_3.toArray true).wp Try.prog (Norm NX) a0 w := by
 have hq := @norm_q NX
 have hS : (fun w' : World => Pool w' p g n cap room S) w.drew := h.drew
 have HP := hide h
 have b0 : Below w.heap.size w w.drew := (Below.refl _ _).drew
 have e1 : (0 : Int) <= (t : Int) := by omega
 have e2 : (t : Int) < (n : Int) := by omega
 have e3 : (0 : Int) <= ((S t).l : Int) := by omega
 have e4 : ((S t).l : Int) < (n : Int) := by omega
 have e5 : (0 : Int) <= ((S t).r : Int) := by omega
 have e6 : ((S t).r : Int) < (n : Int) := by omega
 clear h
 refine wp_region_till (t := 17) (S := (fun w' : World => Pool w' p g n cap room S)) (by kernel_rfl) ?_
 rw [show (OPS63_3.toArray).size = 18 from by kernel_rfl]
 refine uP 0 O63_3_0 (zp g (t * 14)) K0 hq NS63_3 (want_none rfl) (fun ev E w9 => ?_) (fun _ => hS) fun a1 K1 => ?_
 ·have E4 := E.tmp 4 _ rfl; clear E; unfold O63_3_0; clear hN hq hS HP; go_simp
 refine uP 1 O63_3_1 (zp g ((S t).l * 14)) K1 hq NS63_3 (want_none rfl) (fun ev E w9 => ?_) (fun _ => hS) fun a2 K2 => ?_
 ·have E5 := E.tmp 5 _ rfl; clear E; unfold O63_3_1; clear hN hq hS HP; go_simp
 clear K1
 refine uP 2 O63_3_2 (zp g ((S t).l * 14)) K2 hq NS63_3 (want_none rfl) (fun ev E w9 => ?_) (fun _ => hS) fun a3 K3 => ?_
 ·have E50 := E.tmp 50 _ rfl; clear E; unfold O63_3_2; clear hN hq hS HP; go_simp
 clear K2
 refine uP 3 O63_3_3 (zp g ((S t).l * 14 + 12)) K3 hq NS63_3 (want_none rfl) (fun ev E w9 => ?_) (fun _ => hS) fun a4 K4 => ?_
 ·have E51 := E.tmp 51 _ rfl; clear E; unfold O63_3_3; clear hN hq hS HP; go_simp
 clear K3
 refine utake (i := 4) (o := O63_3_4) (v := .agg #[zi (S (S t).l).hu.c, zi (S (S t).l).hu.w]) K4 hq rfl NS63_3 (by kernel_rfl) (by kernel_rfl) (by kernel_rfl) (by kernel_rfl) rfl rfl (want_none rfl) (fun ev E w9 hSw => ?_) hS (fun a5 K5 => ?_)
 ·obtain ⟨s0, s1, s2, s3, s4, s5, s6, s7, s8, s9, s10, s11, s12, s13⟩ := hSw.slot (t := (S t).l) (by assumption); clear hSw; have E52 := E.tmp 52 _ rfl; clear E; unfold O63_3_4; clear hN hq hS HP; go_simp
 clear K4
 refine uP 5 O63_3_5 (zp g (t * 14)) K5 hq NS63_3 (want_none rfl) (fun ev E w9 => ?_) (fun _ => hS) fun a6 K6 => ?_
 ·have E4 := E.tmp 4 _ rfl; clear E; unfold O63_3_5; clear hN hq hS HP; go_simp
 clear K5
 refine uP 6 O63_3_6 (zp g (t * 14)) K6 hq NS63_3 (want_none rfl) (fun ev E w9 => ?_) (fun _ => hS) fun a7 K7 => ?_
 ·have E54 := E.tmp 54 _ rfl; clear E; unfold O63_3_6; clear hN hq hS HP; go_simp
 clear K6
 refine uP 7 O63_3_7 (zp g (t * 14 + 10)) K7 hq NS63_3 (want_none rfl) (fun ev E w9 => ?_) (fun _ => hS) fun a8 K8 => ?_
 ·have E55 := E.tmp 55 _ rfl; clear E; unfold O63_3_7; clear hN hq hS HP; go_simp
 clear K7
 refine utake (i := 8) (o := O63_3_8) (v := .agg #[zi (S t).hg.c, zi (S t).hg.w]) K8 hq rfl NS63_3 (by kernel_rfl) (by kernel_rfl) (by kernel_rfl) (by kernel_rfl) rfl rfl (want_none rfl) (fun ev E w9 hSw => ?_) hS (fun a9 K9 => ?_)
 ·obtain ⟨s0, s1, s2, s3, s4, s5, s6, s7, s8, s9, s10, s11, s12, s13⟩ := hSw.slot (t := t) (by assumption); clear hSw; have E56 := E.tmp 56 _ rfl; clear E; unfold O63_3_8; clear hN hq hS HP; go_simp
 clear K8
 refine uP 10 O63_3_10 (zp g ((S t).r * 14)) K9 hq NS63_3 (want_none rfl) (fun ev E w9 => ?_) (fun _ => hS) fun a10 K10 => ?_
 ·have E6 := E.tmp 6 _ rfl; clear E; unfold O63_3_10; clear hN hq hS HP; go_simp
 clear K9
 refine uP 11 O63_3_11 (zp g ((S t).r * 14)) K10 hq NS63_3 (want_none rfl) (fun ev E w9 => ?_) (fun _ => hS) fun a11 K11 => ?_
 ·have E59 := E.tmp 59 _ rfl; clear E; unfold O63_3_11; clear hN hq hS HP; go_simp
 clear K10
 refine uP 12 O63_3_12 (zp g ((S t).r * 14 + 12)) K11 hq NS63_3 (want_none rfl) (fun ev E w9 => ?_) (fun _ => hS) fun a12 K12 => ?_
 ·have E60 := E.tmp 60 _ rfl; clear E; unfold O63_3_12; clear hN hq hS HP; go_simp
 clear K11
 refine utake (i := 13) (o := O63_3_13) (v := .agg #[zi (S (S t).r).hu.c, zi (S (S t).r).hu.w]) K12 hq rfl NS63_3 (by kernel_rfl) (by kernel_rfl) (by kernel_rfl) (by kernel_rfl) rfl rfl (want_none rfl) (fun ev E w9 hSw => ?_) hS (fun a13 K13 => ?_)
 ·obtain ⟨s0, s1, s2, s3, s4, s5, s6, s7, s8, s9, s10, s11, s12, s13⟩ := hSw.slot (t := (S t).r) (by assumption); clear hSw; have E61 := E.tmp 61 _ rfl; clear E; unfold O63_3_13; clear hN hq hS HP; go_simp
 clear K12
 refine uone (i := 9) (o := ⟨some 58, .call { callee := (.value (.func 80)), args := #[(.tmp 53), (.tmp 57)], argTypes := #[73, 73] }, 73, "slot.go:48", #[⟨4, .data⟩, ⟨8, .data⟩], none⟩) K13 rfl (by kernel_rfl) rfl rfl (want_none rfl) (leaves_call (fn := 80) (args := #[.agg #[zi (S (S t).l).hu.c, zi (S (S t).l).hu.w], .agg #[zi (S t).hg.c, zi (S t).hg.w]]) K13 (fun ev E => by clear hN hq hS HP; have EF := E.func; have E53 := E.tmp 53 _ rfl; have E57 := E.tmp 57 _ rfl; clear E; go_simp) (with_any _ _ _ _ _ k1 k2) (fun e w' h => ⟨_, h.1⟩)) (fun v14 C1 hR => ?_)
 obtain ⟨hv, hb⟩ := hR
 injection hv with hv
 subst hv
 have b1 : Below w.heap.size w C1 := b0.trans (hb.mono b0.size)
 clear hS hb
 have hS : (fun w' : World => Pool w' p g n cap room S) C1 := (unhide HP).below b1
 refine ⟨fun _ => hS, fun a14 K14 => ?_⟩
 clear K13
 replace K14 : Kn _ 66 ((58, .agg #[zi ((S (S t).l).hu.c + (S t).hg.c), zi ((S (S t).l).hu.w + (S t).hg.w)]) :: _) := K14
 refine uone (i := 14) (o := ⟨some 63, .call { callee := (.value (.func 80)), args := #[(.tmp 58), (.tmp 62)], argTypes := #[73, 73] }, 73, "slot.go:48", #[⟨9, .data⟩, ⟨13, .data⟩, ⟨9, .chain⟩], none⟩) K14 rfl (by kernel_rfl) rfl rfl (want_none rfl) (leaves_call (fn := 80) (args := #[.agg #[zi ((S (S t).l).hu.c + (S t).hg.c), zi ((S (S t).l).hu.w + (S t).hg.w)], .agg #[zi (S (S t).r).hu.c, zi (S (S t).r).hu.w]]) K14 (fun ev E => by clear hN hq hS HP; have EF := E.func; have E58 := E.tmp 58 _ rfl; have E62 := E.tmp 62 _ rfl; clear E; go_simp) (with_any _ _ _ _ _ k3 k4) (fun e w' h => ⟨_, h.1⟩)) (fun v15 C2 hR => ?_)
 obtain ⟨hv, hb⟩ := hR
 injection hv with hv
 subst hv
 have b2 : Below w.heap.size w C2 := b1.trans (hb.mono b1.size)
 clear hS hb
 have hS : (fun w' : World => Pool w' p g n cap room S) C2 := (unhide HP).below b2
 refine ⟨fun _ => hS, fun a15 K15 => ?_⟩
 clear K14
 replace K15 : Kn _ 66 ((63, .agg #[zi (gHu S t).c, zi (gHu S t).w]) :: _) := K15
 refine uP 15 O63_3_15 (zp g (t * 14)) K15 hq NS63_3 (want_none rfl) (fun ev E w9 => ?_) (fun _ => hS) fun a16 K16 => ?_
 ·have E49 := E.tmp 49 _ rfl; clear E; unfold O63_3_15; clear hN hq hS HP; go_simp
 clear K15
 refine uP 16 O63_3_16 (zp g (t * 14 + 12)) K16 hq NS63_3 (want_none rfl) (fun ev E w9 => ?_) (fun _ => hS) fun a17 K17 => ?_
 ·have E64 := E.tmp 64 _ rfl; clear E; unfold O63_3_16; clear hN hq hS HP; go_simp
 clear K16
 skip
 have P0 := hide hS
 clear hS
 obtain ⟨s0, s1, s2, s3, s4, s5, s6, s7, s8, s9, s10, s11, s12, s13⟩ := (unhide P0).slot ht
 obtain ⟨f0, f1, f2, f3, f4, f5, f6, f7, f8, f9, f10, f11, f12, f13⟩ := (unhide P0).soft ht
 refine ustore (R := fun _ _ => True) (i := 17) (o := O63_3_17) (w' := ((C2).setCell ⟨g, t * 14 + 12, none⟩ (zi (gHu S t).c)).setCell ⟨g, t * 14 + 13, none⟩ (zi (gHu S t).w)) K17 rfl (by kernel_rfl) rfl (want_none rfl) (fun ev E => ?_) (fun hx => absurd hx (by decide)) ?_
 ·have E63 := E.tmp 63 _ rfl; have E65 := E.tmp 65 _ rfl; clear E; unfold O63_3_17; clear hN hq HP P0; go_simp
 refine till_done (by kernel_rfl) ?_ _
 have P3 := ((unhide P0).put (t := t) ht 12 (by omega) { S t with hu := { (S t).hu with c := (gHu S t).c } } (zi (gHu S t).c) rfl).put (t := t) ht 13 (by omega) { S t with hu := gHu S t } (zi (gHu S t).w) (by rw [upd_same]; rfl)
 have Q3 := ((Keep.ofBelow b2 [g]).cellB (t * 14 + 12) (zi (gHu S t).c)).cellB (t * 14 + 13) (zi (gHu S t).w)
 have hE : ∀ (T : Ss) (x : Sl), (∀ j, j ≠ t -> T j = S j) -> upd T t x = upd S t x := fun T x hT => by
  funext j
  by_cases hj : j = t
  ·subst hj; simp [upd]
  ·simp [upd, hj, hT j hj]
 rw [hE _ _ (fun j hj => by simp [upd, hj])] at P3
 exact hN _ _ (K17.less ⟨rfl, rfl, rfl, trivial⟩) P3 Q3
structure Gbd (S : Ss) (t : Nat) : Prop where
 k1 : -4611686018427387904 <= (S (S t).l).sm.c + 1 /\ (S (S t).l).sm.c + 1 <= 4611686018427387904
 k2 : -4611686018427387904 <= (S (S t).l).sm.s + (S t).wt /\ (S (S t).l).sm.s + (S t).wt <= 4611686018427387904
 k3 : -4611686018427387904 <= (jn (S (S t).l).sm (one (S t).wt)).c + (S (S t).r).sm.c /\ (jn (S (S t).l).sm (one (S t).wt)).c + (S (S t).r).sm.c <= 4611686018427387904
 k4 : -4611686018427387904 <= (jn (S (S t).l).sm (one (S t).wt)).s + (S (S t).r).sm.s /\ (jn (S (S t).l).sm (one (S t).wt)).s + (S (S t).r).sm.s <= 4611686018427387904
 m1 : -4611686018427387904 <= (S (S t).l).hu.c + (S t).hg.c /\ (S (S t).l).hu.c + (S t).hg.c <= 4611686018427387904
 m2 : -4611686018427387904 <= (S (S t).l).hu.w + (S t).hg.w /\ (S (S t).l).hu.w + (S t).hg.w <= 4611686018427387904
 m3 : -4611686018427387904 <= (S (S t).l).hu.c + (S t).hg.c + (S (S t).r).hu.c /\ (S (S t).l).hu.c + (S t).hg.c + (S (S t).r).hu.c <= 4611686018427387904
 m4 : -4611686018427387904 <= (S (S t).l).hu.w + (S t).hg.w + (S (S t).r).hu.w /\ (S (S t).l).hu.w + (S t).hg.w + (S (S t).r).hu.w <= 4611686018427387904
set_option maxHeartbeats 4000000 in
theorem gather_any {p g n cap room t : Nat} {S : Ss} {w : World} (h : Pool w p g n cap room S) (ht : t < n) (hl : (S t).l < n) (hr : (S t).r < n) (hlt : (S t).l ≠ t) (hrt : (S t).r ≠ t) (hb : Gbd S t) :
  Calls Try.prog 63 #[zp p 0, zi t] w fun e w' => e = .returned (.tuple #[]) /\ Pool w' p g n cap room (gatherS S t) /\ Keep [g] w w' := by
 have PH := hide h
 have HB := hide hb
 clear h hb
 have e1 : (0 : Int) <= (t : Int) := by omega
 have e2 : (t : Int) < (n : Int) := by omega
 refine callsK (n := 66) (L := [(0, zp p 0), (1, zi t)]) Try.func63 rfl Try.ntmps63 rfl rfl (fun a0 K0 => ?_)
 refine seqR ?_
 refine lM K0 fun a1 K1 => ?_
 refine lN K1 fun a2 K2 => ?_
 clear K1
 refine lF K2 FA66_1 fun a3 K3 => ?_
 clear K2
 refine lT (.slice (some ⟨g, 0, none⟩) n cap) w K3 (want_none rfl) (fun ev E => ?_) fun a4 K4 => ?_
 ·obtain ⟨c0, c1, _⟩ := (unhide PH).head; have E9 := E.tmp 9 _ rfl; clear E; clear PH HB; go_simp
 clear K3
 refine lM K4 fun a5 K5 => ?_
 clear K4
 refine lT (zp g (t * 14)) w K5 (want_none rfl) (fun ev E => ?_) fun a6 K6 => ?_
 ·have E10 := E.tmp 10 _ rfl; have E11 := E.tmp 11 _ rfl; clear E; clear PH HB; go_simp
 clear K5
 refine lA K6 fun a7 K7 => ?_
 clear K6
 refine nilN ?_
 have K8 : Kn _ 66 [(0, zp p 0), (4, zp g (t * 14))] := K7.less ⟨rfl, rfl, trivial⟩
 clear K7
 refine seqN (rg63_1 K8 (unhide PH) ht hl hr fun a1 K1 => ?_)
 have P1 := hide (unhide PH).drew
 obtain ⟨k1, k2, k3, k4, m1, m2, m3, m4⟩ := unhide HB
 refine seqN (rg63_2 K1 (unhide P1) ht hl hr k1 k2 k3 k4 fun a2 W2 K2 P2 Q2 => ?_)
 have x0 : upd S t { S t with sm := gSm S t } t = { S t with sm := gSm S t } := upd_same _ _ _
 have xl : upd S t { S t with sm := gSm S t } (S t).l = S (S t).l := upd_ne _ _ hlt
 have xr : upd S t { S t with sm := gSm S t } (S t).r = S (S t).r := upd_ne _ _ hrt
 have hg : gHu (upd S t { S t with sm := gSm S t }) t = gHu S t := by simp only [gHu, x0, xl, xr]
 obtain ⟨T, hT⟩ : ∃ T, T = upd S t { S t with sm := gSm S t } := ⟨_, rfl⟩
 rw [← hT] at P2 x0 xl xr hg
 have y1 : (T t).l = (S t).l := by rw [x0]
 have y2 : (T t).r = (S t).r := by rw [x0]
 have y3 : (T t).hg = (S t).hg := by rw [x0]
 rw [show (S t).l = (T t).l from y1.symm, show (S t).r = (T t).r from y2.symm] at K2
 refine lastN (rg63_3 K2 P2 ht (by rw [y1]; exact hl) (by rw [y2]; exact hr) (by rw [y1, xl, y3]; exact m1) (by rw [y1, xl, y3]; exact m2) (by rw [y1, y2, xl, xr, y3]; exact m3) (by rw [y1, y2, xl, xr, y3]; exact m4) fun a3 W3 K3 P3 Q3 => ?_)
 refine ⟨K3.defers, .tuple #[], results_none rfl _ _ _, rfl, ?_, (((Keep.refl [g] w).drew).tr Q2).tr Q3⟩
 have hfin : upd T t { T t with hu := gHu T t } = gatherS S t := by
  rw [hg, x0, hT]
  funext j
  by_cases hj : j = t
  ·subst hj; simp [upd, gatherS]
  ·simp [upd, gatherS, hj]
 rw [← hfin]
 exact P3
def upS (S : Ss) (u t : Nat) : Ss := if u = 0 then S else upd S u { S u with up := t }
theorem upS_ne (S : Ss) {u t v : Nat} (h : v ≠ u) : upS S u t v = S v := by unfold upS; split <;> simp [upd, h]
def besideS (S : Ss) (t l r : Nat) : Ss := upS (upS (upd S t { S t with l := l, r := r }) l t) r t
def holdS (S : Ss) (t l r : Nat) : Ss := gatherS (besideS S t l r) t
theorem besideS_same (S : Ss) {t l r : Nat} (hl : l ≠ t) (hr : r ≠ t) : besideS S t l r t = { S t with l := l, r := r } := by
 unfold besideS
 rw [upS_ne _ (fun e => hr e.symm), upS_ne _ (fun e => hl e.symm), upd_same]
set_option maxHeartbeats 4000000 in
theorem i81l {p g n cap room t l r : Nat} {S : Ss} {Q : Exit -> Act -> World -> Prop} {a0 : Act} {w0 w : World} (K0 : Kn a0 47 [(0, zp p 0), (1, zi t), (2, zi l), (3, zi r)]) (h : Pool w p g n cap room S) (hk : Keep [g] w0 w) (ht : t < n) (hT : l < n)
  (hN : ∀ a' W, Kn a' 47 [(0, zp p 0), (1, zi t), (2, zi l), (3, zi r)] -> Pool W p g n cap room (upS S l t) -> Keep [g] w0 W -> Q .normal a' W) : (Code.seq (Code.region 2 (rg [1, 1, 0, 0] Try.f81).toArray false) (Code.cond (Operand.tmp 25) (Code.region 3 (rg [1, 1, 0, 1, 0] Try.f81).toArray false) Code.skip)).wp Try.prog Q a0 w := by
 have PH := hide h
 have KP := hide hk
 clear h hk
 have e1 : (0 : Int) <= (t : Int) := by omega
 have e2 : (t : Int) < (n : Int) := by omega
 have e3 : (0 : Int) <= (l : Int) := by omega
 have e4 : (l : Int) < (n : Int) := by omega
 by_cases h0 : l = 0
 ·have i0 : (l : Int) = 0 := by omega
  refine seqR ?_
  refine lM K0 fun a1 K1 => ?_
  refine lT (.bool false) w K1 (want_none rfl) (fun ev E => ?_) fun a2 K2 => ?_
  ·have EC := E.const; have E24 := E.tmp 24 _ rfl; clear E; clear PH KP hN; go_simp
  clear K1
  refine nilN ?_
  refine knCond (b := false) K2 rfl (wp_skip (hN _ _ (K2.less ⟨rfl, rfl, rfl, rfl, trivial⟩) ?_ (unhide KP)))
  rw [upS, if_pos h0]
  exact unhide PH
 ·have i0 : ¬ (l : Int) = 0 := by omega
  refine seqR ?_
  refine lM K0 fun a1 K1 => ?_
  refine lT (.bool true) w K1 (want_none rfl) (fun ev E => ?_) fun a2 K2 => ?_
  ·have EC := E.const; have E24 := E.tmp 24 _ rfl; clear E; clear PH KP hN; go_simp
  clear K1
  refine nilN ?_
  refine knCond (b := true) K2 rfl ?_
  have K3 : Kn _ 47 [(0, zp p 0), (1, zi t), (2, zi l), (3, zi r)] := K2.less ⟨rfl, rfl, rfl, rfl, trivial⟩
  clear K2
  refine wp_region_lit ?_
  refine lM K3 fun a4 K4 => ?_
  clear K3
  refine lN K4 fun a5 K5 => ?_
  clear K4
  refine lF K5 FA66_1 fun a6 K6 => ?_
  clear K5
  refine lT (.slice (some ⟨g, 0, none⟩) n cap) w K6 (want_none rfl) (fun ev E => ?_) fun a7 K7 => ?_
  ·obtain ⟨c0, c1, _⟩ := (unhide PH).head; have E28 := E.tmp 28 _ rfl; clear E; clear PH KP hN; go_simp
  clear K6
  refine lM K7 fun a8 K8 => ?_
  clear K7
  refine lM K8 fun a9 K9 => ?_
  clear K8
  refine lT (zp g (l * 14)) w K9 (want_none rfl) (fun ev E => ?_) fun a10 K10 => ?_
  ·have E29 := E.tmp 29 _ rfl; have E30 := E.tmp 30 _ rfl; clear E; clear PH KP hN; go_simp
  clear K9
  refine lF K10 FA75_0 fun a11 K11 => ?_
  clear K10
  obtain ⟨sk, _, _, _, _, _, _, _, _, _, _, _, _, _⟩ := (unhide PH).slot hT
  obtain ⟨fk, _, _, _, _, _, _, _, _, _, _, _, _, _⟩ := (unhide PH).soft hT
  refine lstore (w' := w.setCell ⟨g, l * 14, none⟩ (zi t)) K11 rfl (want_none rfl) (fun ev E => ?_) ?_
  ·have E31 := E.tmp 31 _ rfl; have E33 := E.tmp 33 _ rfl; clear E; clear PH KP hN; go_simp
  clear sk fk
  have P1 := (unhide PH).put (t := l) hT 0 (by omega) { S l with up := t } (zi t) rfl
  have Q1 := (unhide KP).cellB (l * 14) (zi t)
  clear PH KP
  have PH := hide P1
  have KP := hide Q1
  clear P1 Q1
  generalize w.setCell ⟨g, l * 14, none⟩ (zi t) = W1 at *
  refine wpList_nil ?_
  refine hN _ _ (K11.less ⟨rfl, rfl, rfl, rfl, trivial⟩) ?_ (unhide KP)
  rw [upS, if_neg h0]
  exact unhide PH
set_option maxHeartbeats 4000000 in
theorem i81r {p g n cap room t l r : Nat} {S : Ss} {Q : Exit -> Act -> World -> Prop} {a0 : Act} {w0 w : World} (K0 : Kn a0 47 [(0, zp p 0), (1, zi t), (2, zi l), (3, zi r)]) (h : Pool w p g n cap room S) (hk : Keep [g] w0 w) (ht : t < n) (hT : r < n)
  (hN : ∀ a' W, Kn a' 47 [(0, zp p 0), (1, zi t), (2, zi l), (3, zi r)] -> Pool W p g n cap room (upS S r t) -> Keep [g] w0 W -> Q .normal a' W) : (Code.seq (Code.region 4 (rg [1, 1, 1, 0, 0] Try.f81).toArray false) (Code.cond (Operand.tmp 35) (Code.region 5 (rg [1, 1, 1, 0, 1, 0] Try.f81).toArray false) Code.skip)).wp Try.prog Q a0 w := by
 have PH := hide h
 have KP := hide hk
 clear h hk
 have e1 : (0 : Int) <= (t : Int) := by omega
 have e2 : (t : Int) < (n : Int) := by omega
 have e3 : (0 : Int) <= (r : Int) := by omega
 have e4 : (r : Int) < (n : Int) := by omega
 by_cases h0 : r = 0
 ·have i0 : (r : Int) = 0 := by omega
  refine seqR ?_
  refine lM K0 fun a1 K1 => ?_
  refine lT (.bool false) w K1 (want_none rfl) (fun ev E => ?_) fun a2 K2 => ?_
  ·have EC := E.const; have E34 := E.tmp 34 _ rfl; clear E; clear PH KP hN; go_simp
  clear K1
  refine nilN ?_
  refine knCond (b := false) K2 rfl (wp_skip (hN _ _ (K2.less ⟨rfl, rfl, rfl, rfl, trivial⟩) ?_ (unhide KP)))
  rw [upS, if_pos h0]
  exact unhide PH
 ·have i0 : ¬ (r : Int) = 0 := by omega
  refine seqR ?_
  refine lM K0 fun a1 K1 => ?_
  refine lT (.bool true) w K1 (want_none rfl) (fun ev E => ?_) fun a2 K2 => ?_
  ·have EC := E.const; have E34 := E.tmp 34 _ rfl; clear E; clear PH KP hN; go_simp
  clear K1
  refine nilN ?_
  refine knCond (b := true) K2 rfl ?_
  have K3 : Kn _ 47 [(0, zp p 0), (1, zi t), (2, zi l), (3, zi r)] := K2.less ⟨rfl, rfl, rfl, rfl, trivial⟩
  clear K2
  refine wp_region_lit ?_
  refine lM K3 fun a4 K4 => ?_
  clear K3
  refine lN K4 fun a5 K5 => ?_
  clear K4
  refine lF K5 FA66_1 fun a6 K6 => ?_
  clear K5
  refine lT (.slice (some ⟨g, 0, none⟩) n cap) w K6 (want_none rfl) (fun ev E => ?_) fun a7 K7 => ?_
  ·obtain ⟨c0, c1, _⟩ := (unhide PH).head; have E38 := E.tmp 38 _ rfl; clear E; clear PH KP hN; go_simp
  clear K6
  refine lM K7 fun a8 K8 => ?_
  clear K7
  refine lM K8 fun a9 K9 => ?_
  clear K8
  refine lT (zp g (r * 14)) w K9 (want_none rfl) (fun ev E => ?_) fun a10 K10 => ?_
  ·have E39 := E.tmp 39 _ rfl; have E40 := E.tmp 40 _ rfl; clear E; clear PH KP hN; go_simp
  clear K9
  refine lF K10 FA75_0 fun a11 K11 => ?_
  clear K10
  obtain ⟨sk, _, _, _, _, _, _, _, _, _, _, _, _, _⟩ := (unhide PH).slot hT
  obtain ⟨fk, _, _, _, _, _, _, _, _, _, _, _, _, _⟩ := (unhide PH).soft hT
  refine lstore (w' := w.setCell ⟨g, r * 14, none⟩ (zi t)) K11 rfl (want_none rfl) (fun ev E => ?_) ?_
  ·have E41 := E.tmp 41 _ rfl; have E43 := E.tmp 43 _ rfl; clear E; clear PH KP hN; go_simp
  clear sk fk
  have P1 := (unhide PH).put (t := r) hT 0 (by omega) { S r with up := t } (zi t) rfl
  have Q1 := (unhide KP).cellB (r * 14) (zi t)
  clear PH KP
  have PH := hide P1
  have KP := hide Q1
  clear P1 Q1
  generalize w.setCell ⟨g, r * 14, none⟩ (zi t) = W1 at *
  refine wpList_nil ?_
  refine hN _ _ (K11.less ⟨rfl, rfl, rfl, rfl, trivial⟩) ?_ (unhide KP)
  rw [upS, if_neg h0]
  exact unhide PH
set_option maxHeartbeats 4000000 in
theorem hold_any {p g n cap room t l r : Nat} {S : Ss} {w : World} (h : Pool w p g n cap room S) (ht : t < n) (hl : l < n) (hr : r < n) (hlt : l ≠ t) (hrt : r ≠ t) (hb : Gbd (besideS S t l r) t) :
  Calls Try.prog 81 #[zp p 0, zi t, zi l, zi r] w fun e w' => e = .returned (.tuple #[]) /\ Pool w' p g n cap room (holdS S t l r) /\ Keep [g] w w' := by
 have PH := hide h
 have KP := hide (Keep.refl [g] w)
 have HB := hide hb
 clear h hb
 have e1 : (0 : Int) <= (t : Int) := by omega
 have e2 : (t : Int) < (n : Int) := by omega
 have e3 : (0 : Int) <= (l : Int) := by omega
 have e4 : (l : Int) < (n : Int) := by omega
 have e5 : (0 : Int) <= (r : Int) := by omega
 have e6 : (r : Int) < (n : Int) := by omega
 refine callsK (n := 47) (L := [(0, zp p 0), (1, zi t), (2, zi l), (3, zi r)]) Try.func81 rfl Try.ntmps81 rfl rfl (fun a0 K0 => ?_)
 refine seqR ?_
 refine lM K0 fun a1 K1 => ?_
 refine lN K1 fun a2 K2 => ?_
 clear K1
 refine lF K2 FA66_1 fun a3 K3 => ?_
 clear K2
 refine lT (.slice (some ⟨g, 0, none⟩) n cap) w K3 (want_none rfl) (fun ev E => ?_) fun a4 K4 => ?_
 ·obtain ⟨c0, c1, _⟩ := (unhide PH).head; have E10 := E.tmp 10 _ rfl; clear E; clear PH KP HB; go_simp
 clear K3
 refine lM K4 fun a5 K5 => ?_
 clear K4
 refine lM K5 fun a6 K6 => ?_
 clear K5
 refine lT (zp g (t * 14)) w K6 (want_none rfl) (fun ev E => ?_) fun a7 K7 => ?_
 ·have E11 := E.tmp 11 _ rfl; have E12 := E.tmp 12 _ rfl; clear E; clear PH KP HB; go_simp
 clear K6
 refine lF K7 FA75_1 fun a8 K8 => ?_
 clear K7
 obtain ⟨_, sk, _, _, _, _, _, _, _, _, _, _, _, _⟩ := (unhide PH).slot ht
 obtain ⟨_, fk, _, _, _, _, _, _, _, _, _, _, _, _⟩ := (unhide PH).soft ht
 refine lstore (w' := w.setCell ⟨g, t * 14 + 1, none⟩ (zi l)) K8 rfl (want_none rfl) (fun ev E => ?_) ?_
 ·have E13 := E.tmp 13 _ rfl; have E15 := E.tmp 15 _ rfl; clear E; clear PH KP HB; go_simp
 clear sk fk
 have P1 := (unhide PH).put (t := t) ht 1 (by omega) { S t with l := l } (zi l) rfl
 have Q1 := (unhide KP).cellB (t * 14 + 1) (zi l)
 clear PH KP
 have PH := hide P1
 have KP := hide Q1
 clear P1 Q1
 generalize w.setCell ⟨g, t * 14 + 1, none⟩ (zi l) = W1 at *
 refine nilN ?_
 have K10 : Kn _ 47 [(0, zp p 0), (1, zi t), (2, zi l), (3, zi r)] := K8.less ⟨rfl, rfl, rfl, rfl, trivial⟩
 clear K8
 refine seqR ?_
 refine lM K10 fun a11 K11 => ?_
 clear K10
 refine lN K11 fun a12 K12 => ?_
 clear K11
 refine lF K12 FA66_1 fun a13 K13 => ?_
 clear K12
 refine lT (.slice (some ⟨g, 0, none⟩) n cap) W1 K13 (want_none rfl) (fun ev E => ?_) fun a14 K14 => ?_
 ·obtain ⟨c0, c1, _⟩ := (unhide PH).head; have E18 := E.tmp 18 _ rfl; clear E; clear PH KP HB; go_simp
 clear K13
 refine lM K14 fun a15 K15 => ?_
 clear K14
 refine lM K15 fun a16 K16 => ?_
 clear K15
 refine lT (zp g (t * 14)) W1 K16 (want_none rfl) (fun ev E => ?_) fun a17 K17 => ?_
 ·have E19 := E.tmp 19 _ rfl; have E20 := E.tmp 20 _ rfl; clear E; clear PH KP HB; go_simp
 clear K16
 refine lF K17 FA75_2 fun a18 K18 => ?_
 clear K17
 obtain ⟨_, _, sk, _, _, _, _, _, _, _, _, _, _, _⟩ := (unhide PH).slot ht
 obtain ⟨_, _, fk, _, _, _, _, _, _, _, _, _, _, _⟩ := (unhide PH).soft ht
 refine lstore (w' := W1.setCell ⟨g, t * 14 + 2, none⟩ (zi r)) K18 rfl (want_none rfl) (fun ev E => ?_) ?_
 ·have E21 := E.tmp 21 _ rfl; have E23 := E.tmp 23 _ rfl; clear E; clear PH KP HB; go_simp
 clear sk fk
 have P1 := (unhide PH).put (t := t) ht 2 (by omega) { S t with l := l, r := r } (zi r) (by rw [upd_same]; rfl)
 have Q1 := (unhide KP).cellB (t * 14 + 2) (zi r)
 clear PH KP
 have PH := hide P1
 have KP := hide Q1
 clear P1 Q1
 generalize W1.setCell ⟨g, t * 14 + 2, none⟩ (zi r) = W2 at *
 refine nilN ?_
 have K20 : Kn _ 47 [(0, zp p 0), (1, zi t), (2, zi l), (3, zi r)] := K18.less ⟨rfl, rfl, rfl, rfl, trivial⟩
 clear K18
 have hE : upd (upd S t { S t with l := l }) t { S t with l := l, r := r } = upd S t { S t with l := l, r := r } := by
  funext j
  by_cases hj : j = t
  ·subst hj; simp [upd]
  ·simp [upd, hj]
 rw [hE] at PH
 clear hE
 obtain ⟨S1, hS1⟩ : ∃ z, z = upd S t { S t with l := l, r := r } := ⟨_, rfl⟩
 rw [← hS1] at PH
 refine wp_seq (i81l K20 (unhide PH) (unhide KP) ht hl (fun a1 V1 K1 P1 Q1 => ?_))
 show Code.wp _ _ _ _ _
 refine wp_seq (i81r K1 P1 Q1 ht hr (fun a2 V2 K2 P2 Q2 => ?_))
 show Code.wp _ _ _ _ _
 rw [hS1] at P2
 clear PH KP
 have PH := hide (show Pool V2 p g n cap room (besideS S t l r) from P2)
 have KP := hide Q2
 clear P1 Q1 P2 Q2 K1 hS1 S1
 have hsame := besideS_same S hlt hrt
 refine lastN ?_
 refine wp_region_lit ?_
 refine lM K2 fun a31 K31 => ?_
 clear K2
 refine lM K31 fun a32 K32 => ?_
 clear K31
 refine lcall (f := 63) (args := #[zp p 0, zi t]) K32 rfl rfl (want_none rfl) (fun ev E => ?_) (gather_any (unhide PH) ht (by rw [hsame]; exact hl) (by rw [hsame]; exact hr) (by rw [hsame]; exact hlt) (by rw [hsame]; exact hrt) (unhide HB)) (fun e V3 hR => ?_)
 ·have EF := E.func; have E44 := E.tmp 44 _ rfl; have E45 := E.tmp 45 _ rfl; clear E; clear PH KP HB hsame; go_simp
 obtain ⟨rfl, P3, Q3⟩ := hR
 refine ⟨_, rfl, fun a33 K33 => ?_⟩
 clear K32
 refine wpList_nil ?_
 exact ⟨K33.defers, .tuple #[], results_none rfl _ _ _, rfl, P3, (unhide KP).tr Q3⟩
def O89_8_0 : Oper := ⟨some 69, .move (.tmp 0), 23, "path.go:33", #[], none⟩
def O89_8_1 : Oper := ⟨some 70, .move (.tmp 4), 3, "path.go:33", #[], none⟩
def O89_8_2 : Oper := ⟨some 71, .move (.tmp 0), 23, "path.go:33", #[], none⟩
def O89_8_3 : Oper := ⟨some 72, .nilCheck (.tmp 71), 0, "path.go:33", #[⟨2, .data⟩], none⟩
def O89_8_4 : Oper := ⟨some 73, .fieldAddr 66 (.tmp 72) 1, 0, "path.go:33", #[⟨3, .data⟩], none⟩
def O89_8_5 : Oper := ⟨some 74, .load 64 (.tmp 73), 64, "path.go:33", #[⟨4, .data⟩], none⟩
def O89_8_6 : Oper := ⟨some 75, .move (.tmp 1), 3, "path.go:33", #[], none⟩
def O89_8_7 : Oper := ⟨some 76, .indexAddr 64 (.tmp 74) (.tmp 75), 0, "path.go:33", #[⟨5, .data⟩, ⟨6, .data⟩], none⟩
def O89_8_8 : Oper := ⟨some 77, .fieldAddr 75 (.tmp 76) 2, 0, "path.go:33", #[⟨7, .data⟩], none⟩
def O89_8_9 : Oper := ⟨some 78, .load 3 (.tmp 77), 3, "path.go:33", #[⟨8, .data⟩], none⟩
def O89_8_10 : Oper := ⟨some 79, .move (.tmp 0), 23, "path.go:33", #[], none⟩
def O89_8_11 : Oper := ⟨some 80, .nilCheck (.tmp 79), 0, "path.go:33", #[⟨10, .data⟩], none⟩
def O89_8_12 : Oper := ⟨some 81, .fieldAddr 66 (.tmp 80) 1, 0, "path.go:33", #[⟨11, .data⟩], none⟩
def O89_8_13 : Oper := ⟨some 82, .load 64 (.tmp 81), 64, "path.go:33", #[⟨12, .data⟩], none⟩
def O89_8_14 : Oper := ⟨some 83, .move (.tmp 4), 3, "path.go:33", #[], none⟩
def O89_8_15 : Oper := ⟨some 84, .indexAddr 64 (.tmp 82) (.tmp 83), 0, "path.go:33", #[⟨13, .data⟩, ⟨14, .data⟩], none⟩
def O89_8_16 : Oper := ⟨some 85, .fieldAddr 75 (.tmp 84) 2, 0, "path.go:33", #[⟨15, .data⟩], none⟩
def O89_8_17 : Oper := ⟨some 86, .load 3 (.tmp 85), 3, "path.go:33", #[⟨16, .data⟩], none⟩
def O89_8_18 : Oper := ⟨some 87, .call { callee := (.value (.func 81)), args := #[(.tmp 69), (.tmp 70), (.tmp 78), (.tmp 86)], argTypes := #[23, 3, 3, 3] }, 0, "path.go:33", #[⟨0, .data⟩, ⟨1, .data⟩, ⟨9, .data⟩, ⟨17, .data⟩], none⟩
def OPS89_8 : List Oper := [O89_8_0, O89_8_1, O89_8_2, O89_8_3, O89_8_4, O89_8_5, O89_8_6, O89_8_7, O89_8_8, O89_8_9, O89_8_10, O89_8_11, O89_8_12, O89_8_13, O89_8_14, O89_8_15, O89_8_16, O89_8_17, O89_8_18]
def O89_10_0 : Oper := ⟨some 100, .move (.tmp 0), 23, "path.go:36", #[], none⟩
def O89_10_1 : Oper := ⟨some 101, .move (.tmp 4), 3, "path.go:36", #[], none⟩
def O89_10_2 : Oper := ⟨some 102, .move (.tmp 0), 23, "path.go:36", #[], none⟩
def O89_10_3 : Oper := ⟨some 103, .nilCheck (.tmp 102), 0, "path.go:36", #[⟨2, .data⟩], none⟩
def O89_10_4 : Oper := ⟨some 104, .fieldAddr 66 (.tmp 103) 1, 0, "path.go:36", #[⟨3, .data⟩], none⟩
def O89_10_5 : Oper := ⟨some 105, .load 64 (.tmp 104), 64, "path.go:36", #[⟨4, .data⟩], none⟩
def O89_10_6 : Oper := ⟨some 106, .move (.tmp 4), 3, "path.go:36", #[], none⟩
def O89_10_7 : Oper := ⟨some 107, .indexAddr 64 (.tmp 105) (.tmp 106), 0, "path.go:36", #[⟨5, .data⟩, ⟨6, .data⟩], none⟩
def O89_10_8 : Oper := ⟨some 108, .fieldAddr 75 (.tmp 107) 1, 0, "path.go:36", #[⟨7, .data⟩], none⟩
def O89_10_9 : Oper := ⟨some 109, .load 3 (.tmp 108), 3, "path.go:36", #[⟨8, .data⟩], none⟩
def O89_10_10 : Oper := ⟨some 110, .move (.tmp 0), 23, "path.go:36", #[], none⟩
def O89_10_11 : Oper := ⟨some 111, .nilCheck (.tmp 110), 0, "path.go:36", #[⟨10, .data⟩], none⟩
def O89_10_12 : Oper := ⟨some 112, .fieldAddr 66 (.tmp 111) 1, 0, "path.go:36", #[⟨11, .data⟩], none⟩
def O89_10_13 : Oper := ⟨some 113, .load 64 (.tmp 112), 64, "path.go:36", #[⟨12, .data⟩], none⟩
def O89_10_14 : Oper := ⟨some 114, .move (.tmp 1), 3, "path.go:36", #[], none⟩
def O89_10_15 : Oper := ⟨some 115, .indexAddr 64 (.tmp 113) (.tmp 114), 0, "path.go:36", #[⟨13, .data⟩, ⟨14, .data⟩], none⟩
def O89_10_16 : Oper := ⟨some 116, .fieldAddr 75 (.tmp 115) 1, 0, "path.go:36", #[⟨15, .data⟩], none⟩
def O89_10_17 : Oper := ⟨some 117, .load 3 (.tmp 116), 3, "path.go:36", #[⟨16, .data⟩], none⟩
def O89_10_18 : Oper := ⟨some 118, .call { callee := (.value (.func 81)), args := #[(.tmp 100), (.tmp 101), (.tmp 109), (.tmp 117)], argTypes := #[23, 3, 3, 3] }, 0, "path.go:36", #[⟨0, .data⟩, ⟨1, .data⟩, ⟨9, .data⟩, ⟨17, .data⟩], none⟩
def OPS89_10 : List Oper := [O89_10_0, O89_10_1, O89_10_2, O89_10_3, O89_10_4, O89_10_5, O89_10_6, O89_10_7, O89_10_8, O89_10_9, O89_10_10, O89_10_11, O89_10_12, O89_10_13, O89_10_14, O89_10_15, O89_10_16, O89_10_17, O89_10_18]
set_option maxHeartbeats 4000000 in
theorem l89 {p g n cap room t u o : Nat} {S : Ss} {Q : Exit -> Act -> World -> Prop} {a0 : Act} {w0 w : World} (K0 : Kn a0 139 [(0, zp p 0), (1, zi t), (4, zi u), (5, zi o)]) (h : Pool w p g n cap room S) (hk : Keep [g] w0 w) (ht : t < n) (hu : u < n) (htu : t ≠ u)
  (x1 : (S t).r < n) (x2 : (S u).r < n) (x3 : (S t).r ≠ u) (x4 : (S u).r ≠ u) (hb : Gbd (besideS S u (S t).r (S u).r) u) {S2 : Ss} (hS2 : S2 = holdS S u (S t).r (S u).r) (y1 : (S2 t).l < n) (y2 : (S2 t).l ≠ t) (hb2 : Gbd (besideS S2 t (S2 t).l u) t)
  (hN : ∀ a' W, Kn a' 139 [(0, zp p 0), (1, zi t), (4, zi u), (5, zi o)] -> Pool W p g n cap room (holdS S2 t (S2 t).l u) -> Keep [g] w0 W -> Q .normal a' W) : (Code.seq (Code.region 8 OPS89_8.toArray true) (Code.region 9 (rg [1, 1, 1, 0, 1, 0, 1] Try.f89).toArray false)).wp Try.prog Q a0 w := by
 have PH := hide h.drew
 have KP := hide ((hk.drew))
 have HB := hide (And.intro hb hb2)
 clear h hk hb hb2
 have e1 : (0 : Int) <= (t : Int) := by omega
 have e2 : (t : Int) < (n : Int) := by omega
 have e3 : (0 : Int) <= (u : Int) := by omega
 have e4 : (u : Int) < (n : Int) := by omega
 refine seqN ?_
 refine wp_region_still_tail 18 (by kernel_rfl) (by kernel_rfl) ?_
 change wpStill _ _ w.drew _ _ _
 refine stake (o := O89_8_0) (v := zp p 0) K0 rfl rfl (want_none rfl) (fun ev E => ?_) (fun a1 K1 => ?_)
 ·clear hN PH KP HB; have E0 := E.tmp 0 _ rfl; clear E; unfold O89_8_0; go_simp
 refine stake (o := O89_8_1) (v := zi u) K1 rfl rfl (want_none rfl) (fun ev E => ?_) (fun a2 K2 => ?_)
 ·clear hN PH KP HB; have E4 := E.tmp 4 _ rfl; clear E; unfold O89_8_1; go_simp
 clear K1
 refine stake (o := O89_8_2) (v := zp p 0) K2 rfl rfl (want_none rfl) (fun ev E => ?_) (fun a3 K3 => ?_)
 ·clear hN PH KP HB; have E0 := E.tmp 0 _ rfl; clear E; unfold O89_8_2; go_simp
 clear K2
 refine stake (o := O89_8_3) (v := zp p 0) K3 rfl rfl (want_none rfl) (fun ev E => ?_) (fun a4 K4 => ?_)
 ·clear hN PH KP HB; have E71 := E.tmp 71 _ rfl; clear E; unfold O89_8_3; go_simp
 clear K3
 refine stake (o := O89_8_4) (v := zp p 1) K4 rfl rfl (want_none rfl) (fun ev E => ?_) (fun a5 K5 => ?_)
 ·clear hN PH KP HB; have E72 := E.tmp 72 _ rfl; clear E; unfold O89_8_4; go_simp
 clear K4
 refine stake (o := O89_8_5) (v := .slice (some ⟨g, 0, none⟩) n cap) K5 rfl rfl (want_none rfl) (fun ev E => ?_) (fun a6 K6 => ?_)
 ·obtain ⟨c0, c1, _⟩ := (unhide PH).head; clear hN PH KP HB; have E73 := E.tmp 73 _ rfl; clear E; unfold O89_8_5; go_simp
 clear K5
 refine stake (o := O89_8_6) (v := zi t) K6 rfl rfl (want_none rfl) (fun ev E => ?_) (fun a7 K7 => ?_)
 ·clear hN PH KP HB; have E1 := E.tmp 1 _ rfl; clear E; unfold O89_8_6; go_simp
 clear K6
 refine stake (o := O89_8_7) (v := zp g (t * 14)) K7 rfl rfl (want_none rfl) (fun ev E => ?_) (fun a8 K8 => ?_)
 ·clear hN PH KP HB; have E74 := E.tmp 74 _ rfl; have E75 := E.tmp 75 _ rfl; clear E; unfold O89_8_7; go_simp
 clear K7
 refine stake (o := O89_8_8) (v := zp g (t * 14 + 2)) K8 rfl rfl (want_none rfl) (fun ev E => ?_) (fun a9 K9 => ?_)
 ·clear hN PH KP HB; have E76 := E.tmp 76 _ rfl; clear E; unfold O89_8_8; go_simp
 clear K8
 refine stake (o := O89_8_9) (v := zi ((S t).r : Int)) K9 rfl rfl (want_none rfl) (fun ev E => ?_) (fun a10 K10 => ?_)
 ·obtain ⟨s0, s1, s2, s3, s4, s5, s6, s7, s8, s9, s10, s11, s12, s13⟩ := (unhide PH).slot (t := t) (by assumption); clear hN PH KP HB; have E77 := E.tmp 77 _ rfl; clear E; unfold O89_8_9; go_simp
 clear K9
 refine stake (o := O89_8_10) (v := zp p 0) K10 rfl rfl (want_none rfl) (fun ev E => ?_) (fun a11 K11 => ?_)
 ·clear hN PH KP HB; have E0 := E.tmp 0 _ rfl; clear E; unfold O89_8_10; go_simp
 clear K10
 refine stake (o := O89_8_11) (v := zp p 0) K11 rfl rfl (want_none rfl) (fun ev E => ?_) (fun a12 K12 => ?_)
 ·clear hN PH KP HB; have E79 := E.tmp 79 _ rfl; clear E; unfold O89_8_11; go_simp
 clear K11
 refine stake (o := O89_8_12) (v := zp p 1) K12 rfl rfl (want_none rfl) (fun ev E => ?_) (fun a13 K13 => ?_)
 ·clear hN PH KP HB; have E80 := E.tmp 80 _ rfl; clear E; unfold O89_8_12; go_simp
 clear K12
 refine stake (o := O89_8_13) (v := .slice (some ⟨g, 0, none⟩) n cap) K13 rfl rfl (want_none rfl) (fun ev E => ?_) (fun a14 K14 => ?_)
 ·obtain ⟨c0, c1, _⟩ := (unhide PH).head; clear hN PH KP HB; have E81 := E.tmp 81 _ rfl; clear E; unfold O89_8_13; go_simp
 clear K13
 refine stake (o := O89_8_14) (v := zi u) K14 rfl rfl (want_none rfl) (fun ev E => ?_) (fun a15 K15 => ?_)
 ·clear hN PH KP HB; have E4 := E.tmp 4 _ rfl; clear E; unfold O89_8_14; go_simp
 clear K14
 refine stake (o := O89_8_15) (v := zp g (u * 14)) K15 rfl rfl (want_none rfl) (fun ev E => ?_) (fun a16 K16 => ?_)
 ·clear hN PH KP HB; have E82 := E.tmp 82 _ rfl; have E83 := E.tmp 83 _ rfl; clear E; unfold O89_8_15; go_simp
 clear K15
 refine stake (o := O89_8_16) (v := zp g (u * 14 + 2)) K16 rfl rfl (want_none rfl) (fun ev E => ?_) (fun a17 K17 => ?_)
 ·clear hN PH KP HB; have E84 := E.tmp 84 _ rfl; clear E; unfold O89_8_16; go_simp
 clear K16
 refine stake (o := O89_8_17) (v := zi ((S u).r : Int)) K17 rfl rfl (want_none rfl) (fun ev E => ?_) (fun a18 K18 => ?_)
 ·obtain ⟨s0, s1, s2, s3, s4, s5, s6, s7, s8, s9, s10, s11, s12, s13⟩ := (unhide PH).slot (t := u) (by assumption); clear hN PH KP HB; have E85 := E.tmp 85 _ rfl; clear E; unfold O89_8_17; go_simp
 clear K17
 refine wpStill_nil ?_
 change wpList _ _ _ [_] _ w.drew
 generalize w.drew = V at *
 refine lcall (f := 81) (args := #[zp p 0, zi u, zi ((S t).r : Int), zi ((S u).r : Int)]) K18 rfl rfl (want_none rfl) (fun ev E => ?_) (hold_any (unhide PH) hu x1 x2 x3 x4 (unhide HB).1) (fun e W1 hR => ?_)
 ·have EF := E.func; have E69 := E.tmp 69 _ rfl; have E70 := E.tmp 70 _ rfl; have E78 := E.tmp 78 _ rfl; have E86 := E.tmp 86 _ rfl; clear E; unfold O89_8_18; clear hN PH KP HB; go_simp
 obtain ⟨rfl, P1, Q1⟩ := hR
 rw [← hS2] at P1
 clear PH
 have PH := hide P1
 have Q2 := hide ((unhide KP).tr Q1)
 clear KP P1 Q1
 have KP := Q2
 clear Q2
 refine ⟨_, rfl, fun a19 K19 => ?_⟩
 clear K18
 refine nilN ?_
 have K20 : Kn _ 139 [(0, zp p 0), (1, zi t), (4, zi u), (5, zi o)] := K19.less ⟨rfl, rfl, rfl, rfl, trivial⟩
 clear K19
 refine lastN ?_
 refine wp_region_lit ?_
 refine lM K20 fun a21 K21 => ?_
 clear K20
 refine lM K21 fun a22 K22 => ?_
 clear K21
 refine lM K22 fun a23 K23 => ?_
 clear K22
 refine lN K23 fun a24 K24 => ?_
 clear K23
 refine lF K24 FA66_1 fun a25 K25 => ?_
 clear K24
 refine lT (.slice (some ⟨g, 0, none⟩) n cap) W1 K25 (want_none rfl) (fun ev E => ?_) fun a26 K26 => ?_
 ·obtain ⟨c0, c1, _⟩ := (unhide PH).head; have E92 := E.tmp 92 _ rfl; clear E; clear hN PH KP HB; go_simp
 clear K25
 refine lM K26 fun a27 K27 => ?_
 clear K26
 refine lT (zp g (t * 14)) W1 K27 (want_none rfl) (fun ev E => ?_) fun a28 K28 => ?_
 ·have E93 := E.tmp 93 _ rfl; have E94 := E.tmp 94 _ rfl; clear E; clear hN PH KP HB; go_simp
 clear K27
 refine lF K28 FA75_1 fun a29 K29 => ?_
 clear K28
 refine lT (zi ((S2 t).l : Int)) W1 K29 (want_none rfl) (fun ev E => ?_) fun a30 K30 => ?_
 ·obtain ⟨s0, s1, s2, s3, s4, s5, s6, s7, s8, s9, s10, s11, s12, s13⟩ := (unhide PH).slot (t := t) (by assumption); have E96 := E.tmp 96 _ rfl; clear E; clear hN PH KP HB; go_simp
 clear K29
 refine lM K30 fun a31 K31 => ?_
 clear K30
 refine lcall (f := 81) (args := #[zp p 0, zi t, zi ((S2 t).l : Int), zi u]) K31 rfl rfl (want_none rfl) (fun ev E => ?_) (hold_any (unhide PH) ht y1 hu y2 (fun e => htu e.symm) (unhide HB).2) (fun e W2 hR => ?_)
 ·have EF := E.func; have E88 := E.tmp 88 _ rfl; have E89 := E.tmp 89 _ rfl; have E97 := E.tmp 97 _ rfl; have E98 := E.tmp 98 _ rfl; clear E; clear hN PH KP HB; go_simp
 obtain ⟨rfl, P1, Q1⟩ := hR
 have Q2 := hide ((unhide KP).tr Q1)
 clear PH KP Q1
 have PH := hide P1
 have KP := Q2
 clear Q2 P1
 refine ⟨_, rfl, fun a32 K32 => ?_⟩
 clear K31
 refine wpList_nil ?_
 exact hN _ _ (K32.less ⟨rfl, rfl, rfl, rfl, trivial⟩) (unhide PH) (unhide KP)
set_option maxHeartbeats 4000000 in
theorem r89 {p g n cap room t u o : Nat} {S : Ss} {Q : Exit -> Act -> World -> Prop} {a0 : Act} {w0 w : World} (K0 : Kn a0 139 [(0, zp p 0), (1, zi t), (4, zi u), (5, zi o)]) (h : Pool w p g n cap room S) (hk : Keep [g] w0 w) (ht : t < n) (hu : u < n) (htu : t ≠ u)
  (x1 : (S u).l < n) (x2 : (S t).l < n) (x3 : (S u).l ≠ u) (x4 : (S t).l ≠ u) (hb : Gbd (besideS S u (S u).l (S t).l) u) {S2 : Ss} (hS2 : S2 = holdS S u (S u).l (S t).l) (y1 : (S2 t).r < n) (y2 : (S2 t).r ≠ t) (hb2 : Gbd (besideS S2 t u (S2 t).r) t)
  (hN : ∀ a' W, Kn a' 139 [(0, zp p 0), (1, zi t), (4, zi u), (5, zi o)] -> Pool W p g n cap room (holdS S2 t u (S2 t).r) -> Keep [g] w0 W -> Q .normal a' W) : (Code.seq (Code.region 10 OPS89_10.toArray true) (Code.region 11 (rg [1, 1, 1, 0, 1, 1, 1] Try.f89).toArray false)).wp Try.prog Q a0 w := by
 have PH := hide h.drew
 have KP := hide ((hk.drew))
 have HB := hide (And.intro hb hb2)
 clear h hk hb hb2
 have e1 : (0 : Int) <= (t : Int) := by omega
 have e2 : (t : Int) < (n : Int) := by omega
 have e3 : (0 : Int) <= (u : Int) := by omega
 have e4 : (u : Int) < (n : Int) := by omega
 refine seqN ?_
 refine wp_region_still_tail 18 (by kernel_rfl) (by kernel_rfl) ?_
 change wpStill _ _ w.drew _ _ _
 refine stake (o := O89_10_0) (v := zp p 0) K0 rfl rfl (want_none rfl) (fun ev E => ?_) (fun a1 K1 => ?_)
 ·clear hN PH KP HB; have E0 := E.tmp 0 _ rfl; clear E; unfold O89_10_0; go_simp
 refine stake (o := O89_10_1) (v := zi u) K1 rfl rfl (want_none rfl) (fun ev E => ?_) (fun a2 K2 => ?_)
 ·clear hN PH KP HB; have E4 := E.tmp 4 _ rfl; clear E; unfold O89_10_1; go_simp
 clear K1
 refine stake (o := O89_10_2) (v := zp p 0) K2 rfl rfl (want_none rfl) (fun ev E => ?_) (fun a3 K3 => ?_)
 ·clear hN PH KP HB; have E0 := E.tmp 0 _ rfl; clear E; unfold O89_10_2; go_simp
 clear K2
 refine stake (o := O89_10_3) (v := zp p 0) K3 rfl rfl (want_none rfl) (fun ev E => ?_) (fun a4 K4 => ?_)
 ·clear hN PH KP HB; have E102 := E.tmp 102 _ rfl; clear E; unfold O89_10_3; go_simp
 clear K3
 refine stake (o := O89_10_4) (v := zp p 1) K4 rfl rfl (want_none rfl) (fun ev E => ?_) (fun a5 K5 => ?_)
 ·clear hN PH KP HB; have E103 := E.tmp 103 _ rfl; clear E; unfold O89_10_4; go_simp
 clear K4
 refine stake (o := O89_10_5) (v := .slice (some ⟨g, 0, none⟩) n cap) K5 rfl rfl (want_none rfl) (fun ev E => ?_) (fun a6 K6 => ?_)
 ·obtain ⟨c0, c1, _⟩ := (unhide PH).head; clear hN PH KP HB; have E104 := E.tmp 104 _ rfl; clear E; unfold O89_10_5; go_simp
 clear K5
 refine stake (o := O89_10_6) (v := zi u) K6 rfl rfl (want_none rfl) (fun ev E => ?_) (fun a7 K7 => ?_)
 ·clear hN PH KP HB; have E4 := E.tmp 4 _ rfl; clear E; unfold O89_10_6; go_simp
 clear K6
 refine stake (o := O89_10_7) (v := zp g (u * 14)) K7 rfl rfl (want_none rfl) (fun ev E => ?_) (fun a8 K8 => ?_)
 ·clear hN PH KP HB; have E105 := E.tmp 105 _ rfl; have E106 := E.tmp 106 _ rfl; clear E; unfold O89_10_7; go_simp
 clear K7
 refine stake (o := O89_10_8) (v := zp g (u * 14 + 1)) K8 rfl rfl (want_none rfl) (fun ev E => ?_) (fun a9 K9 => ?_)
 ·clear hN PH KP HB; have E107 := E.tmp 107 _ rfl; clear E; unfold O89_10_8; go_simp
 clear K8
 refine stake (o := O89_10_9) (v := zi ((S u).l : Int)) K9 rfl rfl (want_none rfl) (fun ev E => ?_) (fun a10 K10 => ?_)
 ·obtain ⟨s0, s1, s2, s3, s4, s5, s6, s7, s8, s9, s10, s11, s12, s13⟩ := (unhide PH).slot (t := u) (by assumption); clear hN PH KP HB; have E108 := E.tmp 108 _ rfl; clear E; unfold O89_10_9; go_simp
 clear K9
 refine stake (o := O89_10_10) (v := zp p 0) K10 rfl rfl (want_none rfl) (fun ev E => ?_) (fun a11 K11 => ?_)
 ·clear hN PH KP HB; have E0 := E.tmp 0 _ rfl; clear E; unfold O89_10_10; go_simp
 clear K10
 refine stake (o := O89_10_11) (v := zp p 0) K11 rfl rfl (want_none rfl) (fun ev E => ?_) (fun a12 K12 => ?_)
 ·clear hN PH KP HB; have E110 := E.tmp 110 _ rfl; clear E; unfold O89_10_11; go_simp
 clear K11
 refine stake (o := O89_10_12) (v := zp p 1) K12 rfl rfl (want_none rfl) (fun ev E => ?_) (fun a13 K13 => ?_)
 ·clear hN PH KP HB; have E111 := E.tmp 111 _ rfl; clear E; unfold O89_10_12; go_simp
 clear K12
 refine stake (o := O89_10_13) (v := .slice (some ⟨g, 0, none⟩) n cap) K13 rfl rfl (want_none rfl) (fun ev E => ?_) (fun a14 K14 => ?_)
 ·obtain ⟨c0, c1, _⟩ := (unhide PH).head; clear hN PH KP HB; have E112 := E.tmp 112 _ rfl; clear E; unfold O89_10_13; go_simp
 clear K13
 refine stake (o := O89_10_14) (v := zi t) K14 rfl rfl (want_none rfl) (fun ev E => ?_) (fun a15 K15 => ?_)
 ·clear hN PH KP HB; have E1 := E.tmp 1 _ rfl; clear E; unfold O89_10_14; go_simp
 clear K14
 refine stake (o := O89_10_15) (v := zp g (t * 14)) K15 rfl rfl (want_none rfl) (fun ev E => ?_) (fun a16 K16 => ?_)
 ·clear hN PH KP HB; have E113 := E.tmp 113 _ rfl; have E114 := E.tmp 114 _ rfl; clear E; unfold O89_10_15; go_simp
 clear K15
 refine stake (o := O89_10_16) (v := zp g (t * 14 + 1)) K16 rfl rfl (want_none rfl) (fun ev E => ?_) (fun a17 K17 => ?_)
 ·clear hN PH KP HB; have E115 := E.tmp 115 _ rfl; clear E; unfold O89_10_16; go_simp
 clear K16
 refine stake (o := O89_10_17) (v := zi ((S t).l : Int)) K17 rfl rfl (want_none rfl) (fun ev E => ?_) (fun a18 K18 => ?_)
 ·obtain ⟨s0, s1, s2, s3, s4, s5, s6, s7, s8, s9, s10, s11, s12, s13⟩ := (unhide PH).slot (t := t) (by assumption); clear hN PH KP HB; have E116 := E.tmp 116 _ rfl; clear E; unfold O89_10_17; go_simp
 clear K17
 refine wpStill_nil ?_
 change wpList _ _ _ [_] _ w.drew
 generalize w.drew = V at *
 refine lcall (f := 81) (args := #[zp p 0, zi u, zi ((S u).l : Int), zi ((S t).l : Int)]) K18 rfl rfl (want_none rfl) (fun ev E => ?_) (hold_any (unhide PH) hu x1 x2 x3 x4 (unhide HB).1) (fun e W1 hR => ?_)
 ·have EF := E.func; have E100 := E.tmp 100 _ rfl; have E101 := E.tmp 101 _ rfl; have E109 := E.tmp 109 _ rfl; have E117 := E.tmp 117 _ rfl; clear E; unfold O89_10_18; clear hN PH KP HB; go_simp
 obtain ⟨rfl, P1, Q1⟩ := hR
 rw [← hS2] at P1
 clear PH
 have PH := hide P1
 have Q2 := hide ((unhide KP).tr Q1)
 clear KP P1 Q1
 have KP := Q2
 clear Q2
 refine ⟨_, rfl, fun a19 K19 => ?_⟩
 clear K18
 refine nilN ?_
 have K20 : Kn _ 139 [(0, zp p 0), (1, zi t), (4, zi u), (5, zi o)] := K19.less ⟨rfl, rfl, rfl, rfl, trivial⟩
 clear K19
 refine lastN ?_
 refine wp_region_lit ?_
 refine lM K20 fun a21 K21 => ?_
 clear K20
 refine lM K21 fun a22 K22 => ?_
 clear K21
 refine lM K22 fun a23 K23 => ?_
 clear K22
 refine lM K23 fun a24 K24 => ?_
 clear K23
 refine lN K24 fun a25 K25 => ?_
 clear K24
 refine lF K25 FA66_1 fun a26 K26 => ?_
 clear K25
 refine lT (.slice (some ⟨g, 0, none⟩) n cap) W1 K26 (want_none rfl) (fun ev E => ?_) fun a27 K27 => ?_
 ·obtain ⟨c0, c1, _⟩ := (unhide PH).head; have E124 := E.tmp 124 _ rfl; clear E; clear hN PH KP HB; go_simp
 clear K26
 refine lM K27 fun a28 K28 => ?_
 clear K27
 refine lT (zp g (t * 14)) W1 K28 (want_none rfl) (fun ev E => ?_) fun a29 K29 => ?_
 ·have E125 := E.tmp 125 _ rfl; have E126 := E.tmp 126 _ rfl; clear E; clear hN PH KP HB; go_simp
 clear K28
 refine lF K29 FA75_2 fun a30 K30 => ?_
 clear K29
 refine lT (zi ((S2 t).r : Int)) W1 K30 (want_none rfl) (fun ev E => ?_) fun a31 K31 => ?_
 ·obtain ⟨s0, s1, s2, s3, s4, s5, s6, s7, s8, s9, s10, s11, s12, s13⟩ := (unhide PH).slot (t := t) (by assumption); have E128 := E.tmp 128 _ rfl; clear E; clear hN PH KP HB; go_simp
 clear K30
 refine lcall (f := 81) (args := #[zp p 0, zi t, zi u, zi ((S2 t).r : Int)]) K31 rfl rfl (want_none rfl) (fun ev E => ?_) (hold_any (unhide PH) ht hu y1 (fun e => htu e.symm) y2 (unhide HB).2) (fun e W2 hR => ?_)
 ·have EF := E.func; have E119 := E.tmp 119 _ rfl; have E120 := E.tmp 120 _ rfl; have E121 := E.tmp 121 _ rfl; have E129 := E.tmp 129 _ rfl; clear E; clear hN PH KP HB; go_simp
 obtain ⟨rfl, P1, Q1⟩ := hR
 have Q2 := hide ((unhide KP).tr Q1)
 clear PH KP Q1
 have PH := hide P1
 have KP := Q2
 clear Q2 P1
 refine ⟨_, rfl, fun a32 K32 => ?_⟩
 clear K31
 refine wpList_nil ?_
 exact hN _ _ (K32.less ⟨rfl, rfl, rfl, rfl, trivial⟩) (unhide PH) (unhide KP)
end Go.Proofs.Ytjnkgakajenoaaa

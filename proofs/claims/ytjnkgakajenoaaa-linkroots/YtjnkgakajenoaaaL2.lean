/- The program's forest (part 2 of its contracts and the laws' common texts). -/
import Derived.Test.YtjnkgakajenoaaaL1
/- The program's forest: what waits at a slot is handed on, the whole. -/

namespace Go.Proofs.Ytjnkgakajenoaaa
open Go.RowKit Go.Arb
set_option linter.unusedVariables false
set_option linter.unusedSimpArgs false
set_option maxRecDepth 100000

set_option maxHeartbeats 4000000 in
theorem settle_any {p g n cap room t : Nat} {S S1 : Ss} {w : World} (h : Pool w p g n cap room S) (ht : t < n) (hl : (S t).l < n) (hr : (S t).r < n) (hlt : (S t).l ≠ t) (hrt : (S t).r ≠ t) (hS1 : S1 = settleT S t)
    (hb1 : (S1 t).wa ≠ 0 → (S1 t).l ≠ 0 → Rbd (upd S1 t { S1 t with wa := 0 } (S1 t).l) (S1 t).wa) (hb2 : (S1 t).wa ≠ 0 → (S1 t).r ≠ 0 → Rbd (raiseS (upd S1 t { S1 t with wa := 0 }) (S1 t).l (S1 t).wa (S1 t).r) (S1 t).wa) :
    Calls Try.prog 88 #[.pointer (some ⟨p, 0, none⟩), .int .i64 (t : Int)] w fun e w' => e = .returned (.tuple #[]) ∧ Pool w' p g n cap room (settleS S t) ∧ Keep [g] w w' := by
  have PH := hide h
  have hsame := settleT_same S hlt hrt
  rw [← hS1] at hsame
  have HB := hide (And.intro hb1 hb2)
  clear h hb1 hb2
  have e1 : (0 : Int) ≤ (t : Int) := by omega
  have e2 : (t : Int) < (n : Int) := by omega
  refine callsK (n := 57) (L := [(0, .pointer (some ⟨p, 0, none⟩)), (1, .int .i64 (t : Int))]) Try.func88 rfl Try.ntmps88 rfl rfl (fun a0 K0 => ?_)
  refine seqR ?_
  refine lmv K0 rfl rfl (want_none rfl) rfl rfl (fun a1 K1 => ?_)
  refine lnc K1 rfl rfl (want_none rfl) rfl rfl (fun a2 K2 => ?_)
  clear K1
  refine lfa K2 rfl rfl (want_none rfl) rfl rfl FA66_1 (fun a3 K3 => ?_)
  clear K2
  refine ltake (v := .slice (some ⟨g, 0, none⟩) n cap) (w' := w) K3 rfl rfl (want_none rfl) (fun ev E => ?_) (fun a4 K4 => ?_)
  · obtain ⟨c0, c1, _⟩ := (unhide PH).head; have E8 := E.tmp 8 _ rfl; clear E; clear PH HB hsame; go_simp
  clear K3
  refine lmv K4 rfl rfl (want_none rfl) rfl rfl (fun a5 K5 => ?_)
  clear K4
  refine ltake (v := .pointer (some ⟨g, t * 14, none⟩)) (w' := w) K5 rfl rfl (want_none rfl) (fun ev E => ?_) (fun a6 K6 => ?_)
  · have E9 := E.tmp 9 _ rfl; have E10 := E.tmp 10 _ rfl; clear E; clear PH HB hsame; go_simp
  clear K5
  refine las K6 rfl rfl (want_none rfl) rfl rfl (fun a7 K7 => ?_)
  clear K6
  refine nilN ?_
  refine wp_seq (seqN ?_)
  refine wp_region_lit ?_
  refine lmv K7 rfl rfl (want_none rfl) rfl rfl (fun a8 K8 => ?_)
  clear K7
  refine lnc K8 rfl rfl (want_none rfl) rfl rfl (fun a9 K9 => ?_)
  clear K8
  refine lfa K9 rfl rfl (want_none rfl) rfl rfl FA75_3 (fun a10 K10 => ?_)
  clear K9
  refine ltake (v := .bool (S t).tn) (w' := w) K10 rfl rfl (want_none rfl) (fun ev E => ?_) (fun a11 K11 => ?_)
  · obtain ⟨s0, s1, s2, s3, s4, s5, s6, s7, s8, s9, s10, s11, s12, s13⟩ := (unhide PH).slot (t := t) (by assumption); have E14 := E.tmp 14 _ rfl; clear E; clear PH HB hsame; go_simp
  clear K10
  refine wpList_nil ?_
  have K12 : Kn _ 57 [(0, .pointer (some ⟨p, 0, none⟩)), (4, .pointer (some ⟨g, t * 14, none⟩)), (15, .bool (S t).tn)] := K11.less ⟨rfl, rfl, rfl, trivial⟩
  clear K11
  refine t88 K12 (unhide PH) (Keep.refl [g] w) ht hl hr hlt hrt (fun a1 W1 K1 P1 Q1 => ?_)
  rw [← hS1] at P1
  clear PH
  have PH := hide P1
  have KP := hide Q1
  clear P1 Q1
  show Code.wp _ _ _ _ _
  refine seqR ?_
  refine lmv K1 rfl rfl (want_none rfl) rfl rfl (fun a18 K18 => ?_)
  clear K1
  refine lnc K18 rfl rfl (want_none rfl) rfl rfl (fun a19 K19 => ?_)
  clear K18
  refine lfa K19 rfl rfl (want_none rfl) rfl rfl FA75_5 (fun a20 K20 => ?_)
  clear K19
  refine ltake (v := .int .i64 (S1 t).wa) (w' := W1) K20 rfl rfl (want_none rfl) (fun ev E => ?_) (fun a21 K21 => ?_)
  · obtain ⟨s0, s1, s2, s3, s4, s5, s6, s7, s8, s9, s10, s11, s12, s13⟩ := (unhide PH).slot (t := t) (by assumption); have E33 := E.tmp 33 _ rfl; clear E; clear PH KP HB hsame; go_simp
  clear K20
  refine ltake (v := .bool (!decide ((S1 t).wa = 0))) (w' := W1) K21 rfl rfl (want_none rfl) (fun ev E => ?_) (fun a22 K22 => ?_)
  · have EC := E.const; have E34 := E.tmp 34 _ rfl; clear E; clear PH KP HB hsame hS1; generalize (S1 t).wa = z at *; first | (go_simp; done) | (simp [go_sem, *]; done) | (simp [go_sem, *]; rfl)
  clear K21
  refine wpList_nil ?_
  have K23 : Kn _ 57 [(0, .pointer (some ⟨p, 0, none⟩)), (4, .pointer (some ⟨g, t * 14, none⟩)), (35, .bool (!decide ((S1 t).wa = 0)))] := K22.less ⟨rfl, rfl, rfl, trivial⟩
  clear K22
  refine w88 K23 (unhide PH) (unhide KP) ht (by rw [hsame]; exact hl) (by rw [hsame]; exact hr) (by rw [hsame]; exact hlt) (by rw [hsame]; exact hrt) (unhide HB).1 (unhide HB).2 (fun a2 W2 K2 P2 Q2 => ?_)
  refine ⟨K2.defers, .tuple #[], results_none rfl _ _ _, rfl, ?_, Q2⟩
  rw [settleS, ← hS1]
  exact P2
end Go.Proofs.Ytjnkgakajenoaaa
/- The program's forest: what a slot tells of its part is worked out. -/

namespace Go.Proofs.Ytjnkgakajenoaaa
open Go.RowKit Go.Arb
set_option linter.unusedVariables false
set_option linter.unusedSimpArgs false
set_option maxRecDepth 100000

/-- The sum of a part. -/
def gSm (S : Ss) (t : Nat) : Sm := jn (jn (S (S t).l).sm (one (S t).wt)) (S (S t).r).sm
/-- What hangs at a part. -/
def gHu (S : Ss) (t : Nat) : Ms := ⟨(S (S t).l).hu.c + (S t).hg.c + (S (S t).r).hu.c, (S (S t).l).hu.w + (S t).hg.w + (S (S t).r).hu.w⟩
def gatherS (S : Ss) (t : Nat) : Ss := upd S t { S t with sm := gSm S t, hu := gHu S t }
def O63_1_0 : Oper := ⟨some 13, .move (.tmp 0), 23, "slot.go:46", #[], none⟩
def O63_1_1 : Oper := ⟨some 14, .nilCheck (.tmp 13), 0, "slot.go:46", #[⟨0, .data⟩], none⟩
def O63_1_2 : Oper := ⟨some 15, .fieldAddr 66 (.tmp 14) 1, 0, "slot.go:46", #[⟨1, .data⟩], none⟩
def O63_1_3 : Oper := ⟨some 16, .load 64 (.tmp 15), 64, "slot.go:46", #[⟨2, .data⟩], none⟩
def O63_1_4 : Oper := ⟨some 17, .move (.tmp 4), 85, "slot.go:46", #[], none⟩
def O63_1_5 : Oper := ⟨some 18, .nilCheck (.tmp 17), 0, "slot.go:46", #[⟨4, .data⟩], none⟩
def O63_1_6 : Oper := ⟨some 19, .fieldAddr 75 (.tmp 18) 1, 0, "slot.go:46", #[⟨5, .data⟩], none⟩
def O63_1_7 : Oper := ⟨some 20, .load 3 (.tmp 19), 3, "slot.go:46", #[⟨6, .data⟩], none⟩
def O63_1_8 : Oper := ⟨some 21, .indexAddr 64 (.tmp 16) (.tmp 20), 0, "slot.go:46", #[⟨3, .data⟩, ⟨7, .data⟩], none⟩
def O63_1_9 : Oper := ⟨some 22, .move (.tmp 0), 23, "slot.go:46", #[⟨18, (Ground.gcOnly Departure.lateStores)⟩], none⟩
def O63_1_10 : Oper := ⟨some 23, .nilCheck (.tmp 22), 0, "slot.go:46", #[⟨9, .data⟩, ⟨18, (Ground.gcOnly Departure.lateStores)⟩], none⟩
def O63_1_11 : Oper := ⟨some 24, .fieldAddr 66 (.tmp 23) 1, 0, "slot.go:46", #[⟨10, .data⟩, ⟨18, (Ground.gcOnly Departure.lateStores)⟩], none⟩
def O63_1_12 : Oper := ⟨some 25, .load 64 (.tmp 24), 64, "slot.go:46", #[⟨11, .data⟩, ⟨18, (Ground.gcOnly Departure.lateStores)⟩], none⟩
def O63_1_13 : Oper := ⟨some 26, .move (.tmp 4), 85, "slot.go:46", #[⟨18, (Ground.gcOnly Departure.lateStores)⟩], none⟩
def O63_1_14 : Oper := ⟨some 27, .nilCheck (.tmp 26), 0, "slot.go:46", #[⟨13, .data⟩, ⟨18, (Ground.gcOnly Departure.lateStores)⟩], none⟩
def O63_1_15 : Oper := ⟨some 28, .fieldAddr 75 (.tmp 27) 2, 0, "slot.go:46", #[⟨14, .data⟩, ⟨18, (Ground.gcOnly Departure.lateStores)⟩], none⟩
def O63_1_16 : Oper := ⟨some 29, .load 3 (.tmp 28), 3, "slot.go:46", #[⟨15, .data⟩, ⟨18, (Ground.gcOnly Departure.lateStores)⟩], none⟩
def O63_1_17 : Oper := ⟨some 30, .indexAddr 64 (.tmp 25) (.tmp 29), 0, "slot.go:46", #[⟨12, .data⟩, ⟨16, .data⟩, ⟨18, (Ground.gcOnly Departure.lateStores)⟩], none⟩
def O63_1_18 : Oper := ⟨some 5, .assign (.tmp 21), 85, "slot.go:46", #[⟨8, .data⟩, ⟨0, .phase⟩, ⟨1, .phase⟩, ⟨2, .phase⟩, ⟨3, .phase⟩, ⟨4, .phase⟩, ⟨5, .phase⟩, ⟨6, .phase⟩, ⟨7, .phase⟩, ⟨8, .phase⟩, ⟨9, (Ground.textOnly Departure.lateStores)⟩, ⟨10, (Ground.textOnly Departure.lateStores)⟩, ⟨11, (Ground.textOnly Departure.lateStores)⟩, ⟨12, (Ground.textOnly Departure.lateStores)⟩, ⟨13, (Ground.textOnly Departure.lateStores)⟩, ⟨14, (Ground.textOnly Departure.lateStores)⟩, ⟨15, (Ground.textOnly Departure.lateStores)⟩, ⟨16, (Ground.textOnly Departure.lateStores)⟩, ⟨17, (Ground.textOnly Departure.lateStores)⟩], none⟩
def O63_1_19 : Oper := ⟨some 6, .assign (.tmp 30), 85, "slot.go:46", #[⟨17, .data⟩, ⟨18, .chain⟩, ⟨0, .phase⟩, ⟨1, .phase⟩, ⟨2, .phase⟩, ⟨3, .phase⟩, ⟨4, .phase⟩, ⟨5, .phase⟩, ⟨6, .phase⟩, ⟨7, .phase⟩, ⟨8, .phase⟩, ⟨9, .phase⟩, ⟨10, .phase⟩, ⟨11, .phase⟩, ⟨12, .phase⟩, ⟨13, .phase⟩, ⟨14, .phase⟩, ⟨15, .phase⟩, ⟨16, .phase⟩, ⟨17, .phase⟩, ⟨18, .phase⟩], none⟩
def OPS63_1 : List Oper := [O63_1_0, O63_1_1, O63_1_2, O63_1_3, O63_1_4, O63_1_5, O63_1_6, O63_1_7, O63_1_8, O63_1_9, O63_1_10, O63_1_11, O63_1_12, O63_1_13, O63_1_14, O63_1_15, O63_1_16, O63_1_17, O63_1_18, O63_1_19]
theorem NS63_1 : Region.noSelect OPS63_1.toArray = true := by kernel_rfl
def O63_2_0 : Oper := ⟨some 31, .move (.tmp 4), 85, "slot.go:47", #[], none⟩
def O63_2_1 : Oper := ⟨some 32, .move (.tmp 5), 85, "slot.go:47", #[], none⟩
def O63_2_2 : Oper := ⟨some 33, .nilCheck (.tmp 32), 0, "slot.go:47", #[⟨1, .data⟩], none⟩
def O63_2_3 : Oper := ⟨some 34, .fieldAddr 75 (.tmp 33) 6, 0, "slot.go:47", #[⟨2, .data⟩], none⟩
def O63_2_4 : Oper := ⟨some 35, .load 34 (.tmp 34), 34, "slot.go:47", #[⟨3, .data⟩], none⟩
def O63_2_5 : Oper := ⟨some 36, .move (.tmp 4), 85, "slot.go:47", #[], none⟩
def O63_2_6 : Oper := ⟨some 37, .nilCheck (.tmp 36), 0, "slot.go:47", #[⟨5, .data⟩], none⟩
def O63_2_7 : Oper := ⟨some 38, .fieldAddr 75 (.tmp 37) 4, 0, "slot.go:47", #[⟨6, .data⟩], none⟩
def O63_2_8 : Oper := ⟨some 39, .load 3 (.tmp 38), 3, "slot.go:47", #[⟨7, .data⟩], none⟩
def O63_2_9 : Oper := ⟨some 40, .call { callee := (.value (.func 54)), args := #[(.tmp 39)], argTypes := #[3] }, 34, "slot.go:47", #[⟨8, .data⟩], none⟩
def O63_2_10 : Oper := ⟨some 41, .call { callee := (.value (.func 83)), args := #[(.tmp 35), (.tmp 40)], argTypes := #[34, 34] }, 34, "slot.go:47", #[⟨4, .data⟩, ⟨9, .data⟩, ⟨9, .chain⟩], none⟩
def O63_2_11 : Oper := ⟨some 42, .move (.tmp 6), 85, "slot.go:47", #[], none⟩
def O63_2_12 : Oper := ⟨some 43, .nilCheck (.tmp 42), 0, "slot.go:47", #[⟨11, .data⟩], none⟩
def O63_2_13 : Oper := ⟨some 44, .fieldAddr 75 (.tmp 43) 6, 0, "slot.go:47", #[⟨12, .data⟩], none⟩
def O63_2_14 : Oper := ⟨some 45, .load 34 (.tmp 44), 34, "slot.go:47", #[⟨13, .data⟩], none⟩
def O63_2_15 : Oper := ⟨some 46, .call { callee := (.value (.func 83)), args := #[(.tmp 41), (.tmp 45)], argTypes := #[34, 34] }, 34, "slot.go:47", #[⟨10, .data⟩, ⟨14, .data⟩, ⟨10, .chain⟩], none⟩
def O63_2_16 : Oper := ⟨some 47, .nilCheck (.tmp 31), 0, "slot.go:47", #[⟨0, .data⟩, ⟨0, .phase⟩, ⟨1, .phase⟩, ⟨2, .phase⟩, ⟨3, .phase⟩, ⟨4, .phase⟩, ⟨5, .phase⟩, ⟨6, .phase⟩, ⟨7, .phase⟩, ⟨8, .phase⟩, ⟨9, .phase⟩, ⟨10, .phase⟩, ⟨11, .phase⟩, ⟨12, .phase⟩, ⟨13, .phase⟩, ⟨14, .phase⟩, ⟨15, .phase⟩], none⟩
def O63_2_17 : Oper := ⟨some 48, .fieldAddr 75 (.tmp 47) 6, 0, "slot.go:47", #[⟨16, .data⟩, ⟨0, .phase⟩, ⟨1, .phase⟩, ⟨2, .phase⟩, ⟨3, .phase⟩, ⟨4, .phase⟩, ⟨5, .phase⟩, ⟨6, .phase⟩, ⟨7, .phase⟩, ⟨8, .phase⟩, ⟨9, .phase⟩, ⟨10, .phase⟩, ⟨11, .phase⟩, ⟨12, .phase⟩, ⟨13, .phase⟩, ⟨14, .phase⟩, ⟨15, .phase⟩], none⟩
def O63_2_18 : Oper := ⟨none, .store 34 (.tmp 48) (.tmp 46), 0, "slot.go:47", #[⟨17, .data⟩, ⟨15, .data⟩, ⟨15, .chain⟩, ⟨0, .phase⟩, ⟨1, .phase⟩, ⟨2, .phase⟩, ⟨3, .phase⟩, ⟨4, .phase⟩, ⟨5, .phase⟩, ⟨6, .phase⟩, ⟨7, .phase⟩, ⟨8, .phase⟩, ⟨9, .phase⟩, ⟨10, .phase⟩, ⟨11, .phase⟩, ⟨12, .phase⟩, ⟨13, .phase⟩, ⟨14, .phase⟩, ⟨15, .phase⟩], none⟩
def OPS63_2 : List Oper := [O63_2_0, O63_2_1, O63_2_2, O63_2_3, O63_2_4, O63_2_5, O63_2_6, O63_2_7, O63_2_8, O63_2_9, O63_2_10, O63_2_11, O63_2_12, O63_2_13, O63_2_14, O63_2_15, O63_2_16, O63_2_17, O63_2_18]
theorem NS63_2 : Region.noSelect OPS63_2.toArray = true := by kernel_rfl
def O63_3_0 : Oper := ⟨some 49, .move (.tmp 4), 85, "slot.go:48", #[], none⟩
def O63_3_1 : Oper := ⟨some 50, .move (.tmp 5), 85, "slot.go:48", #[], none⟩
def O63_3_2 : Oper := ⟨some 51, .nilCheck (.tmp 50), 0, "slot.go:48", #[⟨1, .data⟩], none⟩
def O63_3_3 : Oper := ⟨some 52, .fieldAddr 75 (.tmp 51) 8, 0, "slot.go:48", #[⟨2, .data⟩], none⟩
def O63_3_4 : Oper := ⟨some 53, .load 73 (.tmp 52), 73, "slot.go:48", #[⟨3, .data⟩], none⟩
def O63_3_5 : Oper := ⟨some 54, .move (.tmp 4), 85, "slot.go:48", #[], none⟩
def O63_3_6 : Oper := ⟨some 55, .nilCheck (.tmp 54), 0, "slot.go:48", #[⟨5, .data⟩], none⟩
def O63_3_7 : Oper := ⟨some 56, .fieldAddr 75 (.tmp 55) 7, 0, "slot.go:48", #[⟨6, .data⟩], none⟩
def O63_3_8 : Oper := ⟨some 57, .load 73 (.tmp 56), 73, "slot.go:48", #[⟨7, .data⟩], none⟩
def O63_3_9 : Oper := ⟨some 58, .call { callee := (.value (.func 80)), args := #[(.tmp 53), (.tmp 57)], argTypes := #[73, 73] }, 73, "slot.go:48", #[⟨4, .data⟩, ⟨8, .data⟩], none⟩
def O63_3_10 : Oper := ⟨some 59, .move (.tmp 6), 85, "slot.go:48", #[], none⟩
def O63_3_11 : Oper := ⟨some 60, .nilCheck (.tmp 59), 0, "slot.go:48", #[⟨10, .data⟩], none⟩
def O63_3_12 : Oper := ⟨some 61, .fieldAddr 75 (.tmp 60) 8, 0, "slot.go:48", #[⟨11, .data⟩], none⟩
def O63_3_13 : Oper := ⟨some 62, .load 73 (.tmp 61), 73, "slot.go:48", #[⟨12, .data⟩], none⟩
def O63_3_14 : Oper := ⟨some 63, .call { callee := (.value (.func 80)), args := #[(.tmp 58), (.tmp 62)], argTypes := #[73, 73] }, 73, "slot.go:48", #[⟨9, .data⟩, ⟨13, .data⟩, ⟨9, .chain⟩], none⟩
def O63_3_15 : Oper := ⟨some 64, .nilCheck (.tmp 49), 0, "slot.go:48", #[⟨0, .data⟩, ⟨0, .phase⟩, ⟨1, .phase⟩, ⟨2, .phase⟩, ⟨3, .phase⟩, ⟨4, .phase⟩, ⟨5, .phase⟩, ⟨6, .phase⟩, ⟨7, .phase⟩, ⟨8, .phase⟩, ⟨9, .phase⟩, ⟨10, .phase⟩, ⟨11, .phase⟩, ⟨12, .phase⟩, ⟨13, .phase⟩, ⟨14, .phase⟩], none⟩
def O63_3_16 : Oper := ⟨some 65, .fieldAddr 75 (.tmp 64) 8, 0, "slot.go:48", #[⟨15, .data⟩, ⟨0, .phase⟩, ⟨1, .phase⟩, ⟨2, .phase⟩, ⟨3, .phase⟩, ⟨4, .phase⟩, ⟨5, .phase⟩, ⟨6, .phase⟩, ⟨7, .phase⟩, ⟨8, .phase⟩, ⟨9, .phase⟩, ⟨10, .phase⟩, ⟨11, .phase⟩, ⟨12, .phase⟩, ⟨13, .phase⟩, ⟨14, .phase⟩], none⟩
def O63_3_17 : Oper := ⟨none, .store 73 (.tmp 65) (.tmp 63), 0, "slot.go:48", #[⟨16, .data⟩, ⟨14, .data⟩, ⟨14, .chain⟩, ⟨0, .phase⟩, ⟨1, .phase⟩, ⟨2, .phase⟩, ⟨3, .phase⟩, ⟨4, .phase⟩, ⟨5, .phase⟩, ⟨6, .phase⟩, ⟨7, .phase⟩, ⟨8, .phase⟩, ⟨9, .phase⟩, ⟨10, .phase⟩, ⟨11, .phase⟩, ⟨12, .phase⟩, ⟨13, .phase⟩, ⟨14, .phase⟩], none⟩
def OPS63_3 : List Oper := [O63_3_0, O63_3_1, O63_3_2, O63_3_3, O63_3_4, O63_3_5, O63_3_6, O63_3_7, O63_3_8, O63_3_9, O63_3_10, O63_3_11, O63_3_12, O63_3_13, O63_3_14, O63_3_15, O63_3_16, O63_3_17]
theorem NS63_3 : Region.noSelect OPS63_3.toArray = true := by kernel_rfl
set_option maxHeartbeats 4000000 in
theorem rg63_1 {p g n cap room t : Nat} {S : Ss} {NX : Act → World → Prop} {a0 : Act} {w : World} (K0 : Kn a0 66 [(0, .pointer (some ⟨p, 0, none⟩)), (4, .pointer (some ⟨g, t * 14, none⟩))]) (h : Pool w p g n cap room S) (ht : t < n) (hl : (S t).l < n) (hr : (S t).r < n)
    (hN : ∀ a', Kn a' 66 [(4, .pointer (some ⟨g, t * 14, none⟩)), (5, .pointer (some ⟨g, (S t).l * 14, none⟩)), (6, .pointer (some ⟨g, (S t).r * 14, none⟩))] → NX a' w.drew) : (Code.region 1 OPS63_1.toArray true).wp Try.prog (Norm NX) a0 w := by
  have hq := @norm_q NX
  have hS : (fun w' : World => Pool w' p g n cap room S) w.drew := h.drew
  have e1 : (0 : Int) ≤ (t : Int) := by omega
  have e2 : (t : Int) < (n : Int) := by omega
  have e3 : (0 : Int) ≤ ((S t).l : Int) := by omega
  have e4 : ((S t).l : Int) < (n : Int) := by omega
  have e5 : (0 : Int) ≤ ((S t).r : Int) := by omega
  have e6 : ((S t).r : Int) < (n : Int) := by omega
  clear h
  refine wp_region_till (t := 19) (S := (fun w' : World => Pool w' p g n cap room S)) (by kernel_rfl) ?_
  rw [show (OPS63_1.toArray).size = 20 from by kernel_rfl]
  refine upure (i := 0) (o := O63_1_0) (v := .pointer (some ⟨p, 0, none⟩)) K0 hq rfl NS63_1 (by kernel_rfl) (by kernel_rfl) rfl rfl rfl (want_none rfl) (fun ev E w9 => ?_) (fun _ => hS) (fun a1 K1 => ?_)
  · have E0 := E.tmp 0 _ rfl; clear E; unfold O63_1_0; clear hN hq hS; go_simp
  refine upure (i := 1) (o := O63_1_1) (v := .pointer (some ⟨p, 0, none⟩)) K1 hq rfl NS63_1 (by kernel_rfl) (by kernel_rfl) rfl rfl rfl (want_none rfl) (fun ev E w9 => ?_) (fun _ => hS) (fun a2 K2 => ?_)
  · have E13 := E.tmp 13 _ rfl; clear E; unfold O63_1_1; clear hN hq hS; go_simp
  clear K1
  refine upure (i := 2) (o := O63_1_2) (v := .pointer (some ⟨p, 1, none⟩)) K2 hq rfl NS63_1 (by kernel_rfl) (by kernel_rfl) rfl rfl rfl (want_none rfl) (fun ev E w9 => ?_) (fun _ => hS) (fun a3 K3 => ?_)
  · have E14 := E.tmp 14 _ rfl; clear E; unfold O63_1_2; clear hN hq hS; go_simp
  clear K2
  refine utake (i := 3) (o := O63_1_3) (v := .slice (some ⟨g, 0, none⟩) n cap) K3 hq rfl NS63_1 (by kernel_rfl) (by kernel_rfl) (by kernel_rfl) (by kernel_rfl) rfl rfl (want_none rfl) (fun ev E w9 hSw => ?_) hS (fun a4 K4 => ?_)
  · obtain ⟨c0, c1, _⟩ := hSw.head; clear hSw; have E15 := E.tmp 15 _ rfl; clear E; unfold O63_1_3; clear hN hq hS; go_simp
  clear K3
  refine upure (i := 4) (o := O63_1_4) (v := .pointer (some ⟨g, t * 14, none⟩)) K4 hq rfl NS63_1 (by kernel_rfl) (by kernel_rfl) rfl rfl rfl (want_none rfl) (fun ev E w9 => ?_) (fun _ => hS) (fun a5 K5 => ?_)
  · have E4 := E.tmp 4 _ rfl; clear E; unfold O63_1_4; clear hN hq hS; go_simp
  clear K4
  refine upure (i := 5) (o := O63_1_5) (v := .pointer (some ⟨g, t * 14, none⟩)) K5 hq rfl NS63_1 (by kernel_rfl) (by kernel_rfl) rfl rfl rfl (want_none rfl) (fun ev E w9 => ?_) (fun _ => hS) (fun a6 K6 => ?_)
  · have E17 := E.tmp 17 _ rfl; clear E; unfold O63_1_5; clear hN hq hS; go_simp
  clear K5
  refine upure (i := 6) (o := O63_1_6) (v := .pointer (some ⟨g, t * 14 + 1, none⟩)) K6 hq rfl NS63_1 (by kernel_rfl) (by kernel_rfl) rfl rfl rfl (want_none rfl) (fun ev E w9 => ?_) (fun _ => hS) (fun a7 K7 => ?_)
  · have E18 := E.tmp 18 _ rfl; clear E; unfold O63_1_6; clear hN hq hS; go_simp
  clear K6
  refine utake (i := 7) (o := O63_1_7) (v := .int .i64 ((S t).l : Int)) K7 hq rfl NS63_1 (by kernel_rfl) (by kernel_rfl) (by kernel_rfl) (by kernel_rfl) rfl rfl (want_none rfl) (fun ev E w9 hSw => ?_) hS (fun a8 K8 => ?_)
  · obtain ⟨s0, s1, s2, s3, s4, s5, s6, s7, s8, s9, s10, s11, s12, s13⟩ := hSw.slot (t := t) (by assumption); clear hSw; have E19 := E.tmp 19 _ rfl; clear E; unfold O63_1_7; clear hN hq hS; go_simp
  clear K7
  refine upure (i := 8) (o := O63_1_8) (v := .pointer (some ⟨g, (S t).l * 14, none⟩)) K8 hq rfl NS63_1 (by kernel_rfl) (by kernel_rfl) rfl rfl rfl (want_none rfl) (fun ev E w9 => ?_) (fun _ => hS) (fun a9 K9 => ?_)
  · have E16 := E.tmp 16 _ rfl; have E20 := E.tmp 20 _ rfl; clear E; unfold O63_1_8; clear hN hq hS; go_simp
  clear K8
  refine upure (i := 9) (o := O63_1_9) (v := .pointer (some ⟨p, 0, none⟩)) K9 hq rfl NS63_1 (by kernel_rfl) (by kernel_rfl) rfl rfl rfl (want_none rfl) (fun ev E w9 => ?_) (fun _ => hS) (fun a10 K10 => ?_)
  · have E0 := E.tmp 0 _ rfl; clear E; unfold O63_1_9; clear hN hq hS; go_simp
  clear K9
  refine upure (i := 10) (o := O63_1_10) (v := .pointer (some ⟨p, 0, none⟩)) K10 hq rfl NS63_1 (by kernel_rfl) (by kernel_rfl) rfl rfl rfl (want_none rfl) (fun ev E w9 => ?_) (fun _ => hS) (fun a11 K11 => ?_)
  · have E22 := E.tmp 22 _ rfl; clear E; unfold O63_1_10; clear hN hq hS; go_simp
  clear K10
  refine upure (i := 11) (o := O63_1_11) (v := .pointer (some ⟨p, 1, none⟩)) K11 hq rfl NS63_1 (by kernel_rfl) (by kernel_rfl) rfl rfl rfl (want_none rfl) (fun ev E w9 => ?_) (fun _ => hS) (fun a12 K12 => ?_)
  · have E23 := E.tmp 23 _ rfl; clear E; unfold O63_1_11; clear hN hq hS; go_simp
  clear K11
  refine utake (i := 12) (o := O63_1_12) (v := .slice (some ⟨g, 0, none⟩) n cap) K12 hq rfl NS63_1 (by kernel_rfl) (by kernel_rfl) (by kernel_rfl) (by kernel_rfl) rfl rfl (want_none rfl) (fun ev E w9 hSw => ?_) hS (fun a13 K13 => ?_)
  · obtain ⟨c0, c1, _⟩ := hSw.head; clear hSw; have E24 := E.tmp 24 _ rfl; clear E; unfold O63_1_12; clear hN hq hS; go_simp
  clear K12
  refine upure (i := 13) (o := O63_1_13) (v := .pointer (some ⟨g, t * 14, none⟩)) K13 hq rfl NS63_1 (by kernel_rfl) (by kernel_rfl) rfl rfl rfl (want_none rfl) (fun ev E w9 => ?_) (fun _ => hS) (fun a14 K14 => ?_)
  · have E4 := E.tmp 4 _ rfl; clear E; unfold O63_1_13; clear hN hq hS; go_simp
  clear K13
  refine upure (i := 14) (o := O63_1_14) (v := .pointer (some ⟨g, t * 14, none⟩)) K14 hq rfl NS63_1 (by kernel_rfl) (by kernel_rfl) rfl rfl rfl (want_none rfl) (fun ev E w9 => ?_) (fun _ => hS) (fun a15 K15 => ?_)
  · have E26 := E.tmp 26 _ rfl; clear E; unfold O63_1_14; clear hN hq hS; go_simp
  clear K14
  refine upure (i := 15) (o := O63_1_15) (v := .pointer (some ⟨g, t * 14 + 2, none⟩)) K15 hq rfl NS63_1 (by kernel_rfl) (by kernel_rfl) rfl rfl rfl (want_none rfl) (fun ev E w9 => ?_) (fun _ => hS) (fun a16 K16 => ?_)
  · have E27 := E.tmp 27 _ rfl; clear E; unfold O63_1_15; clear hN hq hS; go_simp
  clear K15
  refine utake (i := 16) (o := O63_1_16) (v := .int .i64 ((S t).r : Int)) K16 hq rfl NS63_1 (by kernel_rfl) (by kernel_rfl) (by kernel_rfl) (by kernel_rfl) rfl rfl (want_none rfl) (fun ev E w9 hSw => ?_) hS (fun a17 K17 => ?_)
  · obtain ⟨s0, s1, s2, s3, s4, s5, s6, s7, s8, s9, s10, s11, s12, s13⟩ := hSw.slot (t := t) (by assumption); clear hSw; have E28 := E.tmp 28 _ rfl; clear E; unfold O63_1_16; clear hN hq hS; go_simp
  clear K16
  refine upure (i := 17) (o := O63_1_17) (v := .pointer (some ⟨g, (S t).r * 14, none⟩)) K17 hq rfl NS63_1 (by kernel_rfl) (by kernel_rfl) rfl rfl rfl (want_none rfl) (fun ev E w9 => ?_) (fun _ => hS) (fun a18 K18 => ?_)
  · have E25 := E.tmp 25 _ rfl; have E29 := E.tmp 29 _ rfl; clear E; unfold O63_1_17; clear hN hq hS; go_simp
  clear K17
  refine upure (i := 18) (o := O63_1_18) (v := .pointer (some ⟨g, (S t).l * 14, none⟩)) K18 hq rfl NS63_1 (by kernel_rfl) (by kernel_rfl) rfl rfl rfl (want_none rfl) (fun ev E w9 => ?_) (fun _ => hS) (fun a19 K19 => ?_)
  · have E21 := E.tmp 21 _ rfl; clear E; unfold O63_1_18; clear hN hq hS; go_simp
  clear K18
  refine uone (i := 19) (o := ⟨some 6, .assign (.tmp 30), 85, "slot.go:46", #[⟨17, .data⟩, ⟨18, .chain⟩, ⟨0, .phase⟩, ⟨1, .phase⟩, ⟨2, .phase⟩, ⟨3, .phase⟩, ⟨4, .phase⟩, ⟨5, .phase⟩, ⟨6, .phase⟩, ⟨7, .phase⟩, ⟨8, .phase⟩, ⟨9, .phase⟩, ⟨10, .phase⟩, ⟨11, .phase⟩, ⟨12, .phase⟩, ⟨13, .phase⟩, ⟨14, .phase⟩, ⟨15, .phase⟩, ⟨16, .phase⟩, ⟨17, .phase⟩, ⟨18, .phase⟩], none⟩) K19 rfl (by kernel_rfl) rfl rfl (want_none rfl) (leaves_value (v := .pointer (some ⟨g, (S t).r * 14, none⟩)) (w' := w.drew) K19 (fun ev E => by clear hN hq hS; have E30 := E.tmp 30 _ rfl; clear E; go_simp)) (fun v9 W9 hR => ?_)
  obtain ⟨rfl, rfl⟩ := hR
  refine ⟨fun hx => absurd hx (by decide), fun a20 K20 => ?_⟩
  refine till_done (by kernel_rfl) ?_ _
  exact hN _ (K20.less ⟨rfl, rfl, rfl, trivial⟩)
set_option maxHeartbeats 4000000 in
theorem rg63_2 {p g n cap room t : Nat} {S : Ss} {NX : Act → World → Prop} {a0 : Act} {w : World} (K0 : Kn a0 66 [(4, .pointer (some ⟨g, t * 14, none⟩)), (5, .pointer (some ⟨g, (S t).l * 14, none⟩)), (6, .pointer (some ⟨g, (S t).r * 14, none⟩))]) (h : Pool w p g n cap room S) (ht : t < n) (hl : (S t).l < n) (hr : (S t).r < n) (k1 : -4611686018427387904 ≤ (S (S t).l).sm.c + 1 ∧ (S (S t).l).sm.c + 1 ≤ 4611686018427387904) (k2 : -4611686018427387904 ≤ (S (S t).l).sm.s + (S t).wt ∧ (S (S t).l).sm.s + (S t).wt ≤ 4611686018427387904) (k3 : -4611686018427387904 ≤ (jn (S (S t).l).sm (one (S t).wt)).c + (S (S t).r).sm.c ∧ (jn (S (S t).l).sm (one (S t).wt)).c + (S (S t).r).sm.c ≤ 4611686018427387904) (k4 : -4611686018427387904 ≤ (jn (S (S t).l).sm (one (S t).wt)).s + (S (S t).r).sm.s ∧ (jn (S (S t).l).sm (one (S t).wt)).s + (S (S t).r).sm.s ≤ 4611686018427387904)
    (hN : ∀ a' W, Kn a' 66 [(4, .pointer (some ⟨g, t * 14, none⟩)), (5, .pointer (some ⟨g, (S t).l * 14, none⟩)), (6, .pointer (some ⟨g, (S t).r * 14, none⟩))] → Pool W p g n cap room (upd S t { S t with sm := gSm S t }) → Keep [g] w W → NX a' W) : (Code.region 2 OPS63_2.toArray true).wp Try.prog (Norm NX) a0 w := by
  have hq := @norm_q NX
  have hS : (fun w' : World => Pool w' p g n cap room S) w.drew := h.drew
  have HP := hide h
  have b0 : Below w.heap.size w w.drew := (Below.refl _ _).drew
  have e1 : (0 : Int) ≤ (t : Int) := by omega
  have e2 : (t : Int) < (n : Int) := by omega
  have e3 : (0 : Int) ≤ ((S t).l : Int) := by omega
  have e4 : ((S t).l : Int) < (n : Int) := by omega
  have e5 : (0 : Int) ≤ ((S t).r : Int) := by omega
  have e6 : ((S t).r : Int) < (n : Int) := by omega
  clear h
  refine wp_region_till (t := 18) (S := (fun w' : World => Pool w' p g n cap room S)) (by kernel_rfl) ?_
  rw [show (OPS63_2.toArray).size = 19 from by kernel_rfl]
  refine upure (i := 0) (o := O63_2_0) (v := .pointer (some ⟨g, t * 14, none⟩)) K0 hq rfl NS63_2 (by kernel_rfl) (by kernel_rfl) rfl rfl rfl (want_none rfl) (fun ev E w9 => ?_) (fun _ => hS) (fun a1 K1 => ?_)
  · have E4 := E.tmp 4 _ rfl; clear E; unfold O63_2_0; clear hN hq hS HP; go_simp
  refine upure (i := 1) (o := O63_2_1) (v := .pointer (some ⟨g, (S t).l * 14, none⟩)) K1 hq rfl NS63_2 (by kernel_rfl) (by kernel_rfl) rfl rfl rfl (want_none rfl) (fun ev E w9 => ?_) (fun _ => hS) (fun a2 K2 => ?_)
  · have E5 := E.tmp 5 _ rfl; clear E; unfold O63_2_1; clear hN hq hS HP; go_simp
  clear K1
  refine upure (i := 2) (o := O63_2_2) (v := .pointer (some ⟨g, (S t).l * 14, none⟩)) K2 hq rfl NS63_2 (by kernel_rfl) (by kernel_rfl) rfl rfl rfl (want_none rfl) (fun ev E w9 => ?_) (fun _ => hS) (fun a3 K3 => ?_)
  · have E32 := E.tmp 32 _ rfl; clear E; unfold O63_2_2; clear hN hq hS HP; go_simp
  clear K2
  refine upure (i := 3) (o := O63_2_3) (v := .pointer (some ⟨g, (S t).l * 14 + 6, none⟩)) K3 hq rfl NS63_2 (by kernel_rfl) (by kernel_rfl) rfl rfl rfl (want_none rfl) (fun ev E w9 => ?_) (fun _ => hS) (fun a4 K4 => ?_)
  · have E33 := E.tmp 33 _ rfl; clear E; unfold O63_2_3; clear hN hq hS HP; go_simp
  clear K3
  refine utake (i := 4) (o := O63_2_4) (v := .agg #[.int .i64 (S (S t).l).sm.c, .int .i64 (S (S t).l).sm.s, .int .i64 (S (S t).l).sm.a, .int .i64 (S (S t).l).sm.b]) K4 hq rfl NS63_2 (by kernel_rfl) (by kernel_rfl) (by kernel_rfl) (by kernel_rfl) rfl rfl (want_none rfl) (fun ev E w9 hSw => ?_) hS (fun a5 K5 => ?_)
  · obtain ⟨s0, s1, s2, s3, s4, s5, s6, s7, s8, s9, s10, s11, s12, s13⟩ := hSw.slot (t := (S t).l) (by assumption); clear hSw; have E34 := E.tmp 34 _ rfl; clear E; unfold O63_2_4; clear hN hq hS HP; go_simp
  clear K4
  refine upure (i := 5) (o := O63_2_5) (v := .pointer (some ⟨g, t * 14, none⟩)) K5 hq rfl NS63_2 (by kernel_rfl) (by kernel_rfl) rfl rfl rfl (want_none rfl) (fun ev E w9 => ?_) (fun _ => hS) (fun a6 K6 => ?_)
  · have E4 := E.tmp 4 _ rfl; clear E; unfold O63_2_5; clear hN hq hS HP; go_simp
  clear K5
  refine upure (i := 6) (o := O63_2_6) (v := .pointer (some ⟨g, t * 14, none⟩)) K6 hq rfl NS63_2 (by kernel_rfl) (by kernel_rfl) rfl rfl rfl (want_none rfl) (fun ev E w9 => ?_) (fun _ => hS) (fun a7 K7 => ?_)
  · have E36 := E.tmp 36 _ rfl; clear E; unfold O63_2_6; clear hN hq hS HP; go_simp
  clear K6
  refine upure (i := 7) (o := O63_2_7) (v := .pointer (some ⟨g, t * 14 + 4, none⟩)) K7 hq rfl NS63_2 (by kernel_rfl) (by kernel_rfl) rfl rfl rfl (want_none rfl) (fun ev E w9 => ?_) (fun _ => hS) (fun a8 K8 => ?_)
  · have E37 := E.tmp 37 _ rfl; clear E; unfold O63_2_7; clear hN hq hS HP; go_simp
  clear K7
  refine utake (i := 8) (o := O63_2_8) (v := .int .i64 (S t).wt) K8 hq rfl NS63_2 (by kernel_rfl) (by kernel_rfl) (by kernel_rfl) (by kernel_rfl) rfl rfl (want_none rfl) (fun ev E w9 hSw => ?_) hS (fun a9 K9 => ?_)
  · obtain ⟨s0, s1, s2, s3, s4, s5, s6, s7, s8, s9, s10, s11, s12, s13⟩ := hSw.slot (t := t) (by assumption); clear hSw; have E38 := E.tmp 38 _ rfl; clear E; unfold O63_2_8; clear hN hq hS HP; go_simp
  clear K8
  refine upure (i := 11) (o := O63_2_11) (v := .pointer (some ⟨g, (S t).r * 14, none⟩)) K9 hq rfl NS63_2 (by kernel_rfl) (by kernel_rfl) rfl rfl rfl (want_none rfl) (fun ev E w9 => ?_) (fun _ => hS) (fun a10 K10 => ?_)
  · have E6 := E.tmp 6 _ rfl; clear E; unfold O63_2_11; clear hN hq hS HP; go_simp
  clear K9
  refine upure (i := 12) (o := O63_2_12) (v := .pointer (some ⟨g, (S t).r * 14, none⟩)) K10 hq rfl NS63_2 (by kernel_rfl) (by kernel_rfl) rfl rfl rfl (want_none rfl) (fun ev E w9 => ?_) (fun _ => hS) (fun a11 K11 => ?_)
  · have E42 := E.tmp 42 _ rfl; clear E; unfold O63_2_12; clear hN hq hS HP; go_simp
  clear K10
  refine upure (i := 13) (o := O63_2_13) (v := .pointer (some ⟨g, (S t).r * 14 + 6, none⟩)) K11 hq rfl NS63_2 (by kernel_rfl) (by kernel_rfl) rfl rfl rfl (want_none rfl) (fun ev E w9 => ?_) (fun _ => hS) (fun a12 K12 => ?_)
  · have E43 := E.tmp 43 _ rfl; clear E; unfold O63_2_13; clear hN hq hS HP; go_simp
  clear K11
  refine utake (i := 14) (o := O63_2_14) (v := .agg #[.int .i64 (S (S t).r).sm.c, .int .i64 (S (S t).r).sm.s, .int .i64 (S (S t).r).sm.a, .int .i64 (S (S t).r).sm.b]) K12 hq rfl NS63_2 (by kernel_rfl) (by kernel_rfl) (by kernel_rfl) (by kernel_rfl) rfl rfl (want_none rfl) (fun ev E w9 hSw => ?_) hS (fun a13 K13 => ?_)
  · obtain ⟨s0, s1, s2, s3, s4, s5, s6, s7, s8, s9, s10, s11, s12, s13⟩ := hSw.slot (t := (S t).r) (by assumption); clear hSw; have E44 := E.tmp 44 _ rfl; clear E; unfold O63_2_14; clear hN hq hS HP; go_simp
  clear K12
  refine uone (i := 9) (o := ⟨some 40, .call { callee := (.value (.func 54)), args := #[(.tmp 39)], argTypes := #[3] }, 34, "slot.go:47", #[⟨8, .data⟩], none⟩) K13 rfl (by kernel_rfl) rfl rfl (want_none rfl) (leaves_call (fn := 54) (args := #[.int .i64 (S t).wt]) K13 (fun ev E => by clear hN hq hS HP; have EF := E.func; have E39 := E.tmp 39 _ rfl; clear E; go_simp) (one_any _ _) (fun e w' h => ⟨_, h.1⟩)) (fun v14 C1 hR => ?_)
  obtain ⟨hv, hb⟩ := hR
  injection hv with hv
  subst hv
  have b1 : Below w.heap.size w C1 := b0.trans (hb.mono b0.size)
  clear hS hb
  have hS : (fun w' : World => Pool w' p g n cap room S) C1 := (unhide HP).below b1
  refine ⟨fun _ => hS, fun a14 K14 => ?_⟩
  clear K13
  replace K14 : Kn _ 66 ((40, .agg #[.int .i64 1, .int .i64 (S t).wt, .int .i64 (S t).wt, .int .i64 (S t).wt]) :: _) := K14
  refine uone (i := 10) (o := ⟨some 41, .call { callee := (.value (.func 83)), args := #[(.tmp 35), (.tmp 40)], argTypes := #[34, 34] }, 34, "slot.go:47", #[⟨4, .data⟩, ⟨9, .data⟩, ⟨9, .chain⟩], none⟩) K14 rfl (by kernel_rfl) rfl rfl (want_none rfl) (leaves_call (fn := 83) (args := #[.agg #[.int .i64 (S (S t).l).sm.c, .int .i64 (S (S t).l).sm.s, .int .i64 (S (S t).l).sm.a, .int .i64 (S (S t).l).sm.b], .agg #[.int .i64 1, .int .i64 (S t).wt, .int .i64 (S t).wt, .int .i64 (S t).wt]]) K14 (fun ev E => by clear hN hq hS HP; have EF := E.func; have E35 := E.tmp 35 _ rfl; have E40 := E.tmp 40 _ rfl; clear E; go_simp) (join_any _ _ _ _ 1 _ _ _ _ k1.1 k1.2 k2.1 k2.2) (fun e w' h => ⟨_, h.1⟩)) (fun v15 C2 hR => ?_)
  obtain ⟨hv, hb⟩ := hR
  injection hv with hv
  subst hv
  have b2 : Below w.heap.size w C2 := b1.trans (hb.mono b1.size)
  clear hS hb
  have hS : (fun w' : World => Pool w' p g n cap room S) C2 := (unhide HP).below b2
  refine ⟨fun _ => hS, fun a15 K15 => ?_⟩
  clear K14
  replace K15 : Kn _ 66 ((41, .agg #[.int .i64 (jn (S (S t).l).sm (one (S t).wt)).c, .int .i64 (jn (S (S t).l).sm (one (S t).wt)).s, .int .i64 (jn (S (S t).l).sm (one (S t).wt)).a, .int .i64 (jn (S (S t).l).sm (one (S t).wt)).b]) :: _) := K15
  refine uone (i := 15) (o := ⟨some 46, .call { callee := (.value (.func 83)), args := #[(.tmp 41), (.tmp 45)], argTypes := #[34, 34] }, 34, "slot.go:47", #[⟨10, .data⟩, ⟨14, .data⟩, ⟨10, .chain⟩], none⟩) K15 rfl (by kernel_rfl) rfl rfl (want_none rfl) (leaves_call (fn := 83) (args := #[.agg #[.int .i64 (jn (S (S t).l).sm (one (S t).wt)).c, .int .i64 (jn (S (S t).l).sm (one (S t).wt)).s, .int .i64 (jn (S (S t).l).sm (one (S t).wt)).a, .int .i64 (jn (S (S t).l).sm (one (S t).wt)).b], .agg #[.int .i64 (S (S t).r).sm.c, .int .i64 (S (S t).r).sm.s, .int .i64 (S (S t).r).sm.a, .int .i64 (S (S t).r).sm.b]]) K15 (fun ev E => by clear hN hq hS HP; have EF := E.func; have E41 := E.tmp 41 _ rfl; have E45 := E.tmp 45 _ rfl; clear E; go_simp) (join_any _ _ _ _ _ _ _ _ _ k3.1 k3.2 k4.1 k4.2) (fun e w' h => ⟨_, h.1⟩)) (fun v16 C3 hR => ?_)
  obtain ⟨hv, hb⟩ := hR
  injection hv with hv
  subst hv
  have b3 : Below w.heap.size w C3 := b2.trans (hb.mono b2.size)
  clear hS hb
  have hS : (fun w' : World => Pool w' p g n cap room S) C3 := (unhide HP).below b3
  refine ⟨fun _ => hS, fun a16 K16 => ?_⟩
  clear K15
  replace K16 : Kn _ 66 ((46, .agg #[.int .i64 (gSm S t).c, .int .i64 (gSm S t).s, .int .i64 (gSm S t).a, .int .i64 (gSm S t).b]) :: _) := K16
  refine upure (i := 16) (o := O63_2_16) (v := .pointer (some ⟨g, t * 14, none⟩)) K16 hq rfl NS63_2 (by kernel_rfl) (by kernel_rfl) rfl rfl rfl (want_none rfl) (fun ev E w9 => ?_) (fun _ => hS) (fun a17 K17 => ?_)
  · have E31 := E.tmp 31 _ rfl; clear E; unfold O63_2_16; clear hN hq hS HP; go_simp
  clear K16
  refine upure (i := 17) (o := O63_2_17) (v := .pointer (some ⟨g, t * 14 + 6, none⟩)) K17 hq rfl NS63_2 (by kernel_rfl) (by kernel_rfl) rfl rfl rfl (want_none rfl) (fun ev E w9 => ?_) (fun _ => hS) (fun a18 K18 => ?_)
  · have E47 := E.tmp 47 _ rfl; clear E; unfold O63_2_17; clear hN hq hS HP; go_simp
  clear K17
  skip
  have P0 := hide hS
  clear hS
  obtain ⟨s0, s1, s2, s3, s4, s5, s6, s7, s8, s9, s10, s11, s12, s13⟩ := (unhide P0).slot ht
  obtain ⟨f0, f1, f2, f3, f4, f5, f6, f7, f8, f9, f10, f11, f12, f13⟩ := (unhide P0).soft ht
  refine ustore (R := fun _ _ => True) (i := 18) (o := O63_2_18) (w' := ((((C3).setCell ⟨g, t * 14 + 6, none⟩ (.int .i64 (gSm S t).c)).setCell ⟨g, t * 14 + 7, none⟩ (.int .i64 (gSm S t).s)).setCell ⟨g, t * 14 + 8, none⟩ (.int .i64 (gSm S t).a)).setCell ⟨g, t * 14 + 9, none⟩ (.int .i64 (gSm S t).b)) K18 rfl (by kernel_rfl) rfl (want_none rfl) (fun ev E => ?_) (fun hx => absurd hx (by decide)) ?_
  · have E46 := E.tmp 46 _ rfl; have E48 := E.tmp 48 _ rfl; clear E; unfold O63_2_18; clear hN hq HP P0; go_simp
  refine till_done (by kernel_rfl) ?_ _
  have P3 := ((((unhide P0).put (t := t) ht 6 (by omega) { S t with sm := { (S t).sm with c := (gSm S t).c } } (.int .i64 (gSm S t).c) rfl).put (t := t) ht 7 (by omega) { S t with sm := { (S t).sm with c := (gSm S t).c, s := (gSm S t).s } } (.int .i64 (gSm S t).s) (by rw [upd_same]; rfl)).put (t := t) ht 8 (by omega) { S t with sm := { (S t).sm with c := (gSm S t).c, s := (gSm S t).s, a := (gSm S t).a } } (.int .i64 (gSm S t).a) (by rw [upd_same]; rfl)).put (t := t) ht 9 (by omega) { S t with sm := gSm S t } (.int .i64 (gSm S t).b) (by rw [upd_same]; rfl)
  have Q3 := ((((Keep.ofBelow b3 [g]).cellB (t * 14 + 6) (.int .i64 (gSm S t).c)).cellB (t * 14 + 7) (.int .i64 (gSm S t).s)).cellB (t * 14 + 8) (.int .i64 (gSm S t).a)).cellB (t * 14 + 9) (.int .i64 (gSm S t).b)
  have hE : ∀ (T : Ss) (x : Sl), (∀ j, j ≠ t → T j = S j) → upd T t x = upd S t x := fun T x hT => by
    funext j
    by_cases hj : j = t
    · subst hj; simp [upd]
    · simp [upd, hj, hT j hj]
  rw [hE _ _ (fun j hj => by simp [upd, hj])] at P3
  exact hN _ _ (K18.less ⟨rfl, rfl, rfl, trivial⟩) P3 Q3
set_option maxHeartbeats 4000000 in
theorem rg63_3 {p g n cap room t : Nat} {S : Ss} {NX : Act → World → Prop} {a0 : Act} {w : World} (K0 : Kn a0 66 [(4, .pointer (some ⟨g, t * 14, none⟩)), (5, .pointer (some ⟨g, (S t).l * 14, none⟩)), (6, .pointer (some ⟨g, (S t).r * 14, none⟩))]) (h : Pool w p g n cap room S) (ht : t < n) (hl : (S t).l < n) (hr : (S t).r < n) (k1 : -4611686018427387904 ≤ (S (S t).l).hu.c + (S t).hg.c ∧ (S (S t).l).hu.c + (S t).hg.c ≤ 4611686018427387904) (k2 : -4611686018427387904 ≤ (S (S t).l).hu.w + (S t).hg.w ∧ (S (S t).l).hu.w + (S t).hg.w ≤ 4611686018427387904) (k3 : -4611686018427387904 ≤ (S (S t).l).hu.c + (S t).hg.c + (S (S t).r).hu.c ∧ (S (S t).l).hu.c + (S t).hg.c + (S (S t).r).hu.c ≤ 4611686018427387904) (k4 : -4611686018427387904 ≤ (S (S t).l).hu.w + (S t).hg.w + (S (S t).r).hu.w ∧ (S (S t).l).hu.w + (S t).hg.w + (S (S t).r).hu.w ≤ 4611686018427387904)
    (hN : ∀ a' W, Kn a' 66 [(4, .pointer (some ⟨g, t * 14, none⟩)), (5, .pointer (some ⟨g, (S t).l * 14, none⟩)), (6, .pointer (some ⟨g, (S t).r * 14, none⟩))] → Pool W p g n cap room (upd S t { S t with hu := gHu S t }) → Keep [g] w W → NX a' W) : (Code.region 3 OPS63_3.toArray true).wp Try.prog (Norm NX) a0 w := by
  have hq := @norm_q NX
  have hS : (fun w' : World => Pool w' p g n cap room S) w.drew := h.drew
  have HP := hide h
  have b0 : Below w.heap.size w w.drew := (Below.refl _ _).drew
  have e1 : (0 : Int) ≤ (t : Int) := by omega
  have e2 : (t : Int) < (n : Int) := by omega
  have e3 : (0 : Int) ≤ ((S t).l : Int) := by omega
  have e4 : ((S t).l : Int) < (n : Int) := by omega
  have e5 : (0 : Int) ≤ ((S t).r : Int) := by omega
  have e6 : ((S t).r : Int) < (n : Int) := by omega
  clear h
  refine wp_region_till (t := 17) (S := (fun w' : World => Pool w' p g n cap room S)) (by kernel_rfl) ?_
  rw [show (OPS63_3.toArray).size = 18 from by kernel_rfl]
  refine upure (i := 0) (o := O63_3_0) (v := .pointer (some ⟨g, t * 14, none⟩)) K0 hq rfl NS63_3 (by kernel_rfl) (by kernel_rfl) rfl rfl rfl (want_none rfl) (fun ev E w9 => ?_) (fun _ => hS) (fun a1 K1 => ?_)
  · have E4 := E.tmp 4 _ rfl; clear E; unfold O63_3_0; clear hN hq hS HP; go_simp
  refine upure (i := 1) (o := O63_3_1) (v := .pointer (some ⟨g, (S t).l * 14, none⟩)) K1 hq rfl NS63_3 (by kernel_rfl) (by kernel_rfl) rfl rfl rfl (want_none rfl) (fun ev E w9 => ?_) (fun _ => hS) (fun a2 K2 => ?_)
  · have E5 := E.tmp 5 _ rfl; clear E; unfold O63_3_1; clear hN hq hS HP; go_simp
  clear K1
  refine upure (i := 2) (o := O63_3_2) (v := .pointer (some ⟨g, (S t).l * 14, none⟩)) K2 hq rfl NS63_3 (by kernel_rfl) (by kernel_rfl) rfl rfl rfl (want_none rfl) (fun ev E w9 => ?_) (fun _ => hS) (fun a3 K3 => ?_)
  · have E50 := E.tmp 50 _ rfl; clear E; unfold O63_3_2; clear hN hq hS HP; go_simp
  clear K2
  refine upure (i := 3) (o := O63_3_3) (v := .pointer (some ⟨g, (S t).l * 14 + 12, none⟩)) K3 hq rfl NS63_3 (by kernel_rfl) (by kernel_rfl) rfl rfl rfl (want_none rfl) (fun ev E w9 => ?_) (fun _ => hS) (fun a4 K4 => ?_)
  · have E51 := E.tmp 51 _ rfl; clear E; unfold O63_3_3; clear hN hq hS HP; go_simp
  clear K3
  refine utake (i := 4) (o := O63_3_4) (v := .agg #[.int .i64 (S (S t).l).hu.c, .int .i64 (S (S t).l).hu.w]) K4 hq rfl NS63_3 (by kernel_rfl) (by kernel_rfl) (by kernel_rfl) (by kernel_rfl) rfl rfl (want_none rfl) (fun ev E w9 hSw => ?_) hS (fun a5 K5 => ?_)
  · obtain ⟨s0, s1, s2, s3, s4, s5, s6, s7, s8, s9, s10, s11, s12, s13⟩ := hSw.slot (t := (S t).l) (by assumption); clear hSw; have E52 := E.tmp 52 _ rfl; clear E; unfold O63_3_4; clear hN hq hS HP; go_simp
  clear K4
  refine upure (i := 5) (o := O63_3_5) (v := .pointer (some ⟨g, t * 14, none⟩)) K5 hq rfl NS63_3 (by kernel_rfl) (by kernel_rfl) rfl rfl rfl (want_none rfl) (fun ev E w9 => ?_) (fun _ => hS) (fun a6 K6 => ?_)
  · have E4 := E.tmp 4 _ rfl; clear E; unfold O63_3_5; clear hN hq hS HP; go_simp
  clear K5
  refine upure (i := 6) (o := O63_3_6) (v := .pointer (some ⟨g, t * 14, none⟩)) K6 hq rfl NS63_3 (by kernel_rfl) (by kernel_rfl) rfl rfl rfl (want_none rfl) (fun ev E w9 => ?_) (fun _ => hS) (fun a7 K7 => ?_)
  · have E54 := E.tmp 54 _ rfl; clear E; unfold O63_3_6; clear hN hq hS HP; go_simp
  clear K6
  refine upure (i := 7) (o := O63_3_7) (v := .pointer (some ⟨g, t * 14 + 10, none⟩)) K7 hq rfl NS63_3 (by kernel_rfl) (by kernel_rfl) rfl rfl rfl (want_none rfl) (fun ev E w9 => ?_) (fun _ => hS) (fun a8 K8 => ?_)
  · have E55 := E.tmp 55 _ rfl; clear E; unfold O63_3_7; clear hN hq hS HP; go_simp
  clear K7
  refine utake (i := 8) (o := O63_3_8) (v := .agg #[.int .i64 (S t).hg.c, .int .i64 (S t).hg.w]) K8 hq rfl NS63_3 (by kernel_rfl) (by kernel_rfl) (by kernel_rfl) (by kernel_rfl) rfl rfl (want_none rfl) (fun ev E w9 hSw => ?_) hS (fun a9 K9 => ?_)
  · obtain ⟨s0, s1, s2, s3, s4, s5, s6, s7, s8, s9, s10, s11, s12, s13⟩ := hSw.slot (t := t) (by assumption); clear hSw; have E56 := E.tmp 56 _ rfl; clear E; unfold O63_3_8; clear hN hq hS HP; go_simp
  clear K8
  refine upure (i := 10) (o := O63_3_10) (v := .pointer (some ⟨g, (S t).r * 14, none⟩)) K9 hq rfl NS63_3 (by kernel_rfl) (by kernel_rfl) rfl rfl rfl (want_none rfl) (fun ev E w9 => ?_) (fun _ => hS) (fun a10 K10 => ?_)
  · have E6 := E.tmp 6 _ rfl; clear E; unfold O63_3_10; clear hN hq hS HP; go_simp
  clear K9
  refine upure (i := 11) (o := O63_3_11) (v := .pointer (some ⟨g, (S t).r * 14, none⟩)) K10 hq rfl NS63_3 (by kernel_rfl) (by kernel_rfl) rfl rfl rfl (want_none rfl) (fun ev E w9 => ?_) (fun _ => hS) (fun a11 K11 => ?_)
  · have E59 := E.tmp 59 _ rfl; clear E; unfold O63_3_11; clear hN hq hS HP; go_simp
  clear K10
  refine upure (i := 12) (o := O63_3_12) (v := .pointer (some ⟨g, (S t).r * 14 + 12, none⟩)) K11 hq rfl NS63_3 (by kernel_rfl) (by kernel_rfl) rfl rfl rfl (want_none rfl) (fun ev E w9 => ?_) (fun _ => hS) (fun a12 K12 => ?_)
  · have E60 := E.tmp 60 _ rfl; clear E; unfold O63_3_12; clear hN hq hS HP; go_simp
  clear K11
  refine utake (i := 13) (o := O63_3_13) (v := .agg #[.int .i64 (S (S t).r).hu.c, .int .i64 (S (S t).r).hu.w]) K12 hq rfl NS63_3 (by kernel_rfl) (by kernel_rfl) (by kernel_rfl) (by kernel_rfl) rfl rfl (want_none rfl) (fun ev E w9 hSw => ?_) hS (fun a13 K13 => ?_)
  · obtain ⟨s0, s1, s2, s3, s4, s5, s6, s7, s8, s9, s10, s11, s12, s13⟩ := hSw.slot (t := (S t).r) (by assumption); clear hSw; have E61 := E.tmp 61 _ rfl; clear E; unfold O63_3_13; clear hN hq hS HP; go_simp
  clear K12
  refine uone (i := 9) (o := ⟨some 58, .call { callee := (.value (.func 80)), args := #[(.tmp 53), (.tmp 57)], argTypes := #[73, 73] }, 73, "slot.go:48", #[⟨4, .data⟩, ⟨8, .data⟩], none⟩) K13 rfl (by kernel_rfl) rfl rfl (want_none rfl) (leaves_call (fn := 80) (args := #[.agg #[.int .i64 (S (S t).l).hu.c, .int .i64 (S (S t).l).hu.w], .agg #[.int .i64 (S t).hg.c, .int .i64 (S t).hg.w]]) K13 (fun ev E => by clear hN hq hS HP; have EF := E.func; have E53 := E.tmp 53 _ rfl; have E57 := E.tmp 57 _ rfl; clear E; go_simp) (with_any _ _ _ _ _ k1 k2) (fun e w' h => ⟨_, h.1⟩)) (fun v14 C1 hR => ?_)
  obtain ⟨hv, hb⟩ := hR
  injection hv with hv
  subst hv
  have b1 : Below w.heap.size w C1 := b0.trans (hb.mono b0.size)
  clear hS hb
  have hS : (fun w' : World => Pool w' p g n cap room S) C1 := (unhide HP).below b1
  refine ⟨fun _ => hS, fun a14 K14 => ?_⟩
  clear K13
  replace K14 : Kn _ 66 ((58, .agg #[.int .i64 ((S (S t).l).hu.c + (S t).hg.c), .int .i64 ((S (S t).l).hu.w + (S t).hg.w)]) :: _) := K14
  refine uone (i := 14) (o := ⟨some 63, .call { callee := (.value (.func 80)), args := #[(.tmp 58), (.tmp 62)], argTypes := #[73, 73] }, 73, "slot.go:48", #[⟨9, .data⟩, ⟨13, .data⟩, ⟨9, .chain⟩], none⟩) K14 rfl (by kernel_rfl) rfl rfl (want_none rfl) (leaves_call (fn := 80) (args := #[.agg #[.int .i64 ((S (S t).l).hu.c + (S t).hg.c), .int .i64 ((S (S t).l).hu.w + (S t).hg.w)], .agg #[.int .i64 (S (S t).r).hu.c, .int .i64 (S (S t).r).hu.w]]) K14 (fun ev E => by clear hN hq hS HP; have EF := E.func; have E58 := E.tmp 58 _ rfl; have E62 := E.tmp 62 _ rfl; clear E; go_simp) (with_any _ _ _ _ _ k3 k4) (fun e w' h => ⟨_, h.1⟩)) (fun v15 C2 hR => ?_)
  obtain ⟨hv, hb⟩ := hR
  injection hv with hv
  subst hv
  have b2 : Below w.heap.size w C2 := b1.trans (hb.mono b1.size)
  clear hS hb
  have hS : (fun w' : World => Pool w' p g n cap room S) C2 := (unhide HP).below b2
  refine ⟨fun _ => hS, fun a15 K15 => ?_⟩
  clear K14
  replace K15 : Kn _ 66 ((63, .agg #[.int .i64 (gHu S t).c, .int .i64 (gHu S t).w]) :: _) := K15
  refine upure (i := 15) (o := O63_3_15) (v := .pointer (some ⟨g, t * 14, none⟩)) K15 hq rfl NS63_3 (by kernel_rfl) (by kernel_rfl) rfl rfl rfl (want_none rfl) (fun ev E w9 => ?_) (fun _ => hS) (fun a16 K16 => ?_)
  · have E49 := E.tmp 49 _ rfl; clear E; unfold O63_3_15; clear hN hq hS HP; go_simp
  clear K15
  refine upure (i := 16) (o := O63_3_16) (v := .pointer (some ⟨g, t * 14 + 12, none⟩)) K16 hq rfl NS63_3 (by kernel_rfl) (by kernel_rfl) rfl rfl rfl (want_none rfl) (fun ev E w9 => ?_) (fun _ => hS) (fun a17 K17 => ?_)
  · have E64 := E.tmp 64 _ rfl; clear E; unfold O63_3_16; clear hN hq hS HP; go_simp
  clear K16
  skip
  have P0 := hide hS
  clear hS
  obtain ⟨s0, s1, s2, s3, s4, s5, s6, s7, s8, s9, s10, s11, s12, s13⟩ := (unhide P0).slot ht
  obtain ⟨f0, f1, f2, f3, f4, f5, f6, f7, f8, f9, f10, f11, f12, f13⟩ := (unhide P0).soft ht
  refine ustore (R := fun _ _ => True) (i := 17) (o := O63_3_17) (w' := ((C2).setCell ⟨g, t * 14 + 12, none⟩ (.int .i64 (gHu S t).c)).setCell ⟨g, t * 14 + 13, none⟩ (.int .i64 (gHu S t).w)) K17 rfl (by kernel_rfl) rfl (want_none rfl) (fun ev E => ?_) (fun hx => absurd hx (by decide)) ?_
  · have E63 := E.tmp 63 _ rfl; have E65 := E.tmp 65 _ rfl; clear E; unfold O63_3_17; clear hN hq HP P0; go_simp
  refine till_done (by kernel_rfl) ?_ _
  have P3 := ((unhide P0).put (t := t) ht 12 (by omega) { S t with hu := { (S t).hu with c := (gHu S t).c } } (.int .i64 (gHu S t).c) rfl).put (t := t) ht 13 (by omega) { S t with hu := gHu S t } (.int .i64 (gHu S t).w) (by rw [upd_same]; rfl)
  have Q3 := ((Keep.ofBelow b2 [g]).cellB (t * 14 + 12) (.int .i64 (gHu S t).c)).cellB (t * 14 + 13) (.int .i64 (gHu S t).w)
  have hE : ∀ (T : Ss) (x : Sl), (∀ j, j ≠ t → T j = S j) → upd T t x = upd S t x := fun T x hT => by
    funext j
    by_cases hj : j = t
    · subst hj; simp [upd]
    · simp [upd, hj, hT j hj]
  rw [hE _ _ (fun j hj => by simp [upd, hj])] at P3
  exact hN _ _ (K17.less ⟨rfl, rfl, rfl, trivial⟩) P3 Q3
/-- No sum of the part is past its ends. -/
structure Gbd (S : Ss) (t : Nat) : Prop where
  k1 : -4611686018427387904 ≤ (S (S t).l).sm.c + 1 ∧ (S (S t).l).sm.c + 1 ≤ 4611686018427387904
  k2 : -4611686018427387904 ≤ (S (S t).l).sm.s + (S t).wt ∧ (S (S t).l).sm.s + (S t).wt ≤ 4611686018427387904
  k3 : -4611686018427387904 ≤ (jn (S (S t).l).sm (one (S t).wt)).c + (S (S t).r).sm.c ∧ (jn (S (S t).l).sm (one (S t).wt)).c + (S (S t).r).sm.c ≤ 4611686018427387904
  k4 : -4611686018427387904 ≤ (jn (S (S t).l).sm (one (S t).wt)).s + (S (S t).r).sm.s ∧ (jn (S (S t).l).sm (one (S t).wt)).s + (S (S t).r).sm.s ≤ 4611686018427387904
  m1 : -4611686018427387904 ≤ (S (S t).l).hu.c + (S t).hg.c ∧ (S (S t).l).hu.c + (S t).hg.c ≤ 4611686018427387904
  m2 : -4611686018427387904 ≤ (S (S t).l).hu.w + (S t).hg.w ∧ (S (S t).l).hu.w + (S t).hg.w ≤ 4611686018427387904
  m3 : -4611686018427387904 ≤ (S (S t).l).hu.c + (S t).hg.c + (S (S t).r).hu.c ∧ (S (S t).l).hu.c + (S t).hg.c + (S (S t).r).hu.c ≤ 4611686018427387904
  m4 : -4611686018427387904 ≤ (S (S t).l).hu.w + (S t).hg.w + (S (S t).r).hu.w ∧ (S (S t).l).hu.w + (S t).hg.w + (S (S t).r).hu.w ≤ 4611686018427387904
set_option maxHeartbeats 4000000 in
theorem gather_any {p g n cap room t : Nat} {S : Ss} {w : World} (h : Pool w p g n cap room S) (ht : t < n) (hl : (S t).l < n) (hr : (S t).r < n) (hlt : (S t).l ≠ t) (hrt : (S t).r ≠ t) (hb : Gbd S t) :
    Calls Try.prog 63 #[.pointer (some ⟨p, 0, none⟩), .int .i64 (t : Int)] w fun e w' => e = .returned (.tuple #[]) ∧ Pool w' p g n cap room (gatherS S t) ∧ Keep [g] w w' := by
  have PH := hide h
  have HB := hide hb
  clear h hb
  have e1 : (0 : Int) ≤ (t : Int) := by omega
  have e2 : (t : Int) < (n : Int) := by omega
  refine callsK (n := 66) (L := [(0, .pointer (some ⟨p, 0, none⟩)), (1, .int .i64 (t : Int))]) Try.func63 rfl Try.ntmps63 rfl rfl (fun a0 K0 => ?_)
  refine seqR ?_
  refine lmv K0 rfl rfl (want_none rfl) rfl rfl (fun a1 K1 => ?_)
  refine lnc K1 rfl rfl (want_none rfl) rfl rfl (fun a2 K2 => ?_)
  clear K1
  refine lfa K2 rfl rfl (want_none rfl) rfl rfl FA66_1 (fun a3 K3 => ?_)
  clear K2
  refine ltake (v := .slice (some ⟨g, 0, none⟩) n cap) (w' := w) K3 rfl rfl (want_none rfl) (fun ev E => ?_) (fun a4 K4 => ?_)
  · obtain ⟨c0, c1, _⟩ := (unhide PH).head; have E9 := E.tmp 9 _ rfl; clear E; clear PH HB; go_simp
  clear K3
  refine lmv K4 rfl rfl (want_none rfl) rfl rfl (fun a5 K5 => ?_)
  clear K4
  refine ltake (v := .pointer (some ⟨g, t * 14, none⟩)) (w' := w) K5 rfl rfl (want_none rfl) (fun ev E => ?_) (fun a6 K6 => ?_)
  · have E10 := E.tmp 10 _ rfl; have E11 := E.tmp 11 _ rfl; clear E; clear PH HB; go_simp
  clear K5
  refine las K6 rfl rfl (want_none rfl) rfl rfl (fun a7 K7 => ?_)
  clear K6
  refine nilN ?_
  have K8 : Kn _ 66 [(0, .pointer (some ⟨p, 0, none⟩)), (4, .pointer (some ⟨g, t * 14, none⟩))] := K7.less ⟨rfl, rfl, trivial⟩
  clear K7
  refine seqN (rg63_1 K8 (unhide PH) ht hl hr fun a1 K1 => ?_)
  have P1 := hide (unhide PH).drew
  obtain ⟨k1, k2, k3, k4, m1, m2, m3, m4⟩ := unhide HB
  refine seqN (rg63_2 K1 (unhide P1) ht hl hr k1 k2 k3 k4 fun a2 W2 K2 P2 Q2 => ?_)
  have x0 : upd S t { S t with sm := gSm S t } t = { S t with sm := gSm S t } := upd_same _ _ _
  have xl : upd S t { S t with sm := gSm S t } (S t).l = S (S t).l := upd_ne _ _ hlt
  have xr : upd S t { S t with sm := gSm S t } (S t).r = S (S t).r := upd_ne _ _ hrt
  have hg : gHu (upd S t { S t with sm := gSm S t }) t = gHu S t := by simp only [gHu, x0, xl, xr]
  obtain ⟨T, hT⟩ : ∃ T, T = upd S t { S t with sm := gSm S t } := ⟨_, rfl⟩
  rw [← hT] at P2 x0 xl xr hg
  have y1 : (T t).l = (S t).l := by rw [x0]
  have y2 : (T t).r = (S t).r := by rw [x0]
  have y3 : (T t).hg = (S t).hg := by rw [x0]
  rw [show (S t).l = (T t).l from y1.symm, show (S t).r = (T t).r from y2.symm] at K2
  refine lastN (rg63_3 K2 P2 ht (by rw [y1]; exact hl) (by rw [y2]; exact hr) (by rw [y1, xl, y3]; exact m1) (by rw [y1, xl, y3]; exact m2) (by rw [y1, y2, xl, xr, y3]; exact m3) (by rw [y1, y2, xl, xr, y3]; exact m4) fun a3 W3 K3 P3 Q3 => ?_)
  refine ⟨K3.defers, .tuple #[], results_none rfl _ _ _, rfl, ?_, (((Keep.refl [g] w).drew).tr Q2).tr Q3⟩
  have hfin : upd T t { T t with hu := gHu T t } = gatherS S t := by
    rw [hg, x0, hT]
    funext j
    by_cases hj : j = t
    · subst hj; simp [upd, gatherS]
    · simp [upd, gatherS, hj]
  rw [← hfin]
  exact P3
end Go.Proofs.Ytjnkgakajenoaaa
/- The program's forest: parts are put beside a slot. -/

namespace Go.Proofs.Ytjnkgakajenoaaa
open Go.RowKit Go.Arb
set_option linter.unusedVariables false
set_option linter.unusedSimpArgs false
set_option maxRecDepth 100000

/-- A slot is told what it is part of; none is told nothing. -/
def upS (S : Ss) (u t : Nat) : Ss := if u = 0 then S else upd S u { S u with up := t }
theorem upS_ne (S : Ss) {u t v : Nat} (h : v ≠ u) : upS S u t v = S v := by unfold upS; split <;> simp [upd, h]
def besideS (S : Ss) (t l r : Nat) : Ss := upS (upS (upd S t { S t with l := l, r := r }) l t) r t
def holdS (S : Ss) (t l r : Nat) : Ss := gatherS (besideS S t l r) t
theorem besideS_same (S : Ss) {t l r : Nat} (hl : l ≠ t) (hr : r ≠ t) : besideS S t l r t = { S t with l := l, r := r } := by
  unfold besideS
  rw [upS_ne _ (fun e => hr e.symm), upS_ne _ (fun e => hl e.symm), upd_same]
set_option maxHeartbeats 4000000 in
theorem i81l {p g n cap room t l r : Nat} {S : Ss} {Q : Exit → Act → World → Prop} {a0 : Act} {w0 w : World} (K0 : Kn a0 47 [(0, .pointer (some ⟨p, 0, none⟩)), (1, .int .i64 (t : Int)), (2, .int .i64 (l : Int)), (3, .int .i64 (r : Int))]) (h : Pool w p g n cap room S) (hk : Keep [g] w0 w) (ht : t < n) (hT : l < n)
    (hN : ∀ a' W, Kn a' 47 [(0, .pointer (some ⟨p, 0, none⟩)), (1, .int .i64 (t : Int)), (2, .int .i64 (l : Int)), (3, .int .i64 (r : Int))] → Pool W p g n cap room (upS S l t) → Keep [g] w0 W → Q .normal a' W) : (Code.seq (Code.region 2 (rg [1, 1, 0, 0] Try.f81).toArray false) (Code.cond (Operand.tmp 25) (Code.region 3 (rg [1, 1, 0, 1, 0] Try.f81).toArray false) Code.skip)).wp Try.prog Q a0 w := by
  have PH := hide h
  have KP := hide hk
  clear h hk
  have e1 : (0 : Int) ≤ (t : Int) := by omega
  have e2 : (t : Int) < (n : Int) := by omega
  have e3 : (0 : Int) ≤ (l : Int) := by omega
  have e4 : (l : Int) < (n : Int) := by omega
  by_cases h0 : l = 0
  · have i0 : (l : Int) = 0 := by omega
    refine seqR ?_
    refine lmv K0 rfl rfl (want_none rfl) rfl rfl (fun a1 K1 => ?_)
    refine ltake (v := .bool false) (w' := w) K1 rfl rfl (want_none rfl) (fun ev E => ?_) (fun a2 K2 => ?_)
    · have EC := E.const; have E24 := E.tmp 24 _ rfl; clear E; clear PH KP hN; go_simp
    clear K1
    refine nilN ?_
    refine knCond (b := false) K2 rfl (wp_skip (hN _ _ (K2.less ⟨rfl, rfl, rfl, rfl, trivial⟩) ?_ (unhide KP)))
    rw [upS, if_pos h0]
    exact unhide PH
  · have i0 : ¬ (l : Int) = 0 := by omega
    refine seqR ?_
    refine lmv K0 rfl rfl (want_none rfl) rfl rfl (fun a1 K1 => ?_)
    refine ltake (v := .bool true) (w' := w) K1 rfl rfl (want_none rfl) (fun ev E => ?_) (fun a2 K2 => ?_)
    · have EC := E.const; have E24 := E.tmp 24 _ rfl; clear E; clear PH KP hN; go_simp
    clear K1
    refine nilN ?_
    refine knCond (b := true) K2 rfl ?_
    have K3 : Kn _ 47 [(0, .pointer (some ⟨p, 0, none⟩)), (1, .int .i64 (t : Int)), (2, .int .i64 (l : Int)), (3, .int .i64 (r : Int))] := K2.less ⟨rfl, rfl, rfl, rfl, trivial⟩
    clear K2
    refine wp_region_lit ?_
    refine lmv K3 rfl rfl (want_none rfl) rfl rfl (fun a4 K4 => ?_)
    clear K3
    refine lnc K4 rfl rfl (want_none rfl) rfl rfl (fun a5 K5 => ?_)
    clear K4
    refine lfa K5 rfl rfl (want_none rfl) rfl rfl FA66_1 (fun a6 K6 => ?_)
    clear K5
    refine ltake (v := .slice (some ⟨g, 0, none⟩) n cap) (w' := w) K6 rfl rfl (want_none rfl) (fun ev E => ?_) (fun a7 K7 => ?_)
    · obtain ⟨c0, c1, _⟩ := (unhide PH).head; have E28 := E.tmp 28 _ rfl; clear E; clear PH KP hN; go_simp
    clear K6
    refine lmv K7 rfl rfl (want_none rfl) rfl rfl (fun a8 K8 => ?_)
    clear K7
    refine lmv K8 rfl rfl (want_none rfl) rfl rfl (fun a9 K9 => ?_)
    clear K8
    refine ltake (v := .pointer (some ⟨g, l * 14, none⟩)) (w' := w) K9 rfl rfl (want_none rfl) (fun ev E => ?_) (fun a10 K10 => ?_)
    · have E29 := E.tmp 29 _ rfl; have E30 := E.tmp 30 _ rfl; clear E; clear PH KP hN; go_simp
    clear K9
    refine lfa K10 rfl rfl (want_none rfl) rfl rfl FA75_0 (fun a11 K11 => ?_)
    clear K10
    obtain ⟨sk, _, _, _, _, _, _, _, _, _, _, _, _, _⟩ := (unhide PH).slot hT
    obtain ⟨fk, _, _, _, _, _, _, _, _, _, _, _, _, _⟩ := (unhide PH).soft hT
    refine lstore (w' := w.setCell ⟨g, l * 14, none⟩ (.int .i64 (t : Int))) K11 rfl (want_none rfl) (fun ev E => ?_) ?_
    · have E31 := E.tmp 31 _ rfl; have E33 := E.tmp 33 _ rfl; clear E; clear PH KP hN; go_simp
    clear sk fk
    have P1 := (unhide PH).put (t := l) hT 0 (by omega) { S l with up := t } (.int .i64 (t : Int)) rfl
    have Q1 := (unhide KP).cellB (l * 14) (.int .i64 (t : Int))
    clear PH KP
    have PH := hide P1
    have KP := hide Q1
    clear P1 Q1
    generalize w.setCell ⟨g, l * 14, none⟩ (.int .i64 (t : Int)) = W1 at *
    refine wpList_nil ?_
    refine hN _ _ (K11.less ⟨rfl, rfl, rfl, rfl, trivial⟩) ?_ (unhide KP)
    rw [upS, if_neg h0]
    exact unhide PH
set_option maxHeartbeats 4000000 in
theorem i81r {p g n cap room t l r : Nat} {S : Ss} {Q : Exit → Act → World → Prop} {a0 : Act} {w0 w : World} (K0 : Kn a0 47 [(0, .pointer (some ⟨p, 0, none⟩)), (1, .int .i64 (t : Int)), (2, .int .i64 (l : Int)), (3, .int .i64 (r : Int))]) (h : Pool w p g n cap room S) (hk : Keep [g] w0 w) (ht : t < n) (hT : r < n)
    (hN : ∀ a' W, Kn a' 47 [(0, .pointer (some ⟨p, 0, none⟩)), (1, .int .i64 (t : Int)), (2, .int .i64 (l : Int)), (3, .int .i64 (r : Int))] → Pool W p g n cap room (upS S r t) → Keep [g] w0 W → Q .normal a' W) : (Code.seq (Code.region 4 (rg [1, 1, 1, 0, 0] Try.f81).toArray false) (Code.cond (Operand.tmp 35) (Code.region 5 (rg [1, 1, 1, 0, 1, 0] Try.f81).toArray false) Code.skip)).wp Try.prog Q a0 w := by
  have PH := hide h
  have KP := hide hk
  clear h hk
  have e1 : (0 : Int) ≤ (t : Int) := by omega
  have e2 : (t : Int) < (n : Int) := by omega
  have e3 : (0 : Int) ≤ (r : Int) := by omega
  have e4 : (r : Int) < (n : Int) := by omega
  by_cases h0 : r = 0
  · have i0 : (r : Int) = 0 := by omega
    refine seqR ?_
    refine lmv K0 rfl rfl (want_none rfl) rfl rfl (fun a1 K1 => ?_)
    refine ltake (v := .bool false) (w' := w) K1 rfl rfl (want_none rfl) (fun ev E => ?_) (fun a2 K2 => ?_)
    · have EC := E.const; have E34 := E.tmp 34 _ rfl; clear E; clear PH KP hN; go_simp
    clear K1
    refine nilN ?_
    refine knCond (b := false) K2 rfl (wp_skip (hN _ _ (K2.less ⟨rfl, rfl, rfl, rfl, trivial⟩) ?_ (unhide KP)))
    rw [upS, if_pos h0]
    exact unhide PH
  · have i0 : ¬ (r : Int) = 0 := by omega
    refine seqR ?_
    refine lmv K0 rfl rfl (want_none rfl) rfl rfl (fun a1 K1 => ?_)
    refine ltake (v := .bool true) (w' := w) K1 rfl rfl (want_none rfl) (fun ev E => ?_) (fun a2 K2 => ?_)
    · have EC := E.const; have E34 := E.tmp 34 _ rfl; clear E; clear PH KP hN; go_simp
    clear K1
    refine nilN ?_
    refine knCond (b := true) K2 rfl ?_
    have K3 : Kn _ 47 [(0, .pointer (some ⟨p, 0, none⟩)), (1, .int .i64 (t : Int)), (2, .int .i64 (l : Int)), (3, .int .i64 (r : Int))] := K2.less ⟨rfl, rfl, rfl, rfl, trivial⟩
    clear K2
    refine wp_region_lit ?_
    refine lmv K3 rfl rfl (want_none rfl) rfl rfl (fun a4 K4 => ?_)
    clear K3
    refine lnc K4 rfl rfl (want_none rfl) rfl rfl (fun a5 K5 => ?_)
    clear K4
    refine lfa K5 rfl rfl (want_none rfl) rfl rfl FA66_1 (fun a6 K6 => ?_)
    clear K5
    refine ltake (v := .slice (some ⟨g, 0, none⟩) n cap) (w' := w) K6 rfl rfl (want_none rfl) (fun ev E => ?_) (fun a7 K7 => ?_)
    · obtain ⟨c0, c1, _⟩ := (unhide PH).head; have E38 := E.tmp 38 _ rfl; clear E; clear PH KP hN; go_simp
    clear K6
    refine lmv K7 rfl rfl (want_none rfl) rfl rfl (fun a8 K8 => ?_)
    clear K7
    refine lmv K8 rfl rfl (want_none rfl) rfl rfl (fun a9 K9 => ?_)
    clear K8
    refine ltake (v := .pointer (some ⟨g, r * 14, none⟩)) (w' := w) K9 rfl rfl (want_none rfl) (fun ev E => ?_) (fun a10 K10 => ?_)
    · have E39 := E.tmp 39 _ rfl; have E40 := E.tmp 40 _ rfl; clear E; clear PH KP hN; go_simp
    clear K9
    refine lfa K10 rfl rfl (want_none rfl) rfl rfl FA75_0 (fun a11 K11 => ?_)
    clear K10
    obtain ⟨sk, _, _, _, _, _, _, _, _, _, _, _, _, _⟩ := (unhide PH).slot hT
    obtain ⟨fk, _, _, _, _, _, _, _, _, _, _, _, _, _⟩ := (unhide PH).soft hT
    refine lstore (w' := w.setCell ⟨g, r * 14, none⟩ (.int .i64 (t : Int))) K11 rfl (want_none rfl) (fun ev E => ?_) ?_
    · have E41 := E.tmp 41 _ rfl; have E43 := E.tmp 43 _ rfl; clear E; clear PH KP hN; go_simp
    clear sk fk
    have P1 := (unhide PH).put (t := r) hT 0 (by omega) { S r with up := t } (.int .i64 (t : Int)) rfl
    have Q1 := (unhide KP).cellB (r * 14) (.int .i64 (t : Int))
    clear PH KP
    have PH := hide P1
    have KP := hide Q1
    clear P1 Q1
    generalize w.setCell ⟨g, r * 14, none⟩ (.int .i64 (t : Int)) = W1 at *
    refine wpList_nil ?_
    refine hN _ _ (K11.less ⟨rfl, rfl, rfl, rfl, trivial⟩) ?_ (unhide KP)
    rw [upS, if_neg h0]
    exact unhide PH
set_option maxHeartbeats 4000000 in
theorem hold_any {p g n cap room t l r : Nat} {S : Ss} {w : World} (h : Pool w p g n cap room S) (ht : t < n) (hl : l < n) (hr : r < n) (hlt : l ≠ t) (hrt : r ≠ t) (hb : Gbd (besideS S t l r) t) :
    Calls Try.prog 81 #[.pointer (some ⟨p, 0, none⟩), .int .i64 (t : Int), .int .i64 (l : Int), .int .i64 (r : Int)] w fun e w' => e = .returned (.tuple #[]) ∧ Pool w' p g n cap room (holdS S t l r) ∧ Keep [g] w w' := by
  have PH := hide h
  have KP := hide (Keep.refl [g] w)
  have HB := hide hb
  clear h hb
  have e1 : (0 : Int) ≤ (t : Int) := by omega
  have e2 : (t : Int) < (n : Int) := by omega
  have e3 : (0 : Int) ≤ (l : Int) := by omega
  have e4 : (l : Int) < (n : Int) := by omega
  have e5 : (0 : Int) ≤ (r : Int) := by omega
  have e6 : (r : Int) < (n : Int) := by omega
  refine callsK (n := 47) (L := [(0, .pointer (some ⟨p, 0, none⟩)), (1, .int .i64 (t : Int)), (2, .int .i64 (l : Int)), (3, .int .i64 (r : Int))]) Try.func81 rfl Try.ntmps81 rfl rfl (fun a0 K0 => ?_)
  refine seqR ?_
  refine lmv K0 rfl rfl (want_none rfl) rfl rfl (fun a1 K1 => ?_)
  refine lnc K1 rfl rfl (want_none rfl) rfl rfl (fun a2 K2 => ?_)
  clear K1
  refine lfa K2 rfl rfl (want_none rfl) rfl rfl FA66_1 (fun a3 K3 => ?_)
  clear K2
  refine ltake (v := .slice (some ⟨g, 0, none⟩) n cap) (w' := w) K3 rfl rfl (want_none rfl) (fun ev E => ?_) (fun a4 K4 => ?_)
  · obtain ⟨c0, c1, _⟩ := (unhide PH).head; have E10 := E.tmp 10 _ rfl; clear E; clear PH KP HB; go_simp
  clear K3
  refine lmv K4 rfl rfl (want_none rfl) rfl rfl (fun a5 K5 => ?_)
  clear K4
  refine lmv K5 rfl rfl (want_none rfl) rfl rfl (fun a6 K6 => ?_)
  clear K5
  refine ltake (v := .pointer (some ⟨g, t * 14, none⟩)) (w' := w) K6 rfl rfl (want_none rfl) (fun ev E => ?_) (fun a7 K7 => ?_)
  · have E11 := E.tmp 11 _ rfl; have E12 := E.tmp 12 _ rfl; clear E; clear PH KP HB; go_simp
  clear K6
  refine lfa K7 rfl rfl (want_none rfl) rfl rfl FA75_1 (fun a8 K8 => ?_)
  clear K7
  obtain ⟨_, sk, _, _, _, _, _, _, _, _, _, _, _, _⟩ := (unhide PH).slot ht
  obtain ⟨_, fk, _, _, _, _, _, _, _, _, _, _, _, _⟩ := (unhide PH).soft ht
  refine lstore (w' := w.setCell ⟨g, t * 14 + 1, none⟩ (.int .i64 (l : Int))) K8 rfl (want_none rfl) (fun ev E => ?_) ?_
  · have E13 := E.tmp 13 _ rfl; have E15 := E.tmp 15 _ rfl; clear E; clear PH KP HB; go_simp
  clear sk fk
  have P1 := (unhide PH).put (t := t) ht 1 (by omega) { S t with l := l } (.int .i64 (l : Int)) rfl
  have Q1 := (unhide KP).cellB (t * 14 + 1) (.int .i64 (l : Int))
  clear PH KP
  have PH := hide P1
  have KP := hide Q1
  clear P1 Q1
  generalize w.setCell ⟨g, t * 14 + 1, none⟩ (.int .i64 (l : Int)) = W1 at *
  refine nilN ?_
  have K10 : Kn _ 47 [(0, .pointer (some ⟨p, 0, none⟩)), (1, .int .i64 (t : Int)), (2, .int .i64 (l : Int)), (3, .int .i64 (r : Int))] := K8.less ⟨rfl, rfl, rfl, rfl, trivial⟩
  clear K8
  refine seqR ?_
  refine lmv K10 rfl rfl (want_none rfl) rfl rfl (fun a11 K11 => ?_)
  clear K10
  refine lnc K11 rfl rfl (want_none rfl) rfl rfl (fun a12 K12 => ?_)
  clear K11
  refine lfa K12 rfl rfl (want_none rfl) rfl rfl FA66_1 (fun a13 K13 => ?_)
  clear K12
  refine ltake (v := .slice (some ⟨g, 0, none⟩) n cap) (w' := W1) K13 rfl rfl (want_none rfl) (fun ev E => ?_) (fun a14 K14 => ?_)
  · obtain ⟨c0, c1, _⟩ := (unhide PH).head; have E18 := E.tmp 18 _ rfl; clear E; clear PH KP HB; go_simp
  clear K13
  refine lmv K14 rfl rfl (want_none rfl) rfl rfl (fun a15 K15 => ?_)
  clear K14
  refine lmv K15 rfl rfl (want_none rfl) rfl rfl (fun a16 K16 => ?_)
  clear K15
  refine ltake (v := .pointer (some ⟨g, t * 14, none⟩)) (w' := W1) K16 rfl rfl (want_none rfl) (fun ev E => ?_) (fun a17 K17 => ?_)
  · have E19 := E.tmp 19 _ rfl; have E20 := E.tmp 20 _ rfl; clear E; clear PH KP HB; go_simp
  clear K16
  refine lfa K17 rfl rfl (want_none rfl) rfl rfl FA75_2 (fun a18 K18 => ?_)
  clear K17
  obtain ⟨_, _, sk, _, _, _, _, _, _, _, _, _, _, _⟩ := (unhide PH).slot ht
  obtain ⟨_, _, fk, _, _, _, _, _, _, _, _, _, _, _⟩ := (unhide PH).soft ht
  refine lstore (w' := W1.setCell ⟨g, t * 14 + 2, none⟩ (.int .i64 (r : Int))) K18 rfl (want_none rfl) (fun ev E => ?_) ?_
  · have E21 := E.tmp 21 _ rfl; have E23 := E.tmp 23 _ rfl; clear E; clear PH KP HB; go_simp
  clear sk fk
  have P1 := (unhide PH).put (t := t) ht 2 (by omega) { S t with l := l, r := r } (.int .i64 (r : Int)) (by rw [upd_same]; rfl)
  have Q1 := (unhide KP).cellB (t * 14 + 2) (.int .i64 (r : Int))
  clear PH KP
  have PH := hide P1
  have KP := hide Q1
  clear P1 Q1
  generalize W1.setCell ⟨g, t * 14 + 2, none⟩ (.int .i64 (r : Int)) = W2 at *
  refine nilN ?_
  have K20 : Kn _ 47 [(0, .pointer (some ⟨p, 0, none⟩)), (1, .int .i64 (t : Int)), (2, .int .i64 (l : Int)), (3, .int .i64 (r : Int))] := K18.less ⟨rfl, rfl, rfl, rfl, trivial⟩
  clear K18
  have hE : upd (upd S t { S t with l := l }) t { S t with l := l, r := r } = upd S t { S t with l := l, r := r } := by
    funext j
    by_cases hj : j = t
    · subst hj; simp [upd]
    · simp [upd, hj]
  rw [hE] at PH
  clear hE
  obtain ⟨S1, hS1⟩ : ∃ z, z = upd S t { S t with l := l, r := r } := ⟨_, rfl⟩
  rw [← hS1] at PH
  refine wp_seq (i81l K20 (unhide PH) (unhide KP) ht hl (fun a1 V1 K1 P1 Q1 => ?_))
  show Code.wp _ _ _ _ _
  refine wp_seq (i81r K1 P1 Q1 ht hr (fun a2 V2 K2 P2 Q2 => ?_))
  show Code.wp _ _ _ _ _
  rw [hS1] at P2
  clear PH KP
  have PH := hide (show Pool V2 p g n cap room (besideS S t l r) from P2)
  have KP := hide Q2
  clear P1 Q1 P2 Q2 K1 hS1 S1
  have hsame := besideS_same S hlt hrt
  refine lastN ?_
  refine wp_region_lit ?_
  refine lmv K2 rfl rfl (want_none rfl) rfl rfl (fun a31 K31 => ?_)
  clear K2
  refine lmv K31 rfl rfl (want_none rfl) rfl rfl (fun a32 K32 => ?_)
  clear K31
  refine lcall (f := 63) (args := #[.pointer (some ⟨p, 0, none⟩), .int .i64 (t : Int)]) K32 rfl rfl (want_none rfl) (fun ev E => ?_) (gather_any (unhide PH) ht (by rw [hsame]; exact hl) (by rw [hsame]; exact hr) (by rw [hsame]; exact hlt) (by rw [hsame]; exact hrt) (unhide HB)) (fun e V3 hR => ?_)
  · have EF := E.func; have E44 := E.tmp 44 _ rfl; have E45 := E.tmp 45 _ rfl; clear E; clear PH KP HB hsame; go_simp
  obtain ⟨rfl, P3, Q3⟩ := hR
  refine ⟨_, rfl, fun a33 K33 => ?_⟩
  clear K32
  refine wpList_nil ?_
  exact ⟨K33.defers, .tuple #[], results_none rfl _ _ _, rfl, P3, (unhide KP).tr Q3⟩
end Go.Proofs.Ytjnkgakajenoaaa
/- The program's forest: a slot is put above the one of whose part it is, the two halves. -/

namespace Go.Proofs.Ytjnkgakajenoaaa
open Go.RowKit Go.Arb
set_option linter.unusedVariables false
set_option linter.unusedSimpArgs false
set_option maxRecDepth 100000

def O89_8_0 : Oper := ⟨some 69, .move (.tmp 0), 23, "path.go:33", #[], none⟩
def O89_8_1 : Oper := ⟨some 70, .move (.tmp 4), 3, "path.go:33", #[], none⟩
def O89_8_2 : Oper := ⟨some 71, .move (.tmp 0), 23, "path.go:33", #[], none⟩
def O89_8_3 : Oper := ⟨some 72, .nilCheck (.tmp 71), 0, "path.go:33", #[⟨2, .data⟩], none⟩
def O89_8_4 : Oper := ⟨some 73, .fieldAddr 66 (.tmp 72) 1, 0, "path.go:33", #[⟨3, .data⟩], none⟩
def O89_8_5 : Oper := ⟨some 74, .load 64 (.tmp 73), 64, "path.go:33", #[⟨4, .data⟩], none⟩
def O89_8_6 : Oper := ⟨some 75, .move (.tmp 1), 3, "path.go:33", #[], none⟩
def O89_8_7 : Oper := ⟨some 76, .indexAddr 64 (.tmp 74) (.tmp 75), 0, "path.go:33", #[⟨5, .data⟩, ⟨6, .data⟩], none⟩
def O89_8_8 : Oper := ⟨some 77, .fieldAddr 75 (.tmp 76) 2, 0, "path.go:33", #[⟨7, .data⟩], none⟩
def O89_8_9 : Oper := ⟨some 78, .load 3 (.tmp 77), 3, "path.go:33", #[⟨8, .data⟩], none⟩
def O89_8_10 : Oper := ⟨some 79, .move (.tmp 0), 23, "path.go:33", #[], none⟩
def O89_8_11 : Oper := ⟨some 80, .nilCheck (.tmp 79), 0, "path.go:33", #[⟨10, .data⟩], none⟩
def O89_8_12 : Oper := ⟨some 81, .fieldAddr 66 (.tmp 80) 1, 0, "path.go:33", #[⟨11, .data⟩], none⟩
def O89_8_13 : Oper := ⟨some 82, .load 64 (.tmp 81), 64, "path.go:33", #[⟨12, .data⟩], none⟩
def O89_8_14 : Oper := ⟨some 83, .move (.tmp 4), 3, "path.go:33", #[], none⟩
def O89_8_15 : Oper := ⟨some 84, .indexAddr 64 (.tmp 82) (.tmp 83), 0, "path.go:33", #[⟨13, .data⟩, ⟨14, .data⟩], none⟩
def O89_8_16 : Oper := ⟨some 85, .fieldAddr 75 (.tmp 84) 2, 0, "path.go:33", #[⟨15, .data⟩], none⟩
def O89_8_17 : Oper := ⟨some 86, .load 3 (.tmp 85), 3, "path.go:33", #[⟨16, .data⟩], none⟩
def O89_8_18 : Oper := ⟨some 87, .call { callee := (.value (.func 81)), args := #[(.tmp 69), (.tmp 70), (.tmp 78), (.tmp 86)], argTypes := #[23, 3, 3, 3] }, 0, "path.go:33", #[⟨0, .data⟩, ⟨1, .data⟩, ⟨9, .data⟩, ⟨17, .data⟩], none⟩
def OPS89_8 : List Oper := [O89_8_0, O89_8_1, O89_8_2, O89_8_3, O89_8_4, O89_8_5, O89_8_6, O89_8_7, O89_8_8, O89_8_9, O89_8_10, O89_8_11, O89_8_12, O89_8_13, O89_8_14, O89_8_15, O89_8_16, O89_8_17, O89_8_18]
theorem NS89_8 : Region.noSelect OPS89_8.toArray = true := by kernel_rfl
def O89_10_0 : Oper := ⟨some 100, .move (.tmp 0), 23, "path.go:36", #[], none⟩
def O89_10_1 : Oper := ⟨some 101, .move (.tmp 4), 3, "path.go:36", #[], none⟩
def O89_10_2 : Oper := ⟨some 102, .move (.tmp 0), 23, "path.go:36", #[], none⟩
def O89_10_3 : Oper := ⟨some 103, .nilCheck (.tmp 102), 0, "path.go:36", #[⟨2, .data⟩], none⟩
def O89_10_4 : Oper := ⟨some 104, .fieldAddr 66 (.tmp 103) 1, 0, "path.go:36", #[⟨3, .data⟩], none⟩
def O89_10_5 : Oper := ⟨some 105, .load 64 (.tmp 104), 64, "path.go:36", #[⟨4, .data⟩], none⟩
def O89_10_6 : Oper := ⟨some 106, .move (.tmp 4), 3, "path.go:36", #[], none⟩
def O89_10_7 : Oper := ⟨some 107, .indexAddr 64 (.tmp 105) (.tmp 106), 0, "path.go:36", #[⟨5, .data⟩, ⟨6, .data⟩], none⟩
def O89_10_8 : Oper := ⟨some 108, .fieldAddr 75 (.tmp 107) 1, 0, "path.go:36", #[⟨7, .data⟩], none⟩
def O89_10_9 : Oper := ⟨some 109, .load 3 (.tmp 108), 3, "path.go:36", #[⟨8, .data⟩], none⟩
def O89_10_10 : Oper := ⟨some 110, .move (.tmp 0), 23, "path.go:36", #[], none⟩
def O89_10_11 : Oper := ⟨some 111, .nilCheck (.tmp 110), 0, "path.go:36", #[⟨10, .data⟩], none⟩
def O89_10_12 : Oper := ⟨some 112, .fieldAddr 66 (.tmp 111) 1, 0, "path.go:36", #[⟨11, .data⟩], none⟩
def O89_10_13 : Oper := ⟨some 113, .load 64 (.tmp 112), 64, "path.go:36", #[⟨12, .data⟩], none⟩
def O89_10_14 : Oper := ⟨some 114, .move (.tmp 1), 3, "path.go:36", #[], none⟩
def O89_10_15 : Oper := ⟨some 115, .indexAddr 64 (.tmp 113) (.tmp 114), 0, "path.go:36", #[⟨13, .data⟩, ⟨14, .data⟩], none⟩
def O89_10_16 : Oper := ⟨some 116, .fieldAddr 75 (.tmp 115) 1, 0, "path.go:36", #[⟨15, .data⟩], none⟩
def O89_10_17 : Oper := ⟨some 117, .load 3 (.tmp 116), 3, "path.go:36", #[⟨16, .data⟩], none⟩
def O89_10_18 : Oper := ⟨some 118, .call { callee := (.value (.func 81)), args := #[(.tmp 100), (.tmp 101), (.tmp 109), (.tmp 117)], argTypes := #[23, 3, 3, 3] }, 0, "path.go:36", #[⟨0, .data⟩, ⟨1, .data⟩, ⟨9, .data⟩, ⟨17, .data⟩], none⟩
def OPS89_10 : List Oper := [O89_10_0, O89_10_1, O89_10_2, O89_10_3, O89_10_4, O89_10_5, O89_10_6, O89_10_7, O89_10_8, O89_10_9, O89_10_10, O89_10_11, O89_10_12, O89_10_13, O89_10_14, O89_10_15, O89_10_16, O89_10_17, O89_10_18]
theorem NS89_10 : Region.noSelect OPS89_10.toArray = true := by kernel_rfl
set_option maxHeartbeats 4000000 in
theorem l89 {p g n cap room t u o : Nat} {S : Ss} {Q : Exit → Act → World → Prop} {a0 : Act} {w0 w : World} (K0 : Kn a0 139 [(0, .pointer (some ⟨p, 0, none⟩)), (1, .int .i64 (t : Int)), (4, .int .i64 (u : Int)), (5, .int .i64 (o : Int))]) (h : Pool w p g n cap room S) (hk : Keep [g] w0 w) (ht : t < n) (hu : u < n) (htu : t ≠ u)
    (x1 : (S t).r < n) (x2 : (S u).r < n) (x3 : (S t).r ≠ u) (x4 : (S u).r ≠ u) (hb : Gbd (besideS S u (S t).r (S u).r) u) {S2 : Ss} (hS2 : S2 = holdS S u (S t).r (S u).r) (y1 : (S2 t).l < n) (y2 : (S2 t).l ≠ t) (hb2 : Gbd (besideS S2 t (S2 t).l u) t)
    (hN : ∀ a' W, Kn a' 139 [(0, .pointer (some ⟨p, 0, none⟩)), (1, .int .i64 (t : Int)), (4, .int .i64 (u : Int)), (5, .int .i64 (o : Int))] → Pool W p g n cap room (holdS S2 t (S2 t).l u) → Keep [g] w0 W → Q .normal a' W) : (Code.seq (Code.region 8 OPS89_8.toArray true) (Code.region 9 (rg [1, 1, 1, 0, 1, 0, 1] Try.f89).toArray false)).wp Try.prog Q a0 w := by
  have PH := hide h.drew
  have KP := hide ((hk.drew))
  have HB := hide (And.intro hb hb2)
  clear h hk hb hb2
  have e1 : (0 : Int) ≤ (t : Int) := by omega
  have e2 : (t : Int) < (n : Int) := by omega
  have e3 : (0 : Int) ≤ (u : Int) := by omega
  have e4 : (u : Int) < (n : Int) := by omega
  refine seqN ?_
  refine wp_region_still_tail 18 (by kernel_rfl) (by kernel_rfl) ?_
  change wpStill _ _ w.drew _ _ _
  refine stake (o := O89_8_0) (v := .pointer (some ⟨p, 0, none⟩)) K0 rfl rfl (want_none rfl) (fun ev E => ?_) (fun a1 K1 => ?_)
  · clear hN PH KP HB; have E0 := E.tmp 0 _ rfl; clear E; unfold O89_8_0; go_simp
  refine stake (o := O89_8_1) (v := .int .i64 (u : Int)) K1 rfl rfl (want_none rfl) (fun ev E => ?_) (fun a2 K2 => ?_)
  · clear hN PH KP HB; have E4 := E.tmp 4 _ rfl; clear E; unfold O89_8_1; go_simp
  clear K1
  refine stake (o := O89_8_2) (v := .pointer (some ⟨p, 0, none⟩)) K2 rfl rfl (want_none rfl) (fun ev E => ?_) (fun a3 K3 => ?_)
  · clear hN PH KP HB; have E0 := E.tmp 0 _ rfl; clear E; unfold O89_8_2; go_simp
  clear K2
  refine stake (o := O89_8_3) (v := .pointer (some ⟨p, 0, none⟩)) K3 rfl rfl (want_none rfl) (fun ev E => ?_) (fun a4 K4 => ?_)
  · clear hN PH KP HB; have E71 := E.tmp 71 _ rfl; clear E; unfold O89_8_3; go_simp
  clear K3
  refine stake (o := O89_8_4) (v := .pointer (some ⟨p, 1, none⟩)) K4 rfl rfl (want_none rfl) (fun ev E => ?_) (fun a5 K5 => ?_)
  · clear hN PH KP HB; have E72 := E.tmp 72 _ rfl; clear E; unfold O89_8_4; go_simp
  clear K4
  refine stake (o := O89_8_5) (v := .slice (some ⟨g, 0, none⟩) n cap) K5 rfl rfl (want_none rfl) (fun ev E => ?_) (fun a6 K6 => ?_)
  · obtain ⟨c0, c1, _⟩ := (unhide PH).head; clear hN PH KP HB; have E73 := E.tmp 73 _ rfl; clear E; unfold O89_8_5; go_simp
  clear K5
  refine stake (o := O89_8_6) (v := .int .i64 (t : Int)) K6 rfl rfl (want_none rfl) (fun ev E => ?_) (fun a7 K7 => ?_)
  · clear hN PH KP HB; have E1 := E.tmp 1 _ rfl; clear E; unfold O89_8_6; go_simp
  clear K6
  refine stake (o := O89_8_7) (v := .pointer (some ⟨g, t * 14, none⟩)) K7 rfl rfl (want_none rfl) (fun ev E => ?_) (fun a8 K8 => ?_)
  · clear hN PH KP HB; have E74 := E.tmp 74 _ rfl; have E75 := E.tmp 75 _ rfl; clear E; unfold O89_8_7; go_simp
  clear K7
  refine stake (o := O89_8_8) (v := .pointer (some ⟨g, t * 14 + 2, none⟩)) K8 rfl rfl (want_none rfl) (fun ev E => ?_) (fun a9 K9 => ?_)
  · clear hN PH KP HB; have E76 := E.tmp 76 _ rfl; clear E; unfold O89_8_8; go_simp
  clear K8
  refine stake (o := O89_8_9) (v := .int .i64 ((S t).r : Int)) K9 rfl rfl (want_none rfl) (fun ev E => ?_) (fun a10 K10 => ?_)
  · obtain ⟨s0, s1, s2, s3, s4, s5, s6, s7, s8, s9, s10, s11, s12, s13⟩ := (unhide PH).slot (t := t) (by assumption); clear hN PH KP HB; have E77 := E.tmp 77 _ rfl; clear E; unfold O89_8_9; go_simp
  clear K9
  refine stake (o := O89_8_10) (v := .pointer (some ⟨p, 0, none⟩)) K10 rfl rfl (want_none rfl) (fun ev E => ?_) (fun a11 K11 => ?_)
  · clear hN PH KP HB; have E0 := E.tmp 0 _ rfl; clear E; unfold O89_8_10; go_simp
  clear K10
  refine stake (o := O89_8_11) (v := .pointer (some ⟨p, 0, none⟩)) K11 rfl rfl (want_none rfl) (fun ev E => ?_) (fun a12 K12 => ?_)
  · clear hN PH KP HB; have E79 := E.tmp 79 _ rfl; clear E; unfold O89_8_11; go_simp
  clear K11
  refine stake (o := O89_8_12) (v := .pointer (some ⟨p, 1, none⟩)) K12 rfl rfl (want_none rfl) (fun ev E => ?_) (fun a13 K13 => ?_)
  · clear hN PH KP HB; have E80 := E.tmp 80 _ rfl; clear E; unfold O89_8_12; go_simp
  clear K12
  refine stake (o := O89_8_13) (v := .slice (some ⟨g, 0, none⟩) n cap) K13 rfl rfl (want_none rfl) (fun ev E => ?_) (fun a14 K14 => ?_)
  · obtain ⟨c0, c1, _⟩ := (unhide PH).head; clear hN PH KP HB; have E81 := E.tmp 81 _ rfl; clear E; unfold O89_8_13; go_simp
  clear K13
  refine stake (o := O89_8_14) (v := .int .i64 (u : Int)) K14 rfl rfl (want_none rfl) (fun ev E => ?_) (fun a15 K15 => ?_)
  · clear hN PH KP HB; have E4 := E.tmp 4 _ rfl; clear E; unfold O89_8_14; go_simp
  clear K14
  refine stake (o := O89_8_15) (v := .pointer (some ⟨g, u * 14, none⟩)) K15 rfl rfl (want_none rfl) (fun ev E => ?_) (fun a16 K16 => ?_)
  · clear hN PH KP HB; have E82 := E.tmp 82 _ rfl; have E83 := E.tmp 83 _ rfl; clear E; unfold O89_8_15; go_simp
  clear K15
  refine stake (o := O89_8_16) (v := .pointer (some ⟨g, u * 14 + 2, none⟩)) K16 rfl rfl (want_none rfl) (fun ev E => ?_) (fun a17 K17 => ?_)
  · clear hN PH KP HB; have E84 := E.tmp 84 _ rfl; clear E; unfold O89_8_16; go_simp
  clear K16
  refine stake (o := O89_8_17) (v := .int .i64 ((S u).r : Int)) K17 rfl rfl (want_none rfl) (fun ev E => ?_) (fun a18 K18 => ?_)
  · obtain ⟨s0, s1, s2, s3, s4, s5, s6, s7, s8, s9, s10, s11, s12, s13⟩ := (unhide PH).slot (t := u) (by assumption); clear hN PH KP HB; have E85 := E.tmp 85 _ rfl; clear E; unfold O89_8_17; go_simp
  clear K17
  refine wpStill_nil ?_
  change wpList _ _ _ [_] _ w.drew
  generalize w.drew = V at *
  refine lcall (f := 81) (args := #[.pointer (some ⟨p, 0, none⟩), .int .i64 (u : Int), .int .i64 ((S t).r : Int), .int .i64 ((S u).r : Int)]) K18 rfl rfl (want_none rfl) (fun ev E => ?_) (hold_any (unhide PH) hu x1 x2 x3 x4 (unhide HB).1) (fun e W1 hR => ?_)
  · have EF := E.func; have E69 := E.tmp 69 _ rfl; have E70 := E.tmp 70 _ rfl; have E78 := E.tmp 78 _ rfl; have E86 := E.tmp 86 _ rfl; clear E; unfold O89_8_18; clear hN PH KP HB; go_simp
  obtain ⟨rfl, P1, Q1⟩ := hR
  rw [← hS2] at P1
  clear PH
  have PH := hide P1
  have Q2 := hide ((unhide KP).tr Q1)
  clear KP P1 Q1
  have KP := Q2
  clear Q2
  refine ⟨_, rfl, fun a19 K19 => ?_⟩
  clear K18
  refine nilN ?_
  have K20 : Kn _ 139 [(0, .pointer (some ⟨p, 0, none⟩)), (1, .int .i64 (t : Int)), (4, .int .i64 (u : Int)), (5, .int .i64 (o : Int))] := K19.less ⟨rfl, rfl, rfl, rfl, trivial⟩
  clear K19
  refine lastN ?_
  refine wp_region_lit ?_
  refine lmv K20 rfl rfl (want_none rfl) rfl rfl (fun a21 K21 => ?_)
  clear K20
  refine lmv K21 rfl rfl (want_none rfl) rfl rfl (fun a22 K22 => ?_)
  clear K21
  refine lmv K22 rfl rfl (want_none rfl) rfl rfl (fun a23 K23 => ?_)
  clear K22
  refine lnc K23 rfl rfl (want_none rfl) rfl rfl (fun a24 K24 => ?_)
  clear K23
  refine lfa K24 rfl rfl (want_none rfl) rfl rfl FA66_1 (fun a25 K25 => ?_)
  clear K24
  refine ltake (v := .slice (some ⟨g, 0, none⟩) n cap) (w' := W1) K25 rfl rfl (want_none rfl) (fun ev E => ?_) (fun a26 K26 => ?_)
  · obtain ⟨c0, c1, _⟩ := (unhide PH).head; have E92 := E.tmp 92 _ rfl; clear E; clear hN PH KP HB; go_simp
  clear K25
  refine lmv K26 rfl rfl (want_none rfl) rfl rfl (fun a27 K27 => ?_)
  clear K26
  refine ltake (v := .pointer (some ⟨g, t * 14, none⟩)) (w' := W1) K27 rfl rfl (want_none rfl) (fun ev E => ?_) (fun a28 K28 => ?_)
  · have E93 := E.tmp 93 _ rfl; have E94 := E.tmp 94 _ rfl; clear E; clear hN PH KP HB; go_simp
  clear K27
  refine lfa K28 rfl rfl (want_none rfl) rfl rfl FA75_1 (fun a29 K29 => ?_)
  clear K28
  refine ltake (v := .int .i64 ((S2 t).l : Int)) (w' := W1) K29 rfl rfl (want_none rfl) (fun ev E => ?_) (fun a30 K30 => ?_)
  · obtain ⟨s0, s1, s2, s3, s4, s5, s6, s7, s8, s9, s10, s11, s12, s13⟩ := (unhide PH).slot (t := t) (by assumption); have E96 := E.tmp 96 _ rfl; clear E; clear hN PH KP HB; go_simp
  clear K29
  refine lmv K30 rfl rfl (want_none rfl) rfl rfl (fun a31 K31 => ?_)
  clear K30
  refine lcall (f := 81) (args := #[.pointer (some ⟨p, 0, none⟩), .int .i64 (t : Int), .int .i64 ((S2 t).l : Int), .int .i64 (u : Int)]) K31 rfl rfl (want_none rfl) (fun ev E => ?_) (hold_any (unhide PH) ht y1 hu y2 (fun e => htu e.symm) (unhide HB).2) (fun e W2 hR => ?_)
  · have EF := E.func; have E88 := E.tmp 88 _ rfl; have E89 := E.tmp 89 _ rfl; have E97 := E.tmp 97 _ rfl; have E98 := E.tmp 98 _ rfl; clear E; clear hN PH KP HB; go_simp
  obtain ⟨rfl, P1, Q1⟩ := hR
  have Q2 := hide ((unhide KP).tr Q1)
  clear PH KP Q1
  have PH := hide P1
  have KP := Q2
  clear Q2 P1
  refine ⟨_, rfl, fun a32 K32 => ?_⟩
  clear K31
  refine wpList_nil ?_
  exact hN _ _ (K32.less ⟨rfl, rfl, rfl, rfl, trivial⟩) (unhide PH) (unhide KP)
set_option maxHeartbeats 4000000 in
theorem r89 {p g n cap room t u o : Nat} {S : Ss} {Q : Exit → Act → World → Prop} {a0 : Act} {w0 w : World} (K0 : Kn a0 139 [(0, .pointer (some ⟨p, 0, none⟩)), (1, .int .i64 (t : Int)), (4, .int .i64 (u : Int)), (5, .int .i64 (o : Int))]) (h : Pool w p g n cap room S) (hk : Keep [g] w0 w) (ht : t < n) (hu : u < n) (htu : t ≠ u)
    (x1 : (S u).l < n) (x2 : (S t).l < n) (x3 : (S u).l ≠ u) (x4 : (S t).l ≠ u) (hb : Gbd (besideS S u (S u).l (S t).l) u) {S2 : Ss} (hS2 : S2 = holdS S u (S u).l (S t).l) (y1 : (S2 t).r < n) (y2 : (S2 t).r ≠ t) (hb2 : Gbd (besideS S2 t u (S2 t).r) t)
    (hN : ∀ a' W, Kn a' 139 [(0, .pointer (some ⟨p, 0, none⟩)), (1, .int .i64 (t : Int)), (4, .int .i64 (u : Int)), (5, .int .i64 (o : Int))] → Pool W p g n cap room (holdS S2 t u (S2 t).r) → Keep [g] w0 W → Q .normal a' W) : (Code.seq (Code.region 10 OPS89_10.toArray true) (Code.region 11 (rg [1, 1, 1, 0, 1, 1, 1] Try.f89).toArray false)).wp Try.prog Q a0 w := by
  have PH := hide h.drew
  have KP := hide ((hk.drew))
  have HB := hide (And.intro hb hb2)
  clear h hk hb hb2
  have e1 : (0 : Int) ≤ (t : Int) := by omega
  have e2 : (t : Int) < (n : Int) := by omega
  have e3 : (0 : Int) ≤ (u : Int) := by omega
  have e4 : (u : Int) < (n : Int) := by omega
  refine seqN ?_
  refine wp_region_still_tail 18 (by kernel_rfl) (by kernel_rfl) ?_
  change wpStill _ _ w.drew _ _ _
  refine stake (o := O89_10_0) (v := .pointer (some ⟨p, 0, none⟩)) K0 rfl rfl (want_none rfl) (fun ev E => ?_) (fun a1 K1 => ?_)
  · clear hN PH KP HB; have E0 := E.tmp 0 _ rfl; clear E; unfold O89_10_0; go_simp
  refine stake (o := O89_10_1) (v := .int .i64 (u : Int)) K1 rfl rfl (want_none rfl) (fun ev E => ?_) (fun a2 K2 => ?_)
  · clear hN PH KP HB; have E4 := E.tmp 4 _ rfl; clear E; unfold O89_10_1; go_simp
  clear K1
  refine stake (o := O89_10_2) (v := .pointer (some ⟨p, 0, none⟩)) K2 rfl rfl (want_none rfl) (fun ev E => ?_) (fun a3 K3 => ?_)
  · clear hN PH KP HB; have E0 := E.tmp 0 _ rfl; clear E; unfold O89_10_2; go_simp
  clear K2
  refine stake (o := O89_10_3) (v := .pointer (some ⟨p, 0, none⟩)) K3 rfl rfl (want_none rfl) (fun ev E => ?_) (fun a4 K4 => ?_)
  · clear hN PH KP HB; have E102 := E.tmp 102 _ rfl; clear E; unfold O89_10_3; go_simp
  clear K3
  refine stake (o := O89_10_4) (v := .pointer (some ⟨p, 1, none⟩)) K4 rfl rfl (want_none rfl) (fun ev E => ?_) (fun a5 K5 => ?_)
  · clear hN PH KP HB; have E103 := E.tmp 103 _ rfl; clear E; unfold O89_10_4; go_simp
  clear K4
  refine stake (o := O89_10_5) (v := .slice (some ⟨g, 0, none⟩) n cap) K5 rfl rfl (want_none rfl) (fun ev E => ?_) (fun a6 K6 => ?_)
  · obtain ⟨c0, c1, _⟩ := (unhide PH).head; clear hN PH KP HB; have E104 := E.tmp 104 _ rfl; clear E; unfold O89_10_5; go_simp
  clear K5
  refine stake (o := O89_10_6) (v := .int .i64 (u : Int)) K6 rfl rfl (want_none rfl) (fun ev E => ?_) (fun a7 K7 => ?_)
  · clear hN PH KP HB; have E4 := E.tmp 4 _ rfl; clear E; unfold O89_10_6; go_simp
  clear K6
  refine stake (o := O89_10_7) (v := .pointer (some ⟨g, u * 14, none⟩)) K7 rfl rfl (want_none rfl) (fun ev E => ?_) (fun a8 K8 => ?_)
  · clear hN PH KP HB; have E105 := E.tmp 105 _ rfl; have E106 := E.tmp 106 _ rfl; clear E; unfold O89_10_7; go_simp
  clear K7
  refine stake (o := O89_10_8) (v := .pointer (some ⟨g, u * 14 + 1, none⟩)) K8 rfl rfl (want_none rfl) (fun ev E => ?_) (fun a9 K9 => ?_)
  · clear hN PH KP HB; have E107 := E.tmp 107 _ rfl; clear E; unfold O89_10_8; go_simp
  clear K8
  refine stake (o := O89_10_9) (v := .int .i64 ((S u).l : Int)) K9 rfl rfl (want_none rfl) (fun ev E => ?_) (fun a10 K10 => ?_)
  · obtain ⟨s0, s1, s2, s3, s4, s5, s6, s7, s8, s9, s10, s11, s12, s13⟩ := (unhide PH).slot (t := u) (by assumption); clear hN PH KP HB; have E108 := E.tmp 108 _ rfl; clear E; unfold O89_10_9; go_simp
  clear K9
  refine stake (o := O89_10_10) (v := .pointer (some ⟨p, 0, none⟩)) K10 rfl rfl (want_none rfl) (fun ev E => ?_) (fun a11 K11 => ?_)
  · clear hN PH KP HB; have E0 := E.tmp 0 _ rfl; clear E; unfold O89_10_10; go_simp
  clear K10
  refine stake (o := O89_10_11) (v := .pointer (some ⟨p, 0, none⟩)) K11 rfl rfl (want_none rfl) (fun ev E => ?_) (fun a12 K12 => ?_)
  · clear hN PH KP HB; have E110 := E.tmp 110 _ rfl; clear E; unfold O89_10_11; go_simp
  clear K11
  refine stake (o := O89_10_12) (v := .pointer (some ⟨p, 1, none⟩)) K12 rfl rfl (want_none rfl) (fun ev E => ?_) (fun a13 K13 => ?_)
  · clear hN PH KP HB; have E111 := E.tmp 111 _ rfl; clear E; unfold O89_10_12; go_simp
  clear K12
  refine stake (o := O89_10_13) (v := .slice (some ⟨g, 0, none⟩) n cap) K13 rfl rfl (want_none rfl) (fun ev E => ?_) (fun a14 K14 => ?_)
  · obtain ⟨c0, c1, _⟩ := (unhide PH).head; clear hN PH KP HB; have E112 := E.tmp 112 _ rfl; clear E; unfold O89_10_13; go_simp
  clear K13
  refine stake (o := O89_10_14) (v := .int .i64 (t : Int)) K14 rfl rfl (want_none rfl) (fun ev E => ?_) (fun a15 K15 => ?_)
  · clear hN PH KP HB; have E1 := E.tmp 1 _ rfl; clear E; unfold O89_10_14; go_simp
  clear K14
  refine stake (o := O89_10_15) (v := .pointer (some ⟨g, t * 14, none⟩)) K15 rfl rfl (want_none rfl) (fun ev E => ?_) (fun a16 K16 => ?_)
  · clear hN PH KP HB; have E113 := E.tmp 113 _ rfl; have E114 := E.tmp 114 _ rfl; clear E; unfold O89_10_15; go_simp
  clear K15
  refine stake (o := O89_10_16) (v := .pointer (some ⟨g, t * 14 + 1, none⟩)) K16 rfl rfl (want_none rfl) (fun ev E => ?_) (fun a17 K17 => ?_)
  · clear hN PH KP HB; have E115 := E.tmp 115 _ rfl; clear E; unfold O89_10_16; go_simp
  clear K16
  refine stake (o := O89_10_17) (v := .int .i64 ((S t).l : Int)) K17 rfl rfl (want_none rfl) (fun ev E => ?_) (fun a18 K18 => ?_)
  · obtain ⟨s0, s1, s2, s3, s4, s5, s6, s7, s8, s9, s10, s11, s12, s13⟩ := (unhide PH).slot (t := t) (by assumption); clear hN PH KP HB; have E116 := E.tmp 116 _ rfl; clear E; unfold O89_10_17; go_simp
  clear K17
  refine wpStill_nil ?_
  change wpList _ _ _ [_] _ w.drew
  generalize w.drew = V at *
  refine lcall (f := 81) (args := #[.pointer (some ⟨p, 0, none⟩), .int .i64 (u : Int), .int .i64 ((S u).l : Int), .int .i64 ((S t).l : Int)]) K18 rfl rfl (want_none rfl) (fun ev E => ?_) (hold_any (unhide PH) hu x1 x2 x3 x4 (unhide HB).1) (fun e W1 hR => ?_)
  · have EF := E.func; have E100 := E.tmp 100 _ rfl; have E101 := E.tmp 101 _ rfl; have E109 := E.tmp 109 _ rfl; have E117 := E.tmp 117 _ rfl; clear E; unfold O89_10_18; clear hN PH KP HB; go_simp
  obtain ⟨rfl, P1, Q1⟩ := hR
  rw [← hS2] at P1
  clear PH
  have PH := hide P1
  have Q2 := hide ((unhide KP).tr Q1)
  clear KP P1 Q1
  have KP := Q2
  clear Q2
  refine ⟨_, rfl, fun a19 K19 => ?_⟩
  clear K18
  refine nilN ?_
  have K20 : Kn _ 139 [(0, .pointer (some ⟨p, 0, none⟩)), (1, .int .i64 (t : Int)), (4, .int .i64 (u : Int)), (5, .int .i64 (o : Int))] := K19.less ⟨rfl, rfl, rfl, rfl, trivial⟩
  clear K19
  refine lastN ?_
  refine wp_region_lit ?_
  refine lmv K20 rfl rfl (want_none rfl) rfl rfl (fun a21 K21 => ?_)
  clear K20
  refine lmv K21 rfl rfl (want_none rfl) rfl rfl (fun a22 K22 => ?_)
  clear K21
  refine lmv K22 rfl rfl (want_none rfl) rfl rfl (fun a23 K23 => ?_)
  clear K22
  refine lmv K23 rfl rfl (want_none rfl) rfl rfl (fun a24 K24 => ?_)
  clear K23
  refine lnc K24 rfl rfl (want_none rfl) rfl rfl (fun a25 K25 => ?_)
  clear K24
  refine lfa K25 rfl rfl (want_none rfl) rfl rfl FA66_1 (fun a26 K26 => ?_)
  clear K25
  refine ltake (v := .slice (some ⟨g, 0, none⟩) n cap) (w' := W1) K26 rfl rfl (want_none rfl) (fun ev E => ?_) (fun a27 K27 => ?_)
  · obtain ⟨c0, c1, _⟩ := (unhide PH).head; have E124 := E.tmp 124 _ rfl; clear E; clear hN PH KP HB; go_simp
  clear K26
  refine lmv K27 rfl rfl (want_none rfl) rfl rfl (fun a28 K28 => ?_)
  clear K27
  refine ltake (v := .pointer (some ⟨g, t * 14, none⟩)) (w' := W1) K28 rfl rfl (want_none rfl) (fun ev E => ?_) (fun a29 K29 => ?_)
  · have E125 := E.tmp 125 _ rfl; have E126 := E.tmp 126 _ rfl; clear E; clear hN PH KP HB; go_simp
  clear K28
  refine lfa K29 rfl rfl (want_none rfl) rfl rfl FA75_2 (fun a30 K30 => ?_)
  clear K29
  refine ltake (v := .int .i64 ((S2 t).r : Int)) (w' := W1) K30 rfl rfl (want_none rfl) (fun ev E => ?_) (fun a31 K31 => ?_)
  · obtain ⟨s0, s1, s2, s3, s4, s5, s6, s7, s8, s9, s10, s11, s12, s13⟩ := (unhide PH).slot (t := t) (by assumption); have E128 := E.tmp 128 _ rfl; clear E; clear hN PH KP HB; go_simp
  clear K30
  refine lcall (f := 81) (args := #[.pointer (some ⟨p, 0, none⟩), .int .i64 (t : Int), .int .i64 (u : Int), .int .i64 ((S2 t).r : Int)]) K31 rfl rfl (want_none rfl) (fun ev E => ?_) (hold_any (unhide PH) ht hu y1 (fun e => htu e.symm) y2 (unhide HB).2) (fun e W2 hR => ?_)
  · have EF := E.func; have E119 := E.tmp 119 _ rfl; have E120 := E.tmp 120 _ rfl; have E121 := E.tmp 121 _ rfl; have E129 := E.tmp 129 _ rfl; clear E; clear hN PH KP HB; go_simp
  obtain ⟨rfl, P1, Q1⟩ := hR
  have Q2 := hide ((unhide KP).tr Q1)
  clear PH KP Q1
  have PH := hide P1
  have KP := Q2
  clear Q2 P1
  refine ⟨_, rfl, fun a32 K32 => ?_⟩
  clear K31
  refine wpList_nil ?_
  exact hN _ _ (K32.less ⟨rfl, rfl, rfl, rfl, trivial⟩) (unhide PH) (unhide KP)
end Go.Proofs.Ytjnkgakajenoaaa
/- Forests as plain mathematics: ways up, and what follows. No Go in sight. -/

namespace Go.Proofs.Ytjnkgakajenoaaa

/-- The way up from a node: -1: a root; -2: not there. -/
def Up (par : Nat → Int) : Nat → List Nat → Prop
  | _, [] => False
  | v, [x] => v = x ∧ par v = -1
  | v, x :: y :: l => v = x ∧ par v = (y : Int) ∧ Up par y (y :: l)
theorem Up.root {par : Nat → Int} {v : Nat} (h : par v = -1) : Up par v [v] := ⟨rfl, h⟩
theorem Up.fst {par : Nat → Int} {v : Nat} : ∀ {l : List Nat}, Up par v l → ∃ t, l = v :: t
  | [], h => h.elim
  | [x], h => ⟨[], by rw [h.1]⟩
  | x :: y :: l, h => ⟨y :: l, by rw [h.1]⟩
theorem Up.step {par : Nat → Int} {v p : Nat} {l : List Nat} (h : par v = (p : Int)) (hu : Up par p l) : Up par v (v :: l) := by
  obtain ⟨t, rfl⟩ := hu.fst
  exact ⟨rfl, h, hu⟩
theorem Up.ind {par : Nat → Int} {motive : (v : Nat) → (l : List Nat) → Up par v l → Prop} (root : ∀ {v : Nat} (h : par v = -1), motive v [v] (Up.root h))
    (step : ∀ {v p : Nat} {l : List Nat} (h : par v = (p : Int)) (hu : Up par p l), motive p l hu → motive v (v :: l) (Up.step h hu)) : ∀ {v : Nat} {l : List Nat} (h : Up par v l), motive v l h
  | _, [], h => h.elim
  | v, [x], h => by obtain ⟨rfl, h2⟩ := h; exact root h2
  | v, x :: y :: l, h => by obtain ⟨rfl, h2, h3⟩ := h; exact step h2 h3 (Up.ind root step h3)
theorem Up.cs {par : Nat → Int} {motive : (v : Nat) → (l : List Nat) → Up par v l → Prop} {v : Nat} {l : List Nat} (h : Up par v l) (root : ∀ {v : Nat} (h : par v = -1), motive v [v] (Up.root h))
    (step : ∀ {v p : Nat} {l : List Nat} (h : par v = (p : Int)) (hu : Up par p l), motive v (v :: l) (Up.step h hu)) : motive v l h :=
  Up.ind (motive := motive) root (fun h hu _ => step h hu) h

section
variable {par : Nat → Int} {v x : Nat} {l m a b : List Nat}
theorem Up.there (h : Up par v l) : par v ≠ -2 := by cases h using Up.cs <;> omega
theorem Up.head (h : Up par v l) : ∃ t, l = v :: t := h.fst
theorem Up.det (h : Up par v l) : ∀ {m}, Up par v m → l = m := by
  induction h using Up.ind with
  | root h => intro m k; cases k using Up.cs with
    | root => rfl
    | step h' _ => omega
  | step h hu ih => intro m k; cases k using Up.cs with
    | root h' => omega
    | step h' hu' => have e := h.symm.trans h'; have e' := Int.ofNat_inj.1 e; subst e'; rw [ih hu']
theorem Up.mem (h : Up par v l) : ∀ x ∈ l, par x ≠ -2 := by
  induction h using Up.ind with
  | root h => intro x hx; simp at hx; subst hx; omega
  | step h hu ih => intro x hx; rcases List.mem_cons.1 hx with rfl | hx; omega; exact ih x hx
theorem Up.suffix (h : Up par v l) : ∀ {a x b}, l = a ++ x :: b → Up par x (x :: b) := by
  induction h using Up.ind with
  | root h =>
    intro a x b e
    cases a with
    | nil => simp at e; obtain ⟨rfl, rfl⟩ := e; exact .root h
    | cons y a => simp at e
  | step h hu ih =>
    intro a x b e
    cases a with
    | nil => simp at e; obtain ⟨rfl, rfl⟩ := e; exact .step h hu
    | cons y a => simp at e; exact ih e.2
theorem Up.nodup (h : Up par v l) : l.Nodup := by
  induction h using Up.ind with
  | root => simp
  | @step v p l h hu ih =>
    refine List.nodup_cons.2 ⟨fun hm => ?_, ih⟩
    obtain ⟨a, b, rfl⟩ := List.append_of_mem hm
    have h1 := (Up.step h hu).det (hu.suffix rfl)
    have h2 := congrArg List.length h1
    simp at h2
    omega
/-- What stands behind the first one. -/
theorem Up.next (h : Up par v (v :: l)) : (par v = -1 ∧ l = []) ∨ ∃ p : Nat, par v = (p : Int) ∧ Up par p l := by
  cases l with
  | nil => exact .inl ⟨h.2, rfl⟩
  | cons y l => exact .inr ⟨y, h.2.1, h.2.2⟩

def lastI : List Nat → Int
  | [] => -1
  | [v] => v
  | _ :: y :: l => lastI (y :: l)
theorem lastI_cons (v : Nat) {l : List Nat} (h : l ≠ []) : lastI (v :: l) = lastI l := by
  cases l with
  | nil => exact absurd rfl h
  | cons y l => rfl
theorem lastI_append (l : List Nat) {m : List Nat} (h : m ≠ []) : lastI (l ++ m) = lastI m := by
  induction l with
  | nil => rfl
  | cons v l ih => rw [List.cons_append, lastI_cons _ (by simp [h]), ih]
theorem lastI_snoc (l : List Nat) (v : Nat) : lastI (l ++ [v]) = v := lastI_append l (by simp)
theorem lastI_mem {l : List Nat} (h : l ≠ []) : ∃ r ∈ l, lastI l = (r : Int) := by
  induction l with
  | nil => exact absurd rfl h
  | cons v l ih =>
    by_cases hl : l = []
    · subst hl; exact ⟨v, by simp, rfl⟩
    · obtain ⟨r, hr, e⟩ := ih hl; exact ⟨r, by simp [hr], by rw [lastI_cons v hl]; exact e⟩
theorem Up.ne (h : Up par v l) : l ≠ [] := by obtain ⟨t, rfl⟩ := h.fst; simp
/-- The root. -/
theorem Up.last (h : Up par v l) : ∃ (r : Nat) (a : List Nat), l = a ++ [r] ∧ lastI l = (r : Int) ∧ par r = -1 := by
  induction h using Up.ind with
  | @root v h => exact ⟨v, [], rfl, rfl, h⟩
  | @step v p l h hu ih =>
    obtain ⟨r, a, e1, e2, e3⟩ := ih
    exact ⟨r, v :: a, by rw [e1]; rfl, by rw [lastI_cons v hu.ne]; exact e2, e3⟩
/-- A root on a way up is its last. -/
theorem Up.root_last (h : Up par v l) (hx : x ∈ l) (hr : par x = -1) : lastI l = (x : Int) := by
  obtain ⟨a, b, rfl⟩ := List.append_of_mem hx
  have h1 := h.suffix rfl
  rcases h1.next with ⟨_, rfl⟩ | ⟨p, e, _⟩
  · exact lastI_snoc a x
  · omega

theorem nodup_len : ∀ (n : Nat) (l : List Nat), l.Nodup → (∀ x ∈ l, x < n) → l.length ≤ n
  | 0, l, _, h => by
    cases l with
    | nil => simp
    | cons y l => exact absurd (h y (by simp)) (by omega)
  | n + 1, l, hd, h => by
    by_cases hm : n ∈ l
    · have h1 := nodup_len n (l.erase n) (hd.erase n) (fun x hx => by
        have h2 := (hd.mem_erase_iff).1 hx
        have h3 := h x h2.2
        have := h2.1
        omega)
      rw [List.length_erase_of_mem hm] at h1
      omega
    · have := nodup_len n l hd (fun x hx => by
        have h3 := h x hx
        have : x ≠ n := fun e => hm (e ▸ hx)
        omega)
      omega

def chainF (par : Nat → Int) : Nat → Nat → List Nat
  | 0, _ => []
  | k + 1, v => if par v = -2 then [] else if par v < 0 then [v] else v :: chainF par k (par v).toNat
theorem Up.chainF (h : Up par v l) : ∀ k, l.length ≤ k → chainF par k v = l := by
  induction h using Up.ind with
  | root h => intro k hk; cases k with
    | zero => simp at hk
    | succ k => simp [Go.Proofs.Ytjnkgakajenoaaa.chainF, h]
  | step h hu ih => intro k hk; cases k with
    | zero => simp at hk
    | succ k =>
      simp only [Go.Proofs.Ytjnkgakajenoaaa.chainF, h]
      rw [if_neg (by omega), if_neg (by omega), Int.toNat_natCast, ih k (by simpa using hk)]
theorem chainF_gone (h : par v = -2) (k : Nat) : chainF par k v = [] := by cases k <;> simp [chainF, h]
end

structure Tr where
  n : Nat
  par : Nat → Int
  wt : Nat → Int

/-- Each node that is there has a way up. -/
structure Tr.Wf (T : Tr) : Prop where
  lt : ∀ v, T.par v ≠ -2 → v < T.n
  up : ∀ v, T.par v ≠ -2 → ∃ l, Up T.par v l
/-- Weights are some. -/
structure Tr.Fit (T : Tr) : Prop where
  n : T.n ≤ 1048576
  wt : ∀ v, -1099511627776 ≤ T.wt v ∧ T.wt v ≤ 1099511627776
  zero : ∀ v, T.par v = -2 → T.wt v = 0

def Tr.up (T : Tr) (v : Nat) : List Nat := chainF T.par T.n v

section
variable {T : Tr} {v x c p : Nat} {l m : List Nat}
theorem Tr.Wf.len (h : T.Wf) (hu : Up T.par v l) : l.length ≤ T.n := nodup_len T.n l hu.nodup (fun x hx => h.lt x (hu.mem x hx))
theorem Tr.Wf.eq (h : T.Wf) (hu : Up T.par v l) : T.up v = l := hu.chainF _ (h.len hu)
theorem Tr.Wf.spec (h : T.Wf) (hv : T.par v ≠ -2) : Up T.par v (T.up v) := by
  obtain ⟨l, hl⟩ := h.up v hv
  rw [h.eq hl]; exact hl
theorem Tr.up_gone (T : Tr) (h : T.par v = -2) : T.up v = [] := chainF_gone h _
theorem Tr.Wf.nil (h : T.Wf) : T.up v = [] ↔ T.par v = -2 := ⟨fun e => Classical.byContradiction fun hn => (h.spec hn).ne e, T.up_gone⟩
theorem Tr.there (hx : x ∈ T.up v) : T.par v ≠ -2 := fun e => by rw [T.up_gone e] at hx; simp at hx
theorem Tr.Wf.there' (h : T.Wf) (hx : x ∈ T.up v) : T.par x ≠ -2 := (h.spec (Tr.there hx)).mem x hx
theorem Tr.Wf.self (h : T.Wf) (hv : T.par v ≠ -2) : v ∈ T.up v := by obtain ⟨t, e⟩ := (h.spec hv).head; rw [e]; simp
/-- One on the way up goes on as the way does. -/
theorem Tr.Wf.tail (h : T.Wf) {a b : List Nat} (e : T.up v = a ++ x :: b) : T.up x = x :: b :=
  h.eq ((h.spec (Tr.there (x := x) (by rw [e]; simp))).suffix e)
theorem Tr.Wf.trans (h : T.Wf) (h1 : x ∈ T.up v) (h2 : c ∈ T.up x) : c ∈ T.up v := by
  obtain ⟨a, b, e⟩ := List.append_of_mem h1
  rw [h.tail e] at h2
  rw [e]; simp only [List.mem_append]; exact .inr h2
theorem Tr.Wf.up_root (h : T.Wf) (hv : T.par v = -1) : T.up v = [v] := h.eq (.root hv)
theorem Tr.Wf.up_step (h : T.Wf) (hv : T.par v = (p : Int)) : T.up v = v :: T.up p := by
  have h1 := h.spec (v := v) (by omega)
  obtain ⟨t, e⟩ := h1.head
  rw [e] at h1 ⊢
  rcases h1.next with ⟨h2, _⟩ | ⟨q, h2, h3⟩
  · omega
  · obtain rfl : q = p := by omega
    rw [h.eq h3]
/-- The parent of one that is there is there. -/
theorem Tr.Wf.par_there (h : T.Wf) (hv : T.par v = (p : Int)) : T.par p ≠ -2 := by
  have h1 := h.spec (v := v) (by omega)
  rw [h.up_step hv] at h1
  exact h1.mem p (by
    have h2 : T.up p ≠ [] := fun e => by
      rw [e] at h1
      rcases h1.next with ⟨h3, _⟩ | ⟨q, _, h3⟩
      · omega
      · exact h3.ne rfl
    rcases h1.next with ⟨h3, _⟩ | ⟨q, h3, h4⟩
    · omega
    · obtain rfl : q = p := by omega
      obtain ⟨t, e⟩ := h4.head
      rw [e]; simp)
theorem Tr.Wf.par_cases (h : T.Wf) (hv : T.par v ≠ -2) : T.par v = -1 ∨ ∃ p : Nat, T.par v = (p : Int) ∧ T.par p ≠ -2 := by
  have h1 := h.spec hv
  obtain ⟨t, e⟩ := h1.head
  rw [e] at h1
  rcases h1.next with ⟨h3, _⟩ | ⟨q, h3, h4⟩
  · exact .inl h3
  · exact .inr ⟨q, h3, h4.there⟩
end

/-- What the calls answer, of any numbers. -/
def Tr.hasI (T : Tr) (v : Int) : Bool := decide (0 ≤ v) && (T.par v.toNat != -2)
def Tr.upI (T : Tr) (v : Int) : List Nat := if 0 ≤ v then T.up v.toNat else []
def Tr.rootI (T : Tr) (v : Int) : Int := lastI (T.upI v)
def Tr.parI (T : Tr) (v : Int) : Int := if T.hasI v then T.par v.toNat else -1
def Tr.sameI (T : Tr) (a b : Int) : Bool := (T.rootI a != -1) && (T.rootI a == T.rootI b)
def meetL (l m : List Nat) : Option Nat := l.find? (fun x => decide (x ∈ m))
def lcaL (l m : List Nat) : Int := match meetL l m with | some x => x | none => -1
def wayL (l m : List Nat) : List Nat := match meetL l m with | some t => t :: (l.takeWhile (· != t) ++ m.takeWhile (· != t)) | none => []
def Tr.lcaI (T : Tr) (a b : Int) : Int := lcaL (T.upI a) (T.upI b)
def Tr.wayI (T : Tr) (a b : Int) : List Nat := wayL (T.upI a) (T.upI b)
def Tr.pathI (T : Tr) (a b : Int) : Sm := ofL ((T.wayI a b).map T.wt)
def Tr.getI (T : Tr) (v : Int) : Int := if T.hasI v then T.wt v.toNat else 0
def Tr.sub (T : Tr) (v : Nat) : List Nat := (List.range T.n).filter (fun u => decide (v ∈ T.up u))
def Tr.subI (T : Tr) (v : Int) : Sm := if T.hasI v then ofL ((T.sub v.toNat).map T.wt) else zero
def Tr.sizeI (T : Tr) (v : Int) : Int := (T.subI (T.rootI v)).c

def updF {α : Type} (f : Nat → α) (v : Nat) (x : α) : Nat → α := fun u => if u = v then x else f u
/-- The parents, a way up turned round. -/
def turn (par : Nat → Int) (b : Int) : List Nat → (Nat → Int)
  | [] => par
  | v :: l => turn (updF par v b) v l

def Tr.add (T : Tr) (v : Nat) (w : Int) : Tr := { T with par := updF T.par v (-1), wt := updF T.wt v w }
def Tr.drop (T : Tr) (v : Nat) : Tr := { T with par := updF T.par v (-2), wt := updF T.wt v 0 }
def Tr.link (T : Tr) (c p : Nat) : Tr := { T with par := updF T.par c p }
def Tr.cut (T : Tr) (c : Nat) : Tr := { T with par := updF T.par c (-1) }
def Tr.evert (T : Tr) (v : Nat) : Tr := { T with par := turn T.par (-1) (T.up v) }
def Tr.set (T : Tr) (v : Nat) (w : Int) : Tr := { T with wt := updF T.wt v w }
def raiseF (wt : Nat → Int) (l : List Nat) (by' : Int) : Nat → Int := fun u => if u ∈ l then wt u + by' else wt u
def Tr.raise (T : Tr) (l : List Nat) (by' : Int) : Tr := { T with wt := raiseF T.wt l by' }

section
variable {T : Tr} {v x c p : Nat} {l m a0 b0 cc : List Nat}
theorem Tr.hasI_nat (T : Tr) (v : Nat) : T.hasI v = (T.par v != -2) := by simp [Tr.hasI]
theorem Tr.upI_nat (T : Tr) (v : Nat) : T.upI v = T.up v := by simp [Tr.upI]
theorem Tr.hasI_true {v : Int} (h : T.hasI v = true) : ∃ i : Nat, v = i ∧ T.par i ≠ -2 := by
  simp [Tr.hasI] at h
  exact ⟨v.toNat, by omega, h.2⟩
theorem Tr.upI_gone {v : Int} (h : T.hasI v = false) : T.upI v = [] := by
  unfold Tr.upI
  split
  · rename_i h0
    simp [Tr.hasI, h0] at h
    exact T.up_gone h
  · rfl
theorem Tr.Wf.upI_nil (h : T.Wf) {v : Int} : T.upI v = [] ↔ T.hasI v = false := by
  constructor
  · intro e
    cases hh : T.hasI v with
    | false => rfl
    | true =>
      obtain ⟨i, rfl, hi⟩ := Tr.hasI_true hh
      rw [T.upI_nat] at e
      exact absurd e (h.spec hi).ne
  · exact Tr.upI_gone
theorem Tr.rootI_gone {v : Int} (h : T.hasI v = false) : T.rootI v = -1 := by rw [Tr.rootI, Tr.upI_gone h]; rfl
theorem Tr.Wf.rootI_in (h : T.Wf) (hv : T.par v ≠ -2) : ∃ r : Nat, T.rootI v = r ∧ T.par r = -1 ∧ r ∈ T.up v := by
  obtain ⟨r, a, e1, e2, e3⟩ := (h.spec hv).last
  exact ⟨r, by rw [Tr.rootI, T.upI_nat]; exact e2, e3, by rw [e1]; simp⟩

/-- Two ways up that meet: t is the first of the one that is on the other. -/
structure Meet (l m : List Nat) (t : Nat) (a b c : List Nat) : Prop where
  el : l = a ++ t :: c
  em : m = b ++ t :: c
  ha : ∀ y ∈ a, y ∉ m
  hb : ∀ y ∈ b, y ∉ l

theorem takeWhile_split (a : List Nat) (t : Nat) (c : List Nat) (h : t ∉ a) : (a ++ t :: c).takeWhile (· != t) = a := by
  induction a with
  | nil => simp
  | cons y a ih =>
    simp only [List.mem_cons, not_or] at h
    rw [List.cons_append, List.takeWhile_cons, if_pos (by simpa [bne_iff_ne] using fun e => h.1 e.symm), ih h.2]
theorem Meet.na {t : Nat} (h : Meet l m t a0 b0 cc) : t ∉ a0 := fun hm => h.ha t hm (by rw [h.em]; simp)
theorem Meet.nb {t : Nat} (h : Meet l m t a0 b0 cc) : t ∉ b0 := fun hm => h.hb t hm (by rw [h.el]; simp)
theorem Meet.meetL {t : Nat} (h : Meet l m t a0 b0 cc) : meetL l m = some t := by
  unfold Go.Proofs.Ytjnkgakajenoaaa.meetL
  rw [List.find?_eq_some_iff_append]
  refine ⟨by simp [h.em], a0, cc, h.el, fun y hy => by simpa using h.ha y hy⟩
theorem Meet.lca {t : Nat} (h : Meet l m t a0 b0 cc) : lcaL l m = t := by simp [lcaL, h.meetL]
theorem Meet.way {t : Nat} (h : Meet l m t a0 b0 cc) : wayL l m = t :: (a0 ++ b0) := by
  simp only [wayL, h.meetL]
  rw [show l.takeWhile (· != t) = a0 from by rw [h.el]; exact takeWhile_split _ _ _ h.na, show m.takeWhile (· != t) = b0 from by rw [h.em]; exact takeWhile_split _ _ _ h.nb]
theorem Meet.symm {t : Nat} (h : Meet l m t a0 b0 cc) : Meet m l t b0 a0 cc := ⟨h.em, h.el, h.hb, h.ha⟩
/-- Ways up that share one meet. -/
theorem meet_of {par : Nat → Int} {u v : Nat} (hl : Up par u l) (hm : Up par v m) {x : Nat} (h1 : x ∈ l) (h2 : x ∈ m) : ∃ t a b c, Meet l m t a b c := by
  cases hf : meetL l m with
  | none =>
    unfold meetL at hf
    rw [List.find?_eq_none] at hf
    exact absurd h2 (by simpa using hf x h1)
  | some t =>
    unfold meetL at hf
    rw [List.find?_eq_some_iff_append] at hf
    obtain ⟨ht, a, c, e, ha⟩ := hf
    have ht' : t ∈ m := by simpa using ht
    obtain ⟨b, c', e'⟩ := List.append_of_mem ht'
    have k := (hl.suffix e).det (hm.suffix e')
    simp at k
    subst k
    have ha' : ∀ y ∈ a, y ∉ m := fun y hy => by simpa using ha y hy
    refine ⟨t, a, b, c, e, e', ha', fun y hy hyl => ?_⟩
    rw [e, List.mem_append] at hyl
    rcases hyl with hyl | hyl
    · exact ha' y hyl (by rw [e']; simp [hy])
    · have nd := hm.nodup
      rw [e', List.nodup_append] at nd
      exact nd.2.2 y hy y hyl rfl
theorem meet_none (h : ∀ x ∈ l, x ∉ m) : meetL l m = none := by
  unfold meetL
  rw [List.find?_eq_none]
  intro x hx
  simpa using h x hx
theorem lca_none (h : ∀ x ∈ l, x ∉ m) : lcaL l m = -1 := by simp [lcaL, meet_none h]
theorem way_none (h : ∀ x ∈ l, x ∉ m) : wayL l m = [] := by simp [wayL, meet_none h]
/-- Of one root: they meet; of two: they don't. -/
theorem meet_root {par : Nat → Int} {u v : Nat} (hl : Up par u l) (hm : Up par v m) (h : lastI l = lastI m) : ∃ t a b c, Meet l m t a b c := by
  obtain ⟨r, a, e1, e2, e3⟩ := hl.last
  obtain ⟨r', a', e1', e2', e3'⟩ := hm.last
  have : r = r' := by omega
  subst this
  exact meet_of hl hm (x := r) (by rw [e1]; simp) (by rw [e1']; simp)
theorem root_meet {par : Nat → Int} {u v : Nat} (hl : Up par u l) (hm : Up par v m) (h : lastI l ≠ lastI m) : ∀ x ∈ l, x ∉ m := fun x h1 h2 => by
  obtain ⟨t, a, b, c, k⟩ := meet_of hl hm h1 h2
  rw [k.el, k.em, lastI_append _ (by simp), lastI_append _ (by simp)] at h
  exact h rfl
end
end Go.Proofs.Ytjnkgakajenoaaa
/- What the calls make of a forest's ways up. No Go in sight. -/

namespace Go.Proofs.Ytjnkgakajenoaaa
set_option linter.unusedVariables false

theorem updF_same {α : Type} (f : Nat → α) (v : Nat) (x : α) : updF f v x v = x := by simp [updF]
theorem updF_other {α : Type} (f : Nat → α) {v u : Nat} (x : α) (h : u ≠ v) : updF f v x u = f u := by simp [updF, h]

section
variable {par par' : Nat → Int} {u v x : Nat} {l m a b : List Nat}
theorem Up.frame (h : Up par u l) : (∀ y ∈ l, par' y = par y) → Up par' u l := by
  induction h using Up.ind with
  | root h => intro k; exact .root (by rw [k _ (by simp)]; exact h)
  | step h hu ih => intro k; exact .step (by rw [k _ (by simp)]; exact h) (ih fun y hy => k y (by simp [hy]))
theorem Up.pre : ∀ {a u}, Up par u (a ++ x :: b) → (∀ y ∈ a, par' y = par y) → Up par' x m → Up par' u (a ++ m)
  | [], u, h, _, hm => by
    obtain ⟨t, e⟩ := h.head
    simp at e
    obtain ⟨rfl, _⟩ := e
    exact hm
  | y :: a, u, h, k, hm => by
    obtain ⟨t, e⟩ := h.head
    simp at e
    obtain ⟨rfl, _⟩ := e
    rcases h.next with ⟨_, e⟩ | ⟨q, hq, hu⟩
    · simp at e
    · exact .step (by rw [k _ (by simp)]; exact hq) (hu.pre (fun z hz => k z (by simp [hz])) hm)
theorem Up.first (h : Up par u (a ++ x :: b)) : x ∉ a ∧ x ∉ b := by
  have := h.nodup
  rw [List.nodup_append, List.nodup_cons] at this
  exact ⟨fun hm => this.2.2 x hm x (by simp) rfl, this.2.1.1⟩

theorem turn_out : ∀ {l : List Nat} {par : Nat → Int} {b : Int} {x : Nat}, x ∉ l → turn par b l x = par x
  | [], _, _, _, _ => rfl
  | y :: l, par, b, x, h => by
    simp only [List.mem_cons, not_or] at h
    rw [turn, turn_out h.2, updF_other _ _ h.1]
theorem turn_at : ∀ {a : List Nat} {par : Nat → Int} {b : Int} {x : Nat} {c : List Nat}, (a ++ x :: c).Nodup → turn par b (a ++ x :: c) x = if a = [] then b else lastI a
  | [], par, b, x, c, h => by
    simp only [List.nil_append, List.nodup_cons] at h
    simp [turn, turn_out h.1, updF_same]
  | y :: a, par, b, x, c, h => by
    rw [List.cons_append, List.nodup_cons] at h
    rw [List.cons_append, turn, turn_at h.2]
    cases a with
    | nil => simp [lastI]
    | cons z a => simp [lastI]
end

section
variable {T : Tr} {u v c p : Nat} {w : Int} {a b cc : List Nat}

/- A node comes. -/
theorem Tr.Wf.add_up (h : T.Wf) (hv : T.par v = -2) (hu : T.par u ≠ -2) : Up (T.add v w).par u (T.up u) :=
  (h.spec hu).frame fun y hy => updF_other _ _ fun e => h.there' hy (e ▸ hv)
theorem Tr.Wf.add (h : T.Wf) (hv : T.par v = -2) (hn : v < T.n) : (T.add v w).Wf := by
  refine ⟨fun x hx => ?_, fun x hx => ?_⟩
  · by_cases e : x = v
    · subst e; exact hn
    · exact h.lt x (by simpa [Tr.add, updF, e] using hx)
  · by_cases e : x = v
    · subst e; exact ⟨_, .root (by simp [Tr.add, updF])⟩
    · exact ⟨_, h.add_up hv (by simpa [Tr.add, updF, e] using hx)⟩
theorem Tr.Fit.add (h : T.Fit) (hw : -1099511627776 ≤ w ∧ w ≤ 1099511627776) : (T.add v w).Fit := by
  refine ⟨h.n, fun x => ?_, fun x hx => ?_⟩
  · by_cases e : x = v
    · subst e; simpa [Tr.add, updF] using hw
    · simpa [Tr.add, updF, e] using h.wt x
  · by_cases e : x = v
    · subst e; simp [Tr.add, updF] at hx
    · simp [Tr.add, updF, e] at hx ⊢; exact h.zero x hx

/- A node goes. -/
theorem Tr.Wf.alone (h : T.Wf) (hv : ∀ y, T.par y ≠ (v : Int)) (hu : u ≠ v) : v ∉ T.up u := fun hm => by
  have h0 := h.spec (Tr.there hm)
  obtain ⟨a, b, e⟩ := List.append_of_mem hm
  by_cases ha : a = []
  · subst ha
    obtain ⟨t, e'⟩ := h0.head
    rw [e] at e'
    simp at e'
    exact hu e'.1.symm
  · have e2 : a = a.dropLast ++ [a.getLast ha] := (List.dropLast_concat_getLast ha).symm
    rw [e, e2] at h0
    have h1 := h0.suffix (a := a.dropLast) (x := a.getLast ha) (b := v :: b) (by simp)
    rcases h1.next with ⟨_, e3⟩ | ⟨q, hq, hq'⟩
    · simp at e3
    · obtain ⟨t, e4⟩ := hq'.head
      simp at e4
      exact hv _ (by rw [hq, e4.1])
theorem Tr.Wf.drop_up (h : T.Wf) (hv : ∀ y, T.par y ≠ (v : Int)) (hu : T.par u ≠ -2) (hne : u ≠ v) : Up (T.drop v).par u (T.up u) :=
  (h.spec hu).frame fun y hy => updF_other _ _ fun e => h.alone hv hne (e ▸ hy)
theorem Tr.Wf.drop (h : T.Wf) (hv : ∀ y, T.par y ≠ (v : Int)) : (T.drop v).Wf := by
  have k : ∀ x, (T.drop v).par x ≠ -2 → x ≠ v ∧ T.par x ≠ -2 := fun x hx => by
    by_cases e : x = v
    · subst e; simp [Tr.drop, updF] at hx
    · exact ⟨e, by simpa [Tr.drop, updF, e] using hx⟩
  exact ⟨fun x hx => h.lt x (k x hx).2, fun x hx => ⟨_, h.drop_up hv (k x hx).2 (k x hx).1⟩⟩
theorem Tr.Fit.drop (h : T.Fit) : (T.drop v).Fit := by
  refine ⟨h.n, fun x => ?_, fun x hx => ?_⟩
  · by_cases e : x = v
    · subst e; simp [Tr.drop, updF]
    · simpa [Tr.drop, updF, e] using h.wt x
  · by_cases e : x = v
    · subst e; simp [Tr.drop, updF]
    · simp [Tr.drop, updF, e] at hx ⊢; exact h.zero x hx

/- A root becomes a kid. -/
theorem Tr.Wf.link_out (h : T.Wf) (hu : T.par u ≠ -2) (hn : c ∉ T.up u) : Up (T.link c p).par u (T.up u) :=
  (h.spec hu).frame fun y hy => updF_other _ _ fun e => hn (e ▸ hy)
theorem Tr.Wf.root_end (h : T.Wf) (hc : T.par c = -1) (hu : c ∈ T.up u) : ∃ a, T.up u = a ++ [c] ∧ c ∉ a := by
  obtain ⟨a, b, e⟩ := List.append_of_mem hu
  have h0 := h.spec (Tr.there hu)
  rw [e] at h0
  rcases (h0.suffix rfl).next with ⟨_, rfl⟩ | ⟨q, hq, _⟩
  · exact ⟨a, e, h0.first.1⟩
  · omega
theorem Tr.Wf.link_in (h : T.Wf) (hc : T.par c = -1) (hp : T.par p ≠ -2) (hr : c ∉ T.up p) (hu : c ∈ T.up u) : Up (T.link c p).par u (T.up u ++ T.up p) := by
  obtain ⟨a, e, ha⟩ := h.root_end hc hu
  have h0 := h.spec (Tr.there hu)
  rw [e] at h0 ⊢
  rw [List.append_assoc]
  refine h0.pre (fun y hy => updF_other _ _ fun e => ha (e ▸ hy)) ?_
  exact .step (updF_same _ _ _) (h.link_out hp hr)
theorem Tr.Wf.link (h : T.Wf) (hc : T.par c = -1) (hp : T.par p ≠ -2) (hr : c ∉ T.up p) : (T.link c p).Wf := by
  have k : ∀ x, (T.link c p).par x ≠ -2 → T.par x ≠ -2 := fun x hx => by
    by_cases e : x = c
    · subst e; omega
    · simpa [Tr.link, updF, e] using hx
  refine ⟨fun x hx => h.lt x (k x hx), fun x hx => ?_⟩
  by_cases hm : c ∈ T.up x
  · exact ⟨_, h.link_in hc hp hr hm⟩
  · exact ⟨_, h.link_out (k x hx) hm⟩
theorem Tr.Fit.link (h : T.Fit) (hc : T.par c ≠ -2) : (T.link c p).Fit := by
  refine ⟨h.n, h.wt, fun x hx => ?_⟩
  by_cases e : x = c
  · subst e; simp [Tr.link, updF] at hx
  · exact h.zero x (by simpa [Tr.link, updF, e] using hx)

/- A kid becomes a root. -/
theorem Tr.Wf.cut_out (h : T.Wf) (hu : T.par u ≠ -2) (hn : c ∉ T.up u) : Up (T.cut c).par u (T.up u) :=
  (h.spec hu).frame fun y hy => updF_other _ _ fun e => hn (e ▸ hy)
theorem Tr.Wf.cut_in (h : T.Wf) (e : T.up u = a ++ c :: b) : Up (T.cut c).par u (a ++ [c]) := by
  have h0 := h.spec (v := u) (Tr.there (x := c) (by rw [e]; simp))
  rw [e] at h0
  exact h0.pre (fun y hy => updF_other _ _ fun e => h0.first.1 (e ▸ hy)) (.root (updF_same _ _ _))
theorem Tr.Wf.cut (h : T.Wf) (hc : T.par c ≠ -2) : (T.cut c).Wf := by
  have k : ∀ x, (T.cut c).par x ≠ -2 → T.par x ≠ -2 := fun x hx => by
    by_cases e : x = c
    · subst e; exact hc
    · simpa [Tr.cut, updF, e] using hx
  refine ⟨fun x hx => h.lt x (k x hx), fun x hx => ?_⟩
  by_cases hm : c ∈ T.up x
  · obtain ⟨a, b, e⟩ := List.append_of_mem hm
    exact ⟨_, h.cut_in e⟩
  · exact ⟨_, h.cut_out (k x hx) hm⟩
theorem Tr.Fit.cut (h : T.Fit) (hc : T.par c ≠ -2) : (T.cut c).Fit := by
  refine ⟨h.n, h.wt, fun x hx => ?_⟩
  by_cases e : x = c
  · subst e; simp [Tr.cut, updF] at hx
  · exact h.zero x (by simpa [Tr.cut, updF, e] using hx)

/- A way up is turned round. -/
theorem evert_at {par : Nat → Int} : ∀ (n : Nat) {a b : List Nat} {x : Nat}, a.length = n → (a ++ x :: b).Nodup → Up (turn par (-1) (a ++ x :: b)) x (x :: a.reverse)
  | 0, a, b, x, hn, nd => by
    obtain rfl := List.length_eq_zero_iff.1 hn
    exact .root (by rw [turn_at nd]; simp)
  | n + 1, a, b, x, hn, nd => by
    have ha : a ≠ [] := fun e => by subst e; simp at hn
    have hp := turn_at (par := par) (b := -1) nd
    rw [if_neg ha] at hp
    have e2 : a = a.dropLast ++ [a.getLast ha] := (List.dropLast_concat_getLast ha).symm
    generalize a.dropLast = a', a.getLast ha = y at *
    subst e2
    rw [lastI_snoc] at hp
    rw [List.append_assoc] at nd hp ⊢
    rw [List.reverse_append]
    exact .step hp (evert_at n (by simpa using hn) nd)
theorem Tr.Wf.evert_out (h : T.Wf) (hu : T.par u ≠ -2) (hn : ∀ y ∈ T.up u, y ∉ T.up v) : Up (T.evert v).par u (T.up u) :=
  (h.spec hu).frame fun y hy => turn_out (hn y hy)
theorem Tr.Wf.evert_in {t : Nat} (h : T.Wf) (hm : Meet (T.up u) (T.up v) t a b cc) : Up (T.evert v).par u (a ++ t :: b.reverse) := by
  have h0 := h.spec (v := u) (Tr.there (x := t) (by rw [hm.el]; simp))
  have h1 := h.spec (v := v) (Tr.there (x := t) (by rw [hm.em]; simp))
  rw [hm.el] at h0
  refine h0.pre (fun y hy => turn_out (hm.ha y hy)) ?_
  have nd := h1.nodup
  unfold Tr.evert
  dsimp only
  rw [hm.em] at nd ⊢
  exact evert_at _ rfl nd
theorem Tr.Wf.evert_there (h : T.Wf) (hv : T.par v ≠ -2) : (T.evert v).par u = -2 ↔ T.par u = -2 := by
  by_cases hm : u ∈ T.up v
  · have h0 := h.spec hv
    obtain ⟨a, b, e⟩ := List.append_of_mem hm
    have nd := h0.nodup
    have k1 := h.there' hm
    have k2 : (T.evert v).par u = if a = [] then -1 else lastI a := by
      show turn T.par (-1) (T.up v) u = _
      rw [e] at nd ⊢
      exact turn_at nd
    have k3 : (T.evert v).par u ≠ -2 := by
      rw [k2]
      split
      · omega
      · rename_i ha
        obtain ⟨r, _, e⟩ := lastI_mem ha
        omega
    simp [k1, k3]
  · show turn T.par (-1) (T.up v) u = -2 ↔ _
    rw [turn_out hm]
theorem Tr.Wf.meets (h : T.Wf) (hu : T.par u ≠ -2) (hv : T.par v ≠ -2) : (∃ t a b c, Meet (T.up u) (T.up v) t a b c) ∨ ∀ y ∈ T.up u, y ∉ T.up v := by
  by_cases hn : ∃ y ∈ T.up u, y ∈ T.up v
  · obtain ⟨y, h1, h2⟩ := hn
    exact .inl (meet_of (h.spec hu) (h.spec hv) h1 h2)
  · exact .inr fun y h1 h2 => hn ⟨y, h1, h2⟩
theorem Tr.Wf.evert (h : T.Wf) (hv : T.par v ≠ -2) : (T.evert v).Wf := by
  have k : ∀ x, (T.evert v).par x ≠ -2 → T.par x ≠ -2 := fun x hx e => hx ((h.evert_there hv).2 e)
  refine ⟨fun x hx => h.lt x (k x hx), fun x hx => ?_⟩
  rcases h.meets (k x hx) hv with ⟨t, a, b, c, hm⟩ | hn
  · exact ⟨_, h.evert_in hm⟩
  · exact ⟨_, h.evert_out (k x hx) hn⟩
theorem Tr.Fit.evert (h : T.Fit) (hw : T.Wf) (hv : T.par v ≠ -2) : (T.evert v).Fit :=
  ⟨h.n, h.wt, fun x hx => h.zero x ((hw.evert_there hv).1 hx)⟩

/- Weights. -/
theorem Tr.Wf.set (h : T.Wf) : (T.set v w).Wf := ⟨h.lt, h.up⟩
theorem Tr.Fit.set (h : T.Fit) (hv : T.par v ≠ -2) (hw : -1099511627776 ≤ w ∧ w ≤ 1099511627776) : (T.set v w).Fit := by
  refine ⟨h.n, fun x => ?_, fun x hx => ?_⟩
  · by_cases e : x = v
    · subst e; simpa [Tr.set, updF] using hw
    · simpa [Tr.set, updF, e] using h.wt x
  · have : x ≠ v := fun e => hv (e ▸ hx)
    simp [Tr.set, updF, this]; exact h.zero x hx
theorem Tr.Wf.raise (h : T.Wf) {l : List Nat} : (T.raise l w).Wf := ⟨h.lt, h.up⟩
theorem Tr.Fit.raise (h : T.Fit) {l : List Nat} (hl : ∀ x ∈ l, T.par x ≠ -2 ∧ -1099511627776 ≤ T.wt x + w ∧ T.wt x + w ≤ 1099511627776) : (T.raise l w).Fit := by
  refine ⟨h.n, fun x => ?_, fun x hx => ?_⟩
  · by_cases e : x ∈ l
    · simpa [Tr.raise, raiseF, e] using (hl x e).2
    · simpa [Tr.raise, raiseF, e] using h.wt x
  · have : x ∉ l := fun e => (hl x e).1 hx
    simp [Tr.raise, raiseF, this]; exact h.zero x hx

/-- A forest with none there. -/
def Tr.new (n : Nat) : Tr := ⟨n, fun _ => -2, fun _ => 0⟩
theorem Tr.Wf.new (n : Nat) : (Tr.new n).Wf := ⟨fun _ h => absurd rfl h, fun _ h => absurd rfl h⟩
theorem Tr.Fit.new {n : Nat} (h : n ≤ 1048576) : (Tr.new n).Fit := ⟨h, fun _ => by simp [Tr.new], fun _ _ => rfl⟩
end
end Go.Proofs.Ytjnkgakajenoaaa
/- Where two ways up meet, step by step. No Go in sight. -/

namespace Go.Proofs.Ytjnkgakajenoaaa
set_option linter.unusedVariables false

theorem Tr.Wf.same_true {T : Tr} (h : T.Wf) {x y : Int} (hs : T.sameI x y = true) : ∃ i j : Nat, x = i ∧ y = j ∧ T.par i ≠ -2 ∧ T.par j ≠ -2 ∧ ∃ t a b c, Meet (T.up i) (T.up j) t a b c := by
  simp [Tr.sameI] at hs
  obtain ⟨h1, h2⟩ := hs
  cases hx : T.hasI x with
  | false => exact absurd (Tr.rootI_gone hx) h1
  | true =>
    cases hy : T.hasI y with
    | false => rw [Tr.rootI_gone hy] at h2; exact absurd h2 h1
    | true =>
      obtain ⟨i, rfl, hi⟩ := Tr.hasI_true hx
      obtain ⟨j, rfl, hj⟩ := Tr.hasI_true hy
      rw [Tr.rootI, Tr.rootI, T.upI_nat, T.upI_nat] at h2
      exact ⟨i, j, rfl, rfl, hi, hj, meet_root (h.spec hi) (h.spec hj) h2⟩
theorem Tr.Wf.same_false {T : Tr} (h : T.Wf) {x y : Int} (hs : T.sameI x y = false) : ∀ z ∈ T.upI x, z ∉ T.upI y := by
  cases hx : T.hasI x with
  | false => rw [Tr.upI_gone hx]; simp
  | true =>
    cases hy : T.hasI y with
    | false => rw [Tr.upI_gone hy]; simp
    | true =>
      obtain ⟨i, rfl, hi⟩ := Tr.hasI_true hx
      obtain ⟨j, rfl, hj⟩ := Tr.hasI_true hy
      obtain ⟨r, e, _, _⟩ := h.rootI_in hi
      have hne : T.rootI i ≠ T.rootI j := fun e' => by
        simp [Tr.sameI, ← e', e] at hs
      rw [Tr.rootI, Tr.rootI, T.upI_nat, T.upI_nat] at hne
      rw [T.upI_nat, T.upI_nat]
      exact root_meet (h.spec hi) (h.spec hj) hne
theorem Tr.Wf.same_nat {T : Tr} (h : T.Wf) {i j t : Nat} {a b c : List Nat} (hm : Meet (T.up i) (T.up j) t a b c) : T.sameI i j = true := by
  have hi : T.par i ≠ -2 := Tr.there (x := t) (by rw [hm.el]; simp)
  obtain ⟨r, e, _, _⟩ := h.rootI_in hi
  have e2 : T.rootI i = T.rootI j := by
    rw [Tr.rootI, Tr.rootI, T.upI_nat, T.upI_nat, hm.el, hm.em, lastI_append _ (by simp), lastI_append _ (by simp)]
  simp [Tr.sameI, ← e2, e]

/-- Two that go up to where they meet. -/
structure Lv (par : Nat → Int) (x y t : Nat) (a b c : List Nat) : Prop where
  ua : Up par x (a ++ t :: c)
  ub : Up par y (b ++ t :: c)
  dis : ∀ z ∈ a, z ∉ b

theorem up_down {par : Nat → Int} {x z t : Nat} {a c : List Nat} (h : Up par x (z :: a ++ t :: c)) : ∃ q : Nat, par x = (q : Int) ∧ Up par q (a ++ t :: c) ∧ z = x := by
  obtain ⟨l, e⟩ := h.head
  simp at e
  obtain ⟨rfl, _⟩ := e
  rcases h.next with ⟨_, e⟩ | ⟨q, e, hq⟩
  · simp at e
  · exact ⟨q, e, hq, rfl⟩
section
variable {par : Nat → Int} {x y z t : Nat} {a b c : List Nat}
theorem Lv.stepA (h : Lv par x y t (z :: a) b c) : ∃ q : Nat, par x = (q : Int) ∧ Lv par q y t a b c := by
  obtain ⟨q, e, hq, _⟩ := up_down h.ua
  exact ⟨q, e, hq, h.ub, fun u hu => h.dis u (by simp [hu])⟩
theorem Lv.stepB (h : Lv par x y t a (z :: b) c) : ∃ q : Nat, par y = (q : Int) ∧ Lv par x q t a b c := by
  obtain ⟨q, e, hq, _⟩ := up_down h.ub
  exact ⟨q, e, h.ua, hq, fun u hu hb => h.dis u hu (by simp [hb])⟩
theorem Lv.done (h : Lv par x x t a b c) : a = [] ∧ x = t := by
  have e := h.ua.det h.ub
  have e' := List.append_cancel_right e
  subst e'
  cases a with
  | nil =>
    obtain ⟨l, e⟩ := h.ua.head
    simp at e
    exact ⟨rfl, e.1.symm⟩
  | cons z a => exact absurd (by simp) (h.dis z (by simp))
theorem Lv.more (h : Lv par x y t a b c) (hne : x ≠ y) (hl : a.length = b.length) : ∃ z a' z' b', a = z :: a' ∧ b = z' :: b' := by
  cases a with
  | nil =>
    simp at hl
    obtain rfl := List.length_eq_zero_iff.1 hl.symm
    obtain ⟨l, e⟩ := h.ua.head
    obtain ⟨l', e'⟩ := h.ub.head
    simp at e e'
    exact absurd (e.1.symm.trans e'.1) hne
  | cons z a =>
    cases b with
    | nil => simp at hl
    | cons z' b => exact ⟨z, a, z', b, rfl, rfl⟩
end
theorem Meet.lv {T : Tr} (h : T.Wf) {i j t : Nat} {a b c : List Nat} (hi : T.par i ≠ -2) (hj : T.par j ≠ -2) (hm : Meet (T.up i) (T.up j) t a b c) : Lv T.par i j t a b c := by
  have h1 := h.spec hi
  have h2 := h.spec hj
  refine ⟨hm.el ▸ h1, hm.em ▸ h2, fun z hz hb => hm.ha z hz (by rw [hm.em]; simp [hb])⟩
end Go.Proofs.Ytjnkgakajenoaaa
/- Plain mathematics for link: a forest's nodes by their slots, ways up, depths, and what is at or below a slot. No Go in sight. -/

namespace Go.Proofs.Ytjnkgakajenoaaa
set_option linter.unusedVariables false
set_option linter.unusedSimpArgs false

/-- A slot whose node is there. -/
def Th (T : Tr) (t : Nat) : Prop := 1 ≤ t ∧ T.par (t - 1) ≠ -2
/-- The parent's slot; 0, if there is none. -/
def ps (T : Tr) (t : Nat) : Nat := (T.par (t - 1) + 1).toNat
/-- The way up, by slots. -/
def U (T : Tr) (t : Nat) : List Nat := if t = 0 then [] else (T.up (t - 1)).map (· + 1)
def dp (T : Tr) (t : Nat) : Nat := (U T t).length

section
variable {T : Tr} {t x y u : Nat} {a b : List Nat}
theorem U_zero (T : Tr) : U T 0 = [] := by simp [U]
theorem U_th (h : T.Wf) (ht : Th T t) : U T t = t :: U T (ps T t) := by
  obtain ⟨h1, h2⟩ := ht
  have e0 : t - 1 + 1 = t := by omega
  rcases h.par_cases h2 with h3 | ⟨p, h3, h4⟩
  · have e : ps T t = 0 := by simp [ps, h3]
    rw [e, U_zero, U, if_neg (by omega), h.up_root h3]; simp [e0]
  · have e : ps T t = p + 1 := by simp [ps, h3]
    rw [e, U, if_neg (by omega), h.up_step h3]; simp [e0, U]
theorem ps_th (h : T.Wf) (ht : Th T t) (hp : ps T t ≠ 0) : Th T (ps T t) := by
  rcases h.par_cases ht.2 with h3 | ⟨p, h3, h4⟩
  · simp [ps, h3] at hp
  · have e : ps T t = p + 1 := by simp [ps, h3]
    rw [e]; exact ⟨by omega, by simpa using h4⟩
theorem ps_par (ht : Th T t) (hw : T.Wf) : T.par (t - 1) = (ps T t : Int) - 1 := by
  rcases hw.par_cases ht.2 with h3 | ⟨p, h3, h4⟩ <;> simp [ps, h3] <;> omega
theorem U_mem_th (h : T.Wf) (hx : x ∈ U T t) : Th T x := by
  unfold U at hx
  split at hx
  · simp at hx
  · obtain ⟨v, hv, rfl⟩ := List.mem_map.1 hx
    exact ⟨by omega, by simpa using h.there' hv⟩
theorem U_mem_th' (h : T.Wf) (hx : x ∈ U T t) : Th T t := by
  unfold U at hx
  split at hx
  · simp at hx
  · obtain ⟨v, hv, rfl⟩ := List.mem_map.1 hx
    exact ⟨by omega, Tr.there hv⟩
theorem U_gone (h : T.Wf) (ht : ¬ Th T t) : U T t = [] := by
  rcases he : U T t with _ | ⟨x, l⟩
  · rfl
  · exact absurd (U_mem_th' (x := x) h (by rw [he]; simp)) ht
theorem U_self (h : T.Wf) (ht : Th T t) : t ∈ U T t := by rw [U_th h ht]; simp
theorem zero_U (h : T.Wf) : 0 ∉ U T t := fun hm => by have := (U_mem_th h hm).1; omega
theorem U_up (h : T.Wf) (ht : Th T t) : x ∈ U T t ↔ x = t ∨ x ∈ U T (ps T t) := by rw [U_th h ht]; simp
theorem dp_zero (T : Tr) : dp T 0 = 0 := by simp [dp, U_zero]
theorem dp_th (h : T.Wf) (ht : Th T t) : dp T t = dp T (ps T t) + 1 := by unfold dp; rw [U_th h ht]; simp
theorem dp_pos (h : T.Wf) (ht : Th T t) : 1 ≤ dp T t := by rw [dp_th h ht]; omega
theorem U_lt (h : T.Wf) : ∀ (n : Nat) {t : Nat}, dp T t ≤ n → x ∈ U T t → (x = t ∨ dp T x < dp T t) ∧ ∀ y ∈ U T x, y ∈ U T t
  | 0, t, hn, hx => by
    have := dp_pos h (U_mem_th' h hx)
    omega
  | n + 1, t, hn, hx => by
    have ht := U_mem_th' h hx
    have hd := dp_th h ht
    rcases (U_up h ht).1 hx with rfl | h2
    · exact ⟨.inl rfl, fun y hy => hy⟩
    · have h3 := U_lt h n (by omega) h2
      refine ⟨.inr ?_, fun y hy => (U_up h ht).2 (.inr (h3.2 y hy))⟩
      rcases h3.1 with rfl | h4 <;> omega
theorem U_trans (h : T.Wf) (hx : x ∈ U T t) (hy : y ∈ U T x) : y ∈ U T t := (U_lt h _ (Nat.le_refl _) hx).2 y hy
theorem U_dp (h : T.Wf) (hx : x ∈ U T t) : x = t ∨ dp T x < dp T t := (U_lt h _ (Nat.le_refl _) hx).1
theorem U_anti (h : T.Wf) (hx : x ∈ U T t) (hy : t ∈ U T x) : x = t := by
  rcases U_dp h hx with e | e
  · exact e
  · rcases U_dp h hy with e' | e'
    · exact e'.symm
    · omega
theorem U_ps (h : T.Wf) (ht : Th T t) (hp : ps T t ≠ 0) : ps T t ∈ U T t := (U_up h ht).2 (.inr (U_self h (ps_th h ht hp)))
theorem ps_notin (h : T.Wf) (ht : Th T t) : t ∉ U T (ps T t) := fun hm => by
  have h1 := dp_th h ht
  rcases U_dp h hm with e | e
  · rw [← e] at h1; omega
  · omega
theorem th_lt (h : T.Wf) (ht : Th T t) : t - 1 < T.n := h.lt _ ht.2
end

/-- Sums over the first numbers. -/
def sumF : Nat → (Nat → Int) → Int
  | 0, _ => 0
  | n + 1, f => sumF n f + f n
section
variable {f g : Nat → Int} {n : Nat}
theorem sumF_congr (h : ∀ i, i < n → f i = g i) : sumF n f = sumF n g := by
  induction n with
  | zero => rfl
  | succ n ih => simp only [sumF]; rw [ih (fun i hi => h i (by omega)), h n (by omega)]
theorem sumF_add : sumF n (fun i => f i + g i) = sumF n f + sumF n g := by
  induction n with
  | zero => rfl
  | succ n ih => simp only [sumF, ih]; omega
theorem sumF_sub : sumF n (fun i => f i - g i) = sumF n f - sumF n g := by
  induction n with
  | zero => rfl
  | succ n ih => simp only [sumF, ih]; omega
theorem sumF_zero (h : ∀ i, i < n → f i = 0) : sumF n f = 0 := by
  induction n with
  | zero => rfl
  | succ n ih => simp only [sumF]; rw [ih (fun i hi => h i (by omega)), h n (by omega)]; rfl
theorem sumF_one (k : Nat) (x : Int) (hk : k < n) : sumF n (fun i => if i = k then x else 0) = x := by
  induction n with
  | zero => omega
  | succ n ih =>
    simp only [sumF]
    by_cases e : k = n
    · subst e; rw [sumF_zero (fun i hi => by rw [if_neg (by omega)])]; simp
    · rw [ih (by omega), if_neg (by omega)]; omega
theorem sumF_nn (h : ∀ i, i < n → 0 ≤ f i) : 0 ≤ sumF n f := by
  induction n with
  | zero => simp [sumF]
  | succ n ih => simp only [sumF]; have := ih (fun i hi => h i (by omega)); have := h n (by omega); omega
theorem sumF_le (h : ∀ i, i < n → f i ≤ g i) : sumF n f ≤ sumF n g := by
  induction n with
  | zero => simp [sumF]
  | succ n ih => simp only [sumF]; have := ih (fun i hi => h i (by omega)); have := h n (by omega); omega
theorem sumF_mul (c : Int) : sumF n (fun i => c * f i) = c * sumF n f := by
  induction n with
  | zero => simp [sumF]
  | succ n ih => simp only [sumF, ih, Int.mul_add]
theorem sumF_const (c : Int) : sumF n (fun _ => c) = n * c := by
  induction n with
  | zero => simp [sumF]
  | succ n ih => simp only [sumF, ih]; rw [show ((n + 1 : Nat) : Int) = n + 1 from by omega, Int.add_mul]; omega
end

/-- How many are at or below a slot, and what they weigh. -/
def Dc (T : Tr) (t : Nat) : Int := sumF T.n (fun u => if t ∈ U T (u + 1) then 1 else 0)
def Dw (T : Tr) (t : Nat) : Int := sumF T.n (fun u => if t ∈ U T (u + 1) then T.wt u else 0)
section
variable {T : Tr} {t x y u : Nat}
theorem Dc_zero (h : T.Wf) : Dc T 0 = 0 := sumF_zero fun i _ => if_neg (zero_U h)
theorem Dw_zero (h : T.Wf) : Dw T 0 = 0 := sumF_zero fun i _ => if_neg (zero_U h)
theorem Dc_bd (T : Tr) (t : Nat) : 0 ≤ Dc T t ∧ Dc T t ≤ T.n := by
  refine ⟨sumF_nn fun i _ => by split <;> omega, ?_⟩
  have h1 := sumF_le (n := T.n) (f := fun u => if t ∈ U T (u + 1) then 1 else 0) (g := fun _ => 1) (fun i _ => by split <;> omega)
  rw [sumF_const] at h1
  unfold Dc; omega
/-- One that is at or below t, but not t, nor at or below y. -/
def hgI (T : Tr) (t y u : Nat) : Int := if t ∈ U T (u + 1) ∧ u + 1 ≠ t ∧ y ∉ U T (u + 1) then 1 else 0
theorem hgI_eq (h : T.Wf) (ht : Th T t) (hy : y ≠ 0 → Th T y ∧ ps T y = t) (u : Nat) :
    (if t ∈ U T (u + 1) then (1 : Int) else 0) - (if u = t - 1 then 1 else 0) - (if y ∈ U T (u + 1) then 1 else 0) = hgI T t y u := by
  unfold hgI
  have h1 := ht.1
  by_cases e : u = t - 1
  · have e' : u + 1 = t := by omega
    have hm : y ∉ U T t := fun hm => by
      have hy0 : y ≠ 0 := fun e => zero_U h (e ▸ hm)
      obtain ⟨hy1, rfl⟩ := hy hy0
      exact ps_notin h hy1 hm
    rw [e', if_pos (U_self h ht), if_pos e, if_neg hm, if_neg (by simp)]; rfl
  · have e' : u + 1 ≠ t := by omega
    rw [if_neg e]
    by_cases hm : y ∈ U T (u + 1)
    · have hy0 : y ≠ 0 := fun e => zero_U h (e ▸ hm)
      obtain ⟨hy1, hy2⟩ := hy hy0
      have : t ∈ U T (u + 1) := U_trans h hm (hy2 ▸ U_ps h hy1 (by omega))
      simp [hm, this]
    · by_cases hm2 : t ∈ U T (u + 1) <;> simp [hm, hm2, e']
theorem Dc_hg (h : T.Wf) (ht : Th T t) (hy : y ≠ 0 → Th T y ∧ ps T y = t) : Dc T t - 1 - Dc T y = sumF T.n (hgI T t y) := by
  rw [← sumF_congr (fun u _ => hgI_eq h ht hy u), sumF_sub, sumF_sub, sumF_one _ _ (th_lt h ht)]; rfl
theorem Dw_hg (h : T.Wf) (ht : Th T t) (hy : y ≠ 0 → Th T y ∧ ps T y = t) : Dw T t - T.wt (t - 1) - Dw T y = sumF T.n (fun u => hgI T t y u * T.wt u) := by
  have e : ∀ u, u < T.n → (if t ∈ U T (u + 1) then T.wt u else 0) - (if u = t - 1 then T.wt (t - 1) else 0) - (if y ∈ U T (u + 1) then T.wt u else 0) = hgI T t y u * T.wt u := fun u _ => by
    rw [← hgI_eq h ht hy u, Int.sub_mul, Int.sub_mul]
    congr 1
    · congr 1
      · split <;> simp
      · split
        · rename_i e; subst e; simp
        · simp
    · split <;> simp
  rw [← sumF_congr e, sumF_sub, sumF_sub, sumF_one _ _ (th_lt h ht)]; rfl
/-- What hangs is bounded by how many hang. -/
theorem hg_bd (h : T.Wf) (hf : T.Fit) (ht : Th T t) (hy : y ≠ 0 → Th T y ∧ ps T y = t) :
    0 ≤ Dc T t - 1 - Dc T y ∧ -1099511627776 * (Dc T t - 1 - Dc T y) ≤ Dw T t - T.wt (t - 1) - Dw T y ∧ Dw T t - T.wt (t - 1) - Dw T y ≤ 1099511627776 * (Dc T t - 1 - Dc T y) := by
  rw [Dc_hg h ht hy, Dw_hg h ht hy, ← sumF_mul, ← sumF_mul]
  refine ⟨sumF_nn fun i _ => by unfold hgI; split <;> omega, sumF_le fun i _ => ?_, sumF_le fun i _ => ?_⟩ <;>
    · have := hf.wt i
      unfold hgI
      split <;> simp <;> omega
theorem Dw_bd (hf : T.Fit) (t : Nat) : -1099511627776 * Dc T t ≤ Dw T t ∧ Dw T t ≤ 1099511627776 * Dc T t := by
  unfold Dc Dw
  rw [← sumF_mul, ← sumF_mul]
  refine ⟨sumF_le fun i _ => ?_, sumF_le fun i _ => ?_⟩ <;>
    · have := hf.wt i
      split <;> simp <;> omega
end
end Go.Proofs.Ytjnkgakajenoaaa

/- The program's forest (part 8 of its contracts and the laws' common texts). -/
import Derived.Test.YtjnkgakajenoaaaL7
import Derived.Test.YtjnkgakajenoaaaL5
import Derived.Test.YtjnkgakajenoaaaL1
import Derived.Test.YtjnkgakajenoaaaL6
/- The program's forest: a node comes. -/

namespace Go.Proofs.Ytjnkgakajenoaaa
open Go.RowKit Go.Arb
set_option linter.unusedVariables false
set_option linter.unusedSimpArgs false
set_option maxRecDepth 100000

def O17_4_0 : Oper := ⟨some 34, .move (.tmp 0), 23, "link.go:36", #[], none⟩
def O17_4_1 : Oper := ⟨some 35, .nilCheck (.tmp 34), 0, "link.go:36", #[⟨0, .data⟩], none⟩
def O17_4_2 : Oper := ⟨some 36, .fieldAddr 66 (.tmp 35) 1, 0, "link.go:36", #[⟨1, .data⟩], none⟩
def O17_4_3 : Oper := ⟨some 37, .load 64 (.tmp 36), 64, "link.go:36", #[⟨2, .data⟩], none⟩
def O17_4_4 : Oper := ⟨some 38, .move (.tmp 1), 3, "link.go:36", #[], none⟩
def O17_4_5 : Oper := ⟨some 39, .binOp .add 3 (.tmp 38) (.const (.int .i64 1)) 3, 3, "link.go:36", #[⟨4, .data⟩], none⟩
def O17_4_6 : Oper := ⟨some 40, .move (.tmp 2), 3, "link.go:36", #[], none⟩
def O17_4_7 : Oper := ⟨some 41, .move (.tmp 2), 3, "link.go:36", #[], none⟩
def O17_4_8 : Oper := ⟨some 42, .call { callee := (.value (.func 54)), args := #[(.tmp 41)], argTypes := #[3] }, 34, "link.go:36", #[⟨7, .data⟩], none⟩
def O17_4_9 : Oper := ⟨some 43, .build 75 #[(4, (.tmp 40)), (6, (.tmp 42))], 75, "link.go:36", #[⟨6, .data⟩, ⟨8, .data⟩], none⟩
def O17_4_10 : Oper := ⟨some 44, .indexAddr 64 (.tmp 37) (.tmp 39), 0, "link.go:36", #[⟨3, .data⟩, ⟨5, .data⟩, ⟨0, .phase⟩, ⟨1, .phase⟩, ⟨2, .phase⟩, ⟨3, .phase⟩, ⟨4, .phase⟩, ⟨5, .phase⟩, ⟨6, .phase⟩, ⟨7, .phase⟩, ⟨8, .phase⟩, ⟨9, .phase⟩], none⟩
def O17_4_11 : Oper := ⟨none, .store 75 (.tmp 44) (.tmp 43), 0, "link.go:36", #[⟨10, .data⟩, ⟨9, .data⟩, ⟨8, .chain⟩, ⟨0, .phase⟩, ⟨1, .phase⟩, ⟨2, .phase⟩, ⟨3, .phase⟩, ⟨4, .phase⟩, ⟨5, .phase⟩, ⟨6, .phase⟩, ⟨7, .phase⟩, ⟨8, .phase⟩, ⟨9, .phase⟩], none⟩
def OPS17_4 : List Oper := [O17_4_0, O17_4_1, O17_4_2, O17_4_3, O17_4_4, O17_4_5, O17_4_6, O17_4_7, O17_4_8, O17_4_9, O17_4_10, O17_4_11]
theorem NS17_4 : Region.noSelect OPS17_4.toArray = true := by kernel_rfl
set_option maxHeartbeats 4000000 in
theorem addN1 {p g n cap room : Nat} {T : Tr} {S : Ss} {G : Gh} {w : World} {x y : Int} (h : Pool w p g n cap room S) (L : Lc S n T G) (hx : x < 0) :
    Calls Try.prog 17 #[.pointer (some ⟨p, 0, none⟩), .int .i64 x, .int .i64 y] w fun e w' => e = .returned (.bool false) ∧ Keep [g] w w' ∧ Pool w' p g n cap room S := by
  have PH := hide h
  have KP := hide (Keep.refl [g] w)
  have LH := hide L
  clear h L
  refine callsK (n := 45) (L := [(0, .pointer (some ⟨p, 0, none⟩)), (1, .int .i64 x), (2, .int .i64 y)]) Try.func17 rfl Try.ntmps17 rfl rfl (fun a0 K0 => ?_)
  refine seqR ?_
  refine lac K0 rfl rfl (want_none rfl) rfl (fun a1 K1 => ?_)
  refine nilN ?_
  refine wp_seq ?_
  refine seqR ?_
  refine lmv K1 rfl rfl (want_none rfl) rfl rfl (fun a2 K2 => ?_)
  clear K1
  refine ltake (v := .bool false) (w' := w) K2 rfl rfl (want_none rfl) (fun ev E => ?_) (fun a3 K3 => ?_)
  · have EC := E.const; have E7 := E.tmp 7 _ rfl; clear E; clear PH KP LH; go_simp
  clear K2
  refine lmv K3 rfl rfl (want_none rfl) rfl rfl (fun a4 K4 => ?_)
  clear K3
  refine lmv K4 rfl rfl (want_some K4 rfl rfl rfl) rfl rfl (fun a5 K5 => ?_)
  clear K4
  refine ltake (v := .bool true) (w' := w) K5 rfl rfl (want_some K5 rfl rfl rfl) (fun ev E => ?_) (fun a6 K6 => ?_)
  · have EC := E.const; have E10 := E.tmp 10 _ rfl; clear E; clear PH KP LH; go_simp
  clear K5
  refine ltake (v := .bool true) (w' := w) K6 rfl rfl (want_none rfl) (fun ev E => ?_) (fun a7 K7 => ?_)
  · have EC := E.const; have E9 := E.tmp 9 _ rfl; have E11 := E.tmp 11 _ rfl; clear E; clear PH KP LH; go_simp
  clear K6
  refine lmv K7 rfl rfl (want_none rfl) rfl rfl (fun a8 K8 => ?_)
  clear K7
  refine lskip K8 rfl rfl (want_not K8 rfl rfl rfl (by decide)) (fun a9 K9 => ?_)
  refine lskip K9 rfl rfl (want_not K9 rfl rfl rfl (by decide)) (fun a10 K10 => ?_)
  refine lskip K10 rfl rfl (want_not K10 rfl rfl rfl (by decide)) (fun a11 K11 => ?_)
  refine lskip K11 rfl rfl (want_not K11 rfl rfl rfl (by decide)) (fun a12 K12 => ?_)
  refine lskip K12 rfl rfl (want_not K12 rfl rfl rfl (by decide)) (fun a13 K13 => ?_)
  refine lskip K13 rfl rfl (want_not K13 rfl rfl rfl (by decide)) (fun a14 K14 => ?_)
  refine ltake (v := .bool true) (w' := w) K14 rfl rfl (want_none rfl) (fun ev E => ?_) (fun a15 K15 => ?_)
  · have EC := E.const; have E13 := E.tmp 13 _ rfl; have E19 := E.tmp 19 _ rfl; clear E; clear PH KP LH; go_simp
  clear K14
  refine lmv K15 rfl rfl (want_none rfl) rfl rfl (fun a16 K16 => ?_)
  clear K15
  refine lskip K16 rfl rfl (want_not K16 rfl rfl rfl (by decide)) (fun a17 K17 => ?_)
  refine lskip K17 rfl rfl (want_not K17 rfl rfl rfl (by decide)) (fun a18 K18 => ?_)
  refine lskip K18 rfl rfl (want_not K18 rfl rfl rfl (by decide)) (fun a19 K19 => ?_)
  refine ltake (v := .bool true) (w' := w) K19 rfl rfl (want_none rfl) (fun ev E => ?_) (fun a20 K20 => ?_)
  · have EC := E.const; have E21 := E.tmp 21 _ rfl; have E24 := E.tmp 24 _ rfl; clear E; clear PH KP LH; go_simp
  clear K19
  refine lmv K20 rfl rfl (want_none rfl) rfl rfl (fun a21 K21 => ?_)
  clear K20
  refine lskip K21 rfl rfl (want_not K21 rfl rfl rfl (by decide)) (fun a22 K22 => ?_)
  refine lskip K22 rfl rfl (want_not K22 rfl rfl rfl (by decide)) (fun a23 K23 => ?_)
  refine lskip K23 rfl rfl (want_not K23 rfl rfl rfl (by decide)) (fun a24 K24 => ?_)
  refine ltake (v := .bool true) (w' := w) K24 rfl rfl (want_none rfl) (fun ev E => ?_) (fun a25 K25 => ?_)
  · have EC := E.const; have E26 := E.tmp 26 _ rfl; have E29 := E.tmp 29 _ rfl; clear E; clear PH KP LH; go_simp
  clear K24
  refine nilN ?_
  refine knCond (b := true) K25 rfl ?_
  refine seqR ?_
  refine lac K25 rfl rfl (want_none rfl) rfl (fun a26 K26 => ?_)
  clear K25
  refine nilN ?_
  refine wp_ret ?_
  refine thenRet ?_
  refine bodyPost_ret (v := .bool false) ?_ K26.defers ⟨rfl, unhide KP, unhide PH⟩
  have e6 := K26.has 6 _ rfl
  simp [results, Try.results17, go_sem, e6]
set_option maxHeartbeats 4000000 in
theorem addN2 {p g n cap room : Nat} {T : Tr} {S : Ss} {G : Gh} {w : World} {x y : Int} (h : Pool w p g n cap room S) (L : Lc S n T G) (hx : 0 ≤ x) (hr : (room : Int) ≤ x) :
    Calls Try.prog 17 #[.pointer (some ⟨p, 0, none⟩), .int .i64 x, .int .i64 y] w fun e w' => e = .returned (.bool false) ∧ Keep [g] w w' ∧ Pool w' p g n cap room S := by
  have PH := hide h
  have KP := hide (Keep.refl [g] w)
  have LH := hide L
  clear h L
  have e4 : ¬ (x < 0) := by omega
  refine callsK (n := 45) (L := [(0, .pointer (some ⟨p, 0, none⟩)), (1, .int .i64 x), (2, .int .i64 y)]) Try.func17 rfl Try.ntmps17 rfl rfl (fun a0 K0 => ?_)
  refine seqR ?_
  refine lac K0 rfl rfl (want_none rfl) rfl (fun a1 K1 => ?_)
  refine nilN ?_
  refine wp_seq ?_
  refine seqR ?_
  refine lmv K1 rfl rfl (want_none rfl) rfl rfl (fun a2 K2 => ?_)
  clear K1
  refine ltake (v := .bool false) (w' := w) K2 rfl rfl (want_none rfl) (fun ev E => ?_) (fun a3 K3 => ?_)
  · have EC := E.const; have E7 := E.tmp 7 _ rfl; clear E; clear PH KP LH; go_simp
  clear K2
  refine lmv K3 rfl rfl (want_none rfl) rfl rfl (fun a4 K4 => ?_)
  clear K3
  refine lmv K4 rfl rfl (want_some K4 rfl rfl rfl) rfl rfl (fun a5 K5 => ?_)
  clear K4
  refine ltake (v := .bool false) (w' := w) K5 rfl rfl (want_some K5 rfl rfl rfl) (fun ev E => ?_) (fun a6 K6 => ?_)
  · have EC := E.const; have E10 := E.tmp 10 _ rfl; clear E; clear PH KP LH; go_simp
  clear K5
  refine ltake (v := .bool false) (w' := w) K6 rfl rfl (want_none rfl) (fun ev E => ?_) (fun a7 K7 => ?_)
  · have EC := E.const; have E9 := E.tmp 9 _ rfl; have E11 := E.tmp 11 _ rfl; clear E; clear PH KP LH; go_simp
  clear K6
  refine lmv K7 rfl rfl (want_none rfl) rfl rfl (fun a8 K8 => ?_)
  clear K7
  refine lmv K8 rfl rfl (want_some K8 rfl rfl rfl) rfl rfl (fun a9 K9 => ?_)
  clear K8
  refine lmv K9 rfl rfl (want_some K9 rfl rfl rfl) rfl rfl (fun a10 K10 => ?_)
  clear K9
  refine lnc K10 rfl rfl (want_some K10 rfl rfl rfl) rfl rfl (fun a11 K11 => ?_)
  clear K10
  refine lfa K11 rfl rfl (want_some K11 rfl rfl rfl) rfl rfl FA66_0 (fun a12 K12 => ?_)
  clear K11
  refine ltake (v := .int .i64 (room : Int)) (w' := w) K12 rfl rfl (want_some K12 rfl rfl rfl) (fun ev E => ?_) (fun a13 K13 => ?_)
  · obtain ⟨c0, c1, _⟩ := (unhide PH).head; have E17 := E.tmp 17 _ rfl; clear E; clear PH KP LH; go_simp
  clear K12
  refine ltake (v := .bool true) (w' := w) K13 rfl rfl (want_some K13 rfl rfl rfl) (fun ev E => ?_) (fun a14 K14 => ?_)
  · have E14 := E.tmp 14 _ rfl; have E18 := E.tmp 18 _ rfl; clear E; clear PH KP LH; go_simp
  clear K13
  refine ltake (v := .bool true) (w' := w) K14 rfl rfl (want_none rfl) (fun ev E => ?_) (fun a15 K15 => ?_)
  · have EC := E.const; have E13 := E.tmp 13 _ rfl; have E19 := E.tmp 19 _ rfl; clear E; clear PH KP LH; go_simp
  clear K14
  refine lmv K15 rfl rfl (want_none rfl) rfl rfl (fun a16 K16 => ?_)
  clear K15
  refine lskip K16 rfl rfl (want_not K16 rfl rfl rfl (by decide)) (fun a17 K17 => ?_)
  refine lskip K17 rfl rfl (want_not K17 rfl rfl rfl (by decide)) (fun a18 K18 => ?_)
  refine lskip K18 rfl rfl (want_not K18 rfl rfl rfl (by decide)) (fun a19 K19 => ?_)
  refine ltake (v := .bool true) (w' := w) K19 rfl rfl (want_none rfl) (fun ev E => ?_) (fun a20 K20 => ?_)
  · have EC := E.const; have E21 := E.tmp 21 _ rfl; have E24 := E.tmp 24 _ rfl; clear E; clear PH KP LH; go_simp
  clear K19
  refine lmv K20 rfl rfl (want_none rfl) rfl rfl (fun a21 K21 => ?_)
  clear K20
  refine lskip K21 rfl rfl (want_not K21 rfl rfl rfl (by decide)) (fun a22 K22 => ?_)
  refine lskip K22 rfl rfl (want_not K22 rfl rfl rfl (by decide)) (fun a23 K23 => ?_)
  refine lskip K23 rfl rfl (want_not K23 rfl rfl rfl (by decide)) (fun a24 K24 => ?_)
  refine ltake (v := .bool true) (w' := w) K24 rfl rfl (want_none rfl) (fun ev E => ?_) (fun a25 K25 => ?_)
  · have EC := E.const; have E26 := E.tmp 26 _ rfl; have E29 := E.tmp 29 _ rfl; clear E; clear PH KP LH; go_simp
  clear K24
  refine nilN ?_
  refine knCond (b := true) K25 rfl ?_
  refine seqR ?_
  refine lac K25 rfl rfl (want_none rfl) rfl (fun a26 K26 => ?_)
  clear K25
  refine nilN ?_
  refine wp_ret ?_
  refine thenRet ?_
  refine bodyPost_ret (v := .bool false) ?_ K26.defers ⟨rfl, unhide KP, unhide PH⟩
  have e6 := K26.has 6 _ rfl
  simp [results, Try.results17, go_sem, e6]
set_option maxHeartbeats 4000000 in
theorem addN3 {p g n cap room : Nat} {T : Tr} {S : Ss} {G : Gh} {w : World} {i t : Nat} {y : Int} (h : Pool w p g n cap room S) (L : Lc S n T G) (hi : Th T t) (hit : t = i + 1) (hr : i < room) :
    Calls Try.prog 17 #[.pointer (some ⟨p, 0, none⟩), .int .i64 (i : Int), .int .i64 y] w fun e w' => e = .returned (.bool false) ∧ Keep [g] w w' ∧ Pool w' p g n cap room S := by
  have PH := hide h
  have KP := hide (Keep.refl [g] w)
  have LH := hide L
  clear h L
  have lt1 := (unhide LH).lt t hi
  have e1 : (0 : Int) ≤ (t : Int) := by omega
  have e2 : (t : Int) < (n : Int) := by omega
  have t1 := hi.1
  have e5 : ¬ (t : Int) = 0 := by omega
  have e6 : ¬ t = 0 := by omega
  have HT := hide hi
  have HI := hide hit
  clear hi hit t1
  have e4 : ¬ ((i : Int) < 0) := by omega
  have e7 : ¬ ((room : Int) ≤ (i : Int)) := by omega
  refine callsK (n := 45) (L := [(0, .pointer (some ⟨p, 0, none⟩)), (1, .int .i64 (i : Int)), (2, .int .i64 y)]) Try.func17 rfl Try.ntmps17 rfl rfl (fun a0 K0 => ?_)
  refine seqR ?_
  refine lac K0 rfl rfl (want_none rfl) rfl (fun a1 K1 => ?_)
  refine nilN ?_
  refine wp_seq ?_
  refine seqR ?_
  refine lmv K1 rfl rfl (want_none rfl) rfl rfl (fun a2 K2 => ?_)
  clear K1
  refine ltake (v := .bool false) (w' := w) K2 rfl rfl (want_none rfl) (fun ev E => ?_) (fun a3 K3 => ?_)
  · have EC := E.const; have E7 := E.tmp 7 _ rfl; clear E; clear PH KP LH HT HI; go_simp
  clear K2
  refine lmv K3 rfl rfl (want_none rfl) rfl rfl (fun a4 K4 => ?_)
  clear K3
  refine lmv K4 rfl rfl (want_some K4 rfl rfl rfl) rfl rfl (fun a5 K5 => ?_)
  clear K4
  refine ltake (v := .bool false) (w' := w) K5 rfl rfl (want_some K5 rfl rfl rfl) (fun ev E => ?_) (fun a6 K6 => ?_)
  · have EC := E.const; have E10 := E.tmp 10 _ rfl; clear E; clear PH KP LH HT HI; go_simp
  clear K5
  refine ltake (v := .bool false) (w' := w) K6 rfl rfl (want_none rfl) (fun ev E => ?_) (fun a7 K7 => ?_)
  · have EC := E.const; have E9 := E.tmp 9 _ rfl; have E11 := E.tmp 11 _ rfl; clear E; clear PH KP LH HT HI; go_simp
  clear K6
  refine lmv K7 rfl rfl (want_none rfl) rfl rfl (fun a8 K8 => ?_)
  clear K7
  refine lmv K8 rfl rfl (want_some K8 rfl rfl rfl) rfl rfl (fun a9 K9 => ?_)
  clear K8
  refine lmv K9 rfl rfl (want_some K9 rfl rfl rfl) rfl rfl (fun a10 K10 => ?_)
  clear K9
  refine lnc K10 rfl rfl (want_some K10 rfl rfl rfl) rfl rfl (fun a11 K11 => ?_)
  clear K10
  refine lfa K11 rfl rfl (want_some K11 rfl rfl rfl) rfl rfl FA66_0 (fun a12 K12 => ?_)
  clear K11
  refine ltake (v := .int .i64 (room : Int)) (w' := w) K12 rfl rfl (want_some K12 rfl rfl rfl) (fun ev E => ?_) (fun a13 K13 => ?_)
  · obtain ⟨c0, c1, _⟩ := (unhide PH).head; have E17 := E.tmp 17 _ rfl; clear E; clear PH KP LH HT HI; go_simp
  clear K12
  refine ltake (v := .bool false) (w' := w) K13 rfl rfl (want_some K13 rfl rfl rfl) (fun ev E => ?_) (fun a14 K14 => ?_)
  · have E14 := E.tmp 14 _ rfl; have E18 := E.tmp 18 _ rfl; clear E; clear PH KP LH HT HI; go_simp
  clear K13
  refine ltake (v := .bool false) (w' := w) K14 rfl rfl (want_none rfl) (fun ev E => ?_) (fun a15 K15 => ?_)
  · have EC := E.const; have E13 := E.tmp 13 _ rfl; have E19 := E.tmp 19 _ rfl; clear E; clear PH KP LH HT HI; go_simp
  clear K14
  refine lmv K15 rfl rfl (want_none rfl) rfl rfl (fun a16 K16 => ?_)
  clear K15
  refine lmv K16 rfl rfl (want_some K16 rfl rfl rfl) rfl rfl (fun a17 K17 => ?_)
  clear K16
  refine lmv K17 rfl rfl (want_some K17 rfl rfl rfl) rfl rfl (fun a18 K18 => ?_)
  clear K17
  refine lcall (f := 37) (args := #[.pointer (some ⟨p, 0, none⟩), .int .i64 (i : Int)]) K18 rfl rfl (want_some K18 rfl rfl rfl) (fun ev E => ?_) (hasY (unhide PH) (unhide LH) (unhide HT) (unhide HI)) (fun e W19 hR => ?_)
  · have EF := E.func; have E22 := E.tmp 22 _ rfl; have E23 := E.tmp 23 _ rfl; clear E; clear PH KP LH HT HI; go_simp
  obtain ⟨rfl, Q1, P1⟩ := hR
  have Q2 := hide ((unhide KP).tr Q1)
  clear PH KP Q1
  have PH := hide P1
  have KP := Q2
  clear Q2 P1
  refine ⟨_, rfl, fun a20 K20 => ?_⟩
  clear K18
  refine ltake (v := .bool true) (w' := W19) K20 rfl rfl (want_none rfl) (fun ev E => ?_) (fun a21 K21 => ?_)
  · have EC := E.const; have E21 := E.tmp 21 _ rfl; have E24 := E.tmp 24 _ rfl; clear E; clear PH KP LH HT HI; go_simp
  clear K20
  refine lmv K21 rfl rfl (want_none rfl) rfl rfl (fun a22 K22 => ?_)
  clear K21
  refine lskip K22 rfl rfl (want_not K22 rfl rfl rfl (by decide)) (fun a23 K23 => ?_)
  refine lskip K23 rfl rfl (want_not K23 rfl rfl rfl (by decide)) (fun a24 K24 => ?_)
  refine lskip K24 rfl rfl (want_not K24 rfl rfl rfl (by decide)) (fun a25 K25 => ?_)
  refine ltake (v := .bool true) (w' := W19) K25 rfl rfl (want_none rfl) (fun ev E => ?_) (fun a26 K26 => ?_)
  · have EC := E.const; have E26 := E.tmp 26 _ rfl; have E29 := E.tmp 29 _ rfl; clear E; clear PH KP LH HT HI; go_simp
  clear K25
  refine nilN ?_
  refine knCond (b := true) K26 rfl ?_
  refine seqR ?_
  refine lac K26 rfl rfl (want_none rfl) rfl (fun a27 K27 => ?_)
  clear K26
  refine nilN ?_
  refine wp_ret ?_
  refine thenRet ?_
  refine bodyPost_ret (v := .bool false) ?_ K27.defers ⟨rfl, unhide KP, unhide PH⟩
  have e6 := K27.has 6 _ rfl
  simp [results, Try.results17, go_sem, e6]
set_option maxHeartbeats 4000000 in
theorem addN4 {p g n cap room : Nat} {T : Tr} {S : Ss} {G : Gh} {w : World} {i : Nat} {y : Int} (h : Pool w p g n cap room S) (L : Lc S n T G) (hx : T.hasI (i : Int) = false) (hr : i < room) (hf : fitB y = false) :
    Calls Try.prog 17 #[.pointer (some ⟨p, 0, none⟩), .int .i64 (i : Int), .int .i64 y] w fun e w' => e = .returned (.bool false) ∧ Keep [g] w w' ∧ Pool w' p g n cap room S := by
  have PH := hide h
  have KP := hide (Keep.refl [g] w)
  have LH := hide L
  clear h L
  have e4 : ¬ ((i : Int) < 0) := by omega
  have e7 : ¬ ((room : Int) ≤ (i : Int)) := by omega
  have HF := hide hf
  clear hf
  refine callsK (n := 45) (L := [(0, .pointer (some ⟨p, 0, none⟩)), (1, .int .i64 (i : Int)), (2, .int .i64 y)]) Try.func17 rfl Try.ntmps17 rfl rfl (fun a0 K0 => ?_)
  refine seqR ?_
  refine lac K0 rfl rfl (want_none rfl) rfl (fun a1 K1 => ?_)
  refine nilN ?_
  refine wp_seq ?_
  refine seqR ?_
  refine lmv K1 rfl rfl (want_none rfl) rfl rfl (fun a2 K2 => ?_)
  clear K1
  refine ltake (v := .bool false) (w' := w) K2 rfl rfl (want_none rfl) (fun ev E => ?_) (fun a3 K3 => ?_)
  · have EC := E.const; have E7 := E.tmp 7 _ rfl; clear E; clear PH KP LH HF; go_simp
  clear K2
  refine lmv K3 rfl rfl (want_none rfl) rfl rfl (fun a4 K4 => ?_)
  clear K3
  refine lmv K4 rfl rfl (want_some K4 rfl rfl rfl) rfl rfl (fun a5 K5 => ?_)
  clear K4
  refine ltake (v := .bool false) (w' := w) K5 rfl rfl (want_some K5 rfl rfl rfl) (fun ev E => ?_) (fun a6 K6 => ?_)
  · have EC := E.const; have E10 := E.tmp 10 _ rfl; clear E; clear PH KP LH HF; go_simp
  clear K5
  refine ltake (v := .bool false) (w' := w) K6 rfl rfl (want_none rfl) (fun ev E => ?_) (fun a7 K7 => ?_)
  · have EC := E.const; have E9 := E.tmp 9 _ rfl; have E11 := E.tmp 11 _ rfl; clear E; clear PH KP LH HF; go_simp
  clear K6
  refine lmv K7 rfl rfl (want_none rfl) rfl rfl (fun a8 K8 => ?_)
  clear K7
  refine lmv K8 rfl rfl (want_some K8 rfl rfl rfl) rfl rfl (fun a9 K9 => ?_)
  clear K8
  refine lmv K9 rfl rfl (want_some K9 rfl rfl rfl) rfl rfl (fun a10 K10 => ?_)
  clear K9
  refine lnc K10 rfl rfl (want_some K10 rfl rfl rfl) rfl rfl (fun a11 K11 => ?_)
  clear K10
  refine lfa K11 rfl rfl (want_some K11 rfl rfl rfl) rfl rfl FA66_0 (fun a12 K12 => ?_)
  clear K11
  refine ltake (v := .int .i64 (room : Int)) (w' := w) K12 rfl rfl (want_some K12 rfl rfl rfl) (fun ev E => ?_) (fun a13 K13 => ?_)
  · obtain ⟨c0, c1, _⟩ := (unhide PH).head; have E17 := E.tmp 17 _ rfl; clear E; clear PH KP LH HF; go_simp
  clear K12
  refine ltake (v := .bool false) (w' := w) K13 rfl rfl (want_some K13 rfl rfl rfl) (fun ev E => ?_) (fun a14 K14 => ?_)
  · have E14 := E.tmp 14 _ rfl; have E18 := E.tmp 18 _ rfl; clear E; clear PH KP LH HF; go_simp
  clear K13
  refine ltake (v := .bool false) (w' := w) K14 rfl rfl (want_none rfl) (fun ev E => ?_) (fun a15 K15 => ?_)
  · have EC := E.const; have E13 := E.tmp 13 _ rfl; have E19 := E.tmp 19 _ rfl; clear E; clear PH KP LH HF; go_simp
  clear K14
  refine lmv K15 rfl rfl (want_none rfl) rfl rfl (fun a16 K16 => ?_)
  clear K15
  refine lmv K16 rfl rfl (want_some K16 rfl rfl rfl) rfl rfl (fun a17 K17 => ?_)
  clear K16
  refine lmv K17 rfl rfl (want_some K17 rfl rfl rfl) rfl rfl (fun a18 K18 => ?_)
  clear K17
  refine lcall (f := 37) (args := #[.pointer (some ⟨p, 0, none⟩), .int .i64 (i : Int)]) K18 rfl rfl (want_some K18 rfl rfl rfl) (fun ev E => ?_) (hasN (unhide PH) (unhide LH) hx) (fun e W19 hR => ?_)
  · have EF := E.func; have E22 := E.tmp 22 _ rfl; have E23 := E.tmp 23 _ rfl; clear E; clear PH KP LH HF; go_simp
  obtain ⟨rfl, Q1, P1⟩ := hR
  have Q2 := hide ((unhide KP).tr Q1)
  clear PH KP Q1
  have PH := hide P1
  have KP := Q2
  clear Q2 P1
  refine ⟨_, rfl, fun a20 K20 => ?_⟩
  clear K18
  refine ltake (v := .bool false) (w' := W19) K20 rfl rfl (want_none rfl) (fun ev E => ?_) (fun a21 K21 => ?_)
  · have EC := E.const; have E21 := E.tmp 21 _ rfl; have E24 := E.tmp 24 _ rfl; clear E; clear PH KP LH HF; go_simp
  clear K20
  refine lmv K21 rfl rfl (want_none rfl) rfl rfl (fun a22 K22 => ?_)
  clear K21
  refine lmv K22 rfl rfl (want_some K22 rfl rfl rfl) rfl rfl (fun a23 K23 => ?_)
  clear K22
  refine lcall (f := 52) (args := #[.int .i64 y]) K23 rfl rfl (want_some K23 rfl rfl rfl) (fun ev E => ?_) (fitsK (unhide PH) (unhide HF)) (fun e W24 hR => ?_)
  · have EF := E.func; have E27 := E.tmp 27 _ rfl; clear E; clear PH KP LH HF; go_simp
  obtain ⟨rfl, Q1, P1⟩ := hR
  have Q2 := hide ((unhide KP).tr Q1)
  clear PH KP Q1
  have PH := hide P1
  have KP := Q2
  clear Q2 P1
  refine ⟨_, rfl, fun a25 K25 => ?_⟩
  clear K23
  refine ltake (v := .bool true) (w' := W24) K25 rfl rfl (want_some K25 rfl rfl rfl) (fun ev E => ?_) (fun a26 K26 => ?_)
  · have E28 := E.tmp 28 _ rfl; clear E; clear PH KP LH HF; go_simp
  clear K25
  refine ltake (v := .bool true) (w' := W24) K26 rfl rfl (want_none rfl) (fun ev E => ?_) (fun a27 K27 => ?_)
  · have EC := E.const; have E26 := E.tmp 26 _ rfl; have E29 := E.tmp 29 _ rfl; clear E; clear PH KP LH HF; go_simp
  clear K26
  refine nilN ?_
  refine knCond (b := true) K27 rfl ?_
  refine seqR ?_
  refine lac K27 rfl rfl (want_none rfl) rfl (fun a28 K28 => ?_)
  clear K27
  refine nilN ?_
  refine wp_ret ?_
  refine thenRet ?_
  refine bodyPost_ret (v := .bool false) ?_ K28.defers ⟨rfl, unhide KP, unhide PH⟩
  have e6 := K28.has 6 _ rfl
  simp [results, Try.results17, go_sem, e6]
set_option maxHeartbeats 4000000 in
theorem tail17 {p g n cap room i t : Nat} {y : Int} {S : Ss} {Q : Exit → Act → World → Prop} {a0 : Act} {w : World} (K0 : Kn a0 45 [(0, .pointer (some ⟨p, 0, none⟩)), (1, .int .i64 (i : Int)), (2, .int .i64 y)]) (h : Pool w p g n cap room S) (lt1 : t < n) (w1 : IntKind.i64.wrap ((i : Int) + 1) = (t : Int))
    (hN : ∀ a' W, Kn a' 45 [(6, .bool true)] → Pool W p g n cap room (upd S t (newSl y)) → Keep [g] w W → Q .ret a' W) : (Code.seq (Code.region 4 OPS17_4.toArray true) (Code.seq (Code.region 5 (rg [1, 1, 1, 1, 0] Try.f17).toArray false) Code.ret)).wp Try.prog Q a0 w := by
  refine seqN ?_
  have e1 : (0 : Int) ≤ (t : Int) := by omega
  have e2 : (t : Int) < (n : Int) := by omega
  have hS : (fun w' : World => Pool w' p g n cap room S) w.drew := h.drew
  have HP := hide h
  have HN := hide hN
  have b0 : Below w.heap.size w w.drew := (Below.refl _ _).drew
  clear h hN
  have hq : ∀ c a a' w', Norm (fun a w => Code.wp Try.prog (Code.seq (Code.region 5 (rg [1, 1, 1, 1, 0] Try.f17).toArray false) Code.ret) Q a w) (.panic c) a w' → Norm (fun a w => Code.wp Try.prog (Code.seq (Code.region 5 (rg [1, 1, 1, 1, 0] Try.f17).toArray false) Code.ret) Q a w) (.panic c) a' w' := fun _ _ _ _ h => h
  refine wp_region_till (t := 11) (S := (fun w' : World => Pool w' p g n cap room S)) (by kernel_rfl) ?_
  rw [show (OPS17_4.toArray).size = 12 from by kernel_rfl]
  refine upure (i := 0) (o := O17_4_0) (v := .pointer (some ⟨p, 0, none⟩)) K0 hq rfl NS17_4 (by kernel_rfl) (by kernel_rfl) rfl rfl rfl (want_none rfl) (fun ev E w9 => ?_) (fun _ => hS) (fun a1 K1 => ?_)
  · have E0 := E.tmp 0 _ rfl; clear E; unfold O17_4_0; clear HN hq hS HP; go_simp
  refine upure (i := 1) (o := O17_4_1) (v := .pointer (some ⟨p, 0, none⟩)) K1 hq rfl NS17_4 (by kernel_rfl) (by kernel_rfl) rfl rfl rfl (want_none rfl) (fun ev E w9 => ?_) (fun _ => hS) (fun a2 K2 => ?_)
  · have E34 := E.tmp 34 _ rfl; clear E; unfold O17_4_1; clear HN hq hS HP; go_simp
  clear K1
  refine upure (i := 2) (o := O17_4_2) (v := .pointer (some ⟨p, 1, none⟩)) K2 hq rfl NS17_4 (by kernel_rfl) (by kernel_rfl) rfl rfl rfl (want_none rfl) (fun ev E w9 => ?_) (fun _ => hS) (fun a3 K3 => ?_)
  · have E35 := E.tmp 35 _ rfl; clear E; unfold O17_4_2; clear HN hq hS HP; go_simp
  clear K2
  refine utake (i := 3) (o := O17_4_3) (v := .slice (some ⟨g, 0, none⟩) n cap) K3 hq rfl NS17_4 (by kernel_rfl) (by kernel_rfl) (by kernel_rfl) (by kernel_rfl) rfl rfl (want_none rfl) (fun ev E w9 hSw => ?_) hS (fun a4 K4 => ?_)
  · obtain ⟨c0, c1, _⟩ := hSw.head; clear hSw; have E36 := E.tmp 36 _ rfl; clear E; unfold O17_4_3; clear HN hq hS HP; go_simp
  clear K3
  refine upure (i := 4) (o := O17_4_4) (v := .int .i64 (i : Int)) K4 hq rfl NS17_4 (by kernel_rfl) (by kernel_rfl) rfl rfl rfl (want_none rfl) (fun ev E w9 => ?_) (fun _ => hS) (fun a5 K5 => ?_)
  · have E1 := E.tmp 1 _ rfl; clear E; unfold O17_4_4; clear HN hq hS HP; go_simp
  clear K4
  refine upure (i := 5) (o := O17_4_5) (v := .int .i64 (t : Int)) K5 hq rfl NS17_4 (by kernel_rfl) (by kernel_rfl) rfl rfl rfl (want_none rfl) (fun ev E w9 => ?_) (fun _ => hS) (fun a6 K6 => ?_)
  · have EC := E.const; have E38 := E.tmp 38 _ rfl; clear E; unfold O17_4_5; clear HN hq hS HP; go_simp
  clear K5
  refine upure (i := 6) (o := O17_4_6) (v := .int .i64 y) K6 hq rfl NS17_4 (by kernel_rfl) (by kernel_rfl) rfl rfl rfl (want_none rfl) (fun ev E w9 => ?_) (fun _ => hS) (fun a7 K7 => ?_)
  · have E2 := E.tmp 2 _ rfl; clear E; unfold O17_4_6; clear HN hq hS HP; go_simp
  clear K6
  refine upure (i := 7) (o := O17_4_7) (v := .int .i64 y) K7 hq rfl NS17_4 (by kernel_rfl) (by kernel_rfl) rfl rfl rfl (want_none rfl) (fun ev E w9 => ?_) (fun _ => hS) (fun a8 K8 => ?_)
  · have E2 := E.tmp 2 _ rfl; clear E; unfold O17_4_7; clear HN hq hS HP; go_simp
  clear K7
  refine uone (i := 8) (o := ⟨some 42, .call { callee := (.value (.func 54)), args := #[(.tmp 41)], argTypes := #[3] }, 34, "link.go:36", #[⟨7, .data⟩], none⟩) K8 rfl (by kernel_rfl) rfl rfl (want_none rfl) (leaves_call (fn := 54) (args := #[.int .i64 y]) K8 (fun ev E => by clear HN hq hS HP; have EF := E.func; have E41 := E.tmp 41 _ rfl; clear E; go_simp) (one_any _ _) (fun e w' h => ⟨_, h.1⟩)) (fun v9 C1 hR => ?_)
  obtain ⟨hv, hb⟩ := hR
  injection hv with hv
  subst hv
  have b1 : Below w.heap.size w C1 := b0.trans (hb.mono b0.size)
  clear hS hb
  have hS : (fun w' : World => Pool w' p g n cap room S) C1 := (unhide HP).below b1
  refine ⟨fun _ => hS, fun a9 K9 => ?_⟩
  clear K8
  replace K9 : Kn _ 45 ((42, .agg #[.int .i64 1, .int .i64 y, .int .i64 y, .int .i64 y]) :: _) := K9
  refine upure (i := 9) (o := O17_4_9) (v := .agg #[.int .i64 0, .int .i64 0, .int .i64 0, .bool false, .int .i64 y, .int .i64 0, .int .i64 1, .int .i64 y, .int .i64 y, .int .i64 y, .int .i64 0, .int .i64 0, .int .i64 0, .int .i64 0]) K9 hq rfl NS17_4 (by kernel_rfl) (by kernel_rfl) rfl rfl rfl (want_none rfl) (fun ev E w9 => ?_) (fun _ => hS) (fun a10 K10 => ?_)
  · have E40 := E.tmp 40 _ rfl; have E42 := E.tmp 42 _ rfl; clear E; unfold O17_4_9; clear HN hq hS HP; go_simp
  clear K9
  refine upure (i := 10) (o := O17_4_10) (v := .pointer (some ⟨g, t * 14, none⟩)) K10 hq rfl NS17_4 (by kernel_rfl) (by kernel_rfl) rfl rfl rfl (want_none rfl) (fun ev E w9 => ?_) (fun _ => hS) (fun a11 K11 => ?_)
  · have E37 := E.tmp 37 _ rfl; have E39 := E.tmp 39 _ rfl; clear E; unfold O17_4_10; clear HN hq hS HP; go_simp
  clear K10
  have P0 := hide hS
  clear hS
  obtain ⟨s0, s1, s2, s3, s4, s5, s6, s7, s8, s9, s10, s11, s12, s13⟩ := (unhide P0).slot (t := t) lt1
  obtain ⟨f0, f1, f2, f3, f4, f5, f6, f7, f8, f9, f10, f11, f12, f13⟩ := (unhide P0).soft (t := t) lt1
  refine ustore (R := fun _ _ => True) (i := 11) (o := O17_4_11) (w' := ((((((((((((((C1.setCell ⟨g, t * 14, none⟩ (.int .i64 0)).setCell ⟨g, t * 14 + 1, none⟩ (.int .i64 0)).setCell ⟨g, t * 14 + 2, none⟩ (.int .i64 0)).setCell ⟨g, t * 14 + 3, none⟩ (.bool false)).setCell ⟨g, t * 14 + 4, none⟩ (.int .i64 y)).setCell ⟨g, t * 14 + 5, none⟩ (.int .i64 0)).setCell ⟨g, t * 14 + 6, none⟩ (.int .i64 1)).setCell ⟨g, t * 14 + 7, none⟩ (.int .i64 y)).setCell ⟨g, t * 14 + 8, none⟩ (.int .i64 y)).setCell ⟨g, t * 14 + 9, none⟩ (.int .i64 y)).setCell ⟨g, t * 14 + 10, none⟩ (.int .i64 0)).setCell ⟨g, t * 14 + 11, none⟩ (.int .i64 0)).setCell ⟨g, t * 14 + 12, none⟩ (.int .i64 0)).setCell ⟨g, t * 14 + 13, none⟩ (.int .i64 0))) K11 rfl (by kernel_rfl) rfl (want_none rfl) (fun ev E => ?_) (fun hx => absurd hx (by decide)) ?_
  · have E43 := E.tmp 43 _ rfl; have E44 := E.tmp 44 _ rfl; clear E; unfold O17_4_11; clear HN hq HP P0; go_simp
  refine till_done (by kernel_rfl) ?_ _
  clear s0 s1 s2 s3 s4 s5 s6 s7 s8 s9 s10 s11 s12 s13 f0 f1 f2 f3 f4 f5 f6 f7 f8 f9 f10 f11 f12 f13
  have P3 : Pool ((((((((((((((C1.setCell ⟨g, t * 14, none⟩ (.int .i64 0)).setCell ⟨g, t * 14 + 1, none⟩ (.int .i64 0)).setCell ⟨g, t * 14 + 2, none⟩ (.int .i64 0)).setCell ⟨g, t * 14 + 3, none⟩ (.bool false)).setCell ⟨g, t * 14 + 4, none⟩ (.int .i64 y)).setCell ⟨g, t * 14 + 5, none⟩ (.int .i64 0)).setCell ⟨g, t * 14 + 6, none⟩ (.int .i64 1)).setCell ⟨g, t * 14 + 7, none⟩ (.int .i64 y)).setCell ⟨g, t * 14 + 8, none⟩ (.int .i64 y)).setCell ⟨g, t * 14 + 9, none⟩ (.int .i64 y)).setCell ⟨g, t * 14 + 10, none⟩ (.int .i64 0)).setCell ⟨g, t * 14 + 11, none⟩ (.int .i64 0)).setCell ⟨g, t * 14 + 12, none⟩ (.int .i64 0)).setCell ⟨g, t * 14 + 13, none⟩ (.int .i64 0)) p g n cap room (upd S t (newSl y)) := (unhide P0).putSlot lt1 (newSl y)
  have Q3 : Keep [g] w ((((((((((((((C1.setCell ⟨g, t * 14, none⟩ (.int .i64 0)).setCell ⟨g, t * 14 + 1, none⟩ (.int .i64 0)).setCell ⟨g, t * 14 + 2, none⟩ (.int .i64 0)).setCell ⟨g, t * 14 + 3, none⟩ (.bool false)).setCell ⟨g, t * 14 + 4, none⟩ (.int .i64 y)).setCell ⟨g, t * 14 + 5, none⟩ (.int .i64 0)).setCell ⟨g, t * 14 + 6, none⟩ (.int .i64 1)).setCell ⟨g, t * 14 + 7, none⟩ (.int .i64 y)).setCell ⟨g, t * 14 + 8, none⟩ (.int .i64 y)).setCell ⟨g, t * 14 + 9, none⟩ (.int .i64 y)).setCell ⟨g, t * 14 + 10, none⟩ (.int .i64 0)).setCell ⟨g, t * 14 + 11, none⟩ (.int .i64 0)).setCell ⟨g, t * 14 + 12, none⟩ (.int .i64 0)).setCell ⟨g, t * 14 + 13, none⟩ (.int .i64 0)) := keep14 (Keep.ofBelow b1 [g]) (newSl y)
  generalize ((((((((((((((C1.setCell ⟨g, t * 14, none⟩ (.int .i64 0)).setCell ⟨g, t * 14 + 1, none⟩ (.int .i64 0)).setCell ⟨g, t * 14 + 2, none⟩ (.int .i64 0)).setCell ⟨g, t * 14 + 3, none⟩ (.bool false)).setCell ⟨g, t * 14 + 4, none⟩ (.int .i64 y)).setCell ⟨g, t * 14 + 5, none⟩ (.int .i64 0)).setCell ⟨g, t * 14 + 6, none⟩ (.int .i64 1)).setCell ⟨g, t * 14 + 7, none⟩ (.int .i64 y)).setCell ⟨g, t * 14 + 8, none⟩ (.int .i64 y)).setCell ⟨g, t * 14 + 9, none⟩ (.int .i64 y)).setCell ⟨g, t * 14 + 10, none⟩ (.int .i64 0)).setCell ⟨g, t * 14 + 11, none⟩ (.int .i64 0)).setCell ⟨g, t * 14 + 12, none⟩ (.int .i64 0)).setCell ⟨g, t * 14 + 13, none⟩ (.int .i64 0)) = W5 at *
  have PH := hide P3
  have KP := hide Q3
  clear P3 Q3 P0 HP hq
  show Code.wp _ _ _ _ _
  refine seqR ?_
  refine lac K11 rfl rfl (want_none rfl) rfl (fun a12 K12 => ?_)
  clear K11
  refine nilN ?_
  refine wp_ret ?_
  exact unhide HN _ _ (K12.less ⟨rfl, trivial⟩) (unhide PH) (unhide KP)
set_option maxHeartbeats 4000000 in
theorem addY {p g n cap room : Nat} {T : Tr} {S : Ss} {G : Gh} {w : World} {i : Nat} {y : Int} (h : Pool w p g n cap room S) (L : Lc S n T G) (hrm : T.n = room) (hx : T.hasI (i : Int) = false) (hr : i < room) (hf : fitB y = true) :
    Calls Try.prog 17 #[.pointer (some ⟨p, 0, none⟩), .int .i64 (i : Int), .int .i64 y] w fun e w' => e = .returned (.bool true) ∧ Keep [p, g] w w' ∧ ∃ g2 n2 cap2 S1 G1, Pool w' p g2 n2 cap2 room S1 ∧ Lc S1 n2 (T.add i y) G1 ∧ (g2 = g ∨ w.heap.size ≤ g2) := by
  have PH := hide h
  have KP := hide (Keep.refl [g] w)
  have LH := hide L
  clear h L
  have e4 : ¬ ((i : Int) < 0) := by omega
  have e7 : ¬ ((room : Int) ≤ (i : Int)) := by omega
  have HF := hide hf
  clear hf
  have nnn := (unhide LH).nn
  have hTn := (unhide LH).ft.n
  refine callsK (n := 45) (L := [(0, .pointer (some ⟨p, 0, none⟩)), (1, .int .i64 (i : Int)), (2, .int .i64 y)]) Try.func17 rfl Try.ntmps17 rfl rfl (fun a0 K0 => ?_)
  refine seqR ?_
  refine lac K0 rfl rfl (want_none rfl) rfl (fun a1 K1 => ?_)
  refine nilN ?_
  refine seqN ?_
  refine seqR ?_
  refine lmv K1 rfl rfl (want_none rfl) rfl rfl (fun a2 K2 => ?_)
  clear K1
  refine ltake (v := .bool false) (w' := w) K2 rfl rfl (want_none rfl) (fun ev E => ?_) (fun a3 K3 => ?_)
  · have EC := E.const; have E7 := E.tmp 7 _ rfl; clear E; clear PH KP LH HF; go_simp
  clear K2
  refine lmv K3 rfl rfl (want_none rfl) rfl rfl (fun a4 K4 => ?_)
  clear K3
  refine lmv K4 rfl rfl (want_some K4 rfl rfl rfl) rfl rfl (fun a5 K5 => ?_)
  clear K4
  refine ltake (v := .bool false) (w' := w) K5 rfl rfl (want_some K5 rfl rfl rfl) (fun ev E => ?_) (fun a6 K6 => ?_)
  · have EC := E.const; have E10 := E.tmp 10 _ rfl; clear E; clear PH KP LH HF; go_simp
  clear K5
  refine ltake (v := .bool false) (w' := w) K6 rfl rfl (want_none rfl) (fun ev E => ?_) (fun a7 K7 => ?_)
  · have EC := E.const; have E9 := E.tmp 9 _ rfl; have E11 := E.tmp 11 _ rfl; clear E; clear PH KP LH HF; go_simp
  clear K6
  refine lmv K7 rfl rfl (want_none rfl) rfl rfl (fun a8 K8 => ?_)
  clear K7
  refine lmv K8 rfl rfl (want_some K8 rfl rfl rfl) rfl rfl (fun a9 K9 => ?_)
  clear K8
  refine lmv K9 rfl rfl (want_some K9 rfl rfl rfl) rfl rfl (fun a10 K10 => ?_)
  clear K9
  refine lnc K10 rfl rfl (want_some K10 rfl rfl rfl) rfl rfl (fun a11 K11 => ?_)
  clear K10
  refine lfa K11 rfl rfl (want_some K11 rfl rfl rfl) rfl rfl FA66_0 (fun a12 K12 => ?_)
  clear K11
  refine ltake (v := .int .i64 (room : Int)) (w' := w) K12 rfl rfl (want_some K12 rfl rfl rfl) (fun ev E => ?_) (fun a13 K13 => ?_)
  · obtain ⟨c0, c1, _⟩ := (unhide PH).head; have E17 := E.tmp 17 _ rfl; clear E; clear PH KP LH HF; go_simp
  clear K12
  refine ltake (v := .bool false) (w' := w) K13 rfl rfl (want_some K13 rfl rfl rfl) (fun ev E => ?_) (fun a14 K14 => ?_)
  · have E14 := E.tmp 14 _ rfl; have E18 := E.tmp 18 _ rfl; clear E; clear PH KP LH HF; go_simp
  clear K13
  refine ltake (v := .bool false) (w' := w) K14 rfl rfl (want_none rfl) (fun ev E => ?_) (fun a15 K15 => ?_)
  · have EC := E.const; have E13 := E.tmp 13 _ rfl; have E19 := E.tmp 19 _ rfl; clear E; clear PH KP LH HF; go_simp
  clear K14
  refine lmv K15 rfl rfl (want_none rfl) rfl rfl (fun a16 K16 => ?_)
  clear K15
  refine lmv K16 rfl rfl (want_some K16 rfl rfl rfl) rfl rfl (fun a17 K17 => ?_)
  clear K16
  refine lmv K17 rfl rfl (want_some K17 rfl rfl rfl) rfl rfl (fun a18 K18 => ?_)
  clear K17
  refine lcall (f := 37) (args := #[.pointer (some ⟨p, 0, none⟩), .int .i64 (i : Int)]) K18 rfl rfl (want_some K18 rfl rfl rfl) (fun ev E => ?_) (hasN (unhide PH) (unhide LH) hx) (fun e W19 hR => ?_)
  · have EF := E.func; have E22 := E.tmp 22 _ rfl; have E23 := E.tmp 23 _ rfl; clear E; clear PH KP LH HF; go_simp
  obtain ⟨rfl, Q1, P1⟩ := hR
  have Q2 := hide ((unhide KP).tr Q1)
  clear PH KP Q1
  have PH := hide P1
  have KP := Q2
  clear Q2 P1
  refine ⟨_, rfl, fun a20 K20 => ?_⟩
  clear K18
  refine ltake (v := .bool false) (w' := W19) K20 rfl rfl (want_none rfl) (fun ev E => ?_) (fun a21 K21 => ?_)
  · have EC := E.const; have E21 := E.tmp 21 _ rfl; have E24 := E.tmp 24 _ rfl; clear E; clear PH KP LH HF; go_simp
  clear K20
  refine lmv K21 rfl rfl (want_none rfl) rfl rfl (fun a22 K22 => ?_)
  clear K21
  refine lmv K22 rfl rfl (want_some K22 rfl rfl rfl) rfl rfl (fun a23 K23 => ?_)
  clear K22
  refine lcall (f := 52) (args := #[.int .i64 y]) K23 rfl rfl (want_some K23 rfl rfl rfl) (fun ev E => ?_) (fitsK (unhide PH) (unhide HF)) (fun e W24 hR => ?_)
  · have EF := E.func; have E27 := E.tmp 27 _ rfl; clear E; clear PH KP LH HF; go_simp
  obtain ⟨rfl, Q1, P1⟩ := hR
  have Q2 := hide ((unhide KP).tr Q1)
  clear PH KP Q1
  have PH := hide P1
  have KP := Q2
  clear Q2 P1
  refine ⟨_, rfl, fun a25 K25 => ?_⟩
  clear K23
  refine ltake (v := .bool false) (w' := W24) K25 rfl rfl (want_some K25 rfl rfl rfl) (fun ev E => ?_) (fun a26 K26 => ?_)
  · have E28 := E.tmp 28 _ rfl; clear E; clear PH KP LH HF; go_simp
  clear K25
  refine ltake (v := .bool false) (w' := W24) K26 rfl rfl (want_none rfl) (fun ev E => ?_) (fun a27 K27 => ?_)
  · have EC := E.const; have E26 := E.tmp 26 _ rfl; have E29 := E.tmp 29 _ rfl; clear E; clear PH KP LH HF; go_simp
  clear K26
  refine nilN ?_
  refine knCond (b := false) K27 rfl ?_
  refine wp_skip ?_
  show Code.wp _ _ _ _ _
  refine seqR ?_
  refine lmv K27 rfl rfl (want_none rfl) rfl rfl (fun a28 K28 => ?_)
  clear K27
  refine lmv K28 rfl rfl (want_none rfl) rfl rfl (fun a29 K29 => ?_)
  clear K28
  have hv : i ≤ 4194304 := by omega
  have hn4 : n ≤ 4194306 := by omega
  have n0 := (unhide LH).n0
  refine lcall (f := 53) (args := #[.pointer (some ⟨p, 0, none⟩), .int .i64 (i : Int)]) K29 rfl rfl (want_none rfl) (fun ev E => ?_) (reach_any i (unhide PH) (by omega) hv hn4) (fun e W30 hR => ?_)
  · have EF := E.func; have E31 := E.tmp 31 _ rfl; have E32 := E.tmp 32 _ rfl; clear E; clear PH KP LH HF; go_simp
  obtain ⟨rfl, g2, n2, cap2, R⟩ := hR
  have PR := hide R
  clear PH R
  refine ⟨_, rfl, fun a31 K31 => ?_⟩
  clear K29
  refine nilN ?_
  have K32 : Kn _ 45 [(0, .pointer (some ⟨p, 0, none⟩)), (1, .int .i64 (i : Int)), (2, .int .i64 y)] := K31.less ⟨rfl, rfl, rfl, trivial⟩
  have R := unhide PR
  have nn2 : n ≤ n2 ∧ n2 ≤ T.n + 1 := by have := R.nn; have := R.lt; omega
  have L2 := ((unhide LH).grow nn2.1 nn2.2).add (v := i) (w := y) (by rw [T.hasI_nat] at hx; simpa using hx) (by omega) (by have := unhide HF; simpa [fitB] using this) R.lt
  have w1 : IntKind.i64.wrap ((i : Int) + 1) = ((i + 1 : Nat) : Int) := by rw [IntWalk.i64_in _ (by omega)]; omega
  refine tail17 (t := i + 1) K32 R.po R.lt w1 (fun a' W5 K5 P5 Q5 => ?_)
  have KK : Keep [p, g] w W5 := by
    have k1 : Keep [p, g] w W30 := ((unhide KP).mono (js := [p, g]) (by simp)).trans R.kp (fun i hi => .inl hi)
    refine k1.trans (ks := [p, g]) Q5 (fun k hk => ?_)
    simp at hk
    subst hk
    rcases R.gg with e9 | e9
    · left; simp [e9]
    · right; have := (unhide KP).size; omega
  have GG : g2 = g ∨ w.heap.size ≤ g2 := by
    rcases R.gg with e9 | e9
    · exact .inl e9
    · right; have := (unhide KP).size; omega
  refine bodyPost_ret (v := .bool true) ?_ K5.defers ⟨rfl, KK, g2, n2, cap2, _, _, P5, L2, GG⟩
  have e6 := K5.has 6 _ rfl
  simp [results, Try.results17, go_sem, e6]
end Go.Proofs.Ytjnkgakajenoaaa
/- The program's forest: what is at or below a node. -/

namespace Go.Proofs.Ytjnkgakajenoaaa
open Go.RowKit Go.Arb
set_option linter.unusedVariables false
set_option linter.unusedSimpArgs false
set_option maxRecDepth 100000

def O33_6_0 : Oper := ⟨some 24, .fieldAddr 75 (.tmp 8) 7, 0, "link.go:178", #[], none⟩
def O33_6_1 : Oper := ⟨some 25, .fieldAddr 73 (.tmp 24) 0, 0, "link.go:178", #[⟨0, .data⟩], none⟩
def O33_6_2 : Oper := ⟨some 26, .load 3 (.tmp 25), 3, "link.go:178", #[⟨1, .data⟩], none⟩
def O33_6_3 : Oper := ⟨some 27, .binOp .add 3 (.tmp 26) (.const (.int .i64 1)) 3, 3, "link.go:178", #[⟨2, .data⟩], none⟩
def O33_6_4 : Oper := ⟨some 28, .fieldAddr 75 (.tmp 8) 7, 0, "link.go:178", #[⟨10, (Ground.gcOnly Departure.lateStores)⟩], none⟩
def O33_6_5 : Oper := ⟨some 29, .fieldAddr 73 (.tmp 28) 1, 0, "link.go:178", #[⟨4, .data⟩, ⟨10, (Ground.gcOnly Departure.lateStores)⟩], none⟩
def O33_6_6 : Oper := ⟨some 30, .load 3 (.tmp 29), 3, "link.go:178", #[⟨5, .data⟩, ⟨10, (Ground.gcOnly Departure.lateStores)⟩], none⟩
def O33_6_7 : Oper := ⟨some 31, .fieldAddr 75 (.tmp 8) 4, 0, "link.go:178", #[⟨10, (Ground.gcOnly Departure.lateStores)⟩], none⟩
def O33_6_8 : Oper := ⟨some 32, .load 3 (.tmp 31), 3, "link.go:178", #[⟨7, .data⟩, ⟨10, (Ground.gcOnly Departure.lateStores)⟩], none⟩
def O33_6_9 : Oper := ⟨some 33, .binOp .add 3 (.tmp 30) (.tmp 32) 3, 3, "link.go:178", #[⟨6, .data⟩, ⟨8, .data⟩, ⟨10, (Ground.gcOnly Departure.lateStores)⟩], none⟩
def O33_6_10 : Oper := ⟨some 4, .assign (.tmp 27), 3, "link.go:178", #[⟨3, .data⟩, ⟨0, .phase⟩, ⟨1, .phase⟩, ⟨2, .phase⟩, ⟨3, .phase⟩, ⟨4, (Ground.textOnly Departure.lateStores)⟩, ⟨5, (Ground.textOnly Departure.lateStores)⟩, ⟨6, (Ground.textOnly Departure.lateStores)⟩, ⟨7, (Ground.textOnly Departure.lateStores)⟩, ⟨8, (Ground.textOnly Departure.lateStores)⟩, ⟨9, (Ground.textOnly Departure.lateStores)⟩], none⟩
def O33_6_11 : Oper := ⟨some 5, .assign (.tmp 33), 3, "link.go:178", #[⟨9, .data⟩, ⟨10, .chain⟩, ⟨0, .phase⟩, ⟨1, .phase⟩, ⟨2, .phase⟩, ⟨3, .phase⟩, ⟨4, .phase⟩, ⟨5, .phase⟩, ⟨6, .phase⟩, ⟨7, .phase⟩, ⟨8, .phase⟩, ⟨9, .phase⟩, ⟨10, .phase⟩], none⟩
def O33_6_12 : Oper := ⟨some 6, .assign (.const (.bool true)), 4, "link.go:178", #[⟨11, .chain⟩, ⟨0, .phase⟩, ⟨1, .phase⟩, ⟨2, .phase⟩, ⟨3, .phase⟩, ⟨4, .phase⟩, ⟨5, .phase⟩, ⟨6, .phase⟩, ⟨7, .phase⟩, ⟨8, .phase⟩, ⟨9, .phase⟩, ⟨10, .phase⟩, ⟨11, .phase⟩], none⟩
def OPS33_6 : List Oper := [O33_6_0, O33_6_1, O33_6_2, O33_6_3, O33_6_4, O33_6_5, O33_6_6, O33_6_7, O33_6_8, O33_6_9, O33_6_10, O33_6_11, O33_6_12]
theorem NS33_6 : Region.noSelect OPS33_6.toArray = true := by kernel_rfl
set_option maxHeartbeats 4000000 in
theorem subN {p g n cap room : Nat} {T : Tr} {S : Ss} {G : Gh} {w : World} {x : Int} (h : Pool w p g n cap room S) (L : Lc S n T G) (hx : T.hasI x = false) :
    Calls Try.prog 33 #[.pointer (some ⟨p, 0, none⟩), .int .i64 x] w fun e w' => e = .returned (.tuple #[.int .i64 0, .int .i64 0, .bool false]) ∧ Keep [g] w w' ∧ Pool w' p g n cap room S := by
  have PH := hide h
  have KP := hide (Keep.refl [g] w)
  have LH := hide L
  clear h L
  refine callsK (n := 34) (L := [(0, .pointer (some ⟨p, 0, none⟩)), (1, .int .i64 x)]) Try.func33 rfl Try.ntmps33 rfl rfl (fun a0 K0 => ?_)
  refine seqR ?_
  refine lac K0 rfl rfl (want_none rfl) rfl (fun a1 K1 => ?_)
  refine lac K1 rfl rfl (want_none rfl) rfl (fun a2 K2 => ?_)
  clear K1
  refine lac K2 rfl rfl (want_none rfl) rfl (fun a3 K3 => ?_)
  clear K2
  refine nilN ?_
  refine seqR ?_
  refine lmv K3 rfl rfl (want_none rfl) rfl rfl (fun a4 K4 => ?_)
  clear K3
  refine lmv K4 rfl rfl (want_none rfl) rfl rfl (fun a5 K5 => ?_)
  clear K4
  refine lcall (f := 58) (args := #[.pointer (some ⟨p, 0, none⟩), .int .i64 x]) K5 rfl rfl (want_none rfl) (fun ev E => ?_) (findN (unhide PH) (unhide LH) hx) (fun e W6 hR => ?_)
  · have EF := E.func; have E9 := E.tmp 9 _ rfl; have E10 := E.tmp 10 _ rfl; clear E; clear PH KP LH; go_simp
  obtain ⟨rfl, Q1, P1⟩ := hR
  have Q2 := hide ((unhide KP).tr Q1)
  clear PH KP Q1
  have PH := hide P1
  have KP := Q2
  clear Q2 P1
  refine ⟨_, rfl, fun a7 K7 => ?_⟩
  clear K5
  refine las K7 rfl rfl (want_none rfl) rfl rfl (fun a8 K8 => ?_)
  clear K7
  refine nilN ?_
  refine wp_seq ?_
  refine seqR ?_
  refine lmv K8 rfl rfl (want_none rfl) rfl rfl (fun a9 K9 => ?_)
  clear K8
  refine ltake (v := .bool true) (w' := W6) K9 rfl rfl (want_none rfl) (fun ev E => ?_) (fun a10 K10 => ?_)
  · have EC := E.const; have E12 := E.tmp 12 _ rfl; clear E; clear PH KP LH; go_simp
  clear K9
  refine nilN ?_
  refine knCond (b := true) K10 rfl ?_
  refine seqR ?_
  refine lac K10 rfl rfl (want_none rfl) rfl (fun a11 K11 => ?_)
  clear K10
  refine lac K11 rfl rfl (want_none rfl) rfl (fun a12 K12 => ?_)
  clear K11
  refine lac K12 rfl rfl (want_none rfl) rfl (fun a13 K13 => ?_)
  clear K12
  refine nilN ?_
  refine wp_ret ?_
  refine thenRet ?_
  refine bodyPost_ret (v := .tuple #[.int .i64 0, .int .i64 0, .bool false]) ?_ K13.defers ⟨rfl, unhide KP, unhide PH⟩
  have e4 := K13.has 4 _ rfl
  have e5 := K13.has 5 _ rfl
  have e6 := K13.has 6 _ rfl
  simp [results, Try.results33, go_sem, e4, e5, e6]
set_option maxHeartbeats 4000000 in
theorem subY {p g n cap room : Nat} {T : Tr} {S : Ss} {G : Gh} {w : World} {i t : Nat} (h : Pool w p g n cap room S) (L : Lc S n T G) (hi : Th T t) (hit : t = i + 1) :
    Calls Try.prog 33 #[.pointer (some ⟨p, 0, none⟩), .int .i64 (i : Int)] w fun e w' => e = .returned (.tuple #[.int .i64 (Dc T t), .int .i64 (Dw T t), .bool true]) ∧ Keep [g] w w' ∧ ∃ S1 G1, Pool w' p g n cap room S1 ∧ Lc S1 n T G1 := by
  have PH := hide h
  have KP := hide (Keep.refl [g] w)
  have LH := hide L
  clear h L
  have lt1 := (unhide LH).lt t hi
  have e1 : (0 : Int) ≤ (t : Int) := by omega
  have e2 : (t : Int) < (n : Int) := by omega
  have t1 := hi.1
  have e5 : ¬ (t : Int) = 0 := by omega
  have e6 : ¬ t = 0 := by omega
  have HT := hide hi
  have HI := hide hit
  clear hi hit t1
  refine callsK (n := 34) (L := [(0, .pointer (some ⟨p, 0, none⟩)), (1, .int .i64 (i : Int))]) Try.func33 rfl Try.ntmps33 rfl rfl (fun a0 K0 => ?_)
  refine seqR ?_
  refine lac K0 rfl rfl (want_none rfl) rfl (fun a1 K1 => ?_)
  refine lac K1 rfl rfl (want_none rfl) rfl (fun a2 K2 => ?_)
  clear K1
  refine lac K2 rfl rfl (want_none rfl) rfl (fun a3 K3 => ?_)
  clear K2
  refine nilN ?_
  refine seqR ?_
  refine lmv K3 rfl rfl (want_none rfl) rfl rfl (fun a4 K4 => ?_)
  clear K3
  refine lmv K4 rfl rfl (want_none rfl) rfl rfl (fun a5 K5 => ?_)
  clear K4
  refine lcall (f := 58) (args := #[.pointer (some ⟨p, 0, none⟩), .int .i64 (i : Int)]) K5 rfl rfl (want_none rfl) (fun ev E => ?_) (findY (unhide PH) (unhide LH) (unhide HT) (unhide HI)) (fun e W6 hR => ?_)
  · have EF := E.func; have E9 := E.tmp 9 _ rfl; have E10 := E.tmp 10 _ rfl; clear E; clear PH KP LH HT HI; go_simp
  obtain ⟨rfl, Q1, P1⟩ := hR
  have Q2 := hide ((unhide KP).tr Q1)
  clear PH KP Q1
  have PH := hide P1
  have KP := Q2
  clear Q2 P1
  refine ⟨_, rfl, fun a7 K7 => ?_⟩
  clear K5
  refine las K7 rfl rfl (want_none rfl) rfl rfl (fun a8 K8 => ?_)
  clear K7
  refine nilN ?_
  refine seqN ?_
  refine seqR ?_
  refine lmv K8 rfl rfl (want_none rfl) rfl rfl (fun a9 K9 => ?_)
  clear K8
  refine ltake (v := .bool false) (w' := W6) K9 rfl rfl (want_none rfl) (fun ev E => ?_) (fun a10 K10 => ?_)
  · have EC := E.const; have E12 := E.tmp 12 _ rfl; clear E; clear PH KP LH HT HI; go_simp
  clear K9
  refine nilN ?_
  refine knCond (b := false) K10 rfl ?_
  refine wp_skip ?_
  show Code.wp _ _ _ _ _
  refine seqR ?_
  refine lmv K10 rfl rfl (want_none rfl) rfl rfl (fun a11 K11 => ?_)
  clear K10
  refine lmv K11 rfl rfl (want_none rfl) rfl rfl (fun a12 K12 => ?_)
  clear K11
  refine lcall (f := 61) (args := #[.pointer (some ⟨p, 0, none⟩), .int .i64 (t : Int)]) K12 rfl rfl (want_none rfl) (fun ev E => ?_) (exposeL (unhide PH) (unhide LH) (unhide HT)) (fun e W13 hR => ?_)
  · have EF := E.func; have E14 := E.tmp 14 _ rfl; have E15 := E.tmp 15 _ rfl; clear E; clear PH KP LH HT HI; go_simp
  obtain ⟨met1, rfl, Q1, S1, G1, P1, L1, X1⟩ := hR
  have Q2 := hide ((unhide KP).tr Q1)
  clear PH KP Q1
  have PH := hide P1
  have KP := Q2
  clear Q2 P1
  refine ⟨_, rfl, fun a14 K14 => ?_⟩
  clear K12
  refine nilN ?_
  refine seqR ?_
  refine lmv K14 rfl rfl (want_none rfl) rfl rfl (fun a15 K15 => ?_)
  clear K14
  refine lnc K15 rfl rfl (want_none rfl) rfl rfl (fun a16 K16 => ?_)
  clear K15
  refine lfa K16 rfl rfl (want_none rfl) rfl rfl FA66_1 (fun a17 K17 => ?_)
  clear K16
  refine ltake (v := .slice (some ⟨g, 0, none⟩) n cap) (w' := W13) K17 rfl rfl (want_none rfl) (fun ev E => ?_) (fun a18 K18 => ?_)
  · obtain ⟨c0, c1, _⟩ := (unhide PH).head; have E19 := E.tmp 19 _ rfl; clear E; clear PH KP LH HT HI L1 X1; go_simp
  clear K17
  refine lmv K18 rfl rfl (want_none rfl) rfl rfl (fun a19 K19 => ?_)
  clear K18
  refine ltake (v := .pointer (some ⟨g, t * 14, none⟩)) (w' := W13) K19 rfl rfl (want_none rfl) (fun ev E => ?_) (fun a20 K20 => ?_)
  · have E20 := E.tmp 20 _ rfl; have E21 := E.tmp 21 _ rfl; clear E; clear PH KP LH HT HI L1 X1; go_simp
  clear K19
  refine ltake (v := .agg #[.int .i64 ((S1 t).up : Int), .int .i64 ((S1 t).l : Int), .int .i64 ((S1 t).r : Int), .bool (S1 t).tn, .int .i64 (S1 t).wt, .int .i64 (S1 t).wa, .int .i64 (S1 t).sm.c, .int .i64 (S1 t).sm.s, .int .i64 (S1 t).sm.a, .int .i64 (S1 t).sm.b, .int .i64 (S1 t).hg.c, .int .i64 (S1 t).hg.w, .int .i64 (S1 t).hu.c, .int .i64 (S1 t).hu.w]) (w' := W13) K20 rfl rfl (want_none rfl) (fun ev E => ?_) (fun a21 K21 => ?_)
  · obtain ⟨s0, s1, s2, s3, s4, s5, s6, s7, s8, s9, s10, s11, s12, s13⟩ := (unhide PH).slot (t := t) (by assumption); have E22 := E.tmp 22 _ rfl; clear E; clear PH KP LH HT HI L1 X1; go_simp
  clear K20
  refine ltake (v := .pointer (some ⟨W13.heap.size, 0, none⟩)) (w' := (W13.alloc (.cells #[.int .i64 0, .int .i64 0, .int .i64 0, .bool false, .int .i64 0, .int .i64 0, .int .i64 0, .int .i64 0, .int .i64 0, .int .i64 0, .int .i64 0, .int .i64 0, .int .i64 0, .int .i64 0] 75))) K21 rfl rfl (want_none rfl) (fun ev E => ?_) (fun a22 K22 => ?_)
  · clear E; clear PH KP LH HT HI L1 X1; go_simp
  clear K21
  have PA := (unhide PH).below ((Below.refl W13.heap.size W13).alloc (Nat.le_refl _) (.cells #[.int .i64 0, .int .i64 0, .int .i64 0, .bool false, .int .i64 0, .int .i64 0, .int .i64 0, .int .i64 0, .int .i64 0, .int .i64 0, .int .i64 0, .int .i64 0, .int .i64 0, .int .i64 0] 75))
  have KA := (unhide KP).belowB ((Below.refl W13.heap.size W13).alloc (Nat.le_refl _) (.cells #[.int .i64 0, .int .i64 0, .int .i64 0, .bool false, .int .i64 0, .int .i64 0, .int .i64 0, .int .i64 0, .int .i64 0, .int .i64 0, .int .i64 0, .int .i64 0, .int .i64 0, .int .i64 0] 75))
  have BA := heap_alloc_new W13 (.cells #[.int .i64 0, .int .i64 0, .int .i64 0, .bool false, .int .i64 0, .int .i64 0, .int .i64 0, .int .i64 0, .int .i64 0, .int .i64 0, .int .i64 0, .int .i64 0, .int .i64 0, .int .i64 0] 75)
  have bg : g < W13.heap.size ∧ p < W13.heap.size := ⟨(unhide PH).lt.2, (unhide PH).lt.1⟩
  have bw : w.heap.size ≤ W13.heap.size := (unhide KP).size
  clear PH KP
  generalize (W13.alloc (.cells #[.int .i64 0, .int .i64 0, .int .i64 0, .bool false, .int .i64 0, .int .i64 0, .int .i64 0, .int .i64 0, .int .i64 0, .int .i64 0, .int .i64 0, .int .i64 0, .int .i64 0, .int .i64 0] 75)) = WA at *
  generalize W13.heap.size = b at *
  have PH := hide PA
  have KP := hide KA
  have HBG := hide (And.intro bg bw)
  clear PA KA bg bw
  have BAH := hide BA
  have cA : ∀ k, k < 14 → WA.cell? ⟨b, k, none⟩ = (#[.int .i64 0, .int .i64 0, .int .i64 0, .bool false, .int .i64 0, .int .i64 0, .int .i64 0, .int .i64 0, .int .i64 0, .int .i64 0, .int .i64 0, .int .i64 0, .int .i64 0, .int .i64 0] : Array Value)[k]? ∧ WA.frozen? ⟨b, k, none⟩ = false := fun k hk => by
    constructor
    · simp [World.cell?, BA]
    · simp [World.frozen?, BA]
  have s0 := (cA 0 (by omega)).1; have f0 := (cA 0 (by omega)).2
  have s1 := (cA 1 (by omega)).1; have f1 := (cA 1 (by omega)).2
  have s2 := (cA 2 (by omega)).1; have f2 := (cA 2 (by omega)).2
  have s3 := (cA 3 (by omega)).1; have f3 := (cA 3 (by omega)).2
  have s4 := (cA 4 (by omega)).1; have f4 := (cA 4 (by omega)).2
  have s5 := (cA 5 (by omega)).1; have f5 := (cA 5 (by omega)).2
  have s6 := (cA 6 (by omega)).1; have f6 := (cA 6 (by omega)).2
  have s7 := (cA 7 (by omega)).1; have f7 := (cA 7 (by omega)).2
  have s8 := (cA 8 (by omega)).1; have f8 := (cA 8 (by omega)).2
  have s9 := (cA 9 (by omega)).1; have f9 := (cA 9 (by omega)).2
  have s10 := (cA 10 (by omega)).1; have f10 := (cA 10 (by omega)).2
  have s11 := (cA 11 (by omega)).1; have f11 := (cA 11 (by omega)).2
  have s12 := (cA 12 (by omega)).1; have f12 := (cA 12 (by omega)).2
  have s13 := (cA 13 (by omega)).1; have f13 := (cA 13 (by omega)).2
  simp only [List.getElem?_toArray, List.getElem?_cons_succ, List.getElem?_cons_zero] at s0 s1 s2 s3 s4 s5 s6 s7 s8 s9 s10 s11 s12 s13
  clear cA BA
  refine lstore (w' := ((((((((((((((WA.setCell ⟨b, 0, none⟩ (.int .i64 ((S1 t).up : Int))).setCell ⟨b, 1, none⟩ (.int .i64 ((S1 t).l : Int))).setCell ⟨b, 2, none⟩ (.int .i64 ((S1 t).r : Int))).setCell ⟨b, 3, none⟩ (.bool (S1 t).tn)).setCell ⟨b, 4, none⟩ (.int .i64 (S1 t).wt)).setCell ⟨b, 5, none⟩ (.int .i64 (S1 t).wa)).setCell ⟨b, 6, none⟩ (.int .i64 (S1 t).sm.c)).setCell ⟨b, 7, none⟩ (.int .i64 (S1 t).sm.s)).setCell ⟨b, 8, none⟩ (.int .i64 (S1 t).sm.a)).setCell ⟨b, 9, none⟩ (.int .i64 (S1 t).sm.b)).setCell ⟨b, 10, none⟩ (.int .i64 (S1 t).hg.c)).setCell ⟨b, 11, none⟩ (.int .i64 (S1 t).hg.w)).setCell ⟨b, 12, none⟩ (.int .i64 (S1 t).hu.c)).setCell ⟨b, 13, none⟩ (.int .i64 (S1 t).hu.w))) K22 rfl (want_none rfl) (fun ev E => ?_) ?_
  · have E8 := E.tmp 8 _ rfl; have E23 := E.tmp 23 _ rfl; clear E; clear PH KP LH HT HI L1 X1 HBG BAH; go_simp
  clear s0 s1 s2 s3 s4 s5 s6 s7 s8 s9 s10 s11 s12 s13 f0 f1 f2 f3 f4 f5 f6 f7 f8 f9 f10 f11 f12 f13
  have BA := unhide BAH
  have B0 := heap_setCell_same WA b 0 _ _ (.int .i64 ((S1 t).up : Int)) BA
  have B1 := heap_setCell_same (WA.setCell ⟨b, 0, none⟩ (.int .i64 ((S1 t).up : Int))) b 1 _ _ (.int .i64 ((S1 t).l : Int)) B0
  have B2 := heap_setCell_same ((WA.setCell ⟨b, 0, none⟩ (.int .i64 ((S1 t).up : Int))).setCell ⟨b, 1, none⟩ (.int .i64 ((S1 t).l : Int))) b 2 _ _ (.int .i64 ((S1 t).r : Int)) B1
  have B3 := heap_setCell_same (((WA.setCell ⟨b, 0, none⟩ (.int .i64 ((S1 t).up : Int))).setCell ⟨b, 1, none⟩ (.int .i64 ((S1 t).l : Int))).setCell ⟨b, 2, none⟩ (.int .i64 ((S1 t).r : Int))) b 3 _ _ (.bool (S1 t).tn) B2
  have B4 := heap_setCell_same ((((WA.setCell ⟨b, 0, none⟩ (.int .i64 ((S1 t).up : Int))).setCell ⟨b, 1, none⟩ (.int .i64 ((S1 t).l : Int))).setCell ⟨b, 2, none⟩ (.int .i64 ((S1 t).r : Int))).setCell ⟨b, 3, none⟩ (.bool (S1 t).tn)) b 4 _ _ (.int .i64 (S1 t).wt) B3
  have B5 := heap_setCell_same (((((WA.setCell ⟨b, 0, none⟩ (.int .i64 ((S1 t).up : Int))).setCell ⟨b, 1, none⟩ (.int .i64 ((S1 t).l : Int))).setCell ⟨b, 2, none⟩ (.int .i64 ((S1 t).r : Int))).setCell ⟨b, 3, none⟩ (.bool (S1 t).tn)).setCell ⟨b, 4, none⟩ (.int .i64 (S1 t).wt)) b 5 _ _ (.int .i64 (S1 t).wa) B4
  have B6 := heap_setCell_same ((((((WA.setCell ⟨b, 0, none⟩ (.int .i64 ((S1 t).up : Int))).setCell ⟨b, 1, none⟩ (.int .i64 ((S1 t).l : Int))).setCell ⟨b, 2, none⟩ (.int .i64 ((S1 t).r : Int))).setCell ⟨b, 3, none⟩ (.bool (S1 t).tn)).setCell ⟨b, 4, none⟩ (.int .i64 (S1 t).wt)).setCell ⟨b, 5, none⟩ (.int .i64 (S1 t).wa)) b 6 _ _ (.int .i64 (S1 t).sm.c) B5
  have B7 := heap_setCell_same (((((((WA.setCell ⟨b, 0, none⟩ (.int .i64 ((S1 t).up : Int))).setCell ⟨b, 1, none⟩ (.int .i64 ((S1 t).l : Int))).setCell ⟨b, 2, none⟩ (.int .i64 ((S1 t).r : Int))).setCell ⟨b, 3, none⟩ (.bool (S1 t).tn)).setCell ⟨b, 4, none⟩ (.int .i64 (S1 t).wt)).setCell ⟨b, 5, none⟩ (.int .i64 (S1 t).wa)).setCell ⟨b, 6, none⟩ (.int .i64 (S1 t).sm.c)) b 7 _ _ (.int .i64 (S1 t).sm.s) B6
  have B8 := heap_setCell_same ((((((((WA.setCell ⟨b, 0, none⟩ (.int .i64 ((S1 t).up : Int))).setCell ⟨b, 1, none⟩ (.int .i64 ((S1 t).l : Int))).setCell ⟨b, 2, none⟩ (.int .i64 ((S1 t).r : Int))).setCell ⟨b, 3, none⟩ (.bool (S1 t).tn)).setCell ⟨b, 4, none⟩ (.int .i64 (S1 t).wt)).setCell ⟨b, 5, none⟩ (.int .i64 (S1 t).wa)).setCell ⟨b, 6, none⟩ (.int .i64 (S1 t).sm.c)).setCell ⟨b, 7, none⟩ (.int .i64 (S1 t).sm.s)) b 8 _ _ (.int .i64 (S1 t).sm.a) B7
  have B9 := heap_setCell_same (((((((((WA.setCell ⟨b, 0, none⟩ (.int .i64 ((S1 t).up : Int))).setCell ⟨b, 1, none⟩ (.int .i64 ((S1 t).l : Int))).setCell ⟨b, 2, none⟩ (.int .i64 ((S1 t).r : Int))).setCell ⟨b, 3, none⟩ (.bool (S1 t).tn)).setCell ⟨b, 4, none⟩ (.int .i64 (S1 t).wt)).setCell ⟨b, 5, none⟩ (.int .i64 (S1 t).wa)).setCell ⟨b, 6, none⟩ (.int .i64 (S1 t).sm.c)).setCell ⟨b, 7, none⟩ (.int .i64 (S1 t).sm.s)).setCell ⟨b, 8, none⟩ (.int .i64 (S1 t).sm.a)) b 9 _ _ (.int .i64 (S1 t).sm.b) B8
  have B10 := heap_setCell_same ((((((((((WA.setCell ⟨b, 0, none⟩ (.int .i64 ((S1 t).up : Int))).setCell ⟨b, 1, none⟩ (.int .i64 ((S1 t).l : Int))).setCell ⟨b, 2, none⟩ (.int .i64 ((S1 t).r : Int))).setCell ⟨b, 3, none⟩ (.bool (S1 t).tn)).setCell ⟨b, 4, none⟩ (.int .i64 (S1 t).wt)).setCell ⟨b, 5, none⟩ (.int .i64 (S1 t).wa)).setCell ⟨b, 6, none⟩ (.int .i64 (S1 t).sm.c)).setCell ⟨b, 7, none⟩ (.int .i64 (S1 t).sm.s)).setCell ⟨b, 8, none⟩ (.int .i64 (S1 t).sm.a)).setCell ⟨b, 9, none⟩ (.int .i64 (S1 t).sm.b)) b 10 _ _ (.int .i64 (S1 t).hg.c) B9
  have B11 := heap_setCell_same (((((((((((WA.setCell ⟨b, 0, none⟩ (.int .i64 ((S1 t).up : Int))).setCell ⟨b, 1, none⟩ (.int .i64 ((S1 t).l : Int))).setCell ⟨b, 2, none⟩ (.int .i64 ((S1 t).r : Int))).setCell ⟨b, 3, none⟩ (.bool (S1 t).tn)).setCell ⟨b, 4, none⟩ (.int .i64 (S1 t).wt)).setCell ⟨b, 5, none⟩ (.int .i64 (S1 t).wa)).setCell ⟨b, 6, none⟩ (.int .i64 (S1 t).sm.c)).setCell ⟨b, 7, none⟩ (.int .i64 (S1 t).sm.s)).setCell ⟨b, 8, none⟩ (.int .i64 (S1 t).sm.a)).setCell ⟨b, 9, none⟩ (.int .i64 (S1 t).sm.b)).setCell ⟨b, 10, none⟩ (.int .i64 (S1 t).hg.c)) b 11 _ _ (.int .i64 (S1 t).hg.w) B10
  have B12 := heap_setCell_same ((((((((((((WA.setCell ⟨b, 0, none⟩ (.int .i64 ((S1 t).up : Int))).setCell ⟨b, 1, none⟩ (.int .i64 ((S1 t).l : Int))).setCell ⟨b, 2, none⟩ (.int .i64 ((S1 t).r : Int))).setCell ⟨b, 3, none⟩ (.bool (S1 t).tn)).setCell ⟨b, 4, none⟩ (.int .i64 (S1 t).wt)).setCell ⟨b, 5, none⟩ (.int .i64 (S1 t).wa)).setCell ⟨b, 6, none⟩ (.int .i64 (S1 t).sm.c)).setCell ⟨b, 7, none⟩ (.int .i64 (S1 t).sm.s)).setCell ⟨b, 8, none⟩ (.int .i64 (S1 t).sm.a)).setCell ⟨b, 9, none⟩ (.int .i64 (S1 t).sm.b)).setCell ⟨b, 10, none⟩ (.int .i64 (S1 t).hg.c)).setCell ⟨b, 11, none⟩ (.int .i64 (S1 t).hg.w)) b 12 _ _ (.int .i64 (S1 t).hu.c) B11
  have B13 := heap_setCell_same (((((((((((((WA.setCell ⟨b, 0, none⟩ (.int .i64 ((S1 t).up : Int))).setCell ⟨b, 1, none⟩ (.int .i64 ((S1 t).l : Int))).setCell ⟨b, 2, none⟩ (.int .i64 ((S1 t).r : Int))).setCell ⟨b, 3, none⟩ (.bool (S1 t).tn)).setCell ⟨b, 4, none⟩ (.int .i64 (S1 t).wt)).setCell ⟨b, 5, none⟩ (.int .i64 (S1 t).wa)).setCell ⟨b, 6, none⟩ (.int .i64 (S1 t).sm.c)).setCell ⟨b, 7, none⟩ (.int .i64 (S1 t).sm.s)).setCell ⟨b, 8, none⟩ (.int .i64 (S1 t).sm.a)).setCell ⟨b, 9, none⟩ (.int .i64 (S1 t).sm.b)).setCell ⟨b, 10, none⟩ (.int .i64 (S1 t).hg.c)).setCell ⟨b, 11, none⟩ (.int .i64 (S1 t).hg.w)).setCell ⟨b, 12, none⟩ (.int .i64 (S1 t).hu.c)) b 13 _ _ (.int .i64 (S1 t).hu.w) B12
  have gb : g ≠ b ∧ p ≠ b := ⟨by have := (unhide HBG).1; omega, by have := (unhide HBG).1; omega⟩
  have CC : ((((((((((((((WA.setCell ⟨b, 0, none⟩ (.int .i64 ((S1 t).up : Int))).setCell ⟨b, 1, none⟩ (.int .i64 ((S1 t).l : Int))).setCell ⟨b, 2, none⟩ (.int .i64 ((S1 t).r : Int))).setCell ⟨b, 3, none⟩ (.bool (S1 t).tn)).setCell ⟨b, 4, none⟩ (.int .i64 (S1 t).wt)).setCell ⟨b, 5, none⟩ (.int .i64 (S1 t).wa)).setCell ⟨b, 6, none⟩ (.int .i64 (S1 t).sm.c)).setCell ⟨b, 7, none⟩ (.int .i64 (S1 t).sm.s)).setCell ⟨b, 8, none⟩ (.int .i64 (S1 t).sm.a)).setCell ⟨b, 9, none⟩ (.int .i64 (S1 t).sm.b)).setCell ⟨b, 10, none⟩ (.int .i64 (S1 t).hg.c)).setCell ⟨b, 11, none⟩ (.int .i64 (S1 t).hg.w)).setCell ⟨b, 12, none⟩ (.int .i64 (S1 t).hu.c)).setCell ⟨b, 13, none⟩ (.int .i64 (S1 t).hu.w)).cell? ⟨b, 4, none⟩ = some (.int .i64 (S1 t).wt) ∧ ((((((((((((((WA.setCell ⟨b, 0, none⟩ (.int .i64 ((S1 t).up : Int))).setCell ⟨b, 1, none⟩ (.int .i64 ((S1 t).l : Int))).setCell ⟨b, 2, none⟩ (.int .i64 ((S1 t).r : Int))).setCell ⟨b, 3, none⟩ (.bool (S1 t).tn)).setCell ⟨b, 4, none⟩ (.int .i64 (S1 t).wt)).setCell ⟨b, 5, none⟩ (.int .i64 (S1 t).wa)).setCell ⟨b, 6, none⟩ (.int .i64 (S1 t).sm.c)).setCell ⟨b, 7, none⟩ (.int .i64 (S1 t).sm.s)).setCell ⟨b, 8, none⟩ (.int .i64 (S1 t).sm.a)).setCell ⟨b, 9, none⟩ (.int .i64 (S1 t).sm.b)).setCell ⟨b, 10, none⟩ (.int .i64 (S1 t).hg.c)).setCell ⟨b, 11, none⟩ (.int .i64 (S1 t).hg.w)).setCell ⟨b, 12, none⟩ (.int .i64 (S1 t).hu.c)).setCell ⟨b, 13, none⟩ (.int .i64 (S1 t).hu.w)).cell? ⟨b, 10, none⟩ = some (.int .i64 (S1 t).hg.c) ∧ ((((((((((((((WA.setCell ⟨b, 0, none⟩ (.int .i64 ((S1 t).up : Int))).setCell ⟨b, 1, none⟩ (.int .i64 ((S1 t).l : Int))).setCell ⟨b, 2, none⟩ (.int .i64 ((S1 t).r : Int))).setCell ⟨b, 3, none⟩ (.bool (S1 t).tn)).setCell ⟨b, 4, none⟩ (.int .i64 (S1 t).wt)).setCell ⟨b, 5, none⟩ (.int .i64 (S1 t).wa)).setCell ⟨b, 6, none⟩ (.int .i64 (S1 t).sm.c)).setCell ⟨b, 7, none⟩ (.int .i64 (S1 t).sm.s)).setCell ⟨b, 8, none⟩ (.int .i64 (S1 t).sm.a)).setCell ⟨b, 9, none⟩ (.int .i64 (S1 t).sm.b)).setCell ⟨b, 10, none⟩ (.int .i64 (S1 t).hg.c)).setCell ⟨b, 11, none⟩ (.int .i64 (S1 t).hg.w)).setCell ⟨b, 12, none⟩ (.int .i64 (S1 t).hu.c)).setCell ⟨b, 13, none⟩ (.int .i64 (S1 t).hu.w)).cell? ⟨b, 11, none⟩ = some (.int .i64 (S1 t).hg.w) := by
    refine ⟨?_, ?_, ?_⟩ <;> simp [World.cell?, B13]
  have KB : Keep [b] WA ((((((((((((((WA.setCell ⟨b, 0, none⟩ (.int .i64 ((S1 t).up : Int))).setCell ⟨b, 1, none⟩ (.int .i64 ((S1 t).l : Int))).setCell ⟨b, 2, none⟩ (.int .i64 ((S1 t).r : Int))).setCell ⟨b, 3, none⟩ (.bool (S1 t).tn)).setCell ⟨b, 4, none⟩ (.int .i64 (S1 t).wt)).setCell ⟨b, 5, none⟩ (.int .i64 (S1 t).wa)).setCell ⟨b, 6, none⟩ (.int .i64 (S1 t).sm.c)).setCell ⟨b, 7, none⟩ (.int .i64 (S1 t).sm.s)).setCell ⟨b, 8, none⟩ (.int .i64 (S1 t).sm.a)).setCell ⟨b, 9, none⟩ (.int .i64 (S1 t).sm.b)).setCell ⟨b, 10, none⟩ (.int .i64 (S1 t).hg.c)).setCell ⟨b, 11, none⟩ (.int .i64 (S1 t).hg.w)).setCell ⟨b, 12, none⟩ (.int .i64 (S1 t).hu.c)).setCell ⟨b, 13, none⟩ (.int .i64 (S1 t).hu.w)) := (((((((((((((((Keep.refl [b] WA).cellB (0) (.int .i64 ((S1 t).up : Int))).cellB (1) (.int .i64 ((S1 t).l : Int))).cellB (2) (.int .i64 ((S1 t).r : Int))).cellB (3) (.bool (S1 t).tn)).cellB (4) (.int .i64 (S1 t).wt)).cellB (5) (.int .i64 (S1 t).wa)).cellB (6) (.int .i64 (S1 t).sm.c)).cellB (7) (.int .i64 (S1 t).sm.s)).cellB (8) (.int .i64 (S1 t).sm.a)).cellB (9) (.int .i64 (S1 t).sm.b)).cellB (10) (.int .i64 (S1 t).hg.c)).cellB (11) (.int .i64 (S1 t).hg.w)).cellB (12) (.int .i64 (S1 t).hu.c)).cellB (13) (.int .i64 (S1 t).hu.w))
  have PB1 := (unhide PH).keep KB (by simp; exact gb.2) (by simp; exact gb.1)
  have KB1 : Keep [g] w ((((((((((((((WA.setCell ⟨b, 0, none⟩ (.int .i64 ((S1 t).up : Int))).setCell ⟨b, 1, none⟩ (.int .i64 ((S1 t).l : Int))).setCell ⟨b, 2, none⟩ (.int .i64 ((S1 t).r : Int))).setCell ⟨b, 3, none⟩ (.bool (S1 t).tn)).setCell ⟨b, 4, none⟩ (.int .i64 (S1 t).wt)).setCell ⟨b, 5, none⟩ (.int .i64 (S1 t).wa)).setCell ⟨b, 6, none⟩ (.int .i64 (S1 t).sm.c)).setCell ⟨b, 7, none⟩ (.int .i64 (S1 t).sm.s)).setCell ⟨b, 8, none⟩ (.int .i64 (S1 t).sm.a)).setCell ⟨b, 9, none⟩ (.int .i64 (S1 t).sm.b)).setCell ⟨b, 10, none⟩ (.int .i64 (S1 t).hg.c)).setCell ⟨b, 11, none⟩ (.int .i64 (S1 t).hg.w)).setCell ⟨b, 12, none⟩ (.int .i64 (S1 t).hu.c)).setCell ⟨b, 13, none⟩ (.int .i64 (S1 t).hu.w)) := (unhide KP).trans KB (fun i hi => by simp at hi; right; rw [hi]; exact (unhide HBG).2)
  clear KP PH BA BAH KB gb B0 B1 B2 B3 B4 B5 B6 B7 B8 B9 B10 B11 B12 B13
  generalize ((((((((((((((WA.setCell ⟨b, 0, none⟩ (.int .i64 ((S1 t).up : Int))).setCell ⟨b, 1, none⟩ (.int .i64 ((S1 t).l : Int))).setCell ⟨b, 2, none⟩ (.int .i64 ((S1 t).r : Int))).setCell ⟨b, 3, none⟩ (.bool (S1 t).tn)).setCell ⟨b, 4, none⟩ (.int .i64 (S1 t).wt)).setCell ⟨b, 5, none⟩ (.int .i64 (S1 t).wa)).setCell ⟨b, 6, none⟩ (.int .i64 (S1 t).sm.c)).setCell ⟨b, 7, none⟩ (.int .i64 (S1 t).sm.s)).setCell ⟨b, 8, none⟩ (.int .i64 (S1 t).sm.a)).setCell ⟨b, 9, none⟩ (.int .i64 (S1 t).sm.b)).setCell ⟨b, 10, none⟩ (.int .i64 (S1 t).hg.c)).setCell ⟨b, 11, none⟩ (.int .i64 (S1 t).hg.w)).setCell ⟨b, 12, none⟩ (.int .i64 (S1 t).hu.c)).setCell ⟨b, 13, none⟩ (.int .i64 (S1 t).hu.w)) = WB at *
  have PH := hide PB1
  have KP := hide KB1
  have HC := hide CC
  clear PB1 KB1 CC
  refine nilN ?_
  refine seqN ?_
  have hS : (fun w' : World => Pool w' p g n cap room S1 ∧ Keep [g] w w' ∧ w'.cell? ⟨b, 4, none⟩ = some (.int .i64 (S1 t).wt) ∧ w'.cell? ⟨b, 10, none⟩ = some (.int .i64 (S1 t).hg.c) ∧ w'.cell? ⟨b, 11, none⟩ = some (.int .i64 (S1 t).hg.w)) WB.drew := ⟨(unhide PH).drew, (unhide KP).drew, (unhide HC).1, (unhide HC).2.1, (unhide HC).2.2⟩
  have bz := L1.bz t
  have z1 := bz.gc; have z2 := bz.gw; have z3 := bz.wt
  have w1 : IntKind.i64.wrap ((S1 t).hg.c + 1) = (S1 t).hg.c + 1 := IntWalk.i64_in _ (by omega)
  have w2 : IntKind.i64.wrap ((S1 t).hg.w + (S1 t).wt) = (S1 t).hg.w + (S1 t).wt := IntWalk.i64_in _ (by omega)
  clear bz z1 z2 z3 PH KP
  show (Code.region 6 OPS33_6.toArray true).wp _ _ _ _
  refine wp_region_held_drew (S := (fun w' : World => Pool w' p g n cap room S1 ∧ Keep [g] w w' ∧ w'.cell? ⟨b, 4, none⟩ = some (.int .i64 (S1 t).wt) ∧ w'.cell? ⟨b, 10, none⟩ = some (.int .i64 (S1 t).hg.c) ∧ w'.cell? ⟨b, 11, none⟩ = some (.int .i64 (S1 t).hg.w))) (by kernel_rfl) hS (fun hS => ?_)
  rw [show (OPS33_6.toArray).size = 13 from by kernel_rfl]
  refine dtake (i := 0) (o := O33_6_0) (v := .pointer (some ⟨b, 10, none⟩)) K22 (fun _ _ _ _ h => h) rfl NS33_6 (by kernel_rfl) (by kernel_rfl) rfl rfl (want_none rfl) (fun ev E w9 hSw => ?_) hS (fun a24 K24 => ?_)
  · clear hSw; have E8 := E.tmp 8 _ rfl; clear E; unfold O33_6_0; clear hS LH HT HI L1 X1 HBG HC; go_simp
  clear K22
  refine dtake (i := 1) (o := O33_6_1) (v := .pointer (some ⟨b, 10, none⟩)) K24 (fun _ _ _ _ h => h) rfl NS33_6 (by kernel_rfl) (by kernel_rfl) rfl rfl (want_none rfl) (fun ev E w9 hSw => ?_) hS (fun a25 K25 => ?_)
  · clear hSw; have E24 := E.tmp 24 _ rfl; clear E; unfold O33_6_1; clear hS LH HT HI L1 X1 HBG HC; go_simp
  clear K24
  refine dtake (i := 2) (o := O33_6_2) (v := .int .i64 (S1 t).hg.c) K25 (fun _ _ _ _ h => h) rfl NS33_6 (by kernel_rfl) (by kernel_rfl) rfl rfl (want_none rfl) (fun ev E w9 hSw => ?_) hS (fun a26 K26 => ?_)
  · obtain ⟨_, _, q1, q2, q3⟩ := hSw; have E25 := E.tmp 25 _ rfl; clear E; unfold O33_6_2; clear hS LH HT HI L1 X1 HBG HC; go_simp
  clear K25
  refine dtake (i := 3) (o := O33_6_3) (v := .int .i64 ((S1 t).hg.c + 1)) K26 (fun _ _ _ _ h => h) rfl NS33_6 (by kernel_rfl) (by kernel_rfl) rfl rfl (want_none rfl) (fun ev E w9 hSw => ?_) hS (fun a27 K27 => ?_)
  · clear hSw; have EC := E.const; have E26 := E.tmp 26 _ rfl; clear E; unfold O33_6_3; clear hS LH HT HI L1 X1 HBG HC; go_simp
  clear K26
  refine dtake (i := 4) (o := O33_6_4) (v := .pointer (some ⟨b, 10, none⟩)) K27 (fun _ _ _ _ h => h) rfl NS33_6 (by kernel_rfl) (by kernel_rfl) rfl rfl (want_none rfl) (fun ev E w9 hSw => ?_) hS (fun a28 K28 => ?_)
  · clear hSw; have E8 := E.tmp 8 _ rfl; clear E; unfold O33_6_4; clear hS LH HT HI L1 X1 HBG HC; go_simp
  clear K27
  refine dtake (i := 5) (o := O33_6_5) (v := .pointer (some ⟨b, 11, none⟩)) K28 (fun _ _ _ _ h => h) rfl NS33_6 (by kernel_rfl) (by kernel_rfl) rfl rfl (want_none rfl) (fun ev E w9 hSw => ?_) hS (fun a29 K29 => ?_)
  · clear hSw; have E28 := E.tmp 28 _ rfl; clear E; unfold O33_6_5; clear hS LH HT HI L1 X1 HBG HC; go_simp
  clear K28
  refine dtake (i := 6) (o := O33_6_6) (v := .int .i64 (S1 t).hg.w) K29 (fun _ _ _ _ h => h) rfl NS33_6 (by kernel_rfl) (by kernel_rfl) rfl rfl (want_none rfl) (fun ev E w9 hSw => ?_) hS (fun a30 K30 => ?_)
  · obtain ⟨_, _, q1, q2, q3⟩ := hSw; have E29 := E.tmp 29 _ rfl; clear E; unfold O33_6_6; clear hS LH HT HI L1 X1 HBG HC; go_simp
  clear K29
  refine dtake (i := 7) (o := O33_6_7) (v := .pointer (some ⟨b, 4, none⟩)) K30 (fun _ _ _ _ h => h) rfl NS33_6 (by kernel_rfl) (by kernel_rfl) rfl rfl (want_none rfl) (fun ev E w9 hSw => ?_) hS (fun a31 K31 => ?_)
  · clear hSw; have E8 := E.tmp 8 _ rfl; clear E; unfold O33_6_7; clear hS LH HT HI L1 X1 HBG HC; go_simp
  clear K30
  refine dtake (i := 8) (o := O33_6_8) (v := .int .i64 (S1 t).wt) K31 (fun _ _ _ _ h => h) rfl NS33_6 (by kernel_rfl) (by kernel_rfl) rfl rfl (want_none rfl) (fun ev E w9 hSw => ?_) hS (fun a32 K32 => ?_)
  · obtain ⟨_, _, q1, q2, q3⟩ := hSw; have E31 := E.tmp 31 _ rfl; clear E; unfold O33_6_8; clear hS LH HT HI L1 X1 HBG HC; go_simp
  clear K31
  refine dtake (i := 9) (o := O33_6_9) (v := .int .i64 ((S1 t).hg.w + (S1 t).wt)) K32 (fun _ _ _ _ h => h) rfl NS33_6 (by kernel_rfl) (by kernel_rfl) rfl rfl (want_none rfl) (fun ev E w9 hSw => ?_) hS (fun a33 K33 => ?_)
  · clear hSw; have E30 := E.tmp 30 _ rfl; have E32 := E.tmp 32 _ rfl; clear E; unfold O33_6_9; clear hS LH HT HI L1 X1 HBG HC; go_simp
  clear K32
  refine dtake (i := 10) (o := O33_6_10) (v := .int .i64 ((S1 t).hg.c + 1)) K33 (fun _ _ _ _ h => h) rfl NS33_6 (by kernel_rfl) (by kernel_rfl) rfl rfl (want_none rfl) (fun ev E w9 hSw => ?_) hS (fun a34 K34 => ?_)
  · clear hSw; have E27 := E.tmp 27 _ rfl; clear E; unfold O33_6_10; clear hS LH HT HI L1 X1 HBG HC; go_simp
  clear K33
  refine dtake (i := 11) (o := O33_6_11) (v := .int .i64 ((S1 t).hg.w + (S1 t).wt)) K34 (fun _ _ _ _ h => h) rfl NS33_6 (by kernel_rfl) (by kernel_rfl) rfl rfl (want_none rfl) (fun ev E w9 hSw => ?_) hS (fun a35 K35 => ?_)
  · clear hSw; have E33 := E.tmp 33 _ rfl; clear E; unfold O33_6_11; clear hS LH HT HI L1 X1 HBG HC; go_simp
  clear K34
  refine dtake (i := 12) (o := O33_6_12) (v := .bool true) K35 (fun _ _ _ _ h => h) rfl NS33_6 (by kernel_rfl) (by kernel_rfl) rfl rfl (want_none rfl) (fun ev E w9 hSw => ?_) hS (fun a36 K36 => ?_)
  · clear hSw; have EC := E.const; clear E; unfold O33_6_12; clear hS LH HT HI L1 X1 HBG HC; go_simp
  clear K35
  refine wpAnyH_done (by kernel_rfl) ?_ _
  show Code.wp _ _ _ _ _
  refine wp_ret ?_
  have Lt := L1.loc t (unhide HT)
  have g1 := Lt.hgc
  have g2 := Lt.hgw
  have g3 := Lt.wt
  rw [X1.pn0, Dc_zero L1.wf] at g1
  rw [X1.pn0, Dw_zero L1.wf] at g2
  rw [(Lt.tp X1.top).a] at g3
  have d1 : Dc T t = (S1 t).hg.c + 1 := by omega
  have d2 : Dw T t = (S1 t).hg.w + (S1 t).wt := by omega
  refine bodyPost_ret (v := .tuple #[.int .i64 ((S1 t).hg.c + 1), .int .i64 ((S1 t).hg.w + (S1 t).wt), .bool true]) ?_ K36.defers ⟨by rw [d1, d2], hS.2.1, S1, G1, hS.1, L1⟩
  have e4 := K36.has 4 _ rfl
  have e5 := K36.has 5 _ rfl
  have e6 := K36.has 6 _ rfl
  simp [results, Try.results33, go_sem, e4, e5, e6]
end Go.Proofs.Ytjnkgakajenoaaa
/- The program's forest: ways raised. -/

namespace Go.Proofs.Ytjnkgakajenoaaa
open Go.RowKit Go.Arb
set_option linter.unusedVariables false
set_option linter.unusedSimpArgs false
set_option maxRecDepth 100000

theorem rootLit {p g n cap room : Nat} {T : Tr} {S : Ss} {G : Gh} {w : World} {i t r : Nat} (h : Pool w p g n cap room S) (L : Lc S n T G) (hi : Th T t) (hit : t = i + 1) (hr : T.rootI (i : Int) = (r : Int)) :
    Calls Try.prog 39 #[.pointer (some ⟨p, 0, none⟩), .int .i64 (i : Int)] w fun e w' => e = .returned (.int .i64 (r : Int)) ∧ Keep [g] w w' ∧ ∃ S1 G1, Pool w' p g n cap room S1 ∧ Lc S1 n T G1 := by
  have q := rootY h L hi hit
  rw [hr] at q; exact q
theorem rootAll {p g n cap room : Nat} {T : Tr} {S : Ss} {G : Gh} {w : World} (h : Pool w p g n cap room S) (L : Lc S n T G) (x : Int) :
    Calls Try.prog 39 #[.pointer (some ⟨p, 0, none⟩), .int .i64 x] w fun e w' => e = .returned (.int .i64 (T.rootI x)) ∧ Keep [g] w w' ∧ ∃ S1 G1, Pool w' p g n cap room S1 ∧ Lc S1 n T G1 := by
  rcases hasI_cases T x with ⟨i, rfl, hi, _⟩ | hx
  · exact rootY h L hi rfl
  · refine (rootN h L hx).mono ?_
    rintro e w' ⟨rfl, q1, q2⟩
    exact ⟨by rw [Tr.rootI_gone hx], q1, S, G, q2, L⟩
theorem canK {p g n cap room : Nat} {S : Ss} {w : World} (h : Pool w p g n cap room S) {c s a b d : Int} {v : Bool} (hv : (addB a d && addB b d) = v) :
    Calls Try.prog 65 #[.agg #[.int .i64 c, .int .i64 s, .int .i64 a, .int .i64 b], .int .i64 d] w fun e w' => e = .returned (.bool v) ∧ Keep [g] w w' ∧ Pool w' p g n cap room S := by
  refine (canRise_any c s a b d w).mono ?_
  rintro e w' ⟨rfl, hb⟩
  rw [hv]
  exact ⟨rfl, Keep.ofBelow hb _, h.below hb⟩
theorem evert_raise (T : Tr) (l : List Nat) (d : Int) (r : Nat) : (T.raise l d).evert r = (T.evert r).raise l d := rfl
/-- The root of what was turned round. -/
theorem root_back {T : Tr} (W : T.Wf) {i r : Nat} (hi : T.par i ≠ -2) (hr : T.rootI (i : Int) = (r : Int)) : T.par r ≠ -2 ∧ (T.evert i).evert r = T := by
  obtain ⟨r', e, e2, e3⟩ := W.rootI_in hi
  obtain rfl : r = r' := by omega
  refine ⟨W.there' e3, evert_back W hi (mem_U1.2 e3) ?_⟩
  unfold ps; simp [e2]
set_option maxHeartbeats 4000000 in
theorem pathAddN {p g n cap room : Nat} {T : Tr} {S : Ss} {G : Gh} {w : World} {i j t u r : Nat} {d : Int} (h : Pool w p g n cap room S) (L : Lc S n T G) (hi : Th T t) (hit : t = i + 1) (hj : Th T u) (hju : u = j + 1) (hs : T.sameI (i : Int) (j : Int) = true) (hr : T.rootI (i : Int) = (r : Int)) (hc : (addB (ofL (((T.evert i).up j).map T.wt)).a d && addB (ofL (((T.evert i).up j).map T.wt)).b d) = false) :
    Calls Try.prog 29 #[.pointer (some ⟨p, 0, none⟩), .int .i64 (i : Int), .int .i64 (j : Int), .int .i64 d] w fun e w' => e = .returned (.bool false) ∧ Keep [g] w w' ∧ ∃ S1 G1, Pool w' p g n cap room S1 ∧ Lc S1 n T G1 := by
  have PH := hide h
  have KP := hide (Keep.refl [g] w)
  have LH := hide L
  clear h L
  have lt1 := (unhide LH).lt t hi
  have e1 : (0 : Int) ≤ (t : Int) := by omega
  have e2 : (t : Int) < (n : Int) := by omega
  have t1 := hi.1
  have e5 : ¬ (t : Int) = 0 := by omega
  have e6 : ¬ t = 0 := by omega
  have HT := hide hi
  have HI := hide hit
  clear hi hit t1
  have lt2 := (unhide LH).lt u hj
  have e3 : (0 : Int) ≤ (u : Int) := by omega
  have e4 : (u : Int) < (n : Int) := by omega
  have HU := hide hj
  have HJ := hide hju
  clear hj hju
  have HSM := hide hs
  have HR := hide hr
  have HC := hide hc
  clear hs hr hc
  refine callsK (n := 40) (L := [(0, .pointer (some ⟨p, 0, none⟩)), (1, .int .i64 (i : Int)), (2, .int .i64 (j : Int)), (3, .int .i64 d)]) Try.func29 rfl Try.ntmps29 rfl rfl (fun a0 K0 => ?_)
  refine seqR ?_
  refine lac K0 rfl rfl (want_none rfl) rfl (fun a1 K1 => ?_)
  refine nilN ?_
  refine seqR ?_
  refine lmv K1 rfl rfl (want_none rfl) rfl rfl (fun a2 K2 => ?_)
  clear K1
  refine lmv K2 rfl rfl (want_none rfl) rfl rfl (fun a3 K3 => ?_)
  clear K2
  refine lcall (f := 39) (args := #[.pointer (some ⟨p, 0, none⟩), .int .i64 (i : Int)]) K3 rfl rfl (want_none rfl) (fun ev E => ?_) (rootLit (unhide PH) (unhide LH) (unhide HT) (unhide HI) (unhide HR)) (fun e W4 hR => ?_)
  · have EF := E.func; have E12 := E.tmp 12 _ rfl; have E13 := E.tmp 13 _ rfl; clear E; clear PH KP LH HT HI HU HJ HSM HR HC; go_simp
  obtain ⟨rfl, Q1, S1, G1, P1, L1⟩ := hR
  have Q2 := hide ((unhide KP).tr Q1)
  clear PH KP Q1
  have PH := hide P1
  have KP := Q2
  clear Q2 P1
  refine ⟨_, rfl, fun a5 K5 => ?_⟩
  clear K3
  refine las K5 rfl rfl (want_none rfl) rfl rfl (fun a6 K6 => ?_)
  clear K5
  refine nilN ?_
  refine seqR ?_
  refine lmv K6 rfl rfl (want_none rfl) rfl rfl (fun a7 K7 => ?_)
  clear K6
  refine lmv K7 rfl rfl (want_none rfl) rfl rfl (fun a8 K8 => ?_)
  clear K7
  refine lmv K8 rfl rfl (want_none rfl) rfl rfl (fun a9 K9 => ?_)
  clear K8
  refine lcall (f := 64) (args := #[.pointer (some ⟨p, 0, none⟩), .int .i64 (i : Int), .int .i64 (j : Int)]) K9 rfl rfl (want_none rfl) (fun ev E => ?_) (wayY (unhide PH) L1 (unhide HT) (unhide HI) (unhide HU) (unhide HJ) (unhide HSM)) (fun e W10 hR => ?_)
  · have EF := E.func; have E15 := E.tmp 15 _ rfl; have E16 := E.tmp 16 _ rfl; have E17 := E.tmp 17 _ rfl; clear E; clear PH KP LH HT HI HU HJ HSM HR HC L1; go_simp
  obtain ⟨rfl, Q1, S2, G2, P1, E2⟩ := hR
  have Q2 := hide ((unhide KP).tr Q1)
  clear PH KP Q1
  have PH := hide P1
  have KP := Q2
  clear Q2 P1
  refine ⟨_, rfl, fun a11 K11 => ?_⟩
  clear K9
  have HE := hide E2
  have hsum := E2.sum
  rw [show u - 1 = j by have := unhide HJ; omega] at hsum
  have hcan2 : (addB (S2 u).sm.a d && addB (S2 u).sm.b d) = false := by rw [hsum]; exact unhide HC
  have HC2 := hide hcan2
  clear hcan2 E2 hsum
  have e7 : ¬ (u : Int) = 0 := by have := (unhide HU).1; omega
  have e8 : ¬ u = 0 := by have := (unhide HU).1; omega
  refine las K11 rfl rfl (want_none rfl) rfl rfl (fun a12 K12 => ?_)
  clear K11
  refine nilN ?_
  refine seqN ?_
  refine seqR ?_
  refine lmv K12 rfl rfl (want_none rfl) rfl rfl (fun a13 K13 => ?_)
  clear K12
  refine ltake (v := .bool false) (w' := W10) K13 rfl rfl (want_none rfl) (fun ev E => ?_) (fun a14 K14 => ?_)
  · have EC := E.const; have E19 := E.tmp 19 _ rfl; clear E; clear PH KP LH HT HI HU HJ HSM HR HC L1 HE HC2; go_simp
  clear K13
  refine nilN ?_
  refine knCond (b := false) K14 rfl ?_
  refine wp_skip ?_
  show Code.wp _ _ _ _ _
  refine seqR ?_
  refine lmv K14 rfl rfl (want_none rfl) rfl rfl (fun a15 K15 => ?_)
  clear K14
  refine lnc K15 rfl rfl (want_none rfl) rfl rfl (fun a16 K16 => ?_)
  clear K15
  refine lfa K16 rfl rfl (want_none rfl) rfl rfl FA66_1 (fun a17 K17 => ?_)
  clear K16
  refine ltake (v := .slice (some ⟨g, 0, none⟩) n cap) (w' := W10) K17 rfl rfl (want_none rfl) (fun ev E => ?_) (fun a18 K18 => ?_)
  · obtain ⟨c0, c1, _⟩ := (unhide PH).head; have E23 := E.tmp 23 _ rfl; clear E; clear PH KP LH HT HI HU HJ HSM HR HC L1 HE HC2; go_simp
  clear K17
  refine lmv K18 rfl rfl (want_none rfl) rfl rfl (fun a19 K19 => ?_)
  clear K18
  refine ltake (v := .pointer (some ⟨g, u * 14, none⟩)) (w' := W10) K19 rfl rfl (want_none rfl) (fun ev E => ?_) (fun a20 K20 => ?_)
  · have E24 := E.tmp 24 _ rfl; have E25 := E.tmp 25 _ rfl; clear E; clear PH KP LH HT HI HU HJ HSM HR HC L1 HE HC2; go_simp
  clear K19
  refine lfa K20 rfl rfl (want_none rfl) rfl rfl FA75_6 (fun a21 K21 => ?_)
  clear K20
  refine ltake (v := .agg #[.int .i64 (S2 u).sm.c, .int .i64 (S2 u).sm.s, .int .i64 (S2 u).sm.a, .int .i64 (S2 u).sm.b]) (w' := W10) K21 rfl rfl (want_none rfl) (fun ev E => ?_) (fun a22 K22 => ?_)
  · obtain ⟨s0, s1, s2, s3, s4, s5, s6, s7, s8, s9, s10, s11, s12, s13⟩ := (unhide PH).slot (t := u) (by assumption); have E27 := E.tmp 27 _ rfl; clear E; clear PH KP LH HT HI HU HJ HSM HR HC L1 HE HC2; go_simp
  clear K21
  refine lmv K22 rfl rfl (want_none rfl) rfl rfl (fun a23 K23 => ?_)
  clear K22
  refine lcall (f := 65) (args := #[.agg #[.int .i64 (S2 u).sm.c, .int .i64 (S2 u).sm.s, .int .i64 (S2 u).sm.a, .int .i64 (S2 u).sm.b], .int .i64 d]) K23 rfl rfl (want_none rfl) (fun ev E => ?_) (canK (unhide PH) (unhide HC2)) (fun e W24 hR => ?_)
  · have EF := E.func; have E28 := E.tmp 28 _ rfl; have E29 := E.tmp 29 _ rfl; clear E; clear PH KP LH HT HI HU HJ HSM HR HC L1 HE HC2; go_simp
  obtain ⟨rfl, Q1, P1⟩ := hR
  have Q2 := hide ((unhide KP).tr Q1)
  clear PH KP Q1
  have PH := hide P1
  have KP := Q2
  clear Q2 P1
  refine ⟨_, rfl, fun a25 K25 => ?_⟩
  clear K23
  refine las K25 rfl rfl (want_none rfl) rfl rfl (fun a26 K26 => ?_)
  clear K25
  refine nilN ?_
  refine seqN ?_
  refine seqR ?_
  refine lmv K26 rfl rfl (want_none rfl) rfl rfl (fun a27 K27 => ?_)
  clear K26
  refine nilN ?_
  refine knCond (b := false) K27 rfl ?_
  refine wp_skip ?_
  show Code.wp _ _ _ _ _
  refine seqR ?_
  refine lmv K27 rfl rfl (want_none rfl) rfl rfl (fun a28 K28 => ?_)
  clear K27
  refine lmv K28 rfl rfl (want_none rfl) rfl rfl (fun a29 K29 => ?_)
  clear K28
  have rb := root_back (unhide LH).wf (i := i) (by have q := (unhide HT).2; rw [unhide HI] at q; simpa using q) (unhide HR)
  have ht0 : T.par i ≠ -2 := by have q := (unhide HT).2; rw [unhide HI] at q; simpa using q
  refine lcall (f := 25) (args := #[.pointer (some ⟨p, 0, none⟩), .int .i64 (r : Int)]) K29 rfl rfl (want_none rfl) (fun ev E => ?_) (evertY (i := r) (t := r + 1) (unhide PH) (unhide HE).lc ((th_evert (unhide LH).wf ht0).2 ⟨by omega, by simpa using rb.1⟩) rfl) (fun e W30 hR => ?_)
  · have EF := E.func; have E36 := E.tmp 36 _ rfl; have E37 := E.tmp 37 _ rfl; clear E; clear PH KP LH HT HI HU HJ HSM HR HC L1 HE HC2 rb ht0; go_simp
  obtain ⟨rfl, Q1, S9, G9, P1, L9⟩ := hR
  have Q2 := hide ((unhide KP).tr Q1)
  clear PH KP Q1
  have PH := hide P1
  have KP := Q2
  clear Q2 P1
  refine ⟨_, rfl, fun a31 K31 => ?_⟩
  clear K29
  rw [rb.2] at L9
  refine nilN ?_
  refine seqR ?_
  refine lmv K31 rfl rfl (want_none rfl) rfl rfl (fun a32 K32 => ?_)
  clear K31
  refine las K32 rfl rfl (want_none rfl) rfl rfl (fun a33 K33 => ?_)
  clear K32
  refine nilN ?_
  refine wp_ret ?_
  refine bodyPost_ret (v := .bool false) ?_ K33.defers ⟨rfl, unhide KP, S9, G9, unhide PH, L9⟩
  have e8 := K33.has 8 _ rfl
  simp [results, Try.results29, go_sem, e8]
set_option maxHeartbeats 4000000 in
theorem pathAddY {p g n cap room : Nat} {T : Tr} {S : Ss} {G : Gh} {w : World} {i j t u r : Nat} {d : Int} (h : Pool w p g n cap room S) (L : Lc S n T G) (hi : Th T t) (hit : t = i + 1) (hj : Th T u) (hju : u = j + 1) (hs : T.sameI (i : Int) (j : Int) = true) (hr : T.rootI (i : Int) = (r : Int)) (hc : (addB (ofL (((T.evert i).up j).map T.wt)).a d && addB (ofL (((T.evert i).up j).map T.wt)).b d) = true) :
    Calls Try.prog 29 #[.pointer (some ⟨p, 0, none⟩), .int .i64 (i : Int), .int .i64 (j : Int), .int .i64 d] w fun e w' => e = .returned (.bool true) ∧ Keep [g] w w' ∧ ∃ S1 G1, Pool w' p g n cap room S1 ∧ Lc S1 n (T.raise ((T.evert i).up j) d) G1 := by
  have PH := hide h
  have KP := hide (Keep.refl [g] w)
  have LH := hide L
  clear h L
  have lt1 := (unhide LH).lt t hi
  have e1 : (0 : Int) ≤ (t : Int) := by omega
  have e2 : (t : Int) < (n : Int) := by omega
  have t1 := hi.1
  have e5 : ¬ (t : Int) = 0 := by omega
  have e6 : ¬ t = 0 := by omega
  have HT := hide hi
  have HI := hide hit
  clear hi hit t1
  have lt2 := (unhide LH).lt u hj
  have e3 : (0 : Int) ≤ (u : Int) := by omega
  have e4 : (u : Int) < (n : Int) := by omega
  have HU := hide hj
  have HJ := hide hju
  clear hj hju
  have HSM := hide hs
  have HR := hide hr
  have HC := hide hc
  clear hs hr hc
  refine callsK (n := 40) (L := [(0, .pointer (some ⟨p, 0, none⟩)), (1, .int .i64 (i : Int)), (2, .int .i64 (j : Int)), (3, .int .i64 d)]) Try.func29 rfl Try.ntmps29 rfl rfl (fun a0 K0 => ?_)
  refine seqR ?_
  refine lac K0 rfl rfl (want_none rfl) rfl (fun a1 K1 => ?_)
  refine nilN ?_
  refine seqR ?_
  refine lmv K1 rfl rfl (want_none rfl) rfl rfl (fun a2 K2 => ?_)
  clear K1
  refine lmv K2 rfl rfl (want_none rfl) rfl rfl (fun a3 K3 => ?_)
  clear K2
  refine lcall (f := 39) (args := #[.pointer (some ⟨p, 0, none⟩), .int .i64 (i : Int)]) K3 rfl rfl (want_none rfl) (fun ev E => ?_) (rootLit (unhide PH) (unhide LH) (unhide HT) (unhide HI) (unhide HR)) (fun e W4 hR => ?_)
  · have EF := E.func; have E12 := E.tmp 12 _ rfl; have E13 := E.tmp 13 _ rfl; clear E; clear PH KP LH HT HI HU HJ HSM HR HC; go_simp
  obtain ⟨rfl, Q1, S1, G1, P1, L1⟩ := hR
  have Q2 := hide ((unhide KP).tr Q1)
  clear PH KP Q1
  have PH := hide P1
  have KP := Q2
  clear Q2 P1
  refine ⟨_, rfl, fun a5 K5 => ?_⟩
  clear K3
  refine las K5 rfl rfl (want_none rfl) rfl rfl (fun a6 K6 => ?_)
  clear K5
  refine nilN ?_
  refine seqR ?_
  refine lmv K6 rfl rfl (want_none rfl) rfl rfl (fun a7 K7 => ?_)
  clear K6
  refine lmv K7 rfl rfl (want_none rfl) rfl rfl (fun a8 K8 => ?_)
  clear K7
  refine lmv K8 rfl rfl (want_none rfl) rfl rfl (fun a9 K9 => ?_)
  clear K8
  refine lcall (f := 64) (args := #[.pointer (some ⟨p, 0, none⟩), .int .i64 (i : Int), .int .i64 (j : Int)]) K9 rfl rfl (want_none rfl) (fun ev E => ?_) (wayY (unhide PH) L1 (unhide HT) (unhide HI) (unhide HU) (unhide HJ) (unhide HSM)) (fun e W10 hR => ?_)
  · have EF := E.func; have E15 := E.tmp 15 _ rfl; have E16 := E.tmp 16 _ rfl; have E17 := E.tmp 17 _ rfl; clear E; clear PH KP LH HT HI HU HJ HSM HR HC L1; go_simp
  obtain ⟨rfl, Q1, S2, G2, P1, E2⟩ := hR
  have Q2 := hide ((unhide KP).tr Q1)
  clear PH KP Q1
  have PH := hide P1
  have KP := Q2
  clear Q2 P1
  refine ⟨_, rfl, fun a11 K11 => ?_⟩
  clear K9
  have HE := hide E2
  have hsum := E2.sum
  rw [show u - 1 = j by have := unhide HJ; omega] at hsum
  have hcan2 : (addB (S2 u).sm.a d && addB (S2 u).sm.b d) = true := by rw [hsum]; exact unhide HC
  have HC2 := hide hcan2
  clear hcan2 E2 hsum
  have e7 : ¬ (u : Int) = 0 := by have := (unhide HU).1; omega
  have e8 : ¬ u = 0 := by have := (unhide HU).1; omega
  refine las K11 rfl rfl (want_none rfl) rfl rfl (fun a12 K12 => ?_)
  clear K11
  refine nilN ?_
  refine seqN ?_
  refine seqR ?_
  refine lmv K12 rfl rfl (want_none rfl) rfl rfl (fun a13 K13 => ?_)
  clear K12
  refine ltake (v := .bool false) (w' := W10) K13 rfl rfl (want_none rfl) (fun ev E => ?_) (fun a14 K14 => ?_)
  · have EC := E.const; have E19 := E.tmp 19 _ rfl; clear E; clear PH KP LH HT HI HU HJ HSM HR HC L1 HE HC2; go_simp
  clear K13
  refine nilN ?_
  refine knCond (b := false) K14 rfl ?_
  refine wp_skip ?_
  show Code.wp _ _ _ _ _
  refine seqR ?_
  refine lmv K14 rfl rfl (want_none rfl) rfl rfl (fun a15 K15 => ?_)
  clear K14
  refine lnc K15 rfl rfl (want_none rfl) rfl rfl (fun a16 K16 => ?_)
  clear K15
  refine lfa K16 rfl rfl (want_none rfl) rfl rfl FA66_1 (fun a17 K17 => ?_)
  clear K16
  refine ltake (v := .slice (some ⟨g, 0, none⟩) n cap) (w' := W10) K17 rfl rfl (want_none rfl) (fun ev E => ?_) (fun a18 K18 => ?_)
  · obtain ⟨c0, c1, _⟩ := (unhide PH).head; have E23 := E.tmp 23 _ rfl; clear E; clear PH KP LH HT HI HU HJ HSM HR HC L1 HE HC2; go_simp
  clear K17
  refine lmv K18 rfl rfl (want_none rfl) rfl rfl (fun a19 K19 => ?_)
  clear K18
  refine ltake (v := .pointer (some ⟨g, u * 14, none⟩)) (w' := W10) K19 rfl rfl (want_none rfl) (fun ev E => ?_) (fun a20 K20 => ?_)
  · have E24 := E.tmp 24 _ rfl; have E25 := E.tmp 25 _ rfl; clear E; clear PH KP LH HT HI HU HJ HSM HR HC L1 HE HC2; go_simp
  clear K19
  refine lfa K20 rfl rfl (want_none rfl) rfl rfl FA75_6 (fun a21 K21 => ?_)
  clear K20
  refine ltake (v := .agg #[.int .i64 (S2 u).sm.c, .int .i64 (S2 u).sm.s, .int .i64 (S2 u).sm.a, .int .i64 (S2 u).sm.b]) (w' := W10) K21 rfl rfl (want_none rfl) (fun ev E => ?_) (fun a22 K22 => ?_)
  · obtain ⟨s0, s1, s2, s3, s4, s5, s6, s7, s8, s9, s10, s11, s12, s13⟩ := (unhide PH).slot (t := u) (by assumption); have E27 := E.tmp 27 _ rfl; clear E; clear PH KP LH HT HI HU HJ HSM HR HC L1 HE HC2; go_simp
  clear K21
  refine lmv K22 rfl rfl (want_none rfl) rfl rfl (fun a23 K23 => ?_)
  clear K22
  refine lcall (f := 65) (args := #[.agg #[.int .i64 (S2 u).sm.c, .int .i64 (S2 u).sm.s, .int .i64 (S2 u).sm.a, .int .i64 (S2 u).sm.b], .int .i64 d]) K23 rfl rfl (want_none rfl) (fun ev E => ?_) (canK (unhide PH) (unhide HC2)) (fun e W24 hR => ?_)
  · have EF := E.func; have E28 := E.tmp 28 _ rfl; have E29 := E.tmp 29 _ rfl; clear E; clear PH KP LH HT HI HU HJ HSM HR HC L1 HE HC2; go_simp
  obtain ⟨rfl, Q1, P1⟩ := hR
  have Q2 := hide ((unhide KP).tr Q1)
  clear PH KP Q1
  have PH := hide P1
  have KP := Q2
  clear Q2 P1
  refine ⟨_, rfl, fun a25 K25 => ?_⟩
  clear K23
  refine las K25 rfl rfl (want_none rfl) rfl rfl (fun a26 K26 => ?_)
  clear K25
  refine nilN ?_
  refine seqN ?_
  refine seqR ?_
  refine lmv K26 rfl rfl (want_none rfl) rfl rfl (fun a27 K27 => ?_)
  clear K26
  refine nilN ?_
  refine knCond (b := true) K27 rfl ?_
  refine wp_region_lit ?_
  refine lmv K27 rfl rfl (want_none rfl) rfl rfl (fun a28 K28 => ?_)
  clear K27
  refine lmv K28 rfl rfl (want_none rfl) rfl rfl (fun a29 K29 => ?_)
  clear K28
  refine lmv K29 rfl rfl (want_none rfl) rfl rfl (fun a30 K30 => ?_)
  clear K29
  have hbb := unhide HC2
  simp only [addB, Bool.and_eq_true] at hbb
  have hr1 : -1099511627776 ≤ (S2 u).sm.a + d := by have := hbb.1.2; simp [fitB] at this; omega
  have hr2 : (S2 u).sm.b + d ≤ 1099511627776 := by have := hbb.2.2; simp [fitB] at this; omega
  obtain ⟨L3, R3⟩ := (unhide HE).raise (l := (T.evert i).up j) (fun x => by rw [unhide HJ]; exact mem_U1.symm) hr1 hr2
  have HLR := hide (And.intro L3 R3)
  clear hbb hr1 hr2 L3 R3
  refine lcall (f := 66) (args := #[.pointer (some ⟨p, 0, none⟩), .int .i64 (u : Int), .int .i64 d]) K30 rfl rfl (want_none rfl) (fun ev E => ?_) (raise_any (unhide PH) lt2 (fun _ => (unhide HLR).2)) (fun e W31 hR => ?_)
  · have EF := E.func; have E32 := E.tmp 32 _ rfl; have E33 := E.tmp 33 _ rfl; have E34 := E.tmp 34 _ rfl; clear E; clear PH KP LH HT HI HU HJ HSM HR HC L1 HE HC2 HLR; go_simp
  obtain ⟨rfl, P1, Q1⟩ := hR
  have Q2 := hide ((unhide KP).tr Q1)
  clear PH KP Q1
  have PH := hide P1
  have KP := Q2
  clear Q2 P1
  refine ⟨_, rfl, fun a32 K32 => ?_⟩
  clear K30
  refine nilN ?_
  refine seqR ?_
  refine lmv K32 rfl rfl (want_none rfl) rfl rfl (fun a33 K33 => ?_)
  clear K32
  refine lmv K33 rfl rfl (want_none rfl) rfl rfl (fun a34 K34 => ?_)
  clear K33
  have rb := root_back (unhide LH).wf (i := i) (by have q := (unhide HT).2; rw [unhide HI] at q; simpa using q) (unhide HR)
  have ht0 : T.par i ≠ -2 := by have q := (unhide HT).2; rw [unhide HI] at q; simpa using q
  refine lcall (f := 25) (args := #[.pointer (some ⟨p, 0, none⟩), .int .i64 (r : Int)]) K34 rfl rfl (want_none rfl) (fun ev E => ?_) (evertY (i := r) (t := r + 1) (unhide PH) (unhide HLR).1 (show Th ((T.evert i).raise ((T.evert i).up j) d) (r + 1) from (th_evert (unhide LH).wf ht0).2 ⟨by omega, by simpa using rb.1⟩) rfl) (fun e W35 hR => ?_)
  · have EF := E.func; have E36 := E.tmp 36 _ rfl; have E37 := E.tmp 37 _ rfl; clear E; clear PH KP LH HT HI HU HJ HSM HR HC L1 HE HC2 HLR rb ht0; go_simp
  obtain ⟨rfl, Q1, S9, G9, P1, L9⟩ := hR
  have Q2 := hide ((unhide KP).tr Q1)
  clear PH KP Q1
  have PH := hide P1
  have KP := Q2
  clear Q2 P1
  refine ⟨_, rfl, fun a36 K36 => ?_⟩
  clear K34
  rw [evert_raise, rb.2] at L9
  refine nilN ?_
  refine seqR ?_
  refine lmv K36 rfl rfl (want_none rfl) rfl rfl (fun a37 K37 => ?_)
  clear K36
  refine las K37 rfl rfl (want_none rfl) rfl rfl (fun a38 K38 => ?_)
  clear K37
  refine nilN ?_
  refine wp_ret ?_
  refine bodyPost_ret (v := .bool true) ?_ K38.defers ⟨rfl, unhide KP, S9, G9, unhide PH, L9⟩
  have e8 := K38.has 8 _ rfl
  simp [results, Try.results29, go_sem, e8]
set_option maxHeartbeats 4000000 in
theorem pathAddN0 {p g n cap room : Nat} {T : Tr} {S : Ss} {G : Gh} {w : World} {x y d : Int} (h : Pool w p g n cap room S) (L : Lc S n T G) (hs : T.sameI x y = false) :
    Calls Try.prog 29 #[.pointer (some ⟨p, 0, none⟩), .int .i64 x, .int .i64 y, .int .i64 d] w fun e w' => e = .returned (.bool false) ∧ Keep [g] w w' ∧ ∃ S1 G1, Pool w' p g n cap room S1 ∧ Lc S1 n T G1 := by
  have PH := hide h
  have KP := hide (Keep.refl [g] w)
  have LH := hide L
  clear h L
  refine callsK (n := 40) (L := [(0, .pointer (some ⟨p, 0, none⟩)), (1, .int .i64 x), (2, .int .i64 y), (3, .int .i64 d)]) Try.func29 rfl Try.ntmps29 rfl rfl (fun a0 K0 => ?_)
  refine seqR ?_
  refine lac K0 rfl rfl (want_none rfl) rfl (fun a1 K1 => ?_)
  refine nilN ?_
  refine seqR ?_
  refine lmv K1 rfl rfl (want_none rfl) rfl rfl (fun a2 K2 => ?_)
  clear K1
  refine lmv K2 rfl rfl (want_none rfl) rfl rfl (fun a3 K3 => ?_)
  clear K2
  refine lcall (f := 39) (args := #[.pointer (some ⟨p, 0, none⟩), .int .i64 x]) K3 rfl rfl (want_none rfl) (fun ev E => ?_) (rootAll (unhide PH) (unhide LH) x) (fun e W4 hR => ?_)
  · have EF := E.func; have E12 := E.tmp 12 _ rfl; have E13 := E.tmp 13 _ rfl; clear E; clear PH KP LH; go_simp
  obtain ⟨rfl, Q1, S1, G1, P1, L1⟩ := hR
  have Q2 := hide ((unhide KP).tr Q1)
  clear PH KP Q1
  have PH := hide P1
  have KP := Q2
  clear Q2 P1
  refine ⟨_, rfl, fun a5 K5 => ?_⟩
  clear K3
  refine las K5 rfl rfl (want_none rfl) rfl rfl (fun a6 K6 => ?_)
  clear K5
  refine nilN ?_
  refine seqR ?_
  refine lmv K6 rfl rfl (want_none rfl) rfl rfl (fun a7 K7 => ?_)
  clear K6
  refine lmv K7 rfl rfl (want_none rfl) rfl rfl (fun a8 K8 => ?_)
  clear K7
  refine lmv K8 rfl rfl (want_none rfl) rfl rfl (fun a9 K9 => ?_)
  clear K8
  refine lcall (f := 64) (args := #[.pointer (some ⟨p, 0, none⟩), .int .i64 x, .int .i64 y]) K9 rfl rfl (want_none rfl) (fun ev E => ?_) (wayN (unhide PH) L1 hs) (fun e W10 hR => ?_)
  · have EF := E.func; have E15 := E.tmp 15 _ rfl; have E16 := E.tmp 16 _ rfl; have E17 := E.tmp 17 _ rfl; clear E; clear PH KP LH L1; go_simp
  obtain ⟨rfl, Q1, S2, G2, P1, L2⟩ := hR
  have Q2 := hide ((unhide KP).tr Q1)
  clear PH KP Q1
  have PH := hide P1
  have KP := Q2
  clear Q2 P1
  refine ⟨_, rfl, fun a11 K11 => ?_⟩
  clear K9
  refine las K11 rfl rfl (want_none rfl) rfl rfl (fun a12 K12 => ?_)
  clear K11
  refine nilN ?_
  refine wp_seq ?_
  refine seqR ?_
  refine lmv K12 rfl rfl (want_none rfl) rfl rfl (fun a13 K13 => ?_)
  clear K12
  refine ltake (v := .bool true) (w' := W10) K13 rfl rfl (want_none rfl) (fun ev E => ?_) (fun a14 K14 => ?_)
  · have EC := E.const; have E19 := E.tmp 19 _ rfl; clear E; clear PH KP LH L1 L2; go_simp
  clear K13
  refine nilN ?_
  refine knCond (b := true) K14 rfl ?_
  refine seqR ?_
  refine lac K14 rfl rfl (want_none rfl) rfl (fun a15 K15 => ?_)
  clear K14
  refine nilN ?_
  refine wp_ret ?_
  refine thenRet ?_
  refine bodyPost_ret (v := .bool false) ?_ K15.defers ⟨rfl, unhide KP, S2, G2, unhide PH, L2⟩
  have e8 := K15.has 8 _ rfl
  simp [results, Try.results29, go_sem, e8]
end Go.Proofs.Ytjnkgakajenoaaa
/- The program's forest: the sum of a way. -/

namespace Go.Proofs.Ytjnkgakajenoaaa
open Go.RowKit Go.Arb
set_option linter.unusedVariables false
set_option linter.unusedSimpArgs false
set_option maxRecDepth 100000

set_option maxHeartbeats 4000000 in
theorem pathY {p g n cap room : Nat} {T : Tr} {S : Ss} {G : Gh} {w : World} {i j t u r : Nat} (h : Pool w p g n cap room S) (L : Lc S n T G) (hi : Th T t) (hit : t = i + 1) (hj : Th T u) (hju : u = j + 1) (hs : T.sameI (i : Int) (j : Int) = true) (hr : T.rootI (i : Int) = (r : Int)) :
    Calls Try.prog 31 #[.pointer (some ⟨p, 0, none⟩), .int .i64 (i : Int), .int .i64 (j : Int)] w fun e w' => e = .returned (.tuple #[.agg #[.int .i64 (ofL (((T.evert i).up j).map T.wt)).c, .int .i64 (ofL (((T.evert i).up j).map T.wt)).s, .int .i64 (ofL (((T.evert i).up j).map T.wt)).a, .int .i64 (ofL (((T.evert i).up j).map T.wt)).b], .bool true]) ∧ Keep [g] w w' ∧ ∃ S1 G1, Pool w' p g n cap room S1 ∧ Lc S1 n T G1 := by
  have PH := hide h
  have KP := hide (Keep.refl [g] w)
  have LH := hide L
  clear h L
  have lt1 := (unhide LH).lt t hi
  have e1 : (0 : Int) ≤ (t : Int) := by omega
  have e2 : (t : Int) < (n : Int) := by omega
  have t1 := hi.1
  have e5 : ¬ (t : Int) = 0 := by omega
  have e6 : ¬ t = 0 := by omega
  have HT := hide hi
  have HI := hide hit
  clear hi hit t1
  have lt2 := (unhide LH).lt u hj
  have e3 : (0 : Int) ≤ (u : Int) := by omega
  have e4 : (u : Int) < (n : Int) := by omega
  have HU := hide hj
  have HJ := hide hju
  clear hj hju
  have HSM := hide hs
  have HR := hide hr
  clear hs hr
  refine callsK (n := 33) (L := [(0, .pointer (some ⟨p, 0, none⟩)), (1, .int .i64 (i : Int)), (2, .int .i64 (j : Int))]) Try.func31 rfl Try.ntmps31 rfl rfl (fun a0 K0 => ?_)
  refine seqR ?_
  refine ltake (v := .pointer (some ⟨w.heap.size, 0, none⟩)) (w' := (w.alloc (.cells #[.int .i64 0, .int .i64 0, .int .i64 0, .int .i64 0] 34))) K0 rfl rfl (want_none rfl) (fun ev E => ?_) (fun a1 K1 => ?_)
  · clear E; clear PH KP LH HT HI HU HJ HSM HR; go_simp
  have LB := (Below.refl w.heap.size w).alloc (Nat.le_refl _) (.cells #[.int .i64 0, .int .i64 0, .int .i64 0, .int .i64 0] 34)
  have PA := (unhide PH).below LB
  have KA := (unhide KP).belowB LB
  have BA := heap_alloc_new w (.cells #[.int .i64 0, .int .i64 0, .int .i64 0, .int .i64 0] 34)
  have bg : g ≠ w.heap.size ∧ p ≠ w.heap.size := ⟨by have := (unhide PH).lt.2; omega, by have := (unhide PH).lt.1; omega⟩
  have bs : w.heap.size ≤ w.heap.size := (unhide KP).size
  clear PH KP LB 
  generalize (w.alloc (.cells #[.int .i64 0, .int .i64 0, .int .i64 0, .int .i64 0] 34)) = Wd6 at *
  obtain ⟨d6, hd⟩ : ∃ z, z = w.heap.size := ⟨_, rfl⟩
  rw [← hd] at BA bg K1 
  have bs2 : w.heap.size ≤ d6 := by rw [hd]; exact bs
  clear hd bs
  have PH := hide PA
  have KP := hide KA
  have Bd6 := hide BA
  have Nd6 := hide (And.intro bg.1 (And.intro bg.2 bs2))
  clear PA KA BA bg bs2
  refine lac K1 rfl rfl (want_none rfl) rfl (fun a2 K2 => ?_)
  clear K1
  refine nilN ?_
  refine seqR ?_
  refine lmv K2 rfl rfl (want_none rfl) rfl rfl (fun a3 K3 => ?_)
  clear K2
  refine lmv K3 rfl rfl (want_none rfl) rfl rfl (fun a4 K4 => ?_)
  clear K3
  refine lcall (f := 39) (args := #[.pointer (some ⟨p, 0, none⟩), .int .i64 (i : Int)]) K4 rfl rfl (want_none rfl) (fun ev E => ?_) (rootLit (unhide PH) (unhide LH) (unhide HT) (unhide HI) (unhide HR)) (fun e W5 hR => ?_)
  · have EF := E.func; have E11 := E.tmp 11 _ rfl; have E12 := E.tmp 12 _ rfl; clear E; clear PH KP LH HT HI HU HJ HSM HR Bd6 Nd6; go_simp
  obtain ⟨rfl, Q1, S1, G1, P1, L1⟩ := hR
  have Xd6 := hide ((Q1.block d6 (blk_lt (unhide Bd6)) (by simp; exact Ne.symm (unhide Nd6).1)).trans (unhide Bd6))
  have Q2 := hide ((unhide KP).tr Q1)
  clear PH KP Q1 Bd6
  have PH := hide P1
  have KP := Q2
  clear Q2 P1
  have Bd6 := Xd6
  clear Xd6
  refine ⟨_, rfl, fun a6 K6 => ?_⟩
  clear K4
  refine las K6 rfl rfl (want_none rfl) rfl rfl (fun a7 K7 => ?_)
  clear K6
  refine nilN ?_
  refine seqR ?_
  refine lmv K7 rfl rfl (want_none rfl) rfl rfl (fun a8 K8 => ?_)
  clear K7
  refine lmv K8 rfl rfl (want_none rfl) rfl rfl (fun a9 K9 => ?_)
  clear K8
  refine lmv K9 rfl rfl (want_none rfl) rfl rfl (fun a10 K10 => ?_)
  clear K9
  refine lcall (f := 64) (args := #[.pointer (some ⟨p, 0, none⟩), .int .i64 (i : Int), .int .i64 (j : Int)]) K10 rfl rfl (want_none rfl) (fun ev E => ?_) (wayY (unhide PH) L1 (unhide HT) (unhide HI) (unhide HU) (unhide HJ) (unhide HSM)) (fun e W11 hR => ?_)
  · have EF := E.func; have E14 := E.tmp 14 _ rfl; have E15 := E.tmp 15 _ rfl; have E16 := E.tmp 16 _ rfl; clear E; clear PH KP LH HT HI HU HJ HSM HR Bd6 Nd6 L1; go_simp
  obtain ⟨rfl, Q1, S2, G2, P1, E2⟩ := hR
  have Xd6 := hide ((Q1.block d6 (blk_lt (unhide Bd6)) (by simp; exact Ne.symm (unhide Nd6).1)).trans (unhide Bd6))
  have Q2 := hide ((unhide KP).tr Q1)
  clear PH KP Q1 Bd6
  have PH := hide P1
  have KP := Q2
  clear Q2 P1
  have Bd6 := Xd6
  clear Xd6
  refine ⟨_, rfl, fun a12 K12 => ?_⟩
  clear K10
  have HE := hide E2
  have hsum := E2.sum
  rw [show u - 1 = j by have := unhide HJ; omega] at hsum
  have HSU := hide hsum
  clear E2 hsum
  have e7 : ¬ (u : Int) = 0 := by have := (unhide HU).1; omega
  have e8 : ¬ u = 0 := by have := (unhide HU).1; omega
  refine las K12 rfl rfl (want_none rfl) rfl rfl (fun a13 K13 => ?_)
  clear K12
  refine nilN ?_
  refine seqN ?_
  refine seqR ?_
  refine lmv K13 rfl rfl (want_none rfl) rfl rfl (fun a14 K14 => ?_)
  clear K13
  refine ltake (v := .bool false) (w' := W11) K14 rfl rfl (want_none rfl) (fun ev E => ?_) (fun a15 K15 => ?_)
  · have EC := E.const; have E18 := E.tmp 18 _ rfl; clear E; clear PH KP LH HT HI HU HJ HSM HR Bd6 Nd6 L1 HE HSU; go_simp
  clear K14
  refine nilN ?_
  refine knCond (b := false) K15 rfl ?_
  refine wp_skip ?_
  show Code.wp _ _ _ _ _
  refine seqR ?_
  refine lmv K15 rfl rfl (want_none rfl) rfl rfl (fun a16 K16 => ?_)
  clear K15
  refine lnc K16 rfl rfl (want_none rfl) rfl rfl (fun a17 K17 => ?_)
  clear K16
  refine lfa K17 rfl rfl (want_none rfl) rfl rfl FA66_1 (fun a18 K18 => ?_)
  clear K17
  refine ltake (v := .slice (some ⟨g, 0, none⟩) n cap) (w' := W11) K18 rfl rfl (want_none rfl) (fun ev E => ?_) (fun a19 K19 => ?_)
  · obtain ⟨c0, c1, _⟩ := (unhide PH).head; have E23 := E.tmp 23 _ rfl; clear E; clear PH KP LH HT HI HU HJ HSM HR Bd6 Nd6 L1 HE HSU; go_simp
  clear K18
  refine lmv K19 rfl rfl (want_none rfl) rfl rfl (fun a20 K20 => ?_)
  clear K19
  refine ltake (v := .pointer (some ⟨g, u * 14, none⟩)) (w' := W11) K20 rfl rfl (want_none rfl) (fun ev E => ?_) (fun a21 K21 => ?_)
  · have E24 := E.tmp 24 _ rfl; have E25 := E.tmp 25 _ rfl; clear E; clear PH KP LH HT HI HU HJ HSM HR Bd6 Nd6 L1 HE HSU; go_simp
  clear K20
  refine lfa K21 rfl rfl (want_none rfl) rfl rfl FA75_6 (fun a22 K22 => ?_)
  clear K21
  refine ltake (v := .agg #[.int .i64 (S2 u).sm.c, .int .i64 (S2 u).sm.s, .int .i64 (S2 u).sm.a, .int .i64 (S2 u).sm.b]) (w' := W11) K22 rfl rfl (want_none rfl) (fun ev E => ?_) (fun a23 K23 => ?_)
  · obtain ⟨s0, s1, s2, s3, s4, s5, s6, s7, s8, s9, s10, s11, s12, s13⟩ := (unhide PH).slot (t := u) (by assumption); have E27 := E.tmp 27 _ rfl; clear E; clear PH KP LH HT HI HU HJ HSM HR Bd6 Nd6 L1 HE HSU; go_simp
  clear K22
  refine ltake (v := .pointer (some ⟨W11.heap.size, 0, none⟩)) (w' := (W11.alloc (.cells #[.int .i64 0, .int .i64 0, .int .i64 0, .int .i64 0] 34))) K23 rfl rfl (want_none rfl) (fun ev E => ?_) (fun a24 K24 => ?_)
  · clear E; clear PH KP LH HT HI HU HJ HSM HR Bd6 Nd6 L1 HE HSU; go_simp
  clear K23
  have LB := (Below.refl W11.heap.size W11).alloc (Nat.le_refl _) (.cells #[.int .i64 0, .int .i64 0, .int .i64 0, .int .i64 0] 34)
  have PA := (unhide PH).below LB
  have KA := (unhide KP).belowB LB
  have BA := heap_alloc_new W11 (.cells #[.int .i64 0, .int .i64 0, .int .i64 0, .int .i64 0] 34)
  have bg : g ≠ W11.heap.size ∧ p ≠ W11.heap.size := ⟨by have := (unhide PH).lt.2; omega, by have := (unhide PH).lt.1; omega⟩
  have Xd6 := (LB.block d6 (blk_lt (unhide Bd6))).trans (unhide Bd6)
  have Yd6 : d6 ≠ W11.heap.size := by have := blk_lt (unhide Bd6); omega
  have bs : w.heap.size ≤ W11.heap.size := (unhide KP).size
  clear PH KP LB Bd6
  generalize (W11.alloc (.cells #[.int .i64 0, .int .i64 0, .int .i64 0, .int .i64 0] 34)) = Wd10 at *
  obtain ⟨d10, hd⟩ : ∃ z, z = W11.heap.size := ⟨_, rfl⟩
  rw [← hd] at BA bg K24 Yd6
  have bs2 : w.heap.size ≤ d10 := by rw [hd]; exact bs
  clear hd bs
  have PH := hide PA
  have KP := hide KA
  have Bd10 := hide BA
  have Nd10 := hide (And.intro bg.1 (And.intro bg.2 bs2))
  clear PA KA BA bg bs2
  have Bd6 := hide Xd6
  have Yd6h := hide Yd6
  clear Xd6
  clear Yd6
  have bb := unhide Bd10
  have cA : ∀ k, k < 4 → Wd10.cell? ⟨d10, k, none⟩ = (#[.int .i64 0, .int .i64 0, .int .i64 0, .int .i64 0] : Array Value)[k]? ∧ Wd10.frozen? ⟨d10, k, none⟩ = false := fun k hk => by
    constructor
    · simp [World.cell?, bb]
    · simp [World.frozen?, bb]
  have s0 := (cA 0 (by omega)).1; have f0 := (cA 0 (by omega)).2
  have s1 := (cA 1 (by omega)).1; have f1 := (cA 1 (by omega)).2
  have s2 := (cA 2 (by omega)).1; have f2 := (cA 2 (by omega)).2
  have s3 := (cA 3 (by omega)).1; have f3 := (cA 3 (by omega)).2
  simp only [List.getElem?_toArray, List.getElem?_cons_succ, List.getElem?_cons_zero] at s0 s1 s2 s3
  clear cA bb
  refine lstore (w' := ((((Wd10.setCell ⟨d10, 0, none⟩ (.int .i64 (S2 u).sm.c)).setCell ⟨d10, 1, none⟩ (.int .i64 (S2 u).sm.s)).setCell ⟨d10, 2, none⟩ (.int .i64 (S2 u).sm.a)).setCell ⟨d10, 3, none⟩ (.int .i64 (S2 u).sm.b))) K24 rfl (want_none rfl) (fun ev E => ?_) ?_
  · have E10 := E.tmp 10 _ rfl; have E28 := E.tmp 28 _ rfl; clear E; clear PH KP LH HT HI HU HJ HSM HR Bd6 Nd6 L1 HE HSU Bd10 Nd10 Yd6h; go_simp
  clear s0 s1 s2 s3 f0 f1 f2 f3
  have b0 := heap_setCell_same Wd10 d10 0 _ _ (.int .i64 (S2 u).sm.c) (unhide Bd10)
  have b1 := heap_setCell_same (Wd10.setCell ⟨d10, 0, none⟩ (.int .i64 (S2 u).sm.c)) d10 1 _ _ (.int .i64 (S2 u).sm.s) b0
  have b2 := heap_setCell_same ((Wd10.setCell ⟨d10, 0, none⟩ (.int .i64 (S2 u).sm.c)).setCell ⟨d10, 1, none⟩ (.int .i64 (S2 u).sm.s)) d10 2 _ _ (.int .i64 (S2 u).sm.a) b1
  have b3 := heap_setCell_same (((Wd10.setCell ⟨d10, 0, none⟩ (.int .i64 (S2 u).sm.c)).setCell ⟨d10, 1, none⟩ (.int .i64 (S2 u).sm.s)).setCell ⟨d10, 2, none⟩ (.int .i64 (S2 u).sm.a)) d10 3 _ _ (.int .i64 (S2 u).sm.b) b2
  have KB : Keep [d10] Wd10 ((((Wd10.setCell ⟨d10, 0, none⟩ (.int .i64 (S2 u).sm.c)).setCell ⟨d10, 1, none⟩ (.int .i64 (S2 u).sm.s)).setCell ⟨d10, 2, none⟩ (.int .i64 (S2 u).sm.a)).setCell ⟨d10, 3, none⟩ (.int .i64 (S2 u).sm.b)) := (((((Keep.refl [d10] Wd10).cellB (0) (.int .i64 (S2 u).sm.c)).cellB (1) (.int .i64 (S2 u).sm.s)).cellB (2) (.int .i64 (S2 u).sm.a)).cellB (3) (.int .i64 (S2 u).sm.b))
  have PB1 := (unhide PH).keep KB (by simp; exact (unhide Nd10).2.1) (by simp; exact (unhide Nd10).1)
  have KB1 : Keep [g] w ((((Wd10.setCell ⟨d10, 0, none⟩ (.int .i64 (S2 u).sm.c)).setCell ⟨d10, 1, none⟩ (.int .i64 (S2 u).sm.s)).setCell ⟨d10, 2, none⟩ (.int .i64 (S2 u).sm.a)).setCell ⟨d10, 3, none⟩ (.int .i64 (S2 u).sm.b)) := (unhide KP).trans KB (fun i hi => by simp at hi; right; rw [hi]; exact (unhide Nd10).2.2)
  have Xd6 := (KB.block d6 (blk_lt (unhide Bd6)) (by simp; exact unhide Yd6h)).trans (unhide Bd6)
  have bN : ((((Wd10.setCell ⟨d10, 0, none⟩ (.int .i64 (S2 u).sm.c)).setCell ⟨d10, 1, none⟩ (.int .i64 (S2 u).sm.s)).setCell ⟨d10, 2, none⟩ (.int .i64 (S2 u).sm.a)).setCell ⟨d10, 3, none⟩ (.int .i64 (S2 u).sm.b)).heap[d10]? = some (.cells #[.int .i64 (S2 u).sm.c, .int .i64 (S2 u).sm.s, .int .i64 (S2 u).sm.a, .int .i64 (S2 u).sm.b] 34 (0, 0)) := by rw [b3]; simp
  clear PH KP KB b0 b1 b2 b3 Bd10 Bd6
  generalize ((((Wd10.setCell ⟨d10, 0, none⟩ (.int .i64 (S2 u).sm.c)).setCell ⟨d10, 1, none⟩ (.int .i64 (S2 u).sm.s)).setCell ⟨d10, 2, none⟩ (.int .i64 (S2 u).sm.a)).setCell ⟨d10, 3, none⟩ (.int .i64 (S2 u).sm.b)) = Vd10a at *
  have PH := hide PB1
  have KP := hide KB1
  have Bd10 := hide bN
  clear PB1 KB1 bN
  have Bd6 := hide Xd6
  clear Xd6
  refine nilN ?_
  refine seqR ?_
  refine lmv K24 rfl rfl (want_none rfl) rfl rfl (fun a26 K26 => ?_)
  clear K24
  refine lmv K26 rfl rfl (want_none rfl) rfl rfl (fun a27 K27 => ?_)
  clear K26
  have rb := root_back (unhide LH).wf (i := i) (by have q := (unhide HT).2; rw [unhide HI] at q; simpa using q) (unhide HR)
  have ht0 : T.par i ≠ -2 := by have q := (unhide HT).2; rw [unhide HI] at q; simpa using q
  refine lcall (f := 25) (args := #[.pointer (some ⟨p, 0, none⟩), .int .i64 (r : Int)]) K27 rfl rfl (want_none rfl) (fun ev E => ?_) (evertY (i := r) (t := r + 1) (unhide PH) (unhide HE).lc ((th_evert (unhide LH).wf ht0).2 ⟨by omega, by simpa using rb.1⟩) rfl) (fun e W28 hR => ?_)
  · have EF := E.func; have E29 := E.tmp 29 _ rfl; have E30 := E.tmp 30 _ rfl; clear E; clear PH KP LH HT HI HU HJ HSM HR Bd6 Nd6 L1 HE HSU Bd10 Nd10 Yd6h rb ht0; go_simp
  obtain ⟨rfl, Q1, S9, G9, P1, L9⟩ := hR
  have Xd6 := hide ((Q1.block d6 (blk_lt (unhide Bd6)) (by simp; exact Ne.symm (unhide Nd6).1)).trans (unhide Bd6))
  have Xd10 := hide ((Q1.block d10 (blk_lt (unhide Bd10)) (by simp; exact Ne.symm (unhide Nd10).1)).trans (unhide Bd10))
  have Q2 := hide ((unhide KP).tr Q1)
  clear PH KP Q1 Bd6 Bd10
  have PH := hide P1
  have KP := Q2
  clear Q2 P1
  have Bd6 := Xd6
  clear Xd6
  have Bd10 := Xd10
  clear Xd10
  refine ⟨_, rfl, fun a29 K29 => ?_⟩
  clear K27
  rw [rb.2] at L9
  refine nilN ?_
  refine seqR ?_
  have bb := unhide Bd10
  have q0 : W28.cell? ⟨d10, 0, none⟩ = some (.int .i64 (S2 u).sm.c) := by simp [World.cell?, bb]
  have q1 : W28.cell? ⟨d10, 1, none⟩ = some (.int .i64 (S2 u).sm.s) := by simp [World.cell?, bb]
  have q2 : W28.cell? ⟨d10, 2, none⟩ = some (.int .i64 (S2 u).sm.a) := by simp [World.cell?, bb]
  have q3 : W28.cell? ⟨d10, 3, none⟩ = some (.int .i64 (S2 u).sm.b) := by simp [World.cell?, bb]
  clear bb
  refine ltake (v := .agg #[.int .i64 (S2 u).sm.c, .int .i64 (S2 u).sm.s, .int .i64 (S2 u).sm.a, .int .i64 (S2 u).sm.b]) (w' := W28) K29 rfl rfl (want_none rfl) (fun ev E => ?_) (fun a30 K30 => ?_)
  · have E10 := E.tmp 10 _ rfl; clear E; clear PH KP LH HT HI HU HJ HSM HR Bd6 Nd6 L1 HE HSU Bd10 Nd10 Yd6h rb ht0 L9; go_simp
  clear K29
  clear q0 q1 q2 q3
  have bb := unhide Bd6
  have cA : ∀ k, k < 4 → W28.cell? ⟨d6, k, none⟩ = (#[.int .i64 0, .int .i64 0, .int .i64 0, .int .i64 0] : Array Value)[k]? ∧ W28.frozen? ⟨d6, k, none⟩ = false := fun k hk => by
    constructor
    · simp [World.cell?, bb]
    · simp [World.frozen?, bb]
  have s0 := (cA 0 (by omega)).1; have f0 := (cA 0 (by omega)).2
  have s1 := (cA 1 (by omega)).1; have f1 := (cA 1 (by omega)).2
  have s2 := (cA 2 (by omega)).1; have f2 := (cA 2 (by omega)).2
  have s3 := (cA 3 (by omega)).1; have f3 := (cA 3 (by omega)).2
  simp only [List.getElem?_toArray, List.getElem?_cons_succ, List.getElem?_cons_zero] at s0 s1 s2 s3
  clear cA bb
  refine lstore (w' := ((((W28.setCell ⟨d6, 0, none⟩ (.int .i64 (S2 u).sm.c)).setCell ⟨d6, 1, none⟩ (.int .i64 (S2 u).sm.s)).setCell ⟨d6, 2, none⟩ (.int .i64 (S2 u).sm.a)).setCell ⟨d6, 3, none⟩ (.int .i64 (S2 u).sm.b))) K30 rfl (want_none rfl) (fun ev E => ?_) ?_
  · have E6 := E.tmp 6 _ rfl; have E32 := E.tmp 32 _ rfl; clear E; clear PH KP LH HT HI HU HJ HSM HR Bd6 Nd6 L1 HE HSU Bd10 Nd10 Yd6h rb ht0 L9; go_simp
  clear s0 s1 s2 s3 f0 f1 f2 f3
  have b0 := heap_setCell_same W28 d6 0 _ _ (.int .i64 (S2 u).sm.c) (unhide Bd6)
  have b1 := heap_setCell_same (W28.setCell ⟨d6, 0, none⟩ (.int .i64 (S2 u).sm.c)) d6 1 _ _ (.int .i64 (S2 u).sm.s) b0
  have b2 := heap_setCell_same ((W28.setCell ⟨d6, 0, none⟩ (.int .i64 (S2 u).sm.c)).setCell ⟨d6, 1, none⟩ (.int .i64 (S2 u).sm.s)) d6 2 _ _ (.int .i64 (S2 u).sm.a) b1
  have b3 := heap_setCell_same (((W28.setCell ⟨d6, 0, none⟩ (.int .i64 (S2 u).sm.c)).setCell ⟨d6, 1, none⟩ (.int .i64 (S2 u).sm.s)).setCell ⟨d6, 2, none⟩ (.int .i64 (S2 u).sm.a)) d6 3 _ _ (.int .i64 (S2 u).sm.b) b2
  have KB : Keep [d6] W28 ((((W28.setCell ⟨d6, 0, none⟩ (.int .i64 (S2 u).sm.c)).setCell ⟨d6, 1, none⟩ (.int .i64 (S2 u).sm.s)).setCell ⟨d6, 2, none⟩ (.int .i64 (S2 u).sm.a)).setCell ⟨d6, 3, none⟩ (.int .i64 (S2 u).sm.b)) := (((((Keep.refl [d6] W28).cellB (0) (.int .i64 (S2 u).sm.c)).cellB (1) (.int .i64 (S2 u).sm.s)).cellB (2) (.int .i64 (S2 u).sm.a)).cellB (3) (.int .i64 (S2 u).sm.b))
  have PB1 := (unhide PH).keep KB (by simp; exact (unhide Nd6).2.1) (by simp; exact (unhide Nd6).1)
  have KB1 : Keep [g] w ((((W28.setCell ⟨d6, 0, none⟩ (.int .i64 (S2 u).sm.c)).setCell ⟨d6, 1, none⟩ (.int .i64 (S2 u).sm.s)).setCell ⟨d6, 2, none⟩ (.int .i64 (S2 u).sm.a)).setCell ⟨d6, 3, none⟩ (.int .i64 (S2 u).sm.b)) := (unhide KP).trans KB (fun i hi => by simp at hi; right; rw [hi]; exact (unhide Nd6).2.2)
  have Xd10 := (KB.block d10 (blk_lt (unhide Bd10)) (by simp; exact (Ne.symm (unhide Yd6h)))).trans (unhide Bd10)
  have bN : ((((W28.setCell ⟨d6, 0, none⟩ (.int .i64 (S2 u).sm.c)).setCell ⟨d6, 1, none⟩ (.int .i64 (S2 u).sm.s)).setCell ⟨d6, 2, none⟩ (.int .i64 (S2 u).sm.a)).setCell ⟨d6, 3, none⟩ (.int .i64 (S2 u).sm.b)).heap[d6]? = some (.cells #[.int .i64 (S2 u).sm.c, .int .i64 (S2 u).sm.s, .int .i64 (S2 u).sm.a, .int .i64 (S2 u).sm.b] 34 (0, 0)) := by rw [b3]; simp
  clear PH KP KB b0 b1 b2 b3 Bd6 Bd10
  generalize ((((W28.setCell ⟨d6, 0, none⟩ (.int .i64 (S2 u).sm.c)).setCell ⟨d6, 1, none⟩ (.int .i64 (S2 u).sm.s)).setCell ⟨d6, 2, none⟩ (.int .i64 (S2 u).sm.a)).setCell ⟨d6, 3, none⟩ (.int .i64 (S2 u).sm.b)) = Vd6new at *
  have PH := hide PB1
  have KP := hide KB1
  have Bd6 := hide bN
  clear PB1 KB1 bN
  have Bd10 := hide Xd10
  clear Xd10
  refine lac K30 rfl rfl (want_none rfl) rfl (fun a32 K32 => ?_)
  clear K30
  refine nilN ?_
  refine wp_ret ?_
  have su := unhide HSU
  have bb := unhide Bd6
  have q0 : Vd6new.cell? ⟨d6, 0, none⟩ = some (.int .i64 (S2 u).sm.c) := by simp [World.cell?, bb]
  have q1 : Vd6new.cell? ⟨d6, 1, none⟩ = some (.int .i64 (S2 u).sm.s) := by simp [World.cell?, bb]
  have q2 : Vd6new.cell? ⟨d6, 2, none⟩ = some (.int .i64 (S2 u).sm.a) := by simp [World.cell?, bb]
  have q3 : Vd6new.cell? ⟨d6, 3, none⟩ = some (.int .i64 (S2 u).sm.b) := by simp [World.cell?, bb]
  refine bodyPost_ret (v := .tuple #[.agg #[.int .i64 (S2 u).sm.c, .int .i64 (S2 u).sm.s, .int .i64 (S2 u).sm.a, .int .i64 (S2 u).sm.b], .bool true]) ?_ K32.defers ⟨?_, unhide KP, S9, G9, unhide PH, L9⟩
  · have e6 := K32.has 6 _ rfl
    have e7 := K32.has 7 _ rfl
    clear su bb
    simp [results, Try.results31, go_sem, e6, e7, q0, q1, q2, q3]
  · rw [su]; rfl
set_option maxHeartbeats 4000000 in
theorem pathN {p g n cap room : Nat} {T : Tr} {S : Ss} {G : Gh} {w : World} {x y : Int} (h : Pool w p g n cap room S) (L : Lc S n T G) (hs : T.sameI x y = false) :
    Calls Try.prog 31 #[.pointer (some ⟨p, 0, none⟩), .int .i64 x, .int .i64 y] w fun e w' => e = .returned (.tuple #[.agg #[.int .i64 0, .int .i64 0, .int .i64 0, .int .i64 0], .bool false]) ∧ Keep [g] w w' ∧ ∃ S1 G1, Pool w' p g n cap room S1 ∧ Lc S1 n T G1 := by
  have PH := hide h
  have KP := hide (Keep.refl [g] w)
  have LH := hide L
  clear h L
  refine callsK (n := 33) (L := [(0, .pointer (some ⟨p, 0, none⟩)), (1, .int .i64 x), (2, .int .i64 y)]) Try.func31 rfl Try.ntmps31 rfl rfl (fun a0 K0 => ?_)
  refine seqR ?_
  refine ltake (v := .pointer (some ⟨w.heap.size, 0, none⟩)) (w' := (w.alloc (.cells #[.int .i64 0, .int .i64 0, .int .i64 0, .int .i64 0] 34))) K0 rfl rfl (want_none rfl) (fun ev E => ?_) (fun a1 K1 => ?_)
  · clear E; clear PH KP LH; go_simp
  have LB := (Below.refl w.heap.size w).alloc (Nat.le_refl _) (.cells #[.int .i64 0, .int .i64 0, .int .i64 0, .int .i64 0] 34)
  have PA := (unhide PH).below LB
  have KA := (unhide KP).belowB LB
  have BA := heap_alloc_new w (.cells #[.int .i64 0, .int .i64 0, .int .i64 0, .int .i64 0] 34)
  have bg : g ≠ w.heap.size ∧ p ≠ w.heap.size := ⟨by have := (unhide PH).lt.2; omega, by have := (unhide PH).lt.1; omega⟩
  have bs : w.heap.size ≤ w.heap.size := (unhide KP).size
  clear PH KP LB 
  generalize (w.alloc (.cells #[.int .i64 0, .int .i64 0, .int .i64 0, .int .i64 0] 34)) = Wd6 at *
  obtain ⟨d6, hd⟩ : ∃ z, z = w.heap.size := ⟨_, rfl⟩
  rw [← hd] at BA bg K1 
  have bs2 : w.heap.size ≤ d6 := by rw [hd]; exact bs
  clear hd bs
  have PH := hide PA
  have KP := hide KA
  have Bd6 := hide BA
  have Nd6 := hide (And.intro bg.1 (And.intro bg.2 bs2))
  clear PA KA BA bg bs2
  refine lac K1 rfl rfl (want_none rfl) rfl (fun a2 K2 => ?_)
  clear K1
  refine nilN ?_
  refine seqR ?_
  refine lmv K2 rfl rfl (want_none rfl) rfl rfl (fun a3 K3 => ?_)
  clear K2
  refine lmv K3 rfl rfl (want_none rfl) rfl rfl (fun a4 K4 => ?_)
  clear K3
  refine lcall (f := 39) (args := #[.pointer (some ⟨p, 0, none⟩), .int .i64 x]) K4 rfl rfl (want_none rfl) (fun ev E => ?_) (rootAll (unhide PH) (unhide LH) x) (fun e W5 hR => ?_)
  · have EF := E.func; have E11 := E.tmp 11 _ rfl; have E12 := E.tmp 12 _ rfl; clear E; clear PH KP LH Bd6 Nd6; go_simp
  obtain ⟨rfl, Q1, S1, G1, P1, L1⟩ := hR
  have Xd6 := hide ((Q1.block d6 (blk_lt (unhide Bd6)) (by simp; exact Ne.symm (unhide Nd6).1)).trans (unhide Bd6))
  have Q2 := hide ((unhide KP).tr Q1)
  clear PH KP Q1 Bd6
  have PH := hide P1
  have KP := Q2
  clear Q2 P1
  have Bd6 := Xd6
  clear Xd6
  refine ⟨_, rfl, fun a6 K6 => ?_⟩
  clear K4
  refine las K6 rfl rfl (want_none rfl) rfl rfl (fun a7 K7 => ?_)
  clear K6
  refine nilN ?_
  refine seqR ?_
  refine lmv K7 rfl rfl (want_none rfl) rfl rfl (fun a8 K8 => ?_)
  clear K7
  refine lmv K8 rfl rfl (want_none rfl) rfl rfl (fun a9 K9 => ?_)
  clear K8
  refine lmv K9 rfl rfl (want_none rfl) rfl rfl (fun a10 K10 => ?_)
  clear K9
  refine lcall (f := 64) (args := #[.pointer (some ⟨p, 0, none⟩), .int .i64 x, .int .i64 y]) K10 rfl rfl (want_none rfl) (fun ev E => ?_) (wayN (unhide PH) L1 hs) (fun e W11 hR => ?_)
  · have EF := E.func; have E14 := E.tmp 14 _ rfl; have E15 := E.tmp 15 _ rfl; have E16 := E.tmp 16 _ rfl; clear E; clear PH KP LH Bd6 Nd6 L1; go_simp
  obtain ⟨rfl, Q1, S2, G2, P1, L2⟩ := hR
  have Xd6 := hide ((Q1.block d6 (blk_lt (unhide Bd6)) (by simp; exact Ne.symm (unhide Nd6).1)).trans (unhide Bd6))
  have Q2 := hide ((unhide KP).tr Q1)
  clear PH KP Q1 Bd6
  have PH := hide P1
  have KP := Q2
  clear Q2 P1
  have Bd6 := Xd6
  clear Xd6
  refine ⟨_, rfl, fun a12 K12 => ?_⟩
  clear K10
  refine las K12 rfl rfl (want_none rfl) rfl rfl (fun a13 K13 => ?_)
  clear K12
  refine nilN ?_
  refine wp_seq ?_
  refine seqR ?_
  refine lmv K13 rfl rfl (want_none rfl) rfl rfl (fun a14 K14 => ?_)
  clear K13
  refine ltake (v := .bool true) (w' := W11) K14 rfl rfl (want_none rfl) (fun ev E => ?_) (fun a15 K15 => ?_)
  · have EC := E.const; have E18 := E.tmp 18 _ rfl; clear E; clear PH KP LH Bd6 Nd6 L1 L2; go_simp
  clear K14
  refine nilN ?_
  refine knCond (b := true) K15 rfl ?_
  refine seqR ?_
  refine ltake (v := .agg #[.int .i64 0, .int .i64 0, .int .i64 0, .int .i64 0]) (w' := W11) K15 rfl rfl (want_none rfl) (fun ev E => ?_) (fun a16 K16 => ?_)
  · clear E; clear PH KP LH Bd6 Nd6 L1 L2; go_simp
  clear K15
  have bb := unhide Bd6
  have cA : ∀ k, k < 4 → W11.cell? ⟨d6, k, none⟩ = (#[.int .i64 0, .int .i64 0, .int .i64 0, .int .i64 0] : Array Value)[k]? ∧ W11.frozen? ⟨d6, k, none⟩ = false := fun k hk => by
    constructor
    · simp [World.cell?, bb]
    · simp [World.frozen?, bb]
  have s0 := (cA 0 (by omega)).1; have f0 := (cA 0 (by omega)).2
  have s1 := (cA 1 (by omega)).1; have f1 := (cA 1 (by omega)).2
  have s2 := (cA 2 (by omega)).1; have f2 := (cA 2 (by omega)).2
  have s3 := (cA 3 (by omega)).1; have f3 := (cA 3 (by omega)).2
  simp only [List.getElem?_toArray, List.getElem?_cons_succ, List.getElem?_cons_zero] at s0 s1 s2 s3
  clear cA bb
  refine lstore (w' := ((((W11.setCell ⟨d6, 0, none⟩ (.int .i64 0)).setCell ⟨d6, 1, none⟩ (.int .i64 0)).setCell ⟨d6, 2, none⟩ (.int .i64 0)).setCell ⟨d6, 3, none⟩ (.int .i64 0))) K16 rfl (want_none rfl) (fun ev E => ?_) ?_
  · have E6 := E.tmp 6 _ rfl; have E20 := E.tmp 20 _ rfl; clear E; clear PH KP LH Bd6 Nd6 L1 L2; go_simp
  clear s0 s1 s2 s3 f0 f1 f2 f3
  have b0 := heap_setCell_same W11 d6 0 _ _ (.int .i64 0) (unhide Bd6)
  have b1 := heap_setCell_same (W11.setCell ⟨d6, 0, none⟩ (.int .i64 0)) d6 1 _ _ (.int .i64 0) b0
  have b2 := heap_setCell_same ((W11.setCell ⟨d6, 0, none⟩ (.int .i64 0)).setCell ⟨d6, 1, none⟩ (.int .i64 0)) d6 2 _ _ (.int .i64 0) b1
  have b3 := heap_setCell_same (((W11.setCell ⟨d6, 0, none⟩ (.int .i64 0)).setCell ⟨d6, 1, none⟩ (.int .i64 0)).setCell ⟨d6, 2, none⟩ (.int .i64 0)) d6 3 _ _ (.int .i64 0) b2
  have KB : Keep [d6] W11 ((((W11.setCell ⟨d6, 0, none⟩ (.int .i64 0)).setCell ⟨d6, 1, none⟩ (.int .i64 0)).setCell ⟨d6, 2, none⟩ (.int .i64 0)).setCell ⟨d6, 3, none⟩ (.int .i64 0)) := (((((Keep.refl [d6] W11).cellB (0) (.int .i64 0)).cellB (1) (.int .i64 0)).cellB (2) (.int .i64 0)).cellB (3) (.int .i64 0))
  have PB1 := (unhide PH).keep KB (by simp; exact (unhide Nd6).2.1) (by simp; exact (unhide Nd6).1)
  have KB1 : Keep [g] w ((((W11.setCell ⟨d6, 0, none⟩ (.int .i64 0)).setCell ⟨d6, 1, none⟩ (.int .i64 0)).setCell ⟨d6, 2, none⟩ (.int .i64 0)).setCell ⟨d6, 3, none⟩ (.int .i64 0)) := (unhide KP).trans KB (fun i hi => by simp at hi; right; rw [hi]; exact (unhide Nd6).2.2)
  have bN : ((((W11.setCell ⟨d6, 0, none⟩ (.int .i64 0)).setCell ⟨d6, 1, none⟩ (.int .i64 0)).setCell ⟨d6, 2, none⟩ (.int .i64 0)).setCell ⟨d6, 3, none⟩ (.int .i64 0)).heap[d6]? = some (.cells #[.int .i64 0, .int .i64 0, .int .i64 0, .int .i64 0] 34 (0, 0)) := by rw [b3]; simp
  clear PH KP KB b0 b1 b2 b3 Bd6 
  generalize ((((W11.setCell ⟨d6, 0, none⟩ (.int .i64 0)).setCell ⟨d6, 1, none⟩ (.int .i64 0)).setCell ⟨d6, 2, none⟩ (.int .i64 0)).setCell ⟨d6, 3, none⟩ (.int .i64 0)) = Vd6z at *
  have PH := hide PB1
  have KP := hide KB1
  have Bd6 := hide bN
  clear PB1 KB1 bN
  refine lac K16 rfl rfl (want_none rfl) rfl (fun a18 K18 => ?_)
  clear K16
  refine nilN ?_
  refine wp_ret ?_
  refine thenRet ?_
  have bb := unhide Bd6
  have q0 : Vd6z.cell? ⟨d6, 0, none⟩ = some (.int .i64 0) := by simp [World.cell?, bb]
  have q1 : Vd6z.cell? ⟨d6, 1, none⟩ = some (.int .i64 0) := by simp [World.cell?, bb]
  have q2 : Vd6z.cell? ⟨d6, 2, none⟩ = some (.int .i64 0) := by simp [World.cell?, bb]
  have q3 : Vd6z.cell? ⟨d6, 3, none⟩ = some (.int .i64 0) := by simp [World.cell?, bb]
  refine bodyPost_ret (v := .tuple #[.agg #[.int .i64 0, .int .i64 0, .int .i64 0, .int .i64 0], .bool false]) ?_ K18.defers ⟨rfl, unhide KP, S2, G2, unhide PH, L2⟩
  have e6 := K18.has 6 _ rfl
  have e7 := K18.has 7 _ rfl
  clear bb
  simp [results, Try.results31, go_sem, e6, e7, q0, q1, q2, q3]
end Go.Proofs.Ytjnkgakajenoaaa
/- What the calls answer of no forest. -/

namespace Go.Proofs.Ytjnkgakajenoaaa
open Go.RowKit
set_option linter.unusedVariables false
set_option linter.unusedSimpArgs false

set_option maxHeartbeats 800000 in
theorem find_nil (x : Int) (w : World) : Calls Try.prog 58 #[.pointer none, .int .i64 x] w fun e w' => e = .returned (.int .i64 0) ∧ w = w' := by
  go_enter Try.func58, Try.ntmps58
  go_wp2
  go_ret
  exact ⟨rfl, rfl⟩
set_option maxHeartbeats 800000 in
theorem has_nil (x : Int) (w : World) : Calls Try.prog 37 #[.pointer none, .int .i64 x] w fun e w' => e = .returned (.bool false) ∧ w = w' := by
  go_enter Try.func37, Try.ntmps37
  go_wp2_with (first | (go_at_call 58; refine (find_nil _ _).mono ?_; rintro e w1 ⟨rfl, rfl⟩))
  go_ret
  exact ⟨rfl, rfl⟩
set_option maxHeartbeats 800000 in
theorem root_nil (x : Int) (w : World) : Calls Try.prog 39 #[.pointer none, .int .i64 x] w fun e w' => e = .returned (.int .i64 (-1)) ∧ w = w' := by
  go_enter Try.func39, Try.ntmps39
  go_wp2_with (first | (go_at_call 58; refine (find_nil _ _).mono ?_; rintro e w1 ⟨rfl, rfl⟩))
  go_ret
  exact ⟨rfl, rfl⟩
set_option maxHeartbeats 800000 in
theorem parent_nil (x : Int) (w : World) : Calls Try.prog 41 #[.pointer none, .int .i64 x] w fun e w' => e = .returned (.int .i64 (-1)) ∧ w = w' := by
  go_enter Try.func41, Try.ntmps41
  go_wp2_with (first | (go_at_call 58; refine (find_nil _ _).mono ?_; rintro e w1 ⟨rfl, rfl⟩))
  go_ret
  exact ⟨rfl, rfl⟩
set_option maxHeartbeats 800000 in
theorem same_nil (x y : Int) (w : World) : Calls Try.prog 43 #[.pointer none, .int .i64 x, .int .i64 y] w fun e w' => e = .returned (.bool false) ∧ w = w' := by
  go_enter Try.func43, Try.ntmps43
  go_wp2_with (first | (go_at_call 37; refine (has_nil _ _).mono ?_; rintro e w1 ⟨rfl, rfl⟩))
  go_ret
  exact ⟨rfl, rfl⟩
set_option maxHeartbeats 800000 in
theorem lca_nil (x y : Int) (w : World) : Calls Try.prog 45 #[.pointer none, .int .i64 x, .int .i64 y] w fun e w' => e = .returned (.int .i64 (-1)) ∧ w = w' := by
  go_enter Try.func45, Try.ntmps45
  go_wp2_with (first | (go_at_call 43; refine (same_nil _ _ _).mono ?_; rintro e w1 ⟨rfl, rfl⟩))
  go_ret
  exact ⟨rfl, rfl⟩
set_option maxHeartbeats 800000 in
theorem size_nil (x : Int) (w : World) : Calls Try.prog 47 #[.pointer none, .int .i64 x] w fun e w' => e = .returned (.int .i64 0) ∧ w = w' := by
  go_enter Try.func47, Try.ntmps47
  go_wp2_with (first | (go_at_call 58; refine (find_nil _ _).mono ?_; rintro e w1 ⟨rfl, rfl⟩))
  go_ret
  exact ⟨rfl, rfl⟩
set_option maxHeartbeats 800000 in
theorem sub_nil (x : Int) (w : World) : Calls Try.prog 33 #[.pointer none, .int .i64 x] w fun e w' => e = .returned (.tuple #[.int .i64 0, .int .i64 0, .bool false]) ∧ w = w' := by
  go_enter Try.func33, Try.ntmps33
  go_wp2_with (first | (go_at_call 58; refine (find_nil _ _).mono ?_; rintro e w1 ⟨rfl, rfl⟩))
  refine bodyPost_ret (v := .tuple #[.int .i64 0, .int .i64 0, .bool false]) (by simp [results, Try.results33, go_sem]) rfl ⟨rfl, rfl⟩
set_option maxHeartbeats 800000 in
theorem add_nil (x y : Int) (w : World) : Calls Try.prog 17 #[.pointer none, .int .i64 x, .int .i64 y] w fun e w' => e = .returned (.bool false) ∧ w = w' := by
  go_enter Try.func17, Try.ntmps17
  go_wp2
  go_ret
  exact ⟨rfl, rfl⟩
set_option maxHeartbeats 800000 in
theorem drop_nil (x : Int) (w : World) : Calls Try.prog 19 #[.pointer none, .int .i64 x] w fun e w' => e = .returned (.bool false) ∧ w = w' := by
  go_enter Try.func19, Try.ntmps19
  go_wp2_with (first | (go_at_call 47; refine (size_nil _ _).mono ?_; rintro e w1 ⟨rfl, rfl⟩))
  go_ret
  exact ⟨rfl, rfl⟩
set_option maxHeartbeats 800000 in
theorem link_nil (x y : Int) (w : World) : Calls Try.prog 21 #[.pointer none, .int .i64 x, .int .i64 y] w fun e w' => e = .returned (.bool false) ∧ w = w' := by
  go_enter Try.func21, Try.ntmps21
  go_wp2_with (first | (go_at_call 37; refine (has_nil _ _).mono ?_; rintro e w1 ⟨rfl, rfl⟩))
  go_ret
  exact ⟨rfl, rfl⟩
set_option maxHeartbeats 800000 in
theorem cut_nil (x : Int) (w : World) : Calls Try.prog 23 #[.pointer none, .int .i64 x] w fun e w' => e = .returned (.bool false) ∧ w = w' := by
  go_enter Try.func23, Try.ntmps23
  go_wp2_with (first | (go_at_call 58; refine (find_nil _ _).mono ?_; rintro e w1 ⟨rfl, rfl⟩))
  go_ret
  exact ⟨rfl, rfl⟩
set_option maxHeartbeats 800000 in
theorem evert_nil (x : Int) (w : World) : Calls Try.prog 25 #[.pointer none, .int .i64 x] w fun e w' => e = .returned (.bool false) ∧ w = w' := by
  go_enter Try.func25, Try.ntmps25
  go_wp2_with (first | (go_at_call 58; refine (find_nil _ _).mono ?_; rintro e w1 ⟨rfl, rfl⟩))
  go_ret
  exact ⟨rfl, rfl⟩
set_option maxHeartbeats 800000 in
theorem get_nil (x : Int) (w : World) : Calls Try.prog 35 #[.pointer none, .int .i64 x] w fun e w' => e = .returned (.tuple #[.int .i64 0, .bool false]) ∧ w = w' := by
  go_enter Try.func35, Try.ntmps35
  go_wp2_with (first | (go_at_call 58; refine (find_nil _ _).mono ?_; rintro e w1 ⟨rfl, rfl⟩))
  refine bodyPost_ret (v := .tuple #[.int .i64 0, .bool false]) (by simp [results, Try.results35, go_sem]) rfl ⟨rfl, rfl⟩
set_option maxHeartbeats 800000 in
theorem set_nil (x y : Int) (w : World) : Calls Try.prog 27 #[.pointer none, .int .i64 x, .int .i64 y] w fun e w' => e = .returned (.bool false) ∧ w = w' := by
  go_enter Try.func27, Try.ntmps27
  go_wp2_with (first | (go_at_call 58; refine (find_nil _ _).mono ?_; rintro e w1 ⟨rfl, rfl⟩))
  go_ret
  exact ⟨rfl, rfl⟩
set_option maxHeartbeats 800000 in
theorem check_nil (w : World) : Calls Try.prog 49 #[.pointer none] w fun e w' => e = .returned (.bool false) ∧ w = w' := by
  go_enter Try.func49, Try.ntmps49
  go_wp2
  go_ret
  exact ⟨rfl, rfl⟩
end Go.Proofs.Ytjnkgakajenoaaa
/- The program's forest as one plain forest: what each call answers, and what it leaves (all but Check). -/

namespace Go.Proofs.Ytjnkgakajenoaaa
open Go.RowKit Go.Arb
set_option linter.unusedVariables false
set_option linter.unusedSimpArgs false

def Tr.linkB (T : Tr) (c p : Int) : Bool := (T.hasI c && (T.par c.toNat == -1)) && T.hasI p && (T.rootI p != c)
def Tr.addB (T : Tr) (v w : Int) : Bool := decide (0 ≤ v) && decide (v < (T.n : Int)) && !T.hasI v && fitB w
def Tr.addI (T : Tr) (v w : Int) : Tr := if T.addB v w then T.add v.toNat w else T
def Tr.linkI (T : Tr) (c p : Int) : Tr := if T.linkB c p then T.link c.toNat p.toNat else T
def Tr.cutB (T : Tr) (c : Int) : Bool := T.parI c != -1
def Tr.cutI (T : Tr) (c : Int) : Tr := if T.cutB c then T.cut c.toNat else T
def Tr.evertI (T : Tr) (v : Int) : Tr := if T.hasI v then T.evert v.toNat else T
def Tr.setI (T : Tr) (v w : Int) : Tr := if T.hasI v && fitB w then T.set v.toNat w else T

/-- The program's forest, in the blocks ks. -/
def At (w : World) (p : Nat) (T : Tr) (ks : List Nat) : Prop := ∃ g n cap S G, Pool w p g n cap T.n S ∧ Lc S n T G ∧ ks = [p, g]
section
variable {w w' : World} {p : Nat} {T T1 : Tr} {ks js : List Nat}
theorem At.lt (h : At w p T ks) : ∀ k ∈ ks, k < w.heap.size := by
  obtain ⟨g, n, cap, S, G, h1, h2, rfl⟩ := h
  have := h1.lt
  intro k hk; simp at hk; rcases hk with rfl | rfl <;> omega
theorem At.keep (h : At w p T ks) (hk : Keep js w w') (ho : Off ks js) : At w' p T ks := by
  obtain ⟨g, n, cap, S, G, h1, h2, rfl⟩ := h
  exact ⟨g, n, cap, S, G, h1.keep hk (ho p (by simp)) (ho g (by simp)), h2, rfl⟩
theorem At.below (h : At w p T ks) (hb : Below w.heap.size w w') : At w' p T ks := h.keep (Keep.ofBelow hb []) (fun _ _ => by simp)
theorem At.wf (h : At w p T ks) : T.Wf := by obtain ⟨g, n, cap, S, G, h1, h2, rfl⟩ := h; exact h2.wf
theorem At.fit (h : At w p T ks) : T.Fit := by obtain ⟨g, n, cap, S, G, h1, h2, rfl⟩ := h; exact h2.ft
theorem At.same (h : At w p T ks) : ∃ ks', At w p T ks' ∧ Keep ks w w ∧ Grew w ks ks' := ⟨ks, h, Keep.refl _ _, Grew.refl _ _⟩
/-- What a call that works in the slots alone leaves. -/
theorem At.of {g n cap : Nat} {S1 : Ss} {G1 : Gh} (hn : T1.n = T.n) (hk : Keep [g] w w') (hp : Pool w' p g n cap T.n S1) (hl : Lc S1 n T1 G1) : ∃ ks', At w' p T1 ks' ∧ Keep [p, g] w w' ∧ Grew w [p, g] ks' :=
  ⟨[p, g], ⟨g, n, cap, S1, G1, by rw [hn]; exact hp, hl, rfl⟩, hk.mono (fun k hk => .inl (by simp at hk ⊢; exact .inr hk)), Grew.refl _ _⟩
theorem aNew (n : Nat) (w : World) (h1 : n ≤ 1048576) :
    Calls Try.prog 14 #[.int .i64 (n : Int)] w fun e w' => ∃ p ks, e = .returned (.pointer (some ⟨p, 0, none⟩)) ∧ At w' p (Tr.new n) ks ∧ Below w.heap.size w w' ∧ ∀ k ∈ ks, w.heap.size ≤ k := by
  refine (new_any n w h1).mono ?_
  rintro e w' ⟨p, g, rfl, h2, h3, h4, h5⟩
  exact ⟨p, _, rfl, ⟨g, 1, 1, _, _, h2, Lc.new h1, rfl⟩, h3, fun k hk => by simp at hk; rcases hk with rfl | rfl <;> assumption⟩
theorem aHas (x : Int) (h : At w p T ks) : Calls Try.prog 37 #[.pointer (some ⟨p, 0, none⟩), .int .i64 x] w fun e w' => e = .returned (.bool (T.hasI x)) ∧ ∃ ks', At w' p T ks' ∧ Keep ks w w' ∧ Grew w ks ks' := by
  obtain ⟨g, n, cap, S, G, h1, h2, rfl⟩ := h
  rcases hasI_cases T x with ⟨i, rfl, hi, hx⟩ | hx
  · refine (hasY h1 h2 hi rfl).mono ?_
    rintro e w' ⟨rfl, q1, q2⟩; exact ⟨by rw [hx], At.of rfl q1 q2 h2⟩
  · refine (hasN h1 h2 hx).mono ?_
    rintro e w' ⟨rfl, q1, q2⟩; exact ⟨by rw [hx], At.of rfl q1 q2 h2⟩
theorem aRoot (x : Int) (h : At w p T ks) : Calls Try.prog 39 #[.pointer (some ⟨p, 0, none⟩), .int .i64 x] w fun e w' => e = .returned (.int .i64 (T.rootI x)) ∧ ∃ ks', At w' p T ks' ∧ Keep ks w w' ∧ Grew w ks ks' := by
  obtain ⟨g, n, cap, S, G, h1, h2, rfl⟩ := h
  refine (rootAll h1 h2 x).mono ?_
  rintro e w' ⟨rfl, q1, S1, G1, q2, q3⟩; exact ⟨rfl, At.of rfl q1 q2 q3⟩
theorem aParent (x : Int) (h : At w p T ks) : Calls Try.prog 41 #[.pointer (some ⟨p, 0, none⟩), .int .i64 x] w fun e w' => e = .returned (.int .i64 (T.parI x)) ∧ ∃ ks', At w' p T ks' ∧ Keep ks w w' ∧ Grew w ks ks' := by
  obtain ⟨g, n, cap, S, G, h1, h2, rfl⟩ := h
  rcases hasI_cases T x with ⟨i, rfl, hi, hx⟩ | hx
  · have hp := ps_par hi h2.wf
    rw [Nat.add_sub_cancel] at hp
    by_cases e0 : ps T (i + 1) = 0
    · refine (parentY0 h1 h2 hi rfl e0).mono ?_
      rintro e w' ⟨rfl, q1, S1, G1, q2, q3⟩
      exact ⟨by rw [Tr.parI, if_pos hx, Int.toNat_natCast, hp, e0]; rfl, At.of rfl q1 q2 q3⟩
    · refine (parentY1 h1 h2 hi rfl e0).mono ?_
      rintro e w' ⟨rfl, q1, S1, G1, q2, q3⟩
      exact ⟨by rw [Tr.parI, if_pos hx, Int.toNat_natCast, hp], At.of rfl q1 q2 q3⟩
  · refine (parentN h1 h2 hx).mono ?_
    rintro e w' ⟨rfl, q1, q2⟩; exact ⟨by rw [Tr.parI, hx]; rfl, At.of rfl q1 q2 h2⟩
theorem aSame (x y : Int) (h : At w p T ks) : Calls Try.prog 43 #[.pointer (some ⟨p, 0, none⟩), .int .i64 x, .int .i64 y] w fun e w' => e = .returned (.bool (T.sameI x y)) ∧ ∃ ks', At w' p T ks' ∧ Keep ks w w' ∧ Grew w ks ks' := by
  obtain ⟨g, n, cap, S, G, h1, h2, rfl⟩ := h
  refine (sameAll h1 h2 x y).mono ?_
  rintro e w' ⟨rfl, q1, S1, G1, q2, q3⟩; exact ⟨rfl, At.of rfl q1 q2 q3⟩
theorem lcaI_no {T : Tr} (W : T.Wf) {x y : Int} (hs : T.sameI x y = false) : T.lcaI x y = -1 := lca_none (W.same_false hs)
theorem same_there {T : Tr} (W : T.Wf) {x y : Int} (hs : T.sameI x y = true) : ∃ i j : Nat, x = i ∧ y = j ∧ Th T (i + 1) ∧ Th T (j + 1) := by
  obtain ⟨i, j, rfl, rfl, hi, hj, _⟩ := W.same_true hs
  exact ⟨i, j, rfl, rfl, ⟨by omega, by simpa using hi⟩, ⟨by omega, by simpa using hj⟩⟩
theorem aLca (x y : Int) (h : At w p T ks) : Calls Try.prog 45 #[.pointer (some ⟨p, 0, none⟩), .int .i64 x, .int .i64 y] w fun e w' => e = .returned (.int .i64 (T.lcaI x y)) ∧ ∃ ks', At w' p T ks' ∧ Keep ks w w' ∧ Grew w ks ks' := by
  obtain ⟨g, n, cap, S, G, h1, h2, rfl⟩ := h
  cases hs : T.sameI x y
  · refine (lcaN h1 h2 hs).mono ?_
    rintro e w' ⟨rfl, q1, S1, G1, q2, q3⟩; exact ⟨by rw [lcaI_no h2.wf hs], At.of rfl q1 q2 q3⟩
  · obtain ⟨i, j, rfl, rfl, hi, hj⟩ := same_there h2.wf hs
    refine (lcaY h1 h2 hi rfl hj rfl hs).mono ?_
    rintro e w' ⟨rfl, q1, S1, G1, q2, q3⟩; exact ⟨rfl, At.of rfl q1 q2 q3⟩
theorem aGet (x : Int) (h : At w p T ks) : Calls Try.prog 35 #[.pointer (some ⟨p, 0, none⟩), .int .i64 x] w fun e w' => e = .returned (.tuple #[.int .i64 (T.getI x), .bool (T.hasI x)]) ∧ ∃ ks', At w' p T ks' ∧ Keep ks w w' ∧ Grew w ks ks' := by
  obtain ⟨g, n, cap, S, G, h1, h2, rfl⟩ := h
  rcases hasI_cases T x with ⟨i, rfl, hi, hx⟩ | hx
  · refine (getY h1 h2 hi rfl).mono ?_
    rintro e w' ⟨rfl, q1, S1, G1, q2, q3⟩; exact ⟨by rw [Tr.getI, hx, if_pos rfl, Int.toNat_natCast], At.of rfl q1 q2 q3⟩
  · refine (getN h1 h2 hx).mono ?_
    rintro e w' ⟨rfl, q1, q2⟩; exact ⟨by rw [Tr.getI, hx]; rfl, At.of rfl q1 q2 h2⟩
theorem aSub (x : Int) (h : At w p T ks) : Calls Try.prog 33 #[.pointer (some ⟨p, 0, none⟩), .int .i64 x] w fun e w' => e = .returned (.tuple #[.int .i64 (T.subI x).c, .int .i64 (T.subI x).s, .bool (T.hasI x)]) ∧ ∃ ks', At w' p T ks' ∧ Keep ks w w' ∧ Grew w ks ks' := by
  obtain ⟨g, n, cap, S, G, h1, h2, rfl⟩ := h
  rcases hasI_cases T x with ⟨i, rfl, hi, hx⟩ | hx
  · refine (subY h1 h2 hi rfl).mono ?_
    have s := sub_sums T i
    rintro e w' ⟨rfl, q1, S1, G1, q2, q3⟩; exact ⟨by rw [Tr.subI, hx, if_pos rfl, Int.toNat_natCast, s.1, s.2], At.of rfl q1 q2 q3⟩
  · refine (subN h1 h2 hx).mono ?_
    rintro e w' ⟨rfl, q1, q2⟩; exact ⟨by rw [Tr.subI, hx]; rfl, At.of rfl q1 q2 h2⟩
theorem aSize (x : Int) (h : At w p T ks) : Calls Try.prog 47 #[.pointer (some ⟨p, 0, none⟩), .int .i64 x] w fun e w' => e = .returned (.int .i64 (T.sizeI x)) ∧ ∃ ks', At w' p T ks' ∧ Keep ks w w' ∧ Grew w ks ks' := by
  obtain ⟨g, n, cap, S, G, h1, h2, rfl⟩ := h
  rcases hasI_cases T x with ⟨i, rfl, hi, hx⟩ | hx
  · refine (sizeY h1 h2 hi rfl).mono ?_
    rintro e w' ⟨r, rfl, hr, hr0, q1, S1, G1, q2, q3⟩
    refine ⟨?_, At.of rfl q1 q2 q3⟩
    have hv : T.par i ≠ -2 := by simpa using hi.2
    have e1 := root_of h2.wf hv hr hr0
    have hrt := U_mem_th h2.wf hr
    have r1 := hrt.1
    have e2 : T.rootI (i : Int) = ((r - 1 : Nat) : Int) := by rw [e1]; omega
    have s := sub_sums T (r - 1)
    rw [Nat.sub_add_cancel r1] at s
    have hh : T.hasI ((r - 1 : Nat) : Int) = true := by rw [T.hasI_nat]; simpa using hrt.2
    rw [Tr.sizeI, e2, Tr.subI, hh, if_pos rfl, Int.toNat_natCast, s.1]
  · refine (sizeN h1 h2 hx).mono ?_
    rintro e w' ⟨rfl, q1, q2⟩
    refine ⟨?_, At.of rfl q1 q2 h2⟩
    rw [Tr.sizeI, Tr.rootI_gone hx, Tr.subI]; rfl
theorem aEvert (x : Int) (h : At w p T ks) : Calls Try.prog 25 #[.pointer (some ⟨p, 0, none⟩), .int .i64 x] w fun e w' => e = .returned (.bool (T.hasI x)) ∧ ∃ ks', At w' p (T.evertI x) ks' ∧ Keep ks w w' ∧ Grew w ks ks' := by
  obtain ⟨g, n, cap, S, G, h1, h2, rfl⟩ := h
  rcases hasI_cases T x with ⟨i, rfl, hi, hx⟩ | hx
  · refine (evertY h1 h2 hi rfl).mono ?_
    rintro e w' ⟨rfl, q1, S1, G1, q2, q3⟩
    exact ⟨by rw [hx], by rw [Tr.evertI, if_pos hx, Int.toNat_natCast]; exact At.of rfl q1 q2 q3⟩
  · refine (evertN h1 h2 hx).mono ?_
    rintro e w' ⟨rfl, q1, q2⟩; exact ⟨by rw [hx], by rw [Tr.evertI, hx]; exact At.of rfl q1 q2 h2⟩
theorem aSet (x y : Int) (h : At w p T ks) : Calls Try.prog 27 #[.pointer (some ⟨p, 0, none⟩), .int .i64 x, .int .i64 y] w fun e w' => e = .returned (.bool (T.hasI x && fitB y)) ∧ ∃ ks', At w' p (T.setI x y) ks' ∧ Keep ks w w' ∧ Grew w ks ks' := by
  obtain ⟨g, n, cap, S, G, h1, h2, rfl⟩ := h
  rcases hasI_cases T x with ⟨i, rfl, hi, hx⟩ | hx
  · cases hf : fitB y
    · refine (setN2 h1 h2 hi rfl hf).mono ?_
      rintro e w' ⟨rfl, q1, q2⟩; exact ⟨by rw [hx]; rfl, by rw [Tr.setI, hx, hf]; exact At.of rfl q1 q2 h2⟩
    · refine (setY h1 h2 hi rfl hf).mono ?_
      rintro e w' ⟨rfl, q1, S1, G1, q2, q3⟩
      exact ⟨by rw [hx]; rfl, by rw [Tr.setI, hx, hf, Int.toNat_natCast]; exact At.of rfl q1 q2 q3⟩
  · refine (setN1 h1 h2 hx).mono ?_
    rintro e w' ⟨rfl, q1, q2⟩; exact ⟨by rw [hx]; rfl, by rw [Tr.setI, hx]; exact At.of rfl q1 q2 h2⟩
theorem aCut (x : Int) (h : At w p T ks) : Calls Try.prog 23 #[.pointer (some ⟨p, 0, none⟩), .int .i64 x] w fun e w' => e = .returned (.bool (T.cutB x)) ∧ ∃ ks', At w' p (T.cutI x) ks' ∧ Keep ks w w' ∧ Grew w ks ks' := by
  obtain ⟨g, n, cap, S, G, h1, h2, rfl⟩ := h
  rcases hasI_cases T x with ⟨i, rfl, hi, hx⟩ | hx
  · have hp := ps_par hi h2.wf
    rw [Nat.add_sub_cancel] at hp
    have hP : T.parI (i : Int) = (ps T (i + 1) : Int) - 1 := by rw [Tr.parI, if_pos hx, Int.toNat_natCast, hp]
    by_cases e0 : ps T (i + 1) = 0
    · have hb : T.cutB (i : Int) = false := by rw [Tr.cutB, hP, e0]; rfl
      refine (cutY0 h1 h2 hi rfl e0).mono ?_
      rintro e w' ⟨rfl, q1, S1, G1, q2, q3⟩
      exact ⟨by rw [hb], by rw [Tr.cutI, hb]; exact At.of rfl q1 q2 q3⟩
    · have hb : T.cutB (i : Int) = true := by rw [Tr.cutB, hP]; simp; omega
      refine (cutY1 h1 h2 hi rfl e0).mono ?_
      rintro e w' ⟨rfl, q1, S1, G1, q2, q3⟩
      exact ⟨by rw [hb], by rw [Tr.cutI, hb, if_pos rfl, Int.toNat_natCast]; exact At.of rfl q1 q2 q3⟩
  · have hb : T.cutB x = false := by rw [Tr.cutB, Tr.parI, hx]; rfl
    refine (cutN h1 h2 hx).mono ?_
    rintro e w' ⟨rfl, q1, q2⟩; exact ⟨by rw [hb], by rw [Tr.cutI, hb]; exact At.of rfl q1 q2 h2⟩
end
end Go.Proofs.Ytjnkgakajenoaaa

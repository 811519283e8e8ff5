/- The program's forest (part 6 of its contracts and the laws' common texts). -/
import Derived.Test.YtjnkgakajenoaaaL5
/- The program's forest: cuts. -/

namespace Go.Proofs.Ytjnkgakajenoaaa
open Go.RowKit Go.Arb
set_option linter.unusedVariables false
set_option linter.unusedSimpArgs false
set_option maxRecDepth 100000

def O60_0_0 : Oper := ⟨some 4, .move (.tmp 0), 23, "path.go:123", #[], none⟩
def O60_0_1 : Oper := ⟨some 5, .nilCheck (.tmp 4), 0, "path.go:123", #[⟨0, .data⟩], none⟩
def O60_0_2 : Oper := ⟨some 6, .fieldAddr 66 (.tmp 5) 1, 0, "path.go:123", #[⟨1, .data⟩], none⟩
def O60_0_3 : Oper := ⟨some 7, .load 64 (.tmp 6), 64, "path.go:123", #[⟨2, .data⟩], none⟩
def O60_0_4 : Oper := ⟨some 8, .move (.tmp 0), 23, "path.go:123", #[], none⟩
def O60_0_5 : Oper := ⟨some 9, .nilCheck (.tmp 8), 0, "path.go:123", #[⟨4, .data⟩], none⟩
def O60_0_6 : Oper := ⟨some 10, .fieldAddr 66 (.tmp 9) 1, 0, "path.go:123", #[⟨5, .data⟩], none⟩
def O60_0_7 : Oper := ⟨some 11, .load 64 (.tmp 10), 64, "path.go:123", #[⟨6, .data⟩], none⟩
def O60_0_8 : Oper := ⟨some 12, .move (.tmp 1), 3, "path.go:123", #[], none⟩
def O60_0_9 : Oper := ⟨some 13, .indexAddr 64 (.tmp 11) (.tmp 12), 0, "path.go:123", #[⟨7, .data⟩, ⟨8, .data⟩], none⟩
def O60_0_10 : Oper := ⟨some 14, .fieldAddr 75 (.tmp 13) 1, 0, "path.go:123", #[⟨9, .data⟩], none⟩
def O60_0_11 : Oper := ⟨some 15, .load 3 (.tmp 14), 3, "path.go:123", #[⟨10, .data⟩], none⟩
def O60_0_12 : Oper := ⟨some 16, .indexAddr 64 (.tmp 7) (.tmp 15), 0, "path.go:123", #[⟨3, .data⟩, ⟨11, .data⟩, ⟨0, .phase⟩, ⟨1, .phase⟩, ⟨2, .phase⟩, ⟨3, .phase⟩, ⟨4, .phase⟩, ⟨5, .phase⟩, ⟨6, .phase⟩, ⟨7, .phase⟩, ⟨8, .phase⟩, ⟨9, .phase⟩, ⟨10, .phase⟩, ⟨11, .phase⟩], none⟩
def O60_0_13 : Oper := ⟨some 17, .fieldAddr 75 (.tmp 16) 0, 0, "path.go:123", #[⟨12, .data⟩, ⟨0, .phase⟩, ⟨1, .phase⟩, ⟨2, .phase⟩, ⟨3, .phase⟩, ⟨4, .phase⟩, ⟨5, .phase⟩, ⟨6, .phase⟩, ⟨7, .phase⟩, ⟨8, .phase⟩, ⟨9, .phase⟩, ⟨10, .phase⟩, ⟨11, .phase⟩], none⟩
def O60_0_14 : Oper := ⟨none, .store 3 (.tmp 17) (.const (.int .i64 0)), 0, "path.go:123", #[⟨13, .data⟩, ⟨0, .phase⟩, ⟨1, .phase⟩, ⟨2, .phase⟩, ⟨3, .phase⟩, ⟨4, .phase⟩, ⟨5, .phase⟩, ⟨6, .phase⟩, ⟨7, .phase⟩, ⟨8, .phase⟩, ⟨9, .phase⟩, ⟨10, .phase⟩, ⟨11, .phase⟩], none⟩
def OPS60_0 : List Oper := [O60_0_0, O60_0_1, O60_0_2, O60_0_3, O60_0_4, O60_0_5, O60_0_6, O60_0_7, O60_0_8, O60_0_9, O60_0_10, O60_0_11, O60_0_12, O60_0_13, O60_0_14]
theorem NS60_0 : Region.noSelect OPS60_0.toArray = true := by kernel_rfl
set_option maxHeartbeats 4000000 in
theorem detach_any {p g n cap room t : Nat} {S : Ss} {w : World} (h : Pool w p g n cap room S) (ht : t < n) (t0 : 0 < t) (hl : (S t).l < n) (hlt : (S t).l ≠ t) (hr : (S t).r < n) (hrt : (S t).r ≠ t) (hb : Gbd (besideS (detach1 S t) t 0 (detach1 S t t).r) t) :
    Calls Try.prog 60 #[.pointer (some ⟨p, 0, none⟩), .int .i64 (t : Int)] w fun e w' => e = .returned (.tuple #[]) ∧ Keep [g] w w' ∧ Pool w' p g n cap room (detachS S t) := by
  have PH := hide h
  have KP := hide (Keep.refl [g] w)
  have HB := hide hb
  clear h hb
  have e1 : (0 : Int) ≤ (t : Int) := by omega
  have e2 : (t : Int) < (n : Int) := by omega
  have e3 : (0 : Int) ≤ ((S t).l : Int) := by omega
  have e4 : ((S t).l : Int) < (n : Int) := by omega
  refine callsK (n := 29) (L := [(0, .pointer (some ⟨p, 0, none⟩)), (1, .int .i64 (t : Int))]) Try.func60 rfl Try.ntmps60 rfl rfl (fun a0 K0 => ?_)
  refine seqN ?_
  have PD := hide (unhide PH).drew
  have KD := hide (unhide KP).drew
  clear PH KP
  have PH := PD
  have KP := KD
  clear PD KD
  show (Code.region 0 OPS60_0.toArray true).wp _ _ _ _
  refine wp_region_still_tail 14 (by kernel_rfl) (by kernel_rfl) ?_
  change wpStill _ _ w.drew _ _ _
  refine stake (o := O60_0_0) (v := .pointer (some ⟨p, 0, none⟩)) K0 rfl rfl (want_none rfl) (fun ev E => ?_) (fun a1 K1 => ?_)
  · have E0 := E.tmp 0 _ rfl; clear E; unfold O60_0_0; clear PH KP HB; go_simp
  refine stake (o := O60_0_1) (v := .pointer (some ⟨p, 0, none⟩)) K1 rfl rfl (want_none rfl) (fun ev E => ?_) (fun a2 K2 => ?_)
  · have E4 := E.tmp 4 _ rfl; clear E; unfold O60_0_1; clear PH KP HB; go_simp
  clear K1
  refine stake (o := O60_0_2) (v := .pointer (some ⟨p, 1, none⟩)) K2 rfl rfl (want_none rfl) (fun ev E => ?_) (fun a3 K3 => ?_)
  · have E5 := E.tmp 5 _ rfl; clear E; unfold O60_0_2; clear PH KP HB; go_simp
  clear K2
  refine stake (o := O60_0_3) (v := .slice (some ⟨g, 0, none⟩) n cap) K3 rfl rfl (want_none rfl) (fun ev E => ?_) (fun a4 K4 => ?_)
  · obtain ⟨c0, c1, _⟩ := (unhide PH).head; have E6 := E.tmp 6 _ rfl; clear E; unfold O60_0_3; clear PH KP HB; go_simp
  clear K3
  refine stake (o := O60_0_4) (v := .pointer (some ⟨p, 0, none⟩)) K4 rfl rfl (want_none rfl) (fun ev E => ?_) (fun a5 K5 => ?_)
  · have E0 := E.tmp 0 _ rfl; clear E; unfold O60_0_4; clear PH KP HB; go_simp
  clear K4
  refine stake (o := O60_0_5) (v := .pointer (some ⟨p, 0, none⟩)) K5 rfl rfl (want_none rfl) (fun ev E => ?_) (fun a6 K6 => ?_)
  · have E8 := E.tmp 8 _ rfl; clear E; unfold O60_0_5; clear PH KP HB; go_simp
  clear K5
  refine stake (o := O60_0_6) (v := .pointer (some ⟨p, 1, none⟩)) K6 rfl rfl (want_none rfl) (fun ev E => ?_) (fun a7 K7 => ?_)
  · have E9 := E.tmp 9 _ rfl; clear E; unfold O60_0_6; clear PH KP HB; go_simp
  clear K6
  refine stake (o := O60_0_7) (v := .slice (some ⟨g, 0, none⟩) n cap) K7 rfl rfl (want_none rfl) (fun ev E => ?_) (fun a8 K8 => ?_)
  · obtain ⟨c0, c1, _⟩ := (unhide PH).head; have E10 := E.tmp 10 _ rfl; clear E; unfold O60_0_7; clear PH KP HB; go_simp
  clear K7
  refine stake (o := O60_0_8) (v := .int .i64 (t : Int)) K8 rfl rfl (want_none rfl) (fun ev E => ?_) (fun a9 K9 => ?_)
  · have E1 := E.tmp 1 _ rfl; clear E; unfold O60_0_8; clear PH KP HB; go_simp
  clear K8
  refine stake (o := O60_0_9) (v := .pointer (some ⟨g, t * 14, none⟩)) K9 rfl rfl (want_none rfl) (fun ev E => ?_) (fun a10 K10 => ?_)
  · have E11 := E.tmp 11 _ rfl; have E12 := E.tmp 12 _ rfl; clear E; unfold O60_0_9; clear PH KP HB; go_simp
  clear K9
  refine stake (o := O60_0_10) (v := .pointer (some ⟨g, t * 14 + 1, none⟩)) K10 rfl rfl (want_none rfl) (fun ev E => ?_) (fun a11 K11 => ?_)
  · have E13 := E.tmp 13 _ rfl; clear E; unfold O60_0_10; clear PH KP HB; go_simp
  clear K10
  refine stake (o := O60_0_11) (v := .int .i64 ((S t).l : Int)) K11 rfl rfl (want_none rfl) (fun ev E => ?_) (fun a12 K12 => ?_)
  · obtain ⟨s0, s1, s2, s3, s4, s5, s6, s7, s8, s9, s10, s11, s12, s13⟩ := (unhide PH).slot (t := t) (by assumption); have E14 := E.tmp 14 _ rfl; clear E; unfold O60_0_11; clear PH KP HB; go_simp
  clear K11
  refine stake (o := O60_0_12) (v := .pointer (some ⟨g, (S t).l * 14, none⟩)) K12 rfl rfl (want_none rfl) (fun ev E => ?_) (fun a13 K13 => ?_)
  · have E7 := E.tmp 7 _ rfl; have E15 := E.tmp 15 _ rfl; clear E; unfold O60_0_12; clear PH KP HB; go_simp
  clear K12
  refine stake (o := O60_0_13) (v := .pointer (some ⟨g, (S t).l * 14, none⟩)) K13 rfl rfl (want_none rfl) (fun ev E => ?_) (fun a14 K14 => ?_)
  · have E16 := E.tmp 16 _ rfl; clear E; unfold O60_0_13; clear PH KP HB; go_simp
  clear K13
  refine wpStill_nil ?_
  change wpList _ _ _ [_] _ w.drew
  generalize w.drew = VV at *
  obtain ⟨sk, _, _, _, _, _, _, _, _, _, _, _, _, _⟩ := (unhide PH).slot (t := (S t).l) hl
  obtain ⟨fk, _, _, _, _, _, _, _, _, _, _, _, _, _⟩ := (unhide PH).soft (t := (S t).l) hl
  refine lstore (w' := VV.setCell ⟨g, (S t).l * 14, none⟩ (.int .i64 0)) K14 rfl (want_none rfl) (fun ev E => ?_) ?_
  · have EC := E.const; have E17 := E.tmp 17 _ rfl; clear E; unfold O60_0_14; clear PH KP HB; go_simp
  clear sk fk
  have P1 := (unhide PH).put (t := (S t).l) hl 0 (by omega) { S (S t).l with up := 0 } (.int .i64 0) rfl
  have Q1 := (unhide KP).cellB ((S t).l * 14) (.int .i64 0)
  clear PH KP
  have PH := hide P1
  have KP := hide Q1
  clear P1 Q1
  generalize VV.setCell ⟨g, (S t).l * 14, none⟩ (.int .i64 0) = W1 at *
  refine wpList_nil ?_
  obtain ⟨S1, hS1⟩ : ∃ z, z = detach1 S t := ⟨_, rfl⟩
  have PP : Pool W1 p g n cap room S1 := by rw [hS1]; exact unhide PH
  clear PH
  have PH := hide PP
  clear PP
  have sr : (S1 t).r = (S t).r := by rw [hS1, detach1, upd_ne _ _ (Ne.symm hlt)]
  have HS1 := hide (And.intro hS1 sr)
  clear hS1 sr
  show Code.wp _ _ _ _ _
  refine wp_region_lit ?_
  refine lmv K14 rfl rfl (want_none rfl) rfl rfl (fun a16 K16 => ?_)
  clear K14
  refine lmv K16 rfl rfl (want_none rfl) rfl rfl (fun a17 K17 => ?_)
  clear K16
  refine lmv K17 rfl rfl (want_none rfl) rfl rfl (fun a18 K18 => ?_)
  clear K17
  refine lnc K18 rfl rfl (want_none rfl) rfl rfl (fun a19 K19 => ?_)
  clear K18
  refine lfa K19 rfl rfl (want_none rfl) rfl rfl FA66_1 (fun a20 K20 => ?_)
  clear K19
  refine ltake (v := .slice (some ⟨g, 0, none⟩) n cap) (w' := W1) K20 rfl rfl (want_none rfl) (fun ev E => ?_) (fun a21 K21 => ?_)
  · obtain ⟨c0, c1, _⟩ := (unhide PH).head; have E22 := E.tmp 22 _ rfl; clear E; clear PH KP HB HS1; go_simp
  clear K20
  refine lmv K21 rfl rfl (want_none rfl) rfl rfl (fun a22 K22 => ?_)
  clear K21
  refine ltake (v := .pointer (some ⟨g, t * 14, none⟩)) (w' := W1) K22 rfl rfl (want_none rfl) (fun ev E => ?_) (fun a23 K23 => ?_)
  · have E23 := E.tmp 23 _ rfl; have E24 := E.tmp 24 _ rfl; clear E; clear PH KP HB HS1; go_simp
  clear K22
  refine lfa K23 rfl rfl (want_none rfl) rfl rfl FA75_2 (fun a24 K24 => ?_)
  clear K23
  refine ltake (v := .int .i64 ((S1 t).r : Int)) (w' := W1) K24 rfl rfl (want_none rfl) (fun ev E => ?_) (fun a25 K25 => ?_)
  · obtain ⟨s0, s1, s2, s3, s4, s5, s6, s7, s8, s9, s10, s11, s12, s13⟩ := (unhide PH).slot (t := t) (by assumption); have E26 := E.tmp 26 _ rfl; clear E; clear PH KP HB HS1; go_simp
  clear K24
  have hd := unhide HB
  refine lcall (f := 81) (args := #[.pointer (some ⟨p, 0, none⟩), .int .i64 (t : Int), .int .i64 0, .int .i64 ((S1 t).r : Int)]) K25 rfl rfl (want_none rfl) (fun ev E => ?_) (hold_any (l := 0) (unhide PH) ht (by omega) (by rw [(unhide HS1).2]; exact hr) (by omega) (by rw [(unhide HS1).2]; exact hrt) (by rw [(unhide HS1).1]; exact unhide HB)) (fun e W26 hR => ?_)
  · have EC := E.const; have EF := E.func; have E18 := E.tmp 18 _ rfl; have E19 := E.tmp 19 _ rfl; have E27 := E.tmp 27 _ rfl; clear E; clear PH KP HB HS1; go_simp
  obtain ⟨rfl, P1, Q1⟩ := hR
  have Q2 := hide ((unhide KP).tr Q1)
  clear PH KP Q1
  have PH := hide P1
  have KP := Q2
  clear Q2 P1
  refine ⟨_, rfl, fun a27 K27 => ?_⟩
  clear K25
  refine wpList_nil ?_
  refine ⟨K27.defers, .tuple #[], results_none rfl _ _ _, rfl, unhide KP, ?_⟩
  have PQ := unhide PH
  rw [(unhide HS1).1] at PQ; exact PQ
theorem detachL {p g n cap room t : Nat} {T : Tr} {S : Ss} {G : Gh} {w : World} (h : Pool w p g n cap room S) (E : Pth S n T G t) (l0 : (S t).l ≠ 0) :
    Calls Try.prog 60 #[.pointer (some ⟨p, 0, none⟩), .int .i64 (t : Int)] w fun e w' => e = .returned (.tuple #[]) ∧ Keep [g] w w' ∧ ∃ G1, Pool w' p g n cap room (detachS S t) ∧ Lc (detachS S t) n (T.cut (t - 1)) G1 := by
  have L := E.lc
  obtain ⟨k1, k2, k3, k4⟩ := L.kids_lt E.th
  have t0 := E.th.1
  have dt : detach1 S t t = S t := upd_ne _ _ (Ne.symm k3)
  have f : ∀ x, (detach1 S t x).sm = (S x).sm ∧ (detach1 S t x).hu = (S x).hu ∧ (detach1 S t x).hg = (S x).hg ∧ (detach1 S t x).wt = (S x).wt := fun x => by
    unfold detach1
    by_cases e : x = (S t).l
    · subst e; rw [upd_same]; exact ⟨rfl, rfl, rfl, rfl⟩
    · rw [upd_ne _ _ e]; exact ⟨rfl, rfl, rfl, rfl⟩
  have B0 : ∀ x, Bz (detach1 S t x) := fun x => (L.bz x).of (f x).1 (f x).2.1 (f x).2.2.1 (f x).2.2.2
  refine (detach_any h (L.lt t E.th) (by omega) k1 k3 k2 k4 (by rw [dt]; exact gbd_beside (by omega) k4 (B0 0) (B0 _) (B0 t))).mono ?_
  rintro e w' ⟨rfl, q1, q2⟩
  exact ⟨rfl, q1, _, q2, E.detach l0⟩
set_option maxHeartbeats 4000000 in
theorem cutN {p g n cap room : Nat} {T : Tr} {S : Ss} {G : Gh} {w : World} {x : Int} (h : Pool w p g n cap room S) (L : Lc S n T G) (hx : T.hasI x = false) :
    Calls Try.prog 23 #[.pointer (some ⟨p, 0, none⟩), .int .i64 x] w fun e w' => e = .returned (.bool false) ∧ Keep [g] w w' ∧ Pool w' p g n cap room S := by
  have PH := hide h
  have KP := hide (Keep.refl [g] w)
  have LH := hide L
  clear h L
  refine callsK (n := 19) (L := [(0, .pointer (some ⟨p, 0, none⟩)), (1, .int .i64 x)]) Try.func23 rfl Try.ntmps23 rfl rfl (fun a0 K0 => ?_)
  refine seqR ?_
  refine lac K0 rfl rfl (want_none rfl) rfl (fun a1 K1 => ?_)
  refine nilN ?_
  refine seqR ?_
  refine lmv K1 rfl rfl (want_none rfl) rfl rfl (fun a2 K2 => ?_)
  clear K1
  refine lmv K2 rfl rfl (want_none rfl) rfl rfl (fun a3 K3 => ?_)
  clear K2
  refine lcall (f := 58) (args := #[.pointer (some ⟨p, 0, none⟩), .int .i64 x]) K3 rfl rfl (want_none rfl) (fun ev E => ?_) (findN (unhide PH) (unhide LH) hx) (fun e W4 hR => ?_)
  · have EF := E.func; have E6 := E.tmp 6 _ rfl; have E7 := E.tmp 7 _ rfl; clear E; clear PH KP LH; go_simp
  obtain ⟨rfl, Q1, P1⟩ := hR
  have Q2 := hide ((unhide KP).tr Q1)
  clear PH KP Q1
  have PH := hide P1
  have KP := Q2
  clear Q2 P1
  refine ⟨_, rfl, fun a5 K5 => ?_⟩
  clear K3
  refine las K5 rfl rfl (want_none rfl) rfl rfl (fun a6 K6 => ?_)
  clear K5
  refine nilN ?_
  refine wp_seq ?_
  refine seqR ?_
  refine lmv K6 rfl rfl (want_none rfl) rfl rfl (fun a7 K7 => ?_)
  clear K6
  refine ltake (v := .bool true) (w' := W4) K7 rfl rfl (want_none rfl) (fun ev E => ?_) (fun a8 K8 => ?_)
  · have EC := E.const; have E9 := E.tmp 9 _ rfl; clear E; clear PH KP LH; go_simp
  clear K7
  refine lmv K8 rfl rfl (want_none rfl) rfl rfl (fun a9 K9 => ?_)
  clear K8
  refine lskip K9 rfl rfl (want_not K9 rfl rfl rfl (by decide)) (fun a10 K10 => ?_)
  refine lskip K10 rfl rfl (want_not K10 rfl rfl rfl (by decide)) (fun a11 K11 => ?_)
  refine lskip K11 rfl rfl (want_not K11 rfl rfl rfl (by decide)) (fun a12 K12 => ?_)
  refine ltake (v := .bool true) (w' := W4) K12 rfl rfl (want_none rfl) (fun ev E => ?_) (fun a13 K13 => ?_)
  · have EC := E.const; have E11 := E.tmp 11 _ rfl; have E14 := E.tmp 14 _ rfl; clear E; clear PH KP LH; go_simp
  clear K12
  refine nilN ?_
  refine knCond (b := true) K13 rfl ?_
  refine seqR ?_
  refine lac K13 rfl rfl (want_none rfl) rfl (fun a14 K14 => ?_)
  clear K13
  refine nilN ?_
  refine wp_ret ?_
  refine thenRet ?_
  refine bodyPost_ret (v := .bool false) ?_ K14.defers ⟨rfl, unhide KP, unhide PH⟩
  have e4 := K14.has 4 _ rfl
  simp [results, Try.results23, go_sem, e4]
set_option maxHeartbeats 4000000 in
theorem cutY0 {p g n cap room : Nat} {T : Tr} {S : Ss} {G : Gh} {w : World} {i t : Nat} (h : Pool w p g n cap room S) (L : Lc S n T G) (hi : Th T t) (hit : t = i + 1) (hp : ps T t = 0) :
    Calls Try.prog 23 #[.pointer (some ⟨p, 0, none⟩), .int .i64 (i : Int)] w fun e w' => e = .returned (.bool false) ∧ Keep [g] w w' ∧ ∃ S1 G1, Pool w' p g n cap room S1 ∧ Lc S1 n T G1 := by
  have PH := hide h
  have KP := hide (Keep.refl [g] w)
  have LH := hide L
  clear h L
  have lt1 := (unhide LH).lt t hi
  have e1 : (0 : Int) ≤ (t : Int) := by omega
  have e2 : (t : Int) < (n : Int) := by omega
  have t1 := hi.1
  have e5 : ¬ (t : Int) = 0 := by omega
  have e6 : ¬ t = 0 := by omega
  have HT := hide hi
  have HI := hide hit
  have HP := hide hp
  clear hi hit t1 hp
  refine callsK (n := 19) (L := [(0, .pointer (some ⟨p, 0, none⟩)), (1, .int .i64 (i : Int))]) Try.func23 rfl Try.ntmps23 rfl rfl (fun a0 K0 => ?_)
  refine seqR ?_
  refine lac K0 rfl rfl (want_none rfl) rfl (fun a1 K1 => ?_)
  refine nilN ?_
  refine seqR ?_
  refine lmv K1 rfl rfl (want_none rfl) rfl rfl (fun a2 K2 => ?_)
  clear K1
  refine lmv K2 rfl rfl (want_none rfl) rfl rfl (fun a3 K3 => ?_)
  clear K2
  refine lcall (f := 58) (args := #[.pointer (some ⟨p, 0, none⟩), .int .i64 (i : Int)]) K3 rfl rfl (want_none rfl) (fun ev E => ?_) (findY (unhide PH) (unhide LH) (unhide HT) (unhide HI)) (fun e W4 hR => ?_)
  · have EF := E.func; have E6 := E.tmp 6 _ rfl; have E7 := E.tmp 7 _ rfl; clear E; clear PH KP LH HT HI HP; go_simp
  obtain ⟨rfl, Q1, P1⟩ := hR
  have Q2 := hide ((unhide KP).tr Q1)
  clear PH KP Q1
  have PH := hide P1
  have KP := Q2
  clear Q2 P1
  refine ⟨_, rfl, fun a5 K5 => ?_⟩
  clear K3
  refine las K5 rfl rfl (want_none rfl) rfl rfl (fun a6 K6 => ?_)
  clear K5
  refine nilN ?_
  refine wp_seq ?_
  refine seqR ?_
  refine lmv K6 rfl rfl (want_none rfl) rfl rfl (fun a7 K7 => ?_)
  clear K6
  refine ltake (v := .bool false) (w' := W4) K7 rfl rfl (want_none rfl) (fun ev E => ?_) (fun a8 K8 => ?_)
  · have EC := E.const; have E9 := E.tmp 9 _ rfl; clear E; clear PH KP LH HT HI HP; go_simp
  clear K7
  refine lmv K8 rfl rfl (want_none rfl) rfl rfl (fun a9 K9 => ?_)
  clear K8
  refine lmv K9 rfl rfl (want_some K9 rfl rfl rfl) rfl rfl (fun a10 K10 => ?_)
  clear K9
  refine lmv K10 rfl rfl (want_some K10 rfl rfl rfl) rfl rfl (fun a11 K11 => ?_)
  clear K10
  refine lcall (f := 57) (args := #[.pointer (some ⟨p, 0, none⟩), .int .i64 (t : Int)]) K11 rfl rfl (want_some K11 rfl rfl rfl) (fun ev E => ?_) (isRootL (unhide PH) (unhide LH) (unhide HT)) (fun e W12 hR => ?_)
  · have EF := E.func; have E12 := E.tmp 12 _ rfl; have E13 := E.tmp 13 _ rfl; clear E; clear PH KP LH HT HI HP; go_simp
  obtain ⟨Q1, met1, S1, G1, rfl, P1, L1, X1⟩ := hR
  have Q2 := hide ((unhide KP).tr Q1)
  clear PH KP Q1
  have PH := hide P1
  have KP := Q2
  clear Q2 P1
  refine ⟨_, rfl, fun a13 K13 => ?_⟩
  clear K11
  have E1 := X1.pth L1 (unhide HT)
  have hps : ps T t = 0 := unhide HP
  have l0 : ((S1 t).l : Int) = 0 := by
    refine Classical.byContradiction fun e0 => ?_
    have l1 : (S1 t).l ≠ 0 := by omega
    have en := (L1.loc t (unhide HT)).en
    rw [((L1.loc t (unhide HT)).tp X1.top).b] at en
    have q : G1.pn (G1.la (S1 t).l) = t := (en.l1 l1).2
    have := (L1.ps_pn (L1.la_th ((L1.loc t (unhide HT)).kl l1).th) q (by omega)).2
    rw [hps] at this
    have := (L1.la_th ((L1.loc t (unhide HT)).kl l1).th).1
    omega
  clear hps
  rw [show (((S1 t).l : Int) == 0) = true from by rw [l0]; rfl] at K13
  clear l0
  refine ltake (v := .bool true) (w' := W12) K13 rfl rfl (want_none rfl) (fun ev E => ?_) (fun a14 K14 => ?_)
  · have EC := E.const; have E11 := E.tmp 11 _ rfl; have E14 := E.tmp 14 _ rfl; clear E; clear PH KP LH HT HI HP L1 X1 E1; go_simp
  clear K13
  refine nilN ?_
  refine knCond (b := true) K14 rfl ?_
  refine seqR ?_
  refine lac K14 rfl rfl (want_none rfl) rfl (fun a15 K15 => ?_)
  clear K14
  refine nilN ?_
  refine wp_ret ?_
  refine thenRet ?_
  refine bodyPost_ret (v := .bool false) ?_ K15.defers ⟨rfl, unhide KP, S1, G1, unhide PH, L1⟩
  have e4 := K15.has 4 _ rfl
  simp [results, Try.results23, go_sem, e4]
set_option maxHeartbeats 4000000 in
theorem cutY1 {p g n cap room : Nat} {T : Tr} {S : Ss} {G : Gh} {w : World} {i t : Nat} (h : Pool w p g n cap room S) (L : Lc S n T G) (hi : Th T t) (hit : t = i + 1) (hp : ¬ ps T t = 0) :
    Calls Try.prog 23 #[.pointer (some ⟨p, 0, none⟩), .int .i64 (i : Int)] w fun e w' => e = .returned (.bool true) ∧ Keep [g] w w' ∧ ∃ S1 G1, Pool w' p g n cap room S1 ∧ Lc S1 n (T.cut i) G1 := by
  have PH := hide h
  have KP := hide (Keep.refl [g] w)
  have LH := hide L
  clear h L
  have lt1 := (unhide LH).lt t hi
  have e1 : (0 : Int) ≤ (t : Int) := by omega
  have e2 : (t : Int) < (n : Int) := by omega
  have t1 := hi.1
  have e5 : ¬ (t : Int) = 0 := by omega
  have e6 : ¬ t = 0 := by omega
  have HT := hide hi
  have HI := hide hit
  have HP := hide hp
  clear hi hit t1 hp
  refine callsK (n := 19) (L := [(0, .pointer (some ⟨p, 0, none⟩)), (1, .int .i64 (i : Int))]) Try.func23 rfl Try.ntmps23 rfl rfl (fun a0 K0 => ?_)
  refine seqR ?_
  refine lac K0 rfl rfl (want_none rfl) rfl (fun a1 K1 => ?_)
  refine nilN ?_
  refine seqR ?_
  refine lmv K1 rfl rfl (want_none rfl) rfl rfl (fun a2 K2 => ?_)
  clear K1
  refine lmv K2 rfl rfl (want_none rfl) rfl rfl (fun a3 K3 => ?_)
  clear K2
  refine lcall (f := 58) (args := #[.pointer (some ⟨p, 0, none⟩), .int .i64 (i : Int)]) K3 rfl rfl (want_none rfl) (fun ev E => ?_) (findY (unhide PH) (unhide LH) (unhide HT) (unhide HI)) (fun e W4 hR => ?_)
  · have EF := E.func; have E6 := E.tmp 6 _ rfl; have E7 := E.tmp 7 _ rfl; clear E; clear PH KP LH HT HI HP; go_simp
  obtain ⟨rfl, Q1, P1⟩ := hR
  have Q2 := hide ((unhide KP).tr Q1)
  clear PH KP Q1
  have PH := hide P1
  have KP := Q2
  clear Q2 P1
  refine ⟨_, rfl, fun a5 K5 => ?_⟩
  clear K3
  refine las K5 rfl rfl (want_none rfl) rfl rfl (fun a6 K6 => ?_)
  clear K5
  refine nilN ?_
  refine seqN ?_
  refine seqR ?_
  refine lmv K6 rfl rfl (want_none rfl) rfl rfl (fun a7 K7 => ?_)
  clear K6
  refine ltake (v := .bool false) (w' := W4) K7 rfl rfl (want_none rfl) (fun ev E => ?_) (fun a8 K8 => ?_)
  · have EC := E.const; have E9 := E.tmp 9 _ rfl; clear E; clear PH KP LH HT HI HP; go_simp
  clear K7
  refine lmv K8 rfl rfl (want_none rfl) rfl rfl (fun a9 K9 => ?_)
  clear K8
  refine lmv K9 rfl rfl (want_some K9 rfl rfl rfl) rfl rfl (fun a10 K10 => ?_)
  clear K9
  refine lmv K10 rfl rfl (want_some K10 rfl rfl rfl) rfl rfl (fun a11 K11 => ?_)
  clear K10
  refine lcall (f := 57) (args := #[.pointer (some ⟨p, 0, none⟩), .int .i64 (t : Int)]) K11 rfl rfl (want_some K11 rfl rfl rfl) (fun ev E => ?_) (isRootL (unhide PH) (unhide LH) (unhide HT)) (fun e W12 hR => ?_)
  · have EF := E.func; have E12 := E.tmp 12 _ rfl; have E13 := E.tmp 13 _ rfl; clear E; clear PH KP LH HT HI HP; go_simp
  obtain ⟨Q1, met1, S1, G1, rfl, P1, L1, X1⟩ := hR
  have Q2 := hide ((unhide KP).tr Q1)
  clear PH KP Q1
  have PH := hide P1
  have KP := Q2
  clear Q2 P1
  refine ⟨_, rfl, fun a13 K13 => ?_⟩
  clear K11
  have E1 := X1.pth L1 (unhide HT)
  have l0 : ¬ (S1 t).l = 0 := fun e0 => by
    have en := (L1.loc t (unhide HT)).en
    rw [((L1.loc t (unhide HT)).tp X1.top).b] at en
    have q : G1.fi t = t := en.l0 e0
    have := X1.root
    rw [q] at this
    exact unhide HP this
  have l0i : (((S1 t).l : Int) == 0) = false := by simp; omega
  rw [l0i] at K13
  have HL := hide l0
  clear l0 l0i
  refine ltake (v := .bool false) (w' := W12) K13 rfl rfl (want_none rfl) (fun ev E => ?_) (fun a14 K14 => ?_)
  · have EC := E.const; have E11 := E.tmp 11 _ rfl; have E14 := E.tmp 14 _ rfl; clear E; clear PH KP LH HT HI HP L1 X1 E1 HL; go_simp
  clear K13
  refine nilN ?_
  refine knCond (b := false) K14 rfl ?_
  refine wp_skip ?_
  show Code.wp _ _ _ _ _
  refine seqR ?_
  refine lmv K14 rfl rfl (want_none rfl) rfl rfl (fun a15 K15 => ?_)
  clear K14
  refine lmv K15 rfl rfl (want_none rfl) rfl rfl (fun a16 K16 => ?_)
  clear K15
  refine lcall (f := 60) (args := #[.pointer (some ⟨p, 0, none⟩), .int .i64 (t : Int)]) K16 rfl rfl (want_none rfl) (fun ev E => ?_) (detachL (unhide PH) E1 (unhide HL)) (fun e W17 hR => ?_)
  · have EF := E.func; have E16 := E.tmp 16 _ rfl; have E17 := E.tmp 17 _ rfl; clear E; clear PH KP LH HT HI HP L1 X1 E1 HL; go_simp
  obtain ⟨rfl, Q1, G2, P1, L2⟩ := hR
  have Q2 := hide ((unhide KP).tr Q1)
  clear PH KP Q1
  have PH := hide P1
  have KP := Q2
  clear Q2 P1
  refine ⟨_, rfl, fun a18 K18 => ?_⟩
  clear K16
  refine nilN ?_
  refine seqR ?_
  refine lac K18 rfl rfl (want_none rfl) rfl (fun a19 K19 => ?_)
  clear K18
  refine nilN ?_
  refine wp_ret ?_
  have hti : t - 1 = i := by have := unhide HI; omega
  rw [hti] at L2
  refine bodyPost_ret (v := .bool true) ?_ K19.defers ⟨rfl, unhide KP, _, G2, unhide PH, L2⟩
  have e4 := K19.has 4 _ rfl
  simp [results, Try.results23, go_sem, e4]
end Go.Proofs.Ytjnkgakajenoaaa
/- The program's forest: roots, parents, weights, sizes, turns. -/

namespace Go.Proofs.Ytjnkgakajenoaaa
open Go.RowKit Go.Arb
set_option linter.unusedVariables false
set_option linter.unusedSimpArgs false
set_option maxRecDepth 100000

set_option maxHeartbeats 4000000 in
theorem rootN {p g n cap room : Nat} {T : Tr} {S : Ss} {G : Gh} {w : World} {x : Int} (h : Pool w p g n cap room S) (L : Lc S n T G) (hx : T.hasI x = false) :
    Calls Try.prog 39 #[.pointer (some ⟨p, 0, none⟩), .int .i64 x] w fun e w' => e = .returned (.int .i64 (-1)) ∧ Keep [g] w w' ∧ Pool w' p g n cap room S := by
  have PH := hide h
  have KP := hide (Keep.refl [g] w)
  have LH := hide L
  clear h L
  refine callsK (n := 18) (L := [(0, .pointer (some ⟨p, 0, none⟩)), (1, .int .i64 x)]) Try.func39 rfl Try.ntmps39 rfl rfl (fun a0 K0 => ?_)
  refine seqR ?_
  refine lac K0 rfl rfl (want_none rfl) rfl (fun a1 K1 => ?_)
  refine nilN ?_
  refine seqR ?_
  refine lmv K1 rfl rfl (want_none rfl) rfl rfl (fun a2 K2 => ?_)
  clear K1
  refine lmv K2 rfl rfl (want_none rfl) rfl rfl (fun a3 K3 => ?_)
  clear K2
  refine lcall (f := 58) (args := #[.pointer (some ⟨p, 0, none⟩), .int .i64 x]) K3 rfl rfl (want_none rfl) (fun ev E => ?_) (findN (unhide PH) (unhide LH) hx) (fun e W4 hR => ?_)
  · have EF := E.func; have E6 := E.tmp 6 _ rfl; have E7 := E.tmp 7 _ rfl; clear E; clear PH KP LH; go_simp
  obtain ⟨rfl, Q1, P1⟩ := hR
  have Q2 := hide ((unhide KP).tr Q1)
  clear PH KP Q1
  have PH := hide P1
  have KP := Q2
  clear Q2 P1
  refine ⟨_, rfl, fun a5 K5 => ?_⟩
  clear K3
  refine las K5 rfl rfl (want_none rfl) rfl rfl (fun a6 K6 => ?_)
  clear K5
  refine nilN ?_
  refine wp_seq ?_
  refine seqR ?_
  refine lmv K6 rfl rfl (want_none rfl) rfl rfl (fun a7 K7 => ?_)
  clear K6
  refine ltake (v := .bool true) (w' := W4) K7 rfl rfl (want_none rfl) (fun ev E => ?_) (fun a8 K8 => ?_)
  · have EC := E.const; have E9 := E.tmp 9 _ rfl; clear E; clear PH KP LH; go_simp
  clear K7
  refine nilN ?_
  refine knCond (b := true) K8 rfl ?_
  refine seqR ?_
  refine lac K8 rfl rfl (want_none rfl) rfl (fun a9 K9 => ?_)
  clear K8
  refine nilN ?_
  refine wp_ret ?_
  refine thenRet ?_
  refine bodyPost_ret (v := .int .i64 (-1)) ?_ K9.defers ⟨rfl, unhide KP, unhide PH⟩
  have e4 := K9.has 4 _ rfl
  simp [results, Try.results39, go_sem, e4]
set_option maxHeartbeats 4000000 in
theorem rootY {p g n cap room : Nat} {T : Tr} {S : Ss} {G : Gh} {w : World} {i t : Nat} (h : Pool w p g n cap room S) (L : Lc S n T G) (hi : Th T t) (hit : t = i + 1) :
    Calls Try.prog 39 #[.pointer (some ⟨p, 0, none⟩), .int .i64 (i : Int)] w fun e w' => e = .returned (.int .i64 (T.rootI (i : Int))) ∧ Keep [g] w w' ∧ ∃ S1 G1, Pool w' p g n cap room S1 ∧ Lc S1 n T G1 := by
  have PH := hide h
  have KP := hide (Keep.refl [g] w)
  have LH := hide L
  clear h L
  have lt1 := (unhide LH).lt t hi
  have nnn := (unhide LH).nn
  have hTn := (unhide LH).ft.n
  have e1 : (0 : Int) ≤ (t : Int) := by omega
  have e2 : (t : Int) < (n : Int) := by omega
  have t1 := hi.1
  have e5 : ¬ (t : Int) = 0 := by omega
  have e6 : ¬ t = 0 := by omega
  have HT := hide hi
  have HI := hide hit
  clear hi hit t1
  refine callsK (n := 18) (L := [(0, .pointer (some ⟨p, 0, none⟩)), (1, .int .i64 (i : Int))]) Try.func39 rfl Try.ntmps39 rfl rfl (fun a0 K0 => ?_)
  refine seqR ?_
  refine lac K0 rfl rfl (want_none rfl) rfl (fun a1 K1 => ?_)
  refine nilN ?_
  refine seqR ?_
  refine lmv K1 rfl rfl (want_none rfl) rfl rfl (fun a2 K2 => ?_)
  clear K1
  refine lmv K2 rfl rfl (want_none rfl) rfl rfl (fun a3 K3 => ?_)
  clear K2
  refine lcall (f := 58) (args := #[.pointer (some ⟨p, 0, none⟩), .int .i64 (i : Int)]) K3 rfl rfl (want_none rfl) (fun ev E => ?_) (findY (unhide PH) (unhide LH) (unhide HT) (unhide HI)) (fun e W4 hR => ?_)
  · have EF := E.func; have E6 := E.tmp 6 _ rfl; have E7 := E.tmp 7 _ rfl; clear E; clear PH KP LH HT HI; go_simp
  obtain ⟨rfl, Q1, P1⟩ := hR
  have Q2 := hide ((unhide KP).tr Q1)
  clear PH KP Q1
  have PH := hide P1
  have KP := Q2
  clear Q2 P1
  refine ⟨_, rfl, fun a5 K5 => ?_⟩
  clear K3
  refine las K5 rfl rfl (want_none rfl) rfl rfl (fun a6 K6 => ?_)
  clear K5
  refine nilN ?_
  refine seqN ?_
  refine seqR ?_
  refine lmv K6 rfl rfl (want_none rfl) rfl rfl (fun a7 K7 => ?_)
  clear K6
  refine ltake (v := .bool false) (w' := W4) K7 rfl rfl (want_none rfl) (fun ev E => ?_) (fun a8 K8 => ?_)
  · have EC := E.const; have E9 := E.tmp 9 _ rfl; clear E; clear PH KP LH HT HI; go_simp
  clear K7
  refine nilN ?_
  refine knCond (b := false) K8 rfl ?_
  refine wp_skip ?_
  show Code.wp _ _ _ _ _
  refine seqR ?_
  refine lmv K8 rfl rfl (want_none rfl) rfl rfl (fun a9 K9 => ?_)
  clear K8
  refine lmv K9 rfl rfl (want_none rfl) rfl rfl (fun a10 K10 => ?_)
  clear K9
  refine lcall (f := 61) (args := #[.pointer (some ⟨p, 0, none⟩), .int .i64 (t : Int)]) K10 rfl rfl (want_none rfl) (fun ev E => ?_) (exposeL (unhide PH) (unhide LH) (unhide HT)) (fun e W11 hR => ?_)
  · have EF := E.func; have E11 := E.tmp 11 _ rfl; have E12 := E.tmp 12 _ rfl; clear E; clear PH KP LH HT HI; go_simp
  obtain ⟨met1, rfl, Q1, S1, G1, P1, L1, X1⟩ := hR
  have Q2 := hide ((unhide KP).tr Q1)
  clear PH KP Q1
  have PH := hide P1
  have KP := Q2
  clear Q2 P1
  refine ⟨_, rfl, fun a12 K12 => ?_⟩
  clear K10
  refine nilN ?_
  refine seqR ?_
  refine lmv K12 rfl rfl (want_none rfl) rfl rfl (fun a13 K13 => ?_)
  clear K12
  refine lmv K13 rfl rfl (want_none rfl) rfl rfl (fun a14 K14 => ?_)
  clear K13
  have E1 := X1.pth L1 (unhide HT)
  have hb1 := ((L1.loc t (unhide HT)).tp X1.top).b
  have lf1 := L1.lt _ (L1.fi_th (unhide HT))
  have w1 : IntKind.i64.wrap ((G1.fi t : Int) - 1) = (G1.fi t : Int) - 1 := IntWalk.i64_in _ (by omega)
  refine lcall (f := 73) (args := #[.pointer (some ⟨p, 0, none⟩), .int .i64 (t : Int)]) K14 rfl rfl (want_none rfl) (fun ev E => ?_) (firstL (unhide PH) L1 (unhide HT) hb1) (fun e W15 hR => ?_)
  · have EF := E.func; have E14 := E.tmp 14 _ rfl; have E15 := E.tmp 15 _ rfl; clear E; clear PH KP LH HT HI L1 X1 E1 hb1; go_simp
  obtain ⟨rfl, Q1, S2, G2, P1, L2, F2, T2, i2⟩ := hR
  have Q2 := hide ((unhide KP).tr Q1)
  clear PH KP Q1
  have PH := hide P1
  have KP := Q2
  clear Q2 P1
  refine ⟨_, rfl, fun a16 K16 => ?_⟩
  clear K14
  refine ltake (v := .int .i64 ((G1.fi t : Int) - 1)) (w' := W15) K16 rfl rfl (want_none rfl) (fun ev E => ?_) (fun a17 K17 => ?_)
  · have EC := E.const; have E16 := E.tmp 16 _ rfl; clear E; clear PH KP LH HT HI L1 X1 E1 hb1 L2 F2 T2 i2; go_simp
  clear K16
  refine las K17 rfl rfl (want_none rfl) rfl rfl (fun a18 K18 => ?_)
  clear K17
  refine nilN ?_
  refine wp_ret ?_
  have hr := E1.rootI
  rw [unhide HI, Nat.add_sub_cancel] at hr
  rw [← unhide HI] at hr
  refine bodyPost_ret (v := .int .i64 ((G1.fi t : Int) - 1)) ?_ K18.defers ⟨by rw [hr], unhide KP, S2, G2, unhide PH, L2⟩
  have e4 := K18.has 4 _ rfl
  simp [results, Try.results39, go_sem, e4]
set_option maxHeartbeats 4000000 in
theorem getN {p g n cap room : Nat} {T : Tr} {S : Ss} {G : Gh} {w : World} {x : Int} (h : Pool w p g n cap room S) (L : Lc S n T G) (hx : T.hasI x = false) :
    Calls Try.prog 35 #[.pointer (some ⟨p, 0, none⟩), .int .i64 x] w fun e w' => e = .returned (.tuple #[.int .i64 0, .bool false]) ∧ Keep [g] w w' ∧ Pool w' p g n cap room S := by
  have PH := hide h
  have KP := hide (Keep.refl [g] w)
  have LH := hide L
  clear h L
  refine callsK (n := 23) (L := [(0, .pointer (some ⟨p, 0, none⟩)), (1, .int .i64 x)]) Try.func35 rfl Try.ntmps35 rfl rfl (fun a0 K0 => ?_)
  refine seqR ?_
  refine lac K0 rfl rfl (want_none rfl) rfl (fun a1 K1 => ?_)
  refine lac K1 rfl rfl (want_none rfl) rfl (fun a2 K2 => ?_)
  clear K1
  refine nilN ?_
  refine seqR ?_
  refine lmv K2 rfl rfl (want_none rfl) rfl rfl (fun a3 K3 => ?_)
  clear K2
  refine lmv K3 rfl rfl (want_none rfl) rfl rfl (fun a4 K4 => ?_)
  clear K3
  refine lcall (f := 58) (args := #[.pointer (some ⟨p, 0, none⟩), .int .i64 x]) K4 rfl rfl (want_none rfl) (fun ev E => ?_) (findN (unhide PH) (unhide LH) hx) (fun e W5 hR => ?_)
  · have EF := E.func; have E7 := E.tmp 7 _ rfl; have E8 := E.tmp 8 _ rfl; clear E; clear PH KP LH; go_simp
  obtain ⟨rfl, Q1, P1⟩ := hR
  have Q2 := hide ((unhide KP).tr Q1)
  clear PH KP Q1
  have PH := hide P1
  have KP := Q2
  clear Q2 P1
  refine ⟨_, rfl, fun a6 K6 => ?_⟩
  clear K4
  refine las K6 rfl rfl (want_none rfl) rfl rfl (fun a7 K7 => ?_)
  clear K6
  refine nilN ?_
  refine wp_seq ?_
  refine seqR ?_
  refine lmv K7 rfl rfl (want_none rfl) rfl rfl (fun a8 K8 => ?_)
  clear K7
  refine ltake (v := .bool true) (w' := W5) K8 rfl rfl (want_none rfl) (fun ev E => ?_) (fun a9 K9 => ?_)
  · have EC := E.const; have E10 := E.tmp 10 _ rfl; clear E; clear PH KP LH; go_simp
  clear K8
  refine nilN ?_
  refine knCond (b := true) K9 rfl ?_
  refine seqR ?_
  refine lac K9 rfl rfl (want_none rfl) rfl (fun a10 K10 => ?_)
  clear K9
  refine lac K10 rfl rfl (want_none rfl) rfl (fun a11 K11 => ?_)
  clear K10
  refine nilN ?_
  refine wp_ret ?_
  refine thenRet ?_
  refine bodyPost_ret (v := .tuple #[.int .i64 0, .bool false]) ?_ K11.defers ⟨rfl, unhide KP, unhide PH⟩
  have e4 := K11.has 4 _ rfl
  have e5 := K11.has 5 _ rfl
  simp [results, Try.results35, go_sem, e4, e5]
set_option maxHeartbeats 4000000 in
theorem getY {p g n cap room : Nat} {T : Tr} {S : Ss} {G : Gh} {w : World} {i t : Nat} (h : Pool w p g n cap room S) (L : Lc S n T G) (hi : Th T t) (hit : t = i + 1) :
    Calls Try.prog 35 #[.pointer (some ⟨p, 0, none⟩), .int .i64 (i : Int)] w fun e w' => e = .returned (.tuple #[.int .i64 (T.wt i), .bool true]) ∧ Keep [g] w w' ∧ ∃ S1 G1, Pool w' p g n cap room S1 ∧ Lc S1 n T G1 := by
  have PH := hide h
  have KP := hide (Keep.refl [g] w)
  have LH := hide L
  clear h L
  have lt1 := (unhide LH).lt t hi
  have nnn := (unhide LH).nn
  have hTn := (unhide LH).ft.n
  have e1 : (0 : Int) ≤ (t : Int) := by omega
  have e2 : (t : Int) < (n : Int) := by omega
  have t1 := hi.1
  have e5 : ¬ (t : Int) = 0 := by omega
  have e6 : ¬ t = 0 := by omega
  have HT := hide hi
  have HI := hide hit
  clear hi hit t1
  refine callsK (n := 23) (L := [(0, .pointer (some ⟨p, 0, none⟩)), (1, .int .i64 (i : Int))]) Try.func35 rfl Try.ntmps35 rfl rfl (fun a0 K0 => ?_)
  refine seqR ?_
  refine lac K0 rfl rfl (want_none rfl) rfl (fun a1 K1 => ?_)
  refine lac K1 rfl rfl (want_none rfl) rfl (fun a2 K2 => ?_)
  clear K1
  refine nilN ?_
  refine seqR ?_
  refine lmv K2 rfl rfl (want_none rfl) rfl rfl (fun a3 K3 => ?_)
  clear K2
  refine lmv K3 rfl rfl (want_none rfl) rfl rfl (fun a4 K4 => ?_)
  clear K3
  refine lcall (f := 58) (args := #[.pointer (some ⟨p, 0, none⟩), .int .i64 (i : Int)]) K4 rfl rfl (want_none rfl) (fun ev E => ?_) (findY (unhide PH) (unhide LH) (unhide HT) (unhide HI)) (fun e W5 hR => ?_)
  · have EF := E.func; have E7 := E.tmp 7 _ rfl; have E8 := E.tmp 8 _ rfl; clear E; clear PH KP LH HT HI; go_simp
  obtain ⟨rfl, Q1, P1⟩ := hR
  have Q2 := hide ((unhide KP).tr Q1)
  clear PH KP Q1
  have PH := hide P1
  have KP := Q2
  clear Q2 P1
  refine ⟨_, rfl, fun a6 K6 => ?_⟩
  clear K4
  refine las K6 rfl rfl (want_none rfl) rfl rfl (fun a7 K7 => ?_)
  clear K6
  refine nilN ?_
  refine seqN ?_
  refine seqR ?_
  refine lmv K7 rfl rfl (want_none rfl) rfl rfl (fun a8 K8 => ?_)
  clear K7
  refine ltake (v := .bool false) (w' := W5) K8 rfl rfl (want_none rfl) (fun ev E => ?_) (fun a9 K9 => ?_)
  · have EC := E.const; have E10 := E.tmp 10 _ rfl; clear E; clear PH KP LH HT HI; go_simp
  clear K8
  refine nilN ?_
  refine knCond (b := false) K9 rfl ?_
  refine wp_skip ?_
  show Code.wp _ _ _ _ _
  refine seqR ?_
  refine lmv K9 rfl rfl (want_none rfl) rfl rfl (fun a10 K10 => ?_)
  clear K9
  refine lmv K10 rfl rfl (want_none rfl) rfl rfl (fun a11 K11 => ?_)
  clear K10
  refine lcall (f := 72) (args := #[.pointer (some ⟨p, 0, none⟩), .int .i64 (t : Int)]) K11 rfl rfl (want_none rfl) (fun ev E => ?_) (splayL (unhide PH) (unhide LH) (unhide HT)) (fun e W12 hR => ?_)
  · have EF := E.func; have E12 := E.tmp 12 _ rfl; have E13 := E.tmp 13 _ rfl; clear E; clear PH KP LH HT HI; go_simp
  obtain ⟨rfl, Q1, S1, G1, P1, L1, F1, T1, i1⟩ := hR
  have Q2 := hide ((unhide KP).tr Q1)
  clear PH KP Q1
  have PH := hide P1
  have KP := Q2
  clear Q2 P1
  refine ⟨_, rfl, fun a13 K13 => ?_⟩
  clear K11
  refine nilN ?_
  refine seqR ?_
  refine lmv K13 rfl rfl (want_none rfl) rfl rfl (fun a14 K14 => ?_)
  clear K13
  refine lnc K14 rfl rfl (want_none rfl) rfl rfl (fun a15 K15 => ?_)
  clear K14
  refine lfa K15 rfl rfl (want_none rfl) rfl rfl FA66_1 (fun a16 K16 => ?_)
  clear K15
  refine ltake (v := .slice (some ⟨g, 0, none⟩) n cap) (w' := W12) K16 rfl rfl (want_none rfl) (fun ev E => ?_) (fun a17 K17 => ?_)
  · obtain ⟨c0, c1, _⟩ := (unhide PH).head; have E17 := E.tmp 17 _ rfl; clear E; clear PH KP LH HT HI L1 F1 T1 i1; go_simp
  clear K16
  refine lmv K17 rfl rfl (want_none rfl) rfl rfl (fun a18 K18 => ?_)
  clear K17
  refine ltake (v := .pointer (some ⟨g, t * 14, none⟩)) (w' := W12) K18 rfl rfl (want_none rfl) (fun ev E => ?_) (fun a19 K19 => ?_)
  · have E18 := E.tmp 18 _ rfl; have E19 := E.tmp 19 _ rfl; clear E; clear PH KP LH HT HI L1 F1 T1 i1; go_simp
  clear K18
  refine lfa K19 rfl rfl (want_none rfl) rfl rfl FA75_4 (fun a20 K20 => ?_)
  clear K19
  refine ltake (v := .int .i64 (S1 t).wt) (w' := W12) K20 rfl rfl (want_none rfl) (fun ev E => ?_) (fun a21 K21 => ?_)
  · obtain ⟨s0, s1, s2, s3, s4, s5, s6, s7, s8, s9, s10, s11, s12, s13⟩ := (unhide PH).slot (t := t) (by assumption); have E21 := E.tmp 21 _ rfl; clear E; clear PH KP LH HT HI L1 F1 T1 i1; go_simp
  clear K20
  refine las K21 rfl rfl (want_none rfl) rfl rfl (fun a22 K22 => ?_)
  clear K21
  refine lac K22 rfl rfl (want_none rfl) rfl (fun a23 K23 => ?_)
  clear K22
  refine nilN ?_
  refine wp_ret ?_
  have hw := (L1.loc t (unhide HT)).wt
  rw [((L1.loc t (unhide HT)).tp T1).a] at hw
  have hti : t - 1 = i := by have := unhide HI; omega
  rw [hti] at hw
  simp only [Int.add_zero] at hw
  refine bodyPost_ret (v := .tuple #[.int .i64 (S1 t).wt, .bool true]) ?_ K23.defers ⟨by rw [hw], unhide KP, S1, G1, unhide PH, L1⟩
  have e4 := K23.has 4 _ rfl
  have e5 := K23.has 5 _ rfl
  simp [results, Try.results35, go_sem, e4, e5]
end Go.Proofs.Ytjnkgakajenoaaa
/- The program's forest: sizes, turns, parents. -/

namespace Go.Proofs.Ytjnkgakajenoaaa
open Go.RowKit Go.Arb
set_option linter.unusedVariables false
set_option linter.unusedSimpArgs false
set_option maxRecDepth 100000

set_option maxHeartbeats 4000000 in
theorem sizeN {p g n cap room : Nat} {T : Tr} {S : Ss} {G : Gh} {w : World} {x : Int} (h : Pool w p g n cap room S) (L : Lc S n T G) (hx : T.hasI x = false) :
    Calls Try.prog 47 #[.pointer (some ⟨p, 0, none⟩), .int .i64 x] w fun e w' => e = .returned (.int .i64 0) ∧ Keep [g] w w' ∧ Pool w' p g n cap room S := by
  have PH := hide h
  have KP := hide (Keep.refl [g] w)
  have LH := hide L
  clear h L
  refine callsK (n := 23) (L := [(0, .pointer (some ⟨p, 0, none⟩)), (1, .int .i64 x)]) Try.func47 rfl Try.ntmps47 rfl rfl (fun a0 K0 => ?_)
  refine seqR ?_
  refine lac K0 rfl rfl (want_none rfl) rfl (fun a1 K1 => ?_)
  refine nilN ?_
  refine seqR ?_
  refine lmv K1 rfl rfl (want_none rfl) rfl rfl (fun a2 K2 => ?_)
  clear K1
  refine lmv K2 rfl rfl (want_none rfl) rfl rfl (fun a3 K3 => ?_)
  clear K2
  refine lcall (f := 58) (args := #[.pointer (some ⟨p, 0, none⟩), .int .i64 x]) K3 rfl rfl (want_none rfl) (fun ev E => ?_) (findN (unhide PH) (unhide LH) hx) (fun e W4 hR => ?_)
  · have EF := E.func; have E6 := E.tmp 6 _ rfl; have E7 := E.tmp 7 _ rfl; clear E; clear PH KP LH; go_simp
  obtain ⟨rfl, Q1, P1⟩ := hR
  have Q2 := hide ((unhide KP).tr Q1)
  clear PH KP Q1
  have PH := hide P1
  have KP := Q2
  clear Q2 P1
  refine ⟨_, rfl, fun a5 K5 => ?_⟩
  clear K3
  refine las K5 rfl rfl (want_none rfl) rfl rfl (fun a6 K6 => ?_)
  clear K5
  refine nilN ?_
  refine wp_seq ?_
  refine seqR ?_
  refine lmv K6 rfl rfl (want_none rfl) rfl rfl (fun a7 K7 => ?_)
  clear K6
  refine ltake (v := .bool true) (w' := W4) K7 rfl rfl (want_none rfl) (fun ev E => ?_) (fun a8 K8 => ?_)
  · have EC := E.const; have E9 := E.tmp 9 _ rfl; clear E; clear PH KP LH; go_simp
  clear K7
  refine nilN ?_
  refine knCond (b := true) K8 rfl ?_
  refine seqR ?_
  refine lac K8 rfl rfl (want_none rfl) rfl (fun a9 K9 => ?_)
  clear K8
  refine nilN ?_
  refine wp_ret ?_
  refine thenRet ?_
  refine bodyPost_ret (v := .int .i64 0) ?_ K9.defers ⟨rfl, unhide KP, unhide PH⟩
  have e4 := K9.has 4 _ rfl
  simp [results, Try.results47, go_sem, e4]
set_option maxHeartbeats 4000000 in
theorem sizeY {p g n cap room : Nat} {T : Tr} {S : Ss} {G : Gh} {w : World} {i t : Nat} (h : Pool w p g n cap room S) (L : Lc S n T G) (hi : Th T t) (hit : t = i + 1) :
    Calls Try.prog 47 #[.pointer (some ⟨p, 0, none⟩), .int .i64 (i : Int)] w fun e w' => ∃ r : Nat, e = .returned (.int .i64 (Dc T r)) ∧ r ∈ U T t ∧ ps T r = 0 ∧ Keep [g] w w' ∧ ∃ S1 G1, Pool w' p g n cap room S1 ∧ Lc S1 n T G1 := by
  have PH := hide h
  have KP := hide (Keep.refl [g] w)
  have LH := hide L
  clear h L
  have lt1 := (unhide LH).lt t hi
  have nnn := (unhide LH).nn
  have hTn := (unhide LH).ft.n
  have e1 : (0 : Int) ≤ (t : Int) := by omega
  have e2 : (t : Int) < (n : Int) := by omega
  have t1 := hi.1
  have e5 : ¬ (t : Int) = 0 := by omega
  have e6 : ¬ t = 0 := by omega
  have HT := hide hi
  have HI := hide hit
  clear hi hit t1
  refine callsK (n := 23) (L := [(0, .pointer (some ⟨p, 0, none⟩)), (1, .int .i64 (i : Int))]) Try.func47 rfl Try.ntmps47 rfl rfl (fun a0 K0 => ?_)
  refine seqR ?_
  refine lac K0 rfl rfl (want_none rfl) rfl (fun a1 K1 => ?_)
  refine nilN ?_
  refine seqR ?_
  refine lmv K1 rfl rfl (want_none rfl) rfl rfl (fun a2 K2 => ?_)
  clear K1
  refine lmv K2 rfl rfl (want_none rfl) rfl rfl (fun a3 K3 => ?_)
  clear K2
  refine lcall (f := 58) (args := #[.pointer (some ⟨p, 0, none⟩), .int .i64 (i : Int)]) K3 rfl rfl (want_none rfl) (fun ev E => ?_) (findY (unhide PH) (unhide LH) (unhide HT) (unhide HI)) (fun e W4 hR => ?_)
  · have EF := E.func; have E6 := E.tmp 6 _ rfl; have E7 := E.tmp 7 _ rfl; clear E; clear PH KP LH HT HI; go_simp
  obtain ⟨rfl, Q1, P1⟩ := hR
  have Q2 := hide ((unhide KP).tr Q1)
  clear PH KP Q1
  have PH := hide P1
  have KP := Q2
  clear Q2 P1
  refine ⟨_, rfl, fun a5 K5 => ?_⟩
  clear K3
  refine las K5 rfl rfl (want_none rfl) rfl rfl (fun a6 K6 => ?_)
  clear K5
  refine nilN ?_
  refine seqN ?_
  refine seqR ?_
  refine lmv K6 rfl rfl (want_none rfl) rfl rfl (fun a7 K7 => ?_)
  clear K6
  refine ltake (v := .bool false) (w' := W4) K7 rfl rfl (want_none rfl) (fun ev E => ?_) (fun a8 K8 => ?_)
  · have EC := E.const; have E9 := E.tmp 9 _ rfl; clear E; clear PH KP LH HT HI; go_simp
  clear K7
  refine nilN ?_
  refine knCond (b := false) K8 rfl ?_
  refine wp_skip ?_
  show Code.wp _ _ _ _ _
  refine seqR ?_
  refine lmv K8 rfl rfl (want_none rfl) rfl rfl (fun a9 K9 => ?_)
  clear K8
  refine lmv K9 rfl rfl (want_none rfl) rfl rfl (fun a10 K10 => ?_)
  clear K9
  refine lcall (f := 61) (args := #[.pointer (some ⟨p, 0, none⟩), .int .i64 (t : Int)]) K10 rfl rfl (want_none rfl) (fun ev E => ?_) (exposeL (unhide PH) (unhide LH) (unhide HT)) (fun e W11 hR => ?_)
  · have EF := E.func; have E11 := E.tmp 11 _ rfl; have E12 := E.tmp 12 _ rfl; clear E; clear PH KP LH HT HI; go_simp
  obtain ⟨met1, rfl, Q1, S1, G1, P1, L1, X1⟩ := hR
  have Q2 := hide ((unhide KP).tr Q1)
  clear PH KP Q1
  have PH := hide P1
  have KP := Q2
  clear Q2 P1
  refine ⟨_, rfl, fun a12 K12 => ?_⟩
  clear K10
  refine nilN ?_
  refine seqR ?_
  refine lmv K12 rfl rfl (want_none rfl) rfl rfl (fun a13 K13 => ?_)
  clear K12
  refine lnc K13 rfl rfl (want_none rfl) rfl rfl (fun a14 K14 => ?_)
  clear K13
  refine lfa K14 rfl rfl (want_none rfl) rfl rfl FA66_1 (fun a15 K15 => ?_)
  clear K14
  refine ltake (v := .slice (some ⟨g, 0, none⟩) n cap) (w' := W11) K15 rfl rfl (want_none rfl) (fun ev E => ?_) (fun a16 K16 => ?_)
  · obtain ⟨c0, c1, _⟩ := (unhide PH).head; have E16 := E.tmp 16 _ rfl; clear E; clear PH KP LH HT HI L1 X1; go_simp
  clear K15
  refine lmv K16 rfl rfl (want_none rfl) rfl rfl (fun a17 K17 => ?_)
  clear K16
  refine ltake (v := .pointer (some ⟨g, t * 14, none⟩)) (w' := W11) K17 rfl rfl (want_none rfl) (fun ev E => ?_) (fun a18 K18 => ?_)
  · have E17 := E.tmp 17 _ rfl; have E18 := E.tmp 18 _ rfl; clear E; clear PH KP LH HT HI L1 X1; go_simp
  clear K17
  refine ltake (v := .agg #[.int .i64 ((S1 t).up : Int), .int .i64 ((S1 t).l : Int), .int .i64 ((S1 t).r : Int), .bool (S1 t).tn, .int .i64 (S1 t).wt, .int .i64 (S1 t).wa, .int .i64 (S1 t).sm.c, .int .i64 (S1 t).sm.s, .int .i64 (S1 t).sm.a, .int .i64 (S1 t).sm.b, .int .i64 (S1 t).hg.c, .int .i64 (S1 t).hg.w, .int .i64 (S1 t).hu.c, .int .i64 (S1 t).hu.w]) (w' := W11) K18 rfl rfl (want_none rfl) (fun ev E => ?_) (fun a19 K19 => ?_)
  · obtain ⟨s0, s1, s2, s3, s4, s5, s6, s7, s8, s9, s10, s11, s12, s13⟩ := (unhide PH).slot (t := t) (by assumption); have E19 := E.tmp 19 _ rfl; clear E; clear PH KP LH HT HI L1 X1; go_simp
  clear K18
  have bz := L1.bz t
  have b1 := bz.c; have b2 := bz.s; have b3 := bz.uc; have b4 := bz.uw
  have HB := hide (And.intro b1 (And.intro b2 (And.intro b3 b4)))
  clear b1 b2 b3 b4
  refine lcall (f := 75) (args := #[.agg #[.int .i64 ((S1 t).up : Int), .int .i64 ((S1 t).l : Int), .int .i64 ((S1 t).r : Int), .bool (S1 t).tn, .int .i64 (S1 t).wt, .int .i64 (S1 t).wa, .int .i64 (S1 t).sm.c, .int .i64 (S1 t).sm.s, .int .i64 (S1 t).sm.a, .int .i64 (S1 t).sm.b, .int .i64 (S1 t).hg.c, .int .i64 (S1 t).hg.w, .int .i64 (S1 t).hu.c, .int .i64 (S1 t).hu.w]]) K19 rfl rfl (want_none rfl) (fun ev E => ?_) (whole_any _ _ _ _ _ _ _ _ _ _ _ _ _ _ _ (by have := unhide HB; omega) (by have := unhide HB; omega)) (fun e W20 hR => ?_)
  · have EF := E.func; have E20 := E.tmp 20 _ rfl; clear E; clear PH KP LH HT HI L1 X1 bz HB; go_simp
  obtain ⟨rfl, B1⟩ := hR
  have Q2 := hide ((unhide KP).belowB B1)
  have P2 := hide ((unhide PH).below B1)
  clear PH KP B1
  have PH := P2
  have KP := Q2
  clear P2 Q2
  refine ⟨_, rfl, fun a21 K21 => ?_⟩
  clear K19
  refine ltake (v := .int .i64 ((S1 t).hu.c + (S1 t).sm.c)) (w' := W20) K21 rfl rfl (want_none rfl) (fun ev E => ?_) (fun a22 K22 => ?_)
  · have E21 := E.tmp 21 _ rfl; clear E; clear PH KP LH HT HI L1 X1 bz HB; go_simp; rfl
  clear K21
  refine las K22 rfl rfl (want_none rfl) rfl rfl (fun a23 K23 => ?_)
  clear K22
  refine nilN ?_
  refine wp_ret ?_
  have hd := (L1.top_whole (unhide HT) X1.top).1
  refine bodyPost_ret (v := .int .i64 ((S1 t).hu.c + (S1 t).sm.c)) ?_ K23.defers ⟨G1.fi t, by rw [hd], L1.fi_in (unhide HT), X1.root, unhide KP, S1, G1, unhide PH, L1⟩
  have e4 := K23.has 4 _ rfl
  simp [results, Try.results47, go_sem, e4]
set_option maxHeartbeats 4000000 in
theorem evertN {p g n cap room : Nat} {T : Tr} {S : Ss} {G : Gh} {w : World} {x : Int} (h : Pool w p g n cap room S) (L : Lc S n T G) (hx : T.hasI x = false) :
    Calls Try.prog 25 #[.pointer (some ⟨p, 0, none⟩), .int .i64 x] w fun e w' => e = .returned (.bool false) ∧ Keep [g] w w' ∧ Pool w' p g n cap room S := by
  have PH := hide h
  have KP := hide (Keep.refl [g] w)
  have LH := hide L
  clear h L
  refine callsK (n := 17) (L := [(0, .pointer (some ⟨p, 0, none⟩)), (1, .int .i64 x)]) Try.func25 rfl Try.ntmps25 rfl rfl (fun a0 K0 => ?_)
  refine seqR ?_
  refine lac K0 rfl rfl (want_none rfl) rfl (fun a1 K1 => ?_)
  refine nilN ?_
  refine seqR ?_
  refine lmv K1 rfl rfl (want_none rfl) rfl rfl (fun a2 K2 => ?_)
  clear K1
  refine lmv K2 rfl rfl (want_none rfl) rfl rfl (fun a3 K3 => ?_)
  clear K2
  refine lcall (f := 58) (args := #[.pointer (some ⟨p, 0, none⟩), .int .i64 x]) K3 rfl rfl (want_none rfl) (fun ev E => ?_) (findN (unhide PH) (unhide LH) hx) (fun e W4 hR => ?_)
  · have EF := E.func; have E6 := E.tmp 6 _ rfl; have E7 := E.tmp 7 _ rfl; clear E; clear PH KP LH; go_simp
  obtain ⟨rfl, Q1, P1⟩ := hR
  have Q2 := hide ((unhide KP).tr Q1)
  clear PH KP Q1
  have PH := hide P1
  have KP := Q2
  clear Q2 P1
  refine ⟨_, rfl, fun a5 K5 => ?_⟩
  clear K3
  refine las K5 rfl rfl (want_none rfl) rfl rfl (fun a6 K6 => ?_)
  clear K5
  refine nilN ?_
  refine wp_seq ?_
  refine seqR ?_
  refine lmv K6 rfl rfl (want_none rfl) rfl rfl (fun a7 K7 => ?_)
  clear K6
  refine ltake (v := .bool true) (w' := W4) K7 rfl rfl (want_none rfl) (fun ev E => ?_) (fun a8 K8 => ?_)
  · have EC := E.const; have E9 := E.tmp 9 _ rfl; clear E; clear PH KP LH; go_simp
  clear K7
  refine nilN ?_
  refine knCond (b := true) K8 rfl ?_
  refine seqR ?_
  refine lac K8 rfl rfl (want_none rfl) rfl (fun a9 K9 => ?_)
  clear K8
  refine nilN ?_
  refine wp_ret ?_
  refine thenRet ?_
  refine bodyPost_ret (v := .bool false) ?_ K9.defers ⟨rfl, unhide KP, unhide PH⟩
  have e4 := K9.has 4 _ rfl
  simp [results, Try.results25, go_sem, e4]
set_option maxHeartbeats 4000000 in
theorem evertY {p g n cap room : Nat} {T : Tr} {S : Ss} {G : Gh} {w : World} {i t : Nat} (h : Pool w p g n cap room S) (L : Lc S n T G) (hi : Th T t) (hit : t = i + 1) :
    Calls Try.prog 25 #[.pointer (some ⟨p, 0, none⟩), .int .i64 (i : Int)] w fun e w' => e = .returned (.bool true) ∧ Keep [g] w w' ∧ ∃ S1 G1, Pool w' p g n cap room S1 ∧ Lc S1 n (T.evert i) G1 := by
  have PH := hide h
  have KP := hide (Keep.refl [g] w)
  have LH := hide L
  clear h L
  have lt1 := (unhide LH).lt t hi
  have nnn := (unhide LH).nn
  have hTn := (unhide LH).ft.n
  have e1 : (0 : Int) ≤ (t : Int) := by omega
  have e2 : (t : Int) < (n : Int) := by omega
  have t1 := hi.1
  have e5 : ¬ (t : Int) = 0 := by omega
  have e6 : ¬ t = 0 := by omega
  have HT := hide hi
  have HI := hide hit
  clear hi hit t1
  refine callsK (n := 17) (L := [(0, .pointer (some ⟨p, 0, none⟩)), (1, .int .i64 (i : Int))]) Try.func25 rfl Try.ntmps25 rfl rfl (fun a0 K0 => ?_)
  refine seqR ?_
  refine lac K0 rfl rfl (want_none rfl) rfl (fun a1 K1 => ?_)
  refine nilN ?_
  refine seqR ?_
  refine lmv K1 rfl rfl (want_none rfl) rfl rfl (fun a2 K2 => ?_)
  clear K1
  refine lmv K2 rfl rfl (want_none rfl) rfl rfl (fun a3 K3 => ?_)
  clear K2
  refine lcall (f := 58) (args := #[.pointer (some ⟨p, 0, none⟩), .int .i64 (i : Int)]) K3 rfl rfl (want_none rfl) (fun ev E => ?_) (findY (unhide PH) (unhide LH) (unhide HT) (unhide HI)) (fun e W4 hR => ?_)
  · have EF := E.func; have E6 := E.tmp 6 _ rfl; have E7 := E.tmp 7 _ rfl; clear E; clear PH KP LH HT HI; go_simp
  obtain ⟨rfl, Q1, P1⟩ := hR
  have Q2 := hide ((unhide KP).tr Q1)
  clear PH KP Q1
  have PH := hide P1
  have KP := Q2
  clear Q2 P1
  refine ⟨_, rfl, fun a5 K5 => ?_⟩
  clear K3
  refine las K5 rfl rfl (want_none rfl) rfl rfl (fun a6 K6 => ?_)
  clear K5
  refine nilN ?_
  refine seqN ?_
  refine seqR ?_
  refine lmv K6 rfl rfl (want_none rfl) rfl rfl (fun a7 K7 => ?_)
  clear K6
  refine ltake (v := .bool false) (w' := W4) K7 rfl rfl (want_none rfl) (fun ev E => ?_) (fun a8 K8 => ?_)
  · have EC := E.const; have E9 := E.tmp 9 _ rfl; clear E; clear PH KP LH HT HI; go_simp
  clear K7
  refine nilN ?_
  refine knCond (b := false) K8 rfl ?_
  refine wp_skip ?_
  show Code.wp _ _ _ _ _
  refine seqR ?_
  refine lmv K8 rfl rfl (want_none rfl) rfl rfl (fun a9 K9 => ?_)
  clear K8
  refine lmv K9 rfl rfl (want_none rfl) rfl rfl (fun a10 K10 => ?_)
  clear K9
  refine lcall (f := 61) (args := #[.pointer (some ⟨p, 0, none⟩), .int .i64 (t : Int)]) K10 rfl rfl (want_none rfl) (fun ev E => ?_) (exposeL (unhide PH) (unhide LH) (unhide HT)) (fun e W11 hR => ?_)
  · have EF := E.func; have E11 := E.tmp 11 _ rfl; have E12 := E.tmp 12 _ rfl; clear E; clear PH KP LH HT HI; go_simp
  obtain ⟨met1, rfl, Q1, S1, G1, P1, L1, X1⟩ := hR
  have Q2 := hide ((unhide KP).tr Q1)
  clear PH KP Q1
  have PH := hide P1
  have KP := Q2
  clear Q2 P1
  refine ⟨_, rfl, fun a12 K12 => ?_⟩
  clear K10
  refine nilN ?_
  refine seqR ?_
  refine lmv K12 rfl rfl (want_none rfl) rfl rfl (fun a13 K13 => ?_)
  clear K12
  refine lmv K13 rfl rfl (want_none rfl) rfl rfl (fun a14 K14 => ?_)
  clear K13
  refine lcall (f := 62) (args := #[.pointer (some ⟨p, 0, none⟩), .int .i64 (t : Int)]) K14 rfl rfl (want_none rfl) (fun ev E => ?_) (turn_any (unhide PH) lt1) (fun e W15 hR => ?_)
  · have EF := E.func; have E14 := E.tmp 14 _ rfl; have E15 := E.tmp 15 _ rfl; clear E; clear PH KP LH HT HI L1 X1; go_simp
  obtain ⟨rfl, P1, Q1⟩ := hR
  have Q2 := hide ((unhide KP).tr Q1)
  clear PH KP Q1
  have PH := hide P1
  have KP := Q2
  clear Q2 P1
  refine ⟨_, rfl, fun a16 K16 => ?_⟩
  clear K14
  refine nilN ?_
  refine seqR ?_
  refine lac K16 rfl rfl (want_none rfl) rfl (fun a17 K17 => ?_)
  clear K16
  refine nilN ?_
  refine wp_ret ?_
  have L2 := (X1.pth L1 (unhide HT)).turn
  have hti : t - 1 = i := by have := unhide HI; omega
  rw [hti] at L2
  refine bodyPost_ret (v := .bool true) ?_ K17.defers ⟨rfl, unhide KP, _, _, unhide PH, L2⟩
  have e4 := K17.has 4 _ rfl
  simp [results, Try.results25, go_sem, e4]
set_option maxHeartbeats 4000000 in
theorem parentN {p g n cap room : Nat} {T : Tr} {S : Ss} {G : Gh} {w : World} {x : Int} (h : Pool w p g n cap room S) (L : Lc S n T G) (hx : T.hasI x = false) :
    Calls Try.prog 41 #[.pointer (some ⟨p, 0, none⟩), .int .i64 x] w fun e w' => e = .returned (.int .i64 (-1)) ∧ Keep [g] w w' ∧ Pool w' p g n cap room S := by
  have PH := hide h
  have KP := hide (Keep.refl [g] w)
  have LH := hide L
  clear h L
  refine callsK (n := 27) (L := [(0, .pointer (some ⟨p, 0, none⟩)), (1, .int .i64 x)]) Try.func41 rfl Try.ntmps41 rfl rfl (fun a0 K0 => ?_)
  refine seqR ?_
  refine lac K0 rfl rfl (want_none rfl) rfl (fun a1 K1 => ?_)
  refine nilN ?_
  refine seqR ?_
  refine lmv K1 rfl rfl (want_none rfl) rfl rfl (fun a2 K2 => ?_)
  clear K1
  refine lmv K2 rfl rfl (want_none rfl) rfl rfl (fun a3 K3 => ?_)
  clear K2
  refine lcall (f := 58) (args := #[.pointer (some ⟨p, 0, none⟩), .int .i64 x]) K3 rfl rfl (want_none rfl) (fun ev E => ?_) (findN (unhide PH) (unhide LH) hx) (fun e W4 hR => ?_)
  · have EF := E.func; have E6 := E.tmp 6 _ rfl; have E7 := E.tmp 7 _ rfl; clear E; clear PH KP LH; go_simp
  obtain ⟨rfl, Q1, P1⟩ := hR
  have Q2 := hide ((unhide KP).tr Q1)
  clear PH KP Q1
  have PH := hide P1
  have KP := Q2
  clear Q2 P1
  refine ⟨_, rfl, fun a5 K5 => ?_⟩
  clear K3
  refine las K5 rfl rfl (want_none rfl) rfl rfl (fun a6 K6 => ?_)
  clear K5
  refine nilN ?_
  refine wp_seq ?_
  refine seqR ?_
  refine lmv K6 rfl rfl (want_none rfl) rfl rfl (fun a7 K7 => ?_)
  clear K6
  refine ltake (v := .bool true) (w' := W4) K7 rfl rfl (want_none rfl) (fun ev E => ?_) (fun a8 K8 => ?_)
  · have EC := E.const; have E9 := E.tmp 9 _ rfl; clear E; clear PH KP LH; go_simp
  clear K7
  refine lmv K8 rfl rfl (want_none rfl) rfl rfl (fun a9 K9 => ?_)
  clear K8
  refine lskip K9 rfl rfl (want_not K9 rfl rfl rfl (by decide)) (fun a10 K10 => ?_)
  refine lskip K10 rfl rfl (want_not K10 rfl rfl rfl (by decide)) (fun a11 K11 => ?_)
  refine lskip K11 rfl rfl (want_not K11 rfl rfl rfl (by decide)) (fun a12 K12 => ?_)
  refine ltake (v := .bool true) (w' := W4) K12 rfl rfl (want_none rfl) (fun ev E => ?_) (fun a13 K13 => ?_)
  · have EC := E.const; have E11 := E.tmp 11 _ rfl; have E14 := E.tmp 14 _ rfl; clear E; clear PH KP LH; go_simp
  clear K12
  refine nilN ?_
  refine knCond (b := true) K13 rfl ?_
  refine seqR ?_
  refine lac K13 rfl rfl (want_none rfl) rfl (fun a14 K14 => ?_)
  clear K13
  refine nilN ?_
  refine wp_ret ?_
  refine thenRet ?_
  refine bodyPost_ret (v := .int .i64 (-1)) ?_ K14.defers ⟨rfl, unhide KP, unhide PH⟩
  have e4 := K14.has 4 _ rfl
  simp [results, Try.results41, go_sem, e4]
set_option maxHeartbeats 4000000 in
theorem parentY0 {p g n cap room : Nat} {T : Tr} {S : Ss} {G : Gh} {w : World} {i t : Nat} (h : Pool w p g n cap room S) (L : Lc S n T G) (hi : Th T t) (hit : t = i + 1) (hp : ps T t = 0) :
    Calls Try.prog 41 #[.pointer (some ⟨p, 0, none⟩), .int .i64 (i : Int)] w fun e w' => e = .returned (.int .i64 (-1)) ∧ Keep [g] w w' ∧ ∃ S1 G1, Pool w' p g n cap room S1 ∧ Lc S1 n T G1 := by
  have PH := hide h
  have KP := hide (Keep.refl [g] w)
  have LH := hide L
  clear h L
  have lt1 := (unhide LH).lt t hi
  have nnn := (unhide LH).nn
  have hTn := (unhide LH).ft.n
  have e1 : (0 : Int) ≤ (t : Int) := by omega
  have e2 : (t : Int) < (n : Int) := by omega
  have t1 := hi.1
  have e5 : ¬ (t : Int) = 0 := by omega
  have e6 : ¬ t = 0 := by omega
  have HT := hide hi
  have HI := hide hit
  clear hi hit t1
  have HP := hide hp
  clear hp
  refine callsK (n := 27) (L := [(0, .pointer (some ⟨p, 0, none⟩)), (1, .int .i64 (i : Int))]) Try.func41 rfl Try.ntmps41 rfl rfl (fun a0 K0 => ?_)
  refine seqR ?_
  refine lac K0 rfl rfl (want_none rfl) rfl (fun a1 K1 => ?_)
  refine nilN ?_
  refine seqR ?_
  refine lmv K1 rfl rfl (want_none rfl) rfl rfl (fun a2 K2 => ?_)
  clear K1
  refine lmv K2 rfl rfl (want_none rfl) rfl rfl (fun a3 K3 => ?_)
  clear K2
  refine lcall (f := 58) (args := #[.pointer (some ⟨p, 0, none⟩), .int .i64 (i : Int)]) K3 rfl rfl (want_none rfl) (fun ev E => ?_) (findY (unhide PH) (unhide LH) (unhide HT) (unhide HI)) (fun e W4 hR => ?_)
  · have EF := E.func; have E6 := E.tmp 6 _ rfl; have E7 := E.tmp 7 _ rfl; clear E; clear PH KP LH HT HI HP; go_simp
  obtain ⟨rfl, Q1, P1⟩ := hR
  have Q2 := hide ((unhide KP).tr Q1)
  clear PH KP Q1
  have PH := hide P1
  have KP := Q2
  clear Q2 P1
  refine ⟨_, rfl, fun a5 K5 => ?_⟩
  clear K3
  refine las K5 rfl rfl (want_none rfl) rfl rfl (fun a6 K6 => ?_)
  clear K5
  refine nilN ?_
  refine wp_seq ?_
  refine seqR ?_
  refine lmv K6 rfl rfl (want_none rfl) rfl rfl (fun a7 K7 => ?_)
  clear K6
  refine ltake (v := .bool false) (w' := W4) K7 rfl rfl (want_none rfl) (fun ev E => ?_) (fun a8 K8 => ?_)
  · have EC := E.const; have E9 := E.tmp 9 _ rfl; clear E; clear PH KP LH HT HI HP; go_simp
  clear K7
  refine lmv K8 rfl rfl (want_none rfl) rfl rfl (fun a9 K9 => ?_)
  clear K8
  refine lmv K9 rfl rfl (want_some K9 rfl rfl rfl) rfl rfl (fun a10 K10 => ?_)
  clear K9
  refine lmv K10 rfl rfl (want_some K10 rfl rfl rfl) rfl rfl (fun a11 K11 => ?_)
  clear K10
  refine lcall (f := 57) (args := #[.pointer (some ⟨p, 0, none⟩), .int .i64 (t : Int)]) K11 rfl rfl (want_some K11 rfl rfl rfl) (fun ev E => ?_) (isRootL (unhide PH) (unhide LH) (unhide HT)) (fun e W12 hR => ?_)
  · have EF := E.func; have E12 := E.tmp 12 _ rfl; have E13 := E.tmp 13 _ rfl; clear E; clear PH KP LH HT HI HP; go_simp
  obtain ⟨Q1, met1, S1, G1, rfl, P1, L1, X1⟩ := hR
  have Q2 := hide ((unhide KP).tr Q1)
  clear PH KP Q1
  have PH := hide P1
  have KP := Q2
  clear Q2 P1
  refine ⟨_, rfl, fun a13 K13 => ?_⟩
  clear K11
  have E1 := X1.pth L1 (unhide HT)
  have hps : ps T t = 0 := unhide HP
  have l0 : ((S1 t).l : Int) = 0 := by
    refine Classical.byContradiction fun e0 => ?_
    have l1 : (S1 t).l ≠ 0 := by omega
    have en := (L1.loc t (unhide HT)).en
    rw [((L1.loc t (unhide HT)).tp X1.top).b] at en
    have q : G1.pn (G1.la (S1 t).l) = t := (en.l1 l1).2
    have := (L1.ps_pn (L1.la_th ((L1.loc t (unhide HT)).kl l1).th) q (by omega)).2
    rw [hps] at this
    have := (L1.la_th ((L1.loc t (unhide HT)).kl l1).th).1
    omega
  clear hps
  rw [show (((S1 t).l : Int) == 0) = true from by rw [l0]; rfl] at K13
  clear l0
  refine ltake (v := .bool true) (w' := W12) K13 rfl rfl (want_none rfl) (fun ev E => ?_) (fun a14 K14 => ?_)
  · have EC := E.const; have E11 := E.tmp 11 _ rfl; have E14 := E.tmp 14 _ rfl; clear E; clear PH KP LH HT HI HP L1 X1 E1; go_simp
  clear K13
  refine nilN ?_
  refine knCond (b := true) K14 rfl ?_
  refine seqR ?_
  refine lac K14 rfl rfl (want_none rfl) rfl (fun a15 K15 => ?_)
  clear K14
  refine nilN ?_
  refine wp_ret ?_
  refine thenRet ?_
  refine bodyPost_ret (v := .int .i64 (-1)) ?_ K15.defers ⟨rfl, unhide KP, S1, G1, unhide PH, L1⟩
  have e4 := K15.has 4 _ rfl
  simp [results, Try.results41, go_sem, e4]
set_option maxHeartbeats 4000000 in
theorem parentY1 {p g n cap room : Nat} {T : Tr} {S : Ss} {G : Gh} {w : World} {i t : Nat} (h : Pool w p g n cap room S) (L : Lc S n T G) (hi : Th T t) (hit : t = i + 1) (hp : ¬ ps T t = 0) :
    Calls Try.prog 41 #[.pointer (some ⟨p, 0, none⟩), .int .i64 (i : Int)] w fun e w' => e = .returned (.int .i64 ((ps T t : Int) - 1)) ∧ Keep [g] w w' ∧ ∃ S1 G1, Pool w' p g n cap room S1 ∧ Lc S1 n T G1 := by
  have PH := hide h
  have KP := hide (Keep.refl [g] w)
  have LH := hide L
  clear h L
  have lt1 := (unhide LH).lt t hi
  have nnn := (unhide LH).nn
  have hTn := (unhide LH).ft.n
  have e1 : (0 : Int) ≤ (t : Int) := by omega
  have e2 : (t : Int) < (n : Int) := by omega
  have t1 := hi.1
  have e5 : ¬ (t : Int) = 0 := by omega
  have e6 : ¬ t = 0 := by omega
  have HT := hide hi
  have HI := hide hit
  clear hi hit t1
  have HP := hide hp
  clear hp
  refine callsK (n := 27) (L := [(0, .pointer (some ⟨p, 0, none⟩)), (1, .int .i64 (i : Int))]) Try.func41 rfl Try.ntmps41 rfl rfl (fun a0 K0 => ?_)
  refine seqR ?_
  refine lac K0 rfl rfl (want_none rfl) rfl (fun a1 K1 => ?_)
  refine nilN ?_
  refine seqR ?_
  refine lmv K1 rfl rfl (want_none rfl) rfl rfl (fun a2 K2 => ?_)
  clear K1
  refine lmv K2 rfl rfl (want_none rfl) rfl rfl (fun a3 K3 => ?_)
  clear K2
  refine lcall (f := 58) (args := #[.pointer (some ⟨p, 0, none⟩), .int .i64 (i : Int)]) K3 rfl rfl (want_none rfl) (fun ev E => ?_) (findY (unhide PH) (unhide LH) (unhide HT) (unhide HI)) (fun e W4 hR => ?_)
  · have EF := E.func; have E6 := E.tmp 6 _ rfl; have E7 := E.tmp 7 _ rfl; clear E; clear PH KP LH HT HI HP; go_simp
  obtain ⟨rfl, Q1, P1⟩ := hR
  have Q2 := hide ((unhide KP).tr Q1)
  clear PH KP Q1
  have PH := hide P1
  have KP := Q2
  clear Q2 P1
  refine ⟨_, rfl, fun a5 K5 => ?_⟩
  clear K3
  refine las K5 rfl rfl (want_none rfl) rfl rfl (fun a6 K6 => ?_)
  clear K5
  refine nilN ?_
  refine seqN ?_
  refine seqR ?_
  refine lmv K6 rfl rfl (want_none rfl) rfl rfl (fun a7 K7 => ?_)
  clear K6
  refine ltake (v := .bool false) (w' := W4) K7 rfl rfl (want_none rfl) (fun ev E => ?_) (fun a8 K8 => ?_)
  · have EC := E.const; have E9 := E.tmp 9 _ rfl; clear E; clear PH KP LH HT HI HP; go_simp
  clear K7
  refine lmv K8 rfl rfl (want_none rfl) rfl rfl (fun a9 K9 => ?_)
  clear K8
  refine lmv K9 rfl rfl (want_some K9 rfl rfl rfl) rfl rfl (fun a10 K10 => ?_)
  clear K9
  refine lmv K10 rfl rfl (want_some K10 rfl rfl rfl) rfl rfl (fun a11 K11 => ?_)
  clear K10
  refine lcall (f := 57) (args := #[.pointer (some ⟨p, 0, none⟩), .int .i64 (t : Int)]) K11 rfl rfl (want_some K11 rfl rfl rfl) (fun ev E => ?_) (isRootL (unhide PH) (unhide LH) (unhide HT)) (fun e W12 hR => ?_)
  · have EF := E.func; have E12 := E.tmp 12 _ rfl; have E13 := E.tmp 13 _ rfl; clear E; clear PH KP LH HT HI HP; go_simp
  obtain ⟨Q1, met1, S1, G1, rfl, P1, L1, X1⟩ := hR
  have Q2 := hide ((unhide KP).tr Q1)
  clear PH KP Q1
  have PH := hide P1
  have KP := Q2
  clear Q2 P1
  refine ⟨_, rfl, fun a13 K13 => ?_⟩
  clear K11
  have E1 := X1.pth L1 (unhide HT)
  have l0 : ¬ (S1 t).l = 0 := fun e0 => by
    have en := (L1.loc t (unhide HT)).en
    rw [((L1.loc t (unhide HT)).tp X1.top).b] at en
    have q : G1.fi t = t := en.l0 e0
    have := X1.root
    rw [q] at this
    exact unhide HP this
  have l0i : (((S1 t).l : Int) == 0) = false := by simp; omega
  rw [l0i] at K13
  have HL := hide l0
  clear l0 l0i
  refine ltake (v := .bool false) (w' := W12) K13 rfl rfl (want_none rfl) (fun ev E => ?_) (fun a14 K14 => ?_)
  · have EC := E.const; have E11 := E.tmp 11 _ rfl; have E14 := E.tmp 14 _ rfl; clear E; clear PH KP LH HT HI HP L1 X1 E1 HL; go_simp
  clear K13
  refine nilN ?_
  refine knCond (b := false) K14 rfl ?_
  refine wp_skip ?_
  show Code.wp _ _ _ _ _
  refine seqR ?_
  refine lmv K14 rfl rfl (want_none rfl) rfl rfl (fun a15 K15 => ?_)
  clear K14
  refine lmv K15 rfl rfl (want_none rfl) rfl rfl (fun a16 K16 => ?_)
  clear K15
  refine lnc K16 rfl rfl (want_none rfl) rfl rfl (fun a17 K17 => ?_)
  clear K16
  refine lfa K17 rfl rfl (want_none rfl) rfl rfl FA66_1 (fun a18 K18 => ?_)
  clear K17
  refine ltake (v := .slice (some ⟨g, 0, none⟩) n cap) (w' := W12) K18 rfl rfl (want_none rfl) (fun ev E => ?_) (fun a19 K19 => ?_)
  · obtain ⟨c0, c1, _⟩ := (unhide PH).head; have E19 := E.tmp 19 _ rfl; clear E; clear PH KP LH HT HI HP L1 X1 E1 HL; go_simp
  clear K18
  refine lmv K19 rfl rfl (want_none rfl) rfl rfl (fun a20 K20 => ?_)
  clear K19
  refine ltake (v := .pointer (some ⟨g, t * 14, none⟩)) (w' := W12) K20 rfl rfl (want_none rfl) (fun ev E => ?_) (fun a21 K21 => ?_)
  · have E20 := E.tmp 20 _ rfl; have E21 := E.tmp 21 _ rfl; clear E; clear PH KP LH HT HI HP L1 X1 E1 HL; go_simp
  clear K20
  refine lfa K21 rfl rfl (want_none rfl) rfl rfl FA75_1 (fun a22 K22 => ?_)
  clear K21
  refine ltake (v := .int .i64 ((S1 t).l : Int)) (w' := W12) K22 rfl rfl (want_none rfl) (fun ev E => ?_) (fun a23 K23 => ?_)
  · obtain ⟨s0, s1, s2, s3, s4, s5, s6, s7, s8, s9, s10, s11, s12, s13⟩ := (unhide PH).slot (t := t) (by assumption); have E23 := E.tmp 23 _ rfl; clear E; clear PH KP LH HT HI HP L1 X1 E1 HL; go_simp
  clear K22
  have l0 := unhide HL
  have Kl := (L1.loc t (unhide HT)).kl l0
  have tp1 := (L1.loc t (unhide HT)).tp X1.top
  have hb1 : G1.b (S1 t).l = false := by rw [Kl.b, tp1.b, X1.idle.1]; rfl
  have en := (L1.loc t (unhide HT)).en
  rw [tp1.b] at en
  have q : G1.pn (G1.la (S1 t).l) = t := (en.l1 l0).2
  have hq : ps T t = G1.la (S1 t).l := (L1.ps_pn (L1.la_th Kl.th) q (by omega)).2
  have lf1 := L1.lt _ (L1.la_th Kl.th)
  have HQ := hide hq
  have w1 : IntKind.i64.wrap ((G1.la (S1 t).l : Int) - 1) = (G1.la (S1 t).l : Int) - 1 := IntWalk.i64_in _ (by omega)
  clear l0 tp1 en q hq
  refine lcall (f := 74) (args := #[.pointer (some ⟨p, 0, none⟩), .int .i64 ((S1 t).l : Int)]) K23 rfl rfl (want_none rfl) (fun ev E => ?_) (lastL (unhide PH) L1 Kl.th hb1) (fun e W24 hR => ?_)
  · have EF := E.func; have E16 := E.tmp 16 _ rfl; have E24 := E.tmp 24 _ rfl; clear E; clear PH KP LH HT HI HP L1 X1 E1 HL Kl hb1 HQ; go_simp
  obtain ⟨rfl, Q1, S2, G2, P1, L2, F2, T2, i2⟩ := hR
  have Q2 := hide ((unhide KP).tr Q1)
  clear PH KP Q1
  have PH := hide P1
  have KP := Q2
  clear Q2 P1
  refine ⟨_, rfl, fun a25 K25 => ?_⟩
  clear K23
  refine ltake (v := .int .i64 ((G1.la (S1 t).l : Int) - 1)) (w' := W24) K25 rfl rfl (want_none rfl) (fun ev E => ?_) (fun a26 K26 => ?_)
  · have EC := E.const; have E25 := E.tmp 25 _ rfl; clear E; clear PH KP LH HT HI HP L1 X1 E1 HL Kl hb1 HQ L2 F2 T2 i2; go_simp
  clear K25
  refine las K26 rfl rfl (want_none rfl) rfl rfl (fun a27 K27 => ?_)
  clear K26
  refine nilN ?_
  refine wp_ret ?_
  refine bodyPost_ret (v := .int .i64 ((G1.la (S1 t).l : Int) - 1)) ?_ K27.defers ⟨by rw [unhide HQ], unhide KP, S2, G2, unhide PH, L2⟩
  have e4 := K27.has 4 _ rfl
  simp [results, Try.results41, go_sem, e4]
end Go.Proofs.Ytjnkgakajenoaaa
/- The program's forest: whether two nodes are in one tree. -/

namespace Go.Proofs.Ytjnkgakajenoaaa
open Go.RowKit Go.Arb
set_option linter.unusedVariables false
set_option linter.unusedSimpArgs false
set_option maxRecDepth 100000

theorem dskip {P : Program} {ops : Array Oper} {Q : Exit → Act → World → Prop} {S : World → Prop} {a : Act} {w : World} {o : Oper} {d n : Nat} {L : List (Nat × Value)} {i fuel : Nat} {l1 : Array Bool} (hk : Kn a n L) (hq : ∀ c a a' w, Q (.panic c) a w → Q (.panic c) a' w) (hi : ops[i]? = some o) (hs : Region.noSelect ops = true) (hf : Region.free .any ops l1 i = true) (hr : (Region.ready .any ops l1).contains i = true)
    (ho : o.dst = some d) (hd : Nat.blt d n = true) (hw : Region.wanted o (yielded ops a.tmps) = false) (hS : S w)
    (h : ∀ a', Kn a' n ((d, undef) :: L) → wpAnyH P .any ops Q S fuel (l1.setIfInBounds i true) a' w) : wpAnyH P .any ops Q S (fuel + 1) l1 a w := by
  refine wpAnyH_take (v := undef) hi hs hf hr (fun c a w h => hq c _ _ w h) (Or.inr ⟨hw, rfl⟩) hS ?_
  rw [ho]
  exact h _ (hk.put hd)
def O43_5_0 : Oper := ⟨some 27, .move (.tmp 1), 3, "link.go:76", #[], none⟩
def O43_5_1 : Oper := ⟨some 28, .move (.tmp 2), 3, "link.go:76", #[], none⟩
def O43_5_2 : Oper := ⟨some 29, .binOp .eql 3 (.tmp 27) (.tmp 28) 3, 4, "link.go:76", #[⟨0, .data⟩, ⟨1, .data⟩], none⟩
def O43_5_3 : Oper := ⟨some 30, .move (.tmp 29), 4, "link.go:76", #[⟨2, .data⟩], none⟩
def O43_5_4 : Oper := ⟨some 31, .move (.tmp 0), 23, "link.go:76", #[⟨3, .guard⟩], some (3, false)⟩
def O43_5_5 : Oper := ⟨some 32, .nilCheck (.tmp 31), 0, "link.go:76", #[⟨4, .data⟩, ⟨3, .guard⟩], some (3, false)⟩
def O43_5_6 : Oper := ⟨some 33, .fieldAddr 66 (.tmp 32) 1, 0, "link.go:76", #[⟨5, .data⟩, ⟨3, .guard⟩], some (3, false)⟩
def O43_5_7 : Oper := ⟨some 34, .load 64 (.tmp 33), 64, "link.go:76", #[⟨6, .data⟩, ⟨3, .guard⟩], some (3, false)⟩
def O43_5_8 : Oper := ⟨some 35, .move (.tmp 0), 23, "link.go:76", #[⟨3, .guard⟩], some (3, false)⟩
def O43_5_9 : Oper := ⟨some 36, .move (.tmp 1), 3, "link.go:76", #[⟨3, .guard⟩], some (3, false)⟩
def O43_5_10 : Oper := ⟨some 37, .call { callee := (.value (.func 58)), args := #[(.tmp 35), (.tmp 36)], argTypes := #[23, 3] }, 3, "link.go:76", #[⟨8, .data⟩, ⟨9, .data⟩, ⟨3, .chain⟩, ⟨3, .guard⟩], some (3, false)⟩
def O43_5_11 : Oper := ⟨some 38, .indexAddr 64 (.tmp 34) (.tmp 37), 0, "link.go:76", #[⟨7, .data⟩, ⟨10, .data⟩, ⟨3, .guard⟩], some (3, false)⟩
def O43_5_12 : Oper := ⟨some 39, .fieldAddr 75 (.tmp 38) 0, 0, "link.go:76", #[⟨11, .data⟩, ⟨3, .guard⟩], some (3, false)⟩
def O43_5_13 : Oper := ⟨some 40, .load 3 (.tmp 39), 3, "link.go:76", #[⟨12, .data⟩, ⟨3, .guard⟩], some (3, false)⟩
def O43_5_14 : Oper := ⟨some 41, .binOp .neq 3 (.tmp 40) (.const (.int .i64 0)) 3, 4, "link.go:76", #[⟨13, .data⟩, ⟨3, .guard⟩], some (3, false)⟩
def O43_5_15 : Oper := ⟨some 42, .pick (.tmp 30) (.const (.bool true)) (.tmp 41), 4, "link.go:76", #[⟨3, .data⟩, ⟨14, .data⟩], none⟩
def O43_5_16 : Oper := ⟨some 6, .assign (.tmp 42), 4, "link.go:76", #[⟨15, .data⟩, ⟨10, .chain⟩, ⟨0, .phase⟩, ⟨1, .phase⟩, ⟨2, .phase⟩, ⟨3, .phase⟩, ⟨4, .phase⟩, ⟨5, .phase⟩, ⟨6, .phase⟩, ⟨7, .phase⟩, ⟨8, .phase⟩, ⟨9, .phase⟩, ⟨10, .phase⟩, ⟨11, .phase⟩, ⟨12, .phase⟩, ⟨13, .phase⟩, ⟨14, .phase⟩, ⟨15, .phase⟩], none⟩
def OPS43_5 : List Oper := [O43_5_0, O43_5_1, O43_5_2, O43_5_3, O43_5_4, O43_5_5, O43_5_6, O43_5_7, O43_5_8, O43_5_9, O43_5_10, O43_5_11, O43_5_12, O43_5_13, O43_5_14, O43_5_15, O43_5_16]
theorem NS43_5 : Region.noSelect OPS43_5.toArray = true := by kernel_rfl
set_option maxHeartbeats 4000000 in
theorem sameN1 {p g n cap room : Nat} {T : Tr} {S : Ss} {G : Gh} {w : World} {x y : Int} (h : Pool w p g n cap room S) (L : Lc S n T G) (hx : T.hasI x = false) :
    Calls Try.prog 43 #[.pointer (some ⟨p, 0, none⟩), .int .i64 x, .int .i64 y] w fun e w' => e = .returned (.bool false) ∧ Keep [g] w w' ∧ Pool w' p g n cap room S := by
  have PH := hide h
  have KP := hide (Keep.refl [g] w)
  have LH := hide L
  clear h L
  refine callsK (n := 43) (L := [(0, .pointer (some ⟨p, 0, none⟩)), (1, .int .i64 x), (2, .int .i64 y)]) Try.func43 rfl Try.ntmps43 rfl rfl (fun a0 K0 => ?_)
  refine seqR ?_
  refine lac K0 rfl rfl (want_none rfl) rfl (fun a1 K1 => ?_)
  refine nilN ?_
  refine wp_seq ?_
  refine seqR ?_
  refine lmv K1 rfl rfl (want_none rfl) rfl rfl (fun a2 K2 => ?_)
  clear K1
  refine lmv K2 rfl rfl (want_none rfl) rfl rfl (fun a3 K3 => ?_)
  clear K2
  refine lcall (f := 37) (args := #[.pointer (some ⟨p, 0, none⟩), .int .i64 x]) K3 rfl rfl (want_none rfl) (fun ev E => ?_) (hasN (unhide PH) (unhide LH) hx) (fun e W4 hR => ?_)
  · have EF := E.func; have E7 := E.tmp 7 _ rfl; have E8 := E.tmp 8 _ rfl; clear E; clear PH KP LH; go_simp
  obtain ⟨rfl, Q1, P1⟩ := hR
  have Q2 := hide ((unhide KP).tr Q1)
  clear PH KP Q1
  have PH := hide P1
  have KP := Q2
  clear Q2 P1
  refine ⟨_, rfl, fun a5 K5 => ?_⟩
  clear K3
  refine ltake (v := .bool true) (w' := W4) K5 rfl rfl (want_none rfl) (fun ev E => ?_) (fun a6 K6 => ?_)
  · have E9 := E.tmp 9 _ rfl; clear E; clear PH KP LH; go_simp
  clear K5
  refine lmv K6 rfl rfl (want_none rfl) rfl rfl (fun a7 K7 => ?_)
  clear K6
  refine lskip K7 rfl rfl (want_not K7 rfl rfl rfl (by decide)) (fun a8 K8 => ?_)
  refine lskip K8 rfl rfl (want_not K8 rfl rfl rfl (by decide)) (fun a9 K9 => ?_)
  refine lskip K9 rfl rfl (want_not K9 rfl rfl rfl (by decide)) (fun a10 K10 => ?_)
  refine lskip K10 rfl rfl (want_not K10 rfl rfl rfl (by decide)) (fun a11 K11 => ?_)
  refine ltake (v := .bool true) (w' := W4) K11 rfl rfl (want_none rfl) (fun ev E => ?_) (fun a12 K12 => ?_)
  · have EC := E.const; have E11 := E.tmp 11 _ rfl; have E15 := E.tmp 15 _ rfl; clear E; clear PH KP LH; go_simp
  clear K11
  refine nilN ?_
  refine knCond (b := true) K12 rfl ?_
  refine seqR ?_
  refine lac K12 rfl rfl (want_none rfl) rfl (fun a13 K13 => ?_)
  clear K12
  refine nilN ?_
  refine wp_ret ?_
  refine thenRet ?_
  refine bodyPost_ret (v := .bool false) ?_ K13.defers ⟨rfl, unhide KP, unhide PH⟩
  have e6 := K13.has 6 _ rfl
  simp [results, Try.results43, go_sem, e6]
set_option maxHeartbeats 4000000 in
theorem sameN2 {p g n cap room : Nat} {T : Tr} {S : Ss} {G : Gh} {w : World} {i t : Nat} {y : Int} (h : Pool w p g n cap room S) (L : Lc S n T G) (hi : Th T t) (hit : t = i + 1) (hy : T.hasI y = false) :
    Calls Try.prog 43 #[.pointer (some ⟨p, 0, none⟩), .int .i64 (i : Int), .int .i64 y] w fun e w' => e = .returned (.bool false) ∧ Keep [g] w w' ∧ Pool w' p g n cap room S := by
  have PH := hide h
  have KP := hide (Keep.refl [g] w)
  have LH := hide L
  clear h L
  have HT := hide hi
  have HI := hide hit
  clear hi hit
  refine callsK (n := 43) (L := [(0, .pointer (some ⟨p, 0, none⟩)), (1, .int .i64 (i : Int)), (2, .int .i64 y)]) Try.func43 rfl Try.ntmps43 rfl rfl (fun a0 K0 => ?_)
  refine seqR ?_
  refine lac K0 rfl rfl (want_none rfl) rfl (fun a1 K1 => ?_)
  refine nilN ?_
  refine wp_seq ?_
  refine seqR ?_
  refine lmv K1 rfl rfl (want_none rfl) rfl rfl (fun a2 K2 => ?_)
  clear K1
  refine lmv K2 rfl rfl (want_none rfl) rfl rfl (fun a3 K3 => ?_)
  clear K2
  refine lcall (f := 37) (args := #[.pointer (some ⟨p, 0, none⟩), .int .i64 (i : Int)]) K3 rfl rfl (want_none rfl) (fun ev E => ?_) (hasY (unhide PH) (unhide LH) (unhide HT) (unhide HI)) (fun e W4 hR => ?_)
  · have EF := E.func; have E7 := E.tmp 7 _ rfl; have E8 := E.tmp 8 _ rfl; clear E; clear PH KP LH HT HI; go_simp
  obtain ⟨rfl, Q1, P1⟩ := hR
  have Q2 := hide ((unhide KP).tr Q1)
  clear PH KP Q1
  have PH := hide P1
  have KP := Q2
  clear Q2 P1
  refine ⟨_, rfl, fun a5 K5 => ?_⟩
  clear K3
  refine ltake (v := .bool false) (w' := W4) K5 rfl rfl (want_none rfl) (fun ev E => ?_) (fun a6 K6 => ?_)
  · have E9 := E.tmp 9 _ rfl; clear E; clear PH KP LH HT HI; go_simp
  clear K5
  refine lmv K6 rfl rfl (want_none rfl) rfl rfl (fun a7 K7 => ?_)
  clear K6
  refine lmv K7 rfl rfl (want_some K7 rfl rfl rfl) rfl rfl (fun a8 K8 => ?_)
  clear K7
  refine lmv K8 rfl rfl (want_some K8 rfl rfl rfl) rfl rfl (fun a9 K9 => ?_)
  clear K8
  refine lcall (f := 37) (args := #[.pointer (some ⟨p, 0, none⟩), .int .i64 y]) K9 rfl rfl (want_some K9 rfl rfl rfl) (fun ev E => ?_) (hasN (unhide PH) (unhide LH) hy) (fun e W10 hR => ?_)
  · have EF := E.func; have E12 := E.tmp 12 _ rfl; have E13 := E.tmp 13 _ rfl; clear E; clear PH KP LH HT HI; go_simp
  obtain ⟨rfl, Q1, P1⟩ := hR
  have Q2 := hide ((unhide KP).tr Q1)
  clear PH KP Q1
  have PH := hide P1
  have KP := Q2
  clear Q2 P1
  refine ⟨_, rfl, fun a11 K11 => ?_⟩
  clear K9
  refine ltake (v := .bool true) (w' := W10) K11 rfl rfl (want_some K11 rfl rfl rfl) (fun ev E => ?_) (fun a12 K12 => ?_)
  · have E14 := E.tmp 14 _ rfl; clear E; clear PH KP LH HT HI; go_simp
  clear K11
  refine ltake (v := .bool true) (w' := W10) K12 rfl rfl (want_none rfl) (fun ev E => ?_) (fun a13 K13 => ?_)
  · have EC := E.const; have E11 := E.tmp 11 _ rfl; have E15 := E.tmp 15 _ rfl; clear E; clear PH KP LH HT HI; go_simp
  clear K12
  refine nilN ?_
  refine knCond (b := true) K13 rfl ?_
  refine seqR ?_
  refine lac K13 rfl rfl (want_none rfl) rfl (fun a14 K14 => ?_)
  clear K13
  refine nilN ?_
  refine wp_ret ?_
  refine thenRet ?_
  refine bodyPost_ret (v := .bool false) ?_ K14.defers ⟨rfl, unhide KP, unhide PH⟩
  have e6 := K14.has 6 _ rfl
  simp [results, Try.results43, go_sem, e6]
set_option maxHeartbeats 4000000 in
theorem sameEq {p g n cap room : Nat} {T : Tr} {S : Ss} {G : Gh} {w : World} {i t j u : Nat} (h : Pool w p g n cap room S) (L : Lc S n T G) (hi : Th T t) (hit : t = i + 1) (hj : Th T u) (hju : u = j + 1) (hij : i = j) :
    Calls Try.prog 43 #[.pointer (some ⟨p, 0, none⟩), .int .i64 (i : Int), .int .i64 (j : Int)] w fun e w' => ∃ met1 met2 S1 G1 S2 G2, e = .returned (.bool true) ∧ Keep [g] w w' ∧ Pool w' p g n cap room S2 ∧ Lc S1 n T G1 ∧ Lc S2 n T G2 ∧ Exd n T t S G met1 S1 G1 ∧ Exd n T u S1 G1 met2 S2 G2 := by
  have PH := hide h
  have KP := hide (Keep.refl [g] w)
  have LH := hide L
  clear h L
  have lt1 := (unhide LH).lt t hi
  have lt2 := (unhide LH).lt u hj
  have e1 : (0 : Int) ≤ (t : Int) := by omega
  have e2 : (t : Int) < (n : Int) := by omega
  have e3 : (0 : Int) ≤ (u : Int) := by omega
  have e4 : (u : Int) < (n : Int) := by omega
  have HT := hide hi
  have HI := hide hit
  have HU := hide hj
  have HJ := hide hju
  clear hi hit hj hju
  have hij2 : (i : Int) = (j : Int) := by omega
  refine callsK (n := 43) (L := [(0, .pointer (some ⟨p, 0, none⟩)), (1, .int .i64 (i : Int)), (2, .int .i64 (j : Int))]) Try.func43 rfl Try.ntmps43 rfl rfl (fun a0 K0 => ?_)
  refine seqR ?_
  refine lac K0 rfl rfl (want_none rfl) rfl (fun a1 K1 => ?_)
  refine nilN ?_
  refine seqN ?_
  refine seqR ?_
  refine lmv K1 rfl rfl (want_none rfl) rfl rfl (fun a2 K2 => ?_)
  clear K1
  refine lmv K2 rfl rfl (want_none rfl) rfl rfl (fun a3 K3 => ?_)
  clear K2
  refine lcall (f := 37) (args := #[.pointer (some ⟨p, 0, none⟩), .int .i64 (i : Int)]) K3 rfl rfl (want_none rfl) (fun ev E => ?_) (hasY (unhide PH) (unhide LH) (unhide HT) (unhide HI)) (fun e W4 hR => ?_)
  · have EF := E.func; have E7 := E.tmp 7 _ rfl; have E8 := E.tmp 8 _ rfl; clear E; clear PH KP LH HT HI HU HJ; go_simp
  obtain ⟨rfl, Q1, P1⟩ := hR
  have Q2 := hide ((unhide KP).tr Q1)
  clear PH KP Q1
  have PH := hide P1
  have KP := Q2
  clear Q2 P1
  refine ⟨_, rfl, fun a5 K5 => ?_⟩
  clear K3
  refine ltake (v := .bool false) (w' := W4) K5 rfl rfl (want_none rfl) (fun ev E => ?_) (fun a6 K6 => ?_)
  · have E9 := E.tmp 9 _ rfl; clear E; clear PH KP LH HT HI HU HJ; go_simp
  clear K5
  refine lmv K6 rfl rfl (want_none rfl) rfl rfl (fun a7 K7 => ?_)
  clear K6
  refine lmv K7 rfl rfl (want_some K7 rfl rfl rfl) rfl rfl (fun a8 K8 => ?_)
  clear K7
  refine lmv K8 rfl rfl (want_some K8 rfl rfl rfl) rfl rfl (fun a9 K9 => ?_)
  clear K8
  refine lcall (f := 37) (args := #[.pointer (some ⟨p, 0, none⟩), .int .i64 (j : Int)]) K9 rfl rfl (want_some K9 rfl rfl rfl) (fun ev E => ?_) (hasY (unhide PH) (unhide LH) (unhide HU) (unhide HJ)) (fun e W10 hR => ?_)
  · have EF := E.func; have E12 := E.tmp 12 _ rfl; have E13 := E.tmp 13 _ rfl; clear E; clear PH KP LH HT HI HU HJ; go_simp
  obtain ⟨rfl, Q1, P1⟩ := hR
  have Q2 := hide ((unhide KP).tr Q1)
  clear PH KP Q1
  have PH := hide P1
  have KP := Q2
  clear Q2 P1
  refine ⟨_, rfl, fun a11 K11 => ?_⟩
  clear K9
  refine ltake (v := .bool false) (w' := W10) K11 rfl rfl (want_some K11 rfl rfl rfl) (fun ev E => ?_) (fun a12 K12 => ?_)
  · have E14 := E.tmp 14 _ rfl; clear E; clear PH KP LH HT HI HU HJ; go_simp
  clear K11
  refine ltake (v := .bool false) (w' := W10) K12 rfl rfl (want_none rfl) (fun ev E => ?_) (fun a13 K13 => ?_)
  · have EC := E.const; have E11 := E.tmp 11 _ rfl; have E15 := E.tmp 15 _ rfl; clear E; clear PH KP LH HT HI HU HJ; go_simp
  clear K12
  refine nilN ?_
  refine knCond (b := false) K13 rfl ?_
  refine wp_skip ?_
  show Code.wp _ _ _ _ _
  refine seqR ?_
  refine lmv K13 rfl rfl (want_none rfl) rfl rfl (fun a14 K14 => ?_)
  clear K13
  refine lmv K14 rfl rfl (want_none rfl) rfl rfl (fun a15 K15 => ?_)
  clear K14
  refine lmv K15 rfl rfl (want_none rfl) rfl rfl (fun a16 K16 => ?_)
  clear K15
  refine lcall (f := 58) (args := #[.pointer (some ⟨p, 0, none⟩), .int .i64 (i : Int)]) K16 rfl rfl (want_none rfl) (fun ev E => ?_) (findY (unhide PH) (unhide LH) (unhide HT) (unhide HI)) (fun e W17 hR => ?_)
  · have EF := E.func; have E18 := E.tmp 18 _ rfl; have E19 := E.tmp 19 _ rfl; clear E; clear PH KP LH HT HI HU HJ; go_simp
  obtain ⟨rfl, Q1, P1⟩ := hR
  have Q2 := hide ((unhide KP).tr Q1)
  clear PH KP Q1
  have PH := hide P1
  have KP := Q2
  clear Q2 P1
  refine ⟨_, rfl, fun a18 K18 => ?_⟩
  clear K16
  refine lcall (f := 61) (args := #[.pointer (some ⟨p, 0, none⟩), .int .i64 (t : Int)]) K18 rfl rfl (want_none rfl) (fun ev E => ?_) (exposeL (unhide PH) (unhide LH) (unhide HT)) (fun e W19 hR => ?_)
  · have EF := E.func; have E17 := E.tmp 17 _ rfl; have E20 := E.tmp 20 _ rfl; clear E; clear PH KP LH HT HI HU HJ; go_simp
  obtain ⟨met1, rfl, Q1, S1, G1, P1, L1, X1⟩ := hR
  have Q2 := hide ((unhide KP).tr Q1)
  clear PH KP Q1
  have PH := hide P1
  have KP := Q2
  clear Q2 P1
  refine ⟨_, rfl, fun a20 K20 => ?_⟩
  clear K18
  refine nilN ?_
  refine seqR ?_
  refine lmv K20 rfl rfl (want_none rfl) rfl rfl (fun a21 K21 => ?_)
  clear K20
  refine lmv K21 rfl rfl (want_none rfl) rfl rfl (fun a22 K22 => ?_)
  clear K21
  refine lmv K22 rfl rfl (want_none rfl) rfl rfl (fun a23 K23 => ?_)
  clear K22
  refine lcall (f := 58) (args := #[.pointer (some ⟨p, 0, none⟩), .int .i64 (j : Int)]) K23 rfl rfl (want_none rfl) (fun ev E => ?_) (findY (unhide PH) L1 (unhide HU) (unhide HJ)) (fun e W24 hR => ?_)
  · have EF := E.func; have E23 := E.tmp 23 _ rfl; have E24 := E.tmp 24 _ rfl; clear E; clear PH KP LH HT HI HU HJ L1 X1; go_simp
  obtain ⟨rfl, Q1, P1⟩ := hR
  have Q2 := hide ((unhide KP).tr Q1)
  clear PH KP Q1
  have PH := hide P1
  have KP := Q2
  clear Q2 P1
  refine ⟨_, rfl, fun a25 K25 => ?_⟩
  clear K23
  refine lcall (f := 61) (args := #[.pointer (some ⟨p, 0, none⟩), .int .i64 (u : Int)]) K25 rfl rfl (want_none rfl) (fun ev E => ?_) (exposeL (unhide PH) L1 (unhide HU)) (fun e W26 hR => ?_)
  · have EF := E.func; have E22 := E.tmp 22 _ rfl; have E25 := E.tmp 25 _ rfl; clear E; clear PH KP LH HT HI HU HJ L1 X1; go_simp
  obtain ⟨met2, rfl, Q1, S2, G2, P1, L2, X2⟩ := hR
  have Q2 := hide ((unhide KP).tr Q1)
  clear PH KP Q1
  have PH := hide P1
  have KP := Q2
  clear Q2 P1
  refine ⟨_, rfl, fun a27 K27 => ?_⟩
  clear K25
  refine nilN ?_
  refine seqN ?_
  skip
  have hS : (fun w' : World => Pool w' p g n cap room S2 ∧ Keep [g] w w') W26.drew := ⟨(unhide PH).drew, (unhide KP).drew⟩
  clear PH KP
  show (Code.region 5 OPS43_5.toArray true).wp _ _ _ _
  refine wp_region_held_drew (S := (fun w' : World => Pool w' p g n cap room S2 ∧ Keep [g] w w')) (by kernel_rfl) hS (fun hS => ?_)
  rw [show (OPS43_5.toArray).size = 17 from by kernel_rfl]
  refine dtake (i := 0) (o := O43_5_0) (v := .int .i64 (i : Int)) K27 (fun _ _ _ _ h => h) rfl NS43_5 (by kernel_rfl) (by kernel_rfl) rfl rfl (want_none rfl) (fun ev E w9 hSw => ?_) hS (fun a28 K28 => ?_)
  · clear hSw; have E1 := E.tmp 1 _ rfl; clear E; unfold O43_5_0; clear hS LH HT HI HU HJ L1 X1 L2 X2; go_simp
  clear K27
  refine dtake (i := 1) (o := O43_5_1) (v := .int .i64 (j : Int)) K28 (fun _ _ _ _ h => h) rfl NS43_5 (by kernel_rfl) (by kernel_rfl) rfl rfl (want_none rfl) (fun ev E w9 hSw => ?_) hS (fun a29 K29 => ?_)
  · clear hSw; have E2 := E.tmp 2 _ rfl; clear E; unfold O43_5_1; clear hS LH HT HI HU HJ L1 X1 L2 X2; go_simp
  clear K28
  refine dtake (i := 2) (o := O43_5_2) (v := .bool true) K29 (fun _ _ _ _ h => h) rfl NS43_5 (by kernel_rfl) (by kernel_rfl) rfl rfl (want_none rfl) (fun ev E w9 hSw => ?_) hS (fun a30 K30 => ?_)
  · clear hSw; have E27 := E.tmp 27 _ rfl; have E28 := E.tmp 28 _ rfl; clear E; unfold O43_5_2; clear hS LH HT HI HU HJ L1 X1 L2 X2; go_simp
  clear K29
  refine dtake (i := 3) (o := O43_5_3) (v := .bool true) K30 (fun _ _ _ _ h => h) rfl NS43_5 (by kernel_rfl) (by kernel_rfl) rfl rfl (want_none rfl) (fun ev E w9 hSw => ?_) hS (fun a31 K31 => ?_)
  · clear hSw; have E29 := E.tmp 29 _ rfl; clear E; unfold O43_5_3; clear hS LH HT HI HU HJ L1 X1 L2 X2; go_simp
  clear K30
  refine dskip (i := 4) (o := O43_5_4) K31 (fun _ _ _ _ h => h) rfl NS43_5 (by kernel_rfl) (by kernel_rfl) rfl rfl (want_not K31 rfl rfl rfl (by decide)) hS (fun a32 K32 => ?_)
  clear K31
  refine dskip (i := 5) (o := O43_5_5) K32 (fun _ _ _ _ h => h) rfl NS43_5 (by kernel_rfl) (by kernel_rfl) rfl rfl (want_not K32 rfl rfl rfl (by decide)) hS (fun a33 K33 => ?_)
  clear K32
  refine dskip (i := 6) (o := O43_5_6) K33 (fun _ _ _ _ h => h) rfl NS43_5 (by kernel_rfl) (by kernel_rfl) rfl rfl (want_not K33 rfl rfl rfl (by decide)) hS (fun a34 K34 => ?_)
  clear K33
  refine dskip (i := 7) (o := O43_5_7) K34 (fun _ _ _ _ h => h) rfl NS43_5 (by kernel_rfl) (by kernel_rfl) rfl rfl (want_not K34 rfl rfl rfl (by decide)) hS (fun a35 K35 => ?_)
  clear K34
  refine dskip (i := 8) (o := O43_5_8) K35 (fun _ _ _ _ h => h) rfl NS43_5 (by kernel_rfl) (by kernel_rfl) rfl rfl (want_not K35 rfl rfl rfl (by decide)) hS (fun a36 K36 => ?_)
  clear K35
  refine dskip (i := 9) (o := O43_5_9) K36 (fun _ _ _ _ h => h) rfl NS43_5 (by kernel_rfl) (by kernel_rfl) rfl rfl (want_not K36 rfl rfl rfl (by decide)) hS (fun a37 K37 => ?_)
  clear K36
  refine dskip (i := 10) (o := O43_5_10) K37 (fun _ _ _ _ h => h) rfl NS43_5 (by kernel_rfl) (by kernel_rfl) rfl rfl (want_not K37 rfl rfl rfl (by decide)) hS (fun a38 K38 => ?_)
  clear K37
  refine dskip (i := 11) (o := O43_5_11) K38 (fun _ _ _ _ h => h) rfl NS43_5 (by kernel_rfl) (by kernel_rfl) rfl rfl (want_not K38 rfl rfl rfl (by decide)) hS (fun a39 K39 => ?_)
  clear K38
  refine dskip (i := 12) (o := O43_5_12) K39 (fun _ _ _ _ h => h) rfl NS43_5 (by kernel_rfl) (by kernel_rfl) rfl rfl (want_not K39 rfl rfl rfl (by decide)) hS (fun a40 K40 => ?_)
  clear K39
  refine dskip (i := 13) (o := O43_5_13) K40 (fun _ _ _ _ h => h) rfl NS43_5 (by kernel_rfl) (by kernel_rfl) rfl rfl (want_not K40 rfl rfl rfl (by decide)) hS (fun a41 K41 => ?_)
  clear K40
  refine dskip (i := 14) (o := O43_5_14) K41 (fun _ _ _ _ h => h) rfl NS43_5 (by kernel_rfl) (by kernel_rfl) rfl rfl (want_not K41 rfl rfl rfl (by decide)) hS (fun a42 K42 => ?_)
  clear K41
  refine dtake (i := 15) (o := O43_5_15) (v := .bool true) K42 (fun _ _ _ _ h => h) rfl NS43_5 (by kernel_rfl) (by kernel_rfl) rfl rfl (want_none rfl) (fun ev E w9 hSw => ?_) hS (fun a43 K43 => ?_)
  · clear hSw; have EC := E.const; have E30 := E.tmp 30 _ rfl; have E41 := E.tmp 41 _ rfl; clear E; unfold O43_5_15; clear hS LH HT HI HU HJ L1 X1 L2 X2; go_simp
  clear K42
  refine dtake (i := 16) (o := O43_5_16) (v := .bool true) K43 (fun _ _ _ _ h => h) rfl NS43_5 (by kernel_rfl) (by kernel_rfl) rfl rfl (want_none rfl) (fun ev E w9 hSw => ?_) hS (fun a44 K44 => ?_)
  · clear hSw; have E42 := E.tmp 42 _ rfl; clear E; unfold O43_5_16; clear hS LH HT HI HU HJ L1 X1 L2 X2; go_simp
  clear K43
  refine wpAnyH_done (by kernel_rfl) ?_ _
  show Code.wp _ _ _ _ _
  refine wp_ret ?_
  refine bodyPost_ret (v := .bool true) ?_ K44.defers ⟨met1, met2, S1, G1, S2, G2, rfl, hS.2, hS.1, L1, L2, X1, X2⟩
  have e6 := K44.has 6 _ rfl
  simp [results, Try.results43, go_sem, e6]
set_option maxHeartbeats 4000000 in
theorem sameNe {p g n cap room : Nat} {T : Tr} {S : Ss} {G : Gh} {w : World} {i t j u : Nat} (h : Pool w p g n cap room S) (L : Lc S n T G) (hi : Th T t) (hit : t = i + 1) (hj : Th T u) (hju : u = j + 1) (hij : ¬ i = j) :
    Calls Try.prog 43 #[.pointer (some ⟨p, 0, none⟩), .int .i64 (i : Int), .int .i64 (j : Int)] w fun e w' => ∃ met1 met2 S1 G1 S2 G2, e = .returned (.bool (((S2 t).up : Int) != 0)) ∧ Keep [g] w w' ∧ Pool w' p g n cap room S2 ∧ Lc S1 n T G1 ∧ Lc S2 n T G2 ∧ Exd n T t S G met1 S1 G1 ∧ Exd n T u S1 G1 met2 S2 G2 := by
  have PH := hide h
  have KP := hide (Keep.refl [g] w)
  have LH := hide L
  clear h L
  have lt1 := (unhide LH).lt t hi
  have lt2 := (unhide LH).lt u hj
  have e1 : (0 : Int) ≤ (t : Int) := by omega
  have e2 : (t : Int) < (n : Int) := by omega
  have e3 : (0 : Int) ≤ (u : Int) := by omega
  have e4 : (u : Int) < (n : Int) := by omega
  have HT := hide hi
  have HI := hide hit
  have HU := hide hj
  have HJ := hide hju
  clear hi hit hj hju
  have hij2 : ¬ (i : Int) = (j : Int) := by omega
  refine callsK (n := 43) (L := [(0, .pointer (some ⟨p, 0, none⟩)), (1, .int .i64 (i : Int)), (2, .int .i64 (j : Int))]) Try.func43 rfl Try.ntmps43 rfl rfl (fun a0 K0 => ?_)
  refine seqR ?_
  refine lac K0 rfl rfl (want_none rfl) rfl (fun a1 K1 => ?_)
  refine nilN ?_
  refine seqN ?_
  refine seqR ?_
  refine lmv K1 rfl rfl (want_none rfl) rfl rfl (fun a2 K2 => ?_)
  clear K1
  refine lmv K2 rfl rfl (want_none rfl) rfl rfl (fun a3 K3 => ?_)
  clear K2
  refine lcall (f := 37) (args := #[.pointer (some ⟨p, 0, none⟩), .int .i64 (i : Int)]) K3 rfl rfl (want_none rfl) (fun ev E => ?_) (hasY (unhide PH) (unhide LH) (unhide HT) (unhide HI)) (fun e W4 hR => ?_)
  · have EF := E.func; have E7 := E.tmp 7 _ rfl; have E8 := E.tmp 8 _ rfl; clear E; clear PH KP LH HT HI HU HJ; go_simp
  obtain ⟨rfl, Q1, P1⟩ := hR
  have Q2 := hide ((unhide KP).tr Q1)
  clear PH KP Q1
  have PH := hide P1
  have KP := Q2
  clear Q2 P1
  refine ⟨_, rfl, fun a5 K5 => ?_⟩
  clear K3
  refine ltake (v := .bool false) (w' := W4) K5 rfl rfl (want_none rfl) (fun ev E => ?_) (fun a6 K6 => ?_)
  · have E9 := E.tmp 9 _ rfl; clear E; clear PH KP LH HT HI HU HJ; go_simp
  clear K5
  refine lmv K6 rfl rfl (want_none rfl) rfl rfl (fun a7 K7 => ?_)
  clear K6
  refine lmv K7 rfl rfl (want_some K7 rfl rfl rfl) rfl rfl (fun a8 K8 => ?_)
  clear K7
  refine lmv K8 rfl rfl (want_some K8 rfl rfl rfl) rfl rfl (fun a9 K9 => ?_)
  clear K8
  refine lcall (f := 37) (args := #[.pointer (some ⟨p, 0, none⟩), .int .i64 (j : Int)]) K9 rfl rfl (want_some K9 rfl rfl rfl) (fun ev E => ?_) (hasY (unhide PH) (unhide LH) (unhide HU) (unhide HJ)) (fun e W10 hR => ?_)
  · have EF := E.func; have E12 := E.tmp 12 _ rfl; have E13 := E.tmp 13 _ rfl; clear E; clear PH KP LH HT HI HU HJ; go_simp
  obtain ⟨rfl, Q1, P1⟩ := hR
  have Q2 := hide ((unhide KP).tr Q1)
  clear PH KP Q1
  have PH := hide P1
  have KP := Q2
  clear Q2 P1
  refine ⟨_, rfl, fun a11 K11 => ?_⟩
  clear K9
  refine ltake (v := .bool false) (w' := W10) K11 rfl rfl (want_some K11 rfl rfl rfl) (fun ev E => ?_) (fun a12 K12 => ?_)
  · have E14 := E.tmp 14 _ rfl; clear E; clear PH KP LH HT HI HU HJ; go_simp
  clear K11
  refine ltake (v := .bool false) (w' := W10) K12 rfl rfl (want_none rfl) (fun ev E => ?_) (fun a13 K13 => ?_)
  · have EC := E.const; have E11 := E.tmp 11 _ rfl; have E15 := E.tmp 15 _ rfl; clear E; clear PH KP LH HT HI HU HJ; go_simp
  clear K12
  refine nilN ?_
  refine knCond (b := false) K13 rfl ?_
  refine wp_skip ?_
  show Code.wp _ _ _ _ _
  refine seqR ?_
  refine lmv K13 rfl rfl (want_none rfl) rfl rfl (fun a14 K14 => ?_)
  clear K13
  refine lmv K14 rfl rfl (want_none rfl) rfl rfl (fun a15 K15 => ?_)
  clear K14
  refine lmv K15 rfl rfl (want_none rfl) rfl rfl (fun a16 K16 => ?_)
  clear K15
  refine lcall (f := 58) (args := #[.pointer (some ⟨p, 0, none⟩), .int .i64 (i : Int)]) K16 rfl rfl (want_none rfl) (fun ev E => ?_) (findY (unhide PH) (unhide LH) (unhide HT) (unhide HI)) (fun e W17 hR => ?_)
  · have EF := E.func; have E18 := E.tmp 18 _ rfl; have E19 := E.tmp 19 _ rfl; clear E; clear PH KP LH HT HI HU HJ; go_simp
  obtain ⟨rfl, Q1, P1⟩ := hR
  have Q2 := hide ((unhide KP).tr Q1)
  clear PH KP Q1
  have PH := hide P1
  have KP := Q2
  clear Q2 P1
  refine ⟨_, rfl, fun a18 K18 => ?_⟩
  clear K16
  refine lcall (f := 61) (args := #[.pointer (some ⟨p, 0, none⟩), .int .i64 (t : Int)]) K18 rfl rfl (want_none rfl) (fun ev E => ?_) (exposeL (unhide PH) (unhide LH) (unhide HT)) (fun e W19 hR => ?_)
  · have EF := E.func; have E17 := E.tmp 17 _ rfl; have E20 := E.tmp 20 _ rfl; clear E; clear PH KP LH HT HI HU HJ; go_simp
  obtain ⟨met1, rfl, Q1, S1, G1, P1, L1, X1⟩ := hR
  have Q2 := hide ((unhide KP).tr Q1)
  clear PH KP Q1
  have PH := hide P1
  have KP := Q2
  clear Q2 P1
  refine ⟨_, rfl, fun a20 K20 => ?_⟩
  clear K18
  refine nilN ?_
  refine seqR ?_
  refine lmv K20 rfl rfl (want_none rfl) rfl rfl (fun a21 K21 => ?_)
  clear K20
  refine lmv K21 rfl rfl (want_none rfl) rfl rfl (fun a22 K22 => ?_)
  clear K21
  refine lmv K22 rfl rfl (want_none rfl) rfl rfl (fun a23 K23 => ?_)
  clear K22
  refine lcall (f := 58) (args := #[.pointer (some ⟨p, 0, none⟩), .int .i64 (j : Int)]) K23 rfl rfl (want_none rfl) (fun ev E => ?_) (findY (unhide PH) L1 (unhide HU) (unhide HJ)) (fun e W24 hR => ?_)
  · have EF := E.func; have E23 := E.tmp 23 _ rfl; have E24 := E.tmp 24 _ rfl; clear E; clear PH KP LH HT HI HU HJ L1 X1; go_simp
  obtain ⟨rfl, Q1, P1⟩ := hR
  have Q2 := hide ((unhide KP).tr Q1)
  clear PH KP Q1
  have PH := hide P1
  have KP := Q2
  clear Q2 P1
  refine ⟨_, rfl, fun a25 K25 => ?_⟩
  clear K23
  refine lcall (f := 61) (args := #[.pointer (some ⟨p, 0, none⟩), .int .i64 (u : Int)]) K25 rfl rfl (want_none rfl) (fun ev E => ?_) (exposeL (unhide PH) L1 (unhide HU)) (fun e W26 hR => ?_)
  · have EF := E.func; have E22 := E.tmp 22 _ rfl; have E25 := E.tmp 25 _ rfl; clear E; clear PH KP LH HT HI HU HJ L1 X1; go_simp
  obtain ⟨met2, rfl, Q1, S2, G2, P1, L2, X2⟩ := hR
  have Q2 := hide ((unhide KP).tr Q1)
  clear PH KP Q1
  have PH := hide P1
  have KP := Q2
  clear Q2 P1
  refine ⟨_, rfl, fun a27 K27 => ?_⟩
  clear K25
  refine nilN ?_
  refine seqN ?_
  skip
  have hS : (fun w' : World => Pool w' p g n cap room S2 ∧ Keep [g] w w') W26.drew := ⟨(unhide PH).drew, (unhide KP).drew⟩
  clear PH KP
  show (Code.region 5 OPS43_5.toArray true).wp _ _ _ _
  refine wp_region_held_drew (S := (fun w' : World => Pool w' p g n cap room S2 ∧ Keep [g] w w')) (by kernel_rfl) hS (fun hS => ?_)
  rw [show (OPS43_5.toArray).size = 17 from by kernel_rfl]
  refine dtake (i := 0) (o := O43_5_0) (v := .int .i64 (i : Int)) K27 (fun _ _ _ _ h => h) rfl NS43_5 (by kernel_rfl) (by kernel_rfl) rfl rfl (want_none rfl) (fun ev E w9 hSw => ?_) hS (fun a28 K28 => ?_)
  · clear hSw; have E1 := E.tmp 1 _ rfl; clear E; unfold O43_5_0; clear hS LH HT HI HU HJ L1 X1 L2 X2; go_simp
  clear K27
  refine dtake (i := 1) (o := O43_5_1) (v := .int .i64 (j : Int)) K28 (fun _ _ _ _ h => h) rfl NS43_5 (by kernel_rfl) (by kernel_rfl) rfl rfl (want_none rfl) (fun ev E w9 hSw => ?_) hS (fun a29 K29 => ?_)
  · clear hSw; have E2 := E.tmp 2 _ rfl; clear E; unfold O43_5_1; clear hS LH HT HI HU HJ L1 X1 L2 X2; go_simp
  clear K28
  refine dtake (i := 2) (o := O43_5_2) (v := .bool false) K29 (fun _ _ _ _ h => h) rfl NS43_5 (by kernel_rfl) (by kernel_rfl) rfl rfl (want_none rfl) (fun ev E w9 hSw => ?_) hS (fun a30 K30 => ?_)
  · clear hSw; have E27 := E.tmp 27 _ rfl; have E28 := E.tmp 28 _ rfl; clear E; unfold O43_5_2; clear hS LH HT HI HU HJ L1 X1 L2 X2; go_simp
  clear K29
  refine dtake (i := 3) (o := O43_5_3) (v := .bool false) K30 (fun _ _ _ _ h => h) rfl NS43_5 (by kernel_rfl) (by kernel_rfl) rfl rfl (want_none rfl) (fun ev E w9 hSw => ?_) hS (fun a31 K31 => ?_)
  · clear hSw; have E29 := E.tmp 29 _ rfl; clear E; unfold O43_5_3; clear hS LH HT HI HU HJ L1 X1 L2 X2; go_simp
  clear K30
  refine dtake (i := 4) (o := O43_5_4) (v := .pointer (some ⟨p, 0, none⟩)) K31 (fun _ _ _ _ h => h) rfl NS43_5 (by kernel_rfl) (by kernel_rfl) rfl rfl (want_some K31 rfl rfl rfl) (fun ev E w9 hSw => ?_) hS (fun a32 K32 => ?_)
  · clear hSw; have E0 := E.tmp 0 _ rfl; clear E; unfold O43_5_4; clear hS LH HT HI HU HJ L1 X1 L2 X2; go_simp
  clear K31
  refine dtake (i := 5) (o := O43_5_5) (v := .pointer (some ⟨p, 0, none⟩)) K32 (fun _ _ _ _ h => h) rfl NS43_5 (by kernel_rfl) (by kernel_rfl) rfl rfl (want_some K32 rfl rfl rfl) (fun ev E w9 hSw => ?_) hS (fun a33 K33 => ?_)
  · clear hSw; have E31 := E.tmp 31 _ rfl; clear E; unfold O43_5_5; clear hS LH HT HI HU HJ L1 X1 L2 X2; go_simp
  clear K32
  refine dtake (i := 6) (o := O43_5_6) (v := .pointer (some ⟨p, 1, none⟩)) K33 (fun _ _ _ _ h => h) rfl NS43_5 (by kernel_rfl) (by kernel_rfl) rfl rfl (want_some K33 rfl rfl rfl) (fun ev E w9 hSw => ?_) hS (fun a34 K34 => ?_)
  · clear hSw; have E32 := E.tmp 32 _ rfl; clear E; unfold O43_5_6; clear hS LH HT HI HU HJ L1 X1 L2 X2; go_simp
  clear K33
  refine dtake (i := 7) (o := O43_5_7) (v := .slice (some ⟨g, 0, none⟩) n cap) K34 (fun _ _ _ _ h => h) rfl NS43_5 (by kernel_rfl) (by kernel_rfl) rfl rfl (want_some K34 rfl rfl rfl) (fun ev E w9 hSw => ?_) hS (fun a35 K35 => ?_)
  · obtain ⟨c0, c1, _⟩ := hSw.1.head; clear hSw; have E33 := E.tmp 33 _ rfl; clear E; unfold O43_5_7; clear hS LH HT HI HU HJ L1 X1 L2 X2; go_simp
  clear K34
  refine dtake (i := 8) (o := O43_5_8) (v := .pointer (some ⟨p, 0, none⟩)) K35 (fun _ _ _ _ h => h) rfl NS43_5 (by kernel_rfl) (by kernel_rfl) rfl rfl (want_some K35 rfl rfl rfl) (fun ev E w9 hSw => ?_) hS (fun a36 K36 => ?_)
  · clear hSw; have E0 := E.tmp 0 _ rfl; clear E; unfold O43_5_8; clear hS LH HT HI HU HJ L1 X1 L2 X2; go_simp
  clear K35
  refine dtake (i := 9) (o := O43_5_9) (v := .int .i64 (i : Int)) K36 (fun _ _ _ _ h => h) rfl NS43_5 (by kernel_rfl) (by kernel_rfl) rfl rfl (want_some K36 rfl rfl rfl) (fun ev E w9 hSw => ?_) hS (fun a37 K37 => ?_)
  · clear hSw; have E1 := E.tmp 1 _ rfl; clear E; unfold O43_5_9; clear hS LH HT HI HU HJ L1 X1 L2 X2; go_simp
  clear K36
  refine dcall (i := 10) (o := O43_5_10) (f := 58) (args := #[.pointer (some ⟨p, 0, none⟩), .int .i64 (i : Int)]) K37 rfl (by kernel_rfl) rfl rfl (want_some K37 rfl rfl rfl) (fun ev E => ?_) (findY hS.1 L2 (unhide HT) (unhide HI)) (fun e W38 hR => ?_)
  · have EF := E.func; have E35 := E.tmp 35 _ rfl; have E36 := E.tmp 36 _ rfl; clear E; unfold O43_5_10; clear hS LH HT HI HU HJ L1 X1 L2 X2; go_simp
  obtain ⟨rfl, Q1, P1⟩ := hR
  have hS2 : (fun w' : World => Pool w' p g n cap room S2 ∧ Keep [g] w w') W38 := ⟨P1, hS.2.tr Q1⟩
  clear hS Q1 P1
  have hS := hS2
  clear hS2
  refine ⟨_, rfl, hS, fun a38 K38 => ?_⟩
  clear K37
  refine dtake (i := 11) (o := O43_5_11) (v := .pointer (some ⟨g, t * 14, none⟩)) K38 (fun _ _ _ _ h => h) rfl NS43_5 (by kernel_rfl) (by kernel_rfl) rfl rfl (want_some K38 rfl rfl rfl) (fun ev E w9 hSw => ?_) hS (fun a39 K39 => ?_)
  · clear hSw; have E34 := E.tmp 34 _ rfl; have E37 := E.tmp 37 _ rfl; clear E; unfold O43_5_11; clear hS LH HT HI HU HJ L1 X1 L2 X2; go_simp
  clear K38
  refine dtake (i := 12) (o := O43_5_12) (v := .pointer (some ⟨g, t * 14, none⟩)) K39 (fun _ _ _ _ h => h) rfl NS43_5 (by kernel_rfl) (by kernel_rfl) rfl rfl (want_some K39 rfl rfl rfl) (fun ev E w9 hSw => ?_) hS (fun a40 K40 => ?_)
  · clear hSw; have E38 := E.tmp 38 _ rfl; clear E; unfold O43_5_12; clear hS LH HT HI HU HJ L1 X1 L2 X2; go_simp
  clear K39
  refine dtake (i := 13) (o := O43_5_13) (v := .int .i64 ((S2 t).up : Int)) K40 (fun _ _ _ _ h => h) rfl NS43_5 (by kernel_rfl) (by kernel_rfl) rfl rfl (want_some K40 rfl rfl rfl) (fun ev E w9 hSw => ?_) hS (fun a41 K41 => ?_)
  · obtain ⟨s0, s1, s2, s3, s4, s5, s6, s7, s8, s9, s10, s11, s12, s13⟩ := hSw.1.slot (t := t) (by assumption); clear hSw; have E39 := E.tmp 39 _ rfl; clear E; unfold O43_5_13; clear hS LH HT HI HU HJ L1 X1 L2 X2; go_simp
  clear K40
  refine dtake (i := 14) (o := O43_5_14) (v := .bool (((S2 t).up : Int) != 0)) K41 (fun _ _ _ _ h => h) rfl NS43_5 (by kernel_rfl) (by kernel_rfl) rfl rfl (want_some K41 rfl rfl rfl) (fun ev E w9 hSw => ?_) hS (fun a42 K42 => ?_)
  · clear hSw; have EC := E.const; have E40 := E.tmp 40 _ rfl; clear E; unfold O43_5_14; clear hS LH HT HI HU HJ L1 X1 L2 X2; go_simp
  clear K41
  refine dtake (i := 15) (o := O43_5_15) (v := .bool (((S2 t).up : Int) != 0)) K42 (fun _ _ _ _ h => h) rfl NS43_5 (by kernel_rfl) (by kernel_rfl) rfl rfl (want_none rfl) (fun ev E w9 hSw => ?_) hS (fun a43 K43 => ?_)
  · clear hSw; have EC := E.const; have E30 := E.tmp 30 _ rfl; have E41 := E.tmp 41 _ rfl; clear E; unfold O43_5_15; clear hS LH HT HI HU HJ L1 X1 L2 X2; go_simp
  clear K42
  refine dtake (i := 16) (o := O43_5_16) (v := .bool (((S2 t).up : Int) != 0)) K43 (fun _ _ _ _ h => h) rfl NS43_5 (by kernel_rfl) (by kernel_rfl) rfl rfl (want_none rfl) (fun ev E w9 hSw => ?_) hS (fun a44 K44 => ?_)
  · clear hSw; have E42 := E.tmp 42 _ rfl; clear E; unfold O43_5_16; clear hS LH HT HI HU HJ L1 X1 L2 X2; go_simp
  clear K43
  refine wpAnyH_done (by kernel_rfl) ?_ _
  show Code.wp _ _ _ _ _
  refine wp_ret ?_
  refine bodyPost_ret (v := .bool (((S2 t).up : Int) != 0)) ?_ K44.defers ⟨met1, met2, S1, G1, S2, G2, rfl, hS.2, hS.1, L1, L2, X1, X2⟩
  have e6 := K44.has 6 _ rfl
  simp [results, Try.results43, go_sem, e6]
/-- Whether they are in one tree. -/
theorem same_up {n : Nat} {T : Tr} {S S1 S2 : Ss} {G G1 G2 : Gh} {met1 met2 t u : Nat} (L1 : Lc S1 n T G1) (L2 : Lc S2 n T G2) (X1 : Exd n T t S G met1 S1 G1) (X2 : Exd n T u S1 G1 met2 S2 G2) (ht : Th T t) (hu : Th T u) (hne : t ≠ u) :
    (((S2 t).up : Int) != 0) = T.sameI ((t - 1 : Nat) : Int) ((u - 1 : Nat) : Int) := by
  have W := L1.wf
  have E1 := X1.pth L1 ht
  have E2 := X2.pth L2 hu
  have r1 := E1.rootI
  have r2 := E2.rootI
  have f1 := (L1.fi_th ht).1
  have f2 := (L2.fi_th hu).1
  unfold Tr.sameI
  rw [r1, r2]
  by_cases e : G1.fi t = G2.fi u
  · -- one tree
    have : (S2 t).up ≠ 0 := fun q => by
      have tT : Top S2 t := by unfold Top; rw [q, L2.s0]; exact ⟨by have := ht.1; show 0 ≠ t; omega, by have := ht.1; show 0 ≠ t; omega⟩
      have P := (L2.loc t ht).tp tT
      have hr : ps T (G2.fi t) = 0 := by rw [P.fi]; exact q
      have m1 := L2.fi_in ht
      have m2 := L1.fi_in ht
      have e2 : G2.fi t = G1.fi t := by
        rcases U_cmp' W m1 m2 with k | k
        · rw [U_th W (L1.fi_th ht), X1.root, U_zero] at k; simpa using k
        · rw [U_th W (L2.fi_th ht), hr, U_zero] at k; simp at k; exact k.symm
      exact hne (L2.uniq ht hu tT X2.top (e2.trans e))
    rw [e]
    have q1 : (((S2 t).up : Int) != 0) = true := by simp; exact this
    have q2 : (((G2.fi u : Int) - 1) != -1) = true := by simp; omega
    rw [q1, q2]; simp
  · have nin : G1.fi t ∉ U T u := fun k => e (by
      rcases U_cmp' W k (L2.fi_in hu) with q | q
      · rw [U_th W (L2.fi_th hu), X2.root, U_zero] at q; simpa using q
      · rw [U_th W (L1.fi_th ht), X1.root, U_zero] at q; simp at q; exact q.symm)
    obtain ⟨_, b2, _, _⟩ := X2.out t ht X1.top nin
    rw [b2, X1.up0]
    have : ((((G1.fi t : Int) - 1) == ((G2.fi u : Int) - 1)) : Bool) = false := by simp; omega
    rw [this]; simp
end Go.Proofs.Ytjnkgakajenoaaa
/- The program's forest: links. -/

namespace Go.Proofs.Ytjnkgakajenoaaa
open Go.RowKit Go.Arb
set_option linter.unusedVariables false
set_option linter.unusedSimpArgs false
set_option maxRecDepth 100000

def O59_1_0 : Oper := ⟨some 14, .move (.tmp 0), 23, "path.go:117", #[], none⟩
def O59_1_1 : Oper := ⟨some 15, .nilCheck (.tmp 14), 0, "path.go:117", #[⟨0, .data⟩], none⟩
def O59_1_2 : Oper := ⟨some 16, .fieldAddr 66 (.tmp 15) 1, 0, "path.go:117", #[⟨1, .data⟩], none⟩
def O59_1_3 : Oper := ⟨some 17, .load 64 (.tmp 16), 64, "path.go:117", #[⟨2, .data⟩], none⟩
def O59_1_4 : Oper := ⟨some 18, .move (.tmp 2), 3, "path.go:117", #[], none⟩
def O59_1_5 : Oper := ⟨some 19, .move (.tmp 0), 23, "path.go:117", #[], none⟩
def O59_1_6 : Oper := ⟨some 20, .nilCheck (.tmp 19), 0, "path.go:117", #[⟨5, .data⟩], none⟩
def O59_1_7 : Oper := ⟨some 21, .fieldAddr 66 (.tmp 20) 1, 0, "path.go:117", #[⟨6, .data⟩], none⟩
def O59_1_8 : Oper := ⟨some 22, .load 64 (.tmp 21), 64, "path.go:117", #[⟨7, .data⟩], none⟩
def O59_1_9 : Oper := ⟨some 23, .move (.tmp 2), 3, "path.go:117", #[], none⟩
def O59_1_10 : Oper := ⟨some 24, .indexAddr 64 (.tmp 22) (.tmp 23), 0, "path.go:117", #[⟨8, .data⟩, ⟨9, .data⟩], none⟩
def O59_1_11 : Oper := ⟨some 25, .fieldAddr 75 (.tmp 24) 7, 0, "path.go:117", #[⟨10, .data⟩], none⟩
def O59_1_12 : Oper := ⟨some 26, .load 73 (.tmp 25), 73, "path.go:117", #[⟨11, .data⟩], none⟩
def O59_1_13 : Oper := ⟨some 27, .move (.tmp 0), 23, "path.go:117", #[], none⟩
def O59_1_14 : Oper := ⟨some 28, .nilCheck (.tmp 27), 0, "path.go:117", #[⟨13, .data⟩], none⟩
def O59_1_15 : Oper := ⟨some 29, .fieldAddr 66 (.tmp 28) 1, 0, "path.go:117", #[⟨14, .data⟩], none⟩
def O59_1_16 : Oper := ⟨some 30, .load 64 (.tmp 29), 64, "path.go:117", #[⟨15, .data⟩], none⟩
def O59_1_17 : Oper := ⟨some 31, .move (.tmp 1), 3, "path.go:117", #[], none⟩
def O59_1_18 : Oper := ⟨some 32, .indexAddr 64 (.tmp 30) (.tmp 31), 0, "path.go:117", #[⟨16, .data⟩, ⟨17, .data⟩], none⟩
def O59_1_19 : Oper := ⟨some 33, .load 75 (.tmp 32), 75, "path.go:117", #[⟨18, .data⟩], none⟩
def O59_1_20 : Oper := ⟨some 34, .call { callee := (.value (.func 75)), args := #[(.tmp 33)], argTypes := #[75] }, 73, "path.go:117", #[⟨19, .data⟩], none⟩
def O59_1_21 : Oper := ⟨some 35, .call { callee := (.value (.func 80)), args := #[(.tmp 26), (.tmp 34)], argTypes := #[73, 73] }, 73, "path.go:117", #[⟨12, .data⟩, ⟨20, .data⟩, ⟨20, .chain⟩], none⟩
def O59_1_22 : Oper := ⟨some 36, .indexAddr 64 (.tmp 17) (.tmp 18), 0, "path.go:117", #[⟨3, .data⟩, ⟨4, .data⟩, ⟨0, .phase⟩, ⟨1, .phase⟩, ⟨2, .phase⟩, ⟨3, .phase⟩, ⟨4, .phase⟩, ⟨5, .phase⟩, ⟨6, .phase⟩, ⟨7, .phase⟩, ⟨8, .phase⟩, ⟨9, .phase⟩, ⟨10, .phase⟩, ⟨11, .phase⟩, ⟨12, .phase⟩, ⟨13, .phase⟩, ⟨14, .phase⟩, ⟨15, .phase⟩, ⟨16, .phase⟩, ⟨17, .phase⟩, ⟨18, .phase⟩, ⟨19, .phase⟩, ⟨20, .phase⟩, ⟨21, .phase⟩], none⟩
def O59_1_23 : Oper := ⟨some 37, .fieldAddr 75 (.tmp 36) 7, 0, "path.go:117", #[⟨22, .data⟩, ⟨0, .phase⟩, ⟨1, .phase⟩, ⟨2, .phase⟩, ⟨3, .phase⟩, ⟨4, .phase⟩, ⟨5, .phase⟩, ⟨6, .phase⟩, ⟨7, .phase⟩, ⟨8, .phase⟩, ⟨9, .phase⟩, ⟨10, .phase⟩, ⟨11, .phase⟩, ⟨12, .phase⟩, ⟨13, .phase⟩, ⟨14, .phase⟩, ⟨15, .phase⟩, ⟨16, .phase⟩, ⟨17, .phase⟩, ⟨18, .phase⟩, ⟨19, .phase⟩, ⟨20, .phase⟩, ⟨21, .phase⟩], none⟩
def O59_1_24 : Oper := ⟨none, .store 73 (.tmp 37) (.tmp 35), 0, "path.go:117", #[⟨23, .data⟩, ⟨21, .data⟩, ⟨21, .chain⟩, ⟨0, .phase⟩, ⟨1, .phase⟩, ⟨2, .phase⟩, ⟨3, .phase⟩, ⟨4, .phase⟩, ⟨5, .phase⟩, ⟨6, .phase⟩, ⟨7, .phase⟩, ⟨8, .phase⟩, ⟨9, .phase⟩, ⟨10, .phase⟩, ⟨11, .phase⟩, ⟨12, .phase⟩, ⟨13, .phase⟩, ⟨14, .phase⟩, ⟨15, .phase⟩, ⟨16, .phase⟩, ⟨17, .phase⟩, ⟨18, .phase⟩, ⟨19, .phase⟩, ⟨20, .phase⟩, ⟨21, .phase⟩], none⟩
def OPS59_1 : List Oper := [O59_1_0, O59_1_1, O59_1_2, O59_1_3, O59_1_4, O59_1_5, O59_1_6, O59_1_7, O59_1_8, O59_1_9, O59_1_10, O59_1_11, O59_1_12, O59_1_13, O59_1_14, O59_1_15, O59_1_16, O59_1_17, O59_1_18, O59_1_19, O59_1_20, O59_1_21, O59_1_22, O59_1_23, O59_1_24]
theorem NS59_1 : Region.noSelect OPS59_1.toArray = true := by kernel_rfl
set_option maxHeartbeats 4000000 in
theorem rg59_1 {p g n cap room c d : Nat} {S : Ss} {NX : Act → World → Prop} {a0 : Act} {w : World} (K0 : Kn a0 41 [(0, .pointer (some ⟨p, 0, none⟩)), (1, .int .i64 (c : Int)), (2, .int .i64 (d : Int))]) (h : Pool w p g n cap room S) (hc : c < n) (hd : d < n) (k1 : (-4611686018427387904 ≤ (S c).hu.c + (S c).sm.c ∧ (S c).hu.c + (S c).sm.c ≤ 4611686018427387904)) (k2 : (-4611686018427387904 ≤ (S c).hu.w + (S c).sm.s ∧ (S c).hu.w + (S c).sm.s ≤ 4611686018427387904)) (k3 : (-4611686018427387904 ≤ (S d).hg.c + ((S c).hu.c + (S c).sm.c) ∧ (S d).hg.c + ((S c).hu.c + (S c).sm.c) ≤ 4611686018427387904)) (k4 : (-4611686018427387904 ≤ (S d).hg.w + ((S c).hu.w + (S c).sm.s) ∧ (S d).hg.w + ((S c).hu.w + (S c).sm.s) ≤ 4611686018427387904))
    (hN : ∀ a' W, Kn a' 41 [(0, .pointer (some ⟨p, 0, none⟩)), (1, .int .i64 (c : Int)), (2, .int .i64 (d : Int))] → Pool W p g n cap room (attach2 S c d) → Keep [g] w W → NX a' W) : (Code.region 1 OPS59_1.toArray true).wp Try.prog (Norm NX) a0 w := by
  have hq := @norm_q NX
  have hS : (fun w' : World => Pool w' p g n cap room S) w.drew := h.drew
  have HP := hide h
  have b0 : Below w.heap.size w w.drew := (Below.refl _ _).drew
  have e1 : (0 : Int) ≤ (c : Int) := by omega
  have e2 : (c : Int) < (n : Int) := by omega
  have e5 : (0 : Int) ≤ (d : Int) := by omega
  have e6 : (d : Int) < (n : Int) := by omega
  clear h
  refine wp_region_till (t := 24) (S := (fun w' : World => Pool w' p g n cap room S)) (by kernel_rfl) ?_
  rw [show (OPS59_1.toArray).size = 25 from by kernel_rfl]
  refine upure (i := 0) (o := O59_1_0) (v := .pointer (some ⟨p, 0, none⟩)) K0 hq rfl NS59_1 (by kernel_rfl) (by kernel_rfl) rfl rfl rfl (want_none rfl) (fun ev E w9 => ?_) (fun _ => hS) (fun a1 K1 => ?_)
  · have E0 := E.tmp 0 _ rfl; clear E; unfold O59_1_0; clear hN hq hS HP; go_simp
  refine upure (i := 1) (o := O59_1_1) (v := .pointer (some ⟨p, 0, none⟩)) K1 hq rfl NS59_1 (by kernel_rfl) (by kernel_rfl) rfl rfl rfl (want_none rfl) (fun ev E w9 => ?_) (fun _ => hS) (fun a2 K2 => ?_)
  · have E14 := E.tmp 14 _ rfl; clear E; unfold O59_1_1; clear hN hq hS HP; go_simp
  clear K1
  refine upure (i := 2) (o := O59_1_2) (v := .pointer (some ⟨p, 1, none⟩)) K2 hq rfl NS59_1 (by kernel_rfl) (by kernel_rfl) rfl rfl rfl (want_none rfl) (fun ev E w9 => ?_) (fun _ => hS) (fun a3 K3 => ?_)
  · have E15 := E.tmp 15 _ rfl; clear E; unfold O59_1_2; clear hN hq hS HP; go_simp
  clear K2
  refine utake (i := 3) (o := O59_1_3) (v := .slice (some ⟨g, 0, none⟩) n cap) K3 hq rfl NS59_1 (by kernel_rfl) (by kernel_rfl) (by kernel_rfl) (by kernel_rfl) rfl rfl (want_none rfl) (fun ev E w9 hSw => ?_) hS (fun a4 K4 => ?_)
  · obtain ⟨c0, c1, _⟩ := hSw.head; clear hSw; have E16 := E.tmp 16 _ rfl; clear E; unfold O59_1_3; clear hN hq hS HP; go_simp
  clear K3
  refine upure (i := 4) (o := O59_1_4) (v := .int .i64 (d : Int)) K4 hq rfl NS59_1 (by kernel_rfl) (by kernel_rfl) rfl rfl rfl (want_none rfl) (fun ev E w9 => ?_) (fun _ => hS) (fun a5 K5 => ?_)
  · have E2 := E.tmp 2 _ rfl; clear E; unfold O59_1_4; clear hN hq hS HP; go_simp
  clear K4
  refine upure (i := 5) (o := O59_1_5) (v := .pointer (some ⟨p, 0, none⟩)) K5 hq rfl NS59_1 (by kernel_rfl) (by kernel_rfl) rfl rfl rfl (want_none rfl) (fun ev E w9 => ?_) (fun _ => hS) (fun a6 K6 => ?_)
  · have E0 := E.tmp 0 _ rfl; clear E; unfold O59_1_5; clear hN hq hS HP; go_simp
  clear K5
  refine upure (i := 6) (o := O59_1_6) (v := .pointer (some ⟨p, 0, none⟩)) K6 hq rfl NS59_1 (by kernel_rfl) (by kernel_rfl) rfl rfl rfl (want_none rfl) (fun ev E w9 => ?_) (fun _ => hS) (fun a7 K7 => ?_)
  · have E19 := E.tmp 19 _ rfl; clear E; unfold O59_1_6; clear hN hq hS HP; go_simp
  clear K6
  refine upure (i := 7) (o := O59_1_7) (v := .pointer (some ⟨p, 1, none⟩)) K7 hq rfl NS59_1 (by kernel_rfl) (by kernel_rfl) rfl rfl rfl (want_none rfl) (fun ev E w9 => ?_) (fun _ => hS) (fun a8 K8 => ?_)
  · have E20 := E.tmp 20 _ rfl; clear E; unfold O59_1_7; clear hN hq hS HP; go_simp
  clear K7
  refine utake (i := 8) (o := O59_1_8) (v := .slice (some ⟨g, 0, none⟩) n cap) K8 hq rfl NS59_1 (by kernel_rfl) (by kernel_rfl) (by kernel_rfl) (by kernel_rfl) rfl rfl (want_none rfl) (fun ev E w9 hSw => ?_) hS (fun a9 K9 => ?_)
  · obtain ⟨c0, c1, _⟩ := hSw.head; clear hSw; have E21 := E.tmp 21 _ rfl; clear E; unfold O59_1_8; clear hN hq hS HP; go_simp
  clear K8
  refine upure (i := 9) (o := O59_1_9) (v := .int .i64 (d : Int)) K9 hq rfl NS59_1 (by kernel_rfl) (by kernel_rfl) rfl rfl rfl (want_none rfl) (fun ev E w9 => ?_) (fun _ => hS) (fun a10 K10 => ?_)
  · have E2 := E.tmp 2 _ rfl; clear E; unfold O59_1_9; clear hN hq hS HP; go_simp
  clear K9
  refine upure (i := 10) (o := O59_1_10) (v := .pointer (some ⟨g, d * 14, none⟩)) K10 hq rfl NS59_1 (by kernel_rfl) (by kernel_rfl) rfl rfl rfl (want_none rfl) (fun ev E w9 => ?_) (fun _ => hS) (fun a11 K11 => ?_)
  · have E22 := E.tmp 22 _ rfl; have E23 := E.tmp 23 _ rfl; clear E; unfold O59_1_10; clear hN hq hS HP; go_simp
  clear K10
  refine upure (i := 11) (o := O59_1_11) (v := .pointer (some ⟨g, d * 14 + 10, none⟩)) K11 hq rfl NS59_1 (by kernel_rfl) (by kernel_rfl) rfl rfl rfl (want_none rfl) (fun ev E w9 => ?_) (fun _ => hS) (fun a12 K12 => ?_)
  · have E24 := E.tmp 24 _ rfl; clear E; unfold O59_1_11; clear hN hq hS HP; go_simp
  clear K11
  refine utake (i := 12) (o := O59_1_12) (v := .agg #[.int .i64 (S d).hg.c, .int .i64 (S d).hg.w]) K12 hq rfl NS59_1 (by kernel_rfl) (by kernel_rfl) (by kernel_rfl) (by kernel_rfl) rfl rfl (want_none rfl) (fun ev E w9 hSw => ?_) hS (fun a13 K13 => ?_)
  · obtain ⟨s0, s1, s2, s3, s4, s5, s6, s7, s8, s9, s10, s11, s12, s13⟩ := hSw.slot (t := d) (by assumption); clear hSw; have E25 := E.tmp 25 _ rfl; clear E; unfold O59_1_12; clear hN hq hS HP; go_simp
  clear K12
  refine upure (i := 13) (o := O59_1_13) (v := .pointer (some ⟨p, 0, none⟩)) K13 hq rfl NS59_1 (by kernel_rfl) (by kernel_rfl) rfl rfl rfl (want_none rfl) (fun ev E w9 => ?_) (fun _ => hS) (fun a14 K14 => ?_)
  · have E0 := E.tmp 0 _ rfl; clear E; unfold O59_1_13; clear hN hq hS HP; go_simp
  clear K13
  refine upure (i := 14) (o := O59_1_14) (v := .pointer (some ⟨p, 0, none⟩)) K14 hq rfl NS59_1 (by kernel_rfl) (by kernel_rfl) rfl rfl rfl (want_none rfl) (fun ev E w9 => ?_) (fun _ => hS) (fun a15 K15 => ?_)
  · have E27 := E.tmp 27 _ rfl; clear E; unfold O59_1_14; clear hN hq hS HP; go_simp
  clear K14
  refine upure (i := 15) (o := O59_1_15) (v := .pointer (some ⟨p, 1, none⟩)) K15 hq rfl NS59_1 (by kernel_rfl) (by kernel_rfl) rfl rfl rfl (want_none rfl) (fun ev E w9 => ?_) (fun _ => hS) (fun a16 K16 => ?_)
  · have E28 := E.tmp 28 _ rfl; clear E; unfold O59_1_15; clear hN hq hS HP; go_simp
  clear K15
  refine utake (i := 16) (o := O59_1_16) (v := .slice (some ⟨g, 0, none⟩) n cap) K16 hq rfl NS59_1 (by kernel_rfl) (by kernel_rfl) (by kernel_rfl) (by kernel_rfl) rfl rfl (want_none rfl) (fun ev E w9 hSw => ?_) hS (fun a17 K17 => ?_)
  · obtain ⟨c0, c1, _⟩ := hSw.head; clear hSw; have E29 := E.tmp 29 _ rfl; clear E; unfold O59_1_16; clear hN hq hS HP; go_simp
  clear K16
  refine upure (i := 17) (o := O59_1_17) (v := .int .i64 (c : Int)) K17 hq rfl NS59_1 (by kernel_rfl) (by kernel_rfl) rfl rfl rfl (want_none rfl) (fun ev E w9 => ?_) (fun _ => hS) (fun a18 K18 => ?_)
  · have E1 := E.tmp 1 _ rfl; clear E; unfold O59_1_17; clear hN hq hS HP; go_simp
  clear K17
  refine upure (i := 18) (o := O59_1_18) (v := .pointer (some ⟨g, c * 14, none⟩)) K18 hq rfl NS59_1 (by kernel_rfl) (by kernel_rfl) rfl rfl rfl (want_none rfl) (fun ev E w9 => ?_) (fun _ => hS) (fun a19 K19 => ?_)
  · have E30 := E.tmp 30 _ rfl; have E31 := E.tmp 31 _ rfl; clear E; unfold O59_1_18; clear hN hq hS HP; go_simp
  clear K18
  refine utake (i := 19) (o := O59_1_19) (v := .agg #[.int .i64 ((S c).up : Int), .int .i64 ((S c).l : Int), .int .i64 ((S c).r : Int), .bool (S c).tn, .int .i64 (S c).wt, .int .i64 (S c).wa, .int .i64 (S c).sm.c, .int .i64 (S c).sm.s, .int .i64 (S c).sm.a, .int .i64 (S c).sm.b, .int .i64 (S c).hg.c, .int .i64 (S c).hg.w, .int .i64 (S c).hu.c, .int .i64 (S c).hu.w]) K19 hq rfl NS59_1 (by kernel_rfl) (by kernel_rfl) (by kernel_rfl) (by kernel_rfl) rfl rfl (want_none rfl) (fun ev E w9 hSw => ?_) hS (fun a20 K20 => ?_)
  · obtain ⟨s0, s1, s2, s3, s4, s5, s6, s7, s8, s9, s10, s11, s12, s13⟩ := hSw.slot (t := c) (by assumption); clear hSw; have E32 := E.tmp 32 _ rfl; clear E; unfold O59_1_19; clear hN hq hS HP; go_simp
  clear K19
  refine uone (i := 20) (o := ⟨some 34, .call { callee := (.value (.func 75)), args := #[(.tmp 33)], argTypes := #[75] }, 73, "path.go:117", #[⟨19, .data⟩], none⟩) K20 rfl (by kernel_rfl) rfl rfl (want_none rfl) (leaves_call (fn := 75) (args := #[.agg #[.int .i64 ((S c).up : Int), .int .i64 ((S c).l : Int), .int .i64 ((S c).r : Int), .bool (S c).tn, .int .i64 (S c).wt, .int .i64 (S c).wa, .int .i64 (S c).sm.c, .int .i64 (S c).sm.s, .int .i64 (S c).sm.a, .int .i64 (S c).sm.b, .int .i64 (S c).hg.c, .int .i64 (S c).hg.w, .int .i64 (S c).hu.c, .int .i64 (S c).hu.w]]) K20 (fun ev E => by clear hN hq hS HP; have EF := E.func; have E33 := E.tmp 33 _ rfl; clear E; go_simp) (whole_any _ _ _ _ _ _ _ _ _ _ _ _ _ _ _ k1 k2) (fun e w' h => ⟨_, h.1⟩)) (fun v21 C1 hR => ?_)
  obtain ⟨hv, hb⟩ := hR
  injection hv with hv
  subst hv
  have b1 : Below w.heap.size w C1 := b0.trans (hb.mono b0.size)
  clear hS hb
  have hS : (fun w' : World => Pool w' p g n cap room S) C1 := (unhide HP).below b1
  refine ⟨fun _ => hS, fun a21 K21 => ?_⟩
  clear K20
  replace K21 : Kn _ 41 ((34, .agg #[.int .i64 ((S c).hu.c + (S c).sm.c), .int .i64 ((S c).hu.w + (S c).sm.s)]) :: _) := K21
  refine uone (i := 21) (o := ⟨some 35, .call { callee := (.value (.func 80)), args := #[(.tmp 26), (.tmp 34)], argTypes := #[73, 73] }, 73, "path.go:117", #[⟨12, .data⟩, ⟨20, .data⟩, ⟨20, .chain⟩], none⟩) K21 rfl (by kernel_rfl) rfl rfl (want_none rfl) (leaves_call (fn := 80) (args := #[.agg #[.int .i64 (S d).hg.c, .int .i64 (S d).hg.w], .agg #[.int .i64 ((S c).hu.c + (S c).sm.c), .int .i64 ((S c).hu.w + (S c).sm.s)]]) K21 (fun ev E => by clear hN hq hS HP; have EF := E.func; have E26 := E.tmp 26 _ rfl; have E34 := E.tmp 34 _ rfl; clear E; go_simp) (with_any _ _ _ _ _ k3 k4) (fun e w' h => ⟨_, h.1⟩)) (fun v22 C2 hR => ?_)
  obtain ⟨hv, hb⟩ := hR
  injection hv with hv
  subst hv
  have b2 : Below w.heap.size w C2 := b1.trans (hb.mono b1.size)
  clear hS hb
  have hS : (fun w' : World => Pool w' p g n cap room S) C2 := (unhide HP).below b2
  refine ⟨fun _ => hS, fun a22 K22 => ?_⟩
  clear K21
  replace K22 : Kn _ 41 ((35, .agg #[.int .i64 ((S d).hg.c + ((S c).hu.c + (S c).sm.c)), .int .i64 ((S d).hg.w + ((S c).hu.w + (S c).sm.s))]) :: _) := K22
  refine upure (i := 22) (o := O59_1_22) (v := .pointer (some ⟨g, d * 14, none⟩)) K22 hq rfl NS59_1 (by kernel_rfl) (by kernel_rfl) rfl rfl rfl (want_none rfl) (fun ev E w9 => ?_) (fun _ => hS) (fun a23 K23 => ?_)
  · have E17 := E.tmp 17 _ rfl; have E18 := E.tmp 18 _ rfl; clear E; unfold O59_1_22; clear hN hq hS HP; go_simp
  clear K22
  refine upure (i := 23) (o := O59_1_23) (v := .pointer (some ⟨g, d * 14 + 10, none⟩)) K23 hq rfl NS59_1 (by kernel_rfl) (by kernel_rfl) rfl rfl rfl (want_none rfl) (fun ev E w9 => ?_) (fun _ => hS) (fun a24 K24 => ?_)
  · have E36 := E.tmp 36 _ rfl; clear E; unfold O59_1_23; clear hN hq hS HP; go_simp
  clear K23
  have P0 := hide hS
  clear hS
  obtain ⟨s0, s1, s2, s3, s4, s5, s6, s7, s8, s9, s10, s11, s12, s13⟩ := (unhide P0).slot hd
  obtain ⟨f0, f1, f2, f3, f4, f5, f6, f7, f8, f9, f10, f11, f12, f13⟩ := (unhide P0).soft hd
  refine ustore (R := fun _ _ => True) (i := 24) (o := O59_1_24) (w' := ((C2).setCell ⟨g, d * 14 + 10, none⟩ (.int .i64 ((S d).hg.c + ((S c).hu.c + (S c).sm.c)))).setCell ⟨g, d * 14 + 11, none⟩ (.int .i64 ((S d).hg.w + ((S c).hu.w + (S c).sm.s)))) K24 rfl (by kernel_rfl) rfl (want_none rfl) (fun ev E => ?_) (fun hx => absurd hx (by decide)) ?_
  · have E35 := E.tmp 35 _ rfl; have E37 := E.tmp 37 _ rfl; clear E; unfold O59_1_24; clear hN hq HP P0; go_simp
  refine till_done (by kernel_rfl) ?_ _
  have P3 := ((unhide P0).put (t := d) hd 10 (by omega) { S d with hg := { (S d).hg with c := (S d).hg.c + (wh (S c)).c } } (.int .i64 ((S d).hg.c + ((S c).hu.c + (S c).sm.c))) rfl).put (t := d) hd 11 (by omega) { S d with hg := ⟨(S d).hg.c + (wh (S c)).c, (S d).hg.w + (wh (S c)).w⟩ } (.int .i64 ((S d).hg.w + ((S c).hu.w + (S c).sm.s))) (by rw [upd_same]; rfl)
  have Q3 := ((Keep.ofBelow b2 [g]).cellB (d * 14 + 10) (.int .i64 ((S d).hg.c + ((S c).hu.c + (S c).sm.c)))).cellB (d * 14 + 11) (.int .i64 ((S d).hg.w + ((S c).hu.w + (S c).sm.s)))
  have hE : ∀ (T : Ss) (x : Sl), (∀ j, j ≠ d → T j = S j) → upd T d x = upd S d x := fun T x hT => by
    funext j
    by_cases hj : j = d
    · subst hj; simp [upd]
    · simp [upd, hj, hT j hj]
  rw [hE _ _ (fun j hj => by simp [upd, hj])] at P3
  exact hN _ _ (K24.less ⟨rfl, rfl, rfl, trivial⟩) P3 Q3
set_option maxHeartbeats 4000000 in
theorem attach_any {p g n cap room c d : Nat} {S : Ss} {w : World} (h : Pool w p g n cap room S) (hc : c < n) (hd : d < n) (cd : c ≠ d) (hl : (S d).l < n) (hr : (S d).r < n) (hlt : (S d).l ≠ d) (hrt : (S d).r ≠ d) (k1 : (-4611686018427387904 ≤ (S c).hu.c + (S c).sm.c ∧ (S c).hu.c + (S c).sm.c ≤ 4611686018427387904)) (k2 : (-4611686018427387904 ≤ (S c).hu.w + (S c).sm.s ∧ (S c).hu.w + (S c).sm.s ≤ 4611686018427387904)) (k3 : (-4611686018427387904 ≤ (S d).hg.c + ((S c).hu.c + (S c).sm.c) ∧ (S d).hg.c + ((S c).hu.c + (S c).sm.c) ≤ 4611686018427387904)) (k4 : (-4611686018427387904 ≤ (S d).hg.w + ((S c).hu.w + (S c).sm.s) ∧ (S d).hg.w + ((S c).hu.w + (S c).sm.s) ≤ 4611686018427387904)) (hb : Gbd (attach2 (attach1 S c d) c d) d) :
    Calls Try.prog 59 #[.pointer (some ⟨p, 0, none⟩), .int .i64 (c : Int), .int .i64 (d : Int)] w fun e w' => e = .returned (.tuple #[]) ∧ Keep [g] w w' ∧ Pool w' p g n cap room (attachS S c d) := by
  have PH := hide h
  have KP := hide (Keep.refl [g] w)
  have HB := hide (And.intro k1 (And.intro k2 (And.intro k3 (And.intro k4 hb))))
  clear h hb k1 k2 k3 k4
  have e1 : (0 : Int) ≤ (c : Int) := by omega
  have e2 : (c : Int) < (n : Int) := by omega
  have e5 : (0 : Int) ≤ (d : Int) := by omega
  have e6 : (d : Int) < (n : Int) := by omega
  refine callsK (n := 41) (L := [(0, .pointer (some ⟨p, 0, none⟩)), (1, .int .i64 (c : Int)), (2, .int .i64 (d : Int))]) Try.func59 rfl Try.ntmps59 rfl rfl (fun a0 K0 => ?_)
  refine seqR ?_
  refine lmv K0 rfl rfl (want_none rfl) rfl rfl (fun a1 K1 => ?_)
  refine lnc K1 rfl rfl (want_none rfl) rfl rfl (fun a2 K2 => ?_)
  clear K1
  refine lfa K2 rfl rfl (want_none rfl) rfl rfl FA66_1 (fun a3 K3 => ?_)
  clear K2
  refine ltake (v := .slice (some ⟨g, 0, none⟩) n cap) (w' := w) K3 rfl rfl (want_none rfl) (fun ev E => ?_) (fun a4 K4 => ?_)
  · obtain ⟨c0, c1, _⟩ := (unhide PH).head; have E8 := E.tmp 8 _ rfl; clear E; clear PH KP HB; go_simp
  clear K3
  refine lmv K4 rfl rfl (want_none rfl) rfl rfl (fun a5 K5 => ?_)
  clear K4
  refine lmv K5 rfl rfl (want_none rfl) rfl rfl (fun a6 K6 => ?_)
  clear K5
  refine ltake (v := .pointer (some ⟨g, c * 14, none⟩)) (w' := w) K6 rfl rfl (want_none rfl) (fun ev E => ?_) (fun a7 K7 => ?_)
  · have E9 := E.tmp 9 _ rfl; have E10 := E.tmp 10 _ rfl; clear E; clear PH KP HB; go_simp
  clear K6
  refine lfa K7 rfl rfl (want_none rfl) rfl rfl FA75_0 (fun a8 K8 => ?_)
  clear K7
  obtain ⟨sk, _, _, _, _, _, _, _, _, _, _, _, _, _⟩ := (unhide PH).slot (t := c) hc
  obtain ⟨fk, _, _, _, _, _, _, _, _, _, _, _, _, _⟩ := (unhide PH).soft (t := c) hc
  refine lstore (w' := w.setCell ⟨g, c * 14, none⟩ (.int .i64 (d : Int))) K8 rfl (want_none rfl) (fun ev E => ?_) ?_
  · have E11 := E.tmp 11 _ rfl; have E13 := E.tmp 13 _ rfl; clear E; clear PH KP HB; go_simp
  clear sk fk
  have P1 := (unhide PH).put (t := c) hc 0 (by omega) { S c with up := d } (.int .i64 (d : Int)) rfl
  have Q1 := (unhide KP).cellB (c * 14) (.int .i64 (d : Int))
  clear PH KP
  have PH := hide P1
  have KP := hide Q1
  clear P1 Q1
  generalize w.setCell ⟨g, c * 14, none⟩ (.int .i64 (d : Int)) = W1 at *
  obtain ⟨S1, hS1⟩ : ∃ z, z = attach1 S c d := ⟨_, rfl⟩
  have PP : Pool W1 p g n cap room S1 := by rw [hS1]; exact unhide PH
  clear PH
  have PH := hide PP
  clear PP
  have HS1 := hide hS1
  clear hS1
  refine nilN ?_
  refine seqN ?_
  have K10 : Kn _ 41 [(0, .pointer (some ⟨p, 0, none⟩)), (1, .int .i64 (c : Int)), (2, .int .i64 (d : Int))] := K8.less ⟨rfl, rfl, rfl, trivial⟩
  obtain ⟨k1, k2, k3, k4, kb⟩ := unhide HB
  have sc : (S1 c).hu = (S c).hu ∧ (S1 c).sm = (S c).sm ∧ (S1 d).hg = (S d).hg := by
    rw [unhide HS1]
    have : ∀ y, (attach1 S c d y).hu = (S y).hu ∧ (attach1 S c d y).sm = (S y).sm ∧ (attach1 S c d y).hg = (S y).hg := fun y => by
      unfold attach1
      by_cases e : y = c
      · subst e; rw [upd_same]; exact ⟨rfl, rfl, rfl⟩
      · rw [upd_ne _ _ e]; exact ⟨rfl, rfl, rfl⟩
    exact ⟨(this c).1, (this c).2.1, (this d).2.2⟩
  rw [← sc.1, ← sc.2.1] at k1 k2
  rw [← sc.1, ← sc.2.1, ← sc.2.2] at k3 k4
  refine rg59_1 K10 (unhide PH) hc hd k1 k2 k3 k4 fun a77 W7 K77 P1 Q1 => ?_
  have Q2 := hide ((unhide KP).tr Q1)
  clear PH KP Q1 k1 k2 k3 k4 kb sc
  have PH := hide P1
  have KP := Q2
  clear Q2 P1
  obtain ⟨S2, hS2⟩ : ∃ z, z = attach2 S1 c d := ⟨_, rfl⟩
  rw [← hS2] at PH
  have HS2 := hide hS2
  clear hS2
  show Code.wp _ _ _ _ _
  refine wp_region_lit ?_
  refine lmv K77 rfl rfl (want_none rfl) rfl rfl (fun a11 K11 => ?_)
  clear K77
  refine lmv K11 rfl rfl (want_none rfl) rfl rfl (fun a12 K12 => ?_)
  clear K11
  have hs2 : S2 = attach2 (attach1 S c d) c d := by rw [unhide HS2, unhide HS1]
  have sd : (S2 d).l = (S d).l ∧ (S2 d).r = (S d).r := by
    rw [hs2, attach2, upd_same]; dsimp only; rw [attach1, upd_ne _ _ (Ne.symm cd)]; exact ⟨rfl, rfl⟩
  refine lcall (f := 63) (args := #[.pointer (some ⟨p, 0, none⟩), .int .i64 (d : Int)]) K12 rfl rfl (want_none rfl) (fun ev E => ?_) (gather_any (unhide PH) hd (by rw [sd.1]; exact hl) (by rw [sd.2]; exact hr) (by rw [sd.1]; exact hlt) (by rw [sd.2]; exact hrt) (by rw [hs2]; exact (unhide HB).2.2.2.2)) (fun e W13 hR => ?_)
  · have EF := E.func; have E38 := E.tmp 38 _ rfl; have E39 := E.tmp 39 _ rfl; clear E; clear PH KP HB HS1 HS2; go_simp
  obtain ⟨rfl, P1, Q1⟩ := hR
  have Q2 := hide ((unhide KP).tr Q1)
  clear PH KP Q1
  rw [hs2] at P1
  have PH := hide P1
  have KP := Q2
  clear Q2 P1
  refine ⟨_, rfl, fun a14 K14 => ?_⟩
  clear K12
  refine wpList_nil ?_
  exact ⟨K14.defers, .tuple #[], results_none rfl _ _ _, rfl, unhide KP, unhide PH⟩
theorem attachL {p g n cap room c d : Nat} {T : Tr} {S : Ss} {G : Gh} {w : World} (h : Pool w p g n cap room S) (E : Pth S n T G d) (hc : Th T c) (hT : Top S c) (c0 : (S c).up = 0) (fc : G.fi c = c) (hne : c ∉ U T d) :
    Calls Try.prog 59 #[.pointer (some ⟨p, 0, none⟩), .int .i64 (c : Int), .int .i64 (d : Int)] w fun e w' => e = .returned (.tuple #[]) ∧ Keep [g] w w' ∧ Pool w' p g n cap room (attachS S c d) ∧ Lc (attachS S c d) n (T.link (c - 1) (d - 1)) G := by
  have L := E.lc
  obtain ⟨k1, k2, k3, k4⟩ := L.kids_lt E.th
  have L2 := E.attach hc hT c0 fc hne
  have cd : c ≠ d := fun e => hne (by rw [e]; exact U_self L.wf E.th)
  have bc := L.bz c
  have bd := L.bz d
  have nk := L.top_nk E.th hT (by have := hc.1; omega)
  have at1 := attachS_at S cd k3 k4 (Ne.symm nk.1) (Ne.symm nk.2) d
  rw [if_pos rfl] at at1
  have b9 := L2.bz d
  rw [at1] at b9
  have q1 := bc.c; have q2 := bc.s; have q3 := bc.uc; have q4 := bc.uw
  have r1 := bd.gc; have r2 := bd.gw
  have ad : attach1 S c d d = S d := upd_ne _ _ (Ne.symm cd)
  have ac : wh (attach1 S c d c) = wh (S c) := by unfold attach1; rw [upd_same]; rfl
  have ae : attach2 (attach1 S c d) c d d = { S d with hg := ⟨(S d).hg.c + (wh (S c)).c, (S d).hg.w + (wh (S c)).w⟩ } := by unfold attach2; rw [upd_same, ad, ac]
  have ak : ∀ j, j ≠ d → j ≠ c → attach2 (attach1 S c d) c d j = S j := fun j h1 h2 => by
    unfold attach2; rw [upd_ne _ _ h1]; exact upd_ne _ _ h2
  refine (attach_any h (L.lt c hc) (L.lt d E.th) cd k1 k2 k3 k4 ⟨by omega, by omega⟩ ⟨by omega, by omega⟩ ⟨by omega, by omega⟩ ⟨by omega, by omega⟩ (gbd_of ?_ ?_ ?_)).mono ?_
  · rw [ae]; dsimp only; rw [ak _ k3 (Ne.symm nk.1)]; exact L.bz _
  · rw [ae]; dsimp only; rw [ak _ k4 (Ne.symm nk.2)]; exact L.bz _
  · rw [ae]; exact ⟨bd.c, bd.s, bd.uc, bd.uw, b9.gc, b9.gw, bd.wt⟩
  · rintro e w' ⟨rfl, h1, h2⟩
    exact ⟨rfl, h1, h2, L2⟩
end Go.Proofs.Ytjnkgakajenoaaa

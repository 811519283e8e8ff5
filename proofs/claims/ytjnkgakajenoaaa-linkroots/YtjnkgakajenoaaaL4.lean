/- The program's forest (part 4 of its contracts and the laws' common texts). -/
import Derived.Test.YtjnkgakajenoaaaL3
/- The program's forest: splay. -/

namespace Go.Proofs.Ytjnkgakajenoaaa
open Go.RowKit Go.Arb
set_option linter.unusedVariables false
set_option linter.unusedSimpArgs false
set_option maxRecDepth 100000

theorem inRet {Q : Exit → Act → World → Prop} {a : Act} {w : World} {id : Nat} (h : Q .ret a w) : Exit.inBlock id Q .ret a w := h
theorem inNorm {Q : Exit → Act → World → Prop} {a : Act} {w : World} {id : Nat} (h : Q .normal a w) : Exit.inBlock id Q .normal a w := h
def O72_10_0 : Oper := ⟨some 47, .move (.tmp 0), 23, "path.go:57", #[], none⟩
def O72_10_1 : Oper := ⟨some 48, .nilCheck (.tmp 47), 0, "path.go:57", #[⟨0, .data⟩], none⟩
def O72_10_2 : Oper := ⟨some 49, .fieldAddr 66 (.tmp 48) 1, 0, "path.go:57", #[⟨1, .data⟩], none⟩
def O72_10_3 : Oper := ⟨some 50, .load 64 (.tmp 49), 64, "path.go:57", #[⟨2, .data⟩], none⟩
def O72_10_4 : Oper := ⟨some 51, .move (.tmp 5), 3, "path.go:57", #[], none⟩
def O72_10_5 : Oper := ⟨some 52, .indexAddr 64 (.tmp 50) (.tmp 51), 0, "path.go:57", #[⟨3, .data⟩, ⟨4, .data⟩], none⟩
def O72_10_6 : Oper := ⟨some 53, .fieldAddr 75 (.tmp 52) 1, 0, "path.go:57", #[⟨5, .data⟩], none⟩
def O72_10_7 : Oper := ⟨some 54, .load 3 (.tmp 53), 3, "path.go:57", #[⟨6, .data⟩], none⟩
def O72_10_8 : Oper := ⟨some 55, .move (.tmp 4), 3, "path.go:57", #[], none⟩
def O72_10_9 : Oper := ⟨some 56, .binOp .eql 3 (.tmp 54) (.tmp 55) 3, 4, "path.go:57", #[⟨7, .data⟩, ⟨8, .data⟩], none⟩
def O72_10_10 : Oper := ⟨some 57, .move (.tmp 0), 23, "path.go:57", #[], none⟩
def O72_10_11 : Oper := ⟨some 58, .nilCheck (.tmp 57), 0, "path.go:57", #[⟨10, .data⟩], none⟩
def O72_10_12 : Oper := ⟨some 59, .fieldAddr 66 (.tmp 58) 1, 0, "path.go:57", #[⟨11, .data⟩], none⟩
def O72_10_13 : Oper := ⟨some 60, .load 64 (.tmp 59), 64, "path.go:57", #[⟨12, .data⟩], none⟩
def O72_10_14 : Oper := ⟨some 61, .move (.tmp 4), 3, "path.go:57", #[], none⟩
def O72_10_15 : Oper := ⟨some 62, .indexAddr 64 (.tmp 60) (.tmp 61), 0, "path.go:57", #[⟨13, .data⟩, ⟨14, .data⟩], none⟩
def O72_10_16 : Oper := ⟨some 63, .fieldAddr 75 (.tmp 62) 1, 0, "path.go:57", #[⟨15, .data⟩], none⟩
def O72_10_17 : Oper := ⟨some 64, .load 3 (.tmp 63), 3, "path.go:57", #[⟨16, .data⟩], none⟩
def O72_10_18 : Oper := ⟨some 65, .move (.tmp 1), 3, "path.go:57", #[], none⟩
def O72_10_19 : Oper := ⟨some 66, .binOp .eql 3 (.tmp 64) (.tmp 65) 3, 4, "path.go:57", #[⟨17, .data⟩, ⟨18, .data⟩], none⟩
def O72_10_20 : Oper := ⟨some 67, .binOp .eql 4 (.tmp 56) (.tmp 66) 4, 4, "path.go:57", #[⟨9, .data⟩, ⟨19, .data⟩], none⟩
def OPS72_10 : List Oper := [O72_10_0, O72_10_1, O72_10_2, O72_10_3, O72_10_4, O72_10_5, O72_10_6, O72_10_7, O72_10_8, O72_10_9, O72_10_10, O72_10_11, O72_10_12, O72_10_13, O72_10_14, O72_10_15, O72_10_16, O72_10_17, O72_10_18, O72_10_19, O72_10_20]
theorem NS72_10 : Region.noSelect OPS72_10.toArray = true := by kernel_rfl
set_option maxHeartbeats 4000000 in
theorem read72 {p g n cap room t u o : Nat} {S3 : Ss} {NX : Act → World → Prop} {a0 : Act} {w : World} (K0 : Kn a0 80 [(0, .pointer (some ⟨p, 0, none⟩)), (1, .int .i64 (t : Int)), (4, .int .i64 (u : Int)), (5, .int .i64 (o : Int))]) (h : Pool w p g n cap room S3) (ht : t < n) (hu : u < n) (ho : o < n)
    (hN : ∀ a' W b, Kn a' 80 [(0, .pointer (some ⟨p, 0, none⟩)), (1, .int .i64 (t : Int)), (4, .int .i64 (u : Int)), (5, .int .i64 (o : Int)), (67, .bool b)] → Pool W p g n cap room S3 → Keep [g] w W → NX a' W) : (Code.region 10 OPS72_10.toArray true).wp Try.prog (Norm NX) a0 w := by
  have hq := @norm_q NX
  have hS : (fun w' : World => Pool w' p g n cap room S3) w.drew := h.drew
  have KP := hide ((Keep.refl [g] w).drew)
  have HN := hide hN
  clear h hN
  have e1 : (0 : Int) ≤ (t : Int) := by omega
  have e2 : (t : Int) < (n : Int) := by omega
  have e3 : (0 : Int) ≤ (u : Int) := by omega
  have e4 : (u : Int) < (n : Int) := by omega
  have e5 : (0 : Int) ≤ (o : Int) := by omega
  have e6 : (o : Int) < (n : Int) := by omega
  show (Code.region 10 OPS72_10.toArray true).wp _ _ _ _
  refine wp_region_held_drew (S := (fun w' : World => Pool w' p g n cap room S3)) (by kernel_rfl) hS (fun hS => ?_)
  rw [show (OPS72_10.toArray).size = 21 from by kernel_rfl]
  refine dtake (i := 0) (o := O72_10_0) (v := .pointer (some ⟨p, 0, none⟩)) K0 hq rfl NS72_10 (by kernel_rfl) (by kernel_rfl) rfl rfl (want_none rfl) (fun ev E w9 hSw => ?_) hS (fun a1 K1 => ?_)
  · clear hSw; have E0 := E.tmp 0 _ rfl; clear E; unfold O72_10_0; clear HN hq hS KP; go_simp
  refine dtake (i := 1) (o := O72_10_1) (v := .pointer (some ⟨p, 0, none⟩)) K1 hq rfl NS72_10 (by kernel_rfl) (by kernel_rfl) rfl rfl (want_none rfl) (fun ev E w9 hSw => ?_) hS (fun a2 K2 => ?_)
  · clear hSw; have E47 := E.tmp 47 _ rfl; clear E; unfold O72_10_1; clear HN hq hS KP; go_simp
  clear K1
  refine dtake (i := 2) (o := O72_10_2) (v := .pointer (some ⟨p, 1, none⟩)) K2 hq rfl NS72_10 (by kernel_rfl) (by kernel_rfl) rfl rfl (want_none rfl) (fun ev E w9 hSw => ?_) hS (fun a3 K3 => ?_)
  · clear hSw; have E48 := E.tmp 48 _ rfl; clear E; unfold O72_10_2; clear HN hq hS KP; go_simp
  clear K2
  refine dtake (i := 3) (o := O72_10_3) (v := .slice (some ⟨g, 0, none⟩) n cap) K3 hq rfl NS72_10 (by kernel_rfl) (by kernel_rfl) rfl rfl (want_none rfl) (fun ev E w9 hSw => ?_) hS (fun a4 K4 => ?_)
  · obtain ⟨c0, c1, _⟩ := hSw.head; clear hSw; have E49 := E.tmp 49 _ rfl; clear E; unfold O72_10_3; clear HN hq hS KP; go_simp
  clear K3
  refine dtake (i := 4) (o := O72_10_4) (v := .int .i64 (o : Int)) K4 hq rfl NS72_10 (by kernel_rfl) (by kernel_rfl) rfl rfl (want_none rfl) (fun ev E w9 hSw => ?_) hS (fun a5 K5 => ?_)
  · clear hSw; have E5 := E.tmp 5 _ rfl; clear E; unfold O72_10_4; clear HN hq hS KP; go_simp
  clear K4
  refine dtake (i := 5) (o := O72_10_5) (v := .pointer (some ⟨g, o * 14, none⟩)) K5 hq rfl NS72_10 (by kernel_rfl) (by kernel_rfl) rfl rfl (want_none rfl) (fun ev E w9 hSw => ?_) hS (fun a6 K6 => ?_)
  · clear hSw; have E50 := E.tmp 50 _ rfl; have E51 := E.tmp 51 _ rfl; clear E; unfold O72_10_5; clear HN hq hS KP; go_simp
  clear K5
  refine dtake (i := 6) (o := O72_10_6) (v := .pointer (some ⟨g, o * 14 + 1, none⟩)) K6 hq rfl NS72_10 (by kernel_rfl) (by kernel_rfl) rfl rfl (want_none rfl) (fun ev E w9 hSw => ?_) hS (fun a7 K7 => ?_)
  · clear hSw; have E52 := E.tmp 52 _ rfl; clear E; unfold O72_10_6; clear HN hq hS KP; go_simp
  clear K6
  refine dtake (i := 7) (o := O72_10_7) (v := .int .i64 ((S3 o).l : Int)) K7 hq rfl NS72_10 (by kernel_rfl) (by kernel_rfl) rfl rfl (want_none rfl) (fun ev E w9 hSw => ?_) hS (fun a8 K8 => ?_)
  · obtain ⟨s0, s1, s2, s3, s4, s5, s6, s7, s8, s9, s10, s11, s12, s13⟩ := hSw.slot (t := o) (by assumption); clear hSw; have E53 := E.tmp 53 _ rfl; clear E; unfold O72_10_7; clear HN hq hS KP; go_simp
  clear K7
  refine dtake (i := 8) (o := O72_10_8) (v := .int .i64 (u : Int)) K8 hq rfl NS72_10 (by kernel_rfl) (by kernel_rfl) rfl rfl (want_none rfl) (fun ev E w9 hSw => ?_) hS (fun a9 K9 => ?_)
  · clear hSw; have E4 := E.tmp 4 _ rfl; clear E; unfold O72_10_8; clear HN hq hS KP; go_simp
  clear K8
  refine dtake (i := 9) (o := O72_10_9) (v := .bool (((S3 o).l : Int) == (u : Int))) K9 hq rfl NS72_10 (by kernel_rfl) (by kernel_rfl) rfl rfl (want_none rfl) (fun ev E w9 hSw => ?_) hS (fun a10 K10 => ?_)
  · clear hSw; have E54 := E.tmp 54 _ rfl; have E55 := E.tmp 55 _ rfl; clear E; unfold O72_10_9; clear HN hq hS KP; go_simp
  clear K9
  refine dtake (i := 10) (o := O72_10_10) (v := .pointer (some ⟨p, 0, none⟩)) K10 hq rfl NS72_10 (by kernel_rfl) (by kernel_rfl) rfl rfl (want_none rfl) (fun ev E w9 hSw => ?_) hS (fun a11 K11 => ?_)
  · clear hSw; have E0 := E.tmp 0 _ rfl; clear E; unfold O72_10_10; clear HN hq hS KP; go_simp
  clear K10
  refine dtake (i := 11) (o := O72_10_11) (v := .pointer (some ⟨p, 0, none⟩)) K11 hq rfl NS72_10 (by kernel_rfl) (by kernel_rfl) rfl rfl (want_none rfl) (fun ev E w9 hSw => ?_) hS (fun a12 K12 => ?_)
  · clear hSw; have E57 := E.tmp 57 _ rfl; clear E; unfold O72_10_11; clear HN hq hS KP; go_simp
  clear K11
  refine dtake (i := 12) (o := O72_10_12) (v := .pointer (some ⟨p, 1, none⟩)) K12 hq rfl NS72_10 (by kernel_rfl) (by kernel_rfl) rfl rfl (want_none rfl) (fun ev E w9 hSw => ?_) hS (fun a13 K13 => ?_)
  · clear hSw; have E58 := E.tmp 58 _ rfl; clear E; unfold O72_10_12; clear HN hq hS KP; go_simp
  clear K12
  refine dtake (i := 13) (o := O72_10_13) (v := .slice (some ⟨g, 0, none⟩) n cap) K13 hq rfl NS72_10 (by kernel_rfl) (by kernel_rfl) rfl rfl (want_none rfl) (fun ev E w9 hSw => ?_) hS (fun a14 K14 => ?_)
  · obtain ⟨c0, c1, _⟩ := hSw.head; clear hSw; have E59 := E.tmp 59 _ rfl; clear E; unfold O72_10_13; clear HN hq hS KP; go_simp
  clear K13
  refine dtake (i := 14) (o := O72_10_14) (v := .int .i64 (u : Int)) K14 hq rfl NS72_10 (by kernel_rfl) (by kernel_rfl) rfl rfl (want_none rfl) (fun ev E w9 hSw => ?_) hS (fun a15 K15 => ?_)
  · clear hSw; have E4 := E.tmp 4 _ rfl; clear E; unfold O72_10_14; clear HN hq hS KP; go_simp
  clear K14
  refine dtake (i := 15) (o := O72_10_15) (v := .pointer (some ⟨g, u * 14, none⟩)) K15 hq rfl NS72_10 (by kernel_rfl) (by kernel_rfl) rfl rfl (want_none rfl) (fun ev E w9 hSw => ?_) hS (fun a16 K16 => ?_)
  · clear hSw; have E60 := E.tmp 60 _ rfl; have E61 := E.tmp 61 _ rfl; clear E; unfold O72_10_15; clear HN hq hS KP; go_simp
  clear K15
  refine dtake (i := 16) (o := O72_10_16) (v := .pointer (some ⟨g, u * 14 + 1, none⟩)) K16 hq rfl NS72_10 (by kernel_rfl) (by kernel_rfl) rfl rfl (want_none rfl) (fun ev E w9 hSw => ?_) hS (fun a17 K17 => ?_)
  · clear hSw; have E62 := E.tmp 62 _ rfl; clear E; unfold O72_10_16; clear HN hq hS KP; go_simp
  clear K16
  refine dtake (i := 17) (o := O72_10_17) (v := .int .i64 ((S3 u).l : Int)) K17 hq rfl NS72_10 (by kernel_rfl) (by kernel_rfl) rfl rfl (want_none rfl) (fun ev E w9 hSw => ?_) hS (fun a18 K18 => ?_)
  · obtain ⟨s0, s1, s2, s3, s4, s5, s6, s7, s8, s9, s10, s11, s12, s13⟩ := hSw.slot (t := u) (by assumption); clear hSw; have E63 := E.tmp 63 _ rfl; clear E; unfold O72_10_17; clear HN hq hS KP; go_simp
  clear K17
  refine dtake (i := 18) (o := O72_10_18) (v := .int .i64 (t : Int)) K18 hq rfl NS72_10 (by kernel_rfl) (by kernel_rfl) rfl rfl (want_none rfl) (fun ev E w9 hSw => ?_) hS (fun a19 K19 => ?_)
  · clear hSw; have E1 := E.tmp 1 _ rfl; clear E; unfold O72_10_18; clear HN hq hS KP; go_simp
  clear K18
  refine dtake (i := 19) (o := O72_10_19) (v := .bool (((S3 u).l : Int) == (t : Int))) K19 hq rfl NS72_10 (by kernel_rfl) (by kernel_rfl) rfl rfl (want_none rfl) (fun ev E w9 hSw => ?_) hS (fun a20 K20 => ?_)
  · clear hSw; have E64 := E.tmp 64 _ rfl; have E65 := E.tmp 65 _ rfl; clear E; unfold O72_10_19; clear HN hq hS KP; go_simp
  clear K19
  refine dtake (i := 20) (o := O72_10_20) (v := .bool ((((S3 o).l : Int) == (u : Int)) == (((S3 u).l : Int) == (t : Int)))) K20 hq rfl NS72_10 (by kernel_rfl) (by kernel_rfl) rfl rfl (want_none rfl) (fun ev E w9 hSw => ?_) hS (fun a21 K21 => ?_)
  · clear hSw; have E56 := E.tmp 56 _ rfl; have E66 := E.tmp 66 _ rfl; clear E; unfold O72_10_20; clear HN hq hS KP; go_simp
  clear K20
  refine wpAnyH_done (by kernel_rfl) ?_ _
  exact unhide HN _ _ _ (K21.less ⟨rfl, rfl, rfl, rfl, rfl, trivial⟩) hS (unhide KP)
set_option maxHeartbeats 4000000 in
theorem round72 {p g n cap room t : Nat} {T : Tr} {S0 S : Ss} {G0 G : Gh} {Q : Exit → Act → World → Prop} {a0 : Act} {w0 w : World} (K0 : Kn a0 80 [(0, .pointer (some ⟨p, 0, none⟩)), (1, .int .i64 (t : Int))]) (h : Pool w p g n cap room S) (L : Lc S n T G) (FR : Fra T t S0 G0 S G) (hk : Keep [g] w0 w) (ht : Th T t)
    (hN : ∀ a' W S1 G1, Kn a' 80 [(0, .pointer (some ⟨p, 0, none⟩)), (1, .int .i64 (t : Int))] → Pool W p g n cap room S1 → Lc S1 n T G1 → Fra T t S0 G0 S1 G1 → Keep [g] w0 W → (S t).sm.c < (S1 t).sm.c → Q .normal a' W)
    (hX : ∀ a' W, Kn a' 80 [(0, .pointer (some ⟨p, 0, none⟩)), (1, .int .i64 (t : Int))] → Pool W p g n cap room S → Top S t → Keep [g] w0 W → Q (.exit 0) a' W)
    (hR : ∀ a' W S1 G1, Kn a' 80 [] → Pool W p g n cap room S1 → Lc S1 n T G1 → Fra T t S0 G0 S1 G1 → Top S1 t → Idle S1 t → Keep [g] w0 W → Q .ret a' W) : (Code.seq (Code.seq (Code.region 0 (rg [0, 0, 0, 0, 0] Try.f72).toArray false) (Code.cond (Operand.tmp 9) Code.skip (Code.exit 0))) (Code.block 1 (Code.seq (Code.region 1 (rg [0, 0, 0, 1, 0, 0] Try.f72).toArray false) (Code.seq (Code.seq (Code.region 2 (rg [0, 0, 0, 1, 0, 1, 0, 0] Try.f72).toArray false) (Code.cond (Operand.tmp 20) (Code.seq (Code.region 3 (rg [0, 0, 0, 1, 0, 1, 0, 1, 0, 0] Try.f72).toArray false) (Code.seq (Code.region 4 (rg [0, 0, 0, 1, 0, 1, 0, 1, 0, 1, 0] Try.f72).toArray false) (Code.seq (Code.region 5 (rg [0, 0, 0, 1, 0, 1, 0, 1, 0, 1, 1, 0] Try.f72).toArray false) Code.ret))) Code.skip)) (Code.seq (Code.region 6 (rg [0, 0, 0, 1, 0, 1, 1, 0] Try.f72).toArray false) (Code.seq (Code.region 7 (rg [0, 0, 0, 1, 0, 1, 1, 1, 0] Try.f72).toArray false) (Code.seq (Code.region 8 (rg [0, 0, 0, 1, 0, 1, 1, 1, 1, 0] Try.f72).toArray false) (Code.seq (Code.region 9 (rg [0, 0, 0, 1, 0, 1, 1, 1, 1, 1, 0] Try.f72).toArray false) (Code.seq (Code.seq (Code.region 10 OPS72_10.toArray true) (Code.cond (Operand.tmp 67) (Code.region 11 (rg [0, 0, 0, 1, 0, 1, 1, 1, 1, 1, 1, 0, 1, 0] Try.f72).toArray false) (Code.region 12 (rg [0, 0, 0, 1, 0, 1, 1, 1, 1, 1, 1, 0, 1, 1] Try.f72).toArray false))) (Code.region 13 (rg [0, 0, 0, 1, 0, 1, 1, 1, 1, 1, 1, 1] Try.f72).toArray false)))))))))).wp Try.prog Q a0 w := by
  have PH := hide h
  have KP := hide hk
  clear h hk
  have HN := hide hN
  have HX := hide hX
  have HR := hide hR
  have LH := hide L
  have FH := hide FR
  clear hN hX hR L FR
  have lt1 := (unhide LH).lt t ht
  have e1 : (0 : Int) ≤ (t : Int) := by omega
  have e2 : (t : Int) < (n : Int) := by omega
  have HT := hide ht
  clear ht

  by_cases hT : Top S t
  · have hb := (isTopB_iff S t).2 hT
    refine wp_seq ?_
    refine wp_seq ?_
    refine wp_region_lit ?_
    refine lmv K0 rfl rfl (want_none rfl) rfl rfl (fun a4 K4 => ?_)
    refine lmv K4 rfl rfl (want_none rfl) rfl rfl (fun a5 K5 => ?_)
    clear K4
    refine lcall (f := 87) (args := #[.pointer (some ⟨p, 0, none⟩), .int .i64 (t : Int)]) K5 rfl rfl (want_none rfl) (fun ev E => ?_) (by have q := isTopL (unhide PH) (unhide LH) (unhide HT); rw [hb] at q; exact q) (fun e W6 hR => ?_)
    · have EF := E.func; have E6 := E.tmp 6 _ rfl; have E7 := E.tmp 7 _ rfl; clear E; clear PH KP HN HX HR LH FH HT; go_simp
    obtain ⟨rfl, P1, Q1⟩ := hR
    have Q2 := hide ((unhide KP).tr Q1)
    clear PH KP Q1
    have PH := hide P1
    have KP := Q2
    clear Q2 P1
    refine ⟨_, rfl, fun a7 K7 => ?_⟩
    clear K5
    refine ltake (v := .bool false) (w' := W6) K7 rfl rfl (want_none rfl) (fun ev E => ?_) (fun a8 K8 => ?_)
    · have E8 := E.tmp 8 _ rfl; clear E; clear PH KP HN HX HR LH FH HT; go_simp
    clear K7
    refine wpList_nil ?_
    show Code.wp _ _ _ _ _
    refine knCond (b := false) K8 rfl ?_
    refine wp_exit ?_
    exact unhide HX _ _ (K8.less ⟨rfl, rfl, trivial⟩) (unhide PH) hT (unhide KP)
  · have hb := (isTopB_not S t).2 hT
    refine seqN ?_
    refine seqR ?_
    refine lmv K0 rfl rfl (want_none rfl) rfl rfl (fun a4 K4 => ?_)
    refine lmv K4 rfl rfl (want_none rfl) rfl rfl (fun a5 K5 => ?_)
    clear K4
    refine lcall (f := 87) (args := #[.pointer (some ⟨p, 0, none⟩), .int .i64 (t : Int)]) K5 rfl rfl (want_none rfl) (fun ev E => ?_) (by have q := isTopL (unhide PH) (unhide LH) (unhide HT); rw [hb] at q; exact q) (fun e W6 hR => ?_)
    · have EF := E.func; have E6 := E.tmp 6 _ rfl; have E7 := E.tmp 7 _ rfl; clear E; clear PH KP HN HX HR LH FH HT; go_simp
    obtain ⟨rfl, P1, Q1⟩ := hR
    have Q2 := hide ((unhide KP).tr Q1)
    clear PH KP Q1
    have PH := hide P1
    have KP := Q2
    clear Q2 P1
    refine ⟨_, rfl, fun a7 K7 => ?_⟩
    clear K5
    refine ltake (v := .bool true) (w' := W6) K7 rfl rfl (want_none rfl) (fun ev E => ?_) (fun a8 K8 => ?_)
    · have E8 := E.tmp 8 _ rfl; clear E; clear PH KP HN HX HR LH FH HT; go_simp
    clear K7
    refine nilN ?_
    refine knCond (b := true) K8 rfl (wp_skip ?_)
    show Code.wp _ _ _ _ _
    have K9 : Kn _ 80 [(0, .pointer (some ⟨p, 0, none⟩)), (1, .int .i64 (t : Int))] := K8.less ⟨rfl, rfl, trivial⟩
    clear K8
    refine wp_block ?_
    refine seqR ?_
    refine lmv K9 rfl rfl (want_none rfl) rfl rfl (fun a10 K10 => ?_)
    clear K9
    refine lnc K10 rfl rfl (want_none rfl) rfl rfl (fun a11 K11 => ?_)
    clear K10
    refine lfa K11 rfl rfl (want_none rfl) rfl rfl FA66_1 (fun a12 K12 => ?_)
    clear K11
    refine ltake (v := .slice (some ⟨g, 0, none⟩) n cap) (w' := W6) K12 rfl rfl (want_none rfl) (fun ev E => ?_) (fun a13 K13 => ?_)
    · obtain ⟨c0, c1, _⟩ := (unhide PH).head; have E12 := E.tmp 12 _ rfl; clear E; clear PH KP HN HX HR LH FH HT; go_simp
    clear K12
    refine lmv K13 rfl rfl (want_none rfl) rfl rfl (fun a14 K14 => ?_)
    clear K13
    refine ltake (v := .pointer (some ⟨g, t * 14, none⟩)) (w' := W6) K14 rfl rfl (want_none rfl) (fun ev E => ?_) (fun a15 K15 => ?_)
    · have E13 := E.tmp 13 _ rfl; have E14 := E.tmp 14 _ rfl; clear E; clear PH KP HN HX HR LH FH HT; go_simp
    clear K14
    refine lfa K15 rfl rfl (want_none rfl) rfl rfl FA75_0 (fun a16 K16 => ?_)
    clear K15
    refine ltake (v := .int .i64 ((S t).up : Int)) (w' := W6) K16 rfl rfl (want_none rfl) (fun ev E => ?_) (fun a17 K17 => ?_)
    · obtain ⟨s0, s1, s2, s3, s4, s5, s6, s7, s8, s9, s10, s11, s12, s13⟩ := (unhide PH).slot (t := t) (by assumption); have E16 := E.tmp 16 _ rfl; clear E; clear PH KP HN HX HR LH FH HT; go_simp
    clear K16
    refine las K17 rfl rfl (want_none rfl) rfl rfl (fun a18 K18 => ?_)
    clear K17
    refine nilN ?_
    have K19 : Kn _ 80 [(0, .pointer (some ⟨p, 0, none⟩)), (1, .int .i64 (t : Int)), (4, .int .i64 ((S t).up : Int))] := K18.less ⟨rfl, rfl, rfl, trivial⟩
    clear K18
    obtain ⟨u, hu⟩ : ∃ u, u = (S t).up := ⟨_, rfl⟩
    rw [← hu] at K19
    obtain ⟨hu1, hu2, hu3, hu4⟩ := (unhide LH).upA (unhide HT) hT
    rw [← hu] at hu1 hu2 hu3 hu4
    have ltu := (unhide LH).lt u hu1
    have e3 : (0 : Int) ≤ (u : Int) := by omega
    have e4 : (u : Int) < (n : Int) := by omega
    have HU := hide (And.intro hu (And.intro hu1 (And.intro hu2 (And.intro hu3 hu4))))
    have HT2 := hide hT
    clear hu hu1 hu2 hu3 hu4 hb hT
    by_cases hT : Top S u
    · have hb := (isTopB_iff S u).2 hT
      refine wp_seq ?_
      refine seqR ?_
      refine lmv K19 rfl rfl (want_none rfl) rfl rfl (fun a23 K23 => ?_)
      clear K19
      refine lmv K23 rfl rfl (want_none rfl) rfl rfl (fun a24 K24 => ?_)
      clear K23
      refine lcall (f := 87) (args := #[.pointer (some ⟨p, 0, none⟩), .int .i64 (u : Int)]) K24 rfl rfl (want_none rfl) (fun ev E => ?_) (by have q := isTopL (unhide PH) (unhide LH) (unhide HU).2.1; rw [hb] at q; exact q) (fun e W25 hR => ?_)
      · have EF := E.func; have E18 := E.tmp 18 _ rfl; have E19 := E.tmp 19 _ rfl; clear E; clear PH KP HN HX HR LH FH HT HT2 HU; clear hT hb; go_simp
      obtain ⟨rfl, P1, Q1⟩ := hR
      have Q2 := hide ((unhide KP).tr Q1)
      clear PH KP Q1
      have PH := hide P1
      have KP := Q2
      clear Q2 P1
      refine ⟨_, rfl, fun a26 K26 => ?_⟩
      clear K24
      refine nilN ?_
      refine knCond (b := true) K26 rfl ?_
      have K27 : Kn _ 80 [(0, .pointer (some ⟨p, 0, none⟩)), (1, .int .i64 (t : Int)), (4, .int .i64 (u : Int))] := K26.less ⟨rfl, rfl, rfl, trivial⟩
      clear K26
      refine seqR ?_
      refine lmv K27 rfl rfl (want_none rfl) rfl rfl (fun a28 K28 => ?_)
      clear K27
      refine lmv K28 rfl rfl (want_none rfl) rfl rfl (fun a29 K29 => ?_)
      clear K28
      refine lcall (f := 88) (args := #[.pointer (some ⟨p, 0, none⟩), .int .i64 (u : Int)]) K29 rfl rfl (want_none rfl) (fun ev E => ?_) (settleL (unhide PH) (unhide LH) (unhide HU).2.1) (fun e W30 hR => ?_)
      · have EF := E.func; have E21 := E.tmp 21 _ rfl; have E22 := E.tmp 22 _ rfl; clear E; clear PH KP HN HX HR LH FH HT HT2 HU; clear hT hb; go_simp
      obtain ⟨rfl, Q1, S1, GS1, P1, LS1, lkS1, iS1, fS1⟩ := hR
      have Q2 := hide ((unhide KP).tr Q1)
      clear PH KP Q1
      have PH := hide P1
      have KP := Q2
      clear Q2 P1
      refine ⟨_, rfl, fun a31 K31 => ?_⟩
      clear K29
      refine nilN ?_
      refine seqR ?_
      refine lmv K31 rfl rfl (want_none rfl) rfl rfl (fun a32 K32 => ?_)
      clear K31
      refine lmv K32 rfl rfl (want_none rfl) rfl rfl (fun a33 K33 => ?_)
      clear K32
      refine lcall (f := 88) (args := #[.pointer (some ⟨p, 0, none⟩), .int .i64 (t : Int)]) K33 rfl rfl (want_none rfl) (fun ev E => ?_) (settleL (unhide PH) LS1 (unhide HT)) (fun e W34 hR => ?_)
      · have EF := E.func; have E24 := E.tmp 24 _ rfl; have E25 := E.tmp 25 _ rfl; clear E; clear PH KP HN HX HR LH FH HT HT2 HU; clear hT hb LS1 lkS1 iS1 fS1; go_simp
      obtain ⟨rfl, Q1, S2, GS2, P1, LS2, lkS2, iS2, fS2⟩ := hR
      have Q2 := hide ((unhide KP).tr Q1)
      clear PH KP Q1
      have PH := hide P1
      have KP := Q2
      clear Q2 P1
      refine ⟨_, rfl, fun a35 K35 => ?_⟩
      clear K33
      refine nilN ?_
      refine seqR ?_
      refine lmv K35 rfl rfl (want_none rfl) rfl rfl (fun a36 K36 => ?_)
      clear K35
      refine lmv K36 rfl rfl (want_none rfl) rfl rfl (fun a37 K37 => ?_)
      clear K36
      obtain ⟨hu, hu1, hu2, hu3, hu4⟩ := unhide HU
      have n2 : ¬ Top S2 t := fun q => unhide HT2 ((lkS1.top t).1 ((lkS2.top t).1 q))
      have up2 : (S2 t).up = u := by rw [lkS2.up, lkS1.up, ← hu]
      have iu2 : Idle S2 (S2 t).up := by rw [up2]; exact fS2 u hu2 (by rw [lkS1.up]; exact hu3) iS1
      obtain ⟨G3, L3, F3, c3, T3, i3⟩ := LS2.last2 (unhide HT) n2 iS2 iu2
      have T3' : Top (rotS S2 t) t := T3.2 (by rw [up2]; exact (lkS2.top u).2 ((lkS1.top u).2 hT))
      clear hu hu1 hu2 hu3 hu4 T3 up2 c3
      refine lcall (f := 89) (args := #[.pointer (some ⟨p, 0, none⟩), .int .i64 (t : Int)]) K37 rfl rfl (want_none rfl) (fun ev E => ?_) (rotateL (unhide PH) LS2 (unhide HT) n2 iS2 iu2) (fun e W38 hR => ?_)
      · have EF := E.func; have E27 := E.tmp 27 _ rfl; have E28 := E.tmp 28 _ rfl; clear E; clear PH KP HN HX HR LH FH HT HT2 HU; clear hT hb LS1 lkS1 iS1 fS1 LS2 lkS2 fS2 n2 iu2 iS2 L3 F3 T3' i3; go_simp
      obtain ⟨rfl, Q1, P1⟩ := hR
      have Q2 := hide ((unhide KP).tr Q1)
      clear PH KP Q1
      have PH := hide P1
      have KP := Q2
      clear Q2 P1
      refine ⟨_, rfl, fun a39 K39 => ?_⟩
      clear K37
      refine nilN ?_
      refine wp_ret (thenRet (inRet ?_))
      exact unhide HR _ _ _ _ (K39.less trivial) (unhide PH) L3 ((unhide FH).trans (lkS1.fra.trans (lkS2.fra.trans F3))) T3' i3 (unhide KP)
    · have hb := (isTopB_not S u).2 hT
      refine seqN ?_
      refine seqR ?_
      refine lmv K19 rfl rfl (want_none rfl) rfl rfl (fun a23 K23 => ?_)
      clear K19
      refine lmv K23 rfl rfl (want_none rfl) rfl rfl (fun a24 K24 => ?_)
      clear K23
      refine lcall (f := 87) (args := #[.pointer (some ⟨p, 0, none⟩), .int .i64 (u : Int)]) K24 rfl rfl (want_none rfl) (fun ev E => ?_) (by have q := isTopL (unhide PH) (unhide LH) (unhide HU).2.1; rw [hb] at q; exact q) (fun e W25 hR => ?_)
      · have EF := E.func; have E18 := E.tmp 18 _ rfl; have E19 := E.tmp 19 _ rfl; clear E; clear PH KP HN HX HR LH FH HT HT2 HU; clear hT hb; go_simp
      obtain ⟨rfl, P1, Q1⟩ := hR
      have Q2 := hide ((unhide KP).tr Q1)
      clear PH KP Q1
      have PH := hide P1
      have KP := Q2
      clear Q2 P1
      refine ⟨_, rfl, fun a26 K26 => ?_⟩
      clear K24
      refine nilN ?_
      refine knCond (b := false) K26 rfl (wp_skip ?_)
      show Code.wp _ _ _ _ _
      have K27 : Kn _ 80 [(0, .pointer (some ⟨p, 0, none⟩)), (1, .int .i64 (t : Int)), (4, .int .i64 (u : Int))] := K26.less ⟨rfl, rfl, rfl, trivial⟩
      clear K26
      refine seqR ?_
      refine lmv K27 rfl rfl (want_none rfl) rfl rfl (fun a28 K28 => ?_)
      clear K27
      refine lnc K28 rfl rfl (want_none rfl) rfl rfl (fun a29 K29 => ?_)
      clear K28
      refine lfa K29 rfl rfl (want_none rfl) rfl rfl FA66_1 (fun a30 K30 => ?_)
      clear K29
      refine ltake (v := .slice (some ⟨g, 0, none⟩) n cap) (w' := W25) K30 rfl rfl (want_none rfl) (fun ev E => ?_) (fun a31 K31 => ?_)
      · obtain ⟨c0, c1, _⟩ := (unhide PH).head; have E32 := E.tmp 32 _ rfl; clear E; clear PH KP HN HX HR LH FH HT HT2 HU; clear hT hb; go_simp
      clear K30
      refine lmv K31 rfl rfl (want_none rfl) rfl rfl (fun a32 K32 => ?_)
      clear K31
      refine ltake (v := .pointer (some ⟨g, u * 14, none⟩)) (w' := W25) K32 rfl rfl (want_none rfl) (fun ev E => ?_) (fun a33 K33 => ?_)
      · have E33 := E.tmp 33 _ rfl; have E34 := E.tmp 34 _ rfl; clear E; clear PH KP HN HX HR LH FH HT HT2 HU; clear hT hb; go_simp
      clear K32
      refine lfa K33 rfl rfl (want_none rfl) rfl rfl FA75_0 (fun a34 K34 => ?_)
      clear K33
      refine ltake (v := .int .i64 ((S u).up : Int)) (w' := W25) K34 rfl rfl (want_none rfl) (fun ev E => ?_) (fun a35 K35 => ?_)
      · obtain ⟨s0, s1, s2, s3, s4, s5, s6, s7, s8, s9, s10, s11, s12, s13⟩ := (unhide PH).slot (t := u) (by assumption); have E36 := E.tmp 36 _ rfl; clear E; clear PH KP HN HX HR LH FH HT HT2 HU; clear hT hb; go_simp
      clear K34
      refine las K35 rfl rfl (want_none rfl) rfl rfl (fun a36 K36 => ?_)
      clear K35
      refine nilN ?_
      have K37 : Kn _ 80 [(0, .pointer (some ⟨p, 0, none⟩)), (1, .int .i64 (t : Int)), (4, .int .i64 (u : Int)), (5, .int .i64 ((S u).up : Int))] := K36.less ⟨rfl, rfl, rfl, rfl, trivial⟩
      clear K36
      obtain ⟨o, ho⟩ : ∃ o, o = (S u).up := ⟨_, rfl⟩
      rw [← ho] at K37
      obtain ⟨hu, hu1, hu2, hu3, hu4⟩ := unhide HU
      obtain ⟨ho1, ho2, ho3⟩ := (unhide LH).upB (unhide HT) (unhide HT2) (by rw [← hu]; exact hT)
      rw [← hu, ← ho] at ho1 ho2 ho3
      rw [← ho] at hu3 hu4
      have lto := (unhide LH).lt o ho1
      have e5 : (0 : Int) ≤ (o : Int) := by omega
      have e6 : (o : Int) < (n : Int) := by omega
      clear HU
      have HU := hide (And.intro hu (And.intro hu1 (And.intro hu2 (And.intro hu3 hu4))))
      have HO := hide (And.intro ho (And.intro ho1 (And.intro ho2 ho3)))
      have HT3 := hide hT
      clear hu hu1 hu2 hu3 hu4 ho ho1 ho2 ho3 hT hb
      refine seqR ?_
      refine lmv K37 rfl rfl (want_none rfl) rfl rfl (fun a38 K38 => ?_)
      clear K37
      refine lmv K38 rfl rfl (want_none rfl) rfl rfl (fun a39 K39 => ?_)
      clear K38
      refine lcall (f := 88) (args := #[.pointer (some ⟨p, 0, none⟩), .int .i64 (o : Int)]) K39 rfl rfl (want_none rfl) (fun ev E => ?_) (settleL (unhide PH) (unhide LH) (unhide HO).2.1) (fun e W40 hR => ?_)
      · have EF := E.func; have E38 := E.tmp 38 _ rfl; have E39 := E.tmp 39 _ rfl; clear E; clear PH KP HN HX HR LH FH HT HT2 HU HO HT3; go_simp
      obtain ⟨rfl, Q1, S1, GS1, P1, LS1, lkS1, iS1, fS1⟩ := hR
      have Q2 := hide ((unhide KP).tr Q1)
      clear PH KP Q1
      have PH := hide P1
      have KP := Q2
      clear Q2 P1
      refine ⟨_, rfl, fun a41 K41 => ?_⟩
      clear K39
      refine nilN ?_
      refine seqR ?_
      refine lmv K41 rfl rfl (want_none rfl) rfl rfl (fun a42 K42 => ?_)
      clear K41
      refine lmv K42 rfl rfl (want_none rfl) rfl rfl (fun a43 K43 => ?_)
      clear K42
      refine lcall (f := 88) (args := #[.pointer (some ⟨p, 0, none⟩), .int .i64 (u : Int)]) K43 rfl rfl (want_none rfl) (fun ev E => ?_) (settleL (unhide PH) LS1 (unhide HU).2.1) (fun e W44 hR => ?_)
      · have EF := E.func; have E41 := E.tmp 41 _ rfl; have E42 := E.tmp 42 _ rfl; clear E; clear PH KP HN HX HR LH FH HT HT2 HU HO HT3; clear LS1 lkS1 iS1 fS1; go_simp
      obtain ⟨rfl, Q1, S2, GS2, P1, LS2, lkS2, iS2, fS2⟩ := hR
      have Q2 := hide ((unhide KP).tr Q1)
      clear PH KP Q1
      have PH := hide P1
      have KP := Q2
      clear Q2 P1
      refine ⟨_, rfl, fun a45 K45 => ?_⟩
      clear K43
      refine nilN ?_
      refine seqR ?_
      refine lmv K45 rfl rfl (want_none rfl) rfl rfl (fun a46 K46 => ?_)
      clear K45
      refine lmv K46 rfl rfl (want_none rfl) rfl rfl (fun a47 K47 => ?_)
      clear K46
      refine lcall (f := 88) (args := #[.pointer (some ⟨p, 0, none⟩), .int .i64 (t : Int)]) K47 rfl rfl (want_none rfl) (fun ev E => ?_) (settleL (unhide PH) LS2 (unhide HT)) (fun e W48 hR => ?_)
      · have EF := E.func; have E44 := E.tmp 44 _ rfl; have E45 := E.tmp 45 _ rfl; clear E; clear PH KP HN HX HR LH FH HT HT2 HU HO HT3; clear LS1 lkS1 iS1 fS1 LS2 lkS2 iS2 fS2; go_simp
      obtain ⟨rfl, Q1, S3, GS3, P1, LS3, lkS3, iS3, fS3⟩ := hR
      have Q2 := hide ((unhide KP).tr Q1)
      clear PH KP Q1
      have PH := hide P1
      have KP := Q2
      clear Q2 P1
      refine ⟨_, rfl, fun a49 K49 => ?_⟩
      clear K47
      refine nilN ?_
      obtain ⟨hu, hu1, hu2, hu3, hu4⟩ := unhide HU
      obtain ⟨ho, ho1, ho2, ho3⟩ := unhide HO
      have lk := lkS1.trans (lkS2.trans lkS3)
      have n3 : ¬ Top S3 t := fun q => unhide HT2 ((lk.top t).1 q)
      have up3 : (S3 t).up = u := by rw [lk.up, ← hu]
      have upu3 : (S3 u).up = o := by rw [lk.up, ← ho]
      have n3u : ¬ Top S3 (S3 t).up := by rw [up3]; exact fun q => unhide HT3 ((lk.top u).1 q)
      have iu3 : Idle S3 (S3 t).up := by rw [up3]; exact fS3 u hu2 (by rw [lkS2.up, lkS1.up, ← ho]; exact hu3) iS2
      have io3 : Idle S3 (S3 (S3 t).up).up := by
        rw [up3, upu3]
        exact fS3 o hu3 (by rw [lkS2.up, lkS1.up]; exact ho3) (fS2 o hu4 (by rw [lkS1.up]; exact ho2) iS1)
      have c3 : (S3 t).sm.c = (S t).sm.c := lk.c t
      have FF := (unhide FH).trans lk.fra
      have HH := hide (And.intro LS3 (And.intro n3 (And.intro n3u (And.intro iS3 (And.intro iu3 (And.intro io3 (And.intro c3 (And.intro FF up3))))))))
      clear hu hu1 hu2 hu3 hu4 ho ho1 ho2 ho3 lk n3 n3u iu3 io3 c3 FF up3 upu3 LS1 lkS1 iS1 fS1 LS2 lkS2 iS2 fS2 LS3 lkS3 iS3 fS3
      have K50 : Kn _ 80 [(0, .pointer (some ⟨p, 0, none⟩)), (1, .int .i64 (t : Int)), (4, .int .i64 (u : Int)), (5, .int .i64 (o : Int))] := K49.less ⟨rfl, rfl, rfl, rfl, trivial⟩
      clear K49
      refine seqN ?_
      refine seqN ?_
      refine read72 K50 (unhide PH) (by omega) (by omega) (by omega) (fun a40 V40 bb K40 P40 Q40 => ?_)
      have Q2 := hide ((unhide KP).tr Q40)
      clear PH KP Q40
      have PH := hide P40
      have KP := Q2
      clear Q2 P40
      show Code.wp _ _ _ _ _
      obtain ⟨L3, n3, n3u, i3, iu3, io3, c3, F3, up3⟩ := unhide HH
      cases bb
      · obtain ⟨G4, L4, F4, c4, n4, i4, iu4⟩ := L3.zag2 (unhide HT) n3 n3u i3 iu3 io3
        refine knCond (b := false) K40 rfl ?_
        show Code.wp _ _ _ _ _
        refine wp_region_lit ?_
        refine lmv K40 rfl rfl (want_none rfl) rfl rfl (fun a61 K61 => ?_)
        clear K40
        refine lmv K61 rfl rfl (want_none rfl) rfl rfl (fun a62 K62 => ?_)
        clear K61
        refine lcall (f := 89) (args := #[.pointer (some ⟨p, 0, none⟩), .int .i64 (t : Int)]) K62 rfl rfl (want_none rfl) (fun ev E => ?_) (rotateL (unhide PH) L3 (unhide HT) n3 i3 iu3) (fun e W63 hR => ?_)
        · have EF := E.func; have E71 := E.tmp 71 _ rfl; have E72 := E.tmp 72 _ rfl; clear E; clear PH KP HN HX HR LH FH HT HT2 HU HO HT3 HH L3 n3 n3u i3 iu3 io3 F3; clear L4 F4 n4 i4 iu4; go_simp
        obtain ⟨rfl, Q1, P1⟩ := hR
        have Q2 := hide ((unhide KP).tr Q1)
        clear PH KP Q1
        have PH := hide P1
        have KP := Q2
        clear Q2 P1
        refine ⟨_, rfl, fun a64 K64 => ?_⟩
        clear K62
        refine nilN ?_
        refine lastN ?_
        refine wp_region_lit ?_
        refine lmv K64 rfl rfl (want_none rfl) rfl rfl (fun a65 K65 => ?_)
        clear K64
        refine lmv K65 rfl rfl (want_none rfl) rfl rfl (fun a66 K66 => ?_)
        clear K65
        obtain ⟨G5, L5, F5, c5, T5, i5⟩ := L4.last2 (unhide HT) n4 i4 iu4
        refine lcall (f := 89) (args := #[.pointer (some ⟨p, 0, none⟩), .int .i64 (t : Int)]) K66 rfl rfl (want_none rfl) (fun ev E => ?_) (rotateL (unhide PH) L4 (unhide HT) n4 i4 iu4) (fun e W67 hR => ?_)
        · have EF := E.func; have E74 := E.tmp 74 _ rfl; have E75 := E.tmp 75 _ rfl; clear E; clear PH KP HN HX HR LH FH HT HT2 HU HO HT3 HH L3 n3 n3u i3 iu3 io3 F3; clear L4 F4 n4 i4 iu4; go_simp
        obtain ⟨rfl, Q1, P1⟩ := hR
        have Q2 := hide ((unhide KP).tr Q1)
        clear PH KP Q1
        have PH := hide P1
        have KP := Q2
        clear Q2 P1
        refine ⟨_, rfl, fun a68 K68 => ?_⟩
        clear K66
        refine wpList_nil ?_
        show Q .normal _ _
        exact unhide HN _ _ _ _ (K68.less ⟨rfl, rfl, trivial⟩) (unhide PH) L5 (F3.trans (F4.trans F5)) (unhide KP) (by omega)
      · obtain ⟨G4, L4, F4, c4, n4, i4, iu4⟩ := L3.first2 (unhide HT) n3 n3u i3 iu3 io3
        have hu1 := (unhide HU).2.1
        rw [up3] at L4 F4 c4 n4 i4 iu4 n3u iu3 io3
        have c4 := congrArg Sm.c c4
        refine knCond (b := true) K40 rfl ?_
        show Code.wp _ _ _ _ _
        refine wp_region_lit ?_
        refine lmv K40 rfl rfl (want_none rfl) rfl rfl (fun a61 K61 => ?_)
        clear K40
        refine lmv K61 rfl rfl (want_none rfl) rfl rfl (fun a62 K62 => ?_)
        clear K61
        refine lcall (f := 89) (args := #[.pointer (some ⟨p, 0, none⟩), .int .i64 (u : Int)]) K62 rfl rfl (want_none rfl) (fun ev E => ?_) (rotateL (unhide PH) L3 hu1 n3u iu3 io3) (fun e W63 hR => ?_)
        · have EF := E.func; have E68 := E.tmp 68 _ rfl; have E69 := E.tmp 69 _ rfl; clear E; clear PH KP HN HX HR LH FH HT HT2 HU HO HT3 HH L3 n3 n3u i3 iu3 io3 F3; clear L4 F4 n4 i4 iu4 hu1; go_simp
        obtain ⟨rfl, Q1, P1⟩ := hR
        have Q2 := hide ((unhide KP).tr Q1)
        clear PH KP Q1
        have PH := hide P1
        have KP := Q2
        clear Q2 P1
        refine ⟨_, rfl, fun a64 K64 => ?_⟩
        clear K62
        refine nilN ?_
        refine lastN ?_
        refine wp_region_lit ?_
        refine lmv K64 rfl rfl (want_none rfl) rfl rfl (fun a65 K65 => ?_)
        clear K64
        refine lmv K65 rfl rfl (want_none rfl) rfl rfl (fun a66 K66 => ?_)
        clear K65
        obtain ⟨G5, L5, F5, c5, T5, i5⟩ := L4.last2 (unhide HT) n4 i4 iu4
        refine lcall (f := 89) (args := #[.pointer (some ⟨p, 0, none⟩), .int .i64 (t : Int)]) K66 rfl rfl (want_none rfl) (fun ev E => ?_) (rotateL (unhide PH) L4 (unhide HT) n4 i4 iu4) (fun e W67 hR => ?_)
        · have EF := E.func; have E74 := E.tmp 74 _ rfl; have E75 := E.tmp 75 _ rfl; clear E; clear PH KP HN HX HR LH FH HT HT2 HU HO HT3 HH L3 n3 n3u i3 iu3 io3 F3; clear L4 F4 n4 i4 iu4 hu1; go_simp
        obtain ⟨rfl, Q1, P1⟩ := hR
        have Q2 := hide ((unhide KP).tr Q1)
        clear PH KP Q1
        have PH := hide P1
        have KP := Q2
        clear Q2 P1
        refine ⟨_, rfl, fun a68 K68 => ?_⟩
        clear K66
        refine wpList_nil ?_
        show Q .normal _ _
        exact unhide HN _ _ _ _ (K68.less ⟨rfl, rfl, trivial⟩) (unhide PH) L5 (F3.trans (F4.trans F5)) (unhide KP) (by omega)
set_option maxHeartbeats 4000000 in
theorem splayL {p g n cap room t : Nat} {T : Tr} {S : Ss} {G : Gh} {w : World} (h : Pool w p g n cap room S) (L : Lc S n T G) (ht : Th T t) :
    Calls Try.prog 72 #[.pointer (some ⟨p, 0, none⟩), .int .i64 (t : Int)] w fun e w' => e = .returned (.tuple #[]) ∧ Keep [g] w w' ∧ ∃ S1 G1, Pool w' p g n cap room S1 ∧ Lc S1 n T G1 ∧ Fra T t S G S1 G1 ∧ Top S1 t ∧ Idle S1 t := by
  refine callsK (n := 80) (L := [(0, .pointer (some ⟨p, 0, none⟩)), (1, .int .i64 (t : Int))]) Try.func72 rfl Try.ntmps72 rfl rfl (fun a0 K0 => ?_)
  refine wp_seq ?_
  refine wp_block ?_
  refine wp_loop_ghost (fun k a w' => ∃ S1 G1, Kn a 80 [(0, .pointer (some ⟨p, 0, none⟩)), (1, .int .i64 (t : Int))] ∧ Pool w' p g n cap room S1 ∧ Lc S1 n T G1 ∧ Fra T t S G S1 G1 ∧ Keep [g] w w' ∧ k = (1048577 - (S1 t).sm.c).toNat) _ ⟨S, G, K0, h, L, Fra.refl, Keep.refl _ _, rfl⟩ ?_
  rintro k a w1 ⟨S1, G1, K1, P1, L1, F1, Q1, hk⟩
  have c1 := L1.c_le t
  refine round72 K1 P1 L1 F1 Q1 ht (fun a' W S2 G2 K2 P2 L2 F2 Q2 hc => ?_) (fun a' W K2 P2 T2 Q2 => ?_) (fun a' W S2 G2 K2 P2 L2 F2 T2 i2 Q2 => ?_)
  · have c2 := L2.c_le t
    exact ⟨_, by omega, S2, G2, K2, P2, L2, F2, Q2, rfl⟩
  · show Code.wp _ _ _ _ _
    have PH := hide P2
    have KP := hide Q2
    clear P2 Q2
    have lt1 := L1.lt t ht
    have e1 : (0 : Int) ≤ (t : Int) := by omega
    have e2 : (t : Int) < (n : Int) := by omega
    have HA := hide (And.intro L1 (And.intro F1 (And.intro T2 ht)))
    clear h L ht K0 K1 P1 L1 F1 Q1 hk c1 T2
    refine wp_region_lit ?_
    refine lmv K2 rfl rfl (want_none rfl) rfl rfl (fun a6 K6 => ?_)
    clear K2
    refine lmv K6 rfl rfl (want_none rfl) rfl rfl (fun a7 K7 => ?_)
    clear K6
    refine lcall (f := 88) (args := #[.pointer (some ⟨p, 0, none⟩), .int .i64 (t : Int)]) K7 rfl rfl (want_none rfl) (fun ev E => ?_) (settleL (unhide PH) (unhide HA).1 (unhide HA).2.2.2) (fun e W3 hR => ?_)
    · have EF := E.func; have E77 := E.tmp 77 _ rfl; have E78 := E.tmp 78 _ rfl; clear E; clear PH KP HA; go_simp
    obtain ⟨rfl, Q1, S3, G3, P3, L3, lk3, i3, _⟩ := hR
    refine ⟨_, rfl, fun a8 K8 => ?_⟩
    clear K7
    refine wpList_nil ?_
    obtain ⟨L1, F1, T2, ht⟩ := unhide HA
    exact ⟨K8.defers, .tuple #[], results_none rfl _ _ _, rfl, (unhide KP).tr Q1, S3, G3, P3, L3, F1.trans lk3.fra, (lk3.top t).2 T2, i3⟩
  · refine thenRet (inRet (thenRet ?_)) <;> exact ⟨K2.defers, .tuple #[], results_none rfl _ _ _, rfl, Q2, S2, G2, P2, L2, F2, T2, i2⟩
end Go.Proofs.Ytjnkgakajenoaaa
/- Plain mathematics for link: what a path goes on with; tops are told by their upper ends. No Go in sight. -/

namespace Go.Proofs.Ytjnkgakajenoaaa
set_option linter.unusedVariables false
set_option linter.unusedSimpArgs false
section
variable {S S1 S2 : Ss} {n : Nat} {T : Tr} {G G1 G2 : Gh} {t u o A M B x y z k l r below : Nat} {d : Int} {s : Bool}
theorem U_cmp (h : T.Wf) : ∀ (n : Nat) {t a b : Nat}, dp T t ≤ n → a ∈ U T t → b ∈ U T t → a ∈ U T b ∨ b ∈ U T a
  | 0, t, a, b, hn, ha, _ => by
    have := dp_pos h (U_mem_th' h ha); omega
  | n + 1, t, a, b, hn, ha, hb => by
    have ht := U_mem_th' h ha
    rcases (U_up h ht).1 ha with rfl | ha'
    · exact .inr hb
    · rcases (U_up h ht).1 hb with rfl | hb'
      · exact .inl ha
      · have := dp_th h ht
        exact U_cmp h n (by omega) ha' hb'
theorem U_cmp' (h : T.Wf) {a b : Nat} (ha : a ∈ U T t) (hb : b ∈ U T t) : a ∈ U T b ∨ b ∈ U T a := U_cmp h _ (Nat.le_refl _) ha hb
theorem Lc.ps_pn (h : Lc S n T G) (hx : Th T x) (e : G.pn x = y) (y0 : y ≠ 0) : Th T y ∧ ps T y = x := by
  subst e; exact (h.loc x hx).nx y0
/-- Along a part each is what the one above it goes on with. -/
theorem Lc.chaink (h : Lc S n T G) : ∀ (k : Nat) (x : Nat), Th T x → (S x).sm.c ≤ k → (∀ z, z ∈ U T x → G.fi x ∈ U T z → z ≠ G.fi x → G.pn (ps T z) = z) ∧ (∀ z, z ∈ U T (G.la x) → x ∈ U T z → z ≠ x → G.pn (ps T z) = z)
  | 0, x, hx, hc => by have := (h.loc x hx).fit.c1; omega
  | k + 1, x, hx, hc => by
    have L := h.loc x hx
    have W := h.wf
    have x0 : x ≠ 0 := by have := hx.1; omega
    have A : (S x).l ≠ 0 → _ := fun e => And.intro (L.kl e).th (Lc.chaink h k _ (L.kl e).th (by have := h.cl hx; omega))
    have B : (S x).r ≠ 0 → _ := fun e => And.intro (L.kr e).th (Lc.chaink h k _ (L.kr e).th (by have := h.cr hx; omega))
    have en := L.en
    have main : ∀ P Q : Nat, (P ≠ 0 → Th T P ∧ (∀ z, z ∈ U T P → G.fi P ∈ U T z → z ≠ G.fi P → G.pn (ps T z) = z) ∧ (∀ z, z ∈ U T (G.la P) → P ∈ U T z → z ≠ P → G.pn (ps T z) = z)) →
        (Q ≠ 0 → Th T Q ∧ (∀ z, z ∈ U T Q → G.fi Q ∈ U T z → z ≠ G.fi Q → G.pn (ps T z) = z) ∧ (∀ z, z ∈ U T (G.la Q) → Q ∈ U T z → z ≠ Q → G.pn (ps T z) = z)) →
        (P = 0 → G.fi x = x) → (P ≠ 0 → G.fi x = G.fi P ∧ G.pn (G.la P) = x) → (Q = 0 → G.la x = x) → (Q ≠ 0 → G.la x = G.la Q ∧ G.pn x = G.fi Q) →
        (∀ z, z ∈ U T x → G.fi x ∈ U T z → z ≠ G.fi x → G.pn (ps T z) = z) ∧ (∀ z, z ∈ U T (G.la x) → x ∈ U T z → z ≠ x → G.pn (ps T z) = z) := by
      intro P Q hP hQ e1 e2 e3 e4
      constructor
      · intro z hz hf hne
        by_cases p : P = 0
        · rw [e1 p] at hf hne
          exact absurd (U_anti W hz hf) hne
        · obtain ⟨P1, P2, P3⟩ := hP p
          obtain ⟨f1, f2⟩ := e2 p
          rw [f1] at hf hne
          have lP := h.la_in P1
          obtain ⟨_, hps⟩ := h.ps_pn (U_mem_th' W lP |> fun q => U_mem_th W (U_self W q)) f2 x0
          rcases (U_up W hx).1 hz with rfl | hz'
          · rw [hps]; exact f2
          · rw [hps] at hz'
            rcases U_cmp' W hz' lP with q | q
            · exact P2 z q hf hne
            · by_cases e : z = P
              · subst e; exact P2 z (U_self W P1) hf hne
              · exact P3 z hz' q e
      · intro z hz hf hne
        by_cases q : Q = 0
        · rw [e3 q] at hz
          exact absurd (U_anti W hz hf) hne
        · obtain ⟨Q1, Q2, Q3⟩ := hQ q
          obtain ⟨f1, f2⟩ := e4 q
          rw [f1] at hz
          have fQ := h.fi_in Q1
          have lQ := h.la_in Q1
          have fth := U_mem_th W fQ
          have f0 : G.fi Q ≠ 0 := by have := fth.1; omega
          obtain ⟨_, hps⟩ := h.ps_pn hx f2 f0
          rcases U_cmp' W hz (U_trans W lQ fQ) with k | k
          · rcases (U_up W fth).1 k with rfl | k'
            · rw [hps]; exact f2
            · rw [hps] at k'
              exact absurd (U_anti W k' hf) hne
          · by_cases e : z = G.fi Q
            · rw [e, hps]; exact f2
            · rcases U_cmp' W hz lQ with c | c
              · exact Q2 z c k e
              · by_cases e' : z = Q
                · subst e'; exact Q2 z (U_self W Q1) k e
                · exact Q3 z hz c e'
    cases hb : G.b x
    · rw [hb] at en
      exact main _ _ A B (fun e => en.l0 e) (fun e => en.l1 e) (fun e => en.r0 e) (fun e => en.r1 e)
    · rw [hb] at en
      exact main _ _ B A (fun e => en.r0 e) (fun e => en.r1 e) (fun e => en.l0 e) (fun e => en.l1 e)
theorem Lc.chain (h : Lc S n T G) (hx : Th T x) : (∀ z, z ∈ U T x → G.fi x ∈ U T z → z ≠ G.fi x → G.pn (ps T z) = z) ∧ (∀ z, z ∈ U T (G.la x) → x ∈ U T z → z ≠ x → G.pn (ps T z) = z) :=
  h.chaink (S x).sm.c.toNat x hx (by have := h.cn x; omega)

theorem Pc_det {pn : Nat → Nat} : ∀ {l m : List Nat} {z : Nat}, Pc pn (z :: l) → Pc pn (z :: m) → (∀ y ∈ l, y ≠ 0) → (∀ y ∈ m, y ≠ 0) → (∀ a e, z :: l = a ++ [e] → pn e = 0) → (∀ a e, z :: m = a ++ [e] → pn e = 0) → l = m
  | [], [], _, _, _, _, _, _, _ => rfl
  | [], y :: m, z, _, h2, _, h4, h5, _ => by
    have := h5 [] z rfl
    have e := h2.1
    exact absurd (by rw [← e]; exact this) (h4 y (by simp))
  | y :: l, [], z, h1, _, h3, _, _, h6 => by
    have := h6 [] z rfl
    have e := h1.1
    exact absurd (by rw [← e]; exact this) (h3 y (by simp))
  | y :: l, y' :: m, z, h1, h2, h3, h4, h5, h6 => by
    have e : y = y' := h1.1.symm.trans h2.1
    subst e
    have := Pc_det h1.2 h2.2 (fun x hx => h3 x (by simp [hx])) (fun x hx => h4 x (by simp [hx])) (fun a e k => h5 (z :: a) e (by rw [k]; rfl)) (fun a e k => h6 (z :: a) e (by rw [k]; rfl))
    rw [this]
/-- A top is told by its upper end. -/
theorem Lc.uniq (h : Lc S n T G) (hx : Th T x) (hy : Th T y) (tx : Top S x) (ty : Top S y) (e : G.fi x = G.fi y) : x = y := by
  obtain ⟨lx, sx⟩ := h.spell hx
  obtain ⟨ly, sy⟩ := h.spell hy
  obtain ⟨mx, ex⟩ := sx.hd
  obtain ⟨my, ey⟩ := sy.hd
  have nz : ∀ y ∈ lx, y ≠ 0 := fun y hy => by have := (sx.th y hy).1; omega
  have nz' : ∀ y ∈ ly, y ≠ 0 := fun y hy => by have := (sy.th y hy).1; omega
  obtain ⟨ax, kx⟩ := sx.ls
  obtain ⟨ay, ky⟩ := sy.ls
  have px := ((h.loc x hx).tp tx).pn
  have py := ((h.loc y hy).tp ty).pn
  have q := Pc_det (pn := G.pn) (z := G.fi x) (l := mx) (m := my) (by rw [← ex]; exact sx.pc) (by rw [e, ← ey]; exact sy.pc) (fun y hy => nz y (by rw [ex]; simp [hy])) (fun y hy => nz' y (by rw [ey]; simp [hy]))
    (fun a e1 k => by
      rw [← ex, kx] at k
      have := (List.append_inj' k rfl).2
      simp at this
      rw [← this]; exact px)
    (fun a e1 k => by
      rw [e, ← ey, ky] at k
      have := (List.append_inj' k rfl).2
      simp at this
      rw [← this]; exact py)
  have em : x ∈ ly := by rw [ey, ← e, ← q, ← ex]; exact sx.me
  rcases sy.nt x em with r | r
  · exact r
  · exact absurd tx r
/-- The ends of a part that isn't a top's are no tops. -/
theorem Lc.ends_nt (h : Lc S n T G) (hx : Th T x) (hz : Top S z) (hne : z ≠ x) : G.la x ≠ z ∧ G.fi x ≠ z := by
  obtain ⟨l, sp⟩ := h.spell hx
  have key : ∀ y, y ∈ l → y ≠ z := fun y hy e => by
    rcases sp.nt y hy with q | q
    · exact hne (by rw [← e, q])
    · exact q (by rw [e]; exact hz)
  obtain ⟨m, e⟩ := sp.hd
  obtain ⟨m', e'⟩ := sp.ls
  exact ⟨key _ (by rw [e']; simp), key _ (by rw [e]; simp)⟩
theorem Lc.la_dp (h : Lc S n T G) (hx : Th T x) : dp T x ≤ dp T (G.la x) := by
  rcases U_dp h.wf (h.la_in hx) with e | e
  · rw [← e]; exact Nat.le_refl _
  · omega
theorem Lc.fi_dp (h : Lc S n T G) (hx : Th T x) : dp T (G.fi x) ≤ dp T x := by
  rcases U_dp h.wf (h.fi_in hx) with e | e
  · rw [e]; exact Nat.le_refl _
  · omega
/-- What is in a part of a top, and hangs at it. -/
theorem Lc.top_whole (h : Lc S n T G) (hx : Th T x) (hT : Top S x) : (S x).hu.c + (S x).sm.c = Dc T (G.fi x) ∧ (S x).hu.w + (S x).sm.s = Dw T (G.fi x) := by
  have P := (h.loc x hx).tp hT
  have := h.whole hx
  rw [P.pn, Dc_zero h.wf, Dw_zero h.wf, P.a, lf_zero] at this
  omega
end

/-- What a slot's whole comes to. -/
def wh (z : Sl) : Ms := ⟨z.hu.c + z.sm.c, z.hu.w + z.sm.s⟩
def hangS (S : Ss) (t below : Nat) : Ms := ⟨(S t).hg.c + (wh (S (S t).r)).c - (wh (S below)).c, (S t).hg.w + (wh (S (S t).r)).w - (wh (S below)).w⟩
def prefS (S : Ss) (t below : Nat) : Ss := gatherS (upd S t { S t with hg := hangS S t below, r := below }) t
section
variable {S S1 S2 : Ss} {n : Nat} {T : Tr} {G G1 G2 : Gh} {t u o A M B x y z k l r below : Nat} {d : Int} {s : Bool}
def prefG (G : Gh) (t below : Nat) : Gh := { G with la := updF G.la t (if below = 0 then t else G.la below), pn := updF G.pn t (if below = 0 then 0 else G.fi below) }
theorem prefS_at (S : Ss) (hl : (S t).l ≠ t) (hb : below ≠ t) (x : Nat) : prefS S t below x = if x = t then { S t with hg := hangS S t below, r := below, sm := jn (jn (S (S t).l).sm (one (S t).wt)) (S below).sm, hu := ⟨(S (S t).l).hu.c + (hangS S t below).c + (S below).hu.c, (S (S t).l).hu.w + (hangS S t below).w + (S below).hu.w⟩ } else S x := by
  unfold prefS gatherS
  by_cases e : x = t
  · subst e
    rw [upd_same, if_pos rfl]
    unfold gSm gHu
    rw [upd_same]
    dsimp only
    rw [upd_ne _ _ hl, upd_ne _ _ hb]
  · rw [upd_ne _ _ e, upd_ne _ _ e, if_neg e]
theorem Lc.prefer (h : Lc S n T G) (ht : Th T t) (hT : Top S t) (ht2 : Idle S t) (hb : below ≠ 0 → Th T below ∧ Top S below ∧ (S below).up = t) :
    Lc (prefS S t below) n T (prefG G t below) ∧ Top (prefS S t below) t ∧ (∀ x, (prefS S t below x).up = (S x).up) ∧ (∀ x, Th T x → Top S x → x ≠ below → Top (prefS S t below) x) := by
  have W := h.wf
  have L := h.loc t ht
  have P := L.tp hT
  have t0 : t ≠ 0 := by have := ht.1; omega
  have hl : (S t).l ≠ t := h.kid_ne ht (.inl rfl)
  have hr : (S t).r ≠ t := h.kid_ne ht (.inr rfl)
  have upt : (S t).up ≠ t := fun e => by
    have h1 := h.up_dp ht hT
    have h2 := h.fi_dp ht
    rw [e] at h1; omega
  have bt : below ≠ t := fun e => by
    obtain ⟨_, _, h3⟩ := hb (by omega)
    rw [e] at h3; exact upt h3
  have bl : below ≠ 0 → below ≠ (S t).l := fun e e' => by
    obtain ⟨_, h2, h3⟩ := hb e
    unfold Top at h2; rw [h3] at h2; exact h2.1 e'.symm
  have br : below ≠ 0 → below ≠ (S t).r := fun e e' => by
    obtain ⟨_, h2, h3⟩ := hb e
    unfold Top at h2; rw [h3] at h2; exact h2.2 e'.symm
  have at1 := prefS_at (below := below) S hl bt
  generalize prefS S t below = S1 at at1 ⊢
  have en := L.en
  rw [P.b] at en
  have fx : ∀ x, (S1 x).up = (S x).up ∧ (S1 x).l = (S x).l ∧ (S1 x).tn = (S x).tn ∧ (S1 x).wt = (S x).wt ∧ (S1 x).wa = (S x).wa := fun x => by
    rw [at1]; split
    · rename_i e; subst e; simp
    · simp
  have nx : ∀ x, x ≠ t → S1 x = S x := fun x hx => by rw [at1, if_neg hx]
  have rt : (S1 t).r = below := by rw [at1, if_pos rfl]
  have laG : ∀ x, x ≠ t → (prefG G t below).la x = G.la x := fun x hx => updF_other _ _ hx
  have pnG : ∀ x, x ≠ t → (prefG G t below).pn x = G.pn x := fun x hx => updF_other _ _ hx
  have lat : (prefG G t below).la t = (if below = 0 then t else G.la below) := updF_same _ _ _
  have pnt : (prefG G t below).pn t = (if below = 0 then 0 else G.fi below) := updF_same _ _ _
  have pr0 : (S t).r = 0 → G.pn t = 0 := fun e => by
    have := en.r0 e
    have q := P.pn
    have e2 : G.la t = t := this
    rw [e2] at q; exact q
  have pr1 : (S t).r ≠ 0 → G.pn t = G.fi (S t).r ∧ G.la t = G.la (S t).r := fun e => ⟨(en.r1 e).2, (en.r1 e).1⟩
  have bf : below ≠ 0 → Th T (G.fi below) ∧ ps T (G.fi below) = t ∧ G.pn (G.la below) = 0 ∧ G.pn t ≠ G.fi below ∧ dp T t < dp T (G.la below) := fun e => by
    obtain ⟨h1, h2, h3⟩ := hb e
    have Pb := (h.loc _ h1).tp h2
    have e1 := Pb.fi
    have e2 := Pb.nv
    rw [h3] at e1 e2
    have f := h.fi_th h1
    refine ⟨f, e1, Pb.pn, e2, ?_⟩
    have d1 := dp_th W f
    have d2 := h.fi_dp h1
    have d3 := h.la_dp h1
    rw [e1] at d1; omega
  have Top1 : ∀ x, Th T x → (Top S1 x ↔ (Top S x ∧ (x ≠ below)) ∨ (x = (S t).r)) := fun x hx => by
    have x0 : x ≠ 0 := by have := hx.1; omega
    unfold Top
    rw [(fx x).1]
    by_cases e : (S x).up = t
    · rw [e, (fx t).2.1, rt]
      constructor
      · rintro ⟨q1, q2⟩
        by_cases q3 : x = (S t).r
        · exact .inr q3
        · exact .inl ⟨⟨q1, fun k => q3 k.symm⟩, fun k => q2 k.symm⟩
      · rintro (⟨⟨q1, q2⟩, q3⟩ | q)
        · exact ⟨q1, fun k => q3 k.symm⟩
        · refine ⟨fun k => ?_, fun k => ?_⟩
          · have := L.lr (k.trans q); omega
          · exact br (by omega) (k.trans q)
    · rw [nx _ e]
      constructor
      · intro q
        refine .inl ⟨q, fun k => e ?_⟩
        rw [k]; exact (hb (by omega)).2.2
      · rintro (⟨q, _⟩ | q)
        · exact q
        · exact absurd (by rw [q]; exact (L.kr (by omega)).up) e
  have whr : (wh (S (S t).r)).c = Dc T (G.pn t) ∧ (wh (S (S t).r)).w = Dw T (G.pn t) := by
    by_cases e : (S t).r = 0
    · rw [e, h.s0, pr0 e, Dc_zero W, Dw_zero W]; exact ⟨rfl, rfl⟩
    · have K := L.kr e
      have q := h.whole K.th
      have a0 : G.a (S t).r = 0 := by rw [K.a, P.a, ht2.2]; rfl
      have p0 : G.pn (G.la (S t).r) = 0 := by rw [← (pr1 e).2]; exact P.pn
      rw [a0, lf_zero, p0, Dc_zero W, Dw_zero W] at q
      rw [(pr1 e).1]
      unfold wh; dsimp only; omega
  have whb : (wh (S below)).c = Dc T (if below = 0 then 0 else G.fi below) ∧ (wh (S below)).w = Dw T (if below = 0 then 0 else G.fi below) := by
    by_cases e : below = 0
    · rw [if_pos e, e, h.s0, Dc_zero W, Dw_zero W]; exact ⟨rfl, rfl⟩
    · rw [if_neg e]
      exact h.top_whole (hb e).1 (hb e).2.1
  refine ⟨⟨W, h.ft, h.lt, h.n0, h.nn, fun x hx => ?_, by rw [pnG 0 (Ne.symm t0)]; exact h.p0, fun x hx => ?_⟩, (Top1 t ht).2 (.inl ⟨hT, fun e => bt e.symm⟩), fun x => (fx x).1, fun x hx h1 h2 => (Top1 x hx).2 (.inl ⟨h1, h2⟩)⟩
  · rw [nx x (fun e => hx (by rw [e]; exact ht))]; exact h.out x hx
  · have Lx := h.loc x hx
    have x0 : x ≠ 0 := by have := hx.1; omega
    by_cases e : x = t
    · subst e
      have kk : ∀ j, j ≠ 0 → j = (S x).l ∨ j = below → Ki S1 T (prefG G x below) x j := fun j j0 hj => by
        rcases hj with rfl | rfl
        · have K := L.kl j0
          exact ⟨K.th, by rw [(fx _).1]; exact K.up, by rw [(fx x).2.2.1]; exact K.b, by rw [(fx x).2.2.2.2]; exact K.a⟩
        · obtain ⟨h1, h2, h3⟩ := hb j0
          have Pb := (h.loc _ h1).tp h2
          refine ⟨h1, by rw [(fx _).1]; exact h3, ?_, ?_⟩
          · show G.b j = (G.b x != _)
            rw [(fx x).2.2.1, Pb.b, P.b, ht2.1]; rfl
          · show G.a j = G.a x + _
            rw [(fx x).2.2.2.2, Pb.a, P.a, ht2.2]; rfl
      refine ⟨fun e => by rw [(fx x).2.1] at e ⊢; exact kk _ e (.inl rfl), fun e => by rw [rt] at e ⊢; exact kk _ e (.inr rfl), ?_, ?_, ?_, by rw [(fx x).2.2.2.1]; exact L.wt, ?_, ?_, ?_, ?_, ?_, fun a b => by rw [(fx x).2.2.1, (fx x).2.2.2.2]; exact ht2, fun hT1 => ?_⟩
      · rw [(fx x).2.1, rt]
        intro e
        exact Classical.byContradiction fun e0 => bl (by omega) e.symm
      · rw [(fx x).2.1, rt]
        show En (prefG G x below) (G.b x) _ _ _
        rw [P.b]
        refine ⟨fun e => en.l0 e, fun e => ⟨(en.l1 e).1, ?_⟩, fun e => ?_, fun e => ⟨?_, ?_⟩⟩
        · have q : G.pn (G.la (S x).l) = x := (en.l1 e).2
          have K := L.kl e
          have lx : G.la (S x).l ≠ x := fun k => by
            rw [k] at q
            obtain ⟨z1, z2⟩ := h.ps_pn hx q t0
            have := dp_th W hx
            rw [z2] at this; omega
          show (prefG G x below).pn ((prefG G x below).la (S x).l) = x
          rw [laG _ hl, pnG _ lx]; exact q
        · show (prefG G x below).la x = x
          rw [lat, if_pos e]
        · show (prefG G x below).la x = (prefG G x below).la below
          rw [lat, if_neg e, laG _ bt]
        · show (prefG G x below).pn x = G.fi below
          rw [pnt, if_neg e]
      · rw [pnt]
        intro e
        by_cases e0 : below = 0
        · rw [if_pos e0] at e; exact absurd rfl e
        · rw [if_neg e0]; exact ⟨(bf e0).1, (bf e0).2.1⟩
      · rw [(fx x).2.1, rt, nx _ hl, nx _ bt, at1, if_pos rfl]
        dsimp only
        rw [ht2.2, lf_zero, lf_zero]
      · rw [at1, if_pos rfl]
        exact Fitm.mid (h.fit0 _) (h.fit0 _) (h.wt_bd _)
      · rw [(fx x).2.1, rt, nx _ hl, nx _ bt, at1, if_pos rfl]
      · rw [at1, if_pos rfl, pnt]
        show (S x).hg.c + _ - _ = _
        rw [whr.1, whb.1, L.hgc]; omega
      · rw [at1, if_pos rfl, pnt]
        show (S x).hg.w + _ - _ = _
        rw [whr.2, whb.2, L.hgw]; omega
      · refine ⟨P.b, P.a, by rw [(fx x).1]; exact P.fi, ?_, ?_⟩
        · rw [lat]
          by_cases e0 : below = 0
          · rw [if_pos e0, pnt, if_pos e0]
          · rw [if_neg e0, pnG _ (fun k => by have := (bf e0).2.2.2.2; rw [k] at this; omega)]; exact (bf e0).2.2.1
        · rw [(fx x).1, pnG _ upt]; exact P.nv
    · have nk : ∀ j, j = (S x).l ∨ j = (S x).r → j ≠ 0 → j ≠ t := fun j hj j0 k => by
        have K := h.up_kid hx hj j0
        exact K.nt (by rcases hj with q | q <;> simp [q]) (by rw [k]; exact hT)
      have K2 : ∀ j, j = (S x).l ∨ j = (S x).r → j ≠ 0 → Ki S1 T (prefG G t below) x j := fun j hj j0 => by
        have K := h.up_kid hx hj j0
        exact ⟨K.th, by rw [(fx j).1]; exact K.up, by rw [(fx x).2.2.1]; exact K.b, by rw [(fx x).2.2.2.2]; exact K.a⟩
      have nk' : ∀ j, j = (S x).l ∨ j = (S x).r → S1 j = S j := fun j hj => by
        by_cases j0 : j = 0
        · subst j0; exact nx 0 (Ne.symm t0)
        · exact nx j (nk j hj j0)
      have enk : ∀ j, j = (S x).l ∨ j = (S x).r → j ≠ 0 → (prefG G t below).la j = G.la j ∧ G.la j ≠ t ∧ G.fi j ≠ t := fun j hj j0 => by
        have K := h.up_kid hx hj j0
        have q := h.ends_nt K.th hT (Ne.symm (nk j hj j0))
        exact ⟨laG _ (nk j hj j0), q.1, q.2⟩
      have S1x := nx x e
      refine ⟨fun q => ?_, fun q => ?_, by rw [S1x]; exact Lx.lr, ?_, by rw [pnG x e]; exact Lx.nx, by rw [S1x]; exact Lx.wt, by rw [S1x, nk' _ (.inl rfl), nk' _ (.inr rfl)]; exact Lx.sm, by rw [S1x]; exact Lx.fit, by rw [S1x, nk' _ (.inl rfl), nk' _ (.inr rfl)]; exact Lx.hu, by rw [S1x, pnG x e]; exact Lx.hgc, by rw [S1x, pnG x e]; exact Lx.hgw, by rw [S1x]; exact Lx.id, fun hT1 => ?_⟩
      · rw [S1x] at q ⊢; exact K2 _ (.inl rfl) q
      · rw [S1x] at q ⊢; exact K2 _ (.inr rfl) q
      · rw [S1x]
        show En (prefG G t below) (G.b x) _ _ _
        obtain ⟨a1, a2, a3, a4⟩ := Lx.en
        cases hb : G.b x
        · rw [hb] at a1 a2 a3 a4
          refine ⟨a1, fun q => ?_, fun q => ?_, fun q => ?_⟩
          · obtain ⟨k1, k2, k3⟩ := enk _ (.inl rfl) q
            refine ⟨(a2 q).1, ?_⟩
            show (prefG G t below).pn ((prefG G t below).la _) = x
            rw [k1, pnG _ k2]; exact (a2 q).2
          · show (prefG G t below).la x = x
            rw [laG x e]; exact a3 q
          · obtain ⟨k1, k2, k3⟩ := enk _ (.inr rfl) q
            refine ⟨?_, ?_⟩
            · show (prefG G t below).la x = (prefG G t below).la _
              rw [laG x e, k1]; exact (a4 q).1
            · show (prefG G t below).pn x = G.fi _
              rw [pnG x e]; exact (a4 q).2
        · rw [hb] at a1 a2 a3 a4
          refine ⟨fun q => ?_, fun q => ?_, a3, fun q => ?_⟩
          · show (prefG G t below).la x = x
            rw [laG x e]; exact a1 q
          · obtain ⟨k1, k2, k3⟩ := enk _ (.inl rfl) q
            refine ⟨?_, ?_⟩
            · show (prefG G t below).la x = (prefG G t below).la _
              rw [laG x e, k1]; exact (a2 q).1
            · show (prefG G t below).pn x = G.fi _
              rw [pnG x e]; exact (a2 q).2
          · obtain ⟨k1, k2, k3⟩ := enk _ (.inr rfl) q
            refine ⟨(a4 q).1, ?_⟩
            show (prefG G t below).pn ((prefG G t below).la _) = x
            rw [k1, pnG _ k2]; exact (a4 q).2
      · rcases (Top1 x hx).1 hT1 with ⟨q1, q2⟩ | q
        · have Px := Lx.tp q1
          have lx := (h.ends_nt hx hT (Ne.symm e)).1
          refine ⟨Px.b, Px.a, by rw [S1x]; exact Px.fi, by rw [laG x e, pnG _ lx]; exact Px.pn, ?_⟩
          rw [S1x]
          by_cases k : (S x).up = t
          · rw [k, pnt]
            by_cases e0 : below = 0
            · rw [if_pos e0]
              have := (h.fi_th hx).1
              show 0 ≠ G.fi x
              omega
            · rw [if_neg e0]
              exact fun k2 => q2 (h.uniq hx (hb e0).1 q1 (hb e0).2.1 k2.symm)
          · rw [pnG _ k]; exact Px.nv
        · subst q
          have K := L.kr x0
          obtain ⟨p1, p2⟩ := pr1 x0
          have f0 : G.fi (S t).r ≠ 0 := by have := (h.fi_th K.th).1; omega
          obtain ⟨g1, g2⟩ := h.ps_pn ht p1 f0
          have lx := (h.ends_nt hx hT (Ne.symm e)).1
          refine ⟨?_, ?_, by rw [S1x, K.up]; exact g2, by rw [laG _ e, pnG _ lx, ← p2]; exact P.pn, ?_⟩
          · show G.b _ = false
            rw [K.b, P.b, ht2.1]; rfl
          · show G.a _ = 0
            rw [K.a, P.a, ht2.2]; rfl
          · rw [S1x, K.up, pnt]
            by_cases e0 : below = 0
            · rw [if_pos e0]; exact fun k => f0 k.symm
            · rw [if_neg e0]
              have := (bf e0).2.2.2.1
              rw [p1] at this
              exact fun k => this k.symm
end
end Go.Proofs.Ytjnkgakajenoaaa
/- The program's forest: what is in a slot's part, and hangs at it. -/

namespace Go.Proofs.Ytjnkgakajenoaaa
open Go.RowKit Go.Arb
set_option linter.unusedVariables false
set_option linter.unusedSimpArgs false
set_option maxRecDepth 100000

def slA (s : Sl) : Value := .agg #[.int .i64 (s.up : Int), .int .i64 (s.l : Int), .int .i64 (s.r : Int), .bool s.tn, .int .i64 s.wt, .int .i64 s.wa, .int .i64 s.sm.c, .int .i64 s.sm.s, .int .i64 s.sm.a, .int .i64 s.sm.b, .int .i64 s.hg.c, .int .i64 s.hg.w, .int .i64 s.hu.c, .int .i64 s.hu.w]
set_option maxHeartbeats 4000000 in
theorem whole_any (u l r wt wa c s a b gc gw uc uw : Int) (tn : Bool) (w : World) (k1 : -4611686018427387904 ≤ uc + c ∧ uc + c ≤ 4611686018427387904) (k2 : -4611686018427387904 ≤ uw + s ∧ uw + s ≤ 4611686018427387904) :
    Calls Try.prog 75 #[.agg #[.int .i64 u, .int .i64 l, .int .i64 r, .bool tn, .int .i64 wt, .int .i64 wa, .int .i64 c, .int .i64 s, .int .i64 a, .int .i64 b, .int .i64 gc, .int .i64 gw, .int .i64 uc, .int .i64 uw]] w fun r w' => r = .returned (.agg #[.int .i64 (uc + c), .int .i64 (uw + s)]) ∧ Below w.heap.size w w' := by
  go_enter Try.func75, Try.ntmps75
  go_wp2_with (go_at_call 80; refine (with_any _ _ _ _ _ k1 k2).mono ?_; rintro e w1 ⟨rfl, hb⟩; have hc := (bcell hb).1; have hf := (bcell hb).2)
  refine bodyPost_ret (v := .agg #[.int .i64 (uc + c), .int .i64 (uw + s)]) (by simp [results, Try.results75, go_sem, hc, hf]) rfl ⟨rfl, ?_⟩
  exact (((b2 w _ _).trans (hb.mono (by simp; omega))).setCell (by simp) _).setCell (by simp) _
end Go.Proofs.Ytjnkgakajenoaaa
/- The program's forest: what a path goes on with. -/

namespace Go.Proofs.Ytjnkgakajenoaaa
open Go.RowKit Go.Arb
set_option linter.unusedVariables false
set_option linter.unusedSimpArgs false
set_option maxRecDepth 100000

def O82_1_0 : Oper := ⟨some 13, .move (.tmp 6), 85, "path.go:70", #[], none⟩
def O82_1_1 : Oper := ⟨some 14, .move (.tmp 6), 85, "path.go:70", #[], none⟩
def O82_1_2 : Oper := ⟨some 15, .nilCheck (.tmp 14), 0, "path.go:70", #[⟨1, .data⟩], none⟩
def O82_1_3 : Oper := ⟨some 16, .fieldAddr 75 (.tmp 15) 7, 0, "path.go:70", #[⟨2, .data⟩], none⟩
def O82_1_4 : Oper := ⟨some 17, .load 73 (.tmp 16), 73, "path.go:70", #[⟨3, .data⟩], none⟩
def O82_1_5 : Oper := ⟨some 18, .move (.tmp 0), 23, "path.go:70", #[], none⟩
def O82_1_6 : Oper := ⟨some 19, .nilCheck (.tmp 18), 0, "path.go:70", #[⟨5, .data⟩], none⟩
def O82_1_7 : Oper := ⟨some 20, .fieldAddr 66 (.tmp 19) 1, 0, "path.go:70", #[⟨6, .data⟩], none⟩
def O82_1_8 : Oper := ⟨some 21, .load 64 (.tmp 20), 64, "path.go:70", #[⟨7, .data⟩], none⟩
def O82_1_9 : Oper := ⟨some 22, .move (.tmp 6), 85, "path.go:70", #[], none⟩
def O82_1_10 : Oper := ⟨some 23, .nilCheck (.tmp 22), 0, "path.go:70", #[⟨9, .data⟩], none⟩
def O82_1_11 : Oper := ⟨some 24, .fieldAddr 75 (.tmp 23) 2, 0, "path.go:70", #[⟨10, .data⟩], none⟩
def O82_1_12 : Oper := ⟨some 25, .load 3 (.tmp 24), 3, "path.go:70", #[⟨11, .data⟩], none⟩
def O82_1_13 : Oper := ⟨some 26, .indexAddr 64 (.tmp 21) (.tmp 25), 0, "path.go:70", #[⟨8, .data⟩, ⟨12, .data⟩], none⟩
def O82_1_14 : Oper := ⟨some 27, .load 75 (.tmp 26), 75, "path.go:70", #[⟨13, .data⟩], none⟩
def O82_1_15 : Oper := ⟨some 28, .call { callee := (.value (.func 75)), args := #[(.tmp 27)], argTypes := #[75] }, 73, "path.go:70", #[⟨14, .data⟩], none⟩
def O82_1_16 : Oper := ⟨some 29, .call { callee := (.value (.func 80)), args := #[(.tmp 17), (.tmp 28)], argTypes := #[73, 73] }, 73, "path.go:70", #[⟨4, .data⟩, ⟨15, .data⟩, ⟨15, .chain⟩], none⟩
def O82_1_17 : Oper := ⟨some 30, .move (.tmp 0), 23, "path.go:70", #[], none⟩
def O82_1_18 : Oper := ⟨some 31, .nilCheck (.tmp 30), 0, "path.go:70", #[⟨17, .data⟩], none⟩
def O82_1_19 : Oper := ⟨some 32, .fieldAddr 66 (.tmp 31) 1, 0, "path.go:70", #[⟨18, .data⟩], none⟩
def O82_1_20 : Oper := ⟨some 33, .load 64 (.tmp 32), 64, "path.go:70", #[⟨19, .data⟩], none⟩
def O82_1_21 : Oper := ⟨some 34, .move (.tmp 2), 3, "path.go:70", #[], none⟩
def O82_1_22 : Oper := ⟨some 35, .indexAddr 64 (.tmp 33) (.tmp 34), 0, "path.go:70", #[⟨20, .data⟩, ⟨21, .data⟩], none⟩
def O82_1_23 : Oper := ⟨some 36, .load 75 (.tmp 35), 75, "path.go:70", #[⟨22, .data⟩], none⟩
def O82_1_24 : Oper := ⟨some 37, .call { callee := (.value (.func 75)), args := #[(.tmp 36)], argTypes := #[75] }, 73, "path.go:70", #[⟨23, .data⟩, ⟨16, .chain⟩], none⟩
def O82_1_25 : Oper := ⟨some 38, .call { callee := (.value (.func 94)), args := #[(.tmp 29), (.tmp 37)], argTypes := #[73, 73] }, 73, "path.go:70", #[⟨16, .data⟩, ⟨24, .data⟩, ⟨24, .chain⟩], none⟩
def O82_1_26 : Oper := ⟨some 39, .nilCheck (.tmp 13), 0, "path.go:70", #[⟨0, .data⟩, ⟨0, .phase⟩, ⟨1, .phase⟩, ⟨2, .phase⟩, ⟨3, .phase⟩, ⟨4, .phase⟩, ⟨5, .phase⟩, ⟨6, .phase⟩, ⟨7, .phase⟩, ⟨8, .phase⟩, ⟨9, .phase⟩, ⟨10, .phase⟩, ⟨11, .phase⟩, ⟨12, .phase⟩, ⟨13, .phase⟩, ⟨14, .phase⟩, ⟨15, .phase⟩, ⟨16, .phase⟩, ⟨17, .phase⟩, ⟨18, .phase⟩, ⟨19, .phase⟩, ⟨20, .phase⟩, ⟨21, .phase⟩, ⟨22, .phase⟩, ⟨23, .phase⟩, ⟨24, .phase⟩, ⟨25, .phase⟩], none⟩
def O82_1_27 : Oper := ⟨some 40, .fieldAddr 75 (.tmp 39) 7, 0, "path.go:70", #[⟨26, .data⟩, ⟨0, .phase⟩, ⟨1, .phase⟩, ⟨2, .phase⟩, ⟨3, .phase⟩, ⟨4, .phase⟩, ⟨5, .phase⟩, ⟨6, .phase⟩, ⟨7, .phase⟩, ⟨8, .phase⟩, ⟨9, .phase⟩, ⟨10, .phase⟩, ⟨11, .phase⟩, ⟨12, .phase⟩, ⟨13, .phase⟩, ⟨14, .phase⟩, ⟨15, .phase⟩, ⟨16, .phase⟩, ⟨17, .phase⟩, ⟨18, .phase⟩, ⟨19, .phase⟩, ⟨20, .phase⟩, ⟨21, .phase⟩, ⟨22, .phase⟩, ⟨23, .phase⟩, ⟨24, .phase⟩, ⟨25, .phase⟩], none⟩
def O82_1_28 : Oper := ⟨none, .store 73 (.tmp 40) (.tmp 38), 0, "path.go:70", #[⟨27, .data⟩, ⟨25, .data⟩, ⟨25, .chain⟩, ⟨0, .phase⟩, ⟨1, .phase⟩, ⟨2, .phase⟩, ⟨3, .phase⟩, ⟨4, .phase⟩, ⟨5, .phase⟩, ⟨6, .phase⟩, ⟨7, .phase⟩, ⟨8, .phase⟩, ⟨9, .phase⟩, ⟨10, .phase⟩, ⟨11, .phase⟩, ⟨12, .phase⟩, ⟨13, .phase⟩, ⟨14, .phase⟩, ⟨15, .phase⟩, ⟨16, .phase⟩, ⟨17, .phase⟩, ⟨18, .phase⟩, ⟨19, .phase⟩, ⟨20, .phase⟩, ⟨21, .phase⟩, ⟨22, .phase⟩, ⟨23, .phase⟩, ⟨24, .phase⟩, ⟨25, .phase⟩], none⟩
def OPS82_1 : List Oper := [O82_1_0, O82_1_1, O82_1_2, O82_1_3, O82_1_4, O82_1_5, O82_1_6, O82_1_7, O82_1_8, O82_1_9, O82_1_10, O82_1_11, O82_1_12, O82_1_13, O82_1_14, O82_1_15, O82_1_16, O82_1_17, O82_1_18, O82_1_19, O82_1_20, O82_1_21, O82_1_22, O82_1_23, O82_1_24, O82_1_25, O82_1_26, O82_1_27, O82_1_28]
theorem NS82_1 : Region.noSelect OPS82_1.toArray = true := by kernel_rfl
set_option maxHeartbeats 4000000 in
theorem rg82_1 {p g n cap room t d : Nat} {S : Ss} {NX : Act → World → Prop} {a0 : Act} {w : World} (K0 : Kn a0 48 [(0, .pointer (some ⟨p, 0, none⟩)), (1, .int .i64 (t : Int)), (2, .int .i64 (d : Int)), (6, .pointer (some ⟨g, t * 14, none⟩))]) (h : Pool w p g n cap room S) (ht : t < n) (hr : (S t).r < n) (hd : d < n) (k1 : (-4611686018427387904 ≤ (S (S t).r).hu.c + (S (S t).r).sm.c ∧ (S (S t).r).hu.c + (S (S t).r).sm.c ≤ 4611686018427387904)) (k2 : (-4611686018427387904 ≤ (S (S t).r).hu.w + (S (S t).r).sm.s ∧ (S (S t).r).hu.w + (S (S t).r).sm.s ≤ 4611686018427387904)) (k3 : (-4611686018427387904 ≤ (S d).hu.c + (S d).sm.c ∧ (S d).hu.c + (S d).sm.c ≤ 4611686018427387904)) (k4 : (-4611686018427387904 ≤ (S d).hu.w + (S d).sm.s ∧ (S d).hu.w + (S d).sm.s ≤ 4611686018427387904)) (k5 : (-4611686018427387904 ≤ (S t).hg.c + ((S (S t).r).hu.c + (S (S t).r).sm.c) ∧ (S t).hg.c + ((S (S t).r).hu.c + (S (S t).r).sm.c) ≤ 4611686018427387904)) (k6 : (-4611686018427387904 ≤ (S t).hg.w + ((S (S t).r).hu.w + (S (S t).r).sm.s) ∧ (S t).hg.w + ((S (S t).r).hu.w + (S (S t).r).sm.s) ≤ 4611686018427387904)) (k7 : (-4611686018427387904 ≤ (S t).hg.c + ((S (S t).r).hu.c + (S (S t).r).sm.c) - ((S d).hu.c + (S d).sm.c) ∧ (S t).hg.c + ((S (S t).r).hu.c + (S (S t).r).sm.c) - ((S d).hu.c + (S d).sm.c) ≤ 4611686018427387904)) (k8 : (-4611686018427387904 ≤ (S t).hg.w + ((S (S t).r).hu.w + (S (S t).r).sm.s) - ((S d).hu.w + (S d).sm.s) ∧ (S t).hg.w + ((S (S t).r).hu.w + (S (S t).r).sm.s) - ((S d).hu.w + (S d).sm.s) ≤ 4611686018427387904))
    (hN : ∀ a' W, Kn a' 48 [(0, .pointer (some ⟨p, 0, none⟩)), (1, .int .i64 (t : Int)), (2, .int .i64 (d : Int)), (6, .pointer (some ⟨g, t * 14, none⟩))] → Pool W p g n cap room (upd S t { S t with hg := hangS S t d }) → Keep [g] w W → NX a' W) : (Code.region 1 OPS82_1.toArray true).wp Try.prog (Norm NX) a0 w := by
  have hq := @norm_q NX
  have hS : (fun w' : World => Pool w' p g n cap room S) w.drew := h.drew
  have HP := hide h
  have b0 : Below w.heap.size w w.drew := (Below.refl _ _).drew
  have e1 : (0 : Int) ≤ (t : Int) := by omega
  have e2 : (t : Int) < (n : Int) := by omega
  have e3 : (0 : Int) ≤ ((S t).r : Int) := by omega
  have e4 : ((S t).r : Int) < (n : Int) := by omega
  have e5 : (0 : Int) ≤ (d : Int) := by omega
  have e6 : (d : Int) < (n : Int) := by omega
  clear h
  refine wp_region_till (t := 28) (S := (fun w' : World => Pool w' p g n cap room S)) (by kernel_rfl) ?_
  rw [show (OPS82_1.toArray).size = 29 from by kernel_rfl]
  refine upure (i := 0) (o := O82_1_0) (v := .pointer (some ⟨g, t * 14, none⟩)) K0 hq rfl NS82_1 (by kernel_rfl) (by kernel_rfl) rfl rfl rfl (want_none rfl) (fun ev E w9 => ?_) (fun _ => hS) (fun a1 K1 => ?_)
  · have E6 := E.tmp 6 _ rfl; clear E; unfold O82_1_0; clear hN hq hS HP; go_simp
  refine upure (i := 1) (o := O82_1_1) (v := .pointer (some ⟨g, t * 14, none⟩)) K1 hq rfl NS82_1 (by kernel_rfl) (by kernel_rfl) rfl rfl rfl (want_none rfl) (fun ev E w9 => ?_) (fun _ => hS) (fun a2 K2 => ?_)
  · have E6 := E.tmp 6 _ rfl; clear E; unfold O82_1_1; clear hN hq hS HP; go_simp
  clear K1
  refine upure (i := 2) (o := O82_1_2) (v := .pointer (some ⟨g, t * 14, none⟩)) K2 hq rfl NS82_1 (by kernel_rfl) (by kernel_rfl) rfl rfl rfl (want_none rfl) (fun ev E w9 => ?_) (fun _ => hS) (fun a3 K3 => ?_)
  · have E14 := E.tmp 14 _ rfl; clear E; unfold O82_1_2; clear hN hq hS HP; go_simp
  clear K2
  refine upure (i := 3) (o := O82_1_3) (v := .pointer (some ⟨g, t * 14 + 10, none⟩)) K3 hq rfl NS82_1 (by kernel_rfl) (by kernel_rfl) rfl rfl rfl (want_none rfl) (fun ev E w9 => ?_) (fun _ => hS) (fun a4 K4 => ?_)
  · have E15 := E.tmp 15 _ rfl; clear E; unfold O82_1_3; clear hN hq hS HP; go_simp
  clear K3
  refine utake (i := 4) (o := O82_1_4) (v := .agg #[.int .i64 (S t).hg.c, .int .i64 (S t).hg.w]) K4 hq rfl NS82_1 (by kernel_rfl) (by kernel_rfl) (by kernel_rfl) (by kernel_rfl) rfl rfl (want_none rfl) (fun ev E w9 hSw => ?_) hS (fun a5 K5 => ?_)
  · obtain ⟨s0, s1, s2, s3, s4, s5, s6, s7, s8, s9, s10, s11, s12, s13⟩ := hSw.slot (t := t) (by assumption); clear hSw; have E16 := E.tmp 16 _ rfl; clear E; unfold O82_1_4; clear hN hq hS HP; go_simp
  clear K4
  refine upure (i := 5) (o := O82_1_5) (v := .pointer (some ⟨p, 0, none⟩)) K5 hq rfl NS82_1 (by kernel_rfl) (by kernel_rfl) rfl rfl rfl (want_none rfl) (fun ev E w9 => ?_) (fun _ => hS) (fun a6 K6 => ?_)
  · have E0 := E.tmp 0 _ rfl; clear E; unfold O82_1_5; clear hN hq hS HP; go_simp
  clear K5
  refine upure (i := 6) (o := O82_1_6) (v := .pointer (some ⟨p, 0, none⟩)) K6 hq rfl NS82_1 (by kernel_rfl) (by kernel_rfl) rfl rfl rfl (want_none rfl) (fun ev E w9 => ?_) (fun _ => hS) (fun a7 K7 => ?_)
  · have E18 := E.tmp 18 _ rfl; clear E; unfold O82_1_6; clear hN hq hS HP; go_simp
  clear K6
  refine upure (i := 7) (o := O82_1_7) (v := .pointer (some ⟨p, 1, none⟩)) K7 hq rfl NS82_1 (by kernel_rfl) (by kernel_rfl) rfl rfl rfl (want_none rfl) (fun ev E w9 => ?_) (fun _ => hS) (fun a8 K8 => ?_)
  · have E19 := E.tmp 19 _ rfl; clear E; unfold O82_1_7; clear hN hq hS HP; go_simp
  clear K7
  refine utake (i := 8) (o := O82_1_8) (v := .slice (some ⟨g, 0, none⟩) n cap) K8 hq rfl NS82_1 (by kernel_rfl) (by kernel_rfl) (by kernel_rfl) (by kernel_rfl) rfl rfl (want_none rfl) (fun ev E w9 hSw => ?_) hS (fun a9 K9 => ?_)
  · obtain ⟨c0, c1, _⟩ := hSw.head; clear hSw; have E20 := E.tmp 20 _ rfl; clear E; unfold O82_1_8; clear hN hq hS HP; go_simp
  clear K8
  refine upure (i := 9) (o := O82_1_9) (v := .pointer (some ⟨g, t * 14, none⟩)) K9 hq rfl NS82_1 (by kernel_rfl) (by kernel_rfl) rfl rfl rfl (want_none rfl) (fun ev E w9 => ?_) (fun _ => hS) (fun a10 K10 => ?_)
  · have E6 := E.tmp 6 _ rfl; clear E; unfold O82_1_9; clear hN hq hS HP; go_simp
  clear K9
  refine upure (i := 10) (o := O82_1_10) (v := .pointer (some ⟨g, t * 14, none⟩)) K10 hq rfl NS82_1 (by kernel_rfl) (by kernel_rfl) rfl rfl rfl (want_none rfl) (fun ev E w9 => ?_) (fun _ => hS) (fun a11 K11 => ?_)
  · have E22 := E.tmp 22 _ rfl; clear E; unfold O82_1_10; clear hN hq hS HP; go_simp
  clear K10
  refine upure (i := 11) (o := O82_1_11) (v := .pointer (some ⟨g, t * 14 + 2, none⟩)) K11 hq rfl NS82_1 (by kernel_rfl) (by kernel_rfl) rfl rfl rfl (want_none rfl) (fun ev E w9 => ?_) (fun _ => hS) (fun a12 K12 => ?_)
  · have E23 := E.tmp 23 _ rfl; clear E; unfold O82_1_11; clear hN hq hS HP; go_simp
  clear K11
  refine utake (i := 12) (o := O82_1_12) (v := .int .i64 ((S t).r : Int)) K12 hq rfl NS82_1 (by kernel_rfl) (by kernel_rfl) (by kernel_rfl) (by kernel_rfl) rfl rfl (want_none rfl) (fun ev E w9 hSw => ?_) hS (fun a13 K13 => ?_)
  · obtain ⟨s0, s1, s2, s3, s4, s5, s6, s7, s8, s9, s10, s11, s12, s13⟩ := hSw.slot (t := t) (by assumption); clear hSw; have E24 := E.tmp 24 _ rfl; clear E; unfold O82_1_12; clear hN hq hS HP; go_simp
  clear K12
  refine upure (i := 13) (o := O82_1_13) (v := .pointer (some ⟨g, (S t).r * 14, none⟩)) K13 hq rfl NS82_1 (by kernel_rfl) (by kernel_rfl) rfl rfl rfl (want_none rfl) (fun ev E w9 => ?_) (fun _ => hS) (fun a14 K14 => ?_)
  · have E21 := E.tmp 21 _ rfl; have E25 := E.tmp 25 _ rfl; clear E; unfold O82_1_13; clear hN hq hS HP; go_simp
  clear K13
  refine utake (i := 14) (o := O82_1_14) (v := .agg #[.int .i64 ((S (S t).r).up : Int), .int .i64 ((S (S t).r).l : Int), .int .i64 ((S (S t).r).r : Int), .bool (S (S t).r).tn, .int .i64 (S (S t).r).wt, .int .i64 (S (S t).r).wa, .int .i64 (S (S t).r).sm.c, .int .i64 (S (S t).r).sm.s, .int .i64 (S (S t).r).sm.a, .int .i64 (S (S t).r).sm.b, .int .i64 (S (S t).r).hg.c, .int .i64 (S (S t).r).hg.w, .int .i64 (S (S t).r).hu.c, .int .i64 (S (S t).r).hu.w]) K14 hq rfl NS82_1 (by kernel_rfl) (by kernel_rfl) (by kernel_rfl) (by kernel_rfl) rfl rfl (want_none rfl) (fun ev E w9 hSw => ?_) hS (fun a15 K15 => ?_)
  · obtain ⟨s0, s1, s2, s3, s4, s5, s6, s7, s8, s9, s10, s11, s12, s13⟩ := hSw.slot (t := (S t).r) (by assumption); clear hSw; have E26 := E.tmp 26 _ rfl; clear E; unfold O82_1_14; clear hN hq hS HP; go_simp
  clear K14
  refine upure (i := 17) (o := O82_1_17) (v := .pointer (some ⟨p, 0, none⟩)) K15 hq rfl NS82_1 (by kernel_rfl) (by kernel_rfl) rfl rfl rfl (want_none rfl) (fun ev E w9 => ?_) (fun _ => hS) (fun a16 K16 => ?_)
  · have E0 := E.tmp 0 _ rfl; clear E; unfold O82_1_17; clear hN hq hS HP; go_simp
  clear K15
  refine upure (i := 18) (o := O82_1_18) (v := .pointer (some ⟨p, 0, none⟩)) K16 hq rfl NS82_1 (by kernel_rfl) (by kernel_rfl) rfl rfl rfl (want_none rfl) (fun ev E w9 => ?_) (fun _ => hS) (fun a17 K17 => ?_)
  · have E30 := E.tmp 30 _ rfl; clear E; unfold O82_1_18; clear hN hq hS HP; go_simp
  clear K16
  refine upure (i := 19) (o := O82_1_19) (v := .pointer (some ⟨p, 1, none⟩)) K17 hq rfl NS82_1 (by kernel_rfl) (by kernel_rfl) rfl rfl rfl (want_none rfl) (fun ev E w9 => ?_) (fun _ => hS) (fun a18 K18 => ?_)
  · have E31 := E.tmp 31 _ rfl; clear E; unfold O82_1_19; clear hN hq hS HP; go_simp
  clear K17
  refine utake (i := 20) (o := O82_1_20) (v := .slice (some ⟨g, 0, none⟩) n cap) K18 hq rfl NS82_1 (by kernel_rfl) (by kernel_rfl) (by kernel_rfl) (by kernel_rfl) rfl rfl (want_none rfl) (fun ev E w9 hSw => ?_) hS (fun a19 K19 => ?_)
  · obtain ⟨c0, c1, _⟩ := hSw.head; clear hSw; have E32 := E.tmp 32 _ rfl; clear E; unfold O82_1_20; clear hN hq hS HP; go_simp
  clear K18
  refine upure (i := 21) (o := O82_1_21) (v := .int .i64 (d : Int)) K19 hq rfl NS82_1 (by kernel_rfl) (by kernel_rfl) rfl rfl rfl (want_none rfl) (fun ev E w9 => ?_) (fun _ => hS) (fun a20 K20 => ?_)
  · have E2 := E.tmp 2 _ rfl; clear E; unfold O82_1_21; clear hN hq hS HP; go_simp
  clear K19
  refine upure (i := 22) (o := O82_1_22) (v := .pointer (some ⟨g, d * 14, none⟩)) K20 hq rfl NS82_1 (by kernel_rfl) (by kernel_rfl) rfl rfl rfl (want_none rfl) (fun ev E w9 => ?_) (fun _ => hS) (fun a21 K21 => ?_)
  · have E33 := E.tmp 33 _ rfl; have E34 := E.tmp 34 _ rfl; clear E; unfold O82_1_22; clear hN hq hS HP; go_simp
  clear K20
  refine utake (i := 23) (o := O82_1_23) (v := .agg #[.int .i64 ((S d).up : Int), .int .i64 ((S d).l : Int), .int .i64 ((S d).r : Int), .bool (S d).tn, .int .i64 (S d).wt, .int .i64 (S d).wa, .int .i64 (S d).sm.c, .int .i64 (S d).sm.s, .int .i64 (S d).sm.a, .int .i64 (S d).sm.b, .int .i64 (S d).hg.c, .int .i64 (S d).hg.w, .int .i64 (S d).hu.c, .int .i64 (S d).hu.w]) K21 hq rfl NS82_1 (by kernel_rfl) (by kernel_rfl) (by kernel_rfl) (by kernel_rfl) rfl rfl (want_none rfl) (fun ev E w9 hSw => ?_) hS (fun a22 K22 => ?_)
  · obtain ⟨s0, s1, s2, s3, s4, s5, s6, s7, s8, s9, s10, s11, s12, s13⟩ := hSw.slot (t := d) (by assumption); clear hSw; have E35 := E.tmp 35 _ rfl; clear E; unfold O82_1_23; clear hN hq hS HP; go_simp
  clear K21
  refine uone (i := 15) (o := ⟨some 28, .call { callee := (.value (.func 75)), args := #[(.tmp 27)], argTypes := #[75] }, 73, "path.go:70", #[⟨14, .data⟩], none⟩) K22 rfl (by kernel_rfl) rfl rfl (want_none rfl) (leaves_call (fn := 75) (args := #[.agg #[.int .i64 ((S (S t).r).up : Int), .int .i64 ((S (S t).r).l : Int), .int .i64 ((S (S t).r).r : Int), .bool (S (S t).r).tn, .int .i64 (S (S t).r).wt, .int .i64 (S (S t).r).wa, .int .i64 (S (S t).r).sm.c, .int .i64 (S (S t).r).sm.s, .int .i64 (S (S t).r).sm.a, .int .i64 (S (S t).r).sm.b, .int .i64 (S (S t).r).hg.c, .int .i64 (S (S t).r).hg.w, .int .i64 (S (S t).r).hu.c, .int .i64 (S (S t).r).hu.w]]) K22 (fun ev E => by clear hN hq hS HP; have EF := E.func; have E27 := E.tmp 27 _ rfl; clear E; go_simp) (whole_any _ _ _ _ _ _ _ _ _ _ _ _ _ _ _ k1 k2) (fun e w' h => ⟨_, h.1⟩)) (fun v23 C1 hR => ?_)
  obtain ⟨hv, hb⟩ := hR
  injection hv with hv
  subst hv
  have b1 : Below w.heap.size w C1 := b0.trans (hb.mono b0.size)
  clear hS hb
  have hS : (fun w' : World => Pool w' p g n cap room S) C1 := (unhide HP).below b1
  refine ⟨fun _ => hS, fun a23 K23 => ?_⟩
  clear K22
  replace K23 : Kn _ 48 ((28, .agg #[.int .i64 ((S (S t).r).hu.c + (S (S t).r).sm.c), .int .i64 ((S (S t).r).hu.w + (S (S t).r).sm.s)]) :: _) := K23
  refine uone (i := 16) (o := ⟨some 29, .call { callee := (.value (.func 80)), args := #[(.tmp 17), (.tmp 28)], argTypes := #[73, 73] }, 73, "path.go:70", #[⟨4, .data⟩, ⟨15, .data⟩, ⟨15, .chain⟩], none⟩) K23 rfl (by kernel_rfl) rfl rfl (want_none rfl) (leaves_call (fn := 80) (args := #[.agg #[.int .i64 (S t).hg.c, .int .i64 (S t).hg.w], .agg #[.int .i64 ((S (S t).r).hu.c + (S (S t).r).sm.c), .int .i64 ((S (S t).r).hu.w + (S (S t).r).sm.s)]]) K23 (fun ev E => by clear hN hq hS HP; have EF := E.func; have E17 := E.tmp 17 _ rfl; have E28 := E.tmp 28 _ rfl; clear E; go_simp) (with_any _ _ _ _ _ k5 k6) (fun e w' h => ⟨_, h.1⟩)) (fun v24 C2 hR => ?_)
  obtain ⟨hv, hb⟩ := hR
  injection hv with hv
  subst hv
  have b2 : Below w.heap.size w C2 := b1.trans (hb.mono b1.size)
  clear hS hb
  have hS : (fun w' : World => Pool w' p g n cap room S) C2 := (unhide HP).below b2
  refine ⟨fun _ => hS, fun a24 K24 => ?_⟩
  clear K23
  replace K24 : Kn _ 48 ((29, .agg #[.int .i64 ((S t).hg.c + ((S (S t).r).hu.c + (S (S t).r).sm.c)), .int .i64 ((S t).hg.w + ((S (S t).r).hu.w + (S (S t).r).sm.s))]) :: _) := K24
  refine uone (i := 24) (o := ⟨some 37, .call { callee := (.value (.func 75)), args := #[(.tmp 36)], argTypes := #[75] }, 73, "path.go:70", #[⟨23, .data⟩, ⟨16, .chain⟩], none⟩) K24 rfl (by kernel_rfl) rfl rfl (want_none rfl) (leaves_call (fn := 75) (args := #[.agg #[.int .i64 ((S d).up : Int), .int .i64 ((S d).l : Int), .int .i64 ((S d).r : Int), .bool (S d).tn, .int .i64 (S d).wt, .int .i64 (S d).wa, .int .i64 (S d).sm.c, .int .i64 (S d).sm.s, .int .i64 (S d).sm.a, .int .i64 (S d).sm.b, .int .i64 (S d).hg.c, .int .i64 (S d).hg.w, .int .i64 (S d).hu.c, .int .i64 (S d).hu.w]]) K24 (fun ev E => by clear hN hq hS HP; have EF := E.func; have E36 := E.tmp 36 _ rfl; clear E; go_simp) (whole_any _ _ _ _ _ _ _ _ _ _ _ _ _ _ _ k3 k4) (fun e w' h => ⟨_, h.1⟩)) (fun v25 C3 hR => ?_)
  obtain ⟨hv, hb⟩ := hR
  injection hv with hv
  subst hv
  have b3 : Below w.heap.size w C3 := b2.trans (hb.mono b2.size)
  clear hS hb
  have hS : (fun w' : World => Pool w' p g n cap room S) C3 := (unhide HP).below b3
  refine ⟨fun _ => hS, fun a25 K25 => ?_⟩
  clear K24
  replace K25 : Kn _ 48 ((37, .agg #[.int .i64 ((S d).hu.c + (S d).sm.c), .int .i64 ((S d).hu.w + (S d).sm.s)]) :: _) := K25
  refine uone (i := 25) (o := ⟨some 38, .call { callee := (.value (.func 94)), args := #[(.tmp 29), (.tmp 37)], argTypes := #[73, 73] }, 73, "path.go:70", #[⟨16, .data⟩, ⟨24, .data⟩, ⟨24, .chain⟩], none⟩) K25 rfl (by kernel_rfl) rfl rfl (want_none rfl) (leaves_call (fn := 94) (args := #[.agg #[.int .i64 ((S t).hg.c + ((S (S t).r).hu.c + (S (S t).r).sm.c)), .int .i64 ((S t).hg.w + ((S (S t).r).hu.w + (S (S t).r).sm.s))], .agg #[.int .i64 ((S d).hu.c + (S d).sm.c), .int .i64 ((S d).hu.w + (S d).sm.s)]]) K25 (fun ev E => by clear hN hq hS HP; have EF := E.func; have E29 := E.tmp 29 _ rfl; have E37 := E.tmp 37 _ rfl; clear E; go_simp) (without_any _ _ _ _ _ k7 k8) (fun e w' h => ⟨_, h.1⟩)) (fun v26 C4 hR => ?_)
  obtain ⟨hv, hb⟩ := hR
  injection hv with hv
  subst hv
  have b4 : Below w.heap.size w C4 := b3.trans (hb.mono b3.size)
  clear hS hb
  have hS : (fun w' : World => Pool w' p g n cap room S) C4 := (unhide HP).below b4
  refine ⟨fun _ => hS, fun a26 K26 => ?_⟩
  clear K25
  replace K26 : Kn _ 48 ((38, .agg #[.int .i64 ((S t).hg.c + ((S (S t).r).hu.c + (S (S t).r).sm.c) - ((S d).hu.c + (S d).sm.c)), .int .i64 ((S t).hg.w + ((S (S t).r).hu.w + (S (S t).r).sm.s) - ((S d).hu.w + (S d).sm.s))]) :: _) := K26
  refine upure (i := 26) (o := O82_1_26) (v := .pointer (some ⟨g, t * 14, none⟩)) K26 hq rfl NS82_1 (by kernel_rfl) (by kernel_rfl) rfl rfl rfl (want_none rfl) (fun ev E w9 => ?_) (fun _ => hS) (fun a27 K27 => ?_)
  · have E13 := E.tmp 13 _ rfl; clear E; unfold O82_1_26; clear hN hq hS HP; go_simp
  clear K26
  refine upure (i := 27) (o := O82_1_27) (v := .pointer (some ⟨g, t * 14 + 10, none⟩)) K27 hq rfl NS82_1 (by kernel_rfl) (by kernel_rfl) rfl rfl rfl (want_none rfl) (fun ev E w9 => ?_) (fun _ => hS) (fun a28 K28 => ?_)
  · have E39 := E.tmp 39 _ rfl; clear E; unfold O82_1_27; clear hN hq hS HP; go_simp
  clear K27
  have P0 := hide hS
  clear hS
  obtain ⟨s0, s1, s2, s3, s4, s5, s6, s7, s8, s9, s10, s11, s12, s13⟩ := (unhide P0).slot ht
  obtain ⟨f0, f1, f2, f3, f4, f5, f6, f7, f8, f9, f10, f11, f12, f13⟩ := (unhide P0).soft ht
  refine ustore (R := fun _ _ => True) (i := 28) (o := O82_1_28) (w' := ((C4).setCell ⟨g, t * 14 + 10, none⟩ (.int .i64 ((S t).hg.c + ((S (S t).r).hu.c + (S (S t).r).sm.c) - ((S d).hu.c + (S d).sm.c)))).setCell ⟨g, t * 14 + 11, none⟩ (.int .i64 ((S t).hg.w + ((S (S t).r).hu.w + (S (S t).r).sm.s) - ((S d).hu.w + (S d).sm.s)))) K28 rfl (by kernel_rfl) rfl (want_none rfl) (fun ev E => ?_) (fun hx => absurd hx (by decide)) ?_
  · have E38 := E.tmp 38 _ rfl; have E40 := E.tmp 40 _ rfl; clear E; unfold O82_1_28; clear hN hq HP P0; go_simp
  refine till_done (by kernel_rfl) ?_ _
  have P3 := ((unhide P0).put (t := t) ht 10 (by omega) { S t with hg := { (S t).hg with c := (hangS S t d).c } } (.int .i64 ((S t).hg.c + ((S (S t).r).hu.c + (S (S t).r).sm.c) - ((S d).hu.c + (S d).sm.c))) rfl).put (t := t) ht 11 (by omega) { S t with hg := hangS S t d } (.int .i64 ((S t).hg.w + ((S (S t).r).hu.w + (S (S t).r).sm.s) - ((S d).hu.w + (S d).sm.s))) (by rw [upd_same]; rfl)
  have Q3 := ((Keep.ofBelow b4 [g]).cellB (t * 14 + 10) (.int .i64 ((S t).hg.c + ((S (S t).r).hu.c + (S (S t).r).sm.c) - ((S d).hu.c + (S d).sm.c)))).cellB (t * 14 + 11) (.int .i64 ((S t).hg.w + ((S (S t).r).hu.w + (S (S t).r).sm.s) - ((S d).hu.w + (S d).sm.s)))
  have hE : ∀ (T : Ss) (x : Sl), (∀ j, j ≠ t → T j = S j) → upd T t x = upd S t x := fun T x hT => by
    funext j
    by_cases hj : j = t
    · subst hj; simp [upd]
    · simp [upd, hj, hT j hj]
  rw [hE _ _ (fun j hj => by simp [upd, hj])] at P3
  exact hN _ _ (K28.less ⟨rfl, rfl, rfl, rfl, trivial⟩) P3 Q3
set_option maxHeartbeats 4000000 in
theorem prefer_any {p g n cap room t d : Nat} {S : Ss} {w : World} (h : Pool w p g n cap room S) (ht : t < n) (hl : (S t).l < n) (hr : (S t).r < n) (hd : d < n) (hlt : (S t).l ≠ t) (hdt : d ≠ t) (k1 : (-4611686018427387904 ≤ (S (S t).r).hu.c + (S (S t).r).sm.c ∧ (S (S t).r).hu.c + (S (S t).r).sm.c ≤ 4611686018427387904)) (k2 : (-4611686018427387904 ≤ (S (S t).r).hu.w + (S (S t).r).sm.s ∧ (S (S t).r).hu.w + (S (S t).r).sm.s ≤ 4611686018427387904)) (k3 : (-4611686018427387904 ≤ (S d).hu.c + (S d).sm.c ∧ (S d).hu.c + (S d).sm.c ≤ 4611686018427387904)) (k4 : (-4611686018427387904 ≤ (S d).hu.w + (S d).sm.s ∧ (S d).hu.w + (S d).sm.s ≤ 4611686018427387904)) (k5 : (-4611686018427387904 ≤ (S t).hg.c + ((S (S t).r).hu.c + (S (S t).r).sm.c) ∧ (S t).hg.c + ((S (S t).r).hu.c + (S (S t).r).sm.c) ≤ 4611686018427387904)) (k6 : (-4611686018427387904 ≤ (S t).hg.w + ((S (S t).r).hu.w + (S (S t).r).sm.s) ∧ (S t).hg.w + ((S (S t).r).hu.w + (S (S t).r).sm.s) ≤ 4611686018427387904)) (k7 : (-4611686018427387904 ≤ (S t).hg.c + ((S (S t).r).hu.c + (S (S t).r).sm.c) - ((S d).hu.c + (S d).sm.c) ∧ (S t).hg.c + ((S (S t).r).hu.c + (S (S t).r).sm.c) - ((S d).hu.c + (S d).sm.c) ≤ 4611686018427387904)) (k8 : (-4611686018427387904 ≤ (S t).hg.w + ((S (S t).r).hu.w + (S (S t).r).sm.s) - ((S d).hu.w + (S d).sm.s) ∧ (S t).hg.w + ((S (S t).r).hu.w + (S (S t).r).sm.s) - ((S d).hu.w + (S d).sm.s) ≤ 4611686018427387904))
    (hb : Gbd (upd S t { S t with hg := hangS S t d, r := d }) t) :
    Calls Try.prog 82 #[.pointer (some ⟨p, 0, none⟩), .int .i64 (t : Int), .int .i64 (d : Int)] w fun e w' => e = .returned (.tuple #[]) ∧ Pool w' p g n cap room (prefS S t d) ∧ Keep [g] w w' := by
  have PH := hide h
  have HB := hide hb
  have HK := hide (And.intro k1 (And.intro k2 (And.intro k3 (And.intro k4 (And.intro k5 (And.intro k6 (And.intro k7 k8)))))))
  clear h hb k1 k2 k3 k4 k5 k6 k7 k8
  have e1 : (0 : Int) ≤ (t : Int) := by omega
  have e2 : (t : Int) < (n : Int) := by omega
  refine callsK (n := 48) (L := [(0, .pointer (some ⟨p, 0, none⟩)), (1, .int .i64 (t : Int)), (2, .int .i64 (d : Int))]) Try.func82 rfl Try.ntmps82 rfl rfl (fun a0 K0 => ?_)
  refine seqR ?_
  refine lmv K0 rfl rfl (want_none rfl) rfl rfl (fun a1 K1 => ?_)
  refine lnc K1 rfl rfl (want_none rfl) rfl rfl (fun a2 K2 => ?_)
  clear K1
  refine lfa K2 rfl rfl (want_none rfl) rfl rfl FA66_1 (fun a3 K3 => ?_)
  clear K2
  refine ltake (v := .slice (some ⟨g, 0, none⟩) n cap) (w' := w) K3 rfl rfl (want_none rfl) (fun ev E => ?_) (fun a4 K4 => ?_)
  · obtain ⟨c0, c1, _⟩ := (unhide PH).head; have E9 := E.tmp 9 _ rfl; clear E; clear PH HB HK; go_simp
  clear K3
  refine lmv K4 rfl rfl (want_none rfl) rfl rfl (fun a5 K5 => ?_)
  clear K4
  refine ltake (v := .pointer (some ⟨g, t * 14, none⟩)) (w' := w) K5 rfl rfl (want_none rfl) (fun ev E => ?_) (fun a6 K6 => ?_)
  · have E10 := E.tmp 10 _ rfl; have E11 := E.tmp 11 _ rfl; clear E; clear PH HB HK; go_simp
  clear K5
  refine las K6 rfl rfl (want_none rfl) rfl rfl (fun a7 K7 => ?_)
  clear K6
  refine nilN ?_
  have K8 : Kn _ 48 [(0, .pointer (some ⟨p, 0, none⟩)), (1, .int .i64 (t : Int)), (2, .int .i64 (d : Int)), (6, .pointer (some ⟨g, t * 14, none⟩))] := K7.less ⟨rfl, rfl, rfl, rfl, trivial⟩
  clear K7
  obtain ⟨k1, k2, k3, k4, k5, k6, k7, k8⟩ := unhide HK
  refine seqN (rg82_1 K8 (unhide PH) ht hr hd k1 k2 k3 k4 k5 k6 k7 k8 fun a1 W1 K1 P1 Q1 => ?_)
  clear PH k1 k2 k3 k4 k5 k6 k7 k8
  obtain ⟨S1, hS1⟩ : ∃ z, z = upd S t { S t with hg := hangS S t d } := ⟨_, rfl⟩
  rw [← hS1] at P1
  have PH := hide P1
  have KP := hide Q1
  have HS1 := hide hS1
  clear P1 Q1 hS1
  show Code.wp _ _ _ _ _
  refine seqR ?_
  refine lmv K1 rfl rfl (want_none rfl) rfl rfl (fun a14 K14 => ?_)
  clear K1
  refine lmv K14 rfl rfl (want_none rfl) rfl rfl (fun a15 K15 => ?_)
  clear K14
  refine lnc K15 rfl rfl (want_none rfl) rfl rfl (fun a16 K16 => ?_)
  clear K15
  refine lfa K16 rfl rfl (want_none rfl) rfl rfl FA75_2 (fun a17 K17 => ?_)
  clear K16
  obtain ⟨_, _, sk, _, _, _, _, _, _, _, _, _, _, _⟩ := (unhide PH).slot ht
  obtain ⟨_, _, fk, _, _, _, _, _, _, _, _, _, _, _⟩ := (unhide PH).soft ht
  refine lstore (w' := W1.setCell ⟨g, t * 14 + 2, none⟩ (.int .i64 (d : Int))) K17 rfl (want_none rfl) (fun ev E => ?_) ?_
  · have E42 := E.tmp 42 _ rfl; have E44 := E.tmp 44 _ rfl; clear E; clear PH KP HB HK HS1; go_simp
  clear sk fk
  have P1 := (unhide PH).put (t := t) ht 2 (by omega) { S1 t with r := d } (.int .i64 (d : Int)) rfl
  have Q1 := (unhide KP).cellB (t * 14 + 2) (.int .i64 (d : Int))
  clear PH KP
  have PH := hide P1
  have KP := hide Q1
  clear P1 Q1
  generalize W1.setCell ⟨g, t * 14 + 2, none⟩ (.int .i64 (d : Int)) = W2 at *
  refine nilN ?_
  have K19 : Kn _ 48 [(0, .pointer (some ⟨p, 0, none⟩)), (1, .int .i64 (t : Int))] := K17.less ⟨rfl, rfl, trivial⟩
  clear K17
  have hE : upd S1 t { S1 t with r := d } = upd S t { S t with hg := hangS S t d, r := d } := by
    rw [unhide HS1]
    funext j
    by_cases hj : j = t
    · subst hj; simp [upd]
    · simp [upd, hj]
  rw [hE] at PH
  clear hE HS1
  obtain ⟨S2, hS2⟩ : ∃ z, z = upd S t { S t with hg := hangS S t d, r := d } := ⟨_, rfl⟩
  have s2 : S2 t = { S t with hg := hangS S t d, r := d } := by rw [hS2, upd_same]
  rw [← hS2] at PH HB
  have HS2 := hide (And.intro hS2 s2)
  clear hS2 s2
  refine lastN ?_
  refine wp_region_lit ?_
  refine lmv K19 rfl rfl (want_none rfl) rfl rfl (fun a20 K20 => ?_)
  clear K19
  refine lmv K20 rfl rfl (want_none rfl) rfl rfl (fun a21 K21 => ?_)
  clear K20
  refine lcall (f := 63) (args := #[.pointer (some ⟨p, 0, none⟩), .int .i64 (t : Int)]) K21 rfl rfl (want_none rfl) (fun ev E => ?_) (gather_any (unhide PH) ht (by rw [(unhide HS2).2]; exact hl) (by rw [(unhide HS2).2]; exact hd) (by rw [(unhide HS2).2]; exact hlt) (by rw [(unhide HS2).2]; exact hdt) (unhide HB)) (fun e V3 hR => ?_)
  · have EF := E.func; have E45 := E.tmp 45 _ rfl; have E46 := E.tmp 46 _ rfl; clear E; clear PH KP HB HK HS2; go_simp
  obtain ⟨rfl, P3, Q3⟩ := hR
  refine ⟨_, rfl, fun a22 K22 => ?_⟩
  clear K21
  refine wpList_nil ?_
  refine ⟨K22.defers, .tuple #[], results_none rfl _ _ _, rfl, ?_, (unhide KP).tr Q3⟩
  rw [(unhide HS2).1] at P3; exact P3
end Go.Proofs.Ytjnkgakajenoaaa
/- Plain mathematics for link: expose. No Go in sight. -/

namespace Go.Proofs.Ytjnkgakajenoaaa
set_option linter.unusedVariables false
set_option linter.unusedSimpArgs false
section
variable {S S0 S1 S2 : Ss} {n : Nat} {T : Tr} {G G0 G1 G2 : Gh} {t u x y z k met next below : Nat} {d : Int} {s : Bool}
/-- Tops that aren't on t's way up stay. -/
def Out (T : Tr) (t : Nat) (S0 : Ss) (G0 : Gh) (S : Ss) (G : Gh) : Prop := ∀ x, Th T x → Top S0 x → G0.fi x ∉ U T t → Top S x ∧ (S x).up = (S0 x).up ∧ G.fi x = G0.fi x ∧ G.la x = G0.la x
theorem Out.refl : Out T t S G S G := fun _ _ h _ => ⟨h, rfl, rfl, rfl⟩
theorem Out.trans (h : Out T t S0 G0 S1 G1) (k : Out T t S1 G1 S2 G2) : Out T t S0 G0 S2 G2 := fun x h1 h2 h3 => by
  obtain ⟨a1, a2, a3, a4⟩ := h x h1 h2 h3
  obtain ⟨b1, b2, b3, b4⟩ := k x h1 a1 (by rw [a3]; exact h3)
  exact ⟨b1, b2.trans a2, b3.trans a3, b4.trans a4⟩
structure Ex (n : Nat) (T : Tr) (t : Nat) (S0 : Ss) (G0 : Gh) (met next : Nat) (S : Ss) (G : Gh) : Prop where
  m0 : met = 0 → next = t
  out : Out T t S0 G0 S G
  m1 : met ≠ 0 → Th T met ∧ Top S met ∧ (S met).up = next ∧ G.la met = t ∧ G.pn t = 0 ∧ met ∈ U T t ∧ (met = t ∨ ∃ y, y ∈ U T t ∧ ps T y = met ∧ G0.pn met ≠ y) ∧ (next = 0 → ∀ z, z ∈ U T met → ps T z ≠ 0 → G0.pn (ps T z) = z)
  nx : next ≠ 0 → next ∈ U T t
  pa : ∀ z, z ∈ U T next → G.pn z = G0.pn z
/-- What expose leaves. -/
structure Exd (n : Nat) (T : Tr) (t : Nat) (S0 : Ss) (G0 : Gh) (met : Nat) (S : Ss) (G : Gh) : Prop where
  top : Top S t
  idle : Idle S t
  up0 : (S t).up = 0
  r0 : (S t).r = 0
  pn0 : G.pn t = 0
  la : G.la t = t
  root : ps T (G.fi t) = 0
  chain : ∀ z, z ∈ U T t → ps T z ≠ 0 → G.pn (ps T z) = z
  out : Out T t S0 G0 S G
  mu : met ∈ U T t
  m1 : met = t ∨ ∃ y, y ∈ U T t ∧ ps T y = met ∧ G0.pn met ≠ y
  mc : ∀ z, z ∈ U T met → ps T z ≠ 0 → G0.pn (ps T z) = z
theorem Ex.init (ht : Th T t) (W : T.Wf) : Ex n T t S0 G0 0 t S0 G0 :=
  ⟨fun _ => rfl, Out.refl, fun h => absurd rfl h, fun _ => U_self W ht, fun _ _ => rfl⟩
theorem Fra.out (h : Fra T t S G S1 G1) : Out T t S G S1 G1 := h.top
/-- All on the way up from x, where the upper end of x's part is a root. -/
theorem Lc.chain0 (h : Lc S n T G) (hx : Th T x) (h0 : ps T (G.fi x) = 0) (hz : z ∈ U T x) (hp : ps T z ≠ 0) : G.pn (ps T z) = z := by
  have hf := h.fi_th hx
  have ne : z ≠ G.fi x := fun e => hp (by rw [e]; exact h0)
  rcases U_cmp' h.wf hz (h.fi_in hx) with q | q
  · rcases (U_up h.wf hf).1 q with e | e
    · exact absurd e ne
    · rw [h0, U_zero] at e; simp at e
  · exact (h.chain hx).1 z hz q ne
theorem Ex.splayed (E : Ex n T t S0 G0 met next S G) (h : Lc S n T G) (hn : next ≠ 0) (F : Fra T next S G S1 G1) (h1 : Lc S1 n T G1) : met ≠ 0 → Th T met ∧ Top S1 met ∧ (S1 met).up = next := fun m => by
  obtain ⟨a1, a2, a3, a4, a5, a6, a7, a8⟩ := E.m1 m
  have P := (h.loc met a1).tp a2
  have nin : G.fi met ∉ U T next := fun q => by
    have d1 := dp_th h.wf (h.fi_th a1)
    rw [P.fi, a3] at d1
    rcases U_dp h.wf q with e | e
    · rw [e] at d1; omega
    · omega
  obtain ⟨b1, b2, _, _⟩ := F.top met a1 a2 nin
  exact ⟨a1, b1, b2.trans a3⟩
theorem Ex.round (E : Ex n T t S0 G0 met next S G) (h : Lc S n T G) (ht : Th T t) (hn : next ≠ 0) (F : Fra T next S G S1 G1) (h1 : Lc S1 n T G1) (hT : Top S1 next) (hi : Idle S1 next) :
    Lc (prefS S1 next met) n T (prefG G1 next met) ∧ Ex n T t S0 G0 next (prefS S1 next met next).up (prefS S1 next met) (prefG G1 next met) ∧ dp T (prefS S1 next met next).up < dp T next := by
  have W := h.wf
  have nin := E.nx hn
  have hnx := U_mem_th W nin
  have hb := E.splayed h hn F h1
  obtain ⟨p1, p2, p3, p4⟩ := h1.prefer hnx hT hi hb
  have P1 := (h1.loc next hnx).tp hT
  have dlt := h1.up_dp hnx hT
  have fdp := h1.fi_dp hnx
  have fin := h1.fi_in hnx
  have pn1 : ∀ z, z ≠ next → (prefG G1 next met).pn z = G.pn z := fun z hz => by
    rw [← F.pn]; exact updF_other _ _ hz
  have la1 : ∀ z, z ≠ next → (prefG G1 next met).la z = G1.la z := fun z hz => updF_other _ _ hz
  have metf : met ≠ 0 → G1.fi met = G.fi met ∧ G1.la met = G.la met ∧ dp T next < dp T met ∧ G1.fi met ∈ U T t := fun m => by
    obtain ⟨a1, a2, a3, a4, a5, a6, a7, a8⟩ := E.m1 m
    have P := (h.loc met a1).tp a2
    have d1 := dp_th W (h.fi_th a1)
    rw [P.fi, a3] at d1
    have d2 := h.fi_dp a1
    have nin : G.fi met ∉ U T next := fun q => by
      rcases U_dp W q with e | e
      · rw [e] at d1; omega
      · omega
    obtain ⟨_, _, b3, b4⟩ := F.top met a1 a2 nin
    exact ⟨b3, b4, by omega, by rw [b3]; exact U_trans W a6 (h.fi_in a1)⟩
  refine ⟨p1, ⟨fun e => absurd e hn, ?_, fun _ => ⟨hnx, p2, rfl, ?_, ?_, nin, ?_, ?_⟩, ?_, ?_⟩, by rw [p3]; omega⟩
  · refine E.out.trans fun x x1 x2 x3 => ?_
    obtain ⟨b1, b2, b3, b4⟩ := F.top x x1 x2 (fun q => x3 (U_trans W nin q))
    have xm : x ≠ met := fun e => by
      have m : met ≠ 0 := by rw [← e]; have := x1.1; omega
      have := (metf m).2.2.2
      rw [← e, b3] at this; exact x3 this
    have xn : x ≠ next := fun e => by
      rw [← b3, e] at x3
      exact x3 (U_trans W nin fin)
    exact ⟨p4 x x1 b1 xm, (p3 x).trans b2, b3, (la1 x xn).trans b4⟩
  · show updF G1.la next _ next = t
    rw [updF_same]
    by_cases m : met = 0
    · rw [if_pos m]; exact E.m0 m
    · rw [if_neg m, (metf m).2.1]; exact (E.m1 m).2.2.2.1
  · by_cases m : met = 0
    · rw [← E.m0 m]
      show updF G1.pn next _ next = 0
      rw [updF_same, if_pos m]
    · have tn : t ≠ next := fun e => by
        have d := (metf m).2.2.1
        rcases U_dp W (E.m1 m).2.2.2.2.2.1 with q | q
        · rw [q, e] at d; omega
        · rw [← e] at d; omega
      rw [pn1 t tn]; exact (E.m1 m).2.2.2.2.1
  · by_cases m : met = 0
    · exact .inl (E.m0 m)
    · obtain ⟨b1, b2, b3⟩ := hb m
      have Pm := (h1.loc met b1).tp b2
      have e1 := Pm.fi
      have e2 := Pm.nv
      rw [b3] at e1 e2
      refine .inr ⟨G1.fi met, (metf m).2.2.2, e1, ?_⟩
      rw [F.pn, E.pa next (U_self W hnx)] at e2
      exact e2
  · intro e z hz hp
    rw [p3] at e
    have q := h1.chain0 hnx (by rw [P1.fi]; exact e) hz hp
    rw [F.pn] at q
    have hz' := U_mem_th W hz
    have := E.pa (ps T z) (U_trans W hz (U_ps W hz' hp))
    rw [← this]; exact q
  · intro e
    rw [p3] at e ⊢
    rw [← P1.fi] at e ⊢
    exact U_trans W nin (U_trans W fin (U_ps W (h1.fi_th hnx) e))
  · intro z hz
    rw [p3] at hz
    have z1 : z ≠ next := fun e => by
      rcases U_dp W hz with q | q
      · rw [← q, e] at dlt; omega
      · rw [e] at q; omega
    have u0 : (S1 next).up ≠ 0 := fun e => by rw [e, U_zero] at hz; simp at hz
    have : (S1 next).up ∈ U T next := by
      rw [← P1.fi] at u0 ⊢
      exact U_trans W fin (U_ps W (h1.fi_th hnx) u0)
    rw [pn1 z z1]
    exact E.pa z (U_trans W this hz)
theorem Ex.done (E : Ex n T t S0 G0 met 0 S G) (h : Lc S n T G) (ht : Th T t) (F : Fra T t S G S1 G1) (h1 : Lc S1 n T G1) (hT : Top S1 t) (hi : Idle S1 t) : Exd n T t S0 G0 met S1 G1 := by
  have W := h.wf
  have t0 := ht.1
  have m : met ≠ 0 := fun m => by have := E.m0 m; omega
  obtain ⟨a1, a2, a3, a4, a5, a6, a7, a8⟩ := E.m1 m
  have P := (h.loc met a1).tp a2
  have P1 := (h1.loc t ht).tp hT
  have ch : ∀ z, z ∈ U T t → ps T z ≠ 0 → G1.pn (ps T z) = z := fun z hz hp => by
    rw [F.pn]
    rcases U_cmp' W hz a6 with q | q
    · exact h.chain0 a1 (by rw [P.fi]; exact a3) q hp
    · by_cases e : z = met
      · exact h.chain0 a1 (by rw [P.fi]; exact a3) (by rw [e]; exact U_self W a1) hp
      · exact (h.chain a1).2 z (by rw [a4]; exact hz) q e
  have up0 : (S1 t).up = 0 := Classical.byContradiction fun u0 => by
    have := ch (G1.fi t) (h1.fi_in ht) (by rw [P1.fi]; exact u0)
    rw [P1.fi] at this
    exact P1.nv this
  have en := (h1.loc t ht).en
  rw [P1.b] at en
  have pn0 : G1.pn t = 0 := by rw [F.pn]; exact a5
  have r0 : (S1 t).r = 0 := Classical.byContradiction fun r => by
    have e : G1.pn t = G1.fi (S1 t).r := (en.r1 r).2
    have := (h1.fi_th ((h1.loc t ht).kr r).th).1
    omega
  exact ⟨hT, hi, up0, r0, pn0, en.r0 r0, by rw [P1.fi]; exact up0, ch, E.out.trans F.out, a6, a7, a8 rfl⟩

theorem Lc.wh_r (h : Lc S n T G) (ht : Th T t) (hT : Top S t) (hi : Idle S t) : (wh (S (S t).r)).c = Dc T (G.pn t) ∧ (wh (S (S t).r)).w = Dw T (G.pn t) := by
  have W := h.wf
  have L := h.loc t ht
  have P := L.tp hT
  have en := L.en
  rw [P.b] at en
  by_cases e : (S t).r = 0
  · have q := P.pn
    have e2 : G.la t = t := en.r0 e
    rw [e2] at q
    rw [e, h.s0, q, Dc_zero W, Dw_zero W]; exact ⟨rfl, rfl⟩
  · have K := L.kr e
    have q := h.whole K.th
    have e1 : G.pn t = G.fi (S t).r := (en.r1 e).2
    have e2 : G.la t = G.la (S t).r := (en.r1 e).1
    have a0 : G.a (S t).r = 0 := by rw [K.a, P.a, hi.2]; rfl
    have p0 : G.pn (G.la (S t).r) = 0 := by rw [← e2]; exact P.pn
    rw [a0, lf_zero, p0, Dc_zero W, Dw_zero W] at q
    rw [e1]
    unfold wh; dsimp only; omega
theorem Lc.wh_b (h : Lc S n T G) (hb : below ≠ 0 → Th T below ∧ Top S below) : ∃ j, (wh (S below)).c = Dc T j ∧ (wh (S below)).w = Dw T j := by
  by_cases e : below = 0
  · exact ⟨0, by rw [e, h.s0, Dc_zero h.wf]; rfl, by rw [e, h.s0, Dw_zero h.wf]; rfl⟩
  · exact ⟨G.fi below, h.top_whole (hb e).1 (hb e).2⟩
theorem Dw_abs (hf : T.Fit) (j : Nat) : -1152921504606846976 ≤ Dw T j ∧ Dw T j ≤ 1152921504606846976 := by
  have h1 := Dw_bd hf j
  have h2 := Dc_bd T j
  have h3 := hf.n
  omega
end
end Go.Proofs.Ytjnkgakajenoaaa
/- The program's forest: expose, and the ends of a part. -/

namespace Go.Proofs.Ytjnkgakajenoaaa
open Go.RowKit Go.Arb
set_option linter.unusedVariables false
set_option linter.unusedSimpArgs false
set_option maxRecDepth 100000

section
variable {S : Ss} {T : Tr} {G : Gh} {p g n cap room t d : Nat} {w : World}
theorem preferL (h : Pool w p g n cap room S) (L : Lc S n T G) (ht : Th T t) (hT : Top S t) (hi : Idle S t) (hb : d ≠ 0 → Th T d ∧ Top S d ∧ (S d).up = t) :
    Calls Try.prog 82 #[.pointer (some ⟨p, 0, none⟩), .int .i64 (t : Int), .int .i64 (d : Int)] w fun e w' => e = .returned (.tuple #[]) ∧ Pool w' p g n cap room (prefS S t d) ∧ Keep [g] w w' := by
  obtain ⟨k1, k2, k3, k4⟩ := L.kids_lt ht
  obtain ⟨L1, _⟩ := L.prefer ht hT hi hb
  have P := (L.loc t ht).tp hT
  have dt : d ≠ t := fun e => by
    obtain ⟨_, _, h3⟩ := hb (by have := ht.1; omega)
    rw [e] at h3
    have h1 := L.up_dp ht hT
    have h2 := L.fi_dp ht
    rw [h3] at h1; omega
  have bt := L.bz t
  have br := L.bz (S t).r
  have bd := L.bz d
  have r1 := L.wh_r ht hT hi
  obtain ⟨j, b1, b2⟩ := L.wh_b (below := d) (fun e => ⟨(hb e).1, (hb e).2.1⟩)
  have g1 := (L.loc t ht).hgc
  have g2 := (L.loc t ht).hgw
  have w1 := (L.ft.wt (t - 1))
  have d1 := Dw_abs L.ft t
  have d2 := Dw_abs L.ft j
  have d3 := Dc_bd T j
  have d4 := Dc_bd T t
  have d5 := L.ft.n
  have e1 := prefS_at (below := d) S k3 dt t
  rw [if_pos rfl] at e1
  have b9 := L1.bz t
  rw [e1] at b9
  have q1 := bt.c; have q2 := bt.s; have q3 := bt.gc; have q4 := bt.gw
  have s1 := br.c; have s2 := br.s; have s3 := br.uc; have s4 := br.uw
  have t1 := bd.c; have t2 := bd.s; have t3 := bd.uc; have t4 := bd.uw
  unfold wh at r1 b1 b2
  dsimp only at r1 b1 b2
  refine prefer_any h (L.lt t ht) k1 k2 (L.lt' fun e => (hb e).1) k3 dt ⟨by omega, by omega⟩ ⟨by omega, by omega⟩ ⟨by omega, by omega⟩ ⟨by omega, by omega⟩ ⟨by omega, by omega⟩ ⟨by omega, by omega⟩ ⟨by omega, by omega⟩ ⟨by omega, by omega⟩ ?_
  refine gbd_of ?_ ?_ ?_
  · rw [upd_same]; dsimp only; rw [upd_ne _ _ k3]; exact L.bz _
  · rw [upd_same]; dsimp only; rw [upd_ne _ _ dt]; exact bd
  · rw [upd_same]
    exact ⟨bt.c, bt.s, bt.uc, bt.uw, b9.gc, b9.gw, bt.wt⟩
end
set_option maxHeartbeats 4000000 in
theorem round61 {p g n cap room t met next : Nat} {T : Tr} {S0 S : Ss} {G0 G : Gh} {Q : Exit → Act → World → Prop} {a0 : Act} {w0 w : World} (K0 : Kn a0 30 [(0, .pointer (some ⟨p, 0, none⟩)), (1, .int .i64 (t : Int)), (5, .int .i64 (met : Int)), (6, .int .i64 (next : Int))]) (h : Pool w p g n cap room S) (L : Lc S n T G) (EX : Ex n T t S0 G0 met next S G) (hk : Keep [g] w0 w) (ht : Th T t)
    (hN : ∀ a' W S1 G1 (next' : Nat), Kn a' 30 [(0, .pointer (some ⟨p, 0, none⟩)), (1, .int .i64 (t : Int)), (5, .int .i64 (next : Int)), (6, .int .i64 (next' : Int))] → Pool W p g n cap room S1 → Lc S1 n T G1 → Ex n T t S0 G0 next next' S1 G1 → Keep [g] w0 W → dp T next' < dp T next → Q .normal a' W)
    (hX : ∀ a' W, next = 0 → Kn a' 30 [(0, .pointer (some ⟨p, 0, none⟩)), (1, .int .i64 (t : Int)), (5, .int .i64 (met : Int)), (6, .int .i64 (next : Int))] → Pool W p g n cap room S → Keep [g] w0 W → Q (.exit 0) a' W) : (Code.seq (Code.seq (Code.region 3 (rg [1, 1, 0, 1, 0, 0, 0, 0] Try.f61).toArray false) (Code.cond (Operand.tmp 9) Code.skip (Code.exit 0))) (Code.seq (Code.block 1 (Code.seq (Code.region 5 (rg [1, 1, 0, 1, 0, 0, 1, 0, 0, 0] Try.f61).toArray false) (Code.seq (Code.region 6 (rg [1, 1, 0, 1, 0, 0, 1, 0, 0, 1, 0] Try.f61).toArray false) (Code.region 7 (rg [1, 1, 0, 1, 0, 0, 1, 0, 0, 1, 1] Try.f61).toArray false)))) (Code.region 4 (rg [1, 1, 0, 1, 0, 0, 1, 1] Try.f61).toArray false))).wp Try.prog Q a0 w := by
  have PH := hide h
  have KP := hide hk
  have HN := hide hN
  have HX := hide hX
  have LH := hide L
  have EH := hide EX
  clear hN hX L EX h hk
  by_cases n0 : next = 0
  · have i0 : (next : Int) = 0 := by omega
    refine wp_seq ?_
    refine wp_seq ?_
    refine wp_region_lit ?_
    refine lmv K0 rfl rfl (want_none rfl) rfl rfl (fun a1 K1 => ?_)
    refine ltake (v := .bool false) (w' := w) K1 rfl rfl (want_none rfl) (fun ev E => ?_) (fun a2 K2 => ?_)
    · have EC := E.const; have E8 := E.tmp 8 _ rfl; clear E; clear PH KP HN HX LH EH; go_simp
    clear K1
    refine wpList_nil ?_
    show Code.wp _ _ _ _ _
    refine knCond (b := false) K2 rfl ?_
    refine wp_exit ?_
    exact unhide HX _ _ n0 (K2.less ⟨rfl, rfl, rfl, rfl, trivial⟩) (unhide PH) (unhide KP)
  · have i0 : ¬ (next : Int) = 0 := by omega
    refine seqN ?_
    refine seqR ?_
    refine lmv K0 rfl rfl (want_none rfl) rfl rfl (fun a1 K1 => ?_)
    refine ltake (v := .bool true) (w' := w) K1 rfl rfl (want_none rfl) (fun ev E => ?_) (fun a2 K2 => ?_)
    · have EC := E.const; have E8 := E.tmp 8 _ rfl; clear E; clear PH KP HN HX LH EH; go_simp
    clear K1
    refine nilN ?_
    refine knCond (b := true) K2 rfl (wp_skip ?_)
    show Code.wp _ _ _ _ _
    have K3 : Kn _ 30 [(0, .pointer (some ⟨p, 0, none⟩)), (1, .int .i64 (t : Int)), (5, .int .i64 (met : Int)), (6, .int .i64 (next : Int))] := K2.less ⟨rfl, rfl, rfl, rfl, trivial⟩
    clear K2
    have hnx := U_mem_th (unhide LH).wf ((unhide EH).nx n0)
    have lnx := (unhide LH).lt next hnx
    have e1 : (0 : Int) ≤ (next : Int) := by omega
    have e2 : (next : Int) < (n : Int) := by omega
    clear i0
    refine seqN ?_
    refine blockN ?_
    refine seqR ?_
    refine lmv K3 rfl rfl (want_none rfl) rfl rfl (fun a4 K4 => ?_)
    clear K3
    refine lmv K4 rfl rfl (want_none rfl) rfl rfl (fun a5 K5 => ?_)
    clear K4
    refine lcall (f := 72) (args := #[.pointer (some ⟨p, 0, none⟩), .int .i64 (next : Int)]) K5 rfl rfl (want_none rfl) (fun ev E => ?_) (splayL (unhide PH) (unhide LH) hnx) (fun e W5 hR => ?_)
    · have EF := E.func; have E18 := E.tmp 18 _ rfl; have E19 := E.tmp 19 _ rfl; clear E; clear PH KP HN HX LH EH; clear hnx; go_simp
    obtain ⟨rfl, Q1, S1, G1, P1, L1, F1, T1, i1⟩ := hR
    have Q2 := hide ((unhide KP).tr Q1)
    clear PH KP Q1
    have PH := hide P1
    have KP := Q2
    clear Q2 P1
    refine ⟨_, rfl, fun a6 K6 => ?_⟩
    clear K5
    refine nilN ?_
    refine seqR ?_
    refine lmv K6 rfl rfl (want_none rfl) rfl rfl (fun a7 K7 => ?_)
    clear K6
    refine lmv K7 rfl rfl (want_none rfl) rfl rfl (fun a8 K8 => ?_)
    clear K7
    refine lmv K8 rfl rfl (want_none rfl) rfl rfl (fun a9 K9 => ?_)
    clear K8
    have hb := (unhide EH).splayed (unhide LH) n0 F1 L1
    obtain ⟨L2, E2, d2⟩ := (unhide EH).round (unhide LH) ht n0 F1 L1 T1 i1
    refine lcall (f := 82) (args := #[.pointer (some ⟨p, 0, none⟩), .int .i64 (next : Int), .int .i64 (met : Int)]) K9 rfl rfl (want_none rfl) (fun ev E => ?_) (preferL (unhide PH) L1 hnx T1 i1 hb) (fun e W6 hR => ?_)
    · have EF := E.func; have E21 := E.tmp 21 _ rfl; have E22 := E.tmp 22 _ rfl; have E23 := E.tmp 23 _ rfl; clear E; clear PH KP HN HX LH EH; clear hnx L1 F1 T1 i1 hb L2 E2 d2; go_simp
    obtain ⟨rfl, P1, Q1⟩ := hR
    have Q2 := hide ((unhide KP).tr Q1)
    clear PH KP Q1
    have PH := hide P1
    have KP := Q2
    clear Q2 P1
    refine ⟨_, rfl, fun a10 K10 => ?_⟩
    clear K9
    obtain ⟨S2, hS2⟩ : ∃ z, z = prefS S1 next met := ⟨_, rfl⟩
    rw [← hS2] at PH L2 E2 d2
    clear hS2 hb L1 F1 T1 i1
    refine nilN ?_
    refine wp_region_lit ?_
    refine lmv K10 rfl rfl (want_none rfl) rfl rfl (fun a11 K11 => ?_)
    clear K10
    refine las K11 rfl rfl (want_none rfl) rfl rfl (fun a12 K12 => ?_)
    clear K11
    refine nilN ?_
    refine wp_region_lit ?_
    refine lmv K12 rfl rfl (want_none rfl) rfl rfl (fun a13 K13 => ?_)
    clear K12
    refine lnc K13 rfl rfl (want_none rfl) rfl rfl (fun a14 K14 => ?_)
    clear K13
    refine lfa K14 rfl rfl (want_none rfl) rfl rfl FA66_1 (fun a15 K15 => ?_)
    clear K14
    refine ltake (v := .slice (some ⟨g, 0, none⟩) n cap) (w' := W6) K15 rfl rfl (want_none rfl) (fun ev E => ?_) (fun a16 K16 => ?_)
    · obtain ⟨c0, c1, _⟩ := (unhide PH).head; have E12 := E.tmp 12 _ rfl; clear E; clear PH KP HN HX LH EH; clear hnx L2 E2 d2; go_simp
    clear K15
    refine lmv K16 rfl rfl (want_none rfl) rfl rfl (fun a17 K17 => ?_)
    clear K16
    refine ltake (v := .pointer (some ⟨g, next * 14, none⟩)) (w' := W6) K17 rfl rfl (want_none rfl) (fun ev E => ?_) (fun a18 K18 => ?_)
    · have E13 := E.tmp 13 _ rfl; have E14 := E.tmp 14 _ rfl; clear E; clear PH KP HN HX LH EH; clear hnx L2 E2 d2; go_simp
    clear K17
    refine lfa K18 rfl rfl (want_none rfl) rfl rfl FA75_0 (fun a19 K19 => ?_)
    clear K18
    refine ltake (v := .int .i64 ((S2 next).up : Int)) (w' := W6) K19 rfl rfl (want_none rfl) (fun ev E => ?_) (fun a20 K20 => ?_)
    · obtain ⟨s0, s1, s2, s3, s4, s5, s6, s7, s8, s9, s10, s11, s12, s13⟩ := (unhide PH).slot (t := next) (by assumption); have E16 := E.tmp 16 _ rfl; clear E; clear PH KP HN HX LH EH; clear hnx L2 E2 d2; go_simp
    clear K19
    refine las K20 rfl rfl (want_none rfl) rfl rfl (fun a21 K21 => ?_)
    clear K20
    refine wpList_nil ?_
    exact unhide HN _ _ S2 _ _ (K21.less ⟨rfl, rfl, rfl, rfl, trivial⟩) (unhide PH) L2 E2 (unhide KP) d2
set_option maxHeartbeats 4000000 in
theorem exposeL {p g n cap room t : Nat} {T : Tr} {S : Ss} {G : Gh} {w : World} (h : Pool w p g n cap room S) (L : Lc S n T G) (ht : Th T t) :
    Calls Try.prog 61 #[.pointer (some ⟨p, 0, none⟩), .int .i64 (t : Int)] w fun e w' => ∃ met : Nat, e = .returned (.int .i64 (met : Int)) ∧ Keep [g] w w' ∧ ∃ S1 G1, Pool w' p g n cap room S1 ∧ Lc S1 n T G1 ∧ Exd n T t S G met S1 G1 := by
  refine callsK (n := 30) (L := [(0, .pointer (some ⟨p, 0, none⟩)), (1, .int .i64 (t : Int))]) Try.func61 rfl Try.ntmps61 rfl rfl (fun a0 K0 => ?_)
  refine seqR ?_
  refine lac K0 rfl rfl (want_none rfl) rfl (fun a1 K1 => ?_)
  refine nilN ?_
  refine seqR ?_
  refine lac K1 rfl rfl (want_none rfl) rfl (fun a2 K2 => ?_)
  clear K1
  refine nilN ?_
  refine seqN ?_
  refine seqR ?_
  refine lmv K2 rfl rfl (want_none rfl) rfl rfl (fun a3 K3 => ?_)
  clear K2
  refine las K3 rfl rfl (want_none rfl) rfl rfl (fun a4 K4 => ?_)
  clear K3
  refine nilN ?_
  have K5 : Kn _ 30 [(0, .pointer (some ⟨p, 0, none⟩)), (1, .int .i64 (t : Int)), (5, .int .i64 0), (6, .int .i64 (t : Int))] := K4.less ⟨rfl, rfl, rfl, rfl, trivial⟩
  clear K4
  refine wp_block ?_
  refine wp_loop_ghost (fun k a w' => ∃ S1 G1 met next, Kn a 30 [(0, .pointer (some ⟨p, 0, none⟩)), (1, .int .i64 (t : Int)), (5, .int .i64 ((met : Nat) : Int)), (6, .int .i64 ((next : Nat) : Int))] ∧ Pool w' p g n cap room S1 ∧ Lc S1 n T G1 ∧ Ex n T t S G met next S1 G1 ∧ Keep [g] w w' ∧ k = dp T next) _ ⟨S, G, 0, t, K5, h, L, Ex.init ht L.wf, Keep.refl _ _, rfl⟩ ?_
  rintro k a w1 ⟨S1, G1, met, next, K1, P1, L1, X1, Q1, hk⟩
  refine round61 K1 P1 L1 X1 Q1 ht (fun a' W S2 G2 next' K2 P2 L2 X2 Q2 hd => ?_) (fun a' W n0 KZ P2 Q2 => ?_)
  · exact ⟨_, by omega, S2, G2, next, next', K2, P2, L2, X2, Q2, rfl⟩
  · subst n0
    show Code.wp _ _ _ _ _
    have PH := hide P2
    have KP := hide Q2
    clear P2 Q2 P1 Q1 hk
    have lt1 := L1.lt t ht
    have e1 : (0 : Int) ≤ (t : Int) := by omega
    have e2 : (t : Int) < (n : Int) := by omega
    have HA := hide (And.intro L1 (And.intro X1 ht))
    clear h L ht K0 K1 L1 X1 K5
    refine seqR ?_
    refine lmv KZ rfl rfl (want_none rfl) rfl rfl (fun a31 K31 => ?_)
    clear KZ
    refine lmv K31 rfl rfl (want_none rfl) rfl rfl (fun a32 K32 => ?_)
    clear K31
    refine lcall (f := 72) (args := #[.pointer (some ⟨p, 0, none⟩), .int .i64 (t : Int)]) K32 rfl rfl (want_none rfl) (fun ev E => ?_) (splayL (unhide PH) (unhide HA).1 (unhide HA).2.2) (fun e W3 hR => ?_)
    · have EF := E.func; have E26 := E.tmp 26 _ rfl; have E27 := E.tmp 27 _ rfl; clear E; clear PH KP HA; go_simp
    obtain ⟨rfl, Q1, S3, G3, P1, L3, F3, T3, i3⟩ := hR
    have Q2 := hide ((unhide KP).tr Q1)
    clear PH KP Q1
    have PH := hide P1
    have KP := Q2
    clear Q2 P1
    refine ⟨_, rfl, fun a33 K33 => ?_⟩
    clear K32
    refine nilN ?_
    refine seqR ?_
    refine lmv K33 rfl rfl (want_none rfl) rfl rfl (fun a34 K34 => ?_)
    clear K33
    refine las K34 rfl rfl (want_none rfl) rfl rfl (fun a35 K35 => ?_)
    clear K34
    refine wpList_nil ?_
    refine wp_ret ?_
    obtain ⟨L1, X1, ht⟩ := unhide HA
    refine bodyPost_ret (v := .int .i64 (met : Int)) ?_ K35.defers ⟨met, rfl, unhide KP, S3, G3, unhide PH, L3, X1.done L1 ht F3 L3 T3 i3⟩
    have e4 := K35.has 4 _ rfl
    simp [results, Try.results61, go_sem, e4]
theorem settleF {p g n cap room t : Nat} {T : Tr} {S : Ss} {G : Gh} {w : World} (h : Pool w p g n cap room S) (L : Lc S n T G) (ht : Th T t) :
    Calls Try.prog 88 #[.pointer (some ⟨p, 0, none⟩), .int .i64 (t : Int)] w fun e w' => e = .returned (.tuple #[]) ∧ Keep [g] w w' ∧ ∃ S1 G1, Pool w' p g n cap room S1 ∧ Lc S1 n T G1 ∧ Like S S1 G G1 ∧ Idle S1 t ∧ (S1 t).l = (S t).l ∧ (S1 t).r = (S t).r ∧ G1.b t = G.b t := by
  obtain ⟨k1, k2, k3, k4⟩ := L.kids_lt ht
  obtain ⟨G1, L1, lk1, b1, a1, n1, w1, l1, r1⟩ := L.settleT ht
  obtain ⟨G2, L2, lk2, b2, a2, n2, w2, l2, r2⟩ := L.settle ht
  refine (settle_any h (L.lt t ht) k1 k2 k3 k4 rfl (fun _ e => ?_) (fun _ e => ?_)).mono ?_
  · rw [upd_ne _ _ (by rw [l1]; exact k3)]
    exact (L1.kid_bd ht (.inl rfl) e).1
  · by_cases e2 : (settleT S t t).l = (settleT S t t).r
    · have := (L1.loc t ht).lr e2; omega
    · rw [raiseS_ne _ _ (fun e => e2 e.symm), upd_ne _ _ (by rw [r1]; exact k4)]
      exact (L1.kid_bd ht (.inr rfl) e).1
  · rintro e w' ⟨rfl, q1, q2⟩
    exact ⟨rfl, q2, _, G2, q1, L2, lk2, ⟨n2, w2⟩, l2, r2, a2⟩
set_option maxHeartbeats 4000000 in
theorem round73 {p g n cap room t : Nat} {T : Tr} {S : Ss} {G : Gh} {Q : Exit → Act → World → Prop} {a0 : Act} {w0 w : World} (K0 : Kn a0 29 [(0, .pointer (some ⟨p, 0, none⟩)), (1, .int .i64 (t : Int))]) (h : Pool w p g n cap room S) (L : Lc S n T G) (hk : Keep [g] w0 w) (ht : Th T t) (hb : G.b t = false)
    (hN : ∀ a' W S1 G1 t', Kn a' 29 [(0, .pointer (some ⟨p, 0, none⟩)), (1, .int .i64 ((t' : Nat) : Int))] → Pool W p g n cap room S1 → Lc S1 n T G1 → Like S S1 G G1 → Th T t' → G1.b t' = false → G1.fi t' = G.fi t → Keep [g] w0 W → (S1 t').sm.c < (S t).sm.c → Q .normal a' W)
    (hX : ∀ a' W, G.fi t = t → Kn a' 29 [(0, .pointer (some ⟨p, 0, none⟩)), (1, .int .i64 (t : Int))] → Pool W p g n cap room S → Keep [g] w0 W → Q (.exit 0) a' W) : (Code.seq (Code.seq (Code.region 1 (rg [1, 0, 0, 0, 0, 0] Try.f73).toArray false) (Code.cond (Operand.tmp 13) Code.skip (Code.exit 0))) (Code.block 1 (Code.seq (Code.region 2 (rg [1, 0, 0, 0, 1, 0, 0] Try.f73).toArray false) (Code.region 3 (rg [1, 0, 0, 0, 1, 0, 1] Try.f73).toArray false)))).wp Try.prog Q a0 w := by
  have PH := hide h
  have KP := hide hk
  have HN := hide hN
  have HX := hide hX
  have LH := hide L
  clear hN hX L h hk
  have lt1 := (unhide LH).lt t ht
  have e1 : (0 : Int) ≤ (t : Int) := by omega
  have e2 : (t : Int) < (n : Int) := by omega
  have HT := hide (And.intro ht hb)
  clear ht hb
  by_cases n0 : (S t).l = 0
  · have i0 : ((S t).l : Int) = 0 := by omega
    refine wp_seq ?_
    refine wp_seq ?_
    refine wp_region_lit ?_
    refine lmv K0 rfl rfl (want_none rfl) rfl rfl (fun a1 K1 => ?_)
    refine lnc K1 rfl rfl (want_none rfl) rfl rfl (fun a2 K2 => ?_)
    clear K1
    refine lfa K2 rfl rfl (want_none rfl) rfl rfl FA66_1 (fun a3 K3 => ?_)
    clear K2
    refine ltake (v := .slice (some ⟨g, 0, none⟩) n cap) (w' := w) K3 rfl rfl (want_none rfl) (fun ev E => ?_) (fun a4 K4 => ?_)
    · obtain ⟨c0, c1, _⟩ := (unhide PH).head; have E7 := E.tmp 7 _ rfl; clear E; clear PH KP HN HX LH HT; go_simp
    clear K3
    refine lmv K4 rfl rfl (want_none rfl) rfl rfl (fun a5 K5 => ?_)
    clear K4
    refine ltake (v := .pointer (some ⟨g, t * 14, none⟩)) (w' := w) K5 rfl rfl (want_none rfl) (fun ev E => ?_) (fun a6 K6 => ?_)
    · have E8 := E.tmp 8 _ rfl; have E9 := E.tmp 9 _ rfl; clear E; clear PH KP HN HX LH HT; go_simp
    clear K5
    refine lfa K6 rfl rfl (want_none rfl) rfl rfl FA75_1 (fun a7 K7 => ?_)
    clear K6
    refine ltake (v := .int .i64 ((S t).l : Int)) (w' := w) K7 rfl rfl (want_none rfl) (fun ev E => ?_) (fun a8 K8 => ?_)
    · obtain ⟨s0, s1, s2, s3, s4, s5, s6, s7, s8, s9, s10, s11, s12, s13⟩ := (unhide PH).slot (t := t) (by assumption); have E11 := E.tmp 11 _ rfl; clear E; clear PH KP HN HX LH HT; go_simp
    clear K7
    refine ltake (v := .bool false) (w' := w) K8 rfl rfl (want_none rfl) (fun ev E => ?_) (fun a9 K9 => ?_)
    · have EC := E.const; have E12 := E.tmp 12 _ rfl; clear E; clear PH KP HN HX LH HT; go_simp
    clear K8
    refine wpList_nil ?_
    show Code.wp _ _ _ _ _
    refine knCond (b := false) K9 rfl ?_
    refine wp_exit ?_
    have L := unhide LH
    have en := (L.loc t (unhide HT).1).en
    rw [(unhide HT).2] at en
    exact unhide HX _ _ (en.l0 n0) (K9.less ⟨rfl, rfl, trivial⟩) (unhide PH) (unhide KP)
  · have i0 : ¬ ((S t).l : Int) = 0 := by omega
    refine seqN ?_
    refine seqR ?_
    refine lmv K0 rfl rfl (want_none rfl) rfl rfl (fun a1 K1 => ?_)
    refine lnc K1 rfl rfl (want_none rfl) rfl rfl (fun a2 K2 => ?_)
    clear K1
    refine lfa K2 rfl rfl (want_none rfl) rfl rfl FA66_1 (fun a3 K3 => ?_)
    clear K2
    refine ltake (v := .slice (some ⟨g, 0, none⟩) n cap) (w' := w) K3 rfl rfl (want_none rfl) (fun ev E => ?_) (fun a4 K4 => ?_)
    · obtain ⟨c0, c1, _⟩ := (unhide PH).head; have E7 := E.tmp 7 _ rfl; clear E; clear PH KP HN HX LH HT; go_simp
    clear K3
    refine lmv K4 rfl rfl (want_none rfl) rfl rfl (fun a5 K5 => ?_)
    clear K4
    refine ltake (v := .pointer (some ⟨g, t * 14, none⟩)) (w' := w) K5 rfl rfl (want_none rfl) (fun ev E => ?_) (fun a6 K6 => ?_)
    · have E8 := E.tmp 8 _ rfl; have E9 := E.tmp 9 _ rfl; clear E; clear PH KP HN HX LH HT; go_simp
    clear K5
    refine lfa K6 rfl rfl (want_none rfl) rfl rfl FA75_1 (fun a7 K7 => ?_)
    clear K6
    refine ltake (v := .int .i64 ((S t).l : Int)) (w' := w) K7 rfl rfl (want_none rfl) (fun ev E => ?_) (fun a8 K8 => ?_)
    · obtain ⟨s0, s1, s2, s3, s4, s5, s6, s7, s8, s9, s10, s11, s12, s13⟩ := (unhide PH).slot (t := t) (by assumption); have E11 := E.tmp 11 _ rfl; clear E; clear PH KP HN HX LH HT; go_simp
    clear K7
    refine ltake (v := .bool true) (w' := w) K8 rfl rfl (want_none rfl) (fun ev E => ?_) (fun a9 K9 => ?_)
    · have EC := E.const; have E12 := E.tmp 12 _ rfl; clear E; clear PH KP HN HX LH HT; go_simp
    clear K8
    refine nilN ?_
    refine knCond (b := true) K9 rfl (wp_skip ?_)
    show Code.wp _ _ _ _ _
    have K10 : Kn _ 29 [(0, .pointer (some ⟨p, 0, none⟩)), (1, .int .i64 (t : Int))] := K9.less ⟨rfl, rfl, trivial⟩
    clear K9
    clear i0
    refine wp_block ?_
    refine seqR ?_
    refine lmv K10 rfl rfl (want_none rfl) rfl rfl (fun a11 K11 => ?_)
    clear K10
    refine lmv K11 rfl rfl (want_none rfl) rfl rfl (fun a12 K12 => ?_)
    clear K11
    refine lcall (f := 88) (args := #[.pointer (some ⟨p, 0, none⟩), .int .i64 (t : Int)]) K12 rfl rfl (want_none rfl) (fun ev E => ?_) (settleF (unhide PH) (unhide LH) (unhide HT).1) (fun e W5 hR => ?_)
    · have EF := E.func; have E14 := E.tmp 14 _ rfl; have E15 := E.tmp 15 _ rfl; clear E; clear PH KP HN HX LH HT; go_simp
    obtain ⟨rfl, Q1, S1, G1, P1, L1, lk1, i1, kl1, kr1, b1⟩ := hR
    have Q2 := hide ((unhide KP).tr Q1)
    clear PH KP Q1
    have PH := hide P1
    have KP := Q2
    clear Q2 P1
    refine ⟨_, rfl, fun a13 K13 => ?_⟩
    clear K12
    refine nilN ?_
    refine wp_region_lit ?_
    refine lmv K13 rfl rfl (want_none rfl) rfl rfl (fun a14 K14 => ?_)
    clear K13
    refine lnc K14 rfl rfl (want_none rfl) rfl rfl (fun a15 K15 => ?_)
    clear K14
    refine lfa K15 rfl rfl (want_none rfl) rfl rfl FA66_1 (fun a16 K16 => ?_)
    clear K15
    refine ltake (v := .slice (some ⟨g, 0, none⟩) n cap) (w' := W5) K16 rfl rfl (want_none rfl) (fun ev E => ?_) (fun a17 K17 => ?_)
    · obtain ⟨c0, c1, _⟩ := (unhide PH).head; have E19 := E.tmp 19 _ rfl; clear E; clear PH KP HN HX LH HT; clear L1 lk1 i1 kl1 kr1 b1; go_simp
    clear K16
    refine lmv K17 rfl rfl (want_none rfl) rfl rfl (fun a18 K18 => ?_)
    clear K17
    refine ltake (v := .pointer (some ⟨g, t * 14, none⟩)) (w' := W5) K18 rfl rfl (want_none rfl) (fun ev E => ?_) (fun a19 K19 => ?_)
    · have E20 := E.tmp 20 _ rfl; have E21 := E.tmp 21 _ rfl; clear E; clear PH KP HN HX LH HT; clear L1 lk1 i1 kl1 kr1 b1; go_simp
    clear K18
    refine lfa K19 rfl rfl (want_none rfl) rfl rfl FA75_1 (fun a20 K20 => ?_)
    clear K19
    refine ltake (v := .int .i64 ((S1 t).l : Int)) (w' := W5) K20 rfl rfl (want_none rfl) (fun ev E => ?_) (fun a21 K21 => ?_)
    · obtain ⟨s0, s1, s2, s3, s4, s5, s6, s7, s8, s9, s10, s11, s12, s13⟩ := (unhide PH).slot (t := t) (by assumption); have E23 := E.tmp 23 _ rfl; clear E; clear PH KP HN HX LH HT; clear L1 lk1 i1 kl1 kr1 b1; go_simp
    clear K20
    refine las K21 rfl rfl (want_none rfl) rfl rfl (fun a22 K22 => ?_)
    clear K21
    refine wpList_nil ?_
    show Q .normal _ _
    have n1 : (S1 t).l ≠ 0 := by rw [kl1]; exact n0
    have Lt := L1.loc t (unhide HT).1
    have Kk := Lt.kl n1
    have bt : G1.b t = false := by rw [b1]; exact (unhide HT).2
    have en := Lt.en
    rw [bt] at en
    refine unhide HN _ _ S1 G1 _ (K22.less ⟨rfl, rfl, trivial⟩) (unhide PH) L1 lk1 Kk.th (by rw [Kk.b, bt, i1.1]; rfl) ?_ (unhide KP) ?_
    · have q : G1.fi t = G1.fi (S1 t).l := (en.l1 n1).1
      rw [← q, lk1.fi]
    · rw [← lk1.c t]; exact L1.cl (unhide HT).1
set_option maxHeartbeats 4000000 in
theorem firstL {p g n cap room t : Nat} {T : Tr} {S : Ss} {G : Gh} {w : World} (h : Pool w p g n cap room S) (L : Lc S n T G) (ht : Th T t) (hb : G.b t = false) :
    Calls Try.prog 73 #[.pointer (some ⟨p, 0, none⟩), .int .i64 (t : Int)] w fun e w' => e = .returned (.int .i64 (G.fi t : Int)) ∧ Keep [g] w w' ∧ ∃ S1 G1, Pool w' p g n cap room S1 ∧ Lc S1 n T G1 ∧ Fra T (G.fi t) S G S1 G1 ∧ Top S1 (G.fi t) ∧ Idle S1 (G.fi t) := by
  refine callsK (n := 29) (L := [(0, .pointer (some ⟨p, 0, none⟩)), (1, .int .i64 (t : Int))]) Try.func73 rfl Try.ntmps73 rfl rfl (fun a0 K0 => ?_)
  refine seqR ?_
  refine lac K0 rfl rfl (want_none rfl) rfl (fun a1 K1 => ?_)
  refine nilN ?_
  have K2 : Kn _ 29 [(0, .pointer (some ⟨p, 0, none⟩)), (1, .int .i64 (t : Int))] := K1.less ⟨rfl, rfl, trivial⟩
  clear K1
  refine seqN ?_
  refine wp_block ?_
  refine wp_loop_ghost (fun k a w' => ∃ S1 G1 t', Kn a 29 [(0, .pointer (some ⟨p, 0, none⟩)), (1, .int .i64 ((t' : Nat) : Int))] ∧ Pool w' p g n cap room S1 ∧ Lc S1 n T G1 ∧ Like S S1 G G1 ∧ Th T t' ∧ G1.b t' = false ∧ G1.fi t' = G.fi t ∧ Keep [g] w w' ∧ k = (S1 t').sm.c.toNat) _ ⟨S, G, t, K2, h, L, Like.refl, ht, hb, rfl, Keep.refl _ _, rfl⟩ ?_
  rintro k a w1 ⟨S1, G1, t', K1, P1, L1, lk1, ht1, hb1, hf1, Q1, hk⟩
  refine round73 K1 P1 L1 Q1 ht1 hb1 (fun a' W S2 G2 t2 K2 P2 L2 lk2 ht2 hb2 hf2 Q2 hd => ?_) (fun a' W n0 KZ P2 Q2 => ?_)
  · have := L1.cn t'
    have := L2.cn t2
    exact ⟨_, by omega, S2, G2, t2, K2, P2, L2, lk1.trans lk2, ht2, hb2, hf2.trans hf1, Q2, rfl⟩
  · rw [hf1] at n0
    rw [n0]
    show Code.wp _ _ _ _ _
    have PH := hide P2
    have KP := hide Q2
    clear P2 Q2 P1 Q1 hk
    have lt1 := L1.lt t' ht1
    have e1 : (0 : Int) ≤ (t' : Int) := by omega
    have e2 : (t' : Int) < (n : Int) := by omega
    have HA := hide (And.intro L1 (And.intro ht1 lk1))
    clear h L ht hb K0 K1 L1 lk1 ht1 hb1 hf1 n0 K2
    refine seqR ?_
    refine lmv KZ rfl rfl (want_none rfl) rfl rfl (fun a31 K31 => ?_)
    clear KZ
    refine lmv K31 rfl rfl (want_none rfl) rfl rfl (fun a32 K32 => ?_)
    clear K31
    refine lcall (f := 72) (args := #[.pointer (some ⟨p, 0, none⟩), .int .i64 (t' : Int)]) K32 rfl rfl (want_none rfl) (fun ev E => ?_) (splayL (unhide PH) (unhide HA).1 (unhide HA).2.1) (fun e W3 hR => ?_)
    · have EF := E.func; have E25 := E.tmp 25 _ rfl; have E26 := E.tmp 26 _ rfl; clear E; clear PH KP HA; go_simp
    obtain ⟨rfl, Q1, S3, G3, P1, L3, F3, T3, i3⟩ := hR
    have Q2 := hide ((unhide KP).tr Q1)
    clear PH KP Q1
    have PH := hide P1
    have KP := Q2
    clear Q2 P1
    refine ⟨_, rfl, fun a33 K33 => ?_⟩
    clear K32
    refine nilN ?_
    refine seqR ?_
    refine lmv K33 rfl rfl (want_none rfl) rfl rfl (fun a34 K34 => ?_)
    clear K33
    refine las K34 rfl rfl (want_none rfl) rfl rfl (fun a35 K35 => ?_)
    clear K34
    refine wpList_nil ?_
    refine wp_ret ?_
    obtain ⟨L1, ht1, lk1⟩ := unhide HA
    refine bodyPost_ret (v := .int .i64 (t' : Int)) ?_ K35.defers ⟨rfl, unhide KP, S3, G3, unhide PH, L3, lk1.fra.trans F3, T3, i3⟩
    have e4 := K35.has 4 _ rfl
    simp [results, Try.results73, go_sem, e4]
set_option maxHeartbeats 4000000 in
theorem round74 {p g n cap room t : Nat} {T : Tr} {S : Ss} {G : Gh} {Q : Exit → Act → World → Prop} {a0 : Act} {w0 w : World} (K0 : Kn a0 29 [(0, .pointer (some ⟨p, 0, none⟩)), (1, .int .i64 (t : Int))]) (h : Pool w p g n cap room S) (L : Lc S n T G) (hk : Keep [g] w0 w) (ht : Th T t) (hb : G.b t = false)
    (hN : ∀ a' W S1 G1 t', Kn a' 29 [(0, .pointer (some ⟨p, 0, none⟩)), (1, .int .i64 ((t' : Nat) : Int))] → Pool W p g n cap room S1 → Lc S1 n T G1 → Like S S1 G G1 → Th T t' → G1.b t' = false → G1.la t' = G.la t → Keep [g] w0 W → (S1 t').sm.c < (S t).sm.c → Q .normal a' W)
    (hX : ∀ a' W, G.la t = t → Kn a' 29 [(0, .pointer (some ⟨p, 0, none⟩)), (1, .int .i64 (t : Int))] → Pool W p g n cap room S → Keep [g] w0 W → Q (.exit 0) a' W) : (Code.seq (Code.seq (Code.region 1 (rg [1, 0, 0, 0, 0, 0] Try.f74).toArray false) (Code.cond (Operand.tmp 13) Code.skip (Code.exit 0))) (Code.block 1 (Code.seq (Code.region 2 (rg [1, 0, 0, 0, 1, 0, 0] Try.f74).toArray false) (Code.region 3 (rg [1, 0, 0, 0, 1, 0, 1] Try.f74).toArray false)))).wp Try.prog Q a0 w := by
  have PH := hide h
  have KP := hide hk
  have HN := hide hN
  have HX := hide hX
  have LH := hide L
  clear hN hX L h hk
  have lt1 := (unhide LH).lt t ht
  have e1 : (0 : Int) ≤ (t : Int) := by omega
  have e2 : (t : Int) < (n : Int) := by omega
  have HT := hide (And.intro ht hb)
  clear ht hb
  by_cases n0 : (S t).r = 0
  · have i0 : ((S t).r : Int) = 0 := by omega
    refine wp_seq ?_
    refine wp_seq ?_
    refine wp_region_lit ?_
    refine lmv K0 rfl rfl (want_none rfl) rfl rfl (fun a1 K1 => ?_)
    refine lnc K1 rfl rfl (want_none rfl) rfl rfl (fun a2 K2 => ?_)
    clear K1
    refine lfa K2 rfl rfl (want_none rfl) rfl rfl FA66_1 (fun a3 K3 => ?_)
    clear K2
    refine ltake (v := .slice (some ⟨g, 0, none⟩) n cap) (w' := w) K3 rfl rfl (want_none rfl) (fun ev E => ?_) (fun a4 K4 => ?_)
    · obtain ⟨c0, c1, _⟩ := (unhide PH).head; have E7 := E.tmp 7 _ rfl; clear E; clear PH KP HN HX LH HT; go_simp
    clear K3
    refine lmv K4 rfl rfl (want_none rfl) rfl rfl (fun a5 K5 => ?_)
    clear K4
    refine ltake (v := .pointer (some ⟨g, t * 14, none⟩)) (w' := w) K5 rfl rfl (want_none rfl) (fun ev E => ?_) (fun a6 K6 => ?_)
    · have E8 := E.tmp 8 _ rfl; have E9 := E.tmp 9 _ rfl; clear E; clear PH KP HN HX LH HT; go_simp
    clear K5
    refine lfa K6 rfl rfl (want_none rfl) rfl rfl FA75_2 (fun a7 K7 => ?_)
    clear K6
    refine ltake (v := .int .i64 ((S t).r : Int)) (w' := w) K7 rfl rfl (want_none rfl) (fun ev E => ?_) (fun a8 K8 => ?_)
    · obtain ⟨s0, s1, s2, s3, s4, s5, s6, s7, s8, s9, s10, s11, s12, s13⟩ := (unhide PH).slot (t := t) (by assumption); have E11 := E.tmp 11 _ rfl; clear E; clear PH KP HN HX LH HT; go_simp
    clear K7
    refine ltake (v := .bool false) (w' := w) K8 rfl rfl (want_none rfl) (fun ev E => ?_) (fun a9 K9 => ?_)
    · have EC := E.const; have E12 := E.tmp 12 _ rfl; clear E; clear PH KP HN HX LH HT; go_simp
    clear K8
    refine wpList_nil ?_
    show Code.wp _ _ _ _ _
    refine knCond (b := false) K9 rfl ?_
    refine wp_exit ?_
    have L := unhide LH
    have en := (L.loc t (unhide HT).1).en
    rw [(unhide HT).2] at en
    exact unhide HX _ _ (en.r0 n0) (K9.less ⟨rfl, rfl, trivial⟩) (unhide PH) (unhide KP)
  · have i0 : ¬ ((S t).r : Int) = 0 := by omega
    refine seqN ?_
    refine seqR ?_
    refine lmv K0 rfl rfl (want_none rfl) rfl rfl (fun a1 K1 => ?_)
    refine lnc K1 rfl rfl (want_none rfl) rfl rfl (fun a2 K2 => ?_)
    clear K1
    refine lfa K2 rfl rfl (want_none rfl) rfl rfl FA66_1 (fun a3 K3 => ?_)
    clear K2
    refine ltake (v := .slice (some ⟨g, 0, none⟩) n cap) (w' := w) K3 rfl rfl (want_none rfl) (fun ev E => ?_) (fun a4 K4 => ?_)
    · obtain ⟨c0, c1, _⟩ := (unhide PH).head; have E7 := E.tmp 7 _ rfl; clear E; clear PH KP HN HX LH HT; go_simp
    clear K3
    refine lmv K4 rfl rfl (want_none rfl) rfl rfl (fun a5 K5 => ?_)
    clear K4
    refine ltake (v := .pointer (some ⟨g, t * 14, none⟩)) (w' := w) K5 rfl rfl (want_none rfl) (fun ev E => ?_) (fun a6 K6 => ?_)
    · have E8 := E.tmp 8 _ rfl; have E9 := E.tmp 9 _ rfl; clear E; clear PH KP HN HX LH HT; go_simp
    clear K5
    refine lfa K6 rfl rfl (want_none rfl) rfl rfl FA75_2 (fun a7 K7 => ?_)
    clear K6
    refine ltake (v := .int .i64 ((S t).r : Int)) (w' := w) K7 rfl rfl (want_none rfl) (fun ev E => ?_) (fun a8 K8 => ?_)
    · obtain ⟨s0, s1, s2, s3, s4, s5, s6, s7, s8, s9, s10, s11, s12, s13⟩ := (unhide PH).slot (t := t) (by assumption); have E11 := E.tmp 11 _ rfl; clear E; clear PH KP HN HX LH HT; go_simp
    clear K7
    refine ltake (v := .bool true) (w' := w) K8 rfl rfl (want_none rfl) (fun ev E => ?_) (fun a9 K9 => ?_)
    · have EC := E.const; have E12 := E.tmp 12 _ rfl; clear E; clear PH KP HN HX LH HT; go_simp
    clear K8
    refine nilN ?_
    refine knCond (b := true) K9 rfl (wp_skip ?_)
    show Code.wp _ _ _ _ _
    have K10 : Kn _ 29 [(0, .pointer (some ⟨p, 0, none⟩)), (1, .int .i64 (t : Int))] := K9.less ⟨rfl, rfl, trivial⟩
    clear K9
    clear i0
    refine wp_block ?_
    refine seqR ?_
    refine lmv K10 rfl rfl (want_none rfl) rfl rfl (fun a11 K11 => ?_)
    clear K10
    refine lmv K11 rfl rfl (want_none rfl) rfl rfl (fun a12 K12 => ?_)
    clear K11
    refine lcall (f := 88) (args := #[.pointer (some ⟨p, 0, none⟩), .int .i64 (t : Int)]) K12 rfl rfl (want_none rfl) (fun ev E => ?_) (settleF (unhide PH) (unhide LH) (unhide HT).1) (fun e W5 hR => ?_)
    · have EF := E.func; have E14 := E.tmp 14 _ rfl; have E15 := E.tmp 15 _ rfl; clear E; clear PH KP HN HX LH HT; go_simp
    obtain ⟨rfl, Q1, S1, G1, P1, L1, lk1, i1, kl1, kr1, b1⟩ := hR
    have Q2 := hide ((unhide KP).tr Q1)
    clear PH KP Q1
    have PH := hide P1
    have KP := Q2
    clear Q2 P1
    refine ⟨_, rfl, fun a13 K13 => ?_⟩
    clear K12
    refine nilN ?_
    refine wp_region_lit ?_
    refine lmv K13 rfl rfl (want_none rfl) rfl rfl (fun a14 K14 => ?_)
    clear K13
    refine lnc K14 rfl rfl (want_none rfl) rfl rfl (fun a15 K15 => ?_)
    clear K14
    refine lfa K15 rfl rfl (want_none rfl) rfl rfl FA66_1 (fun a16 K16 => ?_)
    clear K15
    refine ltake (v := .slice (some ⟨g, 0, none⟩) n cap) (w' := W5) K16 rfl rfl (want_none rfl) (fun ev E => ?_) (fun a17 K17 => ?_)
    · obtain ⟨c0, c1, _⟩ := (unhide PH).head; have E19 := E.tmp 19 _ rfl; clear E; clear PH KP HN HX LH HT; clear L1 lk1 i1 kl1 kr1 b1; go_simp
    clear K16
    refine lmv K17 rfl rfl (want_none rfl) rfl rfl (fun a18 K18 => ?_)
    clear K17
    refine ltake (v := .pointer (some ⟨g, t * 14, none⟩)) (w' := W5) K18 rfl rfl (want_none rfl) (fun ev E => ?_) (fun a19 K19 => ?_)
    · have E20 := E.tmp 20 _ rfl; have E21 := E.tmp 21 _ rfl; clear E; clear PH KP HN HX LH HT; clear L1 lk1 i1 kl1 kr1 b1; go_simp
    clear K18
    refine lfa K19 rfl rfl (want_none rfl) rfl rfl FA75_2 (fun a20 K20 => ?_)
    clear K19
    refine ltake (v := .int .i64 ((S1 t).r : Int)) (w' := W5) K20 rfl rfl (want_none rfl) (fun ev E => ?_) (fun a21 K21 => ?_)
    · obtain ⟨s0, s1, s2, s3, s4, s5, s6, s7, s8, s9, s10, s11, s12, s13⟩ := (unhide PH).slot (t := t) (by assumption); have E23 := E.tmp 23 _ rfl; clear E; clear PH KP HN HX LH HT; clear L1 lk1 i1 kl1 kr1 b1; go_simp
    clear K20
    refine las K21 rfl rfl (want_none rfl) rfl rfl (fun a22 K22 => ?_)
    clear K21
    refine wpList_nil ?_
    show Q .normal _ _
    have n1 : (S1 t).r ≠ 0 := by rw [kr1]; exact n0
    have Lt := L1.loc t (unhide HT).1
    have Kk := Lt.kr n1
    have bt : G1.b t = false := by rw [b1]; exact (unhide HT).2
    have en := Lt.en
    rw [bt] at en
    refine unhide HN _ _ S1 G1 _ (K22.less ⟨rfl, rfl, trivial⟩) (unhide PH) L1 lk1 Kk.th (by rw [Kk.b, bt, i1.1]; rfl) ?_ (unhide KP) ?_
    · have q : G1.la t = G1.la (S1 t).r := (en.r1 n1).1
      rw [← q, lk1.la]
    · rw [← lk1.c t]; exact L1.cr (unhide HT).1
set_option maxHeartbeats 4000000 in
theorem lastL {p g n cap room t : Nat} {T : Tr} {S : Ss} {G : Gh} {w : World} (h : Pool w p g n cap room S) (L : Lc S n T G) (ht : Th T t) (hb : G.b t = false) :
    Calls Try.prog 74 #[.pointer (some ⟨p, 0, none⟩), .int .i64 (t : Int)] w fun e w' => e = .returned (.int .i64 (G.la t : Int)) ∧ Keep [g] w w' ∧ ∃ S1 G1, Pool w' p g n cap room S1 ∧ Lc S1 n T G1 ∧ Fra T (G.la t) S G S1 G1 ∧ Top S1 (G.la t) ∧ Idle S1 (G.la t) := by
  refine callsK (n := 29) (L := [(0, .pointer (some ⟨p, 0, none⟩)), (1, .int .i64 (t : Int))]) Try.func74 rfl Try.ntmps74 rfl rfl (fun a0 K0 => ?_)
  refine seqR ?_
  refine lac K0 rfl rfl (want_none rfl) rfl (fun a1 K1 => ?_)
  refine nilN ?_
  have K2 : Kn _ 29 [(0, .pointer (some ⟨p, 0, none⟩)), (1, .int .i64 (t : Int))] := K1.less ⟨rfl, rfl, trivial⟩
  clear K1
  refine seqN ?_
  refine wp_block ?_
  refine wp_loop_ghost (fun k a w' => ∃ S1 G1 t', Kn a 29 [(0, .pointer (some ⟨p, 0, none⟩)), (1, .int .i64 ((t' : Nat) : Int))] ∧ Pool w' p g n cap room S1 ∧ Lc S1 n T G1 ∧ Like S S1 G G1 ∧ Th T t' ∧ G1.b t' = false ∧ G1.la t' = G.la t ∧ Keep [g] w w' ∧ k = (S1 t').sm.c.toNat) _ ⟨S, G, t, K2, h, L, Like.refl, ht, hb, rfl, Keep.refl _ _, rfl⟩ ?_
  rintro k a w1 ⟨S1, G1, t', K1, P1, L1, lk1, ht1, hb1, hf1, Q1, hk⟩
  refine round74 K1 P1 L1 Q1 ht1 hb1 (fun a' W S2 G2 t2 K2 P2 L2 lk2 ht2 hb2 hf2 Q2 hd => ?_) (fun a' W n0 KZ P2 Q2 => ?_)
  · have := L1.cn t'
    have := L2.cn t2
    exact ⟨_, by omega, S2, G2, t2, K2, P2, L2, lk1.trans lk2, ht2, hb2, hf2.trans hf1, Q2, rfl⟩
  · rw [hf1] at n0
    rw [n0]
    show Code.wp _ _ _ _ _
    have PH := hide P2
    have KP := hide Q2
    clear P2 Q2 P1 Q1 hk
    have lt1 := L1.lt t' ht1
    have e1 : (0 : Int) ≤ (t' : Int) := by omega
    have e2 : (t' : Int) < (n : Int) := by omega
    have HA := hide (And.intro L1 (And.intro ht1 lk1))
    clear h L ht hb K0 K1 L1 lk1 ht1 hb1 hf1 n0 K2
    refine seqR ?_
    refine lmv KZ rfl rfl (want_none rfl) rfl rfl (fun a31 K31 => ?_)
    clear KZ
    refine lmv K31 rfl rfl (want_none rfl) rfl rfl (fun a32 K32 => ?_)
    clear K31
    refine lcall (f := 72) (args := #[.pointer (some ⟨p, 0, none⟩), .int .i64 (t' : Int)]) K32 rfl rfl (want_none rfl) (fun ev E => ?_) (splayL (unhide PH) (unhide HA).1 (unhide HA).2.1) (fun e W3 hR => ?_)
    · have EF := E.func; have E25 := E.tmp 25 _ rfl; have E26 := E.tmp 26 _ rfl; clear E; clear PH KP HA; go_simp
    obtain ⟨rfl, Q1, S3, G3, P1, L3, F3, T3, i3⟩ := hR
    have Q2 := hide ((unhide KP).tr Q1)
    clear PH KP Q1
    have PH := hide P1
    have KP := Q2
    clear Q2 P1
    refine ⟨_, rfl, fun a33 K33 => ?_⟩
    clear K32
    refine nilN ?_
    refine seqR ?_
    refine lmv K33 rfl rfl (want_none rfl) rfl rfl (fun a34 K34 => ?_)
    clear K33
    refine las K34 rfl rfl (want_none rfl) rfl rfl (fun a35 K35 => ?_)
    clear K34
    refine wpList_nil ?_
    refine wp_ret ?_
    obtain ⟨L1, ht1, lk1⟩ := unhide HA
    refine bodyPost_ret (v := .int .i64 (t' : Int)) ?_ K35.defers ⟨rfl, unhide KP, S3, G3, unhide PH, L3, lk1.fra.trans F3, T3, i3⟩
    have e4 := K35.has 4 _ rfl
    simp [results, Try.results74, go_sem, e4]
end Go.Proofs.Ytjnkgakajenoaaa

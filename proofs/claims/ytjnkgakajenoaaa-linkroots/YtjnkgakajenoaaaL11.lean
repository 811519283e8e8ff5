/- The program's forest (part 11 of its contracts and the laws' common texts). -/
import Derived.Test.YtjnkgakajenoaaaL10
import Derived.Test.YtjnkgakajenoaaaL9
import Derived.Below
import Derived.BigQuiet
import Derived.Deep.AppendLies
import Derived.Deep.DeepCutAuto
import Derived.Deep.LoopGhost
import Derived.Deep.OwnRows
import Derived.Deep.QuietTactic
import Derived.Deep.RegionHeld3
import Derived.Deep.RegionWith
import Derived.Maps.AppendAt
import Derived.RowKit3
import Derived.WalkKit
import Derived.WalkSmall
import Derived.WalkSpells
import Derived.Test.YtjnkgakajenoaaaL2
import Derived.Test.YtjnkgakajenoaaaRows
import Derived.OpenShut
import Derived.ProofKit
import Derived.Deep.Slices
import Derived.Deep.Strs
import Derived.Lib.SmallJoins
/- The program's forest: Check. -/

namespace Go.Proofs.Ytjnkgakajenoaaa
open Go.RowKit Go.Arb
set_option linter.unusedVariables false
set_option linter.unusedSimpArgs false
set_option maxRecDepth 100000

def O78_5_0 : Oper := ⟨some 16, .move (.tmp 0), 23, "check.go:49", #[], none⟩
def O78_5_1 : Oper := ⟨some 17, .nilCheck (.tmp 16), 0, "check.go:49", #[⟨0, .data⟩], none⟩
def O78_5_2 : Oper := ⟨some 18, .fieldAddr 66 (.tmp 17) 1, 0, "check.go:49", #[⟨1, .data⟩], none⟩
def O78_5_3 : Oper := ⟨some 19, .load 64 (.tmp 18), 64, "check.go:49", #[⟨2, .data⟩], none⟩
def O78_5_4 : Oper := ⟨some 20, .move (.tmp 4), 3, "check.go:49", #[], none⟩
def O78_5_5 : Oper := ⟨some 21, .indexAddr 64 (.tmp 19) (.tmp 20), 0, "check.go:49", #[⟨3, .data⟩, ⟨4, .data⟩], none⟩
def O78_5_6 : Oper := ⟨some 22, .fieldAddr 75 (.tmp 21) 6, 0, "check.go:49", #[⟨5, .data⟩], none⟩
def O78_5_7 : Oper := ⟨some 23, .fieldAddr 34 (.tmp 22) 0, 0, "check.go:49", #[⟨6, .data⟩], none⟩
def O78_5_8 : Oper := ⟨some 24, .load 3 (.tmp 23), 3, "check.go:49", #[⟨7, .data⟩], none⟩
def O78_5_9 : Oper := ⟨some 25, .binOp .neq 3 (.tmp 24) (.const (.int .i64 0)) 3, 4, "check.go:49", #[⟨8, .data⟩], none⟩
def O78_5_10 : Oper := ⟨some 26, .move (.tmp 25), 4, "check.go:49", #[⟨9, .data⟩], none⟩
def O78_5_11 : Oper := ⟨some 27, .move (.tmp 0), 23, "check.go:49", #[⟨10, .guard⟩], some (10, true)⟩
def O78_5_12 : Oper := ⟨some 28, .nilCheck (.tmp 27), 0, "check.go:49", #[⟨11, .data⟩, ⟨10, .guard⟩], some (10, true)⟩
def O78_5_13 : Oper := ⟨some 29, .fieldAddr 66 (.tmp 28) 1, 0, "check.go:49", #[⟨12, .data⟩, ⟨10, .guard⟩], some (10, true)⟩
def O78_5_14 : Oper := ⟨some 30, .load 64 (.tmp 29), 64, "check.go:49", #[⟨13, .data⟩, ⟨10, .guard⟩], some (10, true)⟩
def O78_5_15 : Oper := ⟨some 31, .move (.tmp 4), 3, "check.go:49", #[⟨10, .guard⟩], some (10, true)⟩
def O78_5_16 : Oper := ⟨some 32, .indexAddr 64 (.tmp 30) (.tmp 31), 0, "check.go:49", #[⟨14, .data⟩, ⟨15, .data⟩, ⟨10, .guard⟩], some (10, true)⟩
def O78_5_17 : Oper := ⟨some 33, .fieldAddr 75 (.tmp 32) 7, 0, "check.go:49", #[⟨16, .data⟩, ⟨10, .guard⟩], some (10, true)⟩
def O78_5_18 : Oper := ⟨some 34, .load 73 (.tmp 33), 73, "check.go:49", #[⟨17, .data⟩, ⟨10, .guard⟩], some (10, true)⟩
def O78_5_19 : Oper := ⟨some 35, .move (.tmp 3), 87, "check.go:49", #[⟨10, .guard⟩], some (10, true)⟩
def O78_5_20 : Oper := ⟨some 36, .move (.tmp 4), 3, "check.go:49", #[⟨10, .guard⟩], some (10, true)⟩
def O78_5_21 : Oper := ⟨some 37, .indexAddr 87 (.tmp 35) (.tmp 36), 0, "check.go:49", #[⟨19, .data⟩, ⟨20, .data⟩, ⟨10, .guard⟩], some (10, true)⟩
def O78_5_22 : Oper := ⟨some 38, .load 73 (.tmp 37), 73, "check.go:49", #[⟨21, .data⟩, ⟨10, .guard⟩], some (10, true)⟩
def O78_5_23 : Oper := ⟨some 39, .binOp .eql 73 (.tmp 34) (.tmp 38) 73, 4, "check.go:49", #[⟨18, .data⟩, ⟨22, .data⟩, ⟨10, .guard⟩], some (10, true)⟩
def O78_5_24 : Oper := ⟨some 40, .move (.tmp 39), 4, "check.go:49", #[⟨23, .data⟩, ⟨10, .chain⟩, ⟨10, .guard⟩], some (10, true)⟩
def O78_5_25 : Oper := ⟨some 41, .move (.tmp 0), 23, "check.go:49", #[⟨24, .guard⟩], some (24, true)⟩
def O78_5_26 : Oper := ⟨some 42, .move (.tmp 4), 3, "check.go:49", #[⟨24, .guard⟩], some (24, true)⟩
def O78_5_27 : Oper := ⟨some 43, .call { callee := (.value (.func 93)), args := #[(.tmp 41), (.tmp 42)], argTypes := #[23, 3] }, 4, "check.go:49", #[⟨25, .data⟩, ⟨26, .data⟩, ⟨24, .chain⟩, ⟨24, .guard⟩], some (24, true)⟩
def O78_5_28 : Oper := ⟨some 44, .pick (.tmp 40) (.tmp 43) (.const (.bool false)), 4, "check.go:49", #[⟨24, .data⟩, ⟨27, .data⟩, ⟨10, .guard⟩], some (10, true)⟩
def O78_5_29 : Oper := ⟨some 45, .unOp .not 4 (.tmp 44), 4, "check.go:49", #[⟨28, .data⟩, ⟨10, .guard⟩], some (10, true)⟩
def O78_5_30 : Oper := ⟨some 46, .pick (.tmp 26) (.tmp 45) (.const (.bool false)), 4, "check.go:49", #[⟨10, .data⟩, ⟨29, .data⟩], none⟩
def OPS78_5 : List Oper := [O78_5_0, O78_5_1, O78_5_2, O78_5_3, O78_5_4, O78_5_5, O78_5_6, O78_5_7, O78_5_8, O78_5_9, O78_5_10, O78_5_11, O78_5_12, O78_5_13, O78_5_14, O78_5_15, O78_5_16, O78_5_17, O78_5_18, O78_5_19, O78_5_20, O78_5_21, O78_5_22, O78_5_23, O78_5_24, O78_5_25, O78_5_26, O78_5_27, O78_5_28, O78_5_29, O78_5_30]
theorem NS78_5 : Region.noSelect OPS78_5.toArray = true := by kernel_rfl
set_option maxHeartbeats 4000000 in
theorem round78 {p g n cap room t hb : Nat} {T : Tr} {S : Ss} {G : Gh} {Q : Exit → Act → World → Prop} {a0 : Act} {w w1 : World} (K0 : Kn a0 47 [(0, .pointer (some ⟨p, 0, none⟩)), (3, .slice (some ⟨hb, 0, none⟩) n n), (4, .int .i64 (t : Int))]) (F0 : Fr w w1 p g n cap room S [(hb, .cells (hsA (HA S n) n) 73 (0, 0))]) (L : Lc S n T G) (htn : t ≤ n)
    (hN : ∀ a' W, t < n → Kn a' 47 [(0, .pointer (some ⟨p, 0, none⟩)), (3, .slice (some ⟨hb, 0, none⟩) n n), (4, .int .i64 ((t + 1 : Nat) : Int))] → Fr w W p g n cap room S [(hb, .cells (hsA (HA S n) n) 73 (0, 0))] → Q .normal a' W)
    (hX : ∀ a' W, t = n → Kn a' 47 [(0, .pointer (some ⟨p, 0, none⟩)), (3, .slice (some ⟨hb, 0, none⟩) n n), (4, .int .i64 (t : Int))] → Fr w W p g n cap room S [(hb, .cells (hsA (HA S n) n) 73 (0, 0))] → Q (.exit 0) a' W) : (Code.seq (Code.seq (Code.region 3 (rg [1, 1, 0, 1, 0, 0, 0, 0] Try.f78).toArray false) (Code.cond (Operand.tmp 13) Code.skip (Code.exit 0))) (Code.seq (Code.block 1 (Code.seq (Code.region 5 OPS78_5.toArray true) (Code.cond (Operand.tmp 46) (Code.seq (Code.region 6 (rg [1, 1, 0, 1, 0, 0, 1, 0, 0, 1, 0, 0] Try.f78).toArray false) Code.ret) Code.skip))) (Code.region 4 (rg [1, 1, 0, 1, 0, 0, 1, 1] Try.f78).toArray false))).wp Try.prog Q a0 w1 := by
  have FH := hide F0
  have HN := hide hN
  have HX := hide hX
  have LH := hide L
  have nnn := L.nn
  have hTn := L.ft.n
  have wr : IntKind.i64.wrap ((t : Int) + 1) = ((t + 1 : Nat) : Int) := by rw [IntWalk.i64_in _ (by omega)]; omega
  have WR := hide wr
  clear hN hX L F0 wr nnn hTn
  by_cases n0 : n ≤ t
  · have i0 : ¬ (t : Int) < (n : Int) := by omega
    have i1 : t = n := by omega
    have I1 := hide i1
    clear i1
    refine wp_seq ?_
    refine wp_seq ?_
    refine wp_region_lit ?_
    refine lmv K0 rfl rfl (want_none rfl) rfl rfl (fun a1 K1 => ?_)
    refine lmv K1 rfl rfl (want_none rfl) rfl rfl (fun a2 K2 => ?_)
    clear K1
    refine lnc K2 rfl rfl (want_none rfl) rfl rfl (fun a3 K3 => ?_)
    clear K2
    refine lfa K3 rfl rfl (want_none rfl) rfl rfl FA66_1 (fun a4 K4 => ?_)
    clear K3
    refine ltake (v := .slice (some ⟨g, 0, none⟩) n cap) (w' := w1) K4 rfl rfl (want_none rfl) (fun ev E => ?_) (fun a5 K5 => ?_)
    · obtain ⟨c0, c1, _⟩ := (unhide FH).po.head; have E10 := E.tmp 10 _ rfl; clear E; clear FH HN HX LH WR I1; (try simp only [slZ, smZ, putF, slV, smL, msL] at *); go_simp
    clear K4
    refine ltake (v := .int .i64 (n : Int)) (w' := w1) K5 rfl rfl (want_none rfl) (fun ev E => ?_) (fun a6 K6 => ?_)
    · have E11 := E.tmp 11 _ rfl; clear E; clear FH HN HX LH WR I1; (try simp only [slZ, smZ, putF, slV, smL, msL] at *); go_simp
    clear K5
    refine ltake (v := .bool false) (w' := w1) K6 rfl rfl (want_none rfl) (fun ev E => ?_) (fun a7 K7 => ?_)
    · have E7 := E.tmp 7 _ rfl; have E12 := E.tmp 12 _ rfl; clear E; clear FH HN HX LH WR I1; (try simp only [slZ, smZ, putF, slV, smL, msL] at *); go_simp
    clear K6
    refine wpList_nil ?_
    show Code.wp _ _ _ _ _
    refine knCond (b := false) K7 rfl ?_
    refine wp_exit ?_
    exact unhide HX _ _ (unhide I1) (K7.less ⟨rfl, rfl, rfl, trivial⟩) (unhide FH)
  have i0 : (t : Int) < (n : Int) := by omega
  have lt1 : t < n := by omega
  have e1 : (0 : Int) ≤ (t : Int) := by omega
  by_cases ht : Th T t
  · have hc : ¬ (S t).sm.c = 0 := (unhide LH).th_c.1 ht
    have HT := hide ht
    have HH := hide ((unhide LH).ha_all ht)
    clear ht
    refine seqN ?_
    refine seqR ?_
    refine lmv K0 rfl rfl (want_none rfl) rfl rfl (fun a1 K1 => ?_)
    refine lmv K1 rfl rfl (want_none rfl) rfl rfl (fun a2 K2 => ?_)
    clear K1
    refine lnc K2 rfl rfl (want_none rfl) rfl rfl (fun a3 K3 => ?_)
    clear K2
    refine lfa K3 rfl rfl (want_none rfl) rfl rfl FA66_1 (fun a4 K4 => ?_)
    clear K3
    refine ltake (v := .slice (some ⟨g, 0, none⟩) n cap) (w' := w1) K4 rfl rfl (want_none rfl) (fun ev E => ?_) (fun a5 K5 => ?_)
    · obtain ⟨c0, c1, _⟩ := (unhide FH).po.head; have E10 := E.tmp 10 _ rfl; clear E; clear FH HN HX LH WR HT; (try simp only [slZ, smZ, putF, slV, smL, msL] at *); go_simp
    clear K4
    refine ltake (v := .int .i64 (n : Int)) (w' := w1) K5 rfl rfl (want_none rfl) (fun ev E => ?_) (fun a6 K6 => ?_)
    · have E11 := E.tmp 11 _ rfl; clear E; clear FH HN HX LH WR HT; (try simp only [slZ, smZ, putF, slV, smL, msL] at *); go_simp
    clear K5
    refine ltake (v := .bool true) (w' := w1) K6 rfl rfl (want_none rfl) (fun ev E => ?_) (fun a7 K7 => ?_)
    · have E7 := E.tmp 7 _ rfl; have E12 := E.tmp 12 _ rfl; clear E; clear FH HN HX LH WR HT; (try simp only [slZ, smZ, putF, slV, smL, msL] at *); go_simp
    clear K6
    refine nilN ?_
    refine knCond (b := true) K7 rfl (wp_skip ?_)
    show Code.wp _ _ _ _ _
    have K8 : Kn _ 47 [(0, .pointer (some ⟨p, 0, none⟩)), (3, .slice (some ⟨hb, 0, none⟩) n n), (4, .int .i64 (t : Int))] := K7.less ⟨rfl, rfl, rfl, trivial⟩
    clear K7
    refine seqN ?_
    refine blockN ?_
    refine seqN ?_
    have FD := (unhide FH).drew
    obtain ⟨V, hV⟩ : ∃ V : (Unit) → Nat → Value, V = fun gg k => ([.pointer (some ⟨p, 0, none⟩), .pointer (some ⟨p, 0, none⟩), .pointer (some ⟨p, 1, none⟩), .slice (some ⟨g, 0, none⟩) n cap, .int .i64 (t : Int), .pointer (some ⟨g, t * 14, none⟩), .pointer (some ⟨g, t * 14 + 6, none⟩), .pointer (some ⟨g, t * 14 + 6, none⟩), .int .i64 (S t).sm.c, .bool true, .bool true, .pointer (some ⟨p, 0, none⟩), .pointer (some ⟨p, 0, none⟩), .pointer (some ⟨p, 1, none⟩), .slice (some ⟨g, 0, none⟩) n cap, .int .i64 (t : Int), .pointer (some ⟨g, t * 14, none⟩), .pointer (some ⟨g, t * 14 + 10, none⟩), .agg #[.int .i64 (S t).hg.c, .int .i64 (S t).hg.w], .slice (some ⟨hb, 0, none⟩) n n, .int .i64 (t : Int), .pointer (some ⟨hb, t * 2, none⟩), .agg #[.int .i64 (S t).hg.c, .int .i64 (S t).hg.w], .bool true, .bool true, .pointer (some ⟨p, 0, none⟩), .int .i64 (t : Int), .bool true, .bool true, .bool false, .bool false] : List Value).getD k undef := ⟨_, rfl⟩
    have vv : ∀ gg k, V gg k = ([.pointer (some ⟨p, 0, none⟩), .pointer (some ⟨p, 0, none⟩), .pointer (some ⟨p, 1, none⟩), .slice (some ⟨g, 0, none⟩) n cap, .int .i64 (t : Int), .pointer (some ⟨g, t * 14, none⟩), .pointer (some ⟨g, t * 14 + 6, none⟩), .pointer (some ⟨g, t * 14 + 6, none⟩), .int .i64 (S t).sm.c, .bool true, .bool true, .pointer (some ⟨p, 0, none⟩), .pointer (some ⟨p, 0, none⟩), .pointer (some ⟨p, 1, none⟩), .slice (some ⟨g, 0, none⟩) n cap, .int .i64 (t : Int), .pointer (some ⟨g, t * 14, none⟩), .pointer (some ⟨g, t * 14 + 10, none⟩), .agg #[.int .i64 (S t).hg.c, .int .i64 (S t).hg.w], .slice (some ⟨hb, 0, none⟩) n n, .int .i64 (t : Int), .pointer (some ⟨hb, t * 2, none⟩), .agg #[.int .i64 (S t).hg.c, .int .i64 (S t).hg.w], .bool true, .bool true, .pointer (some ⟨p, 0, none⟩), .int .i64 (t : Int), .bool true, .bool true, .bool false, .bool false] : List Value).getD k undef := fun _ _ => by rw [hV]
    have HV := hide (And.intro True.intro hV)
    clear hV
    show (Code.region 5 OPS78_5.toArray true).wp _ _ _ _
    refine wp_region_once (A := Unit) (V := V) (J := fun gg f W => Fr w W p g n cap room S [(hb, .cells (hsA (HA S n) n) 73 (0, 0))]) () 31 (by kernel_rfl) (by kernel_rfl) K8 (FD) (by kernel_rfl) ?_ (fun gg f a9 W9 hf hk hj => ?_)
    · clear FH FD K8
      refine obsC (j := 1) (m := 30) rfl rfl ?_ ?_
      · exact ob_copy (o := O78_5_0) (u := 0) rfl rfl (fun gg => ⟨.inr ⟨by rw [vv]; rfl, by kernel_rfl⟩, trivial⟩) (.inl ⟨rfl, rfl⟩) (fun _ _ _ h => h)
      refine obsC (j := 2) (m := 29) rfl rfl ?_ ?_
      · refine ob_look (o := O78_5_1) rfl (fun gg => [(16, .pointer (some ⟨p, 0, none⟩))]) (fun gg => ⟨.inl ⟨0, by kernel_rfl, rfl, vv gg 0⟩, trivial⟩) (.inl ⟨rfl, rfl⟩) (fun _ _ _ h => h) (fun gg f W ev hJ hd hn E => ?_)
        rw [show V gg 1 = .pointer (some ⟨p, 0, none⟩) from vv gg 1]; clear hJ hd hn; have E16 := E.tmp 16 _ rfl; clear E; clear vv HV HN HX LH WR HT HH; unfold O78_5_1; (try simp only [slZ, smZ, putF, slV, smL, msL] at *); go_simp
      refine obsC (j := 3) (m := 28) rfl rfl ?_ ?_
      · refine ob_look (o := O78_5_2) rfl (fun gg => [(17, .pointer (some ⟨p, 0, none⟩))]) (fun gg => ⟨.inl ⟨1, by kernel_rfl, rfl, vv gg 1⟩, trivial⟩) (.inl ⟨rfl, rfl⟩) (fun _ _ _ h => h) (fun gg f W ev hJ hd hn E => ?_)
        rw [show V gg 2 = .pointer (some ⟨p, 1, none⟩) from vv gg 2]; clear hJ hd hn; have E17 := E.tmp 17 _ rfl; clear E; clear vv HV HN HX LH WR HT HH; unfold O78_5_2; (try simp only [slZ, smZ, putF, slV, smL, msL] at *); go_simp
      refine obsC (j := 4) (m := 27) rfl rfl ?_ ?_
      · refine ob_look (o := O78_5_3) rfl (fun gg => [(18, .pointer (some ⟨p, 1, none⟩))]) (fun gg => ⟨.inl ⟨2, by kernel_rfl, rfl, vv gg 2⟩, trivial⟩) (.inl ⟨rfl, rfl⟩) (fun _ _ _ h => h) (fun gg f W ev hJ hd hn E => ?_)
        rw [show V gg 3 = .slice (some ⟨g, 0, none⟩) n cap from vv gg 3]; have hJ9 := hJ; obtain ⟨c0, c1, _⟩ := hJ9.po.head; clear hJ9; clear hJ hd hn; have E18 := E.tmp 18 _ rfl; clear E; clear vv HV HN HX LH WR HT HH; unfold O78_5_3; (try simp only [slZ, smZ, putF, slV, smL, msL] at *); go_simp
      refine obsC (j := 5) (m := 26) rfl rfl ?_ ?_
      · exact ob_copy (o := O78_5_4) (u := 4) rfl rfl (fun gg => ⟨.inr ⟨by rw [vv]; rfl, by kernel_rfl⟩, trivial⟩) (.inl ⟨rfl, rfl⟩) (fun _ _ _ h => h)
      refine obsC (j := 6) (m := 25) rfl rfl ?_ ?_
      · refine ob_look (o := O78_5_5) rfl (fun gg => [(19, .slice (some ⟨g, 0, none⟩) n cap), (20, .int .i64 (t : Int))]) (fun gg => ⟨.inl ⟨3, by kernel_rfl, rfl, vv gg 3⟩, .inl ⟨4, by kernel_rfl, rfl, vv gg 4⟩, trivial⟩) (.inl ⟨rfl, rfl⟩) (fun _ _ _ h => h) (fun gg f W ev hJ hd hn E => ?_)
        rw [show V gg 5 = .pointer (some ⟨g, t * 14, none⟩) from vv gg 5]; clear hJ hd hn; have E19 := E.tmp 19 _ rfl; have E20 := E.tmp 20 _ rfl; clear E; clear vv HV HN HX LH WR HT HH; unfold O78_5_5; (try simp only [slZ, smZ, putF, slV, smL, msL] at *); go_simp
      refine obsC (j := 7) (m := 24) rfl rfl ?_ ?_
      · refine ob_look (o := O78_5_6) rfl (fun gg => [(21, .pointer (some ⟨g, t * 14, none⟩))]) (fun gg => ⟨.inl ⟨5, by kernel_rfl, rfl, vv gg 5⟩, trivial⟩) (.inl ⟨rfl, rfl⟩) (fun _ _ _ h => h) (fun gg f W ev hJ hd hn E => ?_)
        rw [show V gg 6 = .pointer (some ⟨g, t * 14 + 6, none⟩) from vv gg 6]; clear hJ hd hn; have E21 := E.tmp 21 _ rfl; clear E; clear vv HV HN HX LH WR HT HH; unfold O78_5_6; (try simp only [slZ, smZ, putF, slV, smL, msL] at *); go_simp
      refine obsC (j := 8) (m := 23) rfl rfl ?_ ?_
      · refine ob_look (o := O78_5_7) rfl (fun gg => [(22, .pointer (some ⟨g, t * 14 + 6, none⟩))]) (fun gg => ⟨.inl ⟨6, by kernel_rfl, rfl, vv gg 6⟩, trivial⟩) (.inl ⟨rfl, rfl⟩) (fun _ _ _ h => h) (fun gg f W ev hJ hd hn E => ?_)
        rw [show V gg 7 = .pointer (some ⟨g, t * 14 + 6, none⟩) from vv gg 7]; clear hJ hd hn; have E22 := E.tmp 22 _ rfl; clear E; clear vv HV HN HX LH WR HT HH; unfold O78_5_7; (try simp only [slZ, smZ, putF, slV, smL, msL] at *); go_simp
      refine obsC (j := 9) (m := 22) rfl rfl ?_ ?_
      · refine ob_look (o := O78_5_8) rfl (fun gg => [(23, .pointer (some ⟨g, t * 14 + 6, none⟩))]) (fun gg => ⟨.inl ⟨7, by kernel_rfl, rfl, vv gg 7⟩, trivial⟩) (.inl ⟨rfl, rfl⟩) (fun _ _ _ h => h) (fun gg f W ev hJ hd hn E => ?_)
        rw [show V gg 8 = .int .i64 (S t).sm.c from vv gg 8]; have hJ9 := hJ; obtain ⟨s0, s1, s2, s3, s4, s5, s6, s7, s8, s9, s10, s11, s12, s13⟩ := hJ9.po.slot (t := t) (by assumption); clear hJ9; clear hJ hd hn; have E23 := E.tmp 23 _ rfl; clear E; clear vv HV HN HX LH WR HT HH; unfold O78_5_8; (try simp only [slZ, smZ, putF, slV, smL, msL] at *); go_simp
      refine obsC (j := 10) (m := 21) rfl rfl ?_ ?_
      · refine ob_look (o := O78_5_9) rfl (fun gg => [(24, .int .i64 (S t).sm.c)]) (fun gg => ⟨.inl ⟨8, by kernel_rfl, rfl, vv gg 8⟩, trivial⟩) (.inl ⟨rfl, rfl⟩) (fun _ _ _ h => h) (fun gg f W ev hJ hd hn E => ?_)
        rw [show V gg 9 = .bool true from vv gg 9]; clear hJ hd hn; have EC := E.const; have E24 := E.tmp 24 _ rfl; clear E; clear vv HV HN HX LH WR HT HH; unfold O78_5_9; (try simp only [slZ, smZ, putF, slV, smL, msL] at *); go_simp
      refine obsC (j := 11) (m := 20) rfl rfl ?_ ?_
      · exact ob_copy (o := O78_5_10) (u := 25) rfl rfl (fun gg => ⟨.inl ⟨9, by kernel_rfl, rfl, (vv gg 9).trans (vv gg 10).symm⟩, trivial⟩) (.inl ⟨rfl, rfl⟩) (fun _ _ _ h => h)
      refine obsC (j := 12) (m := 19) rfl rfl ?_ ?_
      · exact ob_copy (o := O78_5_11) (u := 0) rfl rfl (fun gg => ⟨.inr ⟨by rw [vv]; rfl, by kernel_rfl⟩, trivial⟩) (.inr (.inl ⟨10, true, rfl, by kernel_rfl, ⟨26, rfl⟩, fun gg => ⟨true, vv gg 10, rfl⟩⟩)) (fun _ _ _ h => h)
      refine obsC (j := 13) (m := 18) rfl rfl ?_ ?_
      · refine ob_look (o := O78_5_12) rfl (fun gg => [(27, .pointer (some ⟨p, 0, none⟩))]) (fun gg => ⟨.inl ⟨11, by kernel_rfl, rfl, vv gg 11⟩, trivial⟩) (.inr (.inl ⟨10, true, rfl, by kernel_rfl, ⟨26, rfl⟩, fun gg => ⟨true, vv gg 10, rfl⟩⟩)) (fun _ _ _ h => h) (fun gg f W ev hJ hd hn E => ?_)
        rw [show V gg 12 = .pointer (some ⟨p, 0, none⟩) from vv gg 12]; clear hJ hd hn; have E27 := E.tmp 27 _ rfl; clear E; clear vv HV HN HX LH WR HT HH; unfold O78_5_12; (try simp only [slZ, smZ, putF, slV, smL, msL] at *); go_simp
      refine obsC (j := 14) (m := 17) rfl rfl ?_ ?_
      · refine ob_look (o := O78_5_13) rfl (fun gg => [(28, .pointer (some ⟨p, 0, none⟩))]) (fun gg => ⟨.inl ⟨12, by kernel_rfl, rfl, vv gg 12⟩, trivial⟩) (.inr (.inl ⟨10, true, rfl, by kernel_rfl, ⟨26, rfl⟩, fun gg => ⟨true, vv gg 10, rfl⟩⟩)) (fun _ _ _ h => h) (fun gg f W ev hJ hd hn E => ?_)
        rw [show V gg 13 = .pointer (some ⟨p, 1, none⟩) from vv gg 13]; clear hJ hd hn; have E28 := E.tmp 28 _ rfl; clear E; clear vv HV HN HX LH WR HT HH; unfold O78_5_13; (try simp only [slZ, smZ, putF, slV, smL, msL] at *); go_simp
      refine obsC (j := 15) (m := 16) rfl rfl ?_ ?_
      · refine ob_look (o := O78_5_14) rfl (fun gg => [(29, .pointer (some ⟨p, 1, none⟩))]) (fun gg => ⟨.inl ⟨13, by kernel_rfl, rfl, vv gg 13⟩, trivial⟩) (.inr (.inl ⟨10, true, rfl, by kernel_rfl, ⟨26, rfl⟩, fun gg => ⟨true, vv gg 10, rfl⟩⟩)) (fun _ _ _ h => h) (fun gg f W ev hJ hd hn E => ?_)
        rw [show V gg 14 = .slice (some ⟨g, 0, none⟩) n cap from vv gg 14]; have hJ9 := hJ; obtain ⟨c0, c1, _⟩ := hJ9.po.head; clear hJ9; clear hJ hd hn; have E29 := E.tmp 29 _ rfl; clear E; clear vv HV HN HX LH WR HT HH; unfold O78_5_14; (try simp only [slZ, smZ, putF, slV, smL, msL] at *); go_simp
      refine obsC (j := 16) (m := 15) rfl rfl ?_ ?_
      · exact ob_copy (o := O78_5_15) (u := 4) rfl rfl (fun gg => ⟨.inr ⟨by rw [vv]; rfl, by kernel_rfl⟩, trivial⟩) (.inr (.inl ⟨10, true, rfl, by kernel_rfl, ⟨26, rfl⟩, fun gg => ⟨true, vv gg 10, rfl⟩⟩)) (fun _ _ _ h => h)
      refine obsC (j := 17) (m := 14) rfl rfl ?_ ?_
      · refine ob_look (o := O78_5_16) rfl (fun gg => [(30, .slice (some ⟨g, 0, none⟩) n cap), (31, .int .i64 (t : Int))]) (fun gg => ⟨.inl ⟨14, by kernel_rfl, rfl, vv gg 14⟩, .inl ⟨15, by kernel_rfl, rfl, vv gg 15⟩, trivial⟩) (.inr (.inl ⟨10, true, rfl, by kernel_rfl, ⟨26, rfl⟩, fun gg => ⟨true, vv gg 10, rfl⟩⟩)) (fun _ _ _ h => h) (fun gg f W ev hJ hd hn E => ?_)
        rw [show V gg 16 = .pointer (some ⟨g, t * 14, none⟩) from vv gg 16]; clear hJ hd hn; have E30 := E.tmp 30 _ rfl; have E31 := E.tmp 31 _ rfl; clear E; clear vv HV HN HX LH WR HT HH; unfold O78_5_16; (try simp only [slZ, smZ, putF, slV, smL, msL] at *); go_simp
      refine obsC (j := 18) (m := 13) rfl rfl ?_ ?_
      · refine ob_look (o := O78_5_17) rfl (fun gg => [(32, .pointer (some ⟨g, t * 14, none⟩))]) (fun gg => ⟨.inl ⟨16, by kernel_rfl, rfl, vv gg 16⟩, trivial⟩) (.inr (.inl ⟨10, true, rfl, by kernel_rfl, ⟨26, rfl⟩, fun gg => ⟨true, vv gg 10, rfl⟩⟩)) (fun _ _ _ h => h) (fun gg f W ev hJ hd hn E => ?_)
        rw [show V gg 17 = .pointer (some ⟨g, t * 14 + 10, none⟩) from vv gg 17]; clear hJ hd hn; have E32 := E.tmp 32 _ rfl; clear E; clear vv HV HN HX LH WR HT HH; unfold O78_5_17; (try simp only [slZ, smZ, putF, slV, smL, msL] at *); go_simp
      refine obsC (j := 19) (m := 12) rfl rfl ?_ ?_
      · refine ob_look (o := O78_5_18) rfl (fun gg => [(33, .pointer (some ⟨g, t * 14 + 10, none⟩))]) (fun gg => ⟨.inl ⟨17, by kernel_rfl, rfl, vv gg 17⟩, trivial⟩) (.inr (.inl ⟨10, true, rfl, by kernel_rfl, ⟨26, rfl⟩, fun gg => ⟨true, vv gg 10, rfl⟩⟩)) (fun _ _ _ h => h) (fun gg f W ev hJ hd hn E => ?_)
        rw [show V gg 18 = .agg #[.int .i64 (S t).hg.c, .int .i64 (S t).hg.w] from vv gg 18]; have hJ9 := hJ; obtain ⟨s0, s1, s2, s3, s4, s5, s6, s7, s8, s9, s10, s11, s12, s13⟩ := hJ9.po.slot (t := t) (by assumption); clear hJ9; clear hJ hd hn; have E33 := E.tmp 33 _ rfl; clear E; clear vv HV HN HX LH WR HT HH; unfold O78_5_18; (try simp only [slZ, smZ, putF, slV, smL, msL] at *); go_simp
      refine obsC (j := 20) (m := 11) rfl rfl ?_ ?_
      · exact ob_copy (o := O78_5_19) (u := 3) rfl rfl (fun gg => ⟨.inr ⟨by rw [vv]; rfl, by kernel_rfl⟩, trivial⟩) (.inr (.inl ⟨10, true, rfl, by kernel_rfl, ⟨26, rfl⟩, fun gg => ⟨true, vv gg 10, rfl⟩⟩)) (fun _ _ _ h => h)
      refine obsC (j := 21) (m := 10) rfl rfl ?_ ?_
      · exact ob_copy (o := O78_5_20) (u := 4) rfl rfl (fun gg => ⟨.inr ⟨by rw [vv]; rfl, by kernel_rfl⟩, trivial⟩) (.inr (.inl ⟨10, true, rfl, by kernel_rfl, ⟨26, rfl⟩, fun gg => ⟨true, vv gg 10, rfl⟩⟩)) (fun _ _ _ h => h)
      refine obsC (j := 22) (m := 9) rfl rfl ?_ ?_
      · refine ob_look (o := O78_5_21) rfl (fun gg => [(35, .slice (some ⟨hb, 0, none⟩) n n), (36, .int .i64 (t : Int))]) (fun gg => ⟨.inl ⟨19, by kernel_rfl, rfl, vv gg 19⟩, .inl ⟨20, by kernel_rfl, rfl, vv gg 20⟩, trivial⟩) (.inr (.inl ⟨10, true, rfl, by kernel_rfl, ⟨26, rfl⟩, fun gg => ⟨true, vv gg 10, rfl⟩⟩)) (fun _ _ _ h => h) (fun gg f W ev hJ hd hn E => ?_)
        rw [show V gg 21 = .pointer (some ⟨hb, t * 2, none⟩) from vv gg 21]; clear hJ hd hn; have E35 := E.tmp 35 _ rfl; have E36 := E.tmp 36 _ rfl; clear E; clear vv HV HN HX LH WR HT HH; unfold O78_5_21; (try simp only [slZ, smZ, putF, slV, smL, msL] at *); go_simp
      refine obsC (j := 23) (m := 8) rfl rfl ?_ ?_
      · refine ob_look (o := O78_5_22) rfl (fun gg => [(37, .pointer (some ⟨hb, t * 2, none⟩))]) (fun gg => ⟨.inl ⟨21, by kernel_rfl, rfl, vv gg 21⟩, trivial⟩) (.inr (.inl ⟨10, true, rfl, by kernel_rfl, ⟨26, rfl⟩, fun gg => ⟨true, vv gg 10, rfl⟩⟩)) (fun _ _ _ h => h) (fun gg f W ev hJ hd hn E => ?_)
        rw [show V gg 22 = .agg #[.int .i64 (S t).hg.c, .int .i64 (S t).hg.w] from vv gg 22]; have hJ9 := hJ; have q0 := (hJ9.box (List.Mem.head _) (t * 2)).1; rw [(hsA_get _ lt1).1, unhide HH] at q0; have q1 := (hJ9.box (List.Mem.head _) (t * 2 + 1)).1; rw [(hsA_get _ lt1).2, unhide HH] at q1; clear hJ9; clear hJ hd hn; have E37 := E.tmp 37 _ rfl; clear E; clear vv HV HN HX LH WR HT HH; unfold O78_5_22; (try simp only [slZ, smZ, putF, slV, smL, msL] at *); go_simp
      refine obsC (j := 24) (m := 7) rfl rfl ?_ ?_
      · refine ob_look (o := O78_5_23) rfl (fun gg => [(34, .agg #[.int .i64 (S t).hg.c, .int .i64 (S t).hg.w]), (38, .agg #[.int .i64 (S t).hg.c, .int .i64 (S t).hg.w])]) (fun gg => ⟨.inl ⟨18, by kernel_rfl, rfl, vv gg 18⟩, .inl ⟨22, by kernel_rfl, rfl, vv gg 22⟩, trivial⟩) (.inr (.inl ⟨10, true, rfl, by kernel_rfl, ⟨26, rfl⟩, fun gg => ⟨true, vv gg 10, rfl⟩⟩)) (fun _ _ _ h => h) (fun gg f W ev hJ hd hn E => ?_)
        rw [show V gg 23 = .bool true from vv gg 23]; clear hJ hd hn; have E34 := E.tmp 34 _ rfl; have E38 := E.tmp 38 _ rfl; clear E; clear vv HV HN HX LH WR HT HH; unfold O78_5_23; (try simp only [slZ, smZ, putF, slV, smL, msL] at *); go_simp
      refine obsC (j := 25) (m := 6) rfl rfl ?_ ?_
      · exact ob_copy (o := O78_5_24) (u := 39) rfl rfl (fun gg => ⟨.inl ⟨23, by kernel_rfl, rfl, (vv gg 23).trans (vv gg 24).symm⟩, trivial⟩) (.inr (.inl ⟨10, true, rfl, by kernel_rfl, ⟨26, rfl⟩, fun gg => ⟨true, vv gg 10, rfl⟩⟩)) (fun _ _ _ h => h)
      refine obsC (j := 26) (m := 5) rfl rfl ?_ ?_
      · exact ob_copy (o := O78_5_25) (u := 0) rfl rfl (fun gg => ⟨.inr ⟨by rw [vv]; rfl, by kernel_rfl⟩, trivial⟩) (.inr (.inl ⟨24, true, rfl, by kernel_rfl, ⟨40, rfl⟩, fun gg => ⟨true, vv gg 24, rfl⟩⟩)) (fun _ _ _ h => h)
      refine obsC (j := 27) (m := 4) rfl rfl ?_ ?_
      · exact ob_copy (o := O78_5_26) (u := 4) rfl rfl (fun gg => ⟨.inr ⟨by rw [vv]; rfl, by kernel_rfl⟩, trivial⟩) (.inr (.inl ⟨24, true, rfl, by kernel_rfl, ⟨40, rfl⟩, fun gg => ⟨true, vv gg 24, rfl⟩⟩)) (fun _ _ _ h => h)
      refine obsC (j := 28) (m := 3) rfl rfl ?_ ?_
      · refine ob_run (o := O78_5_27) rfl (fun gg => [(41, .pointer (some ⟨p, 0, none⟩)), (42, .int .i64 (t : Int))]) (fun gg => ⟨.inl ⟨25, by kernel_rfl, rfl, vv gg 25⟩, .inl ⟨26, by kernel_rfl, rfl, vv gg 26⟩, trivial⟩) (.inr (.inl ⟨24, true, rfl, by kernel_rfl, ⟨40, rfl⟩, fun gg => ⟨true, vv gg 24, rfl⟩⟩)) (fun gg f W ev hJ hf hd hn E => ?_)
        refine .inr (.inr ⟨93, #[.pointer (some ⟨p, 0, none⟩), .int .i64 (t : Int)], ?_, (sumFitsL hJ.po (unhide LH) (unhide HT)).mono ?_⟩)
        · clear hJ hf hd hn; have EF := E.func; have E41 := E.tmp 41 _ rfl; have E42 := E.tmp 42 _ rfl; clear E; clear vv HV HN HX LH WR HT HH; unfold O78_5_27; go_simp
        · rintro e w9 ⟨rfl, q1, q2⟩
          exact ⟨_, rfl, gg, .inr (vv gg 27), fun _ => .inr (.inr rfl), hJ.call q1 q2⟩
      refine obsC (j := 29) (m := 2) rfl rfl ?_ ?_
      · refine ob_look (o := O78_5_28) rfl (fun gg => [(40, .bool true), (43, .bool true)]) (fun gg => ⟨.inl ⟨24, by kernel_rfl, rfl, vv gg 24⟩, .inl ⟨27, by kernel_rfl, rfl, vv gg 27⟩, trivial⟩) (.inr (.inl ⟨10, true, rfl, by kernel_rfl, ⟨26, rfl⟩, fun gg => ⟨true, vv gg 10, rfl⟩⟩)) (fun _ _ _ h => h) (fun gg f W ev hJ hd hn E => ?_)
        rw [show V gg 28 = .bool true from vv gg 28]; clear hJ hd hn; have EC := E.const; have E40 := E.tmp 40 _ rfl; have E43 := E.tmp 43 _ rfl; clear E; clear vv HV HN HX LH WR HT HH; unfold O78_5_28; (try simp only [slZ, smZ, putF, slV, smL, msL] at *); go_simp
      refine obsC (j := 30) (m := 1) rfl rfl ?_ ?_
      · refine ob_look (o := O78_5_29) rfl (fun gg => [(44, .bool true)]) (fun gg => ⟨.inl ⟨28, by kernel_rfl, rfl, vv gg 28⟩, trivial⟩) (.inr (.inl ⟨10, true, rfl, by kernel_rfl, ⟨26, rfl⟩, fun gg => ⟨true, vv gg 10, rfl⟩⟩)) (fun _ _ _ h => h) (fun gg f W ev hJ hd hn E => ?_)
        rw [show V gg 29 = .bool false from vv gg 29]; clear hJ hd hn; have E44 := E.tmp 44 _ rfl; clear E; clear vv HV HN HX LH WR HT HH; unfold O78_5_29; (try simp only [slZ, smZ, putF, slV, smL, msL] at *); go_simp
      refine obsC (j := 31) (m := 0) rfl rfl ?_ ?_
      · refine ob_look (o := O78_5_30) rfl (fun gg => [(26, .bool true), (45, .bool false)]) (fun gg => ⟨.inl ⟨10, by kernel_rfl, rfl, vv gg 10⟩, .inl ⟨29, by kernel_rfl, rfl, vv gg 29⟩, trivial⟩) (.inl ⟨rfl, rfl⟩) (fun _ _ _ h => h) (fun gg f W ev hJ hd hn E => ?_)
        rw [show V gg 30 = .bool false from vv gg 30]; clear hJ hd hn; have EC := E.const; have E26 := E.tmp 26 _ rfl; have E45 := E.tmp 45 _ rfl; clear E; clear vv HV HN HX LH WR HT HH; unfold O78_5_30; (try simp only [slZ, smZ, putF, slV, smL, msL] at *); go_simp
      exact True.intro
    have K9 : Kn a9 47 [(0, .pointer (some ⟨p, 0, none⟩)), (3, .slice (some ⟨hb, 0, none⟩) n n), (4, .int .i64 (t : Int)), (46, .bool false)] := hk.kn' (by kernel_rfl) hf ⟨.inr ⟨rfl, by kernel_rfl⟩, .inr ⟨rfl, by kernel_rfl⟩, .inr ⟨rfl, by kernel_rfl⟩, .inl ⟨30, by kernel_rfl, rfl, vv gg 30⟩, trivial⟩
    clear hk FH FD HV vv K8
    have FH := hide hj
    clear hj hf
    show Code.wp _ _ _ _ _
    refine knCond (b := false) K9 rfl (wp_skip ?_)
    show Code.wp _ _ _ _ _
    have wr := unhide WR
    clear WR
    refine wp_region_lit ?_
    refine lmv K9 rfl rfl (want_none rfl) rfl rfl (fun a10 K10 => ?_)
    clear K9
    refine ltake (v := .int .i64 ((t + 1 : Nat) : Int)) (w' := W9) K10 rfl rfl (want_none rfl) (fun ev E => ?_) (fun a11 K11 => ?_)
    · have EC := E.const; have E14 := E.tmp 14 _ rfl; clear E; clear FH HN HX LH HT HH; (try simp only [slZ, smZ, putF, slV, smL, msL] at *); go_simp
    clear K10
    refine las K11 rfl rfl (want_none rfl) rfl rfl (fun a12 K12 => ?_)
    clear K11
    refine wpList_nil ?_
    exact unhide HN _ _ lt1 (K12.less ⟨rfl, rfl, rfl, trivial⟩) (unhide FH)
  · have hc : (S t).sm.c = 0 := Classical.byContradiction fun h => ht ((unhide LH).th_c.2 h)
    have HT := hide ht
    clear ht
    refine seqN ?_
    refine seqR ?_
    refine lmv K0 rfl rfl (want_none rfl) rfl rfl (fun a1 K1 => ?_)
    refine lmv K1 rfl rfl (want_none rfl) rfl rfl (fun a2 K2 => ?_)
    clear K1
    refine lnc K2 rfl rfl (want_none rfl) rfl rfl (fun a3 K3 => ?_)
    clear K2
    refine lfa K3 rfl rfl (want_none rfl) rfl rfl FA66_1 (fun a4 K4 => ?_)
    clear K3
    refine ltake (v := .slice (some ⟨g, 0, none⟩) n cap) (w' := w1) K4 rfl rfl (want_none rfl) (fun ev E => ?_) (fun a5 K5 => ?_)
    · obtain ⟨c0, c1, _⟩ := (unhide FH).po.head; have E10 := E.tmp 10 _ rfl; clear E; clear FH HN HX LH WR HT; (try simp only [slZ, smZ, putF, slV, smL, msL] at *); go_simp
    clear K4
    refine ltake (v := .int .i64 (n : Int)) (w' := w1) K5 rfl rfl (want_none rfl) (fun ev E => ?_) (fun a6 K6 => ?_)
    · have E11 := E.tmp 11 _ rfl; clear E; clear FH HN HX LH WR HT; (try simp only [slZ, smZ, putF, slV, smL, msL] at *); go_simp
    clear K5
    refine ltake (v := .bool true) (w' := w1) K6 rfl rfl (want_none rfl) (fun ev E => ?_) (fun a7 K7 => ?_)
    · have E7 := E.tmp 7 _ rfl; have E12 := E.tmp 12 _ rfl; clear E; clear FH HN HX LH WR HT; (try simp only [slZ, smZ, putF, slV, smL, msL] at *); go_simp
    clear K6
    refine nilN ?_
    refine knCond (b := true) K7 rfl (wp_skip ?_)
    show Code.wp _ _ _ _ _
    have K8 : Kn _ 47 [(0, .pointer (some ⟨p, 0, none⟩)), (3, .slice (some ⟨hb, 0, none⟩) n n), (4, .int .i64 (t : Int))] := K7.less ⟨rfl, rfl, rfl, trivial⟩
    clear K7
    refine seqN ?_
    refine blockN ?_
    refine seqN ?_
    have FD := (unhide FH).drew
    obtain ⟨V, hV⟩ : ∃ V : (Unit) → Nat → Value, V = fun gg k => ([.pointer (some ⟨p, 0, none⟩), .pointer (some ⟨p, 0, none⟩), .pointer (some ⟨p, 1, none⟩), .slice (some ⟨g, 0, none⟩) n cap, .int .i64 (t : Int), .pointer (some ⟨g, t * 14, none⟩), .pointer (some ⟨g, t * 14 + 6, none⟩), .pointer (some ⟨g, t * 14 + 6, none⟩), .int .i64 (S t).sm.c, .bool false, .bool false, undef, undef, undef, undef, undef, undef, undef, undef, undef, undef, undef, undef, undef, undef, undef, undef, undef, undef, undef, .bool false] : List Value).getD k undef := ⟨_, rfl⟩
    have vv : ∀ gg k, V gg k = ([.pointer (some ⟨p, 0, none⟩), .pointer (some ⟨p, 0, none⟩), .pointer (some ⟨p, 1, none⟩), .slice (some ⟨g, 0, none⟩) n cap, .int .i64 (t : Int), .pointer (some ⟨g, t * 14, none⟩), .pointer (some ⟨g, t * 14 + 6, none⟩), .pointer (some ⟨g, t * 14 + 6, none⟩), .int .i64 (S t).sm.c, .bool false, .bool false, undef, undef, undef, undef, undef, undef, undef, undef, undef, undef, undef, undef, undef, undef, undef, undef, undef, undef, undef, .bool false] : List Value).getD k undef := fun _ _ => by rw [hV]
    have HV := hide (And.intro True.intro hV)
    clear hV
    show (Code.region 5 OPS78_5.toArray true).wp _ _ _ _
    refine wp_region_once (A := Unit) (V := V) (J := fun gg f W => Fr w W p g n cap room S [(hb, .cells (hsA (HA S n) n) 73 (0, 0))]) () 31 (by kernel_rfl) (by kernel_rfl) K8 (FD) (by kernel_rfl) ?_ (fun gg f a9 W9 hf hk hj => ?_)
    · clear FH FD K8
      refine obsC (j := 1) (m := 30) rfl rfl ?_ ?_
      · exact ob_copy (o := O78_5_0) (u := 0) rfl rfl (fun gg => ⟨.inr ⟨by rw [vv]; rfl, by kernel_rfl⟩, trivial⟩) (.inl ⟨rfl, rfl⟩) (fun _ _ _ h => h)
      refine obsC (j := 2) (m := 29) rfl rfl ?_ ?_
      · refine ob_look (o := O78_5_1) rfl (fun gg => [(16, .pointer (some ⟨p, 0, none⟩))]) (fun gg => ⟨.inl ⟨0, by kernel_rfl, rfl, vv gg 0⟩, trivial⟩) (.inl ⟨rfl, rfl⟩) (fun _ _ _ h => h) (fun gg f W ev hJ hd hn E => ?_)
        rw [show V gg 1 = .pointer (some ⟨p, 0, none⟩) from vv gg 1]; clear hJ hd hn; have E16 := E.tmp 16 _ rfl; clear E; clear vv HV HN HX LH WR HT; unfold O78_5_1; (try simp only [slZ, smZ, putF, slV, smL, msL] at *); go_simp
      refine obsC (j := 3) (m := 28) rfl rfl ?_ ?_
      · refine ob_look (o := O78_5_2) rfl (fun gg => [(17, .pointer (some ⟨p, 0, none⟩))]) (fun gg => ⟨.inl ⟨1, by kernel_rfl, rfl, vv gg 1⟩, trivial⟩) (.inl ⟨rfl, rfl⟩) (fun _ _ _ h => h) (fun gg f W ev hJ hd hn E => ?_)
        rw [show V gg 2 = .pointer (some ⟨p, 1, none⟩) from vv gg 2]; clear hJ hd hn; have E17 := E.tmp 17 _ rfl; clear E; clear vv HV HN HX LH WR HT; unfold O78_5_2; (try simp only [slZ, smZ, putF, slV, smL, msL] at *); go_simp
      refine obsC (j := 4) (m := 27) rfl rfl ?_ ?_
      · refine ob_look (o := O78_5_3) rfl (fun gg => [(18, .pointer (some ⟨p, 1, none⟩))]) (fun gg => ⟨.inl ⟨2, by kernel_rfl, rfl, vv gg 2⟩, trivial⟩) (.inl ⟨rfl, rfl⟩) (fun _ _ _ h => h) (fun gg f W ev hJ hd hn E => ?_)
        rw [show V gg 3 = .slice (some ⟨g, 0, none⟩) n cap from vv gg 3]; have hJ9 := hJ; obtain ⟨c0, c1, _⟩ := hJ9.po.head; clear hJ9; clear hJ hd hn; have E18 := E.tmp 18 _ rfl; clear E; clear vv HV HN HX LH WR HT; unfold O78_5_3; (try simp only [slZ, smZ, putF, slV, smL, msL] at *); go_simp
      refine obsC (j := 5) (m := 26) rfl rfl ?_ ?_
      · exact ob_copy (o := O78_5_4) (u := 4) rfl rfl (fun gg => ⟨.inr ⟨by rw [vv]; rfl, by kernel_rfl⟩, trivial⟩) (.inl ⟨rfl, rfl⟩) (fun _ _ _ h => h)
      refine obsC (j := 6) (m := 25) rfl rfl ?_ ?_
      · refine ob_look (o := O78_5_5) rfl (fun gg => [(19, .slice (some ⟨g, 0, none⟩) n cap), (20, .int .i64 (t : Int))]) (fun gg => ⟨.inl ⟨3, by kernel_rfl, rfl, vv gg 3⟩, .inl ⟨4, by kernel_rfl, rfl, vv gg 4⟩, trivial⟩) (.inl ⟨rfl, rfl⟩) (fun _ _ _ h => h) (fun gg f W ev hJ hd hn E => ?_)
        rw [show V gg 5 = .pointer (some ⟨g, t * 14, none⟩) from vv gg 5]; clear hJ hd hn; have E19 := E.tmp 19 _ rfl; have E20 := E.tmp 20 _ rfl; clear E; clear vv HV HN HX LH WR HT; unfold O78_5_5; (try simp only [slZ, smZ, putF, slV, smL, msL] at *); go_simp
      refine obsC (j := 7) (m := 24) rfl rfl ?_ ?_
      · refine ob_look (o := O78_5_6) rfl (fun gg => [(21, .pointer (some ⟨g, t * 14, none⟩))]) (fun gg => ⟨.inl ⟨5, by kernel_rfl, rfl, vv gg 5⟩, trivial⟩) (.inl ⟨rfl, rfl⟩) (fun _ _ _ h => h) (fun gg f W ev hJ hd hn E => ?_)
        rw [show V gg 6 = .pointer (some ⟨g, t * 14 + 6, none⟩) from vv gg 6]; clear hJ hd hn; have E21 := E.tmp 21 _ rfl; clear E; clear vv HV HN HX LH WR HT; unfold O78_5_6; (try simp only [slZ, smZ, putF, slV, smL, msL] at *); go_simp
      refine obsC (j := 8) (m := 23) rfl rfl ?_ ?_
      · refine ob_look (o := O78_5_7) rfl (fun gg => [(22, .pointer (some ⟨g, t * 14 + 6, none⟩))]) (fun gg => ⟨.inl ⟨6, by kernel_rfl, rfl, vv gg 6⟩, trivial⟩) (.inl ⟨rfl, rfl⟩) (fun _ _ _ h => h) (fun gg f W ev hJ hd hn E => ?_)
        rw [show V gg 7 = .pointer (some ⟨g, t * 14 + 6, none⟩) from vv gg 7]; clear hJ hd hn; have E22 := E.tmp 22 _ rfl; clear E; clear vv HV HN HX LH WR HT; unfold O78_5_7; (try simp only [slZ, smZ, putF, slV, smL, msL] at *); go_simp
      refine obsC (j := 9) (m := 22) rfl rfl ?_ ?_
      · refine ob_look (o := O78_5_8) rfl (fun gg => [(23, .pointer (some ⟨g, t * 14 + 6, none⟩))]) (fun gg => ⟨.inl ⟨7, by kernel_rfl, rfl, vv gg 7⟩, trivial⟩) (.inl ⟨rfl, rfl⟩) (fun _ _ _ h => h) (fun gg f W ev hJ hd hn E => ?_)
        rw [show V gg 8 = .int .i64 (S t).sm.c from vv gg 8]; have hJ9 := hJ; obtain ⟨s0, s1, s2, s3, s4, s5, s6, s7, s8, s9, s10, s11, s12, s13⟩ := hJ9.po.slot (t := t) (by assumption); clear hJ9; clear hJ hd hn; have E23 := E.tmp 23 _ rfl; clear E; clear vv HV HN HX LH WR HT; unfold O78_5_8; (try simp only [slZ, smZ, putF, slV, smL, msL] at *); go_simp
      refine obsC (j := 10) (m := 21) rfl rfl ?_ ?_
      · refine ob_look (o := O78_5_9) rfl (fun gg => [(24, .int .i64 (S t).sm.c)]) (fun gg => ⟨.inl ⟨8, by kernel_rfl, rfl, vv gg 8⟩, trivial⟩) (.inl ⟨rfl, rfl⟩) (fun _ _ _ h => h) (fun gg f W ev hJ hd hn E => ?_)
        rw [show V gg 9 = .bool false from vv gg 9]; clear hJ hd hn; have EC := E.const; have E24 := E.tmp 24 _ rfl; clear E; clear vv HV HN HX LH WR HT; unfold O78_5_9; (try simp only [slZ, smZ, putF, slV, smL, msL] at *); go_simp
      refine obsC (j := 11) (m := 20) rfl rfl ?_ ?_
      · exact ob_copy (o := O78_5_10) (u := 25) rfl rfl (fun gg => ⟨.inl ⟨9, by kernel_rfl, rfl, (vv gg 9).trans (vv gg 10).symm⟩, trivial⟩) (.inl ⟨rfl, rfl⟩) (fun _ _ _ h => h)
      refine obsC (j := 12) (m := 19) rfl rfl ?_ ?_
      · exact ob_skip (o := O78_5_11) rfl (.inr (.inl ⟨10, true, rfl, by kernel_rfl, ⟨26, rfl⟩, fun gg => ⟨false, vv gg 10, rfl⟩⟩)) (fun _ _ _ h => h) (fun gg => vv gg 11)
      refine obsC (j := 13) (m := 18) rfl rfl ?_ ?_
      · exact ob_skip (o := O78_5_12) rfl (.inr (.inl ⟨10, true, rfl, by kernel_rfl, ⟨26, rfl⟩, fun gg => ⟨false, vv gg 10, rfl⟩⟩)) (fun _ _ _ h => h) (fun gg => vv gg 12)
      refine obsC (j := 14) (m := 17) rfl rfl ?_ ?_
      · exact ob_skip (o := O78_5_13) rfl (.inr (.inl ⟨10, true, rfl, by kernel_rfl, ⟨26, rfl⟩, fun gg => ⟨false, vv gg 10, rfl⟩⟩)) (fun _ _ _ h => h) (fun gg => vv gg 13)
      refine obsC (j := 15) (m := 16) rfl rfl ?_ ?_
      · exact ob_skip (o := O78_5_14) rfl (.inr (.inl ⟨10, true, rfl, by kernel_rfl, ⟨26, rfl⟩, fun gg => ⟨false, vv gg 10, rfl⟩⟩)) (fun _ _ _ h => h) (fun gg => vv gg 14)
      refine obsC (j := 16) (m := 15) rfl rfl ?_ ?_
      · exact ob_skip (o := O78_5_15) rfl (.inr (.inl ⟨10, true, rfl, by kernel_rfl, ⟨26, rfl⟩, fun gg => ⟨false, vv gg 10, rfl⟩⟩)) (fun _ _ _ h => h) (fun gg => vv gg 15)
      refine obsC (j := 17) (m := 14) rfl rfl ?_ ?_
      · exact ob_skip (o := O78_5_16) rfl (.inr (.inl ⟨10, true, rfl, by kernel_rfl, ⟨26, rfl⟩, fun gg => ⟨false, vv gg 10, rfl⟩⟩)) (fun _ _ _ h => h) (fun gg => vv gg 16)
      refine obsC (j := 18) (m := 13) rfl rfl ?_ ?_
      · exact ob_skip (o := O78_5_17) rfl (.inr (.inl ⟨10, true, rfl, by kernel_rfl, ⟨26, rfl⟩, fun gg => ⟨false, vv gg 10, rfl⟩⟩)) (fun _ _ _ h => h) (fun gg => vv gg 17)
      refine obsC (j := 19) (m := 12) rfl rfl ?_ ?_
      · exact ob_skip (o := O78_5_18) rfl (.inr (.inl ⟨10, true, rfl, by kernel_rfl, ⟨26, rfl⟩, fun gg => ⟨false, vv gg 10, rfl⟩⟩)) (fun _ _ _ h => h) (fun gg => vv gg 18)
      refine obsC (j := 20) (m := 11) rfl rfl ?_ ?_
      · exact ob_skip (o := O78_5_19) rfl (.inr (.inl ⟨10, true, rfl, by kernel_rfl, ⟨26, rfl⟩, fun gg => ⟨false, vv gg 10, rfl⟩⟩)) (fun _ _ _ h => h) (fun gg => vv gg 19)
      refine obsC (j := 21) (m := 10) rfl rfl ?_ ?_
      · exact ob_skip (o := O78_5_20) rfl (.inr (.inl ⟨10, true, rfl, by kernel_rfl, ⟨26, rfl⟩, fun gg => ⟨false, vv gg 10, rfl⟩⟩)) (fun _ _ _ h => h) (fun gg => vv gg 20)
      refine obsC (j := 22) (m := 9) rfl rfl ?_ ?_
      · exact ob_skip (o := O78_5_21) rfl (.inr (.inl ⟨10, true, rfl, by kernel_rfl, ⟨26, rfl⟩, fun gg => ⟨false, vv gg 10, rfl⟩⟩)) (fun _ _ _ h => h) (fun gg => vv gg 21)
      refine obsC (j := 23) (m := 8) rfl rfl ?_ ?_
      · exact ob_skip (o := O78_5_22) rfl (.inr (.inl ⟨10, true, rfl, by kernel_rfl, ⟨26, rfl⟩, fun gg => ⟨false, vv gg 10, rfl⟩⟩)) (fun _ _ _ h => h) (fun gg => vv gg 22)
      refine obsC (j := 24) (m := 7) rfl rfl ?_ ?_
      · exact ob_skip (o := O78_5_23) rfl (.inr (.inl ⟨10, true, rfl, by kernel_rfl, ⟨26, rfl⟩, fun gg => ⟨false, vv gg 10, rfl⟩⟩)) (fun _ _ _ h => h) (fun gg => vv gg 23)
      refine obsC (j := 25) (m := 6) rfl rfl ?_ ?_
      · exact ob_skip (o := O78_5_24) rfl (.inr (.inl ⟨10, true, rfl, by kernel_rfl, ⟨26, rfl⟩, fun gg => ⟨false, vv gg 10, rfl⟩⟩)) (fun _ _ _ h => h) (fun gg => vv gg 24)
      refine obsC (j := 26) (m := 5) rfl rfl ?_ ?_
      · exact ob_skip (o := O78_5_25) rfl (.inr (.inr ⟨24, true, rfl, by kernel_rfl, ⟨40, rfl⟩, fun gg => vv gg 24, rfl⟩)) (fun _ _ _ h => h) (fun gg => vv gg 25)
      refine obsC (j := 27) (m := 4) rfl rfl ?_ ?_
      · exact ob_skip (o := O78_5_26) rfl (.inr (.inr ⟨24, true, rfl, by kernel_rfl, ⟨40, rfl⟩, fun gg => vv gg 24, rfl⟩)) (fun _ _ _ h => h) (fun gg => vv gg 26)
      refine obsC (j := 28) (m := 3) rfl rfl ?_ ?_
      · exact ob_skip (o := O78_5_27) rfl (.inr (.inr ⟨24, true, rfl, by kernel_rfl, ⟨40, rfl⟩, fun gg => vv gg 24, rfl⟩)) (fun _ _ _ h => h) (fun gg => vv gg 27)
      refine obsC (j := 29) (m := 2) rfl rfl ?_ ?_
      · exact ob_skip (o := O78_5_28) rfl (.inr (.inl ⟨10, true, rfl, by kernel_rfl, ⟨26, rfl⟩, fun gg => ⟨false, vv gg 10, rfl⟩⟩)) (fun _ _ _ h => h) (fun gg => vv gg 28)
      refine obsC (j := 30) (m := 1) rfl rfl ?_ ?_
      · exact ob_skip (o := O78_5_29) rfl (.inr (.inl ⟨10, true, rfl, by kernel_rfl, ⟨26, rfl⟩, fun gg => ⟨false, vv gg 10, rfl⟩⟩)) (fun _ _ _ h => h) (fun gg => vv gg 29)
      refine obsC (j := 31) (m := 0) rfl rfl ?_ ?_
      · refine ob_look (o := O78_5_30) rfl (fun gg => [(26, .bool false), (45, undef)]) (fun gg => ⟨.inl ⟨10, by kernel_rfl, rfl, vv gg 10⟩, .inl ⟨29, by kernel_rfl, rfl, vv gg 29⟩, trivial⟩) (.inl ⟨rfl, rfl⟩) (fun _ _ _ h => h) (fun gg f W ev hJ hd hn E => ?_)
        rw [show V gg 30 = .bool false from vv gg 30]; clear hJ hd hn; have EC := E.const; have E26 := E.tmp 26 _ rfl; have E45 := E.tmp 45 _ rfl; clear E; clear vv HV HN HX LH WR HT; unfold O78_5_30; (try simp only [slZ, smZ, putF, slV, smL, msL] at *); go_simp
      exact True.intro
    have K9 : Kn a9 47 [(0, .pointer (some ⟨p, 0, none⟩)), (3, .slice (some ⟨hb, 0, none⟩) n n), (4, .int .i64 (t : Int)), (46, .bool false)] := hk.kn' (by kernel_rfl) hf ⟨.inr ⟨rfl, by kernel_rfl⟩, .inr ⟨rfl, by kernel_rfl⟩, .inr ⟨rfl, by kernel_rfl⟩, .inl ⟨30, by kernel_rfl, rfl, vv gg 30⟩, trivial⟩
    clear hk FH FD HV vv K8
    have FH := hide hj
    clear hj hf
    show Code.wp _ _ _ _ _
    refine knCond (b := false) K9 rfl (wp_skip ?_)
    show Code.wp _ _ _ _ _
    have wr := unhide WR
    clear WR
    refine wp_region_lit ?_
    refine lmv K9 rfl rfl (want_none rfl) rfl rfl (fun a10 K10 => ?_)
    clear K9
    refine ltake (v := .int .i64 ((t + 1 : Nat) : Int)) (w' := W9) K10 rfl rfl (want_none rfl) (fun ev E => ?_) (fun a11 K11 => ?_)
    · have EC := E.const; have E14 := E.tmp 14 _ rfl; clear E; clear FH HN HX LH HT; (try simp only [slZ, smZ, putF, slV, smL, msL] at *); go_simp
    clear K10
    refine las K11 rfl rfl (want_none rfl) rfl rfl (fun a12 K12 => ?_)
    clear K11
    refine wpList_nil ?_
    exact unhide HN _ _ lt1 (K12.less ⟨rfl, rfl, rfl, trivial⟩) (unhide FH)
set_option maxHeartbeats 4000000 in
theorem sumsFitL {p g n cap room : Nat} {T : Tr} {S : Ss} {G : Gh} {w : World} (h : Pool w p g n cap room S) (L : Lc S n T G) :
    Calls Try.prog 78 #[.pointer (some ⟨p, 0, none⟩)] w fun e w' => e = .returned (.bool true) ∧ Keep [g] w w' ∧ Pool w' p g n cap room S := by
  have FH := hide (Fr.start h)
  have LH := hide L
  clear h L
  refine callsK (n := 47) (L := [(0, .pointer (some ⟨p, 0, none⟩))]) Try.func78 rfl Try.ntmps78 rfl rfl (fun a0 K0 => ?_)
  refine seqR ?_
  refine lac K0 rfl rfl (want_none rfl) rfl (fun a1 K1 => ?_)
  refine nilN ?_
  refine seqR ?_
  refine lmv K1 rfl rfl (want_none rfl) rfl rfl (fun a2 K2 => ?_)
  clear K1
  refine lcall (f := 92) (args := #[.pointer (some ⟨p, 0, none⟩)]) K2 rfl rfl (want_none rfl) (fun ev E => ?_) (hangingL (unhide FH).po (unhide LH)) (fun e W3 hR => ?_)
  · have EF := E.func; have E5 := E.tmp 5 _ rfl; clear E; clear FH LH; (try simp only [slZ, smZ, putF, slV, smL, msL] at *); go_simp
  obtain ⟨hb, rfl, Q1⟩ := hR
  have F2 : Fr w W3 p g n cap room S [(hb, .cells (hsA (HA S n) n) 73 (0, 0))] := ⟨Q1.po, (unhide FH).keep.tr Q1.keep, fun x hx => ⟨(Q1.bs x hx).1, Nat.le_trans (unhide FH).keep.size (Q1.bs x hx).2.1, (Q1.bs x hx).2.2⟩, Q1.nd⟩
  clear FH Q1
  have FH := hide F2
  clear F2
  refine ⟨_, rfl, fun a4 K4 => ?_⟩
  clear K2
  refine las K4 rfl rfl (want_none rfl) rfl rfl (fun a5 K5 => ?_)
  clear K4
  refine nilN ?_
  refine seqN ?_
  refine seqR ?_
  refine lac K5 rfl rfl (want_none rfl) rfl (fun a6 K6 => ?_)
  clear K5
  refine nilN ?_
  have K7 : Kn _ 47 [(0, .pointer (some ⟨p, 0, none⟩)), (3, .slice (some ⟨hb, 0, none⟩) n n), (4, .int .i64 ((1 : Nat) : Int))] := K6.less ⟨rfl, rfl, rfl, trivial⟩
  clear K6
  refine wp_block ?_
  refine wp_loop_ghost (fun k a w' => ∃ t : Nat, Kn a 47 [(0, .pointer (some ⟨p, 0, none⟩)), (3, .slice (some ⟨hb, 0, none⟩) n n), (4, .int .i64 (t : Int))] ∧ Fr w w' p g n cap room S [(hb, .cells (hsA (HA S n) n) 73 (0, 0))] ∧ t ≤ n ∧ k = n - t) _ ⟨1, K7, unhide FH, (unhide LH).n0, rfl⟩ ?_
  rintro k a w1 ⟨t, K1, F1, hle, hk⟩
  refine round78 K1 F1 (unhide LH) hle (fun a' W lt K2 F2 => ?_) (fun a' W n0 KZ F2 => ?_)
  · exact ⟨_, by omega, t + 1, K2, F2, by omega, rfl⟩
  show Code.wp _ _ _ _ _
  clear FH F1 K1 hk
  have FH := hide F2
  clear F2
  clear n0
  refine seqR ?_
  refine lac KZ rfl rfl (want_none rfl) rfl (fun a8 K8 => ?_)
  clear KZ
  refine nilN ?_
  refine wp_ret ?_
  refine bodyPost_ret (v := .bool true) ?_ K8.defers ⟨rfl, (unhide FH).keep, (unhide FH).po⟩
  have e2 := K8.has 2 _ rfl
  simp [results, Try.results78, go_sem, e2]
set_option maxHeartbeats 4000000 in
theorem checkL {p g n cap room : Nat} {T : Tr} {S : Ss} {G : Gh} {w : World} (hr : room = T.n) (h : Pool w p g n cap room S) (L : Lc S n T G) :
    Calls Try.prog 49 #[.pointer (some ⟨p, 0, none⟩)] w fun e w' => e = .returned (.bool true) ∧ Keep [g] w w' ∧ Pool w' p g n cap room S := by
  have FH := hide (Fr.start h)
  have LH := hide L
  have HR := hide hr
  clear h L hr
  refine callsK (n := 17) (L := [(0, .pointer (some ⟨p, 0, none⟩))]) Try.func49 rfl Try.ntmps49 rfl rfl (fun a0 K0 => ?_)
  refine seqR ?_
  refine lac K0 rfl rfl (want_none rfl) rfl (fun a1 K1 => ?_)
  refine nilN ?_
  refine seqR ?_
  refine lmv K1 rfl rfl (want_none rfl) rfl rfl (fun a2 K2 => ?_)
  clear K1
  refine ltake (v := .bool true) (w' := w) K2 rfl rfl (want_none rfl) (fun ev E => ?_) (fun a3 K3 => ?_)
  · have EC := E.const; have E3 := E.tmp 3 _ rfl; clear E; clear FH LH HR; (try simp only [slZ, smZ, putF, slV, smL, msL] at *); go_simp
  clear K2
  refine lmv K3 rfl rfl (want_none rfl) rfl rfl (fun a4 K4 => ?_)
  clear K3
  refine lmv K4 rfl rfl (want_some K4 rfl rfl rfl) rfl rfl (fun a5 K5 => ?_)
  clear K4
  refine lcall (f := 76) (args := #[.pointer (some ⟨p, 0, none⟩)]) K5 rfl rfl (want_some K5 rfl rfl rfl) (fun ev E => ?_) (listFitsR (unhide HR) (unhide FH).po (unhide LH)) (fun e W6 hR => ?_)
  · have EF := E.func; have E6 := E.tmp 6 _ rfl; clear E; clear FH LH HR; (try simp only [slZ, smZ, putF, slV, smL, msL] at *); go_simp
  obtain ⟨rfl, Q1, P1⟩ := hR
  have F2 := hide ((unhide FH).call Q1 P1)
  clear FH Q1 P1
  have FH := F2
  clear F2
  refine ⟨_, rfl, fun a7 K7 => ?_⟩
  clear K5
  refine ltake (v := .bool true) (w' := W6) K7 rfl rfl (want_none rfl) (fun ev E => ?_) (fun a8 K8 => ?_)
  · have EC := E.const; have E5 := E.tmp 5 _ rfl; have E7 := E.tmp 7 _ rfl; clear E; clear FH LH HR; (try simp only [slZ, smZ, putF, slV, smL, msL] at *); go_simp
  clear K7
  refine lmv K8 rfl rfl (want_none rfl) rfl rfl (fun a9 K9 => ?_)
  clear K8
  refine lmv K9 rfl rfl (want_some K9 rfl rfl rfl) rfl rfl (fun a10 K10 => ?_)
  clear K9
  refine lcall (f := 77) (args := #[.pointer (some ⟨p, 0, none⟩)]) K10 rfl rfl (want_some K10 rfl rfl rfl) (fun ev E => ?_) (linksFitL (unhide FH).po (unhide LH)) (fun e W11 hR => ?_)
  · have EF := E.func; have E10 := E.tmp 10 _ rfl; clear E; clear FH LH HR; (try simp only [slZ, smZ, putF, slV, smL, msL] at *); go_simp
  obtain ⟨rfl, Q1, P1⟩ := hR
  have F2 := hide ((unhide FH).call Q1 P1)
  clear FH Q1 P1
  have FH := F2
  clear F2
  refine ⟨_, rfl, fun a12 K12 => ?_⟩
  clear K10
  refine ltake (v := .bool true) (w' := W11) K12 rfl rfl (want_none rfl) (fun ev E => ?_) (fun a13 K13 => ?_)
  · have EC := E.const; have E9 := E.tmp 9 _ rfl; have E11 := E.tmp 11 _ rfl; clear E; clear FH LH HR; (try simp only [slZ, smZ, putF, slV, smL, msL] at *); go_simp
  clear K12
  refine lmv K13 rfl rfl (want_none rfl) rfl rfl (fun a14 K14 => ?_)
  clear K13
  refine lmv K14 rfl rfl (want_some K14 rfl rfl rfl) rfl rfl (fun a15 K15 => ?_)
  clear K14
  refine lcall (f := 78) (args := #[.pointer (some ⟨p, 0, none⟩)]) K15 rfl rfl (want_some K15 rfl rfl rfl) (fun ev E => ?_) (sumsFitL (unhide FH).po (unhide LH)) (fun e W16 hR => ?_)
  · have EF := E.func; have E14 := E.tmp 14 _ rfl; clear E; clear FH LH HR; (try simp only [slZ, smZ, putF, slV, smL, msL] at *); go_simp
  obtain ⟨rfl, Q1, P1⟩ := hR
  have F2 := hide ((unhide FH).call Q1 P1)
  clear FH Q1 P1
  have FH := F2
  clear F2
  refine ⟨_, rfl, fun a17 K17 => ?_⟩
  clear K15
  refine ltake (v := .bool true) (w' := W16) K17 rfl rfl (want_none rfl) (fun ev E => ?_) (fun a18 K18 => ?_)
  · have EC := E.const; have E13 := E.tmp 13 _ rfl; have E15 := E.tmp 15 _ rfl; clear E; clear FH LH HR; (try simp only [slZ, smZ, putF, slV, smL, msL] at *); go_simp
  clear K17
  refine las K18 rfl rfl (want_none rfl) rfl rfl (fun a19 K19 => ?_)
  clear K18
  refine nilN ?_
  refine wp_ret ?_
  refine bodyPost_ret (v := .bool true) ?_ K19.defers ⟨rfl, (unhide FH).keep, (unhide FH).po⟩
  have e2 := K19.has 2 _ rfl
  simp [results, Try.results49, go_sem, e2]
end Go.Proofs.Ytjnkgakajenoaaa
/- The program's forest as one plain forest: Check. -/

namespace Go.Proofs.Ytjnkgakajenoaaa
open Go.RowKit Go.Arb
set_option linter.unusedVariables false
theorem aCheck {w : World} {p : Nat} {T : Tr} {ks : List Nat} (h : At w p T ks) : Calls Try.prog 49 #[.pointer (some ⟨p, 0, none⟩)] w fun e w' => e = .returned (.bool true) ∧ ∃ ks', At w' p T ks' ∧ Keep ks w w' ∧ Grew w ks ks' := by
  obtain ⟨g, n, cap, S, G, h1, h2, rfl⟩ := h
  refine (checkL rfl h1 h2).mono ?_
  rintro e w' ⟨rfl, q1, q2⟩
  exact ⟨rfl, At.of rfl q1 q2 h2⟩
end Go.Proofs.Ytjnkgakajenoaaa
/- One forest of a law's own, beside blocks that it does not touch. -/

namespace Go.Proofs.Ytjnkgakajenoaaa
open Go.RowKit Go.Arb
set_option linter.unusedVariables false
set_option linter.unusedSimpArgs false

structure Ob (w W : World) (p : Nat) (T : Tr) (js : List Nat) : Prop where
  bel : Below w.heap.size w W
  ex : ∃ ks, At W p T ks ∧ (∀ k ∈ ks, w.heap.size ≤ k) ∧ ∀ j ∈ js, j ∉ ks
  jl : ∀ j ∈ js, j < W.heap.size
def Kept (js : List Nat) (W W' : World) : Prop := ∀ j ∈ js, W'.heap[j]? = W.heap[j]?

section
variable {w W W' : World} {p : Nat} {T T' : Tr} {js : List Nat}
theorem Kept.refl (js : List Nat) (W : World) : Kept js W W := fun _ _ => rfl
theorem Kept.trans {W'' : World} (h : Kept js W W') (k : Kept js W' W'') : Kept js W W'' := fun j hj => (k j hj).trans (h j hj)
theorem Ob.wf (h : Ob w W p T js) : T.Wf := by obtain ⟨ks, h1, _⟩ := h.ex; exact h1.wf
theorem Ob.fit (h : Ob w W p T js) : T.Fit := by obtain ⟨ks, h1, _⟩ := h.ex; exact h1.fit
theorem Ob.call {f : Nat} {args : Array Value} {r : Value} (h : Ob w W p T js)
    (hc : ∀ ks, At W p T ks → Calls Try.prog f args W fun e W' => e = .returned r ∧ ∃ ks', At W' p T' ks' ∧ Keep ks W W' ∧ Grew W ks ks') :
    Calls Try.prog f args W fun e W' => e = .returned r ∧ Ob w W' p T' js ∧ Kept js W W' := by
  obtain ⟨ks, h1, h2, h3⟩ := h.ex
  refine (hc ks h1).mono ?_
  rintro e W' ⟨rfl, ks', q1, q2, q3⟩
  refine ⟨rfl, ⟨q2.below h.bel h.bel.size h2, ⟨ks', q1, ge_grew h2 h.bel.size q3, fun j hj hm => ?_⟩, fun j hj => Nat.lt_of_lt_of_le (h.jl j hj) q2.size⟩, fun j hj => q2.block j (h.jl j hj) (h3 j hj)⟩
  rcases q3 j hm with h4 | h4
  · exact h3 j hj h4
  · have := h.jl j hj; omega
theorem Ob.below (h : Ob w W p T js) (hb : Below W.heap.size W W') : Ob w W' p T js ∧ Kept js W W' := by
  obtain ⟨ks, h1, h2, h3⟩ := h.ex
  exact ⟨⟨h.bel.trans (hb.mono h.bel.size), ⟨ks, h1.below hb, h2, h3⟩, fun j hj => Nat.lt_of_lt_of_le (h.jl j hj) hb.size⟩, fun j hj => hb.block j (h.jl j hj)⟩
theorem Ob.alloc (h : Ob w W p T js) (o : Obj) : Ob w (W.alloc o) p T js := (h.below ((Below.refl _ _).alloc (Nat.le_refl _) o)).1
theorem kept_alloc (h : Ob w W p T js) (o : Obj) : Kept js W (W.alloc o) := (h.below ((Below.refl _ _).alloc (Nat.le_refl _) o)).2
theorem Ob.drewN (h : Ob w W p T js) (m : Nat) : Ob w (W.drewN m) p T js := (h.below (below_drewN (Below.refl _ _) m)).1
theorem Ob.drew (h : Ob w W p T js) : Ob w W.drew p T js := (h.below (Below.refl _ _).drew).1
/-- A block that is laid now stands beside. -/
theorem Ob.push (h : Ob w W p T js) (o : Obj) : Ob w (W.alloc o) p T (W.heap.size :: js) := by
  have h' := h.alloc o
  obtain ⟨ks, h1, h2, h3⟩ := h.ex
  have hb := (Below.refl W.heap.size W).alloc (Nat.le_refl _) o
  refine ⟨h'.bel, ⟨ks, h1.below hb, h2, fun j hj => ?_⟩, fun j hj => ?_⟩
  · rcases List.mem_cons.1 hj with rfl | hj
    · exact fun hm => by have := h1.lt _ hm; omega
    · exact h3 j hj
  · rcases List.mem_cons.1 hj with rfl | hj
    · simp
    · exact h'.jl j hj
theorem Ob.less {is : List Nat} (h : Ob w W p T js) (hs : ∀ j ∈ is, j ∈ js) : Ob w W p T is := by
  obtain ⟨ks, h1, h2, h3⟩ := h.ex
  exact ⟨h.bel, ⟨ks, h1, h2, fun j hj => h3 j (hs j hj)⟩, fun j hj => h.jl j (hs j hj)⟩
/-- A store into one that stands beside. -/
theorem Ob.store (h : Ob w W p T js) {b : Nat} (hb : b ∈ js) (hw : w.heap.size ≤ b) (o : Nat) (u : Value) : Ob w (W.setCell ⟨b, o, none⟩ u) p T js := by
  obtain ⟨ks, h1, h2, h3⟩ := h.ex
  exact ⟨h.bel.setCell (p := ⟨b, o, none⟩) hw u, ⟨ks, h1.keep (keep_cell _ _ _ _) (off_one (h3 b hb)), h2, h3⟩, fun j hj => by simpa [World.setCell] using h.jl j hj⟩
theorem oNew (n : Nat) (W : World) (hb : Below w.heap.size w W) (hj : ∀ j ∈ js, j < W.heap.size) (h1 : n ≤ 1048576) :
    Calls Try.prog 14 #[.int .i64 (n : Int)] W fun e W' => ∃ p, e = .returned (.pointer (some ⟨p, 0, none⟩)) ∧ Ob w W' p (Tr.new n) js ∧ Kept js W W' := by
  refine (aNew n W h1).mono ?_
  rintro e W' ⟨p, ks, rfl, q1, q2, q3⟩
  refine ⟨p, rfl, ⟨hb.trans (q2.mono hb.size), ⟨ks, q1, fun k hk => Nat.le_trans hb.size (q3 k hk), fun j h1 h2 => ?_⟩, fun j h1 => Nat.lt_of_lt_of_le (hj j h1) q2.size⟩, fun j h1 => q2.block j (hj j h1)⟩
  have := hj j h1
  have := q3 j h2
  omega
theorem SumAt.kept {b : Nat} {x : Sm} (h : SumAt W b x) (hk : Kept js W W') (hb : b ∈ js) : SumAt W' b x := by
  have e := hk b hb
  have c : ∀ o, W'.cell? ⟨b, o, none⟩ = W.cell? ⟨b, o, none⟩ := fun o => World.cell?_of_block (w := W) (a := ⟨b, o, none⟩) e
  have f : ∀ o, W'.frozen? ⟨b, o, none⟩ = W.frozen? ⟨b, o, none⟩ := fun o => World.frozen?_of_block (w := W) (a := ⟨b, o, none⟩) e
  simpa only [SumAt, c, f] using h
theorem SumAt.new (W : World) (t : TypeId) (c s a b : Int) : SumAt (W.alloc (.cells #[.int .i64 c, .int .i64 s, .int .i64 a, .int .i64 b] t)) W.heap.size ⟨c, s, a, b⟩ := by simp [SumAt, go_sem]
end

/-- A block that stands beside, whole. -/
def BoxAt (W : World) (b : Nat) (cs : Array Value) (t : TypeId) : Prop := W.heap[b]? = some (.cells cs t)
theorem BoxAt.kept {W W' : World} {js : List Nat} {b : Nat} {cs : Array Value} {t : TypeId} (h : BoxAt W b cs t) (hk : Kept js W W') (hb : b ∈ js) : BoxAt W' b cs t := (hk b hb).trans h
theorem BoxAt.cell {W : World} {b : Nat} {cs : Array Value} {t : TypeId} (h : BoxAt W b cs t) {o : Nat} {v : Value} (hv : cs[o]? = some v) : W.cell? ⟨b, o, none⟩ = some v ∧ W.frozen? ⟨b, o, none⟩ = false := by
  unfold BoxAt at h
  simp [World.cell?, World.frozen?, h, hv]
theorem BoxAt.new (W : World) (cs : Array Value) (t : TypeId) : BoxAt (W.alloc (.cells cs t)) W.heap.size cs t := heap_alloc_new W _

abbrev aw1 : Tr := (Tr.new 4).addI 0 5
abbrev aw2 : Tr := aw1.addI 1 7
abbrev aw3 : Tr := aw2.addI 2 (-1)
abbrev aw4 : Tr := aw3.linkI 1 0
abbrev aw5 : Tr := aw4.linkI 2 1
abbrev aw6 : Tr := aw5.pathAdd 1 2 10
abbrev aw7 : Tr := aw6.evertI 2
theorem aw_path : aw5.pathI 0 2 = ⟨3, 11, -1, 7⟩ := Sm.same (by decide) (by decide) (by decide) (by decide)

set_option maxRecDepth 100000 in
set_option maxHeartbeats 4000000 in
theorem awake_any (w : World) : Calls Try.prog 50 #[] w fun e w' => e = .returned (.bool true) ∧ Below w.heap.size w w' := by
  have f1 : (Tr.new 4).addB 0 5 = true := by decide
  have f2 : aw1.addB 1 7 = true := by decide
  have f3 : aw2.addB 2 (-1) = true := by decide
  have f4 : aw3.linkB 1 0 = true := by decide
  have f5 : aw4.linkB 2 1 = true := by decide
  have f6 : aw5.sameI 0 2 = true := by decide
  have f7 : aw5.raiseB 1 2 10 = true := by decide
  have f8 : aw6.hasI 2 = true := by decide
  have f9 : aw7.rootI 0 = 2 := by decide
  have f10 : aw7.parI 0 = 1 := by decide
  have f11 : aw7.subI 1 = ⟨2, 22, (aw7.subI 1).a, (aw7.subI 1).b⟩ := Sm.same (by decide) (by decide) rfl rfl
  have f12 : aw7.hasI 1 = true := by decide
  have f13 : aw7.lcaI 0 1 = 1 := by decide
  have f14 : aw7.sizeI 0 = 3 := by decide
  have f15 : aw7.linkB 0 2 = false := by decide
  go_enter Try.func50, Try.ntmps50
  go_wp2_with fail
  refine (oNew (js := []) 4 w (Below.refl _ _) (by simp) (by decide)).mono ?_
  rintro e w1 ⟨p, rfl, h, _⟩
  have H1 := hide h
  clear h
  go_wp2_with fail
  refine ((unhide H1).call fun _ ha => aAdd _ _ ha).mono ?_
  rintro e w2 ⟨rfl, h, _⟩
  have H2 := hide h
  rw [f1]
  clear h H1 f1
  go_wp2_with fail
  refine ((unhide H2).call fun _ ha => aAdd _ _ ha).mono ?_
  rintro e w3 ⟨rfl, h, _⟩
  have H3 := hide h
  rw [f2]
  clear h H2 f2
  go_wp2_with fail
  refine ((unhide H3).call fun _ ha => aAdd _ _ ha).mono ?_
  rintro e w4 ⟨rfl, h, _⟩
  have H4 := hide h
  rw [f3]
  clear h H3 f3
  go_wp2_with fail
  refine ((unhide H4).call fun _ ha => aLink _ _ ha).mono ?_
  rintro e w5 ⟨rfl, h, _⟩
  have H5 := hide h
  rw [f4]
  clear h H4 f4
  go_wp2_with fail
  refine ((unhide H5).call fun _ ha => aLink _ _ ha).mono ?_
  rintro e w6 ⟨rfl, h, _⟩
  have H6 := hide h
  rw [f5]
  clear h H5 f5
  go_wp2_with fail
  refine ((unhide H6).call fun _ ha => aPath _ _ ha).mono ?_
  rw [aw_path, f6]
  unfold smV
  dsimp only
  rintro e w7 ⟨rfl, h, _⟩
  have H7 := hide (And.intro (h.push (.cells #[.int .i64 3, .int .i64 11, .int .i64 (-1), .int .i64 7] 34)) (SumAt.new w7 34 3 11 (-1) 7))
  clear h H6 f6
  go_wp2_with fail
  generalize w7.alloc (.cells #[.int .i64 3, .int .i64 11, .int .i64 (-1), .int .i64 7] 34) = W7 at *
  generalize w7.heap.size = b at *
  refine ((unhide H7).1.call fun _ ha => aPathAdd _ _ _ ha).mono ?_
  rintro e w8 ⟨rfl, h, k⟩
  have H8 := hide (And.intro h ((unhide H7).2.kept k (by simp)))
  rw [f7]
  clear h k H7 f7
  go_wp2_with fail
  refine ((unhide H8).1.call fun _ ha => aEvert _ ha).mono ?_
  rintro e w9 ⟨rfl, h, k⟩
  have H9 := hide (And.intro h ((unhide H8).2.kept k (by simp)))
  rw [f8]
  clear h k H8 f8
  go_wp2_with fail
  refine ((unhide H9).1.call fun _ ha => aRoot _ ha).mono ?_
  rintro e w10 ⟨rfl, h, k⟩
  have H10 := hide (And.intro h ((unhide H9).2.kept k (by simp)))
  rw [f9]
  clear h k H9 f9
  go_wp2_with fail
  refine ((unhide H10).1.call fun _ ha => aParent _ ha).mono ?_
  rintro e w11 ⟨rfl, h, k⟩
  have H11 := hide (And.intro h ((unhide H10).2.kept k (by simp)))
  rw [f10]
  clear h k H10 f10
  go_wp2_with fail
  refine ((unhide H11).1.call fun _ ha => aSub _ ha).mono ?_
  rw [f11, f12]
  dsimp only
  rintro e w12 ⟨rfl, h, k⟩
  have s12 := (unhide H11).2.kept k (by simp)
  have H12 := hide (And.intro h s12)
  obtain ⟨⟨q0, q1, q2, q3⟩, _⟩ := s12
  clear h k H11 f11 f12
  go_wp2_with fail
  refine ((unhide H12).1.call fun _ ha => aLca _ _ ha).mono ?_
  rintro e w13 ⟨rfl, h, k⟩
  have H13 := hide h
  rw [f13]
  clear h k H12 f13 q0 q1 q2 q3
  go_wp2_with fail
  refine ((unhide H13).call fun _ ha => aSize _ ha).mono ?_
  rintro e w14 ⟨rfl, h, k⟩
  have H14 := hide h
  rw [f14]
  clear h k H13 f14
  go_wp2_with fail
  refine ((unhide H14).call fun _ ha => aLink _ _ ha).mono ?_
  rintro e w15 ⟨rfl, h, k⟩
  have H15 := hide h
  rw [f15]
  clear h k H14 f15
  go_wp2_with fail
  refine ((unhide H15).call fun _ ha => aCheck ha).mono ?_
  rintro e w16 ⟨rfl, h, k⟩
  have H16 := hide h
  clear h k H15
  go_wp2
  go_ret
  exact ⟨rfl, (unhide H16).bel⟩
end Go.Proofs.Ytjnkgakajenoaaa
/- A forest of one node, in plain mathematics. -/

namespace Go.Proofs.Ytjnkgakajenoaaa
set_option linter.unusedVariables false
set_option linter.unusedSimpArgs false

theorem addI_yes {T : Tr} {v w : Int} (h : T.addB v w = true) : T.addI v w = T.add v.toNat w := by simp [Tr.addI, h]
theorem addI_no {T : Tr} {v w : Int} (h : T.addB v w = false) : T.addI v w = T := by simp [Tr.addI, h]
theorem linkI_yes {T : Tr} {c p : Int} (h : T.linkB c p = true) : T.linkI c p = T.link c.toNat p.toNat := by simp [Tr.linkI, h]
theorem linkI_no {T : Tr} {c p : Int} (h : T.linkB c p = false) : T.linkI c p = T := by simp [Tr.linkI, h]
theorem setI_no {T : Tr} {v w : Int} (h : (T.hasI v && fitB w) = false) : T.setI v w = T := by rw [Tr.setI, h]; rfl
theorem cutI_yes {T : Tr} {v : Int} (h : T.cutB v = true) : T.cutI v = T.cut v.toNat := by simp [Tr.cutI, h]
theorem cutI_no {T : Tr} {v : Int} (h : T.cutB v = false) : T.cutI v = T := by simp [Tr.cutI, h]
theorem dropI_yes {T : Tr} {v : Int} (h : T.goB v = true) : T.dropI v = T.drop v.toNat := by simp [Tr.dropI, h]
theorem dropI_no {T : Tr} {v : Int} (h : T.goB v = false) : T.dropI v = T := by simp [Tr.dropI, h]
theorem evertI_yes {T : Tr} {v : Int} (h : T.hasI v = true) : T.evertI v = T.evert v.toNat := by simp [Tr.evertI, h]
theorem evertI_no {T : Tr} {v : Int} (h : T.hasI v = false) : T.evertI v = T := by simp [Tr.evertI, h]

section
variable {n k : Nat} {x : Int}
theorem new_has (n : Nat) (v : Int) : (Tr.new n).hasI v = false := by simp [Tr.hasI, Tr.new]
theorem new_cut (n : Nat) (v : Int) : (Tr.new n).cutB v = false := by simp [Tr.cutB, Tr.parI, new_has]
theorem new_go (n : Nat) (v : Int) : (Tr.new n).goB v = false := by simp [Tr.goB, new_has]
abbrev lone (n k : Nat) (x : Int) : Tr := (Tr.new n).add k x
theorem new_add (hk : k < n) (hx : fitB x = true) : (Tr.new n).addB k x = true := by
  simp [Tr.addB, new_has, hx]
  simp [Tr.new]; exact hk
theorem lone_wf (hk : k < n) : (lone n k x).Wf := (Tr.Wf.new n).add rfl hk
theorem lone_par : (lone n k x).par k = -1 := by simp [lone, Tr.add, updF]
theorem lone_wt : (lone n k x).wt k = x := by simp [lone, Tr.add, updF]
theorem lone_other {u : Nat} (h : u ≠ k) : (lone n k x).par u = -2 := by simp [lone, Tr.add, updF, h, Tr.new]
theorem lone_has : (lone n k x).hasI k = true := by rw [Tr.hasI_nat, lone_par]; rfl
theorem lone_add : (lone n k x).addB k x = false := by simp [Tr.addB, lone_has]
theorem lone_up (hk : k < n) : (lone n k x).up k = [k] := (lone_wf hk).up_root lone_par
theorem lone_root (hk : k < n) : (lone n k x).rootI k = k := by rw [Tr.rootI, Tr.upI_nat, lone_up hk]; rfl
theorem lone_parI : (lone n k x).parI k = -1 := by simp [Tr.parI, lone_has, lone_par]
theorem lone_same (hk : k < n) : (lone n k x).sameI k k = true := by
  simp only [Tr.sameI, lone_root hk]
  simp
theorem lone_lca (hk : k < n) : (lone n k x).lcaI k k = k := by
  rw [Tr.lcaI, Tr.upI_nat, lone_up hk]; simp [lcaL, meetL]
theorem lone_path (hk : k < n) : (lone n k x).pathI k k = one x := by
  rw [Tr.pathI, Tr.wayI, Tr.upI_nat, lone_up hk]
  simp [wayL, meetL, lone_wt]
  exact ofL_one x
theorem lone_sub (hk : k < n) : (lone n k x).subI k = one x := by
  rw [Tr.subI, if_pos lone_has, Int.toNat_natCast]
  have : (lone n k x).sub k = [k] := by
    have hp : (fun u => decide (k ∈ (lone n k x).up u)) = fun u => decide (u = k) := by
      funext u
      by_cases e : u = k
      · subst e; simp [lone_up hk]
      · rw [(lone n k x).up_gone (lone_other e)]; simp [e]
    unfold Tr.sub
    rw [hp]
    have : ∀ m, k < m → (List.range m).filter (fun u => decide (u = k)) = [k] := by
      intro m
      induction m with
      | zero => intro h; omega
      | succ m ih =>
        intro h
        rw [List.range_succ, List.filter_append]
        by_cases e : m = k
        · subst e
          rw [List.filter_eq_nil_iff.2 (fun u hu => by have := List.mem_range.1 hu; simp; omega)]
          simp
        · rw [ih (by omega)]; simp [e]
    exact this n hk
  rw [this]
  simp only [List.map_cons, List.map_nil, lone_wt, ofL_one]
theorem lone_size (hk : k < n) : (lone n k x).sizeI k = 1 := by rw [Tr.sizeI, lone_root hk, lone_sub hk]; rfl
theorem lone_link (hk : k < n) : (lone n k x).linkB k k = false := by simp [Tr.linkB, lone_root hk]
theorem lone_cut : (lone n k x).cutB k = false := by simp [Tr.cutB, lone_parI]
theorem lone_evert (hk : k < n) : (lone n k x).evert k = lone n k x := by
  unfold Tr.evert
  rw [lone_up hk]
  simp only [turn]
  have : updF (lone n k x).par k (-1) = (lone n k x).par := by
    funext u
    by_cases e : u = k
    · subst e; rw [updF_same, lone_par]
    · rw [updF_other _ _ e]
  rw [this]
theorem lone_get : (lone n k x).getI k = x := by simp [Tr.getI, lone_has, lone_wt]
theorem lone_go (hk : k < n) : (lone n k x).goB k = true := by
  simp only [Tr.goB, lone_has, Int.toNat_natCast, lone_par]
  have : (lone n k x).kidB k = false := by
    rw [Tr.kidB, List.any_eq_false]
    intro u _
    by_cases e : u = k
    · subst e; rw [lone_par]; simp
    · rw [lone_other e]; simp
  rw [this]; rfl
theorem lone_drop : (lone n k x).drop k = Tr.new n := by
  simp only [lone, Tr.drop, Tr.add, Tr.new]
  congr 1
  · funext u; by_cases e : u = k <;> simp [updF, e]
  · funext u; by_cases e : u = k <;> simp [updF, e]
end
end Go.Proofs.Ytjnkgakajenoaaa
/- What follows of cutting, linking and turning: sizes, subtrees, ways. No Go in sight. -/

namespace Go.Proofs.Ytjnkgakajenoaaa
set_option linter.unusedVariables false
set_option linter.unusedSimpArgs false

theorem ofL_perm {l m : List Int} (h : l.Perm m) : ofL l = ofL m := by rw [ofL_eq, ofL_eq, ofR_perm h]
theorem ofL_c (l : List Int) : (ofL l).c = l.length := by rw [ofL_eq, ofR_c]

theorem len_filter_split (p q : Nat → Bool) (l : List Nat) (h : ∀ u ∈ l, q u = true → p u = true) : (l.filter p).length = (l.filter q).length + (l.filter (fun u => p u && !q u)).length := by
  induction l with
  | nil => rfl
  | cons u l ih =>
    have := ih (fun x hx => h x (by simp [hx]))
    have hu := h u (by simp)
    cases hp : p u <;> cases hq : q u <;> simp [List.filter_cons, hp, hq] <;> first | omega | (rw [hq, hp] at hu; simp at hu)
theorem len_filter_or (p q : Nat → Bool) (l : List Nat) (h : ∀ u ∈ l, p u = true → q u = false) : (l.filter (fun u => p u || q u)).length = (l.filter p).length + (l.filter q).length := by
  induction l with
  | nil => rfl
  | cons u l ih =>
    have := ih (fun x hx => h x (by simp [hx]))
    have hu := h u (by simp)
    cases hp : p u <;> cases hq : q u <;> simp [List.filter_cons, hp, hq] <;> first | omega | (rw [hq] at hu; simp [hp] at hu)
theorem filter_eq {p q : Nat → Bool} {l : List Nat} (h : ∀ u ∈ l, p u = q u) : l.filter p = l.filter q := List.filter_congr h

section
variable {T : Tr} {u v c p r t : Nat} {a b cc : List Nat}

theorem Tr.Wf.root_iff (h : T.Wf) (hu : T.par u ≠ -2) : T.rootI u = (r : Int) ↔ (r ∈ T.up u ∧ T.par r = -1) := by
  obtain ⟨r', e, h1, h2⟩ := h.rootI_in hu
  constructor
  · intro e'
    have : r' = r := by omega
    subst this; exact ⟨h2, h1⟩
  · rintro ⟨h3, h4⟩
    rw [Tr.rootI, T.upI_nat]; exact (h.spec hu).root_last h3 h4
theorem Tr.Wf.root_mem (h : T.Wf) (hr : T.par r = -1) (u : Nat) : r ∈ T.up u ↔ T.rootI u = (r : Int) := by
  by_cases hu : T.par u = -2
  · rw [T.up_gone hu, Tr.rootI_gone (by rw [T.hasI_nat, hu]; rfl)]; simp
  · rw [h.root_iff hu]; simp [hr]
theorem Tr.Wf.rootN (h : T.Wf) (hu : T.par u ≠ -2) : ∃ r : Nat, T.rootI u = (r : Int) ∧ T.par r = -1 ∧ r ∈ T.up u := h.rootI_in hu
theorem Tr.subI_nat (hv : T.par v ≠ -2) : T.subI v = ofL ((T.sub v).map T.wt) := by
  rw [Tr.subI, T.hasI_nat, show (T.par v != -2) = true from by simpa using hv]; simp
theorem Tr.subI_c (hv : T.par v ≠ -2) : (T.subI v).c = (T.sub v).length := by rw [Tr.subI_nat hv, ofL_c, List.length_map]
theorem Tr.Wf.sub_root (h : T.Wf) (hr : T.par r = -1) : T.sub r = (List.range T.n).filter (fun u : Nat => T.rootI (u : Int) == (r : Int)) := by
  refine filter_eq fun u _ => ?_
  rw [Bool.eq_iff_iff, decide_eq_true_iff, beq_iff_eq]; exact h.root_mem hr u
theorem Tr.Wf.size_eq (h : T.Wf) (hv : T.par v ≠ -2) : T.sizeI v = ((List.range T.n).filter (fun u : Nat => T.rootI (u : Int) == T.rootI v)).length := by
  obtain ⟨r, e, h1, h2⟩ := h.rootN hv
  rw [Tr.sizeI, e, Tr.subI_c (by omega), h.sub_root h1]
theorem Tr.hasI_there (hv : T.par v ≠ -2) : T.hasI v = true := by rw [T.hasI_nat]; simpa using hv
theorem Tr.Wf.root_has (h : T.Wf) (hv : T.par v ≠ -2) : T.rootI v ≠ -1 := by
  obtain ⟨r, e, _, _⟩ := h.rootN hv
  omega
theorem Tr.Wf.same_iff (h : T.Wf) (hu : T.par u ≠ -2) : T.sameI u v = (T.rootI u == T.rootI v) := by
  unfold Tr.sameI
  rw [show (T.rootI u != -1) = true from by simpa using h.root_has hu, Bool.true_and]

/- A node is cut off. -/
theorem Tr.cut_gone (hc : T.par c ≠ -2) : (T.cut c).par u = -2 ↔ T.par u = -2 := by
  by_cases e : u = c
  · subst e; simp [Tr.cut, updF, hc]
  · simp [Tr.cut, updF, e]
theorem Tr.Wf.cut_up_in (h : T.Wf) (hc : T.par c ≠ -2) (e : T.up u = a ++ c :: b) : (T.cut c).up u = a ++ [c] := (h.cut hc).eq (h.cut_in e)
theorem Tr.Wf.cut_up_out (h : T.Wf) (hc : T.par c ≠ -2) (hn : c ∉ T.up u) : (T.cut c).up u = T.up u := by
  by_cases hu : T.par u = -2
  · rw [T.up_gone hu, Tr.up_gone _ ((Tr.cut_gone hc).2 hu)]
  · exact (h.cut hc).eq (h.cut_out hu hn)
theorem Tr.Wf.cut_mem (h : T.Wf) (hc : T.par c ≠ -2) (u : Nat) : c ∈ (T.cut c).up u ↔ c ∈ T.up u := by
  by_cases hm : c ∈ T.up u
  · obtain ⟨a, b, e⟩ := List.append_of_mem hm
    rw [h.cut_up_in hc e]; simp [hm]
  · rw [h.cut_up_out hc hm]
theorem Tr.Wf.cut_sub (h : T.Wf) (hc : T.par c ≠ -2) : (T.cut c).sub c = T.sub c := filter_eq fun u _ => by
  rw [Bool.eq_iff_iff, decide_eq_true_iff, decide_eq_true_iff]; exact h.cut_mem hc u
theorem cut_par (T : Tr) (c : Nat) : (T.cut c).par c = -1 := by simp [Tr.cut, updF]
theorem Tr.Wf.cut_subI (h : T.Wf) (hc : T.par c ≠ -2) : (T.cut c).subI c = T.subI c := by
  rw [Tr.subI_nat hc, Tr.subI_nat (T := T.cut c) (by rw [cut_par]; omega), h.cut_sub hc]; rfl
theorem Tr.Wf.kid_not (h : T.Wf) (hp : T.par c = (p : Int)) : c ∉ T.up p := by
  have h1 := h.spec (v := c) (by omega)
  rw [h.up_step hp] at h1
  exact (List.nodup_cons.1 h1.nodup).1
theorem Tr.Wf.cut_size (h : T.Wf) (hp : T.par c = (p : Int)) : (T.cut c).sizeI p = T.sizeI c - (T.subI c).c := by
  have hc : T.par c ≠ -2 := by omega
  have hpt := h.par_there hp
  obtain ⟨r, er, hr, hrp⟩ := h.rootN hpt
  have hcp := h.kid_not hp
  have hrc : T.rootI c = (r : Int) := by rw [Tr.rootI, T.upI_nat, h.up_step hp, lastI_cons _ (h.spec hpt).ne, ← T.upI_nat]; exact er
  have hne : r ≠ c := fun e => hcp (e ▸ hrp)
  have hr' : (T.cut c).par r = -1 := by simp [Tr.cut, updF, hne, hr]
  have hup : (T.cut c).up p = T.up p := h.cut_up_out hc hcp
  have er' : (T.cut c).rootI p = (r : Int) := by rw [Tr.rootI, Tr.upI_nat, hup, ← T.upI_nat]; exact er
  have hpt' : (T.cut c).par p ≠ -2 := fun e => hpt ((Tr.cut_gone hc).1 e)
  rw [(h.cut hc).size_eq hpt', h.size_eq hc, er', hrc, Tr.subI_c hc]
  have := len_filter_split (fun u : Nat => T.rootI (u : Int) == (r : Int)) (fun u => decide (c ∈ T.up u)) (List.range T.n) (fun u _ hu => by
    rw [decide_eq_true_iff] at hu
    rw [beq_iff_eq, ← h.root_mem hr]
    exact h.trans hu ((h.root_mem hr c).2 hrc))
  have e3 : (List.range (T.cut c).n).filter (fun u : Nat => (T.cut c).rootI (u : Int) == (r : Int)) = (List.range T.n).filter (fun u : Nat => (T.rootI (u : Int) == (r : Int)) && !decide (c ∈ T.up u)) := by
    refine filter_eq fun u _ => ?_
    rw [Bool.eq_iff_iff, beq_iff_eq, ← (h.cut hc).root_mem hr', Bool.and_eq_true, beq_iff_eq, ← h.root_mem hr, Bool.not_eq_true', decide_eq_false_iff_not]
    by_cases hm : c ∈ T.up u
    · simp only [hm, not_true, and_false, iff_false]
      obtain ⟨a, b, e⟩ := List.append_of_mem hm
      rw [h.cut_up_in hc e]
      have hra : r ∈ T.up u := h.trans hm ((h.root_mem hr c).2 hrc)
      have nd := (h.spec (Tr.there hm)).nodup
      rw [e] at nd hra
      intro hx
      rw [List.mem_append, List.mem_singleton] at hx
      rcases hx with hx | hx
      · have hrb : r ∈ b := by
          have := h.tail e
          have h5 := (h.root_mem hr c).2 hrc
          rw [this] at h5
          rcases List.mem_cons.1 h5 with h6 | h6
          · exact absurd h6 hne
          · exact h6
        exact (List.nodup_append.1 nd).2.2 r hx r (by simp [hrb]) rfl
      · exact hne hx
    · rw [h.cut_up_out hc hm]; simp [hm]
  rw [e3]
  unfold Tr.sub
  omega
theorem Tr.cut_link (hp : T.par c = (p : Int)) : (T.cut c).link c p = T := by
  cases T
  simp only [Tr.cut, Tr.link]
  congr 1
  funext u
  by_cases e : u = c
  · subst e; simp [updF]; exact hp.symm
  · simp [updF, e]

/- A root becomes a kid. -/
theorem Tr.link_gone (hc : T.par c ≠ -2) : (T.link c p).par u = -2 ↔ T.par u = -2 := by
  by_cases e : u = c
  · subst e; simp [Tr.link, updF, hc]
  · simp [Tr.link, updF, e]
theorem Tr.Wf.link_up_in (h : T.Wf) (hc : T.par c = -1) (hp : T.par p ≠ -2) (hr : c ∉ T.up p) (hu : c ∈ T.up u) : (T.link c p).up u = T.up u ++ T.up p := (h.link hc hp hr).eq (h.link_in hc hp hr hu)
theorem Tr.Wf.link_up_out (h : T.Wf) (hc : T.par c = -1) (hp : T.par p ≠ -2) (hr : c ∉ T.up p) (hn : c ∉ T.up u) : (T.link c p).up u = T.up u := by
  by_cases hu : T.par u = -2
  · rw [T.up_gone hu, Tr.up_gone _ ((Tr.link_gone (by omega)).2 hu)]
  · exact (h.link hc hp hr).eq (h.link_out hu hn)
theorem Tr.Wf.link_sub (h : T.Wf) (hc : T.par c = -1) (hp : T.par p ≠ -2) (hr : c ∉ T.up p) : (T.link c p).sub c = T.sub c := filter_eq fun u _ => by
  rw [Bool.eq_iff_iff, decide_eq_true_iff, decide_eq_true_iff]
  by_cases hm : c ∈ T.up u
  · rw [h.link_up_in hc hp hr hm]; simp [hm]
  · rw [h.link_up_out hc hp hr hm]
theorem link_par (T : Tr) (c p : Nat) : (T.link c p).par c = (p : Int) := by simp [Tr.link, updF]
theorem Tr.Wf.link_subI (h : T.Wf) (hc : T.par c = -1) (hp : T.par p ≠ -2) (hr : c ∉ T.up p) : (T.link c p).subI c = T.subI c := by
  rw [Tr.subI_nat (T := T) (by omega), Tr.subI_nat (T := T.link c p) (by rw [link_par]; omega), h.link_sub hc hp hr]; rfl
theorem Tr.Wf.link_size (h : T.Wf) (hc : T.par c = -1) (hp : T.par p ≠ -2) (hr : c ∉ T.up p) : (T.link c p).sizeI p = T.sizeI p + (T.subI c).c := by
  have w' := h.link hc hp hr
  obtain ⟨r, er, hrr, hrp⟩ := h.rootN hp
  have hne : r ≠ c := fun e => hr (e ▸ hrp)
  have hr' : (T.link c p).par r = -1 := by simp [Tr.link, updF, hne, hrr]
  have er' : (T.link c p).rootI p = (r : Int) := by rw [Tr.rootI, Tr.upI_nat, h.link_up_out hc hp hr hr, ← T.upI_nat]; exact er
  have hp' : (T.link c p).par p ≠ -2 := fun e => hp ((Tr.link_gone (by omega)).1 e)
  rw [w'.size_eq hp', h.size_eq hp, er', er, Tr.subI_c (by omega), h.sub_root hc]
  have e3 : (List.range (T.link c p).n).filter (fun u : Nat => (T.link c p).rootI (u : Int) == (r : Int)) = (List.range T.n).filter (fun u : Nat => (T.rootI (u : Int) == (r : Int)) || (T.rootI (u : Int) == (c : Int))) := by
    refine filter_eq fun u _ => ?_
    rw [Bool.eq_iff_iff, beq_iff_eq, ← w'.root_mem hr', Bool.or_eq_true, beq_iff_eq, beq_iff_eq, ← h.root_mem hrr, ← h.root_mem hc]
    by_cases hm : c ∈ T.up u
    · rw [h.link_up_in hc hp hr hm]; simp [hm, hrp]
    · rw [h.link_up_out hc hp hr hm]; simp [hm]
  rw [e3, len_filter_or _ _ _ (fun u _ hu => by
    rw [beq_iff_eq] at hu
    rw [beq_eq_false_iff_ne, hu]; omega)]
  omega
theorem Tr.Wf.link_lca (h : T.Wf) (hc : T.par c = -1) (hp : T.par p ≠ -2) (hr : c ∉ T.up p) : (T.link c p).lcaI c p = p := by
  rw [Tr.lcaI, Tr.upI_nat, Tr.upI_nat, h.link_up_in hc hp hr (h.self (by omega)), h.link_up_out hc hp hr hr, h.up_root hc]
  obtain ⟨t, e⟩ := (h.spec hp).head
  rw [e] at hr ⊢
  simp only [lcaL, meetL, List.cons_append, List.nil_append]
  rw [List.find?_cons_of_neg (by simpa using hr), List.find?_cons_of_pos (by simp)]

/- A way up is turned round. -/
theorem Tr.Wf.evert_up_out (h : T.Wf) (hv : T.par v ≠ -2) (hn : ∀ y ∈ T.up u, y ∉ T.up v) : (T.evert v).up u = T.up u := by
  by_cases hu : T.par u = -2
  · rw [T.up_gone hu, Tr.up_gone _ ((h.evert_there hv).2 hu)]
  · exact (h.evert hv).eq (h.evert_out hu hn)
theorem Tr.Wf.evert_up_in (h : T.Wf) (hv : T.par v ≠ -2) (hm : Meet (T.up u) (T.up v) t a b cc) : (T.evert v).up u = a ++ t :: b.reverse := (h.evert hv).eq (h.evert_in hm)
theorem Tr.Wf.evert_up_v (h : T.Wf) (hv : T.par v ≠ -2) : (T.evert v).up v = [v] := by
  obtain ⟨l, e⟩ := (h.spec hv).head
  have hm : Meet (T.up v) (T.up v) v [] [] l := ⟨by rw [e]; rfl, by rw [e]; rfl, by simp, by simp⟩
  rw [h.evert_up_in hv hm]; rfl
/-- The way up of one in the tree ends at the new root. -/
theorem Tr.Wf.evert_shape (h : T.Wf) (hv : T.par v ≠ -2) (hm : Meet (T.up u) (T.up v) t a b cc) : ∃ l, (T.evert v).up u = l ++ [v] ∧ v ∉ l ∧ (v :: l).Perm (t :: (a ++ b)) := by
  have hu : (T.evert v).par u ≠ -2 := fun e => Tr.there (x := t) (v := u) (T := T) (by rw [hm.el]; simp) ((h.evert_there hv).1 e)
  have e1 := h.evert_up_in hv hm
  obtain ⟨l0, e0⟩ := (h.spec hv).head
  rw [hm.em] at e0
  have key : ∃ l, a ++ t :: b.reverse = l ++ [v] := by
    cases b with
    | nil => simp at e0; exact ⟨a, by rw [e0.1]; rfl⟩
    | cons y b => simp at e0; exact ⟨a ++ t :: b.reverse, by simp [e0.1]⟩
  obtain ⟨l, el⟩ := key
  have nd := ((h.evert hv).spec hu).nodup
  rw [e1, el] at nd
  refine ⟨l, by rw [e1, el], ?_, ?_⟩
  · rw [List.nodup_append] at nd
    exact fun hx => nd.2.2 v hx v (by simp) rfl
  · have p1 : (v :: l).Perm (l ++ [v]) := (List.perm_append_singleton v l).symm
    rw [← el] at p1
    refine p1.trans ?_
    have p2 : (a ++ t :: b.reverse).Perm (t :: (a ++ b.reverse)) := List.perm_middle
    refine p2.trans (List.Perm.cons _ (List.Perm.append_left _ (List.reverse_perm b)))
theorem Tr.Wf.evert_root_in (h : T.Wf) (hv : T.par v ≠ -2) (hm : Meet (T.up u) (T.up v) t a b cc) : (T.evert v).rootI u = v := by
  obtain ⟨l, e, _, _⟩ := h.evert_shape hv hm
  rw [Tr.rootI, Tr.upI_nat, e, lastI_snoc]
theorem Tr.Wf.evert_root_out (h : T.Wf) (hv : T.par v ≠ -2) (hn : ∀ y ∈ T.up u, y ∉ T.up v) : (T.evert v).rootI u = T.rootI u := by
  rw [Tr.rootI, Tr.rootI, Tr.upI_nat, Tr.upI_nat, h.evert_up_out hv hn]
theorem Tr.Wf.evert_path_in (h : T.Wf) (hv : T.par v ≠ -2) (hm : Meet (T.up u) (T.up v) t a b cc) : (T.evert v).pathI u v = T.pathI u v ∧ (T.evert v).lcaI u v = v := by
  obtain ⟨l, e, hn, hp⟩ := h.evert_shape hv hm
  have hm' : Meet ((T.evert v).up u) ((T.evert v).up v) v l [] [] := ⟨e, h.evert_up_v hv, fun y hy => by rw [h.evert_up_v hv]; simp; exact fun e => hn (e ▸ hy), by simp⟩
  constructor
  · rw [Tr.pathI, Tr.pathI, Tr.wayI, Tr.wayI, Tr.upI_nat, Tr.upI_nat, Tr.upI_nat, Tr.upI_nat, hm'.way, hm.way, List.append_nil]
    exact ofL_perm (List.Perm.map T.wt hp)
  · rw [Tr.lcaI, Tr.upI_nat, Tr.upI_nat, hm'.lca]
theorem Tr.Wf.evert_same (h : T.Wf) (hv : T.par v ≠ -2) (hu : T.par u ≠ -2) : (T.evert v).sameI u v = T.sameI u v := by
  have hu' : (T.evert v).par u ≠ -2 := fun e => hu ((h.evert_there hv).1 e)
  have hv' : (T.evert v).rootI v = v := by rw [Tr.rootI, Tr.upI_nat, h.evert_up_v hv]; rfl
  rcases h.meets hu hv with ⟨t, a, b, c, hm⟩ | hn
  · rw [h.same_nat hm, (h.evert hv).same_iff hu', h.evert_root_in hv hm, hv']; simp
  · rw [(h.evert hv).same_iff hu', h.evert_root_out hv hn, hv', h.same_iff hu]
    have e1 : (T.rootI u == T.rootI v) = false := by
      rw [beq_eq_false_iff_ne]
      intro e
      obtain ⟨r, er, _, hr⟩ := h.rootN hu
      obtain ⟨r', er', _, hr'⟩ := h.rootN hv
      have : r = r' := by omega
      exact hn r hr (this ▸ hr')
    rw [e1, beq_eq_false_iff_ne]
    intro e
    obtain ⟨r, er, _, hr⟩ := h.rootN hu
    have : r = v := by omega
    subst this; exact hn _ hr (h.self hv)
theorem Tr.Wf.evert_path (h : T.Wf) (hv : T.par v ≠ -2) (hu : T.par u ≠ -2) : (T.evert v).pathI u v = T.pathI u v := by
  rcases h.meets hu hv with ⟨t, a, b, c, hm⟩ | hn
  · exact (h.evert_path_in hv hm).1
  · have hn' : ∀ y ∈ (T.evert v).up u, y ∉ (T.evert v).up v := fun y hy => by
      rw [h.evert_up_out hv hn] at hy
      rw [h.evert_up_v hv]
      intro e
      simp at e
      subst e; exact hn _ hy (h.self hv)
    rw [Tr.pathI, Tr.pathI, Tr.wayI, Tr.wayI, Tr.upI_nat, Tr.upI_nat, Tr.upI_nat, Tr.upI_nat, way_none hn, way_none hn']; rfl
theorem Tr.Wf.evert_size (h : T.Wf) (hv : T.par v ≠ -2) (hu : T.par u ≠ -2) : (T.evert v).sizeI u = T.sizeI u := by
  have hu' : (T.evert v).par u ≠ -2 := fun e => hu ((h.evert_there hv).1 e)
  rw [(h.evert hv).size_eq hu', h.size_eq hu]
  congr 2
  refine filter_eq fun x _ => ?_
  by_cases hx : T.par x = -2
  · have hx' := (h.evert_there hv).2 hx
    rw [Tr.rootI_gone (T := T) (by rw [T.hasI_nat, hx]; rfl), Tr.rootI_gone (T := T.evert v) (by rw [Tr.hasI_nat, hx']; rfl)]
    have n1 := h.root_has hu
    have n2 := (h.evert hv).root_has hu'
    rw [show (-1 == T.rootI u) = false from beq_eq_false_iff_ne.2 (fun e => n1 e.symm), show (-1 == (T.evert v).rootI u) = false from beq_eq_false_iff_ne.2 (fun e => n2 e.symm)]
  · have rootv : ∀ {y}, (∀ z ∈ T.up y, z ∉ T.up v) → T.par y ≠ -2 → T.rootI y ≠ T.rootI v ∧ T.rootI y ≠ (v : Int) := fun {y} hn hy => by
      obtain ⟨r, er, _, hr⟩ := h.rootN hy
      obtain ⟨r', er', _, hr'⟩ := h.rootN hv
      constructor
      · intro e
        have : r = r' := by omega
        exact hn r hr (this ▸ hr')
      · intro e
        have : r = v := by omega
        subst this; exact hn _ hr (h.self hv)
    have rootm : ∀ {y t a b c}, Meet (T.up y) (T.up v) t a b c → T.rootI y = T.rootI v := fun {y t a b c} hm => by
      rw [Tr.rootI, Tr.rootI, T.upI_nat, T.upI_nat, hm.el, hm.em, lastI_append _ (by simp), lastI_append _ (by simp)]
    rcases h.meets hx hv with ⟨t, a, b, c, hm⟩ | hn
    · rcases h.meets hu hv with ⟨t', a', b', c', hm'⟩ | hn'
      · rw [h.evert_root_in hv hm, h.evert_root_in hv hm', rootm hm, rootm hm']; simp
      · rw [h.evert_root_in hv hm, h.evert_root_out hv hn', rootm hm]
        have := rootv hn' hu
        rw [show ((v : Int) == T.rootI u) = false from beq_eq_false_iff_ne.2 (fun e => this.2 e.symm), show (T.rootI v == T.rootI u) = false from beq_eq_false_iff_ne.2 (fun e => this.1 e.symm)]
    · rcases h.meets hu hv with ⟨t', a', b', c', hm'⟩ | hn'
      · rw [h.evert_root_out hv hn, h.evert_root_in hv hm', rootm hm']
        have := rootv hn hx
        rw [show (T.rootI x == (v : Int)) = false from beq_eq_false_iff_ne.2 this.2, show (T.rootI x == T.rootI v) = false from beq_eq_false_iff_ne.2 this.1]
      · rw [h.evert_root_out hv hn, h.evert_root_out hv hn']
end
end Go.Proofs.Ytjnkgakajenoaaa
/- Forests that grow node by node, each below one ahead of it: plain mathematics. -/

namespace Go.Proofs.Ytjnkgakajenoaaa
set_option linter.unusedVariables false
set_option linter.unusedSimpArgs false

/-- The first m of n nodes are there; f: their parents, g: their weights. -/
def gr (n m : Nat) (f g : Nat → Int) : Tr := ⟨n, fun i => if i < m then f i else -2, fun i => if i < m then g i else 0⟩
/-- Each is a root, or below one ahead of it. -/
def Low (f : Nat → Int) : Prop := ∀ i, f i = -1 ∨ ∃ j : Nat, j < i ∧ f i = (j : Int)
def Fits16 (g : Nat → Int) : Prop := ∀ i, -32768 ≤ g i ∧ g i ≤ 32767

section
variable {n m i j : Nat} {f g : Nat → Int}
theorem gr_par (h : i < m) : (gr n m f g).par i = f i := by simp [gr, h]
theorem gr_gone (h : m ≤ i) : (gr n m f g).par i = -2 := by simp [gr]; omega
theorem gr_wt (h : i < m) : (gr n m f g).wt i = g i := by simp [gr, h]
theorem gr_there (hf : Low f) (h : i < m) : (gr n m f g).par i ≠ -2 := by
  rw [gr_par h]
  rcases hf i with e | ⟨j, _, e⟩ <;> omega
theorem gr_lt (h : (gr n m f g).par i ≠ -2) : i < m := Classical.byContradiction fun hn => h (gr_gone (by omega))
theorem gr_up (hf : Low f) : ∀ k i, i < k → i < m → ∃ l, Up (gr n m f g).par i l
  | 0, _, h, _ => by omega
  | k + 1, i, h, hm => by
    rcases hf i with e | ⟨j, hj, e⟩
    · exact ⟨_, .root (by rw [gr_par hm]; exact e)⟩
    · obtain ⟨l, hl⟩ := gr_up hf k j (by omega) (by omega)
      exact ⟨_, .step (by rw [gr_par hm]; exact e) hl⟩
theorem gr_wf (hf : Low f) (hm : m ≤ n) : (gr n m f g).Wf :=
  ⟨fun v hv => Nat.lt_of_lt_of_le (gr_lt hv) hm, fun v hv => gr_up hf (v + 1) v (by omega) (gr_lt hv)⟩
theorem gr_le (hf : Low f) {l : List Nat} (h : Up (gr n m f g).par i l) : ∀ x ∈ l, x ≤ i := by
  induction h using Up.ind with
  | root h => intro x hx; simp at hx; omega
  | @step v p l h hu ih =>
    intro x hx
    rcases List.mem_cons.1 hx with rfl | hx
    · exact Nat.le_refl _
    · have h1 := ih x hx
      have hv : v < m := gr_lt (g := g) (n := n) (f := f) (by omega)
      rw [gr_par hv] at h
      rcases hf v with e | ⟨j, hj, e⟩ <;> omega
theorem gr_new : gr n 0 f g = Tr.new n := by simp [gr, Tr.new]
theorem gr_addB (hf : Low f) (hm : m < n) (hg : fitB (g m) = true) : (gr n m f g).addB m (g m) = true := by
  simp [Tr.addB, hg, Tr.hasI_nat, gr_gone (Nat.le_refl m)]
  exact hm
/-- The next node, by itself. -/
theorem gr_add : (gr n m f g).add m (g m) = gr n (m + 1) (updF f m (-1)) g := by
  simp only [gr, Tr.add]
  congr 1
  · funext u
    by_cases e : u = m
    · subst e; simp [updF]
    · simp only [updF, e, if_false]; congr 1; rw [eq_iff_iff]; omega
  · funext u
    by_cases e : u = m
    · subst e; simp [updF]
    · simp only [updF, e, if_false]; congr 1; rw [eq_iff_iff]; omega
theorem low_upd (hf : Low f) (m : Nat) : Low (updF f m (-1)) := fun i => by
  by_cases e : i = m
  · subst e; left; simp [updF]
  · rw [updF_other _ _ e]; exact hf i
theorem gr_root (h : f m = -1) : gr n (m + 1) (updF f m (-1)) g = gr n (m + 1) f g := by
  have : updF f m (-1) = f := by
    funext u
    by_cases e : u = m
    · subst e; rw [updF_same, h]
    · rw [updF_other _ _ e]
  rw [this]
theorem gr_linkB (hf : Low f) (hm : m < n) (hj : j < m) : (gr n (m + 1) (updF f m (-1)) g).linkB m j = true := by
  have hw := gr_wf (g := g) (low_upd hf m) (show m + 1 ≤ n by omega)
  have hjt : (gr n (m + 1) (updF f m (-1)) g).par j ≠ -2 := gr_there (low_upd hf m) (by omega)
  have hmp : (gr n (m + 1) (updF f m (-1)) g).par m = -1 := by rw [gr_par (by omega)]; simp [updF]
  obtain ⟨r, e, _, hr⟩ := hw.rootN hjt
  have := gr_le (low_upd hf m) (hw.spec hjt) r hr
  simp only [Tr.linkB, Tr.hasI_nat, Int.toNat_natCast, hmp, e]
  rw [show ((gr n (m + 1) (updF f m (-1)) g).par j != -2) = true from by simpa using hjt]
  simp
  omega
theorem gr_link (h : f m = (j : Int)) : (gr n (m + 1) (updF f m (-1)) g).link m j = gr n (m + 1) f g := by
  simp only [gr, Tr.link]
  congr 1
  funext u
  by_cases e : u = m
  · subst e; simp [updF, h]
  · simp [updF, e]
theorem gr_fit (hf : Low f) (hg : Fits16 g) (hn : n ≤ 1048576) : (gr n m f g).Fit := by
  refine ⟨hn, fun v => ?_, fun v hv => ?_⟩
  · have := hg v
    simp only [gr]; split <;> omega
  · by_cases h : v < m
    · exact absurd hv (gr_there hf h)
    · simp [gr, h]
end
/-- The parents that bytes say. -/
def upF (us : List Int) : Nat → Int := fun i => if 0 < i ∧ us.getD i 0 % 8 ≠ 0 then us.getD i 0 % (i : Int) else -1
theorem upF_low {us : List Int} (h : ∀ n ∈ us, 0 ≤ n) : Low (upF us) := fun i => by
  unfold upF
  split
  · rename_i hc
    right
    have hb : 0 ≤ us.getD i 0 := by
      rw [List.getD_eq_getElem?_getD]
      cases hx : us[i]? with
      | none => simp
      | some x => exact h x (List.mem_of_getElem? hx)
    have h1 := Int.emod_nonneg (us.getD i 0) (show (i : Int) ≠ 0 by omega)
    have h2 := Int.emod_lt_of_pos (us.getD i 0) (show (0 : Int) < (i : Int) by omega)
    exact ⟨(us.getD i 0 % (i : Int)).toNat, by omega, by omega⟩
  · exact .inl rfl
def wF (ws : List Int) : Nat → Int := fun i => ws.getD i 0
theorem wF_fit {ws : List Int} (h : ∀ n ∈ ws, -32768 ≤ n ∧ n ≤ 32767) : Fits16 (wF ws) := fun i => by
  unfold wF
  rw [List.getD_eq_getElem?_getD]
  cases hx : ws[i]? with
  | none => simp
  | some x => exact h x (List.mem_of_getElem? hx)
end Go.Proofs.Ytjnkgakajenoaaa
/- What came in, opened: arrays and slices of integers. -/

namespace Go.Proofs.Ytjnkgakajenoaaa
open Go.ChangeShapes Go.WideShapes Go.ChangeAt Go.RowKit Go.Joins Go.Deep

theorem Try.cells5 : Try.prog.cellsOf 5 = 1 := by kernel_rfl
theorem Try.cells56 : Try.prog.cellsOf 56 = 1 := by kernel_rfl

section
variable {H : Type} {enc : TypeId × Value → H} {W : World} {base : Nat} {sp : Nat → Bool} {held : Bool} {t e : TypeId} {k : IntKind} {d : DataW H} {ps : List MemPlace} {r : Go.Reach} {b0 : Nat} {v : Value}

theorem arr_open {n : Nat} (ht : Try.prog.underlying t = some (.array n e)) (he : Try.prog.underlying e = some (.int k)) (hc : Try.prog.cellsOf e = 1) (hct : Try.prog.cellsOf t = n)
    (hv : Value.okWide Try.prog W r b0 t v) (h : DataW.Trod enc Try.prog W base sp held t v d ps) :
    ∃ cs : Array Value, v = .agg cs ∧ cs.size = n ∧ ∀ i, i < n → ∃ x, cs[i]? = some (.int k x) ∧ (Lit.int k x).wf = true := by
  simp only [Value.okWide, ht] at hv
  obtain ⟨cs, rfl, h2, _⟩ := hv
  obtain ⟨fuel, hf⟩ := h
  obtain ⟨xs, m, _, _, hl, hxl, hel⟩ := DataW.trod_array ht hf
  refine ⟨cs, rfl, by rw [h2, hct], fun i hi => ?_⟩
  have h3 := hel i hi
  rw [hc, Nat.mul_one, List.getElem?_eq_getElem (by omega)] at h3
  obtain ⟨x, ex, _, wx⟩ := DataW.trod_int he h3
  refine ⟨x, ?_, wx⟩
  have := congrArg (fun l : List Value => l[0]?) ex
  simpa [Value.cells] using this
theorem arr2_open (ht : Try.prog.underlying t = some (.array 2 e)) (he : Try.prog.underlying e = some (.int k)) (hc : Try.prog.cellsOf e = 1) (hct : Try.prog.cellsOf t = 2)
    (hv : Value.okWide Try.prog W r b0 t v) (h : DataW.Trod enc Try.prog W base sp held t v d ps) : ∃ x y, v = .agg #[.int k x, .int k y] ∧ (Lit.int k x).wf = true ∧ (Lit.int k y).wf = true := by
  obtain ⟨cs, rfl, hs, hel⟩ := arr_open ht he hc hct hv h
  obtain ⟨x, ex, wx⟩ := hel 0 (by omega)
  obtain ⟨y, ey, wy⟩ := hel 1 (by omega)
  refine ⟨x, y, ?_, wx, wy⟩
  congr 1
  apply Array.ext (by simp [hs])
  intro i h1 h2
  have hi : i = 0 ∨ i = 1 := by omega
  rcases hi with rfl | rfl
  · rw [Array.getElem?_eq_getElem (by omega)] at ex; simpa using ex
  · rw [Array.getElem?_eq_getElem (by omega)] at ey; simpa using ey
theorem arr3_open (ht : Try.prog.underlying t = some (.array 3 e)) (he : Try.prog.underlying e = some (.int k)) (hc : Try.prog.cellsOf e = 1) (hct : Try.prog.cellsOf t = 3)
    (hv : Value.okWide Try.prog W r b0 t v) (h : DataW.Trod enc Try.prog W base sp held t v d ps) : ∃ x y z, v = .agg #[.int k x, .int k y, .int k z] ∧ (Lit.int k x).wf = true ∧ (Lit.int k y).wf = true ∧ (Lit.int k z).wf = true := by
  obtain ⟨cs, rfl, hs, hel⟩ := arr_open ht he hc hct hv h
  obtain ⟨x, ex, wx⟩ := hel 0 (by omega)
  obtain ⟨y, ey, wy⟩ := hel 1 (by omega)
  obtain ⟨z, ez, wz⟩ := hel 2 (by omega)
  refine ⟨x, y, z, ?_, wx, wy, wz⟩
  congr 1
  apply Array.ext (by simp [hs])
  intro i h1 h2
  have hi : i = 0 ∨ i = 1 ∨ i = 2 := by omega
  rcases hi with rfl | rfl | rfl
  · rw [Array.getElem?_eq_getElem (by omega)] at ex; simpa using ex
  · rw [Array.getElem?_eq_getElem (by omega)] at ey; simpa using ey
  · rw [Array.getElem?_eq_getElem (by omega)] at ez; simpa using ez
end

/-- A row of integers that came in. -/
def IRow (k : IntKind) (w : World) (x : Option Addr) (len : Nat) (zs : List Int) : Prop :=
  zs.length = len ∧ (0 < len → ∃ b o, x = some ⟨b, o, none⟩ ∧ b < w.heap.size ∧ ∀ i, i < len → w.cell? ⟨b, o + i, none⟩ = some (.int k (zs.getD i 0))) ∧ ∀ n ∈ zs, (Lit.int k n).wf = true

theorem row_open {k : IntKind} {w : World} {a : Option Addr} {len cap : Nat} {zs : List Int}
    (h : (a = none ∧ len = 0 ∧ cap = 0 ∧ zs = []) ∨ ∃ x, a = some x ∧ len ≤ cap ∧ cap ≤ maxLen ∧ zs.length = cap ∧ (∀ i, i < zs.length → w.cell? (x.add i) = some (.int k (zs.getD i 0))) ∧ ∀ n ∈ zs, (Lit.int k n).wf = true) :
    IRow k w a len (zs.take len) := by
  rcases h with ⟨rfl, rfl, rfl, rfl⟩ | ⟨⟨b, off, spot⟩, rfl, hl, hm, hz, hcell, hwz⟩
  · exact ⟨rfl, fun h => by omega, fun n hn => by simp at hn⟩
  · refine ⟨by simp; omega, fun h0 => ?_, fun n hn => hwz n (List.mem_of_mem_take hn)⟩
    have hc := hcell 0 (by omega)
    have hspot : spot = none := by simpa [Addr.add] using World.cell?_spot hc
    subst hspot
    refine ⟨b, off, rfl, World.block_lt_of_cell? w _ hc, fun i hi => ?_⟩
    have hci := hcell i (by omega)
    have e : (zs.take len).getD i 0 = zs.getD i 0 := by
      rw [List.getD_eq_getElem?_getD, List.getD_eq_getElem?_getD, List.getElem?_take]
      simp [hi]
    rw [e]
    rcases i with _ | i
    · simpa [Addr.add] using hci
    · simpa [Addr.add] using hci
theorem ints_open {H : Type} {enc : TypeId × Value → H} {w : World} {base : Nat} {held : Bool} {a : Option Addr} {len cap : Nat} {T E : TypeId} {d : DataW H} {ps : List MemPlace} {k : IntKind} (ht : Try.prog.underlying T = some (.slice E)) (he : Try.prog.underlying E = some (.int k)) (hc : Try.prog.cellsOf E = 1)
    (h : DataW.Trod enc Try.prog w base (fun _ => true) held T (Value.slice a len cap) d ps) : len ≤ maxLen ∧ ∃ zs, IRow k w a len zs := by
  obtain ⟨fuel, h⟩ := h
  have h0 : ∃ zs : List Int, (a = none ∧ len = 0 ∧ cap = 0 ∧ zs = []) ∨ ∃ x, a = some x ∧ len ≤ cap ∧ cap ≤ maxLen ∧ zs.length = cap ∧ (∀ i, i < zs.length → w.cell? (x.add i) = some (.int k (zs.getD i 0))) ∧ ∀ n ∈ zs, (Lit.int k n).wf = true := by
    rcases open_ints ht he hc h with ⟨hcs, _⟩ | ⟨x, l, c, zs, hcs, _, hl, hm, hz, _, hcell, hwz⟩
    · simp [Value.cells] at hcs
      obtain ⟨rfl, rfl, rfl⟩ := hcs
      exact ⟨[], .inl ⟨rfl, rfl, rfl, rfl⟩⟩
    · simp [Value.cells] at hcs
      obtain ⟨rfl, rfl, rfl⟩ := hcs
      exact ⟨zs, .inr ⟨_, rfl, hl, hm, by simpa using hz, hcell, hwz⟩⟩
  obtain ⟨zs, hzs⟩ := h0
  exact ⟨by rcases hzs with ⟨_, h, _⟩ | ⟨_, _, h, h4, _⟩ <;> omega, zs.take len, row_open hzs⟩
end Go.Proofs.Ytjnkgakajenoaaa
/- What a law asks of a node that is cut off, or goes elsewhere: plain mathematics. -/

namespace Go.Proofs.Ytjnkgakajenoaaa
set_option linter.unusedVariables false
set_option linter.unusedSimpArgs false

section
variable {T : Tr} {u v c p : Nat}
theorem parI_nat (hc : T.par c ≠ -2) : T.parI c = T.par c := by simp [Tr.parI, Tr.hasI_there hc]
theorem Tr.Wf.size_le (h : T.Wf) (hv : T.par v ≠ -2) : 0 ≤ T.sizeI v ∧ T.sizeI v ≤ T.n := by
  rw [h.size_eq hv]
  have := List.length_filter_le (fun u : Nat => T.rootI (u : Int) == T.rootI (v : Int)) (List.range T.n)
  rw [List.length_range] at this
  omega
theorem Tr.sub_le (hv : T.par v ≠ -2) : 0 ≤ (T.subI v).c ∧ (T.subI v).c ≤ T.n := by
  rw [Tr.subI_c hv]
  have := List.length_filter_le (fun u : Nat => decide (v ∈ T.up u)) (List.range T.n)
  rw [List.length_range] at this
  unfold Tr.sub
  omega
theorem Tr.Wf.root_self (h : T.Wf) (hc : T.par c = -1) : T.rootI c = c := by rw [Tr.rootI, T.upI_nat, h.up_root hc]; rfl
theorem Tr.Wf.size_root (h : T.Wf) (hc : T.par c = -1) : T.sizeI c = (T.subI c).c := by rw [Tr.sizeI, h.root_self hc]
theorem Tr.Wf.root_facts (h : T.Wf) (hc : T.par c = -1) : T.parI c = -1 ∧ T.hasI c = true ∧ T.cutB c = false ∧ T.cutI c = T ∧ T.rootI c = c ∧ T.sizeI c = (T.subI c).c := by
  have h1 : T.parI c = -1 := by rw [parI_nat (by omega), hc]
  have h2 : T.cutB c = false := by simp [Tr.cutB, h1]
  exact ⟨h1, Tr.hasI_there (by omega), h2, cutI_no h2, h.root_self hc, h.size_root hc⟩
theorem Tr.Wf.linkB_iff (h : T.Wf) (hc : T.par c = -1) (hp : T.par p ≠ -2) : T.linkB c p = !T.sameI c p := by
  rw [h.same_iff (by omega), h.root_self hc, Tr.linkB, Tr.hasI_there (v := c) (by omega), Tr.hasI_there hp, Int.toNat_natCast, hc]
  rw [Bool.eq_iff_iff]
  simp
  exact ⟨fun h e => h e.symm, fun h e => h e.symm⟩
theorem Tr.Wf.same_root (h : T.Wf) (hc : T.par c = -1) (hp : T.par p ≠ -2) : T.sameI c p = false ↔ c ∉ T.up p := by
  rw [h.same_iff (by omega), h.root_self hc, beq_eq_false_iff_ne, h.root_mem hc]
  exact ⟨fun h e => h e.symm, fun h e => h e.symm⟩
theorem Tr.Wf.cut_facts (h : T.Wf) (hp : T.par c = (p : Int)) :
    (T.parI c = p ∧ T.hasI c = true ∧ T.cutB c = true ∧ T.cutI c = T.cut c) ∧
    ((T.cut c).subI c = T.subI c ∧ (T.cut c).hasI c = true ∧ (T.cut c).rootI c = c ∧ (T.cut c).sameI c p = false ∧ (T.cut c).sizeI c = (T.subI c).c ∧ (T.cut c).sizeI p = T.sizeI c - (T.subI c).c ∧ (T.cut c).parI c = -1) ∧
    ((T.cut c).linkB c p = true ∧ (T.cut c).linkI c p = T ∧ T.linkB c p = false ∧ T.linkI c p = T ∧ T.sizeI p = T.sizeI c) := by
  have hc : T.par c ≠ -2 := by omega
  have hpt := h.par_there hp
  have w' := h.cut hc
  have hc' := cut_par T c
  have hpt' : (T.cut c).par p ≠ -2 := fun e => hpt ((Tr.cut_gone hc).1 e)
  have h1 : T.parI c = p := by rw [parI_nat hc, hp]
  have h2 : T.cutB c = true := by simp [Tr.cutB, h1]
  have hno := h.kid_not hp
  have hs : (T.cut c).sameI c p = false := (w'.same_root hc' hpt').2 (by rw [h.cut_up_out hc hno]; exact hno)
  have hl : (T.cut c).linkB c p = true := by rw [w'.linkB_iff hc' hpt', hs]; rfl
  have hl2 : T.linkB c p = false := by
    have : (T.par (c : Int).toNat == -1) = false := by rw [Int.toNat_natCast, hp, beq_eq_false_iff_ne]; omega
    rw [Tr.linkB, this, Bool.and_false, Bool.false_and, Bool.false_and]
  obtain ⟨g1, g2, _, _, g5, g6⟩ := w'.root_facts hc'
  refine ⟨⟨h1, Tr.hasI_there hc, h2, cutI_yes h2⟩, ⟨h.cut_subI hc, g2, g5, hs, by rw [g6, h.cut_subI hc], h.cut_size hp, g1⟩, hl, ?_, hl2, linkI_no hl2, ?_⟩
  · rw [linkI_yes hl]; exact Tr.cut_link hp
  · rw [Tr.sizeI, Tr.sizeI]
    congr 2
    rw [Tr.rootI, Tr.rootI, T.upI_nat, T.upI_nat, h.up_step hp, lastI_cons _ (h.spec hpt).ne]
/-- Cut off or a root already: a root, with what it had below it. -/
theorem Tr.Wf.cutI_facts (h : T.Wf) (hc : T.par c ≠ -2) : (T.cutI c).Wf ∧ (T.cutI c).par c = -1 ∧ (T.cutI c).subI c = T.subI c ∧ (T.cutI c).n = T.n ∧ (∀ u, T.par u ≠ -2 → (T.cutI c).par u ≠ -2) := by
  rcases h.par_cases hc with h1 | ⟨p, hp, _⟩
  · obtain ⟨_, _, _, e, _⟩ := h.root_facts h1
    rw [e]; exact ⟨h, h1, rfl, rfl, fun _ hu => hu⟩
  · obtain ⟨⟨_, _, _, e⟩, ⟨e2, _⟩, _⟩ := h.cut_facts hp
    rw [e]
    exact ⟨h.cut hc, cut_par T c, e2, rfl, fun u hu e => hu ((Tr.cut_gone hc).1 e)⟩
theorem Tr.Wf.move_facts (h : T.Wf) (hc : T.par c = -1) (hp : T.par p ≠ -2) (hs : T.sameI c p = false) :
    T.linkI c p = T.link c p ∧ (T.link c p).subI c = T.subI c ∧ (T.link c p).parI c = p ∧ (T.link c p).sizeI p = T.sizeI p + (T.subI c).c ∧ (T.link c p).lcaI c p = p ∧ (T.link c p).hasI c = true := by
  have hr := (h.same_root hc hp).1 hs
  have hl : T.linkB c p = true := by rw [h.linkB_iff hc hp, hs]; rfl
  have hc' := link_par T c p
  exact ⟨linkI_yes hl, h.link_subI hc hp hr, by rw [parI_nat (by rw [hc']; omega), hc'], h.link_size hc hp hr, h.link_lca hc hp hr, Tr.hasI_there (by rw [hc']; omega)⟩
end
end Go.Proofs.Ytjnkgakajenoaaa
/- grown: a forest by bytes. -/

namespace Go.Proofs.Ytjnkgakajenoaaa
open Go.RowKit Go.Arb
set_option linter.unusedVariables false
set_option linter.unusedSimpArgs false

theorem IRow.get {k : IntKind} {w W : World} {x : Option Addr} {len : Nat} {zs : List Int} (h : IRow k w x len zs) (hb : Below w.heap.size w W) {i : Nat} (hi : i < len) :
    ∃ b o, x = some ⟨b, o, none⟩ ∧ b < w.heap.size ∧ W.cell? ⟨b, o + i, none⟩ = some (.int k (zs.getD i 0)) := by
  obtain ⟨b, o, e, h1, h2⟩ := h.2.1 (by omega)
  exact ⟨b, o, e, h1, by rw [hb.cell (p := ⟨b, o + i, none⟩) h1]; exact h2 i hi⟩
theorem getD_wf {k : IntKind} {w : World} {x : Option Addr} {len : Nat} {zs : List Int} (h : IRow k w x len zs) {i : Nat} (hi : i < len) : (Lit.int k (zs.getD i 0)).wf = true := by
  have : i < zs.length := by rw [h.1]; exact hi
  rw [List.getD_eq_getElem?_getD, List.getElem?_eq_getElem this]
  exact h.2.2 _ (List.getElem_mem this)

set_option maxRecDepth 100000 in
set_option maxHeartbeats 4000000 in
theorem grown_any {js : List Nat} (n : Nat) (x y : Option Addr) (lx cx ly cy : Nat) (us ws : List Int) (w W : World) (hb : Below w.heap.size w W) (hj : ∀ j ∈ js, j < W.heap.size) (hn : n ≤ 1000) (hnx : n ≤ lx) (hx : IRow .u8 w x lx us) (hy : IRow .i16 w y ly ws) (hly : ly ≤ maxLen) (hlx : lx ≤ maxLen) :
    Calls Try.prog 51 #[.int .i64 (n : Int), .slice x lx cx, .slice y ly cy] W fun e W' => ∃ p, e = .returned (.pointer (some ⟨p, 0, none⟩)) ∧ Ob w W' p (gr n n (upF us) (wF ws)) js ∧ Kept js W W' := by
  have hu0 : ∀ z ∈ us, 0 ≤ z := fun z hz => (bounds_u8 (hx.2.2 z hz)).1
  have hw0 : ∀ z ∈ ws, -32768 ≤ z ∧ z ≤ 32767 := fun z hz => bounds_i16 (hy.2.2 z hz)
  have LF := hide (upF_low hu0)
  have WF := hide (wF_fit hw0)
  have HX := hide hx
  have HY := hide hy
  have HB := hide hb
  clear hx hy hu0 hw0 hb
  unfold maxLen at hly hlx
  go_enter Try.func51, Try.ntmps51
  go_wp2_with fail
  refine (oNew (w := w) (js := js) n W (unhide HB) hj (by omega)).mono ?_
  rintro e W1 ⟨p, rfl, h, k⟩
  rw [← gr_new (f := upF us) (g := wF ws)] at h
  have H0 := hide (And.intro h k)
  clear h k hj
  go_wp2
  go_loopw [8] (fun i w' => ∃ m : Nat, m ≤ n ∧ i = .int .i64 (m : Int) ∧ Hid (Ob w w' p (gr n m (upF us) (wF ws)) js ∧ Kept js W w')) (fun i _ => n - (intOf i).toNat)
  case atStart => exact ⟨0, Nat.zero_le _, rfl, H0⟩
  case round =>
    clear H0
    obtain ⟨m, hm, rfl, HM⟩ := hrel
    by_cases hlt : m < n
    · have e0 : (0 : Int) ≤ (m : Int) := by omega
      have e1 : (m : Int) < (n : Int) := by omega
      -- the weight
      have key : ∀ (g : Int), g = wF ws m → Hid (fitB g = true ∧ (gr n m (upF us) (wF ws)).addB m g = true ∧ (gr n m (upF us) (wF ws)).addI m g = gr n (m + 1) (updF (upF us) m (-1)) (wF ws)) := fun g hg => by
        subst hg
        have hfit : fitB (wF ws m) = true := by
          have := unhide WF m
          simp [fitB]; omega
        have ha := gr_addB (n := n) (m := m) (f := upF us) (g := wF ws) (unhide LF) hlt hfit
        exact ⟨hfit, ha, by rw [addI_yes ha]; exact gr_add⟩
      obtain ⟨bx, ox, rfl, hbx, dx⟩ := (unhide HX).get (unhide HM).1.bel (i := m) (by omega)
      have hbu := bounds_u8 (getD_wf (unhide HX) (i := m) (show m < lx by omega))
      have hub : Hid (upF us m = if 0 < m ∧ us.getD m 0 % 8 ≠ 0 then us.getD m 0 % (m : Int) else -1) := rfl
      obtain ⟨hb0, hb1⟩ := hbu
      have HEX : Hid (∃ bn : Nat, us.getD m 0 = (bn : Int)) := ⟨(us.getD m 0).toNat, by omega⟩
      obtain ⟨bn, hbn⟩ := HEX.out
      rw [hbn] at dx hub hb1
      clear hb0 hbn HEX
      have e2 : (m : Int) < (lx : Int) := by omega
      have hz : ly ≤ m → Hid (wF ws m = 0) := fun h => by
        show ws.getD m 0 = 0
        rw [List.getD_eq_getElem?_getD, List.getElem?_eq_none (by rw [(unhide HY).1]; exact h)]; rfl
      by_cases hwl : m < ly
      · obtain ⟨by', oy, rfl, hby, dy⟩ := (unhide HY).get (unhide HM).1.bel (i := m) hwl
        have e3 : (m : Int) < (ly : Int) := by omega
        have HG := key (ws.getD m 0) rfl
        obtain ⟨hg0, hg1⟩ := bounds_i16 (getD_wf (unhide HY) (i := m) hwl)
        generalize ws.getD m 0 = gv at *
        clear key hz
        go_wp2_with fail
        clear dy
        refine ((unhide HM).1.call fun _ ha => aAdd _ _ ha).mono ?_
        rw [(unhide HG).2.1, (unhide HG).2.2]
        rintro e W2 ⟨rfl, h, k⟩
        have dx2 : W2.cell? ⟨bx, ox + m, none⟩ = some (.int .u8 (bn : Int)) := by
          rw [← dx, h.bel.cell (p := ⟨bx, ox + m, none⟩) hbx, (unhide HM).1.bel.cell (p := ⟨bx, ox + m, none⟩) hbx]
        have H2 := hide (And.intro h ((unhide HM).2.trans k))
        clear h k HM dx
        by_cases hm0 : m = 0
        · subst hm0
          have hf : Hid (upF us 0 = -1) := by show upF us 0 = -1; unfold upF; simp
          go_wp2
          go_roundw
          case rel => exact ⟨0 + 1, by omega, by go_num, hide (by rw [← gr_root (unhide hf)]; exact unhide H2)⟩
          case measure => simp [intOf]; omega
        · have hm1 : (0 : Int) < (m : Int) := by omega
          by_cases h8 : bn % 8 = 0
          · have h8' : ((bn : Int) % 8 == 0) = true := by rw [beq_iff_eq]; omega
            have hf : Hid (upF us m = -1) := by show upF us m = -1; rw [unhide hub, if_neg (by omega)]
            clear hub
            go_wp2
            go_roundw
            case rel => exact ⟨m + 1, by omega, by go_num, hide (by rw [← gr_root (unhide hf)]; exact unhide H2)⟩
            case measure => simp [intOf]; omega
          · have h8' : ((bn : Int) % 8 == 0) = false := by rw [beq_eq_false_iff_ne]; omega
            have hf : Hid (upF us m = ((bn % m : Nat) : Int)) := by show upF us m = ((bn % m : Nat) : Int); rw [unhide hub, if_pos (by omega)]; rfl
            have hjm : bn % m < m := Nat.mod_lt _ (by omega)
            have hmz : ((m : Int) == 0) = false := by rw [beq_eq_false_iff_ne]; omega
            clear hub
            go_wp2_with fail
            rw [show ((bn : Int) % (m : Int)) = ((bn % m : Nat) : Int) from rfl]
            have HL := hide (gr_linkB (g := wF ws) (unhide LF) hlt hjm)
            refine ((unhide H2).1.call fun _ ha => aLink _ _ ha).mono ?_
            rw [unhide HL, linkI_yes (unhide HL)]
            rintro e W3 ⟨rfl, h, k⟩
            rw [Int.toNat_natCast, Int.toNat_natCast, gr_link (unhide hf)] at h
            have H3 := hide (And.intro h ((unhide H2).2.trans k))
            clear h k H2 dx2
            go_wp2
            go_roundw
            case rel => exact ⟨m + 1, by omega, by go_num, H3⟩
            case measure => simp [intOf]; omega
      · have hwl' : ¬ (m : Int) < (ly : Int) := by omega
        have HG := key 0 (unhide (hz (by omega))).symm
        clear key hz
        go_wp2_with fail
        refine ((unhide HM).1.call fun _ ha => aAdd _ _ ha).mono ?_
        rw [(unhide HG).2.1, (unhide HG).2.2]
        rintro e W2 ⟨rfl, h, k⟩
        have dx2 : W2.cell? ⟨bx, ox + m, none⟩ = some (.int .u8 (bn : Int)) := by
          rw [← dx, h.bel.cell (p := ⟨bx, ox + m, none⟩) hbx, (unhide HM).1.bel.cell (p := ⟨bx, ox + m, none⟩) hbx]
        have H2 := hide (And.intro h ((unhide HM).2.trans k))
        clear h k HM dx
        by_cases hm0 : m = 0
        · subst hm0
          have hf : Hid (upF us 0 = -1) := by show upF us 0 = -1; unfold upF; simp
          go_wp2
          go_roundw
          case rel => exact ⟨0 + 1, by omega, by go_num, hide (by rw [← gr_root (unhide hf)]; exact unhide H2)⟩
          case measure => simp [intOf]; omega
        · have hm1 : (0 : Int) < (m : Int) := by omega
          by_cases h8 : bn % 8 = 0
          · have h8' : ((bn : Int) % 8 == 0) = true := by rw [beq_iff_eq]; omega
            have hf : Hid (upF us m = -1) := by show upF us m = -1; rw [unhide hub, if_neg (by omega)]
            clear hub
            go_wp2
            go_roundw
            case rel => exact ⟨m + 1, by omega, by go_num, hide (by rw [← gr_root (unhide hf)]; exact unhide H2)⟩
            case measure => simp [intOf]; omega
          · have h8' : ((bn : Int) % 8 == 0) = false := by rw [beq_eq_false_iff_ne]; omega
            have hf : Hid (upF us m = ((bn % m : Nat) : Int)) := by show upF us m = ((bn % m : Nat) : Int); rw [unhide hub, if_pos (by omega)]; rfl
            have hjm : bn % m < m := Nat.mod_lt _ (by omega)
            have hmz : ((m : Int) == 0) = false := by rw [beq_eq_false_iff_ne]; omega
            clear hub
            go_wp2_with fail
            rw [show ((bn : Int) % (m : Int)) = ((bn % m : Nat) : Int) from rfl]
            have HL := hide (gr_linkB (g := wF ws) (unhide LF) hlt hjm)
            refine ((unhide H2).1.call fun _ ha => aLink _ _ ha).mono ?_
            rw [unhide HL, linkI_yes (unhide HL)]
            rintro e W3 ⟨rfl, h, k⟩
            rw [Int.toNat_natCast, Int.toNat_natCast, gr_link (unhide hf)] at h
            have H3 := hide (And.intro h ((unhide H2).2.trans k))
            clear h k H2 dx2
            go_wp2
            go_roundw
            case rel => exact ⟨m + 1, by omega, by go_num, H3⟩
            case measure => simp [intOf]; omega
    · have hge : ¬ (m : Int) < (n : Int) := by omega
      have : m = n := by omega
      subst this
      go_wp2
      go_ret
      exact ⟨p, rfl, unhide HM⟩
end Go.Proofs.Ytjnkgakajenoaaa

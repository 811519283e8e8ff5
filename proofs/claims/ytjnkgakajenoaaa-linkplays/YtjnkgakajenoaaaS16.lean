/- Part 16 of the texts. -/
import Derived.Test.YtjnkgakajenoaaaS1
import Derived.Test.YtjnkgakajenoaaaS15
import Derived.Test.YtjnkgakajenoaaaS13
import Derived.Below
import Derived.BigQuiet
import Derived.Deep.AppendLies
import Derived.Deep.DeepCutAuto
import Derived.Deep.LoopGhost
import Derived.Deep.OwnRows
import Derived.Deep.QuietTactic
import Derived.Deep.RegionHeld3
import Derived.Deep.RegionWith
import Derived.Maps.AppendAt
import Derived.RowKit3
import Derived.WalkKit
import Derived.WalkSmall
import Derived.WalkSpells
import Derived.BigRegion
import Derived.Test.YtjnkgakajenoaaaS4
namespace Go.Proofs.Ytjnkgakajenoaaa
open Go.RowKit Go.Arb
set_option linter.unusedVariables false
set_option linter.unusedSimpArgs false
set_option maxRecDepth 100000
def O78_5_0 : Oper := ⟨some 16, .move (.tmp 0), 23, "check.go:49", #[], none⟩
def O78_5_1 : Oper := ⟨some 17, .nilCheck (.tmp 16), 0, "check.go:49", #[⟨0, .data⟩], none⟩
def O78_5_2 : Oper := ⟨some 18, .fieldAddr 66 (.tmp 17) 1, 0, "check.go:49", #[⟨1, .data⟩], none⟩
def O78_5_3 : Oper := ⟨some 19, .load 64 (.tmp 18), 64, "check.go:49", #[⟨2, .data⟩], none⟩
def O78_5_4 : Oper := ⟨some 20, .move (.tmp 4), 3, "check.go:49", #[], none⟩
def O78_5_5 : Oper := ⟨some 21, .indexAddr 64 (.tmp 19) (.tmp 20), 0, "check.go:49", #[⟨3, .data⟩, ⟨4, .data⟩], none⟩
def O78_5_6 : Oper := ⟨some 22, .fieldAddr 75 (.tmp 21) 6, 0, "check.go:49", #[⟨5, .data⟩], none⟩
def O78_5_7 : Oper := ⟨some 23, .fieldAddr 34 (.tmp 22) 0, 0, "check.go:49", #[⟨6, .data⟩], none⟩
def O78_5_8 : Oper := ⟨some 24, .load 3 (.tmp 23), 3, "check.go:49", #[⟨7, .data⟩], none⟩
def O78_5_9 : Oper := ⟨some 25, .binOp .neq 3 (.tmp 24) (.const (zi 0)) 3, 4, "check.go:49", #[⟨8, .data⟩], none⟩
def O78_5_10 : Oper := ⟨some 26, .move (.tmp 25), 4, "check.go:49", #[⟨9, .data⟩], none⟩
def O78_5_11 : Oper := ⟨some 27, .move (.tmp 0), 23, "check.go:49", #[⟨10, .guard⟩], some (10, true)⟩
def O78_5_12 : Oper := ⟨some 28, .nilCheck (.tmp 27), 0, "check.go:49", #[⟨11, .data⟩, ⟨10, .guard⟩], some (10, true)⟩
def O78_5_13 : Oper := ⟨some 29, .fieldAddr 66 (.tmp 28) 1, 0, "check.go:49", #[⟨12, .data⟩, ⟨10, .guard⟩], some (10, true)⟩
def O78_5_14 : Oper := ⟨some 30, .load 64 (.tmp 29), 64, "check.go:49", #[⟨13, .data⟩, ⟨10, .guard⟩], some (10, true)⟩
def O78_5_15 : Oper := ⟨some 31, .move (.tmp 4), 3, "check.go:49", #[⟨10, .guard⟩], some (10, true)⟩
def O78_5_16 : Oper := ⟨some 32, .indexAddr 64 (.tmp 30) (.tmp 31), 0, "check.go:49", #[⟨14, .data⟩, ⟨15, .data⟩, ⟨10, .guard⟩], some (10, true)⟩
def O78_5_17 : Oper := ⟨some 33, .fieldAddr 75 (.tmp 32) 7, 0, "check.go:49", #[⟨16, .data⟩, ⟨10, .guard⟩], some (10, true)⟩
def O78_5_18 : Oper := ⟨some 34, .load 73 (.tmp 33), 73, "check.go:49", #[⟨17, .data⟩, ⟨10, .guard⟩], some (10, true)⟩
def O78_5_19 : Oper := ⟨some 35, .move (.tmp 3), 87, "check.go:49", #[⟨10, .guard⟩], some (10, true)⟩
def O78_5_20 : Oper := ⟨some 36, .move (.tmp 4), 3, "check.go:49", #[⟨10, .guard⟩], some (10, true)⟩
def O78_5_21 : Oper := ⟨some 37, .indexAddr 87 (.tmp 35) (.tmp 36), 0, "check.go:49", #[⟨19, .data⟩, ⟨20, .data⟩, ⟨10, .guard⟩], some (10, true)⟩
def O78_5_22 : Oper := ⟨some 38, .load 73 (.tmp 37), 73, "check.go:49", #[⟨21, .data⟩, ⟨10, .guard⟩], some (10, true)⟩
def O78_5_23 : Oper := ⟨some 39, .binOp .eql 73 (.tmp 34) (.tmp 38) 73, 4, "check.go:49", #[⟨18, .data⟩, ⟨22, .data⟩, ⟨10, .guard⟩], some (10, true)⟩
def O78_5_24 : Oper := ⟨some 40, .move (.tmp 39), 4, "check.go:49", #[⟨23, .data⟩, ⟨10, .chain⟩, ⟨10, .guard⟩], some (10, true)⟩
def O78_5_25 : Oper := ⟨some 41, .move (.tmp 0), 23, "check.go:49", #[⟨24, .guard⟩], some (24, true)⟩
def O78_5_26 : Oper := ⟨some 42, .move (.tmp 4), 3, "check.go:49", #[⟨24, .guard⟩], some (24, true)⟩
def O78_5_27 : Oper := ⟨some 43, .call { callee := (.value (.func 93)), args := #[(.tmp 41), (.tmp 42)], argTypes := #[23, 3] }, 4, "check.go:49", #[⟨25, .data⟩, ⟨26, .data⟩, ⟨24, .chain⟩, ⟨24, .guard⟩], some (24, true)⟩
def O78_5_28 : Oper := ⟨some 44, .pick (.tmp 40) (.tmp 43) (.const (.bool false)), 4, "check.go:49", #[⟨24, .data⟩, ⟨27, .data⟩, ⟨10, .guard⟩], some (10, true)⟩
def O78_5_29 : Oper := ⟨some 45, .unOp .not 4 (.tmp 44), 4, "check.go:49", #[⟨28, .data⟩, ⟨10, .guard⟩], some (10, true)⟩
def O78_5_30 : Oper := ⟨some 46, .pick (.tmp 26) (.tmp 45) (.const (.bool false)), 4, "check.go:49", #[⟨10, .data⟩, ⟨29, .data⟩], none⟩
def OPS78_5 : List Oper := [O78_5_0, O78_5_1, O78_5_2, O78_5_3, O78_5_4, O78_5_5, O78_5_6, O78_5_7, O78_5_8, O78_5_9, O78_5_10, O78_5_11, O78_5_12, O78_5_13, O78_5_14, O78_5_15, O78_5_16, O78_5_17, O78_5_18, O78_5_19, O78_5_20, O78_5_21, O78_5_22, O78_5_23, O78_5_24, O78_5_25, O78_5_26, O78_5_27, O78_5_28, O78_5_29, O78_5_30]
set_option maxHeartbeats 4000000 in
theorem round78 {p g n cap room t hb : Nat} {T : Tr} {S : Ss} {G : Gh} {Q : Exit -> Act -> World -> Prop} {a0 : Act} {w w1 : World} (K0 : Kn a0 47 [(0, zp p 0), (3, .slice (some ⟨hb, 0, none⟩) n n), (4, zi t)]) (F0 : Fr w w1 p g n cap room S [(hb, .cells (hsA (HA S n) n) 73 (0, 0))]) (L : Lc S n T G) (htn : t <= n)
  (hN : ∀ a' W, t < n -> Kn a' 47 [(0, zp p 0), (3, .slice (some ⟨hb, 0, none⟩) n n), (4, zi ((t + 1 : Nat) : Int))] -> Fr w W p g n cap room S [(hb, .cells (hsA (HA S n) n) 73 (0, 0))] -> Q .normal a' W)
  (hX : ∀ a' W, t = n -> Kn a' 47 [(0, zp p 0), (3, .slice (some ⟨hb, 0, none⟩) n n), (4, zi t)] -> Fr w W p g n cap room S [(hb, .cells (hsA (HA S n) n) 73 (0, 0))] -> Q (.exit 0) a' W) : (Code.seq (Code.seq (Code.region 3 (rg [1, 1, 0, 1, 0, 0, 0, 0] Try.f78).toArray false) (Code.cond (Operand.tmp 13) Code.skip (Code.exit 0))) (Code.seq (Code.block 1 (Code.seq (Code.region 5 OPS78_5.toArray true) (Code.cond (Operand.tmp 46) (Code.seq (Code.region 6 (rg [1, 1, 0, 1, 0, 0, 1, 0, 0, 1, 0, 0] Try.f78).toArray false) Code.ret) Code.skip))) (Code.region 4 (rg [1, 1, 0, 1, 0, 0, 1, 1] Try.f78).toArray false))).wp Try.prog Q a0 w1 := by
 have FH := hide F0
 have HN := hide hN
 have HX := hide hX
 have LH := hide L
 have nnn := L.nn
 have hTn := L.ft.n
 have wr : IntKind.i64.wrap ((t : Int) + 1) = ((t + 1 : Nat) : Int) := by rw [IntWalk.i64_in _ (by omega)]; omega
 have WR := hide wr
 clear hN hX L F0 wr nnn hTn
 by_cases n0 : n <= t
 ·have i0 : ¬ (t : Int) < (n : Int) := by omega
  have i1 : t = n := by omega
  have I1 := hide i1
  clear i1
  refine wp_seq ?_
  refine wp_seq ?_
  refine wp_region_lit ?_
  refine lM K0 fun a1 K1 => ?_
  refine lM K1 fun a2 K2 => ?_
  clear K1
  refine lN K2 fun a3 K3 => ?_
  clear K2
  refine lF K3 FA66_1 fun a4 K4 => ?_
  clear K3
  refine lT (.slice (some ⟨g, 0, none⟩) n cap) w1 K4 (want_none rfl) (fun ev E => ?_) fun a5 K5 => ?_
  ·obtain ⟨c0, c1, _⟩ := (unhide FH).po.head; have E10 := E.tmp 10 _ rfl; clear E; clear FH HN HX LH WR I1; (try simp only [slZ, smZ, putF, slV, smL, msL] at *); go_simp
  clear K4
  refine lT (zi n) w1 K5 (want_none rfl) (fun ev E => ?_) fun a6 K6 => ?_
  ·have E11 := E.tmp 11 _ rfl; clear E; clear FH HN HX LH WR I1; (try simp only [slZ, smZ, putF, slV, smL, msL] at *); go_simp
  clear K5
  refine lT (.bool false) w1 K6 (want_none rfl) (fun ev E => ?_) fun a7 K7 => ?_
  ·have E7 := E.tmp 7 _ rfl; have E12 := E.tmp 12 _ rfl; clear E; clear FH HN HX LH WR I1; (try simp only [slZ, smZ, putF, slV, smL, msL] at *); go_simp
  clear K6
  refine wpList_nil ?_
  show Code.wp _ _ _ _ _
  refine knCond (b := false) K7 rfl ?_
  refine wp_exit ?_
  exact unhide HX _ _ (unhide I1) (K7.less ⟨rfl, rfl, rfl, trivial⟩) (unhide FH)
 have i0 : (t : Int) < (n : Int) := by omega
 have lt1 : t < n := by omega
 have e1 : (0 : Int) <= (t : Int) := by omega
 by_cases ht : Th T t
 ·have hc : ¬ (S t).sm.c = 0 := (unhide LH).th_c.1 ht
  have HT := hide ht
  have HH := hide ((unhide LH).ha_all ht)
  clear ht
  refine seqN ?_
  refine seqR ?_
  refine lM K0 fun a1 K1 => ?_
  refine lM K1 fun a2 K2 => ?_
  clear K1
  refine lN K2 fun a3 K3 => ?_
  clear K2
  refine lF K3 FA66_1 fun a4 K4 => ?_
  clear K3
  refine lT (.slice (some ⟨g, 0, none⟩) n cap) w1 K4 (want_none rfl) (fun ev E => ?_) fun a5 K5 => ?_
  ·obtain ⟨c0, c1, _⟩ := (unhide FH).po.head; have E10 := E.tmp 10 _ rfl; clear E; clear FH HN HX LH WR HT; (try simp only [slZ, smZ, putF, slV, smL, msL] at *); go_simp
  clear K4
  refine lT (zi n) w1 K5 (want_none rfl) (fun ev E => ?_) fun a6 K6 => ?_
  ·have E11 := E.tmp 11 _ rfl; clear E; clear FH HN HX LH WR HT; (try simp only [slZ, smZ, putF, slV, smL, msL] at *); go_simp
  clear K5
  refine lT (.bool true) w1 K6 (want_none rfl) (fun ev E => ?_) fun a7 K7 => ?_
  ·have E7 := E.tmp 7 _ rfl; have E12 := E.tmp 12 _ rfl; clear E; clear FH HN HX LH WR HT; (try simp only [slZ, smZ, putF, slV, smL, msL] at *); go_simp
  clear K6
  refine nilN ?_
  refine knCond (b := true) K7 rfl (wp_skip ?_)
  show Code.wp _ _ _ _ _
  have K8 : Kn _ 47 [(0, zp p 0), (3, .slice (some ⟨hb, 0, none⟩) n n), (4, zi t)] := K7.less ⟨rfl, rfl, rfl, trivial⟩
  clear K7
  refine seqN ?_
  refine blockN ?_
  refine seqN ?_
  have FD := (unhide FH).drew
  obtain ⟨V, hV⟩ : ∃ V : (Unit) -> Nat -> Value, V = fun gg k => ([zp p 0, zp p 0, zp p 1, .slice (some ⟨g, 0, none⟩) n cap, zi t, zp g (t * 14), zp g (t * 14 + 6), zp g (t * 14 + 6), zi (S t).sm.c, .bool true, .bool true, zp p 0, zp p 0, zp p 1, .slice (some ⟨g, 0, none⟩) n cap, zi t, zp g (t * 14), zp g (t * 14 + 10), .agg #[zi (S t).hg.c, zi (S t).hg.w], .slice (some ⟨hb, 0, none⟩) n n, zi t, zp hb (t * 2), .agg #[zi (S t).hg.c, zi (S t).hg.w], .bool true, .bool true, zp p 0, zi t, .bool true, .bool true, .bool false, .bool false] : List Value).getD k undef := ⟨_, rfl⟩
  have vv : ∀ gg k, V gg k = ([zp p 0, zp p 0, zp p 1, .slice (some ⟨g, 0, none⟩) n cap, zi t, zp g (t * 14), zp g (t * 14 + 6), zp g (t * 14 + 6), zi (S t).sm.c, .bool true, .bool true, zp p 0, zp p 0, zp p 1, .slice (some ⟨g, 0, none⟩) n cap, zi t, zp g (t * 14), zp g (t * 14 + 10), .agg #[zi (S t).hg.c, zi (S t).hg.w], .slice (some ⟨hb, 0, none⟩) n n, zi t, zp hb (t * 2), .agg #[zi (S t).hg.c, zi (S t).hg.w], .bool true, .bool true, zp p 0, zi t, .bool true, .bool true, .bool false, .bool false] : List Value).getD k undef := fun _ _ => by rw [hV]
  have HV := hide (And.intro True.intro hV)
  clear hV
  show (Code.region 5 OPS78_5.toArray true).wp _ _ _ _
  refine wp_region_once (A := Unit) (V := V) (J := fun gg f W => Fr w W p g n cap room S [(hb, .cells (hsA (HA S n) n) 73 (0, 0))]) () 31 (by kernel_rfl) (by kernel_rfl) K8 (FD) (by kernel_rfl) ?_ (fun gg f a9 W9 hf hk hj => ?_)
  ·clear FH FD K8
   refine obsC (j := 1) (m := 30) rfl rfl ?_ ?_
   ·exact ob_copy (o := O78_5_0) (u := 0) rfl rfl (fun gg => ⟨.inr ⟨by rw [vv]; rfl, by kernel_rfl⟩, trivial⟩) (.inl ⟨rfl, rfl⟩) (fun _ _ _ h => h)
   refine obsC (j := 2) (m := 29) rfl rfl ?_ ?_
   ·refine ob_look (o := O78_5_1) rfl (fun gg => [(16, zp p 0)]) (fun gg => ⟨.inl ⟨0, by kernel_rfl, rfl, vv gg 0⟩, trivial⟩) (.inl ⟨rfl, rfl⟩) (fun _ _ _ h => h) (fun gg f W ev hJ hd hn E => ?_)
    rw [show V gg 1 = zp p 0 from vv gg 1]; clear hJ hd hn; have E16 := E.tmp 16 _ rfl; clear E; clear vv HV HN HX LH WR HT HH; unfold O78_5_1; (try simp only [slZ, smZ, putF, slV, smL, msL] at *); go_simp
   refine obsC (j := 3) (m := 28) rfl rfl ?_ ?_
   ·refine ob_look (o := O78_5_2) rfl (fun gg => [(17, zp p 0)]) (fun gg => ⟨.inl ⟨1, by kernel_rfl, rfl, vv gg 1⟩, trivial⟩) (.inl ⟨rfl, rfl⟩) (fun _ _ _ h => h) (fun gg f W ev hJ hd hn E => ?_)
    rw [show V gg 2 = zp p 1 from vv gg 2]; clear hJ hd hn; have E17 := E.tmp 17 _ rfl; clear E; clear vv HV HN HX LH WR HT HH; unfold O78_5_2; (try simp only [slZ, smZ, putF, slV, smL, msL] at *); go_simp
   refine obsC (j := 4) (m := 27) rfl rfl ?_ ?_
   ·refine ob_look (o := O78_5_3) rfl (fun gg => [(18, zp p 1)]) (fun gg => ⟨.inl ⟨2, by kernel_rfl, rfl, vv gg 2⟩, trivial⟩) (.inl ⟨rfl, rfl⟩) (fun _ _ _ h => h) (fun gg f W ev hJ hd hn E => ?_)
    rw [show V gg 3 = .slice (some ⟨g, 0, none⟩) n cap from vv gg 3]; have hJ9 := hJ; obtain ⟨c0, c1, _⟩ := hJ9.po.head; clear hJ9; clear hJ hd hn; have E18 := E.tmp 18 _ rfl; clear E; clear vv HV HN HX LH WR HT HH; unfold O78_5_3; (try simp only [slZ, smZ, putF, slV, smL, msL] at *); go_simp
   refine obsC (j := 5) (m := 26) rfl rfl ?_ ?_
   ·exact ob_copy (o := O78_5_4) (u := 4) rfl rfl (fun gg => ⟨.inr ⟨by rw [vv]; rfl, by kernel_rfl⟩, trivial⟩) (.inl ⟨rfl, rfl⟩) (fun _ _ _ h => h)
   refine obsC (j := 6) (m := 25) rfl rfl ?_ ?_
   ·refine ob_look (o := O78_5_5) rfl (fun gg => [(19, .slice (some ⟨g, 0, none⟩) n cap), (20, zi t)]) (fun gg => ⟨.inl ⟨3, by kernel_rfl, rfl, vv gg 3⟩, .inl ⟨4, by kernel_rfl, rfl, vv gg 4⟩, trivial⟩) (.inl ⟨rfl, rfl⟩) (fun _ _ _ h => h) (fun gg f W ev hJ hd hn E => ?_)
    rw [show V gg 5 = zp g (t * 14) from vv gg 5]; clear hJ hd hn; have E19 := E.tmp 19 _ rfl; have E20 := E.tmp 20 _ rfl; clear E; clear vv HV HN HX LH WR HT HH; unfold O78_5_5; (try simp only [slZ, smZ, putF, slV, smL, msL] at *); go_simp
   refine obsC (j := 7) (m := 24) rfl rfl ?_ ?_
   ·refine ob_look (o := O78_5_6) rfl (fun gg => [(21, zp g (t * 14))]) (fun gg => ⟨.inl ⟨5, by kernel_rfl, rfl, vv gg 5⟩, trivial⟩) (.inl ⟨rfl, rfl⟩) (fun _ _ _ h => h) (fun gg f W ev hJ hd hn E => ?_)
    rw [show V gg 6 = zp g (t * 14 + 6) from vv gg 6]; clear hJ hd hn; have E21 := E.tmp 21 _ rfl; clear E; clear vv HV HN HX LH WR HT HH; unfold O78_5_6; (try simp only [slZ, smZ, putF, slV, smL, msL] at *); go_simp
   refine obsC (j := 8) (m := 23) rfl rfl ?_ ?_
   ·refine ob_look (o := O78_5_7) rfl (fun gg => [(22, zp g (t * 14 + 6))]) (fun gg => ⟨.inl ⟨6, by kernel_rfl, rfl, vv gg 6⟩, trivial⟩) (.inl ⟨rfl, rfl⟩) (fun _ _ _ h => h) (fun gg f W ev hJ hd hn E => ?_)
    rw [show V gg 7 = zp g (t * 14 + 6) from vv gg 7]; clear hJ hd hn; have E22 := E.tmp 22 _ rfl; clear E; clear vv HV HN HX LH WR HT HH; unfold O78_5_7; (try simp only [slZ, smZ, putF, slV, smL, msL] at *); go_simp
   refine obsC (j := 9) (m := 22) rfl rfl ?_ ?_
   ·refine ob_look (o := O78_5_8) rfl (fun gg => [(23, zp g (t * 14 + 6))]) (fun gg => ⟨.inl ⟨7, by kernel_rfl, rfl, vv gg 7⟩, trivial⟩) (.inl ⟨rfl, rfl⟩) (fun _ _ _ h => h) (fun gg f W ev hJ hd hn E => ?_)
    rw [show V gg 8 = zi (S t).sm.c from vv gg 8]; have hJ9 := hJ; obtain ⟨s0, s1, s2, s3, s4, s5, s6, s7, s8, s9, s10, s11, s12, s13⟩ := hJ9.po.slot (t := t) (by assumption); clear hJ9; clear hJ hd hn; have E23 := E.tmp 23 _ rfl; clear E; clear vv HV HN HX LH WR HT HH; unfold O78_5_8; (try simp only [slZ, smZ, putF, slV, smL, msL] at *); go_simp
   refine obsC (j := 10) (m := 21) rfl rfl ?_ ?_
   ·refine ob_look (o := O78_5_9) rfl (fun gg => [(24, zi (S t).sm.c)]) (fun gg => ⟨.inl ⟨8, by kernel_rfl, rfl, vv gg 8⟩, trivial⟩) (.inl ⟨rfl, rfl⟩) (fun _ _ _ h => h) (fun gg f W ev hJ hd hn E => ?_)
    rw [show V gg 9 = .bool true from vv gg 9]; clear hJ hd hn; have EC := E.const; have E24 := E.tmp 24 _ rfl; clear E; clear vv HV HN HX LH WR HT HH; unfold O78_5_9; (try simp only [slZ, smZ, putF, slV, smL, msL] at *); go_simp
   refine obsC (j := 11) (m := 20) rfl rfl ?_ ?_
   ·exact ob_copy (o := O78_5_10) (u := 25) rfl rfl (fun gg => ⟨.inl ⟨9, by kernel_rfl, rfl, (vv gg 9).trans (vv gg 10).symm⟩, trivial⟩) (.inl ⟨rfl, rfl⟩) (fun _ _ _ h => h)
   refine obsC (j := 12) (m := 19) rfl rfl ?_ ?_
   ·exact ob_copy (o := O78_5_11) (u := 0) rfl rfl (fun gg => ⟨.inr ⟨by rw [vv]; rfl, by kernel_rfl⟩, trivial⟩) (.inr (.inl ⟨10, true, rfl, by kernel_rfl, ⟨26, rfl⟩, fun gg => ⟨true, vv gg 10, rfl⟩⟩)) (fun _ _ _ h => h)
   refine obsC (j := 13) (m := 18) rfl rfl ?_ ?_
   ·refine ob_look (o := O78_5_12) rfl (fun gg => [(27, zp p 0)]) (fun gg => ⟨.inl ⟨11, by kernel_rfl, rfl, vv gg 11⟩, trivial⟩) (.inr (.inl ⟨10, true, rfl, by kernel_rfl, ⟨26, rfl⟩, fun gg => ⟨true, vv gg 10, rfl⟩⟩)) (fun _ _ _ h => h) (fun gg f W ev hJ hd hn E => ?_)
    rw [show V gg 12 = zp p 0 from vv gg 12]; clear hJ hd hn; have E27 := E.tmp 27 _ rfl; clear E; clear vv HV HN HX LH WR HT HH; unfold O78_5_12; (try simp only [slZ, smZ, putF, slV, smL, msL] at *); go_simp
   refine obsC (j := 14) (m := 17) rfl rfl ?_ ?_
   ·refine ob_look (o := O78_5_13) rfl (fun gg => [(28, zp p 0)]) (fun gg => ⟨.inl ⟨12, by kernel_rfl, rfl, vv gg 12⟩, trivial⟩) (.inr (.inl ⟨10, true, rfl, by kernel_rfl, ⟨26, rfl⟩, fun gg => ⟨true, vv gg 10, rfl⟩⟩)) (fun _ _ _ h => h) (fun gg f W ev hJ hd hn E => ?_)
    rw [show V gg 13 = zp p 1 from vv gg 13]; clear hJ hd hn; have E28 := E.tmp 28 _ rfl; clear E; clear vv HV HN HX LH WR HT HH; unfold O78_5_13; (try simp only [slZ, smZ, putF, slV, smL, msL] at *); go_simp
   refine obsC (j := 15) (m := 16) rfl rfl ?_ ?_
   ·refine ob_look (o := O78_5_14) rfl (fun gg => [(29, zp p 1)]) (fun gg => ⟨.inl ⟨13, by kernel_rfl, rfl, vv gg 13⟩, trivial⟩) (.inr (.inl ⟨10, true, rfl, by kernel_rfl, ⟨26, rfl⟩, fun gg => ⟨true, vv gg 10, rfl⟩⟩)) (fun _ _ _ h => h) (fun gg f W ev hJ hd hn E => ?_)
    rw [show V gg 14 = .slice (some ⟨g, 0, none⟩) n cap from vv gg 14]; have hJ9 := hJ; obtain ⟨c0, c1, _⟩ := hJ9.po.head; clear hJ9; clear hJ hd hn; have E29 := E.tmp 29 _ rfl; clear E; clear vv HV HN HX LH WR HT HH; unfold O78_5_14; (try simp only [slZ, smZ, putF, slV, smL, msL] at *); go_simp
   refine obsC (j := 16) (m := 15) rfl rfl ?_ ?_
   ·exact ob_copy (o := O78_5_15) (u := 4) rfl rfl (fun gg => ⟨.inr ⟨by rw [vv]; rfl, by kernel_rfl⟩, trivial⟩) (.inr (.inl ⟨10, true, rfl, by kernel_rfl, ⟨26, rfl⟩, fun gg => ⟨true, vv gg 10, rfl⟩⟩)) (fun _ _ _ h => h)
   refine obsC (j := 17) (m := 14) rfl rfl ?_ ?_
   ·refine ob_look (o := O78_5_16) rfl (fun gg => [(30, .slice (some ⟨g, 0, none⟩) n cap), (31, zi t)]) (fun gg => ⟨.inl ⟨14, by kernel_rfl, rfl, vv gg 14⟩, .inl ⟨15, by kernel_rfl, rfl, vv gg 15⟩, trivial⟩) (.inr (.inl ⟨10, true, rfl, by kernel_rfl, ⟨26, rfl⟩, fun gg => ⟨true, vv gg 10, rfl⟩⟩)) (fun _ _ _ h => h) (fun gg f W ev hJ hd hn E => ?_)
    rw [show V gg 16 = zp g (t * 14) from vv gg 16]; clear hJ hd hn; have E30 := E.tmp 30 _ rfl; have E31 := E.tmp 31 _ rfl; clear E; clear vv HV HN HX LH WR HT HH; unfold O78_5_16; (try simp only [slZ, smZ, putF, slV, smL, msL] at *); go_simp
   refine obsC (j := 18) (m := 13) rfl rfl ?_ ?_
   ·refine ob_look (o := O78_5_17) rfl (fun gg => [(32, zp g (t * 14))]) (fun gg => ⟨.inl ⟨16, by kernel_rfl, rfl, vv gg 16⟩, trivial⟩) (.inr (.inl ⟨10, true, rfl, by kernel_rfl, ⟨26, rfl⟩, fun gg => ⟨true, vv gg 10, rfl⟩⟩)) (fun _ _ _ h => h) (fun gg f W ev hJ hd hn E => ?_)
    rw [show V gg 17 = zp g (t * 14 + 10) from vv gg 17]; clear hJ hd hn; have E32 := E.tmp 32 _ rfl; clear E; clear vv HV HN HX LH WR HT HH; unfold O78_5_17; (try simp only [slZ, smZ, putF, slV, smL, msL] at *); go_simp
   refine obsC (j := 19) (m := 12) rfl rfl ?_ ?_
   ·refine ob_look (o := O78_5_18) rfl (fun gg => [(33, zp g (t * 14 + 10))]) (fun gg => ⟨.inl ⟨17, by kernel_rfl, rfl, vv gg 17⟩, trivial⟩) (.inr (.inl ⟨10, true, rfl, by kernel_rfl, ⟨26, rfl⟩, fun gg => ⟨true, vv gg 10, rfl⟩⟩)) (fun _ _ _ h => h) (fun gg f W ev hJ hd hn E => ?_)
    rw [show V gg 18 = .agg #[zi (S t).hg.c, zi (S t).hg.w] from vv gg 18]; have hJ9 := hJ; obtain ⟨s0, s1, s2, s3, s4, s5, s6, s7, s8, s9, s10, s11, s12, s13⟩ := hJ9.po.slot (t := t) (by assumption); clear hJ9; clear hJ hd hn; have E33 := E.tmp 33 _ rfl; clear E; clear vv HV HN HX LH WR HT HH; unfold O78_5_18; (try simp only [slZ, smZ, putF, slV, smL, msL] at *); go_simp
   refine obsC (j := 20) (m := 11) rfl rfl ?_ ?_
   ·exact ob_copy (o := O78_5_19) (u := 3) rfl rfl (fun gg => ⟨.inr ⟨by rw [vv]; rfl, by kernel_rfl⟩, trivial⟩) (.inr (.inl ⟨10, true, rfl, by kernel_rfl, ⟨26, rfl⟩, fun gg => ⟨true, vv gg 10, rfl⟩⟩)) (fun _ _ _ h => h)
   refine obsC (j := 21) (m := 10) rfl rfl ?_ ?_
   ·exact ob_copy (o := O78_5_20) (u := 4) rfl rfl (fun gg => ⟨.inr ⟨by rw [vv]; rfl, by kernel_rfl⟩, trivial⟩) (.inr (.inl ⟨10, true, rfl, by kernel_rfl, ⟨26, rfl⟩, fun gg => ⟨true, vv gg 10, rfl⟩⟩)) (fun _ _ _ h => h)
   refine obsC (j := 22) (m := 9) rfl rfl ?_ ?_
   ·refine ob_look (o := O78_5_21) rfl (fun gg => [(35, .slice (some ⟨hb, 0, none⟩) n n), (36, zi t)]) (fun gg => ⟨.inl ⟨19, by kernel_rfl, rfl, vv gg 19⟩, .inl ⟨20, by kernel_rfl, rfl, vv gg 20⟩, trivial⟩) (.inr (.inl ⟨10, true, rfl, by kernel_rfl, ⟨26, rfl⟩, fun gg => ⟨true, vv gg 10, rfl⟩⟩)) (fun _ _ _ h => h) (fun gg f W ev hJ hd hn E => ?_)
    rw [show V gg 21 = zp hb (t * 2) from vv gg 21]; clear hJ hd hn; have E35 := E.tmp 35 _ rfl; have E36 := E.tmp 36 _ rfl; clear E; clear vv HV HN HX LH WR HT HH; unfold O78_5_21; (try simp only [slZ, smZ, putF, slV, smL, msL] at *); go_simp
   refine obsC (j := 23) (m := 8) rfl rfl ?_ ?_
   ·refine ob_look (o := O78_5_22) rfl (fun gg => [(37, zp hb (t * 2))]) (fun gg => ⟨.inl ⟨21, by kernel_rfl, rfl, vv gg 21⟩, trivial⟩) (.inr (.inl ⟨10, true, rfl, by kernel_rfl, ⟨26, rfl⟩, fun gg => ⟨true, vv gg 10, rfl⟩⟩)) (fun _ _ _ h => h) (fun gg f W ev hJ hd hn E => ?_)
    rw [show V gg 22 = .agg #[zi (S t).hg.c, zi (S t).hg.w] from vv gg 22]; have hJ9 := hJ; have q0 := (hJ9.box (List.Mem.head _) (t * 2)).1; rw [(hsA_get _ lt1).1, unhide HH] at q0; have q1 := (hJ9.box (List.Mem.head _) (t * 2 + 1)).1; rw [(hsA_get _ lt1).2, unhide HH] at q1; clear hJ9; clear hJ hd hn; have E37 := E.tmp 37 _ rfl; clear E; clear vv HV HN HX LH WR HT HH; unfold O78_5_22; (try simp only [slZ, smZ, putF, slV, smL, msL] at *); go_simp
   refine obsC (j := 24) (m := 7) rfl rfl ?_ ?_
   ·refine ob_look (o := O78_5_23) rfl (fun gg => [(34, .agg #[zi (S t).hg.c, zi (S t).hg.w]), (38, .agg #[zi (S t).hg.c, zi (S t).hg.w])]) (fun gg => ⟨.inl ⟨18, by kernel_rfl, rfl, vv gg 18⟩, .inl ⟨22, by kernel_rfl, rfl, vv gg 22⟩, trivial⟩) (.inr (.inl ⟨10, true, rfl, by kernel_rfl, ⟨26, rfl⟩, fun gg => ⟨true, vv gg 10, rfl⟩⟩)) (fun _ _ _ h => h) (fun gg f W ev hJ hd hn E => ?_)
    rw [show V gg 23 = .bool true from vv gg 23]; clear hJ hd hn; have E34 := E.tmp 34 _ rfl; have E38 := E.tmp 38 _ rfl; clear E; clear vv HV HN HX LH WR HT HH; unfold O78_5_23; (try simp only [slZ, smZ, putF, slV, smL, msL] at *); go_simp
   refine obsC (j := 25) (m := 6) rfl rfl ?_ ?_
   ·exact ob_copy (o := O78_5_24) (u := 39) rfl rfl (fun gg => ⟨.inl ⟨23, by kernel_rfl, rfl, (vv gg 23).trans (vv gg 24).symm⟩, trivial⟩) (.inr (.inl ⟨10, true, rfl, by kernel_rfl, ⟨26, rfl⟩, fun gg => ⟨true, vv gg 10, rfl⟩⟩)) (fun _ _ _ h => h)
   refine obsC (j := 26) (m := 5) rfl rfl ?_ ?_
   ·exact ob_copy (o := O78_5_25) (u := 0) rfl rfl (fun gg => ⟨.inr ⟨by rw [vv]; rfl, by kernel_rfl⟩, trivial⟩) (.inr (.inl ⟨24, true, rfl, by kernel_rfl, ⟨40, rfl⟩, fun gg => ⟨true, vv gg 24, rfl⟩⟩)) (fun _ _ _ h => h)
   refine obsC (j := 27) (m := 4) rfl rfl ?_ ?_
   ·exact ob_copy (o := O78_5_26) (u := 4) rfl rfl (fun gg => ⟨.inr ⟨by rw [vv]; rfl, by kernel_rfl⟩, trivial⟩) (.inr (.inl ⟨24, true, rfl, by kernel_rfl, ⟨40, rfl⟩, fun gg => ⟨true, vv gg 24, rfl⟩⟩)) (fun _ _ _ h => h)
   refine obsC (j := 28) (m := 3) rfl rfl ?_ ?_
   ·refine ob_run (o := O78_5_27) rfl (fun gg => [(41, zp p 0), (42, zi t)]) (fun gg => ⟨.inl ⟨25, by kernel_rfl, rfl, vv gg 25⟩, .inl ⟨26, by kernel_rfl, rfl, vv gg 26⟩, trivial⟩) (.inr (.inl ⟨24, true, rfl, by kernel_rfl, ⟨40, rfl⟩, fun gg => ⟨true, vv gg 24, rfl⟩⟩)) (fun gg f W ev hJ hf hd hn E => ?_)
    refine .inr (.inr ⟨93, #[zp p 0, zi t], ?_, (sumFitsL hJ.po (unhide LH) (unhide HT)).mono ?_⟩)
    ·clear hJ hf hd hn; have EF := E.func; have E41 := E.tmp 41 _ rfl; have E42 := E.tmp 42 _ rfl; clear E; clear vv HV HN HX LH WR HT HH; unfold O78_5_27; go_simp
    ·rintro e w9 ⟨rfl, q1, q2⟩
     exact ⟨_, rfl, gg, .inr (vv gg 27), fun _ => .inr (.inr rfl), hJ.call q1 q2⟩
   refine obsC (j := 29) (m := 2) rfl rfl ?_ ?_
   ·refine ob_look (o := O78_5_28) rfl (fun gg => [(40, .bool true), (43, .bool true)]) (fun gg => ⟨.inl ⟨24, by kernel_rfl, rfl, vv gg 24⟩, .inl ⟨27, by kernel_rfl, rfl, vv gg 27⟩, trivial⟩) (.inr (.inl ⟨10, true, rfl, by kernel_rfl, ⟨26, rfl⟩, fun gg => ⟨true, vv gg 10, rfl⟩⟩)) (fun _ _ _ h => h) (fun gg f W ev hJ hd hn E => ?_)
    rw [show V gg 28 = .bool true from vv gg 28]; clear hJ hd hn; have EC := E.const; have E40 := E.tmp 40 _ rfl; have E43 := E.tmp 43 _ rfl; clear E; clear vv HV HN HX LH WR HT HH; unfold O78_5_28; (try simp only [slZ, smZ, putF, slV, smL, msL] at *); go_simp
   refine obsC (j := 30) (m := 1) rfl rfl ?_ ?_
   ·refine ob_look (o := O78_5_29) rfl (fun gg => [(44, .bool true)]) (fun gg => ⟨.inl ⟨28, by kernel_rfl, rfl, vv gg 28⟩, trivial⟩) (.inr (.inl ⟨10, true, rfl, by kernel_rfl, ⟨26, rfl⟩, fun gg => ⟨true, vv gg 10, rfl⟩⟩)) (fun _ _ _ h => h) (fun gg f W ev hJ hd hn E => ?_)
    rw [show V gg 29 = .bool false from vv gg 29]; clear hJ hd hn; have E44 := E.tmp 44 _ rfl; clear E; clear vv HV HN HX LH WR HT HH; unfold O78_5_29; (try simp only [slZ, smZ, putF, slV, smL, msL] at *); go_simp
   refine obsC (j := 31) (m := 0) rfl rfl ?_ ?_
   ·refine ob_look (o := O78_5_30) rfl (fun gg => [(26, .bool true), (45, .bool false)]) (fun gg => ⟨.inl ⟨10, by kernel_rfl, rfl, vv gg 10⟩, .inl ⟨29, by kernel_rfl, rfl, vv gg 29⟩, trivial⟩) (.inl ⟨rfl, rfl⟩) (fun _ _ _ h => h) (fun gg f W ev hJ hd hn E => ?_)
    rw [show V gg 30 = .bool false from vv gg 30]; clear hJ hd hn; have EC := E.const; have E26 := E.tmp 26 _ rfl; have E45 := E.tmp 45 _ rfl; clear E; clear vv HV HN HX LH WR HT HH; unfold O78_5_30; (try simp only [slZ, smZ, putF, slV, smL, msL] at *); go_simp
   exact True.intro
  have K9 : Kn a9 47 [(0, zp p 0), (3, .slice (some ⟨hb, 0, none⟩) n n), (4, zi t), (46, .bool false)] := hk.kn' (by kernel_rfl) hf ⟨.inr ⟨rfl, by kernel_rfl⟩, .inr ⟨rfl, by kernel_rfl⟩, .inr ⟨rfl, by kernel_rfl⟩, .inl ⟨30, by kernel_rfl, rfl, vv gg 30⟩, trivial⟩
  clear hk FH FD HV vv K8
  have FH := hide hj
  clear hj hf
  show Code.wp _ _ _ _ _
  refine knCond (b := false) K9 rfl (wp_skip ?_)
  show Code.wp _ _ _ _ _
  have wr := unhide WR
  clear WR
  refine wp_region_lit ?_
  refine lM K9 fun a10 K10 => ?_
  clear K9
  refine lT (zi ((t + 1 : Nat) : Int)) W9 K10 (want_none rfl) (fun ev E => ?_) fun a11 K11 => ?_
  ·have EC := E.const; have E14 := E.tmp 14 _ rfl; clear E; clear FH HN HX LH HT HH; (try simp only [slZ, smZ, putF, slV, smL, msL] at *); go_simp
  clear K10
  refine lA K11 fun a12 K12 => ?_
  clear K11
  refine wpList_nil ?_
  exact unhide HN _ _ lt1 (K12.less ⟨rfl, rfl, rfl, trivial⟩) (unhide FH)
 ·have hc : (S t).sm.c = 0 := Classical.byContradiction fun h => ht ((unhide LH).th_c.2 h)
  have HT := hide ht
  clear ht
  refine seqN ?_
  refine seqR ?_
  refine lM K0 fun a1 K1 => ?_
  refine lM K1 fun a2 K2 => ?_
  clear K1
  refine lN K2 fun a3 K3 => ?_
  clear K2
  refine lF K3 FA66_1 fun a4 K4 => ?_
  clear K3
  refine lT (.slice (some ⟨g, 0, none⟩) n cap) w1 K4 (want_none rfl) (fun ev E => ?_) fun a5 K5 => ?_
  ·obtain ⟨c0, c1, _⟩ := (unhide FH).po.head; have E10 := E.tmp 10 _ rfl; clear E; clear FH HN HX LH WR HT; (try simp only [slZ, smZ, putF, slV, smL, msL] at *); go_simp
  clear K4
  refine lT (zi n) w1 K5 (want_none rfl) (fun ev E => ?_) fun a6 K6 => ?_
  ·have E11 := E.tmp 11 _ rfl; clear E; clear FH HN HX LH WR HT; (try simp only [slZ, smZ, putF, slV, smL, msL] at *); go_simp
  clear K5
  refine lT (.bool true) w1 K6 (want_none rfl) (fun ev E => ?_) fun a7 K7 => ?_
  ·have E7 := E.tmp 7 _ rfl; have E12 := E.tmp 12 _ rfl; clear E; clear FH HN HX LH WR HT; (try simp only [slZ, smZ, putF, slV, smL, msL] at *); go_simp
  clear K6
  refine nilN ?_
  refine knCond (b := true) K7 rfl (wp_skip ?_)
  show Code.wp _ _ _ _ _
  have K8 : Kn _ 47 [(0, zp p 0), (3, .slice (some ⟨hb, 0, none⟩) n n), (4, zi t)] := K7.less ⟨rfl, rfl, rfl, trivial⟩
  clear K7
  refine seqN ?_
  refine blockN ?_
  refine seqN ?_
  have FD := (unhide FH).drew
  obtain ⟨V, hV⟩ : ∃ V : (Unit) -> Nat -> Value, V = fun gg k => ([zp p 0, zp p 0, zp p 1, .slice (some ⟨g, 0, none⟩) n cap, zi t, zp g (t * 14), zp g (t * 14 + 6), zp g (t * 14 + 6), zi (S t).sm.c, .bool false, .bool false, undef, undef, undef, undef, undef, undef, undef, undef, undef, undef, undef, undef, undef, undef, undef, undef, undef, undef, undef, .bool false] : List Value).getD k undef := ⟨_, rfl⟩
  have vv : ∀ gg k, V gg k = ([zp p 0, zp p 0, zp p 1, .slice (some ⟨g, 0, none⟩) n cap, zi t, zp g (t * 14), zp g (t * 14 + 6), zp g (t * 14 + 6), zi (S t).sm.c, .bool false, .bool false, undef, undef, undef, undef, undef, undef, undef, undef, undef, undef, undef, undef, undef, undef, undef, undef, undef, undef, undef, .bool false] : List Value).getD k undef := fun _ _ => by rw [hV]
  have HV := hide (And.intro True.intro hV)
  clear hV
  show (Code.region 5 OPS78_5.toArray true).wp _ _ _ _
  refine wp_region_once (A := Unit) (V := V) (J := fun gg f W => Fr w W p g n cap room S [(hb, .cells (hsA (HA S n) n) 73 (0, 0))]) () 31 (by kernel_rfl) (by kernel_rfl) K8 (FD) (by kernel_rfl) ?_ (fun gg f a9 W9 hf hk hj => ?_)
  ·clear FH FD K8
   refine obsC (j := 1) (m := 30) rfl rfl ?_ ?_
   ·exact ob_copy (o := O78_5_0) (u := 0) rfl rfl (fun gg => ⟨.inr ⟨by rw [vv]; rfl, by kernel_rfl⟩, trivial⟩) (.inl ⟨rfl, rfl⟩) (fun _ _ _ h => h)
   refine obsC (j := 2) (m := 29) rfl rfl ?_ ?_
   ·refine ob_look (o := O78_5_1) rfl (fun gg => [(16, zp p 0)]) (fun gg => ⟨.inl ⟨0, by kernel_rfl, rfl, vv gg 0⟩, trivial⟩) (.inl ⟨rfl, rfl⟩) (fun _ _ _ h => h) (fun gg f W ev hJ hd hn E => ?_)
    rw [show V gg 1 = zp p 0 from vv gg 1]; clear hJ hd hn; have E16 := E.tmp 16 _ rfl; clear E; clear vv HV HN HX LH WR HT; unfold O78_5_1; (try simp only [slZ, smZ, putF, slV, smL, msL] at *); go_simp
   refine obsC (j := 3) (m := 28) rfl rfl ?_ ?_
   ·refine ob_look (o := O78_5_2) rfl (fun gg => [(17, zp p 0)]) (fun gg => ⟨.inl ⟨1, by kernel_rfl, rfl, vv gg 1⟩, trivial⟩) (.inl ⟨rfl, rfl⟩) (fun _ _ _ h => h) (fun gg f W ev hJ hd hn E => ?_)
    rw [show V gg 2 = zp p 1 from vv gg 2]; clear hJ hd hn; have E17 := E.tmp 17 _ rfl; clear E; clear vv HV HN HX LH WR HT; unfold O78_5_2; (try simp only [slZ, smZ, putF, slV, smL, msL] at *); go_simp
   refine obsC (j := 4) (m := 27) rfl rfl ?_ ?_
   ·refine ob_look (o := O78_5_3) rfl (fun gg => [(18, zp p 1)]) (fun gg => ⟨.inl ⟨2, by kernel_rfl, rfl, vv gg 2⟩, trivial⟩) (.inl ⟨rfl, rfl⟩) (fun _ _ _ h => h) (fun gg f W ev hJ hd hn E => ?_)
    rw [show V gg 3 = .slice (some ⟨g, 0, none⟩) n cap from vv gg 3]; have hJ9 := hJ; obtain ⟨c0, c1, _⟩ := hJ9.po.head; clear hJ9; clear hJ hd hn; have E18 := E.tmp 18 _ rfl; clear E; clear vv HV HN HX LH WR HT; unfold O78_5_3; (try simp only [slZ, smZ, putF, slV, smL, msL] at *); go_simp
   refine obsC (j := 5) (m := 26) rfl rfl ?_ ?_
   ·exact ob_copy (o := O78_5_4) (u := 4) rfl rfl (fun gg => ⟨.inr ⟨by rw [vv]; rfl, by kernel_rfl⟩, trivial⟩) (.inl ⟨rfl, rfl⟩) (fun _ _ _ h => h)
   refine obsC (j := 6) (m := 25) rfl rfl ?_ ?_
   ·refine ob_look (o := O78_5_5) rfl (fun gg => [(19, .slice (some ⟨g, 0, none⟩) n cap), (20, zi t)]) (fun gg => ⟨.inl ⟨3, by kernel_rfl, rfl, vv gg 3⟩, .inl ⟨4, by kernel_rfl, rfl, vv gg 4⟩, trivial⟩) (.inl ⟨rfl, rfl⟩) (fun _ _ _ h => h) (fun gg f W ev hJ hd hn E => ?_)
    rw [show V gg 5 = zp g (t * 14) from vv gg 5]; clear hJ hd hn; have E19 := E.tmp 19 _ rfl; have E20 := E.tmp 20 _ rfl; clear E; clear vv HV HN HX LH WR HT; unfold O78_5_5; (try simp only [slZ, smZ, putF, slV, smL, msL] at *); go_simp
   refine obsC (j := 7) (m := 24) rfl rfl ?_ ?_
   ·refine ob_look (o := O78_5_6) rfl (fun gg => [(21, zp g (t * 14))]) (fun gg => ⟨.inl ⟨5, by kernel_rfl, rfl, vv gg 5⟩, trivial⟩) (.inl ⟨rfl, rfl⟩) (fun _ _ _ h => h) (fun gg f W ev hJ hd hn E => ?_)
    rw [show V gg 6 = zp g (t * 14 + 6) from vv gg 6]; clear hJ hd hn; have E21 := E.tmp 21 _ rfl; clear E; clear vv HV HN HX LH WR HT; unfold O78_5_6; (try simp only [slZ, smZ, putF, slV, smL, msL] at *); go_simp
   refine obsC (j := 8) (m := 23) rfl rfl ?_ ?_
   ·refine ob_look (o := O78_5_7) rfl (fun gg => [(22, zp g (t * 14 + 6))]) (fun gg => ⟨.inl ⟨6, by kernel_rfl, rfl, vv gg 6⟩, trivial⟩) (.inl ⟨rfl, rfl⟩) (fun _ _ _ h => h) (fun gg f W ev hJ hd hn E => ?_)
    rw [show V gg 7 = zp g (t * 14 + 6) from vv gg 7]; clear hJ hd hn; have E22 := E.tmp 22 _ rfl; clear E; clear vv HV HN HX LH WR HT; unfold O78_5_7; (try simp only [slZ, smZ, putF, slV, smL, msL] at *); go_simp
   refine obsC (j := 9) (m := 22) rfl rfl ?_ ?_
   ·refine ob_look (o := O78_5_8) rfl (fun gg => [(23, zp g (t * 14 + 6))]) (fun gg => ⟨.inl ⟨7, by kernel_rfl, rfl, vv gg 7⟩, trivial⟩) (.inl ⟨rfl, rfl⟩) (fun _ _ _ h => h) (fun gg f W ev hJ hd hn E => ?_)
    rw [show V gg 8 = zi (S t).sm.c from vv gg 8]; have hJ9 := hJ; obtain ⟨s0, s1, s2, s3, s4, s5, s6, s7, s8, s9, s10, s11, s12, s13⟩ := hJ9.po.slot (t := t) (by assumption); clear hJ9; clear hJ hd hn; have E23 := E.tmp 23 _ rfl; clear E; clear vv HV HN HX LH WR HT; unfold O78_5_8; (try simp only [slZ, smZ, putF, slV, smL, msL] at *); go_simp
   refine obsC (j := 10) (m := 21) rfl rfl ?_ ?_
   ·refine ob_look (o := O78_5_9) rfl (fun gg => [(24, zi (S t).sm.c)]) (fun gg => ⟨.inl ⟨8, by kernel_rfl, rfl, vv gg 8⟩, trivial⟩) (.inl ⟨rfl, rfl⟩) (fun _ _ _ h => h) (fun gg f W ev hJ hd hn E => ?_)
    rw [show V gg 9 = .bool false from vv gg 9]; clear hJ hd hn; have EC := E.const; have E24 := E.tmp 24 _ rfl; clear E; clear vv HV HN HX LH WR HT; unfold O78_5_9; (try simp only [slZ, smZ, putF, slV, smL, msL] at *); go_simp
   refine obsC (j := 11) (m := 20) rfl rfl ?_ ?_
   ·exact ob_copy (o := O78_5_10) (u := 25) rfl rfl (fun gg => ⟨.inl ⟨9, by kernel_rfl, rfl, (vv gg 9).trans (vv gg 10).symm⟩, trivial⟩) (.inl ⟨rfl, rfl⟩) (fun _ _ _ h => h)
   refine obsC (j := 12) (m := 19) rfl rfl ?_ ?_
   ·exact ob_skip (o := O78_5_11) rfl (.inr (.inl ⟨10, true, rfl, by kernel_rfl, ⟨26, rfl⟩, fun gg => ⟨false, vv gg 10, rfl⟩⟩)) (fun _ _ _ h => h) (fun gg => vv gg 11)
   refine obsC (j := 13) (m := 18) rfl rfl ?_ ?_
   ·exact ob_skip (o := O78_5_12) rfl (.inr (.inl ⟨10, true, rfl, by kernel_rfl, ⟨26, rfl⟩, fun gg => ⟨false, vv gg 10, rfl⟩⟩)) (fun _ _ _ h => h) (fun gg => vv gg 12)
   refine obsC (j := 14) (m := 17) rfl rfl ?_ ?_
   ·exact ob_skip (o := O78_5_13) rfl (.inr (.inl ⟨10, true, rfl, by kernel_rfl, ⟨26, rfl⟩, fun gg => ⟨false, vv gg 10, rfl⟩⟩)) (fun _ _ _ h => h) (fun gg => vv gg 13)
   refine obsC (j := 15) (m := 16) rfl rfl ?_ ?_
   ·exact ob_skip (o := O78_5_14) rfl (.inr (.inl ⟨10, true, rfl, by kernel_rfl, ⟨26, rfl⟩, fun gg => ⟨false, vv gg 10, rfl⟩⟩)) (fun _ _ _ h => h) (fun gg => vv gg 14)
   refine obsC (j := 16) (m := 15) rfl rfl ?_ ?_
   ·exact ob_skip (o := O78_5_15) rfl (.inr (.inl ⟨10, true, rfl, by kernel_rfl, ⟨26, rfl⟩, fun gg => ⟨false, vv gg 10, rfl⟩⟩)) (fun _ _ _ h => h) (fun gg => vv gg 15)
   refine obsC (j := 17) (m := 14) rfl rfl ?_ ?_
   ·exact ob_skip (o := O78_5_16) rfl (.inr (.inl ⟨10, true, rfl, by kernel_rfl, ⟨26, rfl⟩, fun gg => ⟨false, vv gg 10, rfl⟩⟩)) (fun _ _ _ h => h) (fun gg => vv gg 16)
   refine obsC (j := 18) (m := 13) rfl rfl ?_ ?_
   ·exact ob_skip (o := O78_5_17) rfl (.inr (.inl ⟨10, true, rfl, by kernel_rfl, ⟨26, rfl⟩, fun gg => ⟨false, vv gg 10, rfl⟩⟩)) (fun _ _ _ h => h) (fun gg => vv gg 17)
   refine obsC (j := 19) (m := 12) rfl rfl ?_ ?_
   ·exact ob_skip (o := O78_5_18) rfl (.inr (.inl ⟨10, true, rfl, by kernel_rfl, ⟨26, rfl⟩, fun gg => ⟨false, vv gg 10, rfl⟩⟩)) (fun _ _ _ h => h) (fun gg => vv gg 18)
   refine obsC (j := 20) (m := 11) rfl rfl ?_ ?_
   ·exact ob_skip (o := O78_5_19) rfl (.inr (.inl ⟨10, true, rfl, by kernel_rfl, ⟨26, rfl⟩, fun gg => ⟨false, vv gg 10, rfl⟩⟩)) (fun _ _ _ h => h) (fun gg => vv gg 19)
   refine obsC (j := 21) (m := 10) rfl rfl ?_ ?_
   ·exact ob_skip (o := O78_5_20) rfl (.inr (.inl ⟨10, true, rfl, by kernel_rfl, ⟨26, rfl⟩, fun gg => ⟨false, vv gg 10, rfl⟩⟩)) (fun _ _ _ h => h) (fun gg => vv gg 20)
   refine obsC (j := 22) (m := 9) rfl rfl ?_ ?_
   ·exact ob_skip (o := O78_5_21) rfl (.inr (.inl ⟨10, true, rfl, by kernel_rfl, ⟨26, rfl⟩, fun gg => ⟨false, vv gg 10, rfl⟩⟩)) (fun _ _ _ h => h) (fun gg => vv gg 21)
   refine obsC (j := 23) (m := 8) rfl rfl ?_ ?_
   ·exact ob_skip (o := O78_5_22) rfl (.inr (.inl ⟨10, true, rfl, by kernel_rfl, ⟨26, rfl⟩, fun gg => ⟨false, vv gg 10, rfl⟩⟩)) (fun _ _ _ h => h) (fun gg => vv gg 22)
   refine obsC (j := 24) (m := 7) rfl rfl ?_ ?_
   ·exact ob_skip (o := O78_5_23) rfl (.inr (.inl ⟨10, true, rfl, by kernel_rfl, ⟨26, rfl⟩, fun gg => ⟨false, vv gg 10, rfl⟩⟩)) (fun _ _ _ h => h) (fun gg => vv gg 23)
   refine obsC (j := 25) (m := 6) rfl rfl ?_ ?_
   ·exact ob_skip (o := O78_5_24) rfl (.inr (.inl ⟨10, true, rfl, by kernel_rfl, ⟨26, rfl⟩, fun gg => ⟨false, vv gg 10, rfl⟩⟩)) (fun _ _ _ h => h) (fun gg => vv gg 24)
   refine obsC (j := 26) (m := 5) rfl rfl ?_ ?_
   ·exact ob_skip (o := O78_5_25) rfl (.inr (.inr ⟨24, true, rfl, by kernel_rfl, ⟨40, rfl⟩, fun gg => vv gg 24, rfl⟩)) (fun _ _ _ h => h) (fun gg => vv gg 25)
   refine obsC (j := 27) (m := 4) rfl rfl ?_ ?_
   ·exact ob_skip (o := O78_5_26) rfl (.inr (.inr ⟨24, true, rfl, by kernel_rfl, ⟨40, rfl⟩, fun gg => vv gg 24, rfl⟩)) (fun _ _ _ h => h) (fun gg => vv gg 26)
   refine obsC (j := 28) (m := 3) rfl rfl ?_ ?_
   ·exact ob_skip (o := O78_5_27) rfl (.inr (.inr ⟨24, true, rfl, by kernel_rfl, ⟨40, rfl⟩, fun gg => vv gg 24, rfl⟩)) (fun _ _ _ h => h) (fun gg => vv gg 27)
   refine obsC (j := 29) (m := 2) rfl rfl ?_ ?_
   ·exact ob_skip (o := O78_5_28) rfl (.inr (.inl ⟨10, true, rfl, by kernel_rfl, ⟨26, rfl⟩, fun gg => ⟨false, vv gg 10, rfl⟩⟩)) (fun _ _ _ h => h) (fun gg => vv gg 28)
   refine obsC (j := 30) (m := 1) rfl rfl ?_ ?_
   ·exact ob_skip (o := O78_5_29) rfl (.inr (.inl ⟨10, true, rfl, by kernel_rfl, ⟨26, rfl⟩, fun gg => ⟨false, vv gg 10, rfl⟩⟩)) (fun _ _ _ h => h) (fun gg => vv gg 29)
   refine obsC (j := 31) (m := 0) rfl rfl ?_ ?_
   ·refine ob_look (o := O78_5_30) rfl (fun gg => [(26, .bool false), (45, undef)]) (fun gg => ⟨.inl ⟨10, by kernel_rfl, rfl, vv gg 10⟩, .inl ⟨29, by kernel_rfl, rfl, vv gg 29⟩, trivial⟩) (.inl ⟨rfl, rfl⟩) (fun _ _ _ h => h) (fun gg f W ev hJ hd hn E => ?_)
    rw [show V gg 30 = .bool false from vv gg 30]; clear hJ hd hn; have EC := E.const; have E26 := E.tmp 26 _ rfl; have E45 := E.tmp 45 _ rfl; clear E; clear vv HV HN HX LH WR HT; unfold O78_5_30; (try simp only [slZ, smZ, putF, slV, smL, msL] at *); go_simp
   exact True.intro
  have K9 : Kn a9 47 [(0, zp p 0), (3, .slice (some ⟨hb, 0, none⟩) n n), (4, zi t), (46, .bool false)] := hk.kn' (by kernel_rfl) hf ⟨.inr ⟨rfl, by kernel_rfl⟩, .inr ⟨rfl, by kernel_rfl⟩, .inr ⟨rfl, by kernel_rfl⟩, .inl ⟨30, by kernel_rfl, rfl, vv gg 30⟩, trivial⟩
  clear hk FH FD HV vv K8
  have FH := hide hj
  clear hj hf
  show Code.wp _ _ _ _ _
  refine knCond (b := false) K9 rfl (wp_skip ?_)
  show Code.wp _ _ _ _ _
  have wr := unhide WR
  clear WR
  refine wp_region_lit ?_
  refine lM K9 fun a10 K10 => ?_
  clear K9
  refine lT (zi ((t + 1 : Nat) : Int)) W9 K10 (want_none rfl) (fun ev E => ?_) fun a11 K11 => ?_
  ·have EC := E.const; have E14 := E.tmp 14 _ rfl; clear E; clear FH HN HX LH HT; (try simp only [slZ, smZ, putF, slV, smL, msL] at *); go_simp
  clear K10
  refine lA K11 fun a12 K12 => ?_
  clear K11
  refine wpList_nil ?_
  exact unhide HN _ _ lt1 (K12.less ⟨rfl, rfl, rfl, trivial⟩) (unhide FH)
set_option maxHeartbeats 4000000 in
theorem sumsFitL {p g n cap room : Nat} {T : Tr} {S : Ss} {G : Gh} {w : World} (h : Pool w p g n cap room S) (L : Lc S n T G) :
  Calls Try.prog 78 #[zp p 0] w fun e w' => e = .returned (.bool true) /\ Keep [g] w w' /\ Pool w' p g n cap room S := by
 have FH := hide (Fr.start h)
 have LH := hide L
 clear h L
 refine callsK (n := 47) (L := [(0, zp p 0)]) Try.func78 rfl Try.ntmps78 rfl rfl (fun a0 K0 => ?_)
 refine seqR ?_
 refine lC K0 fun a1 K1 => ?_
 refine nilN ?_
 refine seqR ?_
 refine lM K1 fun a2 K2 => ?_
 clear K1
 refine lcall (f := 92) (args := #[zp p 0]) K2 rfl rfl (want_none rfl) (fun ev E => ?_) (hangingL (unhide FH).po (unhide LH)) (fun e W3 hR => ?_)
 ·have EF := E.func; have E5 := E.tmp 5 _ rfl; clear E; clear FH LH; (try simp only [slZ, smZ, putF, slV, smL, msL] at *); go_simp
 obtain ⟨hb, rfl, Q1⟩ := hR
 have F2 : Fr w W3 p g n cap room S [(hb, .cells (hsA (HA S n) n) 73 (0, 0))] := ⟨Q1.po, (unhide FH).keep.tr Q1.keep, fun x hx => ⟨(Q1.bs x hx).1, Nat.le_trans (unhide FH).keep.size (Q1.bs x hx).2.1, (Q1.bs x hx).2.2⟩, Q1.nd⟩
 clear FH Q1
 have FH := hide F2
 clear F2
 refine ⟨_, rfl, fun a4 K4 => ?_⟩
 clear K2
 refine lA K4 fun a5 K5 => ?_
 clear K4
 refine nilN ?_
 refine seqN ?_
 refine seqR ?_
 refine lC K5 fun a6 K6 => ?_
 clear K5
 refine nilN ?_
 have K7 : Kn _ 47 [(0, zp p 0), (3, .slice (some ⟨hb, 0, none⟩) n n), (4, zi ((1 : Nat) : Int))] := K6.less ⟨rfl, rfl, rfl, trivial⟩
 clear K6
 refine wp_block ?_
 refine wp_loop_ghost (fun k a w' => ∃ t : Nat, Kn a 47 [(0, zp p 0), (3, .slice (some ⟨hb, 0, none⟩) n n), (4, zi t)] /\ Fr w w' p g n cap room S [(hb, .cells (hsA (HA S n) n) 73 (0, 0))] /\ t <= n /\ k = n - t) _ ⟨1, K7, unhide FH, (unhide LH).n0, rfl⟩ ?_
 rintro k a w1 ⟨t, K1, F1, hle, hk⟩
 refine round78 K1 F1 (unhide LH) hle (fun a' W lt K2 F2 => ?_) (fun a' W n0 KZ F2 => ?_)
 ·exact ⟨_, by omega, t + 1, K2, F2, by omega, rfl⟩
 show Code.wp _ _ _ _ _
 clear FH F1 K1 hk
 have FH := hide F2
 clear F2
 clear n0
 refine seqR ?_
 refine lC KZ fun a8 K8 => ?_
 clear KZ
 refine nilN ?_
 refine wp_ret ?_
 refine bodyPost_ret (v := .bool true) ?_ K8.defers ⟨rfl, (unhide FH).keep, (unhide FH).po⟩
 have e2 := K8.has 2 _ rfl
 simp [results, Try.results78, go_sem, e2]
set_option maxHeartbeats 4000000 in
theorem checkL {p g n cap room : Nat} {T : Tr} {S : Ss} {G : Gh} {w : World} (hr : room = T.n) (h : Pool w p g n cap room S) (L : Lc S n T G) :
  Calls Try.prog 49 #[zp p 0] w fun e w' => e = .returned (.bool true) /\ Keep [g] w w' /\ Pool w' p g n cap room S := by
 have FH := hide (Fr.start h)
 have LH := hide L
 have HR := hide hr
 clear h L hr
 refine callsK (n := 17) (L := [(0, zp p 0)]) Try.func49 rfl Try.ntmps49 rfl rfl (fun a0 K0 => ?_)
 refine seqR ?_
 refine lC K0 fun a1 K1 => ?_
 refine nilN ?_
 refine seqR ?_
 refine lM K1 fun a2 K2 => ?_
 clear K1
 refine lT (.bool true) w K2 (want_none rfl) (fun ev E => ?_) fun a3 K3 => ?_
 ·have EC := E.const; have E3 := E.tmp 3 _ rfl; clear E; clear FH LH HR; (try simp only [slZ, smZ, putF, slV, smL, msL] at *); go_simp
 clear K2
 refine lM K3 fun a4 K4 => ?_
 clear K3
 refine lmv K4 rfl rfl (want_some K4 rfl rfl rfl) rfl rfl (fun a5 K5 => ?_)
 clear K4
 refine lcall (f := 76) (args := #[zp p 0]) K5 rfl rfl (want_some K5 rfl rfl rfl) (fun ev E => ?_) (listFitsR (unhide HR) (unhide FH).po (unhide LH)) (fun e W6 hR => ?_)
 ·have EF := E.func; have E6 := E.tmp 6 _ rfl; clear E; clear FH LH HR; (try simp only [slZ, smZ, putF, slV, smL, msL] at *); go_simp
 obtain ⟨rfl, Q1, P1⟩ := hR
 have F2 := hide ((unhide FH).call Q1 P1)
 clear FH Q1 P1
 have FH := F2
 clear F2
 refine ⟨_, rfl, fun a7 K7 => ?_⟩
 clear K5
 refine lT (.bool true) W6 K7 (want_none rfl) (fun ev E => ?_) fun a8 K8 => ?_
 ·have EC := E.const; have E5 := E.tmp 5 _ rfl; have E7 := E.tmp 7 _ rfl; clear E; clear FH LH HR; (try simp only [slZ, smZ, putF, slV, smL, msL] at *); go_simp
 clear K7
 refine lM K8 fun a9 K9 => ?_
 clear K8
 refine lmv K9 rfl rfl (want_some K9 rfl rfl rfl) rfl rfl (fun a10 K10 => ?_)
 clear K9
 refine lcall (f := 77) (args := #[zp p 0]) K10 rfl rfl (want_some K10 rfl rfl rfl) (fun ev E => ?_) (linksFitL (unhide FH).po (unhide LH)) (fun e W11 hR => ?_)
 ·have EF := E.func; have E10 := E.tmp 10 _ rfl; clear E; clear FH LH HR; (try simp only [slZ, smZ, putF, slV, smL, msL] at *); go_simp
 obtain ⟨rfl, Q1, P1⟩ := hR
 have F2 := hide ((unhide FH).call Q1 P1)
 clear FH Q1 P1
 have FH := F2
 clear F2
 refine ⟨_, rfl, fun a12 K12 => ?_⟩
 clear K10
 refine lT (.bool true) W11 K12 (want_none rfl) (fun ev E => ?_) fun a13 K13 => ?_
 ·have EC := E.const; have E9 := E.tmp 9 _ rfl; have E11 := E.tmp 11 _ rfl; clear E; clear FH LH HR; (try simp only [slZ, smZ, putF, slV, smL, msL] at *); go_simp
 clear K12
 refine lM K13 fun a14 K14 => ?_
 clear K13
 refine lmv K14 rfl rfl (want_some K14 rfl rfl rfl) rfl rfl (fun a15 K15 => ?_)
 clear K14
 refine lcall (f := 78) (args := #[zp p 0]) K15 rfl rfl (want_some K15 rfl rfl rfl) (fun ev E => ?_) (sumsFitL (unhide FH).po (unhide LH)) (fun e W16 hR => ?_)
 ·have EF := E.func; have E14 := E.tmp 14 _ rfl; clear E; clear FH LH HR; (try simp only [slZ, smZ, putF, slV, smL, msL] at *); go_simp
 obtain ⟨rfl, Q1, P1⟩ := hR
 have F2 := hide ((unhide FH).call Q1 P1)
 clear FH Q1 P1
 have FH := F2
 clear F2
 refine ⟨_, rfl, fun a17 K17 => ?_⟩
 clear K15
 refine lT (.bool true) W16 K17 (want_none rfl) (fun ev E => ?_) fun a18 K18 => ?_
 ·have EC := E.const; have E13 := E.tmp 13 _ rfl; have E15 := E.tmp 15 _ rfl; clear E; clear FH LH HR; (try simp only [slZ, smZ, putF, slV, smL, msL] at *); go_simp
 clear K17
 refine lA K18 fun a19 K19 => ?_
 clear K18
 refine nilN ?_
 refine wp_ret ?_
 refine bodyPost_ret (v := .bool true) ?_ K19.defers ⟨rfl, (unhide FH).keep, (unhide FH).po⟩
 have e2 := K19.has 2 _ rfl
 simp [results, Try.results49, go_sem, e2]
end Go.Proofs.Ytjnkgakajenoaaa
namespace Go.Proofs.Ytjnkgakajenoaaa
open Go.RowKit Go.Arb
set_option linter.unusedVariables false
theorem aCheck {w : World} {p : Nat} {T : Tr} {ks : List Nat} (h : At w p T ks) : Calls Try.prog 49 #[zp p 0] w fun e w' => e = .returned (.bool true) /\ ∃ ks', At w' p T ks' /\ Keep ks w w' /\ Grew w ks ks' := by
 obtain ⟨g, n, cap, S, G, h1, h2, rfl⟩ := h
 refine (checkL rfl h1 h2).mono ?_
 rintro e w' ⟨rfl, q1, q2⟩
 exact ⟨rfl, At.of rfl q1 q2 h2⟩
end Go.Proofs.Ytjnkgakajenoaaa
namespace Go.Proofs.Ytjnkgakajenoaaa
open Go.RowKit Go.Arb
set_option linter.unusedVariables false
set_option linter.unusedSimpArgs false
structure Ob (w W : World) (p : Nat) (T : Tr) (js : List Nat) : Prop where
 bel : Below w.heap.size w W
 ex : ∃ ks, At W p T ks /\ (∀ k ∈ ks, w.heap.size <= k) /\ ∀ j ∈ js, j ∉ ks
 jl : ∀ j ∈ js, j < W.heap.size
def Kept (js : List Nat) (W W' : World) : Prop := ∀ j ∈ js, W'.heap[j]? = W.heap[j]?
section
variable {w W W' : World} {p : Nat} {T T' : Tr} {js : List Nat}
theorem Kept.refl (js : List Nat) (W : World) : Kept js W W := fun _ _ => rfl
theorem Kept.trans {W'' : World} (h : Kept js W W') (k : Kept js W' W'') : Kept js W W'' := fun j hj => (k j hj).trans (h j hj)
theorem Ob.wf (h : Ob w W p T js) : T.Wf := by obtain ⟨ks, h1, _⟩ := h.ex; exact h1.wf
theorem Ob.fit (h : Ob w W p T js) : T.Fit := by obtain ⟨ks, h1, _⟩ := h.ex; exact h1.fit
theorem Ob.call {f : Nat} {args : Array Value} {r : Value} (h : Ob w W p T js)
  (hc : ∀ ks, At W p T ks -> Calls Try.prog f args W fun e W' => e = .returned r /\ ∃ ks', At W' p T' ks' /\ Keep ks W W' /\ Grew W ks ks') :
  Calls Try.prog f args W fun e W' => e = .returned r /\ Ob w W' p T' js /\ Kept js W W' := by
 obtain ⟨ks, h1, h2, h3⟩ := h.ex
 refine (hc ks h1).mono ?_
 rintro e W' ⟨rfl, ks', q1, q2, q3⟩
 refine ⟨rfl, ⟨q2.below h.bel h.bel.size h2, ⟨ks', q1, ge_grew h2 h.bel.size q3, fun j hj hm => ?_⟩, fun j hj => Nat.lt_of_lt_of_le (h.jl j hj) q2.size⟩, fun j hj => q2.block j (h.jl j hj) (h3 j hj)⟩
 rcases q3 j hm with h4 | h4
 ·exact h3 j hj h4
 ·have := h.jl j hj; omega
theorem Ob.below (h : Ob w W p T js) (hb : Below W.heap.size W W') : Ob w W' p T js /\ Kept js W W' := by
 obtain ⟨ks, h1, h2, h3⟩ := h.ex
 exact ⟨⟨h.bel.trans (hb.mono h.bel.size), ⟨ks, h1.below hb, h2, h3⟩, fun j hj => Nat.lt_of_lt_of_le (h.jl j hj) hb.size⟩, fun j hj => hb.block j (h.jl j hj)⟩
theorem Ob.alloc (h : Ob w W p T js) (o : Obj) : Ob w (W.alloc o) p T js := (h.below ((Below.refl _ _).alloc (Nat.le_refl _) o)).1
theorem Ob.drew (h : Ob w W p T js) : Ob w W.drew p T js := (h.below (Below.refl _ _).drew).1
theorem Ob.push (h : Ob w W p T js) (o : Obj) : Ob w (W.alloc o) p T (W.heap.size :: js) := by
 have h' := h.alloc o
 obtain ⟨ks, h1, h2, h3⟩ := h.ex
 have hb := (Below.refl W.heap.size W).alloc (Nat.le_refl _) o
 refine ⟨h'.bel, ⟨ks, h1.below hb, h2, fun j hj => ?_⟩, fun j hj => ?_⟩
 ·rcases List.mem_cons.1 hj with rfl | hj
  ·exact fun hm => by have := h1.lt _ hm; omega
  ·exact h3 j hj
 ·rcases List.mem_cons.1 hj with rfl | hj
  ·simp
  ·exact h'.jl j hj
theorem Ob.less {is : List Nat} (h : Ob w W p T js) (hs : ∀ j ∈ is, j ∈ js) : Ob w W p T is := by
 obtain ⟨ks, h1, h2, h3⟩ := h.ex
 exact ⟨h.bel, ⟨ks, h1, h2, fun j hj => h3 j (hs j hj)⟩, fun j hj => h.jl j (hs j hj)⟩
theorem Ob.store (h : Ob w W p T js) {b : Nat} (hb : b ∈ js) (hw : w.heap.size <= b) (o : Nat) (u : Value) : Ob w (W.setCell ⟨b, o, none⟩ u) p T js := by
 obtain ⟨ks, h1, h2, h3⟩ := h.ex
 exact ⟨h.bel.setCell (p := ⟨b, o, none⟩) hw u, ⟨ks, h1.keep (keep_cell _ _ _ _) (off_one (h3 b hb)), h2, h3⟩, fun j hj => by simpa [World.setCell] using h.jl j hj⟩
theorem oNew (n : Nat) (W : World) (hb : Below w.heap.size w W) (hj : ∀ j ∈ js, j < W.heap.size) (h1 : n <= 1048576) :
  Calls Try.prog 14 #[zi n] W fun e W' => ∃ p, e = .returned (zp p 0) /\ Ob w W' p (Tr.new n) js /\ Kept js W W' := by
 refine (aNew n W h1).mono ?_
 rintro e W' ⟨p, ks, rfl, q1, q2, q3⟩
 refine ⟨p, rfl, ⟨hb.trans (q2.mono hb.size), ⟨ks, q1, fun k hk => Nat.le_trans hb.size (q3 k hk), fun j h1 h2 => ?_⟩, fun j h1 => Nat.lt_of_lt_of_le (hj j h1) q2.size⟩, fun j h1 => q2.block j (hj j h1)⟩
 have := hj j h1
 have := q3 j h2
 omega
theorem SumAt.kept {b : Nat} {x : Sm} (h : SumAt W b x) (hk : Kept js W W') (hb : b ∈ js) : SumAt W' b x := by
 have e := hk b hb
 have c : ∀ o, W'.cell? ⟨b, o, none⟩ = W.cell? ⟨b, o, none⟩ := fun o => World.cell?_of_block (w := W) (a := ⟨b, o, none⟩) e
 have f : ∀ o, W'.frozen? ⟨b, o, none⟩ = W.frozen? ⟨b, o, none⟩ := fun o => World.frozen?_of_block (w := W) (a := ⟨b, o, none⟩) e
 simpa only [SumAt, c, f] using h
theorem SumAt.new (W : World) (t : TypeId) (c s a b : Int) : SumAt (W.alloc (.cells #[zi c, zi s, zi a, zi b] t)) W.heap.size ⟨c, s, a, b⟩ := by simp [SumAt, go_sem]
end
def BoxAt (W : World) (b : Nat) (cs : Array Value) (t : TypeId) : Prop := W.heap[b]? = some (.cells cs t)
theorem BoxAt.kept {W W' : World} {js : List Nat} {b : Nat} {cs : Array Value} {t : TypeId} (h : BoxAt W b cs t) (hk : Kept js W W') (hb : b ∈ js) : BoxAt W' b cs t := (hk b hb).trans h
theorem BoxAt.cell {W : World} {b : Nat} {cs : Array Value} {t : TypeId} (h : BoxAt W b cs t) {o : Nat} {v : Value} (hv : cs[o]? = some v) : W.cell? ⟨b, o, none⟩ = some v /\ W.frozen? ⟨b, o, none⟩ = false := by
 unfold BoxAt at h
 simp [World.cell?, World.frozen?, h, hv]
theorem BoxAt.new (W : World) (cs : Array Value) (t : TypeId) : BoxAt (W.alloc (.cells cs t)) W.heap.size cs t := heap_alloc_new W _
abbrev aw1 : Tr := (Tr.new 4).addI 0 5
abbrev aw2 : Tr := aw1.addI 1 7
abbrev aw3 : Tr := aw2.addI 2 (-1)
abbrev aw4 : Tr := aw3.linkI 1 0
abbrev aw5 : Tr := aw4.linkI 2 1
abbrev aw6 : Tr := aw5.pathAdd 1 2 10
abbrev aw7 : Tr := aw6.evertI 2
theorem aw_path : aw5.pathI 0 2 = ⟨3, 11, -1, 7⟩ := Sm.same (by decide) (by decide) (by decide) (by decide)
set_option maxRecDepth 100000 in
set_option maxHeartbeats 4000000 in
theorem awake_any (w : World) : Calls Try.prog 50 #[] w fun e w' => e = .returned (.bool true) /\ Below w.heap.size w w' := by
 have f1 : (Tr.new 4).addB 0 5 = true := by decide
 have f2 : aw1.addB 1 7 = true := by decide
 have f3 : aw2.addB 2 (-1) = true := by decide
 have f4 : aw3.linkB 1 0 = true := by decide
 have f5 : aw4.linkB 2 1 = true := by decide
 have f6 : aw5.sameI 0 2 = true := by decide
 have f7 : aw5.raiseB 1 2 10 = true := by decide
 have f8 : aw6.hasI 2 = true := by decide
 have f9 : aw7.rootI 0 = 2 := by decide
 have f10 : aw7.parI 0 = 1 := by decide
 have f11 : aw7.subI 1 = ⟨2, 22, (aw7.subI 1).a, (aw7.subI 1).b⟩ := Sm.same (by decide) (by decide) rfl rfl
 have f12 : aw7.hasI 1 = true := by decide
 have f13 : aw7.lcaI 0 1 = 1 := by decide
 have f14 : aw7.sizeI 0 = 3 := by decide
 have f15 : aw7.linkB 0 2 = false := by decide
 go_enter Try.func50, Try.ntmps50
 go_wp2_with fail
 refine (oNew (js := []) 4 w (Below.refl _ _) (by simp) (by decide)).mono ?_
 rintro e w1 ⟨p, rfl, h, _⟩
 have H1 := hide h
 clear h
 go_wp2_with fail
 refine ((unhide H1).call fun _ ha => aAdd _ _ ha).mono ?_
 rintro e w2 ⟨rfl, h, _⟩
 have H2 := hide h
 rw [f1]
 clear h H1 f1
 go_wp2_with fail
 refine ((unhide H2).call fun _ ha => aAdd _ _ ha).mono ?_
 rintro e w3 ⟨rfl, h, _⟩
 have H3 := hide h
 rw [f2]
 clear h H2 f2
 go_wp2_with fail
 refine ((unhide H3).call fun _ ha => aAdd _ _ ha).mono ?_
 rintro e w4 ⟨rfl, h, _⟩
 have H4 := hide h
 rw [f3]
 clear h H3 f3
 go_wp2_with fail
 refine ((unhide H4).call fun _ ha => aLink _ _ ha).mono ?_
 rintro e w5 ⟨rfl, h, _⟩
 have H5 := hide h
 rw [f4]
 clear h H4 f4
 go_wp2_with fail
 refine ((unhide H5).call fun _ ha => aLink _ _ ha).mono ?_
 rintro e w6 ⟨rfl, h, _⟩
 have H6 := hide h
 rw [f5]
 clear h H5 f5
 go_wp2_with fail
 refine ((unhide H6).call fun _ ha => aPath _ _ ha).mono ?_
 rw [aw_path, f6]
 unfold smV
 dsimp only
 rintro e w7 ⟨rfl, h, _⟩
 have H7 := hide (And.intro (h.push (.cells #[zi 3, zi 11, zi (-1), zi 7] 34)) (SumAt.new w7 34 3 11 (-1) 7))
 clear h H6 f6
 go_wp2_with fail
 generalize w7.alloc (.cells #[zi 3, zi 11, zi (-1), zi 7] 34) = W7 at *
 generalize w7.heap.size = b at *
 refine ((unhide H7).1.call fun _ ha => aPathAdd _ _ _ ha).mono ?_
 rintro e w8 ⟨rfl, h, k⟩
 have H8 := hide (And.intro h ((unhide H7).2.kept k (by simp)))
 rw [f7]
 clear h k H7 f7
 go_wp2_with fail
 refine ((unhide H8).1.call fun _ ha => aEvert _ ha).mono ?_
 rintro e w9 ⟨rfl, h, k⟩
 have H9 := hide (And.intro h ((unhide H8).2.kept k (by simp)))
 rw [f8]
 clear h k H8 f8
 go_wp2_with fail
 refine ((unhide H9).1.call fun _ ha => aRoot _ ha).mono ?_
 rintro e w10 ⟨rfl, h, k⟩
 have H10 := hide (And.intro h ((unhide H9).2.kept k (by simp)))
 rw [f9]
 clear h k H9 f9
 go_wp2_with fail
 refine ((unhide H10).1.call fun _ ha => aParent _ ha).mono ?_
 rintro e w11 ⟨rfl, h, k⟩
 have H11 := hide (And.intro h ((unhide H10).2.kept k (by simp)))
 rw [f10]
 clear h k H10 f10
 go_wp2_with fail
 refine ((unhide H11).1.call fun _ ha => aSub _ ha).mono ?_
 rw [f11, f12]
 dsimp only
 rintro e w12 ⟨rfl, h, k⟩
 have s12 := (unhide H11).2.kept k (by simp)
 have H12 := hide (And.intro h s12)
 obtain ⟨⟨q0, q1, q2, q3⟩, _⟩ := s12
 clear h k H11 f11 f12
 go_wp2_with fail
 refine ((unhide H12).1.call fun _ ha => aLca _ _ ha).mono ?_
 rintro e w13 ⟨rfl, h, k⟩
 have H13 := hide h
 rw [f13]
 clear h k H12 f13 q0 q1 q2 q3
 go_wp2_with fail
 refine ((unhide H13).call fun _ ha => aSize _ ha).mono ?_
 rintro e w14 ⟨rfl, h, k⟩
 have H14 := hide h
 rw [f14]
 clear h k H13 f14
 go_wp2_with fail
 refine ((unhide H14).call fun _ ha => aLink _ _ ha).mono ?_
 rintro e w15 ⟨rfl, h, k⟩
 have H15 := hide h
 rw [f15]
 clear h k H14 f15
 go_wp2_with fail
 refine ((unhide H15).call fun _ ha => aCheck ha).mono ?_
 rintro e w16 ⟨rfl, h, k⟩
 have H16 := hide h
 clear h k H15
 go_wp2
 go_ret
 exact ⟨rfl, (unhide H16).bel⟩
theorem Try.info3 : (Try.prog.info? 3).map (fun i => (i.zero, i.size, i.bytes)) = some (some (zi 0), 1, 8) := by kernel_rfl
def nums (l : List Int) : List Value := l.map (Value.int .i64)
def nats (l : List Nat) : List Int := l.map (fun n : Nat => (n : Int))
def NRow (B : Nat) (w : World) (v : Value) (l : List Nat) : Prop := w.ownsRow B 3 1 v l.length (nums (nats l))
theorem NRow.push {B : Nat} {W W1 : World} {v : Value} {l : List Nat} {g H n cap x : Nat} (h : NRow B W v l) (hB : B <= W.heap.size) (hgrow : (W.alloc (.cells #[zi x] 3)).grownBy W1 v.ownBlock) (hat : v.ownBlock = some g ∨ g = H) (hH : W.heap.size <= H) (hlt : g < W1.heap.size) (hn : n = l.length)
  (hown : W1.ownsRow B 3 1 (.slice (some ⟨g, 0, none⟩) (n + 1) cap) (n + 1) (nums (nats l) ++ [zi x])) {w : World} (hb : Below B w W) : NRow B W1 (.slice (some ⟨g, 0, none⟩) (n + 1) cap) (l ++ [x]) /\ Below B w W1 := by
 subst hn
 obtain ⟨k1, k2, k3⟩ := app_keep ((Keep.refl [] W).alloc _) hgrow hat hH hlt
 refine ⟨?_, k1.below hb hB (row_ge h)⟩
 unfold NRow
 simpa [nums, nats] using hown
theorem NRow.at {B : Nat} {w : World} {v : Value} {l : List Nat} (h : NRow B w v l) (hl : 0 < l.length) :
  ∃ g cap, v = .slice (some ⟨g, 0, none⟩) l.length cap /\ l.length <= cap /\ cap <= maxLen /\ g < w.heap.size /\ B <= g /\ own v = [g] /\ ∀ k, (hk : k < l.length) -> w.cell? ⟨g, k, none⟩ = some (zi ((l[k] : Nat) : Int)) := by
 have hge := row_ge h
 obtain ⟨x, cap, hv, h1, h2, h3⟩ := row_form h
 obtain ⟨g, rfl, hg, how, hc⟩ := h3 hl
 refine ⟨g, cap, hv, h1, h2, hg, hge g (by rw [how]; simp), how, fun k hk => ?_⟩
 have := (hc k (by omega)).1
 rw [this]
 simp [nums, nats, hk]
def inV (f : Nat -> Int) : Nat -> Value := fun x => zi (f x)
theorem inV_set (P : Nat -> Int) (i : Nat) (k : Int) : (fun j => if j = i then zi k else inV P j) = inV (updF P i k) := by
 funext j
 by_cases e : j = i
 ·simp [e, inV, updF]
 ·simp [e, inV, updF]
theorem keep_put {ks : List Nat} {a w : World} {b : Nat} (h : Keep ks a w) (hb : b ∈ ks ∨ a.heap.size <= b) (x : Sm) : Keep ks a (putSum w b x) :=
 (((h.setCell (p := ⟨b, 0, none⟩) hb _).setCell (p := ⟨b, 1, none⟩) hb _).setCell (p := ⟨b, 2, none⟩) hb _).setCell (p := ⟨b, 3, none⟩) hb _
theorem SumAt.keep {ks : List Nat} {w w' : World} {b : Nat} {x : Sm} (h : SumAt w b x) (hk : Keep ks w w') (hl : b < w.heap.size) (hn : b ∉ ks) : SumAt w' b x := by
 obtain ⟨⟨q0, q1, q2, q3⟩, f0, f1, f2, f3⟩ := h
 refine ⟨⟨?_, ?_, ?_, ?_⟩, ?_, ?_, ?_, ?_⟩
 ·rw [hk.cell (p := ⟨b, 0, none⟩) hl hn]; exact q0
 ·rw [hk.cell (p := ⟨b, 1, none⟩) hl hn]; exact q1
 ·rw [hk.cell (p := ⟨b, 2, none⟩) hl hn]; exact q2
 ·rw [hk.cell (p := ⟨b, 3, none⟩) hl hn]; exact q3
 ·rw [hk.frozen (p := ⟨b, 0, none⟩) hl hn]; exact f0
 ·rw [hk.frozen (p := ⟨b, 1, none⟩) hl hn]; exact f1
 ·rw [hk.frozen (p := ⟨b, 2, none⟩) hl hn]; exact f2
 ·rw [hk.frozen (p := ⟨b, 3, none⟩) hl hn]; exact f3
def hdI : List Nat -> Int
 | [] => -1
 | v :: _ => v
theorem one1' (x : Int) : ∀ u ∈ [zi x], u.oneCell' = true := by
 intro u hu; simp at hu; subst hu; rfl
theorem SumAt.two (w : World) (t : TypeId) : SumAt ((w.alloc (.cells #[zi 0, zi 0, zi 0, zi 0] t)).alloc (.cells #[zi 0, zi 0, zi 0, zi 0] t)) (w.heap.size + 1) zero /\ SumAt ((w.alloc (.cells #[zi 0, zi 0, zi 0, zi 0] t)).alloc (.cells #[zi 0, zi 0, zi 0, zi 0] t)) w.heap.size zero := by
 constructor <;> simp [SumAt, zero, go_sem]
theorem kidB_false {T : Tr} (h : T.Wf) {i : Nat} (hk : T.kidB i = false) : ∀ y, T.par y ≠ (i : Int) := fun y e => by
 rw [Tr.kidB, List.any_eq_false] at hk
 exact hk y (List.mem_range.2 (h.lt y (by omega))) (by simpa using e)
theorem Try.info4 : (Try.prog.info? 4).map (fun i => (i.zero, i.size, i.bytes)) = some (some (.bool false), 1, 1) := by kernel_rfl
def blV (f : Nat -> Bool) : Nat -> Value := fun x => .bool (f x)
theorem blV_set (P : Nat -> Bool) (i : Nat) (k : Bool) : (fun j => if j = i then Value.bool k else blV P j) = blV (updF P i k) := by
 funext j
 by_cases e : j = i
 ·simp [e, blV, updF]
 ·simp [e, blV, updF]
structure RIn (w : World) (q bt bu bw n : Nat) (ft : Nat -> Bool) (fu fw : Nat -> Int) : Prop where
 blk : w.heap[q]? = some (.cells #[.slice (some ⟨bt, 0, none⟩) n n, .slice (some ⟨bu, 0, none⟩) n n, .slice (some ⟨bw, 0, none⟩) n n] 69)
 rt : w.rowIs bt 4 n (blV ft)
 ru : w.rowIs bu 3 n (inV fu)
 rw : w.rowIs bw 3 n (inV fw)
 nd : [q, bt, bu, bw].Nodup
structure Says (T : Tr) (n : Nat) (ft : Nat -> Bool) (fu fw : Nat -> Int) : Prop where
 nn : n = T.n
 th : ∀ v, v < n -> ft v = (T.par v != -2)
 up : ∀ v, T.par v ≠ -2 -> fu v = T.par v
 wt : ∀ v, T.par v ≠ -2 -> fw v = T.wt v
 wf : T.Wf
 fit : T.Fit
section
variable {w w' : World} {q bt bu bw n : Nat} {ft : Nat -> Bool} {fu fw : Nat -> Int} {ks : List Nat}
theorem RIn.lt (h : RIn w q bt bu bw n ft fu fw) : ∀ k ∈ [q, bt, bu, bw], k < w.heap.size := fun k hk => by
 simp only [List.mem_cons, List.mem_nil_iff, or_false] at hk
 rcases hk with rfl | rfl | rfl | rfl
 ·exact blk_lt h.blk
 ·exact h.rt.lt
 ·exact h.ru.lt
 ·exact h.rw.lt
theorem RIn.keep (h : RIn w q bt bu bw n ft fu fw) (hk : Keep ks w w') (ho : Off [q, bt, bu, bw] ks) : RIn w' q bt bu bw n ft fu fw :=
 ⟨by rw [hk.block q (blk_lt h.blk) (ho q (by simp))]; exact h.blk, h.rt.of_block (hk.block _ h.rt.lt (ho _ (by simp))), h.ru.of_block (hk.block _ h.ru.lt (ho _ (by simp))), h.rw.of_block (hk.block _ h.rw.lt (ho _ (by simp))), h.nd⟩
theorem RIn.below (h : RIn w q bt bu bw n ft fu fw) (hb : Below w.heap.size w w') : RIn w' q bt bu bw n ft fu fw := h.keep (Keep.ofBelow hb []) (fun _ _ => by simp)
theorem RIn.cells (h : RIn w q bt bu bw n ft fu fw) : w.cell? ⟨q, 0, none⟩ = some (.slice (some ⟨bt, 0, none⟩) n n) /\ w.cell? ⟨q, 1, none⟩ = some (.slice (some ⟨bu, 0, none⟩) n n) /\ w.cell? ⟨q, 2, none⟩ = some (.slice (some ⟨bw, 0, none⟩) n n) := by
 simp [World.cell?, h.blk]
theorem RIn.ne (h : RIn w q bt bu bw n ft fu fw) : q ≠ bt /\ q ≠ bu /\ q ≠ bw /\ bt ≠ bu /\ bt ≠ bw /\ bu ≠ bw := by
 have := h.nd
 simp at this
 omega
theorem RIn.setT (h : RIn w q bt bu bw n ft fu fw) (i : Nat) (x : Bool) : RIn (w.setCell ⟨bt, i, none⟩ (.bool x)) q bt bu bw n (updF ft i x) fu fw /\ Keep [q, bt, bu, bw] w (w.setCell ⟨bt, i, none⟩ (.bool x)) := by
 obtain ⟨n1, n2, n3, n4, n5, n6⟩ := h.ne
 refine ⟨⟨?_, ?_, h.ru.setOther (a := ⟨bt, i, none⟩) (fun e => n4 e.symm) _, h.rw.setOther (a := ⟨bt, i, none⟩) (fun e => n5 e.symm) _, h.nd⟩, (Keep.refl _ _).setCell (p := ⟨bt, i, none⟩) (.inl (by simp)) _⟩
 ·rw [Below.heap_setCell _ _ _ _ n1]; exact h.blk
 ·rw [← blV_set]; exact h.rt.set i _
theorem RIn.setU (h : RIn w q bt bu bw n ft fu fw) (i : Nat) (x : Int) : RIn (w.setCell ⟨bu, i, none⟩ (zi x)) q bt bu bw n ft (updF fu i x) fw /\ Keep [q, bt, bu, bw] w (w.setCell ⟨bu, i, none⟩ (zi x)) := by
 obtain ⟨n1, n2, n3, n4, n5, n6⟩ := h.ne
 refine ⟨⟨?_, h.rt.setOther (a := ⟨bu, i, none⟩) n4 _, ?_, h.rw.setOther (a := ⟨bu, i, none⟩) (fun e => n6 e.symm) _, h.nd⟩, (Keep.refl _ _).setCell (p := ⟨bu, i, none⟩) (.inl (by simp)) _⟩
 ·rw [Below.heap_setCell _ _ _ _ n2]; exact h.blk
 ·rw [← inV_set]; exact h.ru.set i _
theorem RIn.setW (h : RIn w q bt bu bw n ft fu fw) (i : Nat) (x : Int) : RIn (w.setCell ⟨bw, i, none⟩ (zi x)) q bt bu bw n ft fu (updF fw i x) /\ Keep [q, bt, bu, bw] w (w.setCell ⟨bw, i, none⟩ (zi x)) := by
 obtain ⟨n1, n2, n3, n4, n5, n6⟩ := h.ne
 refine ⟨⟨?_, h.rt.setOther (a := ⟨bw, i, none⟩) n5 _, h.ru.setOther (a := ⟨bw, i, none⟩) n6 _, ?_, h.nd⟩, (Keep.refl _ _).setCell (p := ⟨bw, i, none⟩) (.inl (by simp)) _⟩
 ·rw [Below.heap_setCell _ _ _ _ n3]; exact h.blk
 ·rw [← inV_set]; exact h.rw.set i _
end
section
variable {T : Tr} {n : Nat} {ft : Nat -> Bool} {fu fw : Nat -> Int}
theorem Says.le (h : Says T n ft fu fw) : n <= 1048576 := by rw [h.nn]; exact h.fit.n
theorem Says.lt (h : Says T n ft fu fw) {v : Nat} (hv : T.par v ≠ -2) : v < n := by rw [h.nn]; exact h.wf.lt v hv
end
set_option maxHeartbeats 1000000 in
theorem rhas_any (x : Int) (w : World) (q bt bu bw n : Nat) (ft : Nat -> Bool) (fu fw : Nat -> Int) (T : Tr) (h : RIn w q bt bu bw n ft fu fw) (hs : Says T n ft fu fw) :
  Calls Try.prog 38 #[zp q 0, zi x] w fun e w' => e = .returned (.bool (T.hasI x)) /\ w = w' := by
 have hn := hs.le
 obtain ⟨c0, c1, c2⟩ := h.cells
 by_cases h0 : x < 0
 ·rw [show T.hasI x = false from by simp [Tr.hasI]; omega]
  have h0' : ¬ 0 <= x := by omega
  clear h hs
  go_enter Try.func38, Try.ntmps38
  go_wp2
  go_ret
  exact ⟨rfl, rfl⟩
 ·obtain ⟨i, rfl⟩ := Int.eq_ofNat_of_zero_le (by omega : 0 <= x)
  have e1 : (0 : Int) <= (i : Int) := by omega
  by_cases h1 : i < n
  ·have d := h.rt.cell h1
   unfold blV at d
   rw [T.hasI_nat, ← hs.th i h1]
   have e2 : (i : Int) < (n : Int) := by omega
   generalize ft i = y at *
   clear h hs
   go_enter Try.func38, Try.ntmps38
   go_wp2
   go_ret
   exact ⟨rfl, rfl⟩
  ·have hp : T.par i = -2 := Classical.byContradiction fun hp => h1 (hs.lt hp)
   rw [T.hasI_nat, hp]
   have e2 : ¬ (i : Int) < (n : Int) := by omega
   clear h hs
   go_enter Try.func38, Try.ntmps38
   go_wp2
   go_ret
   exact ⟨rfl, rfl⟩
set_option maxHeartbeats 1000000 in
theorem rparent_any (x : Int) (w : World) (q bt bu bw n : Nat) (ft : Nat -> Bool) (fu fw : Nat -> Int) (T : Tr) (h : RIn w q bt bu bw n ft fu fw) (hs : Says T n ft fu fw) :
  Calls Try.prog 42 #[zp q 0, zi x] w fun e w' => e = .returned (zi (T.parI x)) /\ w = w' := by
 have hq := hide (rhas_any x w q bt bu bw n ft fu fw T h hs)
 have hn := hs.le
 cases hh : T.hasI x
 ·rw [show T.parI x = -1 from by simp [Tr.parI, hh]]
  rw [hh] at hq
  clear h hs hh
  go_enter Try.func42, Try.ntmps42
  go_wp2_with fail
  refine (unhide hq).mono ?_
  rintro e w' ⟨rfl, rfl⟩
  go_wp2
  go_ret
  exact ⟨rfl, rfl⟩
 ·rw [hh] at hq
  obtain ⟨i, rfl, hi⟩ := Tr.hasI_true hh
  rw [show T.parI i = T.par i from by simp [Tr.parI, hh]]
  obtain ⟨c0, c1, c2⟩ := h.cells
  have h1 := hs.lt hi
  have d := h.ru.cell h1
  unfold inV at d
  rw [hs.up i hi] at d
  generalize T.par i = y at *
  have e1 : (0 : Int) <= (i : Int) := by omega
  have e2 : (i : Int) < (n : Int) := by omega
  clear h hs hh
  go_enter Try.func42, Try.ntmps42
  go_wp2_with fail
  refine (unhide hq).mono ?_
  rintro e w' ⟨rfl, rfl⟩
  go_wp2
  go_ret
  exact ⟨rfl, rfl⟩
set_option maxHeartbeats 1000000 in
theorem rget_any (x : Int) (w : World) (q bt bu bw n : Nat) (ft : Nat -> Bool) (fu fw : Nat -> Int) (T : Tr) (h : RIn w q bt bu bw n ft fu fw) (hs : Says T n ft fu fw) :
  Calls Try.prog 36 #[zp q 0, zi x] w fun e w' => e = .returned (.tuple #[zi (T.getI x), .bool (T.hasI x)]) /\ w = w' := by
 have hq := hide (rhas_any x w q bt bu bw n ft fu fw T h hs)
 have hn := hs.le
 cases hh : T.hasI x
 ·rw [show T.getI x = 0 from by simp [Tr.getI, hh]]
  rw [hh] at hq
  clear h hs hh
  go_enter Try.func36, Try.ntmps36
  go_wp2_with fail
  refine (unhide hq).mono ?_
  rintro e w' ⟨rfl, rfl⟩
  go_wp2
  go_ret2
  exact ⟨rfl, rfl⟩
 ·rw [hh] at hq
  obtain ⟨i, rfl, hi⟩ := Tr.hasI_true hh
  rw [show T.getI i = T.wt i from by simp [Tr.getI, hh]]
  obtain ⟨c0, c1, c2⟩ := h.cells
  have h1 := hs.lt hi
  have d := h.rw.cell h1
  unfold inV at d
  rw [hs.wt i hi] at d
  generalize T.wt i = y at *
  have e1 : (0 : Int) <= (i : Int) := by omega
  have e2 : (i : Int) < (n : Int) := by omega
  clear h hs hh
  go_enter Try.func36, Try.ntmps36
  go_wp2_with fail
  refine (unhide hq).mono ?_
  rintro e w' ⟨rfl, rfl⟩
  go_wp2
  go_ret2
  exact ⟨rfl, rfl⟩
set_option maxHeartbeats 1000000 in
theorem rroot_any (x : Int) (w : World) (q bt bu bw n : Nat) (ft : Nat -> Bool) (fu fw : Nat -> Int) (T : Tr) (h : RIn w q bt bu bw n ft fu fw) (hs : Says T n ft fu fw) :
  Calls Try.prog 40 #[zp q 0, zi x] w fun e w' => e = .returned (zi (T.rootI x)) /\ w = w' := by
 have hq := hide (rhas_any x w q bt bu bw n ft fu fw T h hs)
 have hn := hs.le
 cases hh : T.hasI x
 ·rw [Tr.rootI_gone hh]
  rw [hh] at hq
  clear h hs hh
  go_enter Try.func40, Try.ntmps40
  go_wp2_with fail
  refine (unhide hq).mono ?_
  rintro e w' ⟨rfl, rfl⟩
  go_wp2
  go_ret
  exact ⟨rfl, rfl⟩
 ·rw [hh] at hq
  obtain ⟨i, rfl, hi⟩ := Tr.hasI_true hh
  have HU := hide (hs.wf.spec hi)
  rw [show T.rootI i = lastI (T.up i) from by rw [Tr.rootI, Tr.upI_nat]]
  obtain ⟨c0, c1, c2⟩ := h.cells
  have HC : Hid (∀ y, T.par y ≠ -2 -> y < n /\ w.cell? ⟨bu, y, none⟩ = some (zi (T.par y))) := fun y hy => ⟨hs.lt hy, by rw [h.ru.cell (hs.lt hy), inV, hs.up y hy]⟩
  generalize T.up i = l0 at *
  generalize T.par = par at *
  clear h hs hh hi
  go_enter Try.func40, Try.ntmps40
  go_wp2_with fail
  refine (unhide hq).mono ?_
  rintro e w' ⟨rfl, rfl⟩
  go_wp2
  go_loopg [1] l0.length (fun gk a w' => ∃ (y : Nat) (l : List Nat), a = zi y /\ w' = w /\ Hid (Up par y l /\ l.length = gk /\ lastI l = lastI l0))
  case atStart => exact ⟨i, l0, rfl, rfl, unhide HU, rfl, rfl⟩
  case round =>
   obtain ⟨y, l, rfl, rfl, HY⟩ := hrel
   obtain ⟨hy, hg, hl⟩ := unhide HY
   obtain ⟨hyn, d⟩ := unhide HC y hy.there
   have e1 : (0 : Int) <= (y : Int) := by omega
   have e2 : (y : Int) < (n : Int) := by omega
   obtain ⟨t, rfl⟩ := hy.head
   rcases hy.next with ⟨hr, rfl⟩ | ⟨z, hr, hq'⟩
   ·rw [hr] at d
    have HR := hide hl
    clear hl hg hy HY hr
    go_wp2
    go_ret
    exact ⟨by rw [← unhide HR]; rfl, rfl⟩
   ·rw [hr] at d
    have hz0 : (0 : Int) <= (z : Int) := by omega
    have HQ := hide (And.intro hq' (And.intro hg hl))
    clear hl hg hy HY hr hq'
    go_wp2
    go_roundg (gk - 1)
    case rel =>
     obtain ⟨q1, q2, q3⟩ := unhide HQ
     exact ⟨z, t, rfl, rfl, q1, by simp at q2; omega, by rw [lastI_cons _ q1.ne] at q3; exact q3⟩
    all_goals
     obtain ⟨q1, q2, q3⟩ := unhide HQ
     simp at q2
     omega
end Go.Proofs.Ytjnkgakajenoaaa
namespace Go.Proofs.Ytjnkgakajenoaaa
set_option linter.unusedVariables false
set_option linter.unusedSimpArgs false
theorem addI_yes {T : Tr} {v w : Int} (h : T.addB v w = true) : T.addI v w = T.add v.toNat w := by simp [Tr.addI, h]
theorem addI_no {T : Tr} {v w : Int} (h : T.addB v w = false) : T.addI v w = T := by simp [Tr.addI, h]
theorem linkI_yes {T : Tr} {c p : Int} (h : T.linkB c p = true) : T.linkI c p = T.link c.toNat p.toNat := by simp [Tr.linkI, h]
theorem linkI_no {T : Tr} {c p : Int} (h : T.linkB c p = false) : T.linkI c p = T := by simp [Tr.linkI, h]
theorem setI_no {T : Tr} {v w : Int} (h : (T.hasI v && fitB w) = false) : T.setI v w = T := by rw [Tr.setI, h]; rfl
theorem cutI_yes {T : Tr} {v : Int} (h : T.cutB v = true) : T.cutI v = T.cut v.toNat := by simp [Tr.cutI, h]
theorem cutI_no {T : Tr} {v : Int} (h : T.cutB v = false) : T.cutI v = T := by simp [Tr.cutI, h]
theorem dropI_yes {T : Tr} {v : Int} (h : T.goB v = true) : T.dropI v = T.drop v.toNat := by simp [Tr.dropI, h]
theorem dropI_no {T : Tr} {v : Int} (h : T.goB v = false) : T.dropI v = T := by simp [Tr.dropI, h]
theorem evertI_yes {T : Tr} {v : Int} (h : T.hasI v = true) : T.evertI v = T.evert v.toNat := by simp [Tr.evertI, h]
theorem evertI_no {T : Tr} {v : Int} (h : T.hasI v = false) : T.evertI v = T := by simp [Tr.evertI, h]
section
variable {n k : Nat} {x : Int}
end
theorem ofL_perm {l m : List Int} (h : l.Perm m) : ofL l = ofL m := by rw [ofL_eq, ofL_eq, ofR_perm h]
theorem ofL_c (l : List Int) : (ofL l).c = l.length := by rw [ofL_eq, ofR_c]
section
variable {T : Tr} {u v c p r t : Nat} {a b cc : List Nat}
theorem Tr.Wf.root_iff (h : T.Wf) (hu : T.par u ≠ -2) : T.rootI u = (r : Int) ↔ (r ∈ T.up u /\ T.par r = -1) := by
 obtain ⟨r', e, h1, h2⟩ := h.rootI_in hu
 constructor
 ·intro e'
  have : r' = r := by omega
  subst this; exact ⟨h2, h1⟩
 ·rintro ⟨h3, h4⟩
  rw [Tr.rootI, T.upI_nat]; exact (h.spec hu).root_last h3 h4
theorem Tr.Wf.root_mem (h : T.Wf) (hr : T.par r = -1) (u : Nat) : r ∈ T.up u ↔ T.rootI u = (r : Int) := by
 by_cases hu : T.par u = -2
 ·rw [T.up_gone hu, Tr.rootI_gone (by rw [T.hasI_nat, hu]; rfl)]; simp
 ·rw [h.root_iff hu]; simp [hr]
theorem Tr.Wf.rootN (h : T.Wf) (hu : T.par u ≠ -2) : ∃ r : Nat, T.rootI u = (r : Int) /\ T.par r = -1 /\ r ∈ T.up u := h.rootI_in hu
theorem Tr.subI_nat (hv : T.par v ≠ -2) : T.subI v = ofL ((T.sub v).map T.wt) := by
 rw [Tr.subI, T.hasI_nat, show (T.par v != -2) = true from by simpa using hv]; simp
theorem Tr.subI_c (hv : T.par v ≠ -2) : (T.subI v).c = (T.sub v).length := by rw [Tr.subI_nat hv, ofL_c, List.length_map]
theorem Tr.hasI_there (hv : T.par v ≠ -2) : T.hasI v = true := by rw [T.hasI_nat]; simpa using hv
theorem Tr.Wf.root_has (h : T.Wf) (hv : T.par v ≠ -2) : T.rootI v ≠ -1 := by
 obtain ⟨r, e, _, _⟩ := h.rootN hv
 omega
theorem Tr.Wf.same_iff (h : T.Wf) (hu : T.par u ≠ -2) : T.sameI u v = (T.rootI u == T.rootI v) := by
 unfold Tr.sameI
 rw [show (T.rootI u != -1) = true from by simpa using h.root_has hu, Bool.true_and]
theorem Tr.cut_gone (hc : T.par c ≠ -2) : (T.cut c).par u = -2 ↔ T.par u = -2 := by
 by_cases e : u = c
 ·subst e; simp [Tr.cut, updF, hc]
 ·simp [Tr.cut, updF, e]
theorem Tr.link_gone (hc : T.par c ≠ -2) : (T.link c p).par u = -2 ↔ T.par u = -2 := by
 by_cases e : u = c
 ·subst e; simp [Tr.link, updF, hc]
 ·simp [Tr.link, updF, e]
end
section
variable {T : Tr} {u v c p : Nat}
theorem parI_nat (hc : T.par c ≠ -2) : T.parI c = T.par c := by simp [Tr.parI, Tr.hasI_there hc]
theorem Tr.sub_le (hv : T.par v ≠ -2) : 0 <= (T.subI v).c /\ (T.subI v).c <= T.n := by
 rw [Tr.subI_c hv]
 have := List.length_filter_le (fun u : Nat => decide (v ∈ T.up u)) (List.range T.n)
 rw [List.length_range] at this
 unfold Tr.sub
 omega
theorem Tr.Wf.root_self (h : T.Wf) (hc : T.par c = -1) : T.rootI c = c := by rw [Tr.rootI, T.upI_nat, h.up_root hc]; rfl
theorem Tr.Wf.linkB_iff (h : T.Wf) (hc : T.par c = -1) (hp : T.par p ≠ -2) : T.linkB c p = !T.sameI c p := by
 rw [h.same_iff (by omega), h.root_self hc, Tr.linkB, Tr.hasI_there (v := c) (by omega), Tr.hasI_there hp, Int.toNat_natCast, hc]
 rw [Bool.eq_iff_iff]
 simp
 exact ⟨fun h e => h e.symm, fun h e => h e.symm⟩
theorem Tr.Wf.same_root (h : T.Wf) (hc : T.par c = -1) (hp : T.par p ≠ -2) : T.sameI c p = false ↔ c ∉ T.up p := by
 rw [h.same_iff (by omega), h.root_self hc, beq_eq_false_iff_ne, h.root_mem hc]
 exact ⟨fun h e => h e.symm, fun h e => h e.symm⟩
end
end Go.Proofs.Ytjnkgakajenoaaa

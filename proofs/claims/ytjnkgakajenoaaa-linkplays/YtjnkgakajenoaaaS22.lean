/- Part 22 of the texts. -/
import Derived.Test.YtjnkgakajenoaaaS1
import Derived.Test.YtjnkgakajenoaaaS20
import Derived.Test.YtjnkgakajenoaaaS21
import Derived.Test.YtjnkgakajenoaaaS18
namespace Go.Proofs.Ytjnkgakajenoaaa
open Go.RowKit Go.Arb
set_option linter.unusedVariables false
set_option linter.unusedSimpArgs false
set_option maxRecDepth 100000
def SW : Code := (Code.block 2 (Code.seq (Code.region 11 OPS11.toArray false) (Code.cond (Operand.tmp 49) (Code.region 12 OPS12.toArray true) (Code.seq (Code.region 13 OPS13.toArray false) (Code.cond (Operand.tmp 63) (Code.region 14 OPS14.toArray true) (Code.seq (Code.region 15 OPS15.toArray false) (Code.cond (Operand.tmp 73) (Code.region 16 OPS16.toArray true) (Code.seq (Code.region 17 OPS17.toArray false) (Code.cond (Operand.tmp 87) (Code.region 18 OPS18.toArray true) (Code.seq (Code.region 19 OPS19.toArray false) (Code.cond (Operand.tmp 97) (Code.region 20 OPS20.toArray true) (Code.seq (Code.region 21 OPS21.toArray false) (Code.cond (Operand.tmp 107) (Code.region 22 OPS22.toArray true) (Code.seq (Code.region 23 OPS23.toArray false) (Code.cond (Operand.tmp 121) (Code.region 24 OPS24.toArray true) Code.skip)))))))))))))))
def LOOPB : Code := (Code.seq (Code.seq (Code.region 6 OPS6.toArray false) (Code.cond (Operand.tmp 40) Code.skip (Code.exit 0))) (Code.seq (Code.block 1 (Code.seq (Code.region 8 OPS8.toArray false) (Code.seq (Code.region 9 OPS9.toArray false) (Code.seq (Code.seq (Code.region 10 OPS10.toArray false) SW) (Code.seq (Code.seq (Code.region 25 OPS25.toArray false) (Code.cond (Operand.tmp 141) (Code.seq (Code.region 26 OPS26.toArray false) Code.ret) Code.skip)) (Code.seq (Code.region 27 OPS27.toArray false) (Code.seq (Code.region 28 OPS28.toArray false) (Code.seq (Code.region 29 OPS29.toArray false) (Code.seq (Code.region 30 OPS30.toArray false) (Code.seq (Code.region 31 OPS31.toArray false) (Code.seq (Code.region 32 OPS32.toArray false) (Code.seq (Code.region 33 OPS33.toArray true) (Code.cond (Operand.tmp 301) (Code.seq (Code.region 34 OPS34.toArray false) Code.ret) Code.skip))))))))))))) (Code.region 7 OPS7.toArray false)))
def MAIN : Code := (Code.seq (Code.region 0 OPS0.toArray false) (Code.seq (Code.region 1 OPS1.toArray false) (Code.seq (Code.region 2 OPS2.toArray false) (Code.seq (Code.seq (Code.region 3 OPS3.toArray false) (Code.cond (Operand.tmp 32) (Code.seq (Code.region 4 OPS4.toArray false) Code.ret) Code.skip)) (Code.seq (Code.seq (Code.region 5 OPS5.toArray false) (Code.block 0 (Code.loop LOOPB))) (Code.seq (Code.region 35 OPS35.toArray false) Code.ret))))))
set_option maxHeartbeats 4000000 in
theorem sw_walk {w : World} {p q b8 : Nat} {T : Tr} {x : Option Addr} {len cap m : Nat} {kd a b c : Int} {NX : Act -> World -> Prop} {a0 : Act} {V : World} (K0 : Kn a0 303 [(1, .slice x len cap), (5, zp p 0), (6, zp q 0), (7, zi m), (8, zp b8 0), (9, .bool false), (10, .bool false), (48, zi kd)]) (H : Ob2 RfAt w V p q T T [b8]) (X : BoxAt V b8 #[zi kd, zi a, zi b, zi c] 29) (hN : ∀ a' (r : Bool) (T' : Tr) w', Kn a' 303 [(1, .slice x len cap), (5, zp p 0), (6, zp q 0), (7, zi m), (8, zp b8 0), (9, .bool r), (10, .bool r)] -> Ob2 RfAt w w' p q T' T' [b8] -> BoxAt w' b8 #[zi kd, zi a, zi b, zi c] 29 -> NX a' w') :
  SW.wp Try.prog (Norm NX) a0 V := by
 refine wp_block ?_
 by_cases h0 : kd = 0
 ·subst h0
  refine seqN (rg11t (w := w) (T := T) (kd := 0) (a := a) (b := b) (c := c) K0 fun a1 w1 K1 hw => ?_)
  subst hw
  refine knCond (b := true) K1 rfl ?_
  exact lastN (rg12 (K1.less ⟨rfl, rfl, rfl, rfl, rfl, rfl, rfl, trivial⟩) H X hN)
 ·have hq : (kd == 0) = false := by rw [beq_eq_false_iff_ne]; exact h0
  refine seqN (rg11f (w := w) (T := T) (kd := kd) (a := a) (b := b) (c := c) K0 hq fun a1 w1 K1 hw => ?_)
  subst hw
  refine knCond (b := false) K1 rfl ?_
  replace K0 : Kn a1 303 [(1, .slice x len cap), (5, zp p 0), (6, zp q 0), (7, zi m), (8, zp b8 0), (9, .bool false), (10, .bool false), (48, zi kd)] := K1.less ⟨rfl, rfl, rfl, rfl, rfl, rfl, rfl, rfl, trivial⟩
  clear K1 hq
  by_cases h1 : kd = 1
  ·subst h1
   refine seqN (rg13t (w := w) (T := T) (kd := 0) (a := a) (b := b) (c := c) K0 fun a1 w1 K1 hw => ?_)
   subst hw
   refine knCond (b := true) K1 rfl ?_
   exact lastN (rg14 (K1.less ⟨rfl, rfl, rfl, rfl, rfl, rfl, rfl, trivial⟩) H X hN)
  ·have hq : (kd == 1) = false := by rw [beq_eq_false_iff_ne]; exact h1
   refine seqN (rg13f (w := w) (T := T) (kd := kd) (a := a) (b := b) (c := c) K0 hq fun a1 w1 K1 hw => ?_)
   subst hw
   refine knCond (b := false) K1 rfl ?_
   replace K0 : Kn a1 303 [(1, .slice x len cap), (5, zp p 0), (6, zp q 0), (7, zi m), (8, zp b8 0), (9, .bool false), (10, .bool false), (48, zi kd)] := K1.less ⟨rfl, rfl, rfl, rfl, rfl, rfl, rfl, rfl, trivial⟩
   clear K1 hq
   by_cases h2 : kd = 2
   ·subst h2
    refine seqN (rg15t (w := w) (T := T) (kd := 0) (a := a) (b := b) (c := c) K0 fun a1 w1 K1 hw => ?_)
    subst hw
    refine knCond (b := true) K1 rfl ?_
    exact lastN (rg16 (K1.less ⟨rfl, rfl, rfl, rfl, rfl, rfl, rfl, trivial⟩) H X hN)
   ·have hq : (kd == 2) = false := by rw [beq_eq_false_iff_ne]; exact h2
    refine seqN (rg15f (w := w) (T := T) (kd := kd) (a := a) (b := b) (c := c) K0 hq fun a1 w1 K1 hw => ?_)
    subst hw
    refine knCond (b := false) K1 rfl ?_
    replace K0 : Kn a1 303 [(1, .slice x len cap), (5, zp p 0), (6, zp q 0), (7, zi m), (8, zp b8 0), (9, .bool false), (10, .bool false), (48, zi kd)] := K1.less ⟨rfl, rfl, rfl, rfl, rfl, rfl, rfl, rfl, trivial⟩
    clear K1 hq
    by_cases h3 : kd = 3
    ·subst h3
     refine seqN (rg17t (w := w) (T := T) (kd := 0) (a := a) (b := b) (c := c) K0 fun a1 w1 K1 hw => ?_)
     subst hw
     refine knCond (b := true) K1 rfl ?_
     exact lastN (rg18 (K1.less ⟨rfl, rfl, rfl, rfl, rfl, rfl, rfl, trivial⟩) H X hN)
    ·have hq : (kd == 3) = false := by rw [beq_eq_false_iff_ne]; exact h3
     refine seqN (rg17f (w := w) (T := T) (kd := kd) (a := a) (b := b) (c := c) K0 hq fun a1 w1 K1 hw => ?_)
     subst hw
     refine knCond (b := false) K1 rfl ?_
     replace K0 : Kn a1 303 [(1, .slice x len cap), (5, zp p 0), (6, zp q 0), (7, zi m), (8, zp b8 0), (9, .bool false), (10, .bool false), (48, zi kd)] := K1.less ⟨rfl, rfl, rfl, rfl, rfl, rfl, rfl, rfl, trivial⟩
     clear K1 hq
     by_cases h4 : kd = 4
     ·subst h4
      refine seqN (rg19t (w := w) (T := T) (kd := 0) (a := a) (b := b) (c := c) K0 fun a1 w1 K1 hw => ?_)
      subst hw
      refine knCond (b := true) K1 rfl ?_
      exact lastN (rg20 (K1.less ⟨rfl, rfl, rfl, rfl, rfl, rfl, rfl, trivial⟩) H X hN)
     ·have hq : (kd == 4) = false := by rw [beq_eq_false_iff_ne]; exact h4
      refine seqN (rg19f (w := w) (T := T) (kd := kd) (a := a) (b := b) (c := c) K0 hq fun a1 w1 K1 hw => ?_)
      subst hw
      refine knCond (b := false) K1 rfl ?_
      replace K0 : Kn a1 303 [(1, .slice x len cap), (5, zp p 0), (6, zp q 0), (7, zi m), (8, zp b8 0), (9, .bool false), (10, .bool false), (48, zi kd)] := K1.less ⟨rfl, rfl, rfl, rfl, rfl, rfl, rfl, rfl, trivial⟩
      clear K1 hq
      by_cases h5 : kd = 5
      ·subst h5
       refine seqN (rg21t (w := w) (T := T) (kd := 0) (a := a) (b := b) (c := c) K0 fun a1 w1 K1 hw => ?_)
       subst hw
       refine knCond (b := true) K1 rfl ?_
       exact lastN (rg22 (K1.less ⟨rfl, rfl, rfl, rfl, rfl, rfl, rfl, trivial⟩) H X hN)
      ·have hq : (kd == 5) = false := by rw [beq_eq_false_iff_ne]; exact h5
       refine seqN (rg21f (w := w) (T := T) (kd := kd) (a := a) (b := b) (c := c) K0 hq fun a1 w1 K1 hw => ?_)
       subst hw
       refine knCond (b := false) K1 rfl ?_
       replace K0 : Kn a1 303 [(1, .slice x len cap), (5, zp p 0), (6, zp q 0), (7, zi m), (8, zp b8 0), (9, .bool false), (10, .bool false), (48, zi kd)] := K1.less ⟨rfl, rfl, rfl, rfl, rfl, rfl, rfl, rfl, trivial⟩
       clear K1 hq
       by_cases h6 : kd = 6
       ·subst h6
        refine seqN (rg23t (w := w) (T := T) (kd := 0) (a := a) (b := b) (c := c) K0 fun a1 w1 K1 hw => ?_)
        subst hw
        refine knCond (b := true) K1 rfl ?_
        exact lastN (rg24 (K1.less ⟨rfl, rfl, rfl, rfl, rfl, rfl, rfl, trivial⟩) H X hN)
       ·have hq : (kd == 6) = false := by rw [beq_eq_false_iff_ne]; exact h6
        refine seqN (rg23f (w := w) (T := T) (kd := kd) (a := a) (b := b) (c := c) K0 hq fun a1 w1 K1 hw => ?_)
        subst hw
        refine knCond (b := false) K1 rfl ?_
        replace K0 : Kn a1 303 [(1, .slice x len cap), (5, zp p 0), (6, zp q 0), (7, zi m), (8, zp b8 0), (9, .bool false), (10, .bool false), (48, zi kd)] := K1.less ⟨rfl, rfl, rfl, rfl, rfl, rfl, rfl, rfl, trivial⟩
        clear K1 hq
        exact wp_skip (hN _ false T _ (K0.less ⟨rfl, rfl, rfl, rfl, rfl, rfl, rfl, trivial⟩) H X)
set_option maxHeartbeats 4000000 in
theorem loop_walk {w : World} {p q : Nat} {x : Option Addr} {len cap : Nat} (hx : ARow w x len) {Q : Exit -> Act -> World -> Prop} {a0 : Act} {W : World} {T : Tr} (K0 : Kn a0 303 [(1, .slice x len cap), (5, zp p 0), (6, zp q 0), (7, zi ((0 : Nat) : Int))]) (H0 : Ob2 RfAt w W p q T T [])
  (hQ : ∀ a' w' T', Kn a' 303 [(5, zp p 0)] -> Ob2 RfAt w w' p q T' T' [] -> Q (.exit 0) a' w') : (Code.loop LOOPB).wp Try.prog Q a0 W := by
 refine wp_loop (fun a w' => ∃ (m : Nat) (T : Tr), m <= 150 /\ Kn a 303 [(1, .slice x len cap), (5, zp p 0), (6, zp q 0), (7, zi m)] /\ Ob2 RfAt w w' p q T T []) (fun a _ => 150 - (intOf (a.eval (.tmp 7))).toNat) ⟨0, T, by omega, K0, H0⟩ ?_
 clear K0 H0 T W
 rintro a9 V ⟨m, T, hm, K, H⟩
 have em : intOf (a9.eval (.tmp 7)) = (m : Int) := by rw [K.ev (s := 7) rfl]; rfl
 by_cases hc1 : m < len
 ·by_cases hc2 : m < 150
  ·refine wp_seq (seqN (rg6t K (by omega) (by omega) fun a1 w1 K1 hw => knCond (b := true) K1 rfl (wp_skip ?_)))
   subst hw
   show (Code.seq (Code.block 1 _) _).wp _ _ _ _
   refine wp_seq (wp_block ?_)
   obtain ⟨bx, ox, kd, a, b, c, rfl, y0, y1, y2, y3⟩ := hx.get H.bel m hc1
   refine seqN (rg8 (K1.less ⟨rfl, rfl, rfl, rfl, trivial⟩) (by omega) (by omega) y0 y1 y2 y3 fun a2 w2 K2 hw => ?_)
   subst hw
   have H2 := H.push Rf.lies (.cells #[zi kd, zi a, zi b, zi c] 29)
   have X2 := BoxAt.new w1 #[zi kd, zi a, zi b, zi c] 29
   clear H y0 y1 y2 y3
   generalize w1.alloc (.cells #[zi kd, zi a, zi b, zi c] 29) = V2 at *
   generalize w1.heap.size = b8 at *
   refine seqN (rg9 (w := w) (T := T) (kd := kd) (a := a) (b := b) (c := c) K2 fun a3 w3 K3 hw => ?_)
   subst hw
   refine wp_seq (seqN (rg10 (w := w) (T := T) K3 X2 fun a4 w4 K4 hw => ?_))
   subst hw
   refine lastN (sw_walk K4 H2 X2 fun a5 r T5 w5 K5 H5 X5 => ?_)
   clear K1 K2 K3 K4 H2 X2
   show (Code.seq (Code.seq _ _) _).wp _ _ _ _
   refine wp_seq (seqN (rg25 (w := w) (T := T) (kd := kd) (a := a) (b := b) (c := c) K5 fun a6 w6 K6 hw => knCond (b := false) K6 rfl (wp_skip ?_)))
   subst hw
   show (Code.seq (Code.region 27 _ _) _).wp _ _ _ _
   refine seqN (rg27 (K6.less ⟨rfl, rfl, rfl, rfl, rfl, trivial⟩) H5 X5 fun a7 bs1 w7 K7 H7 X7 S7 => ?_)
   refine seqN (rg28 K7 H7 X7 S7 fun a8 bs2 w8 K8 H8 X8 S8 R8 => ?_)
   clear K5 K6 H5 X5 K7 H7 X7 S7
   refine seqN (rg29 K8 H8 X8 S8 R8 fun a10 w10 K10 H10 X10 S10 R10 => ?_)
   refine seqN (rg30 K10 H10 X10 S10 R10 fun a11 w11 K11 H11 X11 S11 R11 => ?_)
   refine seqN (rg31 K11 H11 X11 S11 R11 fun a12 w12 K12 H12 X12 S12 R12 => ?_)
   refine seqN (rg32 K12 H12 X12 S12 R12 fun a13 w13 K13 H13 X13 S13 R13 => ?_)
   clear K8 H8 X8 S8 R8 K10 H10 X10 S10 R10 K11 H11 X11 S11 R11 K12 H12 X12 S12 R12
   refine seqN (rg33 K13 H13 X13 S13 R13 fun a14 w14 K14 H14 => ?_)
   refine knCond (b := false) K14 rfl (wp_skip ?_)
   show (Code.region 7 _ _).wp _ _ _ _
   refine lastN (rg7 (K14.less ⟨rfl, rfl, rfl, rfl, trivial⟩) hc2 fun a15 w15 K15 hw => ?_)
   subst hw
   refine ⟨⟨m + 1, T5, by omega, K15, H14.less (by simp)⟩, ?_⟩
   have em' : intOf (a15.eval (.tmp 7)) = ((m + 1 : Nat) : Int) := by rw [K15.ev (s := 7) rfl]; rfl
   simp only [em, em', Int.toNat_natCast]
   omega
  ·refine wp_seq (seqN (rg6b K (by omega) (by omega) fun a1 w1 K1 hw => knCond (b := false) K1 rfl (wp_exit ?_)))
   subst hw
   exact hQ _ _ T (K1.less ⟨rfl, trivial⟩) H
 ·refine wp_seq (seqN (rg6a K (by omega) fun a1 w1 K1 hw => knCond (b := false) K1 rfl (wp_exit ?_)))
  subst hw
  exact hQ _ _ T (K1.less ⟨rfl, trivial⟩) H
set_option maxHeartbeats 4000000 in
theorem plays_walk (n : Nat) (hn : n <= 255) (x : Option Addr) (len cap : Nat) (w : World) (hx : ARow w x len) :
  Calls Try.prog 3 #[.int .u8 (n : Int), .slice x len cap] w fun e w' => e = .returned (.bool true) /\ Below w.heap.size w w' := by
 refine calls_of_wp Try.func3 rfl ?_
 have K0 : Kn { tmps := #[.int .u8 (n : Int), .slice x len cap] ++ Array.replicate (Try.f3.ntmps - (#[.int .u8 (n : Int), .slice x len cap] : Array Value).size) undef, defers := [] } 303 [(0, .int .u8 (n : Int)), (1, .slice x len cap)] :=
  Kn.of (by simp [Try.ntmps3]) rfl (by simp)
 generalize ({ tmps := #[.int .u8 (n : Int), .slice x len cap] ++ Array.replicate (Try.f3.ntmps - (#[.int .u8 (n : Int), .slice x len cap] : Array Value).size) undef, defers := [] } : Act) = A at *
 show MAIN.wp _ _ _ _
 refine seqN (rg0 (w := w) K0 fun a1 w1 K1 hw => ?_)
 subst hw
 refine seqN (rg1 (w := w1) K1 hn (Below.refl _ _) fun a2 p w2 K2 H2 => ?_)
 refine seqN (rg2 (w := w1) K2 hn H2 fun a3 q w3 K3 H3 => ?_)
 clear K0 K1 K2 H2
 refine wp_seq (seqN (rg3 (n := n) (w := w1) K3 fun a4 w4 K4 hw => knCond (b := false) K4 rfl (wp_skip ?_)))
 subst hw
 show (Code.seq (Code.seq _ _) _).wp _ _ _ _
 refine wp_seq (seqN (rg5 (n := n) (w := w1) (K4.less ⟨rfl, rfl, rfl, trivial⟩) fun a5 w5 K5 hw => ?_))
 subst hw
 refine wp_block (loop_walk hx K5 H3 fun a6 w6 T6 K6 H6 => ?_)
 show (Code.seq (Code.region 35 _ _) _).wp _ _ _ _
 refine seqN (rg35 (n := n) (x := x) (len := len) (cap := cap) K6 H6 fun a7 w7 K7 hb => wp_ret ?_)
 refine bodyPost_ret (v := .bool true) ?_ K7.defers ⟨rfl, hb⟩
 have e4 := K7.has 4 _ rfl
 simp [results, Try.results3, go_sem, e4]
set_option maxHeartbeats 4000000 in
theorem plays_int (a : Int) (ha0 : 0 <= a) (ha : a <= 255) (x : Option Addr) (len cap : Nat) (w : World) (hx : ARow w x len) :
  Calls Try.prog 3 #[.int .u8 a, .slice x len cap] w fun e w' => e = .returned (.bool true) /\ Below w.heap.size w w' := by
 obtain ⟨a, rfl⟩ := Int.eq_ofNat_of_zero_le ha0
 exact plays_walk a (by omega) x len cap w hx
end Go.Proofs.Ytjnkgakajenoaaa

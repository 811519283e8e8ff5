/- For every byte and every slice of steps the law BtreePlays returns true and leaves its arguments as they were. Conditions: none. -/
import Derived.Test.YtbkneonbpcmepaaV2
import Derived.Test.YtbkneonbpcmepaaV3
import Derived.Test.YtbkneonbpcmepaaRows
import Derived.WalkKit
import Derived.ProofKit
import Derived.OpenShut
import Derived.ShutString
import Derived.ChangeOld
import Derived.Below
import Derived.Lib.SmallJoins
namespace Go.Proofs.Ytbkneonbpcmepaa
open Go.RowKit Go.Arb
set_option linter.unusedVariables false
set_option linter.unusedSimpArgs false
set_option maxRecDepth 100000
def SW : Code := (Code.block 2 (Code.seq (Code.region 11 OPS11.toArray false) (Code.cond (Operand.tmp 45) (Code.region 12 OPS12.toArray true) (Code.seq (Code.region 13 OPS13.toArray false) (Code.cond (Operand.tmp 59) (Code.region 14 OPS14.toArray true) (Code.seq (Code.region 15 OPS15.toArray false) (Code.cond (Operand.tmp 69) (Code.region 16 OPS16.toArray true) (Code.seq (Code.region 17 OPS17.toArray false) (Code.cond (Operand.tmp 79) (Code.region 18 OPS18.toArray true) (Code.seq (Code.region 19 OPS19.toArray false) (Code.cond (Operand.tmp 93) (Code.region 20 OPS20.toArray true) (Code.seq (Code.region 21 OPS21.toArray false) (Code.cond (Operand.tmp 107) (Code.region 22 OPS22.toArray true) Code.skip)))))))))))))
def LOOPB : Code := (Code.seq (Code.seq (Code.region 6 OPS6.toArray false) (Code.cond (Operand.tmp 36) Code.skip (Code.exit 0))) (Code.seq (Code.block 1 (Code.seq (Code.region 8 OPS8.toArray false) (Code.seq (Code.region 9 OPS9.toArray false) (Code.seq (Code.seq (Code.region 10 OPS10.toArray false) SW) (Code.seq (Code.region 23 OPS23.toArray false) (Code.seq (Code.region 24 OPS24.toArray false) (Code.seq (Code.region 25 OPS25.toArray false) (Code.seq (Code.region 26 OPS26.toArray false) (Code.seq (Code.region 27 OPS27.toArray true) (Code.cond (Operand.tmp 273) (Code.seq (Code.region 28 OPS28.toArray false) Code.ret) Code.skip)))))))))) (Code.region 7 OPS7.toArray false)))
def MAIN : Code := (Code.seq (Code.region 0 OPS0.toArray false) (Code.seq (Code.region 1 OPS1.toArray false) (Code.seq (Code.region 2 OPS2.toArray false) (Code.seq (Code.seq (Code.region 3 OPS3.toArray false) (Code.cond (Operand.tmp 28) (Code.seq (Code.region 4 OPS4.toArray false) Code.ret) Code.skip)) (Code.seq (Code.seq (Code.region 5 OPS5.toArray false) (Code.block 0 (Code.loop LOOPB))) (Code.seq (Code.region 29 OPS29.toArray false) Code.ret))))))
set_option maxHeartbeats 4000000 in
theorem sw_walk {w : World} {p q b8 : Nat} {T : Se} {x : Option Addr} {len cap m : Nat} {kd a b c : Int} {NX : Act → World → Prop} {a0 : Act} {V : World} (K0 : Kb a0 275 [(1, .slice x len cap), (6, .pointer (some ⟨p, 0, none⟩)), (7, .pointer (some ⟨q, 0, none⟩)), (8, .int .i64 (m : Int)), (9, .pointer (some ⟨b8, 0, none⟩)), (10, .bool false), (11, .bool false), (44, .int .i64 kd)]) (H : Ob2 RfAt w V p q T T [b8]) (X : BoxAt V b8 #[.int .i64 kd, .int .i64 a, .int .i64 b, .int .i64 c] 28) (hN : ∀ a' (r : Bool) (T' : Se) w', Kb a' 275 [(1, .slice x len cap), (6, .pointer (some ⟨p, 0, none⟩)), (7, .pointer (some ⟨q, 0, none⟩)), (8, .int .i64 (m : Int)), (9, .pointer (some ⟨b8, 0, none⟩)), (10, .bool r), (11, .bool r)] → Ob2 RfAt w w' p q T' T' [b8] → BoxAt w' b8 #[.int .i64 kd, .int .i64 a, .int .i64 b, .int .i64 c] 28 → NX a' w') :
    SW.wp Try.prog (Norm NX) a0 V := by
  refine wp_block ?_
  by_cases h0 : kd = 0
  · subst h0
    refine seqN (rg11t (w := w) (T := T) (kd := 0) (a := a) (b := b) (c := c) K0 fun a1 w1 K1 hw => ?_)
    subst hw
    refine knCond (b := true) K1 rfl ?_
    exact lastN (rg12 (K1.less ⟨rfl, rfl, rfl, rfl, rfl, rfl, rfl, trivial⟩) H X hN)
  · have hq : (kd == 0) = false := by rw [beq_eq_false_iff_ne]; exact h0
    refine seqN (rg11f (w := w) (T := T) (kd := kd) (a := a) (b := b) (c := c) K0 hq fun a1 w1 K1 hw => ?_)
    subst hw
    refine knCond (b := false) K1 rfl ?_
    replace K0 : Kb a1 275 [(1, .slice x len cap), (6, .pointer (some ⟨p, 0, none⟩)), (7, .pointer (some ⟨q, 0, none⟩)), (8, .int .i64 (m : Int)), (9, .pointer (some ⟨b8, 0, none⟩)), (10, .bool false), (11, .bool false), (44, .int .i64 kd)] := K1.less ⟨rfl, rfl, rfl, rfl, rfl, rfl, rfl, rfl, trivial⟩
    clear K1 hq
    by_cases h1 : kd = 1
    · subst h1
      refine seqN (rg13t (w := w) (T := T) (kd := 0) (a := a) (b := b) (c := c) K0 fun a1 w1 K1 hw => ?_)
      subst hw
      refine knCond (b := true) K1 rfl ?_
      exact lastN (rg14 (K1.less ⟨rfl, rfl, rfl, rfl, rfl, rfl, rfl, trivial⟩) H X hN)
    · have hq : (kd == 1) = false := by rw [beq_eq_false_iff_ne]; exact h1
      refine seqN (rg13f (w := w) (T := T) (kd := kd) (a := a) (b := b) (c := c) K0 hq fun a1 w1 K1 hw => ?_)
      subst hw
      refine knCond (b := false) K1 rfl ?_
      replace K0 : Kb a1 275 [(1, .slice x len cap), (6, .pointer (some ⟨p, 0, none⟩)), (7, .pointer (some ⟨q, 0, none⟩)), (8, .int .i64 (m : Int)), (9, .pointer (some ⟨b8, 0, none⟩)), (10, .bool false), (11, .bool false), (44, .int .i64 kd)] := K1.less ⟨rfl, rfl, rfl, rfl, rfl, rfl, rfl, rfl, trivial⟩
      clear K1 hq
      by_cases h2 : kd = 2
      · subst h2
        refine seqN (rg15t (w := w) (T := T) (kd := 0) (a := a) (b := b) (c := c) K0 fun a1 w1 K1 hw => ?_)
        subst hw
        refine knCond (b := true) K1 rfl ?_
        exact lastN (rg16 (K1.less ⟨rfl, rfl, rfl, rfl, rfl, rfl, rfl, trivial⟩) H X hN)
      · have hq : (kd == 2) = false := by rw [beq_eq_false_iff_ne]; exact h2
        refine seqN (rg15f (w := w) (T := T) (kd := kd) (a := a) (b := b) (c := c) K0 hq fun a1 w1 K1 hw => ?_)
        subst hw
        refine knCond (b := false) K1 rfl ?_
        replace K0 : Kb a1 275 [(1, .slice x len cap), (6, .pointer (some ⟨p, 0, none⟩)), (7, .pointer (some ⟨q, 0, none⟩)), (8, .int .i64 (m : Int)), (9, .pointer (some ⟨b8, 0, none⟩)), (10, .bool false), (11, .bool false), (44, .int .i64 kd)] := K1.less ⟨rfl, rfl, rfl, rfl, rfl, rfl, rfl, rfl, trivial⟩
        clear K1 hq
        by_cases h3 : kd = 3
        · subst h3
          refine seqN (rg17t (w := w) (T := T) (kd := 0) (a := a) (b := b) (c := c) K0 fun a1 w1 K1 hw => ?_)
          subst hw
          refine knCond (b := true) K1 rfl ?_
          exact lastN (rg18 (K1.less ⟨rfl, rfl, rfl, rfl, rfl, rfl, rfl, trivial⟩) H X hN)
        · have hq : (kd == 3) = false := by rw [beq_eq_false_iff_ne]; exact h3
          refine seqN (rg17f (w := w) (T := T) (kd := kd) (a := a) (b := b) (c := c) K0 hq fun a1 w1 K1 hw => ?_)
          subst hw
          refine knCond (b := false) K1 rfl ?_
          replace K0 : Kb a1 275 [(1, .slice x len cap), (6, .pointer (some ⟨p, 0, none⟩)), (7, .pointer (some ⟨q, 0, none⟩)), (8, .int .i64 (m : Int)), (9, .pointer (some ⟨b8, 0, none⟩)), (10, .bool false), (11, .bool false), (44, .int .i64 kd)] := K1.less ⟨rfl, rfl, rfl, rfl, rfl, rfl, rfl, rfl, trivial⟩
          clear K1 hq
          by_cases h4 : kd = 4
          · subst h4
            refine seqN (rg19t (w := w) (T := T) (kd := 0) (a := a) (b := b) (c := c) K0 fun a1 w1 K1 hw => ?_)
            subst hw
            refine knCond (b := true) K1 rfl ?_
            exact lastN (rg20 (K1.less ⟨rfl, rfl, rfl, rfl, rfl, rfl, rfl, trivial⟩) H X hN)
          · have hq : (kd == 4) = false := by rw [beq_eq_false_iff_ne]; exact h4
            refine seqN (rg19f (w := w) (T := T) (kd := kd) (a := a) (b := b) (c := c) K0 hq fun a1 w1 K1 hw => ?_)
            subst hw
            refine knCond (b := false) K1 rfl ?_
            replace K0 : Kb a1 275 [(1, .slice x len cap), (6, .pointer (some ⟨p, 0, none⟩)), (7, .pointer (some ⟨q, 0, none⟩)), (8, .int .i64 (m : Int)), (9, .pointer (some ⟨b8, 0, none⟩)), (10, .bool false), (11, .bool false), (44, .int .i64 kd)] := K1.less ⟨rfl, rfl, rfl, rfl, rfl, rfl, rfl, rfl, trivial⟩
            clear K1 hq
            by_cases h5 : kd = 5
            · subst h5
              refine seqN (rg21t (w := w) (T := T) (kd := 0) (a := a) (b := b) (c := c) K0 fun a1 w1 K1 hw => ?_)
              subst hw
              refine knCond (b := true) K1 rfl ?_
              exact lastN (rg22 (K1.less ⟨rfl, rfl, rfl, rfl, rfl, rfl, rfl, trivial⟩) H X hN)
            · have hq : (kd == 5) = false := by rw [beq_eq_false_iff_ne]; exact h5
              refine seqN (rg21f (w := w) (T := T) (kd := kd) (a := a) (b := b) (c := c) K0 hq fun a1 w1 K1 hw => ?_)
              subst hw
              refine knCond (b := false) K1 rfl ?_
              replace K0 : Kb a1 275 [(1, .slice x len cap), (6, .pointer (some ⟨p, 0, none⟩)), (7, .pointer (some ⟨q, 0, none⟩)), (8, .int .i64 (m : Int)), (9, .pointer (some ⟨b8, 0, none⟩)), (10, .bool false), (11, .bool false), (44, .int .i64 kd)] := K1.less ⟨rfl, rfl, rfl, rfl, rfl, rfl, rfl, rfl, trivial⟩
              clear K1 hq
              exact wp_skip (hN _ false T _ (K0.less ⟨rfl, rfl, rfl, rfl, rfl, rfl, rfl, trivial⟩) H X)
set_option maxHeartbeats 4000000 in
theorem loop_walk {w : World} {p q : Nat} {x : Option Addr} {len cap : Nat} (hx : ARow w x len) {Q : Exit → Act → World → Prop} {a0 : Act} {W : World} {T : Se} (K0 : Kb a0 275 [(1, .slice x len cap), (6, .pointer (some ⟨p, 0, none⟩)), (7, .pointer (some ⟨q, 0, none⟩)), (8, .int .i64 ((0 : Nat) : Int))]) (H0 : Ob2 RfAt w W p q T T [])
    (hQ : ∀ a' w' T', Kb a' 275 [(6, .pointer (some ⟨p, 0, none⟩))] → Ob2 RfAt w w' p q T' T' [] → Q (.exit 0) a' w') : (Code.loop LOOPB).wp Try.prog Q a0 W := by
  refine wp_loop (fun a w' => ∃ (m : Nat) (T : Se), m ≤ 200 ∧ Kb a 275 [(1, .slice x len cap), (6, .pointer (some ⟨p, 0, none⟩)), (7, .pointer (some ⟨q, 0, none⟩)), (8, .int .i64 (m : Int))] ∧ Ob2 RfAt w w' p q T T []) (fun a _ => 200 - (intOf (a.eval (.tmp 8))).toNat) ⟨0, T, by omega, K0, H0⟩ ?_
  clear K0 H0 T W
  rintro a9 V ⟨m, T, hm, K, H⟩
  have em : intOf (a9.eval (.tmp 8)) = (m : Int) := by rw [K.ev (s := 8) rfl]; rfl
  by_cases hc1 : m < len
  · by_cases hc2 : m < 200
    · refine wp_seq (seqN (rg6t K (by omega) (by omega) fun a1 w1 K1 hw => knCond (b := true) K1 rfl (wp_skip ?_)))
      subst hw
      show (Code.seq (Code.block 1 _) _).wp _ _ _ _
      refine wp_seq (wp_block ?_)
      obtain ⟨bx, ox, kd, a, b, c, rfl, y0, y1, y2, y3⟩ := hx.get H.bel m hc1
      refine seqN (rg8 (K1.less ⟨rfl, rfl, rfl, rfl, trivial⟩) (by omega) (by omega) y0 y1 y2 y3 fun a2 w2 K2 hw => ?_)
      subst hw
      have H2 := H.push Rf.lies (.cells #[.int .i64 kd, .int .i64 a, .int .i64 b, .int .i64 c] 28)
      have X2 := BoxAt.new w1 #[.int .i64 kd, .int .i64 a, .int .i64 b, .int .i64 c] 28
      clear H y0 y1 y2 y3
      generalize w1.alloc (.cells #[.int .i64 kd, .int .i64 a, .int .i64 b, .int .i64 c] 28) = V2 at *
      generalize w1.heap.size = b8 at *
      refine seqN (rg9 (w := w) (T := T) (kd := kd) (a := a) (b := b) (c := c) K2 fun a3 w3 K3 hw => ?_)
      subst hw
      refine wp_seq (seqN (rg10 (w := w) (T := T) K3 X2 fun a4 w4 K4 hw => ?_))
      subst hw
      refine lastN (sw_walk K4 H2 X2 fun a5 r T5 w5 K5 H5 X5 => ?_)
      clear K1 K2 K3 K4 H2 X2
      show (Code.seq (Code.region 23 _ _) _).wp _ _ _ _
      refine seqN (rg23 K5 H5 X5 fun a7 bs1 w7 K7 H7 X7 S7 => ?_)
      refine seqN (rg24 K7 H7 X7 S7 fun a8 bs2 w8 K8 H8 X8 S8 R8 => ?_)
      clear K5 H5 X5 K7 H7 X7 S7
      refine seqN (rg25 K8 H8 X8 S8 R8 fun a12 w12 K12 H12 X12 S12 R12 => ?_)
      refine seqN (rg26 K12 H12 X12 S12 R12 fun a13 w13 K13 H13 X13 S13 R13 => ?_)
      clear K8 H8 X8 S8 R8 K12 H12 X12 S12 R12
      refine seqN (rg27 K13 H13 X13 S13 R13 fun a14 w14 K14 H14 => ?_)
      refine knCond (b := false) K14 rfl (wp_skip ?_)
      show (Code.region 7 _ _).wp _ _ _ _
      refine lastN (rg7 (K14.less ⟨rfl, rfl, rfl, rfl, trivial⟩) hc2 fun a15 w15 K15 hw => ?_)
      subst hw
      refine ⟨⟨m + 1, T5, by omega, K15, H14.less (by simp)⟩, ?_⟩
      have em' : intOf (a15.eval (.tmp 8)) = ((m + 1 : Nat) : Int) := by rw [K15.ev (s := 8) rfl]; rfl
      simp only [em, em', Int.toNat_natCast]
      omega
    · refine wp_seq (seqN (rg6b K (by omega) (by omega) fun a1 w1 K1 hw => knCond (b := false) K1 rfl (wp_exit ?_)))
      subst hw
      exact hQ _ _ T (K1.less ⟨rfl, trivial⟩) H
  · refine wp_seq (seqN (rg6a K (by omega) fun a1 w1 K1 hw => knCond (b := false) K1 rfl (wp_exit ?_)))
    subst hw
    exact hQ _ _ T (K1.less ⟨rfl, trivial⟩) H
set_option maxHeartbeats 4000000 in
theorem plays_walk (n : Nat) (hn : n ≤ 255) (x : Option Addr) (len cap : Nat) (w : World) (hx : ARow w x len) :
    Calls Try.prog 3 #[.int .u8 (n : Int), .slice x len cap] w fun e w' => e = .returned (.bool true) ∧ Below w.heap.size w w' := by
  refine calls_of_wp Try.func3 rfl ?_
  have K0 : Kb { tmps := #[.int .u8 (n : Int), .slice x len cap] ++ Array.replicate (Try.f3.ntmps - (#[.int .u8 (n : Int), .slice x len cap] : Array Value).size) undef, defers := [] } 275 [(0, .int .u8 (n : Int)), (1, .slice x len cap)] :=
    Kb.of (by simp [Try.ntmps3]) rfl (by simp)
  generalize ({ tmps := #[.int .u8 (n : Int), .slice x len cap] ++ Array.replicate (Try.f3.ntmps - (#[.int .u8 (n : Int), .slice x len cap] : Array Value).size) undef, defers := [] } : Act) = A at K0 ⊢
  show MAIN.wp _ _ _ _
  refine seqN (rg0 (w := w) K0 fun a1 w1 K1 hw => ?_)
  rw [hw]
  clear hw
  refine seqN (rg1 (w := w) K1 hn fun a2 w2 K2 hw => ?_)
  rw [hw]
  clear hw
  refine seqN (rg2 (w := w) K2 hn (Below.refl _ _) fun a3 p q w3 K3 H3 => ?_)
  clear K0 K1 K2
  refine wp_seq (seqN (rg3 (n := n) (w := w) K3 fun a4 w4 K4 hw => knCond (b := false) K4 rfl (wp_skip ?_)))
  subst hw
  show (Code.seq (Code.seq _ _) _).wp _ _ _ _
  refine wp_seq (seqN (rg5 (n := n) (w := w) (K4.less ⟨rfl, rfl, rfl, trivial⟩) fun a5 w5 K5 hw => ?_))
  subst hw
  refine wp_block (loop_walk hx K5 H3 fun a6 w6 T6 K6 H6 => ?_)
  show (Code.seq (Code.region 29 _ _) _).wp _ _ _ _
  refine seqN (rg29 (n := n) (x := x) (len := len) (cap := cap) K6 H6 fun a7 w7 K7 hb => wp_ret ?_)
  refine bodyPost_ret (v := .bool true) ?_ K7.defers ⟨rfl, hb⟩
  have e4 := K7.has 4 _ rfl
  simp [results, Try.results3, go_sem, e4]
set_option maxHeartbeats 4000000 in
theorem plays_int (a : Int) (ha0 : 0 ≤ a) (ha : a ≤ 255) (x : Option Addr) (len cap : Nat) (w : World) (hx : ARow w x len) :
    Calls Try.prog 3 #[.int .u8 a, .slice x len cap] w fun e w' => e = .returned (.bool true) ∧ Below w.heap.size w w' := by
  obtain ⟨a, rfl⟩ := Int.eq_ofNat_of_zero_le ha0
  exact plays_walk a (by omega) x len cap w hx
end Go.Proofs.Ytbkneonbpcmepaa

namespace Go.Proofs.Ytbkneonbpcmepaa.btreePlays
open Go.ChangeShapes Go.WideShapes Go.ChangeAt Go.RowKit Go.Joins

theorem own : ownKnob Try.prog.godebug = none := by kernel_rfl
theorem laidOut : laidOutB Try.prog = true := by kernel_rfl

set_option maxRecDepth 100000 in
theorem lifted (os : Os) (started : os.Started) (H : Type) (enc : TypeId × Value → H) :
    ReturnsInHanded {} Try.checked os 3 .any (Rows.btreePlaysSpec.pre6 enc Try.prog Try.f3 Rows.btreePlaysRow.domain false) (Rows.btreePlaysSpec.post enc Try.prog Try.f3 false true false false) := by
  refine returnsInHanded_of_change (C := Try.checked) own started (by kernel_rfl) Try.func3
    (ChangeSpec.witness6 (enc := enc) (C := Try.checked) false ⟨#[], #[.int .u8 0, .slice none 0 0], []⟩ 8 (by kernel_rfl) (by kernel_rfl) (by kernel_rfl) (by kernel_rfl)) ?_
  intro W base args ds gs before hval0 hW hcnd _
  have hval : ∀ (j : Nat) t v, Try.f3.params[j]? = some t → args[j]? = some v → Value.okWide Try.prog W .any base t v := hval0
  have hW' := hW
  obtain ⟨p, q, hA0, hV, rfl, hfz, hnd⟩ := hW
  have hA : DataW.TrodAll enc Try.prog W 0 (fun _ => true) true Try.f3.params.toList args.toList ds p := hA0
  rw [Try.params3] at hA hval
  obtain ⟨v0, vs0, d0, ds0, p0, q0, hargs, rfl, rfl, h0, r0⟩ := trodAll_cons hA
  obtain ⟨v1, vs1, d1, ds1, p1, q1, rfl, rfl, rfl, h1, r1⟩ := trodAll_cons r0
  obtain ⟨rfl, rfl, rfl⟩ := trodAll_nil r1
  obtain rfl : args = #[v0, v1] := by cases args; simp_all
  obtain ⟨rfl, rfl⟩ := trodVars_none hV
  obtain ⟨a0, rfl, rfl, rfl, w0⟩ := open_int Try.underlying5 (hval 0 5 v0 rfl rfl) h0
  have k1 := h1
  have lt1 : ∀ x ∈ p1, x.block < W.heap.size := by obtain ⟨m, hm⟩ := k1; exact DataW.trod_lt m _ _ _ hm
  obtain ⟨x1, len1, cap1, rfl⟩ := okWide_slice Try.underlying22 (hval 1 22 v1 rfl rfl)
  obtain ⟨hlen1, hx1⟩ : len1 ≤ maxLen ∧ ARow W x1 len1 := by
    obtain ⟨fuel, hf⟩ := h1
    exact acts_open (by simpa [Value.cells] using hf)
  clear hA0 hval0
  refine (plays_int a0 (by have := bounds_u8 w0; omega) (by have := bounds_u8 w0; omega) x1 len1 cap1 W hx1).mono fun e W' ⟨he, bel⟩ => ?_
  subst he
  exact ⟨_, rfl, _, _, _, [], _, [], hW', trodAll_mk1 (shut_bool Try.underlying4 _), (trodAll_cons_mk (shut_int Try.underlying5 w0) (trodAll_cons_mk (Below.trod laidOut (by kernel_rfl) (of_decide_eq_true (by kernel_rfl)) k1 bel lt1) trodAll_mk0)), rfl, bel.frame _, fun h => by cases h⟩

theorem over : Rows.btreePlaysRow.holds Try.pinned (OpenSpec.ofChange Rows.btreePlaysSpec) :=
  OpenClaim.holds_of_wide 3 Try.f3 rfl rfl rfl rfl rfl rfl rfl ⟨rfl, rfl, rfl, rfl, rfl⟩ rfl rfl rfl rfl rfl (by kernel_rfl) Try.func3 (by kernel_rfl)
    (of_decide_eq_true (by kernel_rfl)) (by unfold Func.isWrapper; first | (rw [if_pos (by decide +kernel)]; kernel_rfl) | (rw [if_neg (by decide +kernel)]; exact ⟨rfl, rfl⟩))
    (fun os started H enc _ => lifted os started H enc)

theorem proved : Rows.BtreePlaysSaid := over
end Go.Proofs.Ytbkneonbpcmepaa.btreePlays
namespace Go.Proofs.Ytbkneonbpcmepaa
/-- The given statement. -/
theorem btreePlays_holds : Rows.BtreePlaysSaid := btreePlays.proved
#print axioms btreePlays_holds
end Go.Proofs.Ytbkneonbpcmepaa

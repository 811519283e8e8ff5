/- Part 12 of the texts. -/
import Derived.Test.YtjnkgakajenoaaaS1
import Derived.Test.YtjnkgakajenoaaaS11
import Derived.Test.YtjnkgakajenoaaaS9
namespace Go.Proofs.Ytjnkgakajenoaaa
open Go.RowKit Go.Arb
set_option linter.unusedVariables false
set_option linter.unusedSimpArgs false
set_option maxRecDepth 100000
def O17_4_0 : Oper := ⟨some 34, .move (.tmp 0), 23, "link.go:36", #[], none⟩
def O17_4_1 : Oper := ⟨some 35, .nilCheck (.tmp 34), 0, "link.go:36", #[⟨0, .data⟩], none⟩
def O17_4_2 : Oper := ⟨some 36, .fieldAddr 66 (.tmp 35) 1, 0, "link.go:36", #[⟨1, .data⟩], none⟩
def O17_4_3 : Oper := ⟨some 37, .load 64 (.tmp 36), 64, "link.go:36", #[⟨2, .data⟩], none⟩
def O17_4_4 : Oper := ⟨some 38, .move (.tmp 1), 3, "link.go:36", #[], none⟩
def O17_4_5 : Oper := ⟨some 39, .binOp .add 3 (.tmp 38) (.const (zi 1)) 3, 3, "link.go:36", #[⟨4, .data⟩], none⟩
def O17_4_6 : Oper := ⟨some 40, .move (.tmp 2), 3, "link.go:36", #[], none⟩
def O17_4_7 : Oper := ⟨some 41, .move (.tmp 2), 3, "link.go:36", #[], none⟩
def O17_4_8 : Oper := ⟨some 42, .call { callee := (.value (.func 54)), args := #[(.tmp 41)], argTypes := #[3] }, 34, "link.go:36", #[⟨7, .data⟩], none⟩
def O17_4_9 : Oper := ⟨some 43, .build 75 #[(4, (.tmp 40)), (6, (.tmp 42))], 75, "link.go:36", #[⟨6, .data⟩, ⟨8, .data⟩], none⟩
def O17_4_10 : Oper := ⟨some 44, .indexAddr 64 (.tmp 37) (.tmp 39), 0, "link.go:36", #[⟨3, .data⟩, ⟨5, .data⟩, ⟨0, .phase⟩, ⟨1, .phase⟩, ⟨2, .phase⟩, ⟨3, .phase⟩, ⟨4, .phase⟩, ⟨5, .phase⟩, ⟨6, .phase⟩, ⟨7, .phase⟩, ⟨8, .phase⟩, ⟨9, .phase⟩], none⟩
def O17_4_11 : Oper := ⟨none, .store 75 (.tmp 44) (.tmp 43), 0, "link.go:36", #[⟨10, .data⟩, ⟨9, .data⟩, ⟨8, .chain⟩, ⟨0, .phase⟩, ⟨1, .phase⟩, ⟨2, .phase⟩, ⟨3, .phase⟩, ⟨4, .phase⟩, ⟨5, .phase⟩, ⟨6, .phase⟩, ⟨7, .phase⟩, ⟨8, .phase⟩, ⟨9, .phase⟩], none⟩
def OPS17_4 : List Oper := [O17_4_0, O17_4_1, O17_4_2, O17_4_3, O17_4_4, O17_4_5, O17_4_6, O17_4_7, O17_4_8, O17_4_9, O17_4_10, O17_4_11]
theorem NS17_4 : Region.noSelect OPS17_4.toArray = true := by kernel_rfl
set_option maxHeartbeats 4000000 in
theorem addN1 {p g n cap room : Nat} {T : Tr} {S : Ss} {G : Gh} {w : World} {x y : Int} (h : Pool w p g n cap room S) (L : Lc S n T G) (hx : x < 0) :
  Calls Try.prog 17 #[zp p 0, zi x, zi y] w fun e w' => e = .returned (.bool false) /\ Keep [g] w w' /\ Pool w' p g n cap room S := by
 have PH := hide h
 have KP := hide (Keep.refl [g] w)
 have LH := hide L
 clear h L
 go_enter Try.func17, Try.ntmps17
 go_wp2
 refine bodyPost_ret (v := .bool false) (by simp [results, Try.results17, go_sem, *]) rfl ⟨rfl, unhide KP, unhide PH⟩
set_option maxHeartbeats 4000000 in
theorem addN2 {p g n cap room : Nat} {T : Tr} {S : Ss} {G : Gh} {w : World} {x y : Int} (h : Pool w p g n cap room S) (L : Lc S n T G) (hx : 0 <= x) (hr : (room : Int) <= x) :
  Calls Try.prog 17 #[zp p 0, zi x, zi y] w fun e w' => e = .returned (.bool false) /\ Keep [g] w w' /\ Pool w' p g n cap room S := by
 have PH := hide h
 have KP := hide (Keep.refl [g] w)
 have LH := hide L
 clear h L
 have e4 : ¬ (x < 0) := by omega
 go_enter Try.func17, Try.ntmps17
 obtain ⟨c0, c1, _⟩ := (unhide PH).head
 go_wp2
 refine bodyPost_ret (v := .bool false) (by simp [results, Try.results17, go_sem, *]) rfl ⟨rfl, unhide KP, unhide PH⟩
set_option maxHeartbeats 4000000 in
theorem addN3 {p g n cap room : Nat} {T : Tr} {S : Ss} {G : Gh} {w : World} {i t : Nat} {y : Int} (h : Pool w p g n cap room S) (L : Lc S n T G) (hi : Th T t) (hit : t = i + 1) (hr : i < room) :
  Calls Try.prog 17 #[zp p 0, zi i, zi y] w fun e w' => e = .returned (.bool false) /\ Keep [g] w w' /\ Pool w' p g n cap room S := by
 have PH := hide h
 have KP := hide (Keep.refl [g] w)
 have LH := hide L
 clear h L
 have lt1 := (unhide LH).lt t hi
 have e1 : (0 : Int) <= (t : Int) := by omega
 have e2 : (t : Int) < (n : Int) := by omega
 have t1 := hi.1
 have e5 : ¬ (t : Int) = 0 := by omega
 have e6 : ¬ t = 0 := by omega
 have HT := hide hi
 have HI := hide hit
 clear hi hit t1
 have e4 : ¬ ((i : Int) < 0) := by omega
 have e7 : ¬ ((room : Int) <= (i : Int)) := by omega
 go_enter Try.func17, Try.ntmps17
 obtain ⟨c0, c1, _⟩ := (unhide PH).head
 go_wp2_with fail
 refine (hasY (unhide PH) (unhide LH) (unhide HT) (unhide HI)).mono ?_
 rintro e W1 ⟨rfl, Q1, P1⟩
 clear c0 c1
 have Q2 := hide ((unhide KP).tr Q1)
 clear PH KP Q1
 have PH := hide P1
 have KP := Q2
 clear Q2 P1
 go_wp2
 refine bodyPost_ret (v := .bool false) (by simp [results, Try.results17, go_sem, *]) rfl ⟨rfl, unhide KP, unhide PH⟩
set_option maxHeartbeats 4000000 in
theorem addN4 {p g n cap room : Nat} {T : Tr} {S : Ss} {G : Gh} {w : World} {i : Nat} {y : Int} (h : Pool w p g n cap room S) (L : Lc S n T G) (hx : T.hasI (i : Int) = false) (hr : i < room) (hf : fitB y = false) :
  Calls Try.prog 17 #[zp p 0, zi i, zi y] w fun e w' => e = .returned (.bool false) /\ Keep [g] w w' /\ Pool w' p g n cap room S := by
 have PH := hide h
 have KP := hide (Keep.refl [g] w)
 have LH := hide L
 clear h L
 have e4 : ¬ ((i : Int) < 0) := by omega
 have e7 : ¬ ((room : Int) <= (i : Int)) := by omega
 have HF := hide hf
 clear hf
 go_enter Try.func17, Try.ntmps17
 obtain ⟨c0, c1, _⟩ := (unhide PH).head
 go_wp2_with fail
 refine (hasN (unhide PH) (unhide LH) hx).mono ?_
 rintro e W1 ⟨rfl, Q1, P1⟩
 clear c0 c1
 have Q2 := hide ((unhide KP).tr Q1)
 clear PH KP Q1
 have PH := hide P1
 have KP := Q2
 clear Q2 P1
 go_wp2_with fail
 refine (fitsK (unhide PH) (unhide HF)).mono ?_
 rintro e W2 ⟨rfl, Q1, P1⟩
 have Q2 := hide ((unhide KP).tr Q1)
 clear PH KP Q1
 have PH := hide P1
 have KP := Q2
 clear Q2 P1
 go_wp2
 refine bodyPost_ret (v := .bool false) (by simp [results, Try.results17, go_sem, *]) rfl ⟨rfl, unhide KP, unhide PH⟩
set_option maxHeartbeats 4000000 in
theorem tail17 {p g n cap room i t : Nat} {y : Int} {S : Ss} {Q : Exit -> Act -> World -> Prop} {a0 : Act} {w : World} (K0 : Kn a0 45 [(0, zp p 0), (1, zi i), (2, zi y)]) (h : Pool w p g n cap room S) (lt1 : t < n) (w1 : IntKind.i64.wrap ((i : Int) + 1) = (t : Int))
  (hN : ∀ a' W, Kn a' 45 [(6, .bool true)] -> Pool W p g n cap room (upd S t (newSl y)) -> Keep [g] w W -> Q .ret a' W) : (Code.seq (Code.region 4 OPS17_4.toArray true) (Code.seq (Code.region 5 (rg [1, 1, 1, 1, 0] Try.f17).toArray false) Code.ret)).wp Try.prog Q a0 w := by
 refine seqN ?_
 have e1 : (0 : Int) <= (t : Int) := by omega
 have e2 : (t : Int) < (n : Int) := by omega
 have hS : (fun w' : World => Pool w' p g n cap room S) w.drew := h.drew
 have HP := hide h
 have HN := hide hN
 have b0 : Below w.heap.size w w.drew := (Below.refl _ _).drew
 clear h hN
 have hq : ∀ c a a' w', Norm (fun a w => Code.wp Try.prog (Code.seq (Code.region 5 (rg [1, 1, 1, 1, 0] Try.f17).toArray false) Code.ret) Q a w) (.panic c) a w' -> Norm (fun a w => Code.wp Try.prog (Code.seq (Code.region 5 (rg [1, 1, 1, 1, 0] Try.f17).toArray false) Code.ret) Q a w) (.panic c) a' w' := fun _ _ _ _ h => h
 refine wp_region_till (t := 11) (S := (fun w' : World => Pool w' p g n cap room S)) (by kernel_rfl) ?_
 rw [show (OPS17_4.toArray).size = 12 from by kernel_rfl]
 refine uP 0 O17_4_0 (zp p 0) K0 hq NS17_4 (want_none rfl) (fun ev E w9 => ?_) (fun _ => hS) fun a1 K1 => ?_
 ·have E0 := E.tmp 0 _ rfl; clear E; unfold O17_4_0; clear HN hq hS HP; go_simp
 refine uP 1 O17_4_1 (zp p 0) K1 hq NS17_4 (want_none rfl) (fun ev E w9 => ?_) (fun _ => hS) fun a2 K2 => ?_
 ·have E34 := E.tmp 34 _ rfl; clear E; unfold O17_4_1; clear HN hq hS HP; go_simp
 clear K1
 refine uP 2 O17_4_2 (zp p 1) K2 hq NS17_4 (want_none rfl) (fun ev E w9 => ?_) (fun _ => hS) fun a3 K3 => ?_
 ·have E35 := E.tmp 35 _ rfl; clear E; unfold O17_4_2; clear HN hq hS HP; go_simp
 clear K2
 refine utake (i := 3) (o := O17_4_3) (v := .slice (some ⟨g, 0, none⟩) n cap) K3 hq rfl NS17_4 (by kernel_rfl) (by kernel_rfl) (by kernel_rfl) (by kernel_rfl) rfl rfl (want_none rfl) (fun ev E w9 hSw => ?_) hS (fun a4 K4 => ?_)
 ·obtain ⟨c0, c1, _⟩ := hSw.head; clear hSw; have E36 := E.tmp 36 _ rfl; clear E; unfold O17_4_3; clear HN hq hS HP; go_simp
 clear K3
 refine uP 4 O17_4_4 (zi i) K4 hq NS17_4 (want_none rfl) (fun ev E w9 => ?_) (fun _ => hS) fun a5 K5 => ?_
 ·have E1 := E.tmp 1 _ rfl; clear E; unfold O17_4_4; clear HN hq hS HP; go_simp
 clear K4
 refine uP 5 O17_4_5 (zi t) K5 hq NS17_4 (want_none rfl) (fun ev E w9 => ?_) (fun _ => hS) fun a6 K6 => ?_
 ·have EC := E.const; have E38 := E.tmp 38 _ rfl; clear E; unfold O17_4_5; clear HN hq hS HP; go_simp
 clear K5
 refine uP 6 O17_4_6 (zi y) K6 hq NS17_4 (want_none rfl) (fun ev E w9 => ?_) (fun _ => hS) fun a7 K7 => ?_
 ·have E2 := E.tmp 2 _ rfl; clear E; unfold O17_4_6; clear HN hq hS HP; go_simp
 clear K6
 refine uP 7 O17_4_7 (zi y) K7 hq NS17_4 (want_none rfl) (fun ev E w9 => ?_) (fun _ => hS) fun a8 K8 => ?_
 ·have E2 := E.tmp 2 _ rfl; clear E; unfold O17_4_7; clear HN hq hS HP; go_simp
 clear K7
 refine uone (i := 8) (o := ⟨some 42, .call { callee := (.value (.func 54)), args := #[(.tmp 41)], argTypes := #[3] }, 34, "link.go:36", #[⟨7, .data⟩], none⟩) K8 rfl (by kernel_rfl) rfl rfl (want_none rfl) (leaves_call (fn := 54) (args := #[zi y]) K8 (fun ev E => by clear HN hq hS HP; have EF := E.func; have E41 := E.tmp 41 _ rfl; clear E; go_simp) (one_any _ _) (fun e w' h => ⟨_, h.1⟩)) (fun v9 C1 hR => ?_)
 obtain ⟨hv, hb⟩ := hR
 injection hv with hv
 subst hv
 have b1 : Below w.heap.size w C1 := b0.trans (hb.mono b0.size)
 clear hS hb
 have hS : (fun w' : World => Pool w' p g n cap room S) C1 := (unhide HP).below b1
 refine ⟨fun _ => hS, fun a9 K9 => ?_⟩
 clear K8
 replace K9 : Kn _ 45 ((42, .agg #[zi 1, zi y, zi y, zi y]) :: _) := K9
 refine uP 9 O17_4_9 (.agg #[zi 0, zi 0, zi 0, .bool false, zi y, zi 0, zi 1, zi y, zi y, zi y, zi 0, zi 0, zi 0, zi 0]) K9 hq NS17_4 (want_none rfl) (fun ev E w9 => ?_) (fun _ => hS) fun a10 K10 => ?_
 ·have E40 := E.tmp 40 _ rfl; have E42 := E.tmp 42 _ rfl; clear E; unfold O17_4_9; clear HN hq hS HP; go_simp
 clear K9
 refine uP 10 O17_4_10 (zp g (t * 14)) K10 hq NS17_4 (want_none rfl) (fun ev E w9 => ?_) (fun _ => hS) fun a11 K11 => ?_
 ·have E37 := E.tmp 37 _ rfl; have E39 := E.tmp 39 _ rfl; clear E; unfold O17_4_10; clear HN hq hS HP; go_simp
 clear K10
 have P0 := hide hS
 clear hS
 obtain ⟨s0, s1, s2, s3, s4, s5, s6, s7, s8, s9, s10, s11, s12, s13⟩ := (unhide P0).slot (t := t) lt1
 obtain ⟨f0, f1, f2, f3, f4, f5, f6, f7, f8, f9, f10, f11, f12, f13⟩ := (unhide P0).soft (t := t) lt1
 refine ustore (R := fun _ _ => True) (i := 11) (o := O17_4_11) (w' := ((((((((((((((C1.setCell ⟨g, t * 14, none⟩ (zi 0)).setCell ⟨g, t * 14 + 1, none⟩ (zi 0)).setCell ⟨g, t * 14 + 2, none⟩ (zi 0)).setCell ⟨g, t * 14 + 3, none⟩ (.bool false)).setCell ⟨g, t * 14 + 4, none⟩ (zi y)).setCell ⟨g, t * 14 + 5, none⟩ (zi 0)).setCell ⟨g, t * 14 + 6, none⟩ (zi 1)).setCell ⟨g, t * 14 + 7, none⟩ (zi y)).setCell ⟨g, t * 14 + 8, none⟩ (zi y)).setCell ⟨g, t * 14 + 9, none⟩ (zi y)).setCell ⟨g, t * 14 + 10, none⟩ (zi 0)).setCell ⟨g, t * 14 + 11, none⟩ (zi 0)).setCell ⟨g, t * 14 + 12, none⟩ (zi 0)).setCell ⟨g, t * 14 + 13, none⟩ (zi 0))) K11 rfl (by kernel_rfl) rfl (want_none rfl) (fun ev E => ?_) (fun hx => absurd hx (by decide)) ?_
 ·have E43 := E.tmp 43 _ rfl; have E44 := E.tmp 44 _ rfl; clear E; unfold O17_4_11; clear HN hq HP P0; go_simp
 refine till_done (by kernel_rfl) ?_ _
 clear s0 s1 s2 s3 s4 s5 s6 s7 s8 s9 s10 s11 s12 s13 f0 f1 f2 f3 f4 f5 f6 f7 f8 f9 f10 f11 f12 f13
 have P3 : Pool ((((((((((((((C1.setCell ⟨g, t * 14, none⟩ (zi 0)).setCell ⟨g, t * 14 + 1, none⟩ (zi 0)).setCell ⟨g, t * 14 + 2, none⟩ (zi 0)).setCell ⟨g, t * 14 + 3, none⟩ (.bool false)).setCell ⟨g, t * 14 + 4, none⟩ (zi y)).setCell ⟨g, t * 14 + 5, none⟩ (zi 0)).setCell ⟨g, t * 14 + 6, none⟩ (zi 1)).setCell ⟨g, t * 14 + 7, none⟩ (zi y)).setCell ⟨g, t * 14 + 8, none⟩ (zi y)).setCell ⟨g, t * 14 + 9, none⟩ (zi y)).setCell ⟨g, t * 14 + 10, none⟩ (zi 0)).setCell ⟨g, t * 14 + 11, none⟩ (zi 0)).setCell ⟨g, t * 14 + 12, none⟩ (zi 0)).setCell ⟨g, t * 14 + 13, none⟩ (zi 0)) p g n cap room (upd S t (newSl y)) := (unhide P0).putSlot lt1 (newSl y)
 have Q3 : Keep [g] w ((((((((((((((C1.setCell ⟨g, t * 14, none⟩ (zi 0)).setCell ⟨g, t * 14 + 1, none⟩ (zi 0)).setCell ⟨g, t * 14 + 2, none⟩ (zi 0)).setCell ⟨g, t * 14 + 3, none⟩ (.bool false)).setCell ⟨g, t * 14 + 4, none⟩ (zi y)).setCell ⟨g, t * 14 + 5, none⟩ (zi 0)).setCell ⟨g, t * 14 + 6, none⟩ (zi 1)).setCell ⟨g, t * 14 + 7, none⟩ (zi y)).setCell ⟨g, t * 14 + 8, none⟩ (zi y)).setCell ⟨g, t * 14 + 9, none⟩ (zi y)).setCell ⟨g, t * 14 + 10, none⟩ (zi 0)).setCell ⟨g, t * 14 + 11, none⟩ (zi 0)).setCell ⟨g, t * 14 + 12, none⟩ (zi 0)).setCell ⟨g, t * 14 + 13, none⟩ (zi 0)) := keep14 (Keep.ofBelow b1 [g]) (newSl y)
 generalize ((((((((((((((C1.setCell ⟨g, t * 14, none⟩ (zi 0)).setCell ⟨g, t * 14 + 1, none⟩ (zi 0)).setCell ⟨g, t * 14 + 2, none⟩ (zi 0)).setCell ⟨g, t * 14 + 3, none⟩ (.bool false)).setCell ⟨g, t * 14 + 4, none⟩ (zi y)).setCell ⟨g, t * 14 + 5, none⟩ (zi 0)).setCell ⟨g, t * 14 + 6, none⟩ (zi 1)).setCell ⟨g, t * 14 + 7, none⟩ (zi y)).setCell ⟨g, t * 14 + 8, none⟩ (zi y)).setCell ⟨g, t * 14 + 9, none⟩ (zi y)).setCell ⟨g, t * 14 + 10, none⟩ (zi 0)).setCell ⟨g, t * 14 + 11, none⟩ (zi 0)).setCell ⟨g, t * 14 + 12, none⟩ (zi 0)).setCell ⟨g, t * 14 + 13, none⟩ (zi 0)) = W5 at *
 have PH := hide P3
 have KP := hide Q3
 clear P3 Q3 P0 HP hq
 show Code.wp _ _ _ _ _
 refine seqR ?_
 refine lC K11 fun a12 K12 => ?_
 clear K11
 refine nilN ?_
 refine wp_ret ?_
 exact unhide HN _ _ (K12.less ⟨rfl, trivial⟩) (unhide PH) (unhide KP)
set_option maxHeartbeats 4000000 in
theorem addY {p g n cap room : Nat} {T : Tr} {S : Ss} {G : Gh} {w : World} {i : Nat} {y : Int} (h : Pool w p g n cap room S) (L : Lc S n T G) (hrm : T.n = room) (hx : T.hasI (i : Int) = false) (hr : i < room) (hf : fitB y = true) :
  Calls Try.prog 17 #[zp p 0, zi i, zi y] w fun e w' => e = .returned (.bool true) /\ Keep [p, g] w w' /\ ∃ g2 n2 cap2 S1 G1, Pool w' p g2 n2 cap2 room S1 /\ Lc S1 n2 (T.add i y) G1 /\ (g2 = g ∨ w.heap.size <= g2) := by
 have PH := hide h
 have KP := hide (Keep.refl [g] w)
 have LH := hide L
 clear h L
 have e4 : ¬ ((i : Int) < 0) := by omega
 have e7 : ¬ ((room : Int) <= (i : Int)) := by omega
 have HF := hide hf
 clear hf
 have nnn := (unhide LH).nn
 have hTn := (unhide LH).ft.n
 refine callsK (n := 45) (L := [(0, zp p 0), (1, zi i), (2, zi y)]) Try.func17 rfl Try.ntmps17 rfl rfl (fun a0 K0 => ?_)
 refine seqR ?_
 refine lC K0 fun a1 K1 => ?_
 refine nilN ?_
 refine seqN ?_
 refine seqR ?_
 refine lM K1 fun a2 K2 => ?_
 clear K1
 refine lT (.bool false) w K2 (want_none rfl) (fun ev E => ?_) fun a3 K3 => ?_
 ·have EC := E.const; have E7 := E.tmp 7 _ rfl; clear E; clear PH KP LH HF; go_simp
 clear K2
 refine lM K3 fun a4 K4 => ?_
 clear K3
 refine lmv K4 rfl rfl (want_some K4 rfl rfl rfl) rfl rfl (fun a5 K5 => ?_)
 clear K4
 refine lT (.bool false) w K5 (want_some K5 rfl rfl rfl) (fun ev E => ?_) fun a6 K6 => ?_
 ·have EC := E.const; have E10 := E.tmp 10 _ rfl; clear E; clear PH KP LH HF; go_simp
 clear K5
 refine lT (.bool false) w K6 (want_none rfl) (fun ev E => ?_) fun a7 K7 => ?_
 ·have EC := E.const; have E9 := E.tmp 9 _ rfl; have E11 := E.tmp 11 _ rfl; clear E; clear PH KP LH HF; go_simp
 clear K6
 refine lM K7 fun a8 K8 => ?_
 clear K7
 refine lmv K8 rfl rfl (want_some K8 rfl rfl rfl) rfl rfl (fun a9 K9 => ?_)
 clear K8
 refine lmv K9 rfl rfl (want_some K9 rfl rfl rfl) rfl rfl (fun a10 K10 => ?_)
 clear K9
 refine lnc K10 rfl rfl (want_some K10 rfl rfl rfl) rfl rfl (fun a11 K11 => ?_)
 clear K10
 refine lfa K11 rfl rfl (want_some K11 rfl rfl rfl) rfl rfl FA66_0 (fun a12 K12 => ?_)
 clear K11
 refine lT (zi room) w K12 (want_some K12 rfl rfl rfl) (fun ev E => ?_) fun a13 K13 => ?_
 ·obtain ⟨c0, c1, _⟩ := (unhide PH).head; have E17 := E.tmp 17 _ rfl; clear E; clear PH KP LH HF; go_simp
 clear K12
 refine lT (.bool false) w K13 (want_some K13 rfl rfl rfl) (fun ev E => ?_) fun a14 K14 => ?_
 ·have E14 := E.tmp 14 _ rfl; have E18 := E.tmp 18 _ rfl; clear E; clear PH KP LH HF; go_simp
 clear K13
 refine lT (.bool false) w K14 (want_none rfl) (fun ev E => ?_) fun a15 K15 => ?_
 ·have EC := E.const; have E13 := E.tmp 13 _ rfl; have E19 := E.tmp 19 _ rfl; clear E; clear PH KP LH HF; go_simp
 clear K14
 refine lM K15 fun a16 K16 => ?_
 clear K15
 refine lmv K16 rfl rfl (want_some K16 rfl rfl rfl) rfl rfl (fun a17 K17 => ?_)
 clear K16
 refine lmv K17 rfl rfl (want_some K17 rfl rfl rfl) rfl rfl (fun a18 K18 => ?_)
 clear K17
 refine lcall (f := 37) (args := #[zp p 0, zi i]) K18 rfl rfl (want_some K18 rfl rfl rfl) (fun ev E => ?_) (hasN (unhide PH) (unhide LH) hx) (fun e W19 hR => ?_)
 ·have EF := E.func; have E22 := E.tmp 22 _ rfl; have E23 := E.tmp 23 _ rfl; clear E; clear PH KP LH HF; go_simp
 obtain ⟨rfl, Q1, P1⟩ := hR
 have Q2 := hide ((unhide KP).tr Q1)
 clear PH KP Q1
 have PH := hide P1
 have KP := Q2
 clear Q2 P1
 refine ⟨_, rfl, fun a20 K20 => ?_⟩
 clear K18
 refine lT (.bool false) W19 K20 (want_none rfl) (fun ev E => ?_) fun a21 K21 => ?_
 ·have EC := E.const; have E21 := E.tmp 21 _ rfl; have E24 := E.tmp 24 _ rfl; clear E; clear PH KP LH HF; go_simp
 clear K20
 refine lM K21 fun a22 K22 => ?_
 clear K21
 refine lmv K22 rfl rfl (want_some K22 rfl rfl rfl) rfl rfl (fun a23 K23 => ?_)
 clear K22
 refine lcall (f := 52) (args := #[zi y]) K23 rfl rfl (want_some K23 rfl rfl rfl) (fun ev E => ?_) (fitsK (unhide PH) (unhide HF)) (fun e W24 hR => ?_)
 ·have EF := E.func; have E27 := E.tmp 27 _ rfl; clear E; clear PH KP LH HF; go_simp
 obtain ⟨rfl, Q1, P1⟩ := hR
 have Q2 := hide ((unhide KP).tr Q1)
 clear PH KP Q1
 have PH := hide P1
 have KP := Q2
 clear Q2 P1
 refine ⟨_, rfl, fun a25 K25 => ?_⟩
 clear K23
 refine lT (.bool false) W24 K25 (want_some K25 rfl rfl rfl) (fun ev E => ?_) fun a26 K26 => ?_
 ·have E28 := E.tmp 28 _ rfl; clear E; clear PH KP LH HF; go_simp
 clear K25
 refine lT (.bool false) W24 K26 (want_none rfl) (fun ev E => ?_) fun a27 K27 => ?_
 ·have EC := E.const; have E26 := E.tmp 26 _ rfl; have E29 := E.tmp 29 _ rfl; clear E; clear PH KP LH HF; go_simp
 clear K26
 refine nilN ?_
 refine knCond (b := false) K27 rfl ?_
 refine wp_skip ?_
 show Code.wp _ _ _ _ _
 refine seqR ?_
 refine lM K27 fun a28 K28 => ?_
 clear K27
 refine lM K28 fun a29 K29 => ?_
 clear K28
 have hv : i <= 4194304 := by omega
 have hn4 : n <= 4194306 := by omega
 have n0 := (unhide LH).n0
 refine lcall (f := 53) (args := #[zp p 0, zi i]) K29 rfl rfl (want_none rfl) (fun ev E => ?_) (reach_any i (unhide PH) (by omega) hv hn4) (fun e W30 hR => ?_)
 ·have EF := E.func; have E31 := E.tmp 31 _ rfl; have E32 := E.tmp 32 _ rfl; clear E; clear PH KP LH HF; go_simp
 obtain ⟨rfl, g2, n2, cap2, R⟩ := hR
 have PR := hide R
 clear PH R
 refine ⟨_, rfl, fun a31 K31 => ?_⟩
 clear K29
 refine nilN ?_
 have K32 : Kn _ 45 [(0, zp p 0), (1, zi i), (2, zi y)] := K31.less ⟨rfl, rfl, rfl, trivial⟩
 have R := unhide PR
 have nn2 : n <= n2 /\ n2 <= T.n + 1 := by have := R.nn; have := R.lt; omega
 have L2 := ((unhide LH).grow nn2.1 nn2.2).add (v := i) (w := y) (by rw [T.hasI_nat] at hx; simpa using hx) (by omega) (by have := unhide HF; simpa [fitB] using this) R.lt
 have w1 : IntKind.i64.wrap ((i : Int) + 1) = ((i + 1 : Nat) : Int) := by rw [IntWalk.i64_in _ (by omega)]; omega
 refine tail17 (t := i + 1) K32 R.po R.lt w1 (fun a' W5 K5 P5 Q5 => ?_)
 have KK : Keep [p, g] w W5 := by
  have k1 : Keep [p, g] w W30 := ((unhide KP).mono (js := [p, g]) (by simp)).trans R.kp (fun i hi => .inl hi)
  refine k1.trans (ks := [p, g]) Q5 (fun k hk => ?_)
  simp at hk
  subst hk
  rcases R.gg with e9 | e9
  ·left; simp [e9]
  ·right; have := (unhide KP).size; omega
 have GG : g2 = g ∨ w.heap.size <= g2 := by
  rcases R.gg with e9 | e9
  ·exact .inl e9
  ·right; have := (unhide KP).size; omega
 refine bodyPost_ret (v := .bool true) ?_ K5.defers ⟨rfl, KK, g2, n2, cap2, _, _, P5, L2, GG⟩
 have e6 := K5.has 6 _ rfl
 simp [results, Try.results17, go_sem, e6]
def O33_6_0 : Oper := ⟨some 24, .fieldAddr 75 (.tmp 8) 7, 0, "link.go:178", #[], none⟩
def O33_6_1 : Oper := ⟨some 25, .fieldAddr 73 (.tmp 24) 0, 0, "link.go:178", #[⟨0, .data⟩], none⟩
def O33_6_2 : Oper := ⟨some 26, .load 3 (.tmp 25), 3, "link.go:178", #[⟨1, .data⟩], none⟩
def O33_6_3 : Oper := ⟨some 27, .binOp .add 3 (.tmp 26) (.const (zi 1)) 3, 3, "link.go:178", #[⟨2, .data⟩], none⟩
def O33_6_4 : Oper := ⟨some 28, .fieldAddr 75 (.tmp 8) 7, 0, "link.go:178", #[⟨10, (Ground.gcOnly Departure.lateStores)⟩], none⟩
def O33_6_5 : Oper := ⟨some 29, .fieldAddr 73 (.tmp 28) 1, 0, "link.go:178", #[⟨4, .data⟩, ⟨10, (Ground.gcOnly Departure.lateStores)⟩], none⟩
def O33_6_6 : Oper := ⟨some 30, .load 3 (.tmp 29), 3, "link.go:178", #[⟨5, .data⟩, ⟨10, (Ground.gcOnly Departure.lateStores)⟩], none⟩
def O33_6_7 : Oper := ⟨some 31, .fieldAddr 75 (.tmp 8) 4, 0, "link.go:178", #[⟨10, (Ground.gcOnly Departure.lateStores)⟩], none⟩
def O33_6_8 : Oper := ⟨some 32, .load 3 (.tmp 31), 3, "link.go:178", #[⟨7, .data⟩, ⟨10, (Ground.gcOnly Departure.lateStores)⟩], none⟩
def O33_6_9 : Oper := ⟨some 33, .binOp .add 3 (.tmp 30) (.tmp 32) 3, 3, "link.go:178", #[⟨6, .data⟩, ⟨8, .data⟩, ⟨10, (Ground.gcOnly Departure.lateStores)⟩], none⟩
def O33_6_10 : Oper := ⟨some 4, .assign (.tmp 27), 3, "link.go:178", #[⟨3, .data⟩, ⟨0, .phase⟩, ⟨1, .phase⟩, ⟨2, .phase⟩, ⟨3, .phase⟩, ⟨4, (Ground.textOnly Departure.lateStores)⟩, ⟨5, (Ground.textOnly Departure.lateStores)⟩, ⟨6, (Ground.textOnly Departure.lateStores)⟩, ⟨7, (Ground.textOnly Departure.lateStores)⟩, ⟨8, (Ground.textOnly Departure.lateStores)⟩, ⟨9, (Ground.textOnly Departure.lateStores)⟩], none⟩
def O33_6_11 : Oper := ⟨some 5, .assign (.tmp 33), 3, "link.go:178", #[⟨9, .data⟩, ⟨10, .chain⟩, ⟨0, .phase⟩, ⟨1, .phase⟩, ⟨2, .phase⟩, ⟨3, .phase⟩, ⟨4, .phase⟩, ⟨5, .phase⟩, ⟨6, .phase⟩, ⟨7, .phase⟩, ⟨8, .phase⟩, ⟨9, .phase⟩, ⟨10, .phase⟩], none⟩
def O33_6_12 : Oper := ⟨some 6, .assign (.const (.bool true)), 4, "link.go:178", #[⟨11, .chain⟩, ⟨0, .phase⟩, ⟨1, .phase⟩, ⟨2, .phase⟩, ⟨3, .phase⟩, ⟨4, .phase⟩, ⟨5, .phase⟩, ⟨6, .phase⟩, ⟨7, .phase⟩, ⟨8, .phase⟩, ⟨9, .phase⟩, ⟨10, .phase⟩, ⟨11, .phase⟩], none⟩
def OPS33_6 : List Oper := [O33_6_0, O33_6_1, O33_6_2, O33_6_3, O33_6_4, O33_6_5, O33_6_6, O33_6_7, O33_6_8, O33_6_9, O33_6_10, O33_6_11, O33_6_12]
theorem NS33_6 : Region.noSelect OPS33_6.toArray = true := by kernel_rfl
set_option maxHeartbeats 4000000 in
theorem subN {p g n cap room : Nat} {T : Tr} {S : Ss} {G : Gh} {w : World} {x : Int} (h : Pool w p g n cap room S) (L : Lc S n T G) (hx : T.hasI x = false) :
  Calls Try.prog 33 #[zp p 0, zi x] w fun e w' => e = .returned (.tuple #[zi 0, zi 0, .bool false]) /\ Keep [g] w w' /\ Pool w' p g n cap room S := by
 have PH := hide h
 have KP := hide (Keep.refl [g] w)
 have LH := hide L
 clear h L
 go_enter Try.func33, Try.ntmps33
 go_wp2_with fail
 refine (findN (unhide PH) (unhide LH) hx).mono ?_
 rintro e W1 ⟨rfl, Q1, P1⟩
 have Q2 := hide ((unhide KP).tr Q1)
 clear PH KP Q1
 have PH := hide P1
 have KP := Q2
 clear Q2 P1
 go_wp2
 refine bodyPost_ret (v := .tuple #[zi 0, zi 0, .bool false]) (by simp [results, Try.results33, go_sem, *]) rfl ⟨rfl, unhide KP, unhide PH⟩
set_option maxHeartbeats 4000000 in
theorem subY {p g n cap room : Nat} {T : Tr} {S : Ss} {G : Gh} {w : World} {i t : Nat} (h : Pool w p g n cap room S) (L : Lc S n T G) (hi : Th T t) (hit : t = i + 1) :
  Calls Try.prog 33 #[zp p 0, zi i] w fun e w' => e = .returned (.tuple #[zi (Dc T t), zi (Dw T t), .bool true]) /\ Keep [g] w w' /\ ∃ S1 G1, Pool w' p g n cap room S1 /\ Lc S1 n T G1 := by
 have PH := hide h
 have KP := hide (Keep.refl [g] w)
 have LH := hide L
 clear h L
 have lt1 := (unhide LH).lt t hi
 have e1 : (0 : Int) <= (t : Int) := by omega
 have e2 : (t : Int) < (n : Int) := by omega
 have t1 := hi.1
 have e5 : ¬ (t : Int) = 0 := by omega
 have e6 : ¬ t = 0 := by omega
 have HT := hide hi
 have HI := hide hit
 clear hi hit t1
 refine callsK (n := 34) (L := [(0, zp p 0), (1, zi i)]) Try.func33 rfl Try.ntmps33 rfl rfl (fun a0 K0 => ?_)
 refine seqR ?_
 refine lC K0 fun a1 K1 => ?_
 refine lC K1 fun a2 K2 => ?_
 clear K1
 refine lC K2 fun a3 K3 => ?_
 clear K2
 refine nilN ?_
 refine seqR ?_
 refine lM K3 fun a4 K4 => ?_
 clear K3
 refine lM K4 fun a5 K5 => ?_
 clear K4
 refine lcall (f := 58) (args := #[zp p 0, zi i]) K5 rfl rfl (want_none rfl) (fun ev E => ?_) (findY (unhide PH) (unhide LH) (unhide HT) (unhide HI)) (fun e W6 hR => ?_)
 ·have EF := E.func; have E9 := E.tmp 9 _ rfl; have E10 := E.tmp 10 _ rfl; clear E; clear PH KP LH HT HI; go_simp
 obtain ⟨rfl, Q1, P1⟩ := hR
 have Q2 := hide ((unhide KP).tr Q1)
 clear PH KP Q1
 have PH := hide P1
 have KP := Q2
 clear Q2 P1
 refine ⟨_, rfl, fun a7 K7 => ?_⟩
 clear K5
 refine lA K7 fun a8 K8 => ?_
 clear K7
 refine nilN ?_
 refine seqN ?_
 refine seqR ?_
 refine lM K8 fun a9 K9 => ?_
 clear K8
 refine lT (.bool false) W6 K9 (want_none rfl) (fun ev E => ?_) fun a10 K10 => ?_
 ·have EC := E.const; have E12 := E.tmp 12 _ rfl; clear E; clear PH KP LH HT HI; go_simp
 clear K9
 refine nilN ?_
 refine knCond (b := false) K10 rfl ?_
 refine wp_skip ?_
 show Code.wp _ _ _ _ _
 refine seqR ?_
 refine lM K10 fun a11 K11 => ?_
 clear K10
 refine lM K11 fun a12 K12 => ?_
 clear K11
 refine lcall (f := 61) (args := #[zp p 0, zi t]) K12 rfl rfl (want_none rfl) (fun ev E => ?_) (exposeL (unhide PH) (unhide LH) (unhide HT)) (fun e W13 hR => ?_)
 ·have EF := E.func; have E14 := E.tmp 14 _ rfl; have E15 := E.tmp 15 _ rfl; clear E; clear PH KP LH HT HI; go_simp
 obtain ⟨met1, rfl, Q1, S1, G1, P1, L1, X1⟩ := hR
 have Q2 := hide ((unhide KP).tr Q1)
 clear PH KP Q1
 have PH := hide P1
 have KP := Q2
 clear Q2 P1
 refine ⟨_, rfl, fun a14 K14 => ?_⟩
 clear K12
 refine nilN ?_
 refine seqR ?_
 refine lM K14 fun a15 K15 => ?_
 clear K14
 refine lN K15 fun a16 K16 => ?_
 clear K15
 refine lF K16 FA66_1 fun a17 K17 => ?_
 clear K16
 refine lT (.slice (some ⟨g, 0, none⟩) n cap) W13 K17 (want_none rfl) (fun ev E => ?_) fun a18 K18 => ?_
 ·obtain ⟨c0, c1, _⟩ := (unhide PH).head; have E19 := E.tmp 19 _ rfl; clear E; clear PH KP LH HT HI L1 X1; go_simp
 clear K17
 refine lM K18 fun a19 K19 => ?_
 clear K18
 refine lT (zp g (t * 14)) W13 K19 (want_none rfl) (fun ev E => ?_) fun a20 K20 => ?_
 ·have E20 := E.tmp 20 _ rfl; have E21 := E.tmp 21 _ rfl; clear E; clear PH KP LH HT HI L1 X1; go_simp
 clear K19
 refine lT (.agg #[zi ((S1 t).up : Int), zi ((S1 t).l : Int), zi ((S1 t).r : Int), .bool (S1 t).tn, zi (S1 t).wt, zi (S1 t).wa, zi (S1 t).sm.c, zi (S1 t).sm.s, zi (S1 t).sm.a, zi (S1 t).sm.b, zi (S1 t).hg.c, zi (S1 t).hg.w, zi (S1 t).hu.c, zi (S1 t).hu.w]) W13 K20 (want_none rfl) (fun ev E => ?_) fun a21 K21 => ?_
 ·obtain ⟨s0, s1, s2, s3, s4, s5, s6, s7, s8, s9, s10, s11, s12, s13⟩ := (unhide PH).slot (t := t) (by assumption); have E22 := E.tmp 22 _ rfl; clear E; clear PH KP LH HT HI L1 X1; go_simp
 clear K20
 refine lT (zp W13.heap.size 0) (W13.alloc (.cells #[zi 0, zi 0, zi 0, .bool false, zi 0, zi 0, zi 0, zi 0, zi 0, zi 0, zi 0, zi 0, zi 0, zi 0] 75)) K21 (want_none rfl) (fun ev E => ?_) fun a22 K22 => ?_
 ·clear E; clear PH KP LH HT HI L1 X1; go_simp
 clear K21
 have PA := (unhide PH).below ((Below.refl W13.heap.size W13).alloc (Nat.le_refl _) (.cells #[zi 0, zi 0, zi 0, .bool false, zi 0, zi 0, zi 0, zi 0, zi 0, zi 0, zi 0, zi 0, zi 0, zi 0] 75))
 have KA := (unhide KP).belowB ((Below.refl W13.heap.size W13).alloc (Nat.le_refl _) (.cells #[zi 0, zi 0, zi 0, .bool false, zi 0, zi 0, zi 0, zi 0, zi 0, zi 0, zi 0, zi 0, zi 0, zi 0] 75))
 have BA := heap_alloc_new W13 (.cells #[zi 0, zi 0, zi 0, .bool false, zi 0, zi 0, zi 0, zi 0, zi 0, zi 0, zi 0, zi 0, zi 0, zi 0] 75)
 have bg : g < W13.heap.size /\ p < W13.heap.size := ⟨(unhide PH).lt.2, (unhide PH).lt.1⟩
 have bw : w.heap.size <= W13.heap.size := (unhide KP).size
 clear PH KP
 generalize (W13.alloc (.cells #[zi 0, zi 0, zi 0, .bool false, zi 0, zi 0, zi 0, zi 0, zi 0, zi 0, zi 0, zi 0, zi 0, zi 0] 75)) = WA at *
 generalize W13.heap.size = b at *
 have PH := hide PA
 have KP := hide KA
 have HBG := hide (And.intro bg bw)
 clear PA KA bg bw
 have BAH := hide BA
 have cA : ∀ k, k < 14 -> WA.cell? ⟨b, k, none⟩ = (#[zi 0, zi 0, zi 0, .bool false, zi 0, zi 0, zi 0, zi 0, zi 0, zi 0, zi 0, zi 0, zi 0, zi 0] : Array Value)[k]? /\ WA.frozen? ⟨b, k, none⟩ = false := fun k hk => by
  constructor
  ·simp [World.cell?, BA]
  ·simp [World.frozen?, BA]
 have s0 := (cA 0 (by omega)).1; have f0 := (cA 0 (by omega)).2
 have s1 := (cA 1 (by omega)).1; have f1 := (cA 1 (by omega)).2
 have s2 := (cA 2 (by omega)).1; have f2 := (cA 2 (by omega)).2
 have s3 := (cA 3 (by omega)).1; have f3 := (cA 3 (by omega)).2
 have s4 := (cA 4 (by omega)).1; have f4 := (cA 4 (by omega)).2
 have s5 := (cA 5 (by omega)).1; have f5 := (cA 5 (by omega)).2
 have s6 := (cA 6 (by omega)).1; have f6 := (cA 6 (by omega)).2
 have s7 := (cA 7 (by omega)).1; have f7 := (cA 7 (by omega)).2
 have s8 := (cA 8 (by omega)).1; have f8 := (cA 8 (by omega)).2
 have s9 := (cA 9 (by omega)).1; have f9 := (cA 9 (by omega)).2
 have s10 := (cA 10 (by omega)).1; have f10 := (cA 10 (by omega)).2
 have s11 := (cA 11 (by omega)).1; have f11 := (cA 11 (by omega)).2
 have s12 := (cA 12 (by omega)).1; have f12 := (cA 12 (by omega)).2
 have s13 := (cA 13 (by omega)).1; have f13 := (cA 13 (by omega)).2
 simp only [List.getElem?_toArray, List.getElem?_cons_succ, List.getElem?_cons_zero] at s0 s1 s2 s3 s4 s5 s6 s7 s8 s9 s10 s11 s12 s13
 clear cA BA
 refine lstore (w' := ((((((((((((((WA.setCell ⟨b, 0, none⟩ (zi ((S1 t).up : Int))).setCell ⟨b, 1, none⟩ (zi ((S1 t).l : Int))).setCell ⟨b, 2, none⟩ (zi ((S1 t).r : Int))).setCell ⟨b, 3, none⟩ (.bool (S1 t).tn)).setCell ⟨b, 4, none⟩ (zi (S1 t).wt)).setCell ⟨b, 5, none⟩ (zi (S1 t).wa)).setCell ⟨b, 6, none⟩ (zi (S1 t).sm.c)).setCell ⟨b, 7, none⟩ (zi (S1 t).sm.s)).setCell ⟨b, 8, none⟩ (zi (S1 t).sm.a)).setCell ⟨b, 9, none⟩ (zi (S1 t).sm.b)).setCell ⟨b, 10, none⟩ (zi (S1 t).hg.c)).setCell ⟨b, 11, none⟩ (zi (S1 t).hg.w)).setCell ⟨b, 12, none⟩ (zi (S1 t).hu.c)).setCell ⟨b, 13, none⟩ (zi (S1 t).hu.w))) K22 rfl (want_none rfl) (fun ev E => ?_) ?_
 ·have E8 := E.tmp 8 _ rfl; have E23 := E.tmp 23 _ rfl; clear E; clear PH KP LH HT HI L1 X1 HBG BAH; go_simp
 clear s0 s1 s2 s3 s4 s5 s6 s7 s8 s9 s10 s11 s12 s13 f0 f1 f2 f3 f4 f5 f6 f7 f8 f9 f10 f11 f12 f13
 have BA := unhide BAH
 have B0 := heap_setCell_same WA b 0 _ _ (zi ((S1 t).up : Int)) BA
 have B1 := heap_setCell_same (WA.setCell ⟨b, 0, none⟩ (zi ((S1 t).up : Int))) b 1 _ _ (zi ((S1 t).l : Int)) B0
 have B2 := heap_setCell_same ((WA.setCell ⟨b, 0, none⟩ (zi ((S1 t).up : Int))).setCell ⟨b, 1, none⟩ (zi ((S1 t).l : Int))) b 2 _ _ (zi ((S1 t).r : Int)) B1
 have B3 := heap_setCell_same (((WA.setCell ⟨b, 0, none⟩ (zi ((S1 t).up : Int))).setCell ⟨b, 1, none⟩ (zi ((S1 t).l : Int))).setCell ⟨b, 2, none⟩ (zi ((S1 t).r : Int))) b 3 _ _ (.bool (S1 t).tn) B2
 have B4 := heap_setCell_same ((((WA.setCell ⟨b, 0, none⟩ (zi ((S1 t).up : Int))).setCell ⟨b, 1, none⟩ (zi ((S1 t).l : Int))).setCell ⟨b, 2, none⟩ (zi ((S1 t).r : Int))).setCell ⟨b, 3, none⟩ (.bool (S1 t).tn)) b 4 _ _ (zi (S1 t).wt) B3
 have B5 := heap_setCell_same (((((WA.setCell ⟨b, 0, none⟩ (zi ((S1 t).up : Int))).setCell ⟨b, 1, none⟩ (zi ((S1 t).l : Int))).setCell ⟨b, 2, none⟩ (zi ((S1 t).r : Int))).setCell ⟨b, 3, none⟩ (.bool (S1 t).tn)).setCell ⟨b, 4, none⟩ (zi (S1 t).wt)) b 5 _ _ (zi (S1 t).wa) B4
 have B6 := heap_setCell_same ((((((WA.setCell ⟨b, 0, none⟩ (zi ((S1 t).up : Int))).setCell ⟨b, 1, none⟩ (zi ((S1 t).l : Int))).setCell ⟨b, 2, none⟩ (zi ((S1 t).r : Int))).setCell ⟨b, 3, none⟩ (.bool (S1 t).tn)).setCell ⟨b, 4, none⟩ (zi (S1 t).wt)).setCell ⟨b, 5, none⟩ (zi (S1 t).wa)) b 6 _ _ (zi (S1 t).sm.c) B5
 have B7 := heap_setCell_same (((((((WA.setCell ⟨b, 0, none⟩ (zi ((S1 t).up : Int))).setCell ⟨b, 1, none⟩ (zi ((S1 t).l : Int))).setCell ⟨b, 2, none⟩ (zi ((S1 t).r : Int))).setCell ⟨b, 3, none⟩ (.bool (S1 t).tn)).setCell ⟨b, 4, none⟩ (zi (S1 t).wt)).setCell ⟨b, 5, none⟩ (zi (S1 t).wa)).setCell ⟨b, 6, none⟩ (zi (S1 t).sm.c)) b 7 _ _ (zi (S1 t).sm.s) B6
 have B8 := heap_setCell_same ((((((((WA.setCell ⟨b, 0, none⟩ (zi ((S1 t).up : Int))).setCell ⟨b, 1, none⟩ (zi ((S1 t).l : Int))).setCell ⟨b, 2, none⟩ (zi ((S1 t).r : Int))).setCell ⟨b, 3, none⟩ (.bool (S1 t).tn)).setCell ⟨b, 4, none⟩ (zi (S1 t).wt)).setCell ⟨b, 5, none⟩ (zi (S1 t).wa)).setCell ⟨b, 6, none⟩ (zi (S1 t).sm.c)).setCell ⟨b, 7, none⟩ (zi (S1 t).sm.s)) b 8 _ _ (zi (S1 t).sm.a) B7
 have B9 := heap_setCell_same (((((((((WA.setCell ⟨b, 0, none⟩ (zi ((S1 t).up : Int))).setCell ⟨b, 1, none⟩ (zi ((S1 t).l : Int))).setCell ⟨b, 2, none⟩ (zi ((S1 t).r : Int))).setCell ⟨b, 3, none⟩ (.bool (S1 t).tn)).setCell ⟨b, 4, none⟩ (zi (S1 t).wt)).setCell ⟨b, 5, none⟩ (zi (S1 t).wa)).setCell ⟨b, 6, none⟩ (zi (S1 t).sm.c)).setCell ⟨b, 7, none⟩ (zi (S1 t).sm.s)).setCell ⟨b, 8, none⟩ (zi (S1 t).sm.a)) b 9 _ _ (zi (S1 t).sm.b) B8
 have B10 := heap_setCell_same ((((((((((WA.setCell ⟨b, 0, none⟩ (zi ((S1 t).up : Int))).setCell ⟨b, 1, none⟩ (zi ((S1 t).l : Int))).setCell ⟨b, 2, none⟩ (zi ((S1 t).r : Int))).setCell ⟨b, 3, none⟩ (.bool (S1 t).tn)).setCell ⟨b, 4, none⟩ (zi (S1 t).wt)).setCell ⟨b, 5, none⟩ (zi (S1 t).wa)).setCell ⟨b, 6, none⟩ (zi (S1 t).sm.c)).setCell ⟨b, 7, none⟩ (zi (S1 t).sm.s)).setCell ⟨b, 8, none⟩ (zi (S1 t).sm.a)).setCell ⟨b, 9, none⟩ (zi (S1 t).sm.b)) b 10 _ _ (zi (S1 t).hg.c) B9
 have B11 := heap_setCell_same (((((((((((WA.setCell ⟨b, 0, none⟩ (zi ((S1 t).up : Int))).setCell ⟨b, 1, none⟩ (zi ((S1 t).l : Int))).setCell ⟨b, 2, none⟩ (zi ((S1 t).r : Int))).setCell ⟨b, 3, none⟩ (.bool (S1 t).tn)).setCell ⟨b, 4, none⟩ (zi (S1 t).wt)).setCell ⟨b, 5, none⟩ (zi (S1 t).wa)).setCell ⟨b, 6, none⟩ (zi (S1 t).sm.c)).setCell ⟨b, 7, none⟩ (zi (S1 t).sm.s)).setCell ⟨b, 8, none⟩ (zi (S1 t).sm.a)).setCell ⟨b, 9, none⟩ (zi (S1 t).sm.b)).setCell ⟨b, 10, none⟩ (zi (S1 t).hg.c)) b 11 _ _ (zi (S1 t).hg.w) B10
 have B12 := heap_setCell_same ((((((((((((WA.setCell ⟨b, 0, none⟩ (zi ((S1 t).up : Int))).setCell ⟨b, 1, none⟩ (zi ((S1 t).l : Int))).setCell ⟨b, 2, none⟩ (zi ((S1 t).r : Int))).setCell ⟨b, 3, none⟩ (.bool (S1 t).tn)).setCell ⟨b, 4, none⟩ (zi (S1 t).wt)).setCell ⟨b, 5, none⟩ (zi (S1 t).wa)).setCell ⟨b, 6, none⟩ (zi (S1 t).sm.c)).setCell ⟨b, 7, none⟩ (zi (S1 t).sm.s)).setCell ⟨b, 8, none⟩ (zi (S1 t).sm.a)).setCell ⟨b, 9, none⟩ (zi (S1 t).sm.b)).setCell ⟨b, 10, none⟩ (zi (S1 t).hg.c)).setCell ⟨b, 11, none⟩ (zi (S1 t).hg.w)) b 12 _ _ (zi (S1 t).hu.c) B11
 have B13 := heap_setCell_same (((((((((((((WA.setCell ⟨b, 0, none⟩ (zi ((S1 t).up : Int))).setCell ⟨b, 1, none⟩ (zi ((S1 t).l : Int))).setCell ⟨b, 2, none⟩ (zi ((S1 t).r : Int))).setCell ⟨b, 3, none⟩ (.bool (S1 t).tn)).setCell ⟨b, 4, none⟩ (zi (S1 t).wt)).setCell ⟨b, 5, none⟩ (zi (S1 t).wa)).setCell ⟨b, 6, none⟩ (zi (S1 t).sm.c)).setCell ⟨b, 7, none⟩ (zi (S1 t).sm.s)).setCell ⟨b, 8, none⟩ (zi (S1 t).sm.a)).setCell ⟨b, 9, none⟩ (zi (S1 t).sm.b)).setCell ⟨b, 10, none⟩ (zi (S1 t).hg.c)).setCell ⟨b, 11, none⟩ (zi (S1 t).hg.w)).setCell ⟨b, 12, none⟩ (zi (S1 t).hu.c)) b 13 _ _ (zi (S1 t).hu.w) B12
 have gb : g ≠ b /\ p ≠ b := ⟨by have := (unhide HBG).1; omega, by have := (unhide HBG).1; omega⟩
 have CC : ((((((((((((((WA.setCell ⟨b, 0, none⟩ (zi ((S1 t).up : Int))).setCell ⟨b, 1, none⟩ (zi ((S1 t).l : Int))).setCell ⟨b, 2, none⟩ (zi ((S1 t).r : Int))).setCell ⟨b, 3, none⟩ (.bool (S1 t).tn)).setCell ⟨b, 4, none⟩ (zi (S1 t).wt)).setCell ⟨b, 5, none⟩ (zi (S1 t).wa)).setCell ⟨b, 6, none⟩ (zi (S1 t).sm.c)).setCell ⟨b, 7, none⟩ (zi (S1 t).sm.s)).setCell ⟨b, 8, none⟩ (zi (S1 t).sm.a)).setCell ⟨b, 9, none⟩ (zi (S1 t).sm.b)).setCell ⟨b, 10, none⟩ (zi (S1 t).hg.c)).setCell ⟨b, 11, none⟩ (zi (S1 t).hg.w)).setCell ⟨b, 12, none⟩ (zi (S1 t).hu.c)).setCell ⟨b, 13, none⟩ (zi (S1 t).hu.w)).cell? ⟨b, 4, none⟩ = some (zi (S1 t).wt) /\ ((((((((((((((WA.setCell ⟨b, 0, none⟩ (zi ((S1 t).up : Int))).setCell ⟨b, 1, none⟩ (zi ((S1 t).l : Int))).setCell ⟨b, 2, none⟩ (zi ((S1 t).r : Int))).setCell ⟨b, 3, none⟩ (.bool (S1 t).tn)).setCell ⟨b, 4, none⟩ (zi (S1 t).wt)).setCell ⟨b, 5, none⟩ (zi (S1 t).wa)).setCell ⟨b, 6, none⟩ (zi (S1 t).sm.c)).setCell ⟨b, 7, none⟩ (zi (S1 t).sm.s)).setCell ⟨b, 8, none⟩ (zi (S1 t).sm.a)).setCell ⟨b, 9, none⟩ (zi (S1 t).sm.b)).setCell ⟨b, 10, none⟩ (zi (S1 t).hg.c)).setCell ⟨b, 11, none⟩ (zi (S1 t).hg.w)).setCell ⟨b, 12, none⟩ (zi (S1 t).hu.c)).setCell ⟨b, 13, none⟩ (zi (S1 t).hu.w)).cell? ⟨b, 10, none⟩ = some (zi (S1 t).hg.c) /\ ((((((((((((((WA.setCell ⟨b, 0, none⟩ (zi ((S1 t).up : Int))).setCell ⟨b, 1, none⟩ (zi ((S1 t).l : Int))).setCell ⟨b, 2, none⟩ (zi ((S1 t).r : Int))).setCell ⟨b, 3, none⟩ (.bool (S1 t).tn)).setCell ⟨b, 4, none⟩ (zi (S1 t).wt)).setCell ⟨b, 5, none⟩ (zi (S1 t).wa)).setCell ⟨b, 6, none⟩ (zi (S1 t).sm.c)).setCell ⟨b, 7, none⟩ (zi (S1 t).sm.s)).setCell ⟨b, 8, none⟩ (zi (S1 t).sm.a)).setCell ⟨b, 9, none⟩ (zi (S1 t).sm.b)).setCell ⟨b, 10, none⟩ (zi (S1 t).hg.c)).setCell ⟨b, 11, none⟩ (zi (S1 t).hg.w)).setCell ⟨b, 12, none⟩ (zi (S1 t).hu.c)).setCell ⟨b, 13, none⟩ (zi (S1 t).hu.w)).cell? ⟨b, 11, none⟩ = some (zi (S1 t).hg.w) := by
  refine ⟨?_, ?_, ?_⟩ <;> simp [World.cell?, B13]
 have KB : Keep [b] WA ((((((((((((((WA.setCell ⟨b, 0, none⟩ (zi ((S1 t).up : Int))).setCell ⟨b, 1, none⟩ (zi ((S1 t).l : Int))).setCell ⟨b, 2, none⟩ (zi ((S1 t).r : Int))).setCell ⟨b, 3, none⟩ (.bool (S1 t).tn)).setCell ⟨b, 4, none⟩ (zi (S1 t).wt)).setCell ⟨b, 5, none⟩ (zi (S1 t).wa)).setCell ⟨b, 6, none⟩ (zi (S1 t).sm.c)).setCell ⟨b, 7, none⟩ (zi (S1 t).sm.s)).setCell ⟨b, 8, none⟩ (zi (S1 t).sm.a)).setCell ⟨b, 9, none⟩ (zi (S1 t).sm.b)).setCell ⟨b, 10, none⟩ (zi (S1 t).hg.c)).setCell ⟨b, 11, none⟩ (zi (S1 t).hg.w)).setCell ⟨b, 12, none⟩ (zi (S1 t).hu.c)).setCell ⟨b, 13, none⟩ (zi (S1 t).hu.w)) := (((((((((((((((Keep.refl [b] WA).cellB (0) (zi ((S1 t).up : Int))).cellB (1) (zi ((S1 t).l : Int))).cellB (2) (zi ((S1 t).r : Int))).cellB (3) (.bool (S1 t).tn)).cellB (4) (zi (S1 t).wt)).cellB (5) (zi (S1 t).wa)).cellB (6) (zi (S1 t).sm.c)).cellB (7) (zi (S1 t).sm.s)).cellB (8) (zi (S1 t).sm.a)).cellB (9) (zi (S1 t).sm.b)).cellB (10) (zi (S1 t).hg.c)).cellB (11) (zi (S1 t).hg.w)).cellB (12) (zi (S1 t).hu.c)).cellB (13) (zi (S1 t).hu.w))
 have PB1 := (unhide PH).keep KB (by simp; exact gb.2) (by simp; exact gb.1)
 have KB1 : Keep [g] w ((((((((((((((WA.setCell ⟨b, 0, none⟩ (zi ((S1 t).up : Int))).setCell ⟨b, 1, none⟩ (zi ((S1 t).l : Int))).setCell ⟨b, 2, none⟩ (zi ((S1 t).r : Int))).setCell ⟨b, 3, none⟩ (.bool (S1 t).tn)).setCell ⟨b, 4, none⟩ (zi (S1 t).wt)).setCell ⟨b, 5, none⟩ (zi (S1 t).wa)).setCell ⟨b, 6, none⟩ (zi (S1 t).sm.c)).setCell ⟨b, 7, none⟩ (zi (S1 t).sm.s)).setCell ⟨b, 8, none⟩ (zi (S1 t).sm.a)).setCell ⟨b, 9, none⟩ (zi (S1 t).sm.b)).setCell ⟨b, 10, none⟩ (zi (S1 t).hg.c)).setCell ⟨b, 11, none⟩ (zi (S1 t).hg.w)).setCell ⟨b, 12, none⟩ (zi (S1 t).hu.c)).setCell ⟨b, 13, none⟩ (zi (S1 t).hu.w)) := (unhide KP).trans KB (fun i hi => by simp at hi; right; rw [hi]; exact (unhide HBG).2)
 clear KP PH BA BAH KB gb B0 B1 B2 B3 B4 B5 B6 B7 B8 B9 B10 B11 B12 B13
 generalize ((((((((((((((WA.setCell ⟨b, 0, none⟩ (zi ((S1 t).up : Int))).setCell ⟨b, 1, none⟩ (zi ((S1 t).l : Int))).setCell ⟨b, 2, none⟩ (zi ((S1 t).r : Int))).setCell ⟨b, 3, none⟩ (.bool (S1 t).tn)).setCell ⟨b, 4, none⟩ (zi (S1 t).wt)).setCell ⟨b, 5, none⟩ (zi (S1 t).wa)).setCell ⟨b, 6, none⟩ (zi (S1 t).sm.c)).setCell ⟨b, 7, none⟩ (zi (S1 t).sm.s)).setCell ⟨b, 8, none⟩ (zi (S1 t).sm.a)).setCell ⟨b, 9, none⟩ (zi (S1 t).sm.b)).setCell ⟨b, 10, none⟩ (zi (S1 t).hg.c)).setCell ⟨b, 11, none⟩ (zi (S1 t).hg.w)).setCell ⟨b, 12, none⟩ (zi (S1 t).hu.c)).setCell ⟨b, 13, none⟩ (zi (S1 t).hu.w)) = WB at *
 have PH := hide PB1
 have KP := hide KB1
 have HC := hide CC
 clear PB1 KB1 CC
 refine nilN ?_
 refine seqN ?_
 have hS : (fun w' : World => Pool w' p g n cap room S1 /\ Keep [g] w w' /\ w'.cell? ⟨b, 4, none⟩ = some (zi (S1 t).wt) /\ w'.cell? ⟨b, 10, none⟩ = some (zi (S1 t).hg.c) /\ w'.cell? ⟨b, 11, none⟩ = some (zi (S1 t).hg.w)) WB.drew := ⟨(unhide PH).drew, (unhide KP).drew, (unhide HC).1, (unhide HC).2.1, (unhide HC).2.2⟩
 have bz := L1.bz t
 have z1 := bz.gc; have z2 := bz.gw; have z3 := bz.wt
 have w1 : IntKind.i64.wrap ((S1 t).hg.c + 1) = (S1 t).hg.c + 1 := IntWalk.i64_in _ (by omega)
 have w2 : IntKind.i64.wrap ((S1 t).hg.w + (S1 t).wt) = (S1 t).hg.w + (S1 t).wt := IntWalk.i64_in _ (by omega)
 clear bz z1 z2 z3 PH KP
 show (Code.region 6 OPS33_6.toArray true).wp _ _ _ _
 refine wp_region_held_drew (S := (fun w' : World => Pool w' p g n cap room S1 /\ Keep [g] w w' /\ w'.cell? ⟨b, 4, none⟩ = some (zi (S1 t).wt) /\ w'.cell? ⟨b, 10, none⟩ = some (zi (S1 t).hg.c) /\ w'.cell? ⟨b, 11, none⟩ = some (zi (S1 t).hg.w))) (by kernel_rfl) hS (fun hS => ?_)
 rw [show (OPS33_6.toArray).size = 13 from by kernel_rfl]
 refine dT 0 O33_6_0 (zp b 10) K22 (fun _ _ _ _ h => h) NS33_6 (want_none rfl) (fun ev E w9 hSw => ?_) hS fun a24 K24 => ?_
 ·clear hSw; have E8 := E.tmp 8 _ rfl; clear E; unfold O33_6_0; clear hS LH HT HI L1 X1 HBG HC; go_simp
 clear K22
 refine dT 1 O33_6_1 (zp b 10) K24 (fun _ _ _ _ h => h) NS33_6 (want_none rfl) (fun ev E w9 hSw => ?_) hS fun a25 K25 => ?_
 ·clear hSw; have E24 := E.tmp 24 _ rfl; clear E; unfold O33_6_1; clear hS LH HT HI L1 X1 HBG HC; go_simp
 clear K24
 refine dT 2 O33_6_2 (zi (S1 t).hg.c) K25 (fun _ _ _ _ h => h) NS33_6 (want_none rfl) (fun ev E w9 hSw => ?_) hS fun a26 K26 => ?_
 ·obtain ⟨_, _, q1, q2, q3⟩ := hSw; have E25 := E.tmp 25 _ rfl; clear E; unfold O33_6_2; clear hS LH HT HI L1 X1 HBG HC; go_simp
 clear K25
 refine dT 3 O33_6_3 (zi ((S1 t).hg.c + 1)) K26 (fun _ _ _ _ h => h) NS33_6 (want_none rfl) (fun ev E w9 hSw => ?_) hS fun a27 K27 => ?_
 ·clear hSw; have EC := E.const; have E26 := E.tmp 26 _ rfl; clear E; unfold O33_6_3; clear hS LH HT HI L1 X1 HBG HC; go_simp
 clear K26
 refine dT 4 O33_6_4 (zp b 10) K27 (fun _ _ _ _ h => h) NS33_6 (want_none rfl) (fun ev E w9 hSw => ?_) hS fun a28 K28 => ?_
 ·clear hSw; have E8 := E.tmp 8 _ rfl; clear E; unfold O33_6_4; clear hS LH HT HI L1 X1 HBG HC; go_simp
 clear K27
 refine dT 5 O33_6_5 (zp b 11) K28 (fun _ _ _ _ h => h) NS33_6 (want_none rfl) (fun ev E w9 hSw => ?_) hS fun a29 K29 => ?_
 ·clear hSw; have E28 := E.tmp 28 _ rfl; clear E; unfold O33_6_5; clear hS LH HT HI L1 X1 HBG HC; go_simp
 clear K28
 refine dT 6 O33_6_6 (zi (S1 t).hg.w) K29 (fun _ _ _ _ h => h) NS33_6 (want_none rfl) (fun ev E w9 hSw => ?_) hS fun a30 K30 => ?_
 ·obtain ⟨_, _, q1, q2, q3⟩ := hSw; have E29 := E.tmp 29 _ rfl; clear E; unfold O33_6_6; clear hS LH HT HI L1 X1 HBG HC; go_simp
 clear K29
 refine dT 7 O33_6_7 (zp b 4) K30 (fun _ _ _ _ h => h) NS33_6 (want_none rfl) (fun ev E w9 hSw => ?_) hS fun a31 K31 => ?_
 ·clear hSw; have E8 := E.tmp 8 _ rfl; clear E; unfold O33_6_7; clear hS LH HT HI L1 X1 HBG HC; go_simp
 clear K30
 refine dT 8 O33_6_8 (zi (S1 t).wt) K31 (fun _ _ _ _ h => h) NS33_6 (want_none rfl) (fun ev E w9 hSw => ?_) hS fun a32 K32 => ?_
 ·obtain ⟨_, _, q1, q2, q3⟩ := hSw; have E31 := E.tmp 31 _ rfl; clear E; unfold O33_6_8; clear hS LH HT HI L1 X1 HBG HC; go_simp
 clear K31
 refine dT 9 O33_6_9 (zi ((S1 t).hg.w + (S1 t).wt)) K32 (fun _ _ _ _ h => h) NS33_6 (want_none rfl) (fun ev E w9 hSw => ?_) hS fun a33 K33 => ?_
 ·clear hSw; have E30 := E.tmp 30 _ rfl; have E32 := E.tmp 32 _ rfl; clear E; unfold O33_6_9; clear hS LH HT HI L1 X1 HBG HC; go_simp
 clear K32
 refine dT 10 O33_6_10 (zi ((S1 t).hg.c + 1)) K33 (fun _ _ _ _ h => h) NS33_6 (want_none rfl) (fun ev E w9 hSw => ?_) hS fun a34 K34 => ?_
 ·clear hSw; have E27 := E.tmp 27 _ rfl; clear E; unfold O33_6_10; clear hS LH HT HI L1 X1 HBG HC; go_simp
 clear K33
 refine dT 11 O33_6_11 (zi ((S1 t).hg.w + (S1 t).wt)) K34 (fun _ _ _ _ h => h) NS33_6 (want_none rfl) (fun ev E w9 hSw => ?_) hS fun a35 K35 => ?_
 ·clear hSw; have E33 := E.tmp 33 _ rfl; clear E; unfold O33_6_11; clear hS LH HT HI L1 X1 HBG HC; go_simp
 clear K34
 refine dT 12 O33_6_12 (.bool true) K35 (fun _ _ _ _ h => h) NS33_6 (want_none rfl) (fun ev E w9 hSw => ?_) hS fun a36 K36 => ?_
 ·clear hSw; have EC := E.const; clear E; unfold O33_6_12; clear hS LH HT HI L1 X1 HBG HC; go_simp
 clear K35
 refine wpAnyH_done (by kernel_rfl) ?_ _
 show Code.wp _ _ _ _ _
 refine wp_ret ?_
 have Lt := L1.loc t (unhide HT)
 have g1 := Lt.hgc
 have g2 := Lt.hgw
 have g3 := Lt.wt
 rw [X1.pn0, Dc_zero L1.wf] at g1
 rw [X1.pn0, Dw_zero L1.wf] at g2
 rw [(Lt.tp X1.top).a] at g3
 have d1 : Dc T t = (S1 t).hg.c + 1 := by omega
 have d2 : Dw T t = (S1 t).hg.w + (S1 t).wt := by omega
 refine bodyPost_ret (v := .tuple #[zi ((S1 t).hg.c + 1), zi ((S1 t).hg.w + (S1 t).wt), .bool true]) ?_ K36.defers ⟨by rw [d1, d2], hS.2.1, S1, G1, hS.1, L1⟩
 have e4 := K36.has 4 _ rfl
 have e5 := K36.has 5 _ rfl
 have e6 := K36.has 6 _ rfl
 simp [results, Try.results33, go_sem, e4, e5, e6]
theorem rootLit {p g n cap room : Nat} {T : Tr} {S : Ss} {G : Gh} {w : World} {i t r : Nat} (h : Pool w p g n cap room S) (L : Lc S n T G) (hi : Th T t) (hit : t = i + 1) (hr : T.rootI (i : Int) = (r : Int)) :
  Calls Try.prog 39 #[zp p 0, zi i] w fun e w' => e = .returned (zi r) /\ Keep [g] w w' /\ ∃ S1 G1, Pool w' p g n cap room S1 /\ Lc S1 n T G1 := by
 have q := rootY h L hi hit
 rw [hr] at q; exact q
theorem rootAll {p g n cap room : Nat} {T : Tr} {S : Ss} {G : Gh} {w : World} (h : Pool w p g n cap room S) (L : Lc S n T G) (x : Int) :
  Calls Try.prog 39 #[zp p 0, zi x] w fun e w' => e = .returned (zi (T.rootI x)) /\ Keep [g] w w' /\ ∃ S1 G1, Pool w' p g n cap room S1 /\ Lc S1 n T G1 := by
 rcases hasI_cases T x with ⟨i, rfl, hi, _⟩ | hx
 ·exact rootY h L hi rfl
 ·refine (rootN h L hx).mono ?_
  rintro e w' ⟨rfl, q1, q2⟩
  exact ⟨by rw [Tr.rootI_gone hx], q1, S, G, q2, L⟩
theorem canK {p g n cap room : Nat} {S : Ss} {w : World} (h : Pool w p g n cap room S) {c s a b d : Int} {v : Bool} (hv : (addB a d && addB b d) = v) :
  Calls Try.prog 65 #[.agg #[zi c, zi s, zi a, zi b], zi d] w fun e w' => e = .returned (.bool v) /\ Keep [g] w w' /\ Pool w' p g n cap room S := by
 refine (canRise_any c s a b d w).mono ?_
 rintro e w' ⟨rfl, hb⟩
 rw [hv]
 exact ⟨rfl, Keep.ofBelow hb _, h.below hb⟩
theorem evert_raise (T : Tr) (l : List Nat) (d : Int) (r : Nat) : (T.raise l d).evert r = (T.evert r).raise l d := rfl
theorem root_back {T : Tr} (W : T.Wf) {i r : Nat} (hi : T.par i ≠ -2) (hr : T.rootI (i : Int) = (r : Int)) : T.par r ≠ -2 /\ (T.evert i).evert r = T := by
 obtain ⟨r', e, e2, e3⟩ := W.rootI_in hi
 obtain rfl : r = r' := by omega
 refine ⟨W.there' e3, evert_back W hi (mem_U1.2 e3) ?_⟩
 unfold ps; simp [e2]
set_option maxHeartbeats 4000000 in
theorem pathAddN {p g n cap room : Nat} {T : Tr} {S : Ss} {G : Gh} {w : World} {i j t u r : Nat} {d : Int} (h : Pool w p g n cap room S) (L : Lc S n T G) (hi : Th T t) (hit : t = i + 1) (hj : Th T u) (hju : u = j + 1) (hs : T.sameI (i : Int) (j : Int) = true) (hr : T.rootI (i : Int) = (r : Int)) (hc : (addB (ofL (((T.evert i).up j).map T.wt)).a d && addB (ofL (((T.evert i).up j).map T.wt)).b d) = false) :
  Calls Try.prog 29 #[zp p 0, zi i, zi j, zi d] w fun e w' => e = .returned (.bool false) /\ Keep [g] w w' /\ ∃ S1 G1, Pool w' p g n cap room S1 /\ Lc S1 n T G1 := by
 have PH := hide h
 have KP := hide (Keep.refl [g] w)
 have LH := hide L
 clear h L
 have lt1 := (unhide LH).lt t hi
 have e1 : (0 : Int) <= (t : Int) := by omega
 have e2 : (t : Int) < (n : Int) := by omega
 have t1 := hi.1
 have e5 : ¬ (t : Int) = 0 := by omega
 have e6 : ¬ t = 0 := by omega
 have HT := hide hi
 have HI := hide hit
 clear hi hit t1
 have lt2 := (unhide LH).lt u hj
 have e3 : (0 : Int) <= (u : Int) := by omega
 have e4 : (u : Int) < (n : Int) := by omega
 have HU := hide hj
 have HJ := hide hju
 clear hj hju
 have HSM := hide hs
 have HR := hide hr
 have HC := hide hc
 clear hs hr hc
 go_enter Try.func29, Try.ntmps29
 go_wp2_with fail
 refine (rootLit (unhide PH) (unhide LH) (unhide HT) (unhide HI) (unhide HR)).mono ?_
 rintro e W1 ⟨rfl, Q1, S1, G1, P1, L1⟩
 have Q2 := hide ((unhide KP).tr Q1)
 clear PH KP Q1
 have PH := hide P1
 have KP := Q2
 clear Q2 P1
 go_wp2_with fail
 refine (wayY (unhide PH) L1 (unhide HT) (unhide HI) (unhide HU) (unhide HJ) (unhide HSM)).mono ?_
 rintro e W2 ⟨rfl, Q1, S2, G2, P1, E2⟩
 have Q2 := hide ((unhide KP).tr Q1)
 clear PH KP Q1
 have PH := hide P1
 have KP := Q2
 clear Q2 P1
 have HE := hide E2
 have hsum := E2.sum
 rw [show u - 1 = j by have := unhide HJ; omega] at hsum
 have hcan2 : (addB (S2 u).sm.a d && addB (S2 u).sm.b d) = false := by rw [hsum]; exact unhide HC
 have HC2 := hide hcan2
 clear hcan2 E2 hsum
 have e7 : ¬ (u : Int) = 0 := by have := (unhide HU).1; omega
 have e8 : ¬ u = 0 := by have := (unhide HU).1; omega
 obtain ⟨c0, c1, _⟩ := (unhide PH).head
 obtain ⟨_, _, _, _, _, _, z1_6, z1_7, z1_8, z1_9, _⟩ := (unhide PH).slot (t := u) (by assumption)
 go_wp2_with fail
 refine (canK (unhide PH) (unhide HC2)).mono ?_
 rintro e W3 ⟨rfl, Q1, P1⟩
 clear c0 c1 z1_6 z1_7 z1_8 z1_9
 have Q2 := hide ((unhide KP).tr Q1)
 clear PH KP Q1
 have PH := hide P1
 have KP := Q2
 clear Q2 P1
 have rb := root_back (unhide LH).wf (i := i) (by have q := (unhide HT).2; rw [unhide HI] at q; simpa using q) (unhide HR)
 have ht0 : T.par i ≠ -2 := by have q := (unhide HT).2; rw [unhide HI] at q; simpa using q
 go_wp2_with fail
 refine (evertY (i := r) (t := r + 1) (unhide PH) (unhide HE).lc ((th_evert (unhide LH).wf ht0).2 ⟨by omega, by simpa using rb.1⟩) rfl).mono ?_
 rintro e W4 ⟨rfl, Q1, S9, G9, P1, L9⟩
 have Q2 := hide ((unhide KP).tr Q1)
 clear PH KP Q1
 have PH := hide P1
 have KP := Q2
 clear Q2 P1
 rw [rb.2] at L9
 go_wp2
 refine bodyPost_ret (v := .bool false) (by simp [results, Try.results29, go_sem, *]) rfl ⟨rfl, unhide KP, S9, G9, unhide PH, L9⟩
set_option maxHeartbeats 4000000 in
theorem pathAddY {p g n cap room : Nat} {T : Tr} {S : Ss} {G : Gh} {w : World} {i j t u r : Nat} {d : Int} (h : Pool w p g n cap room S) (L : Lc S n T G) (hi : Th T t) (hit : t = i + 1) (hj : Th T u) (hju : u = j + 1) (hs : T.sameI (i : Int) (j : Int) = true) (hr : T.rootI (i : Int) = (r : Int)) (hc : (addB (ofL (((T.evert i).up j).map T.wt)).a d && addB (ofL (((T.evert i).up j).map T.wt)).b d) = true) :
  Calls Try.prog 29 #[zp p 0, zi i, zi j, zi d] w fun e w' => e = .returned (.bool true) /\ Keep [g] w w' /\ ∃ S1 G1, Pool w' p g n cap room S1 /\ Lc S1 n (T.raise ((T.evert i).up j) d) G1 := by
 have PH := hide h
 have KP := hide (Keep.refl [g] w)
 have LH := hide L
 clear h L
 have lt1 := (unhide LH).lt t hi
 have e1 : (0 : Int) <= (t : Int) := by omega
 have e2 : (t : Int) < (n : Int) := by omega
 have t1 := hi.1
 have e5 : ¬ (t : Int) = 0 := by omega
 have e6 : ¬ t = 0 := by omega
 have HT := hide hi
 have HI := hide hit
 clear hi hit t1
 have lt2 := (unhide LH).lt u hj
 have e3 : (0 : Int) <= (u : Int) := by omega
 have e4 : (u : Int) < (n : Int) := by omega
 have HU := hide hj
 have HJ := hide hju
 clear hj hju
 have HSM := hide hs
 have HR := hide hr
 have HC := hide hc
 clear hs hr hc
 go_enter Try.func29, Try.ntmps29
 go_wp2_with fail
 refine (rootLit (unhide PH) (unhide LH) (unhide HT) (unhide HI) (unhide HR)).mono ?_
 rintro e W1 ⟨rfl, Q1, S1, G1, P1, L1⟩
 have Q2 := hide ((unhide KP).tr Q1)
 clear PH KP Q1
 have PH := hide P1
 have KP := Q2
 clear Q2 P1
 go_wp2_with fail
 refine (wayY (unhide PH) L1 (unhide HT) (unhide HI) (unhide HU) (unhide HJ) (unhide HSM)).mono ?_
 rintro e W2 ⟨rfl, Q1, S2, G2, P1, E2⟩
 have Q2 := hide ((unhide KP).tr Q1)
 clear PH KP Q1
 have PH := hide P1
 have KP := Q2
 clear Q2 P1
 have HE := hide E2
 have hsum := E2.sum
 rw [show u - 1 = j by have := unhide HJ; omega] at hsum
 have hcan2 : (addB (S2 u).sm.a d && addB (S2 u).sm.b d) = true := by rw [hsum]; exact unhide HC
 have HC2 := hide hcan2
 clear hcan2 E2 hsum
 have e7 : ¬ (u : Int) = 0 := by have := (unhide HU).1; omega
 have e8 : ¬ u = 0 := by have := (unhide HU).1; omega
 obtain ⟨c0, c1, _⟩ := (unhide PH).head
 obtain ⟨_, _, _, _, _, _, z1_6, z1_7, z1_8, z1_9, _⟩ := (unhide PH).slot (t := u) (by assumption)
 go_wp2_with fail
 refine (canK (unhide PH) (unhide HC2)).mono ?_
 rintro e W3 ⟨rfl, Q1, P1⟩
 clear c0 c1 z1_6 z1_7 z1_8 z1_9
 have Q2 := hide ((unhide KP).tr Q1)
 clear PH KP Q1
 have PH := hide P1
 have KP := Q2
 clear Q2 P1
 have hbb := unhide HC2
 simp only [addB, Bool.and_eq_true] at hbb
 have hr1 : -1099511627776 <= (S2 u).sm.a + d := by have := hbb.1.2; simp [fitB] at this; omega
 have hr2 : (S2 u).sm.b + d <= 1099511627776 := by have := hbb.2.2; simp [fitB] at this; omega
 obtain ⟨L3, R3⟩ := (unhide HE).raise (l := (T.evert i).up j) (fun x => by rw [unhide HJ]; exact mem_U1.symm) hr1 hr2
 have HLR := hide (And.intro L3 R3)
 clear hbb hr1 hr2 L3 R3
 go_wp2_with fail
 refine (raise_any (unhide PH) lt2 (fun _ => (unhide HLR).2)).mono ?_
 rintro e W4 ⟨rfl, P1, Q1⟩
 have Q2 := hide ((unhide KP).tr Q1)
 clear PH KP Q1
 have PH := hide P1
 have KP := Q2
 clear Q2 P1
 have rb := root_back (unhide LH).wf (i := i) (by have q := (unhide HT).2; rw [unhide HI] at q; simpa using q) (unhide HR)
 have ht0 : T.par i ≠ -2 := by have q := (unhide HT).2; rw [unhide HI] at q; simpa using q
 go_wp2_with fail
 refine (evertY (i := r) (t := r + 1) (unhide PH) (unhide HLR).1 (show Th ((T.evert i).raise ((T.evert i).up j) d) (r + 1) from (th_evert (unhide LH).wf ht0).2 ⟨by omega, by simpa using rb.1⟩) rfl).mono ?_
 rintro e W5 ⟨rfl, Q1, S9, G9, P1, L9⟩
 have Q2 := hide ((unhide KP).tr Q1)
 clear PH KP Q1
 have PH := hide P1
 have KP := Q2
 clear Q2 P1
 rw [evert_raise, rb.2] at L9
 go_wp2
 refine bodyPost_ret (v := .bool true) (by simp [results, Try.results29, go_sem, *]) rfl ⟨rfl, unhide KP, S9, G9, unhide PH, L9⟩
set_option maxHeartbeats 4000000 in
theorem pathAddN0 {p g n cap room : Nat} {T : Tr} {S : Ss} {G : Gh} {w : World} {x y d : Int} (h : Pool w p g n cap room S) (L : Lc S n T G) (hs : T.sameI x y = false) :
  Calls Try.prog 29 #[zp p 0, zi x, zi y, zi d] w fun e w' => e = .returned (.bool false) /\ Keep [g] w w' /\ ∃ S1 G1, Pool w' p g n cap room S1 /\ Lc S1 n T G1 := by
 have PH := hide h
 have KP := hide (Keep.refl [g] w)
 have LH := hide L
 clear h L
 go_enter Try.func29, Try.ntmps29
 go_wp2_with fail
 refine (rootAll (unhide PH) (unhide LH) x).mono ?_
 rintro e W1 ⟨rfl, Q1, S1, G1, P1, L1⟩
 have Q2 := hide ((unhide KP).tr Q1)
 clear PH KP Q1
 have PH := hide P1
 have KP := Q2
 clear Q2 P1
 go_wp2_with fail
 refine (wayN (unhide PH) L1 hs).mono ?_
 rintro e W2 ⟨rfl, Q1, S2, G2, P1, L2⟩
 have Q2 := hide ((unhide KP).tr Q1)
 clear PH KP Q1
 have PH := hide P1
 have KP := Q2
 clear Q2 P1
 go_wp2
 refine bodyPost_ret (v := .bool false) (by simp [results, Try.results29, go_sem, *]) rfl ⟨rfl, unhide KP, S2, G2, unhide PH, L2⟩
end Go.Proofs.Ytjnkgakajenoaaa

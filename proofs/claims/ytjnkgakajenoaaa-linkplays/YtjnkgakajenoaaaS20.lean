/- Part 20 of the texts. -/
import Derived.Test.YtjnkgakajenoaaaS1
import Derived.Test.YtjnkgakajenoaaaS18
import Derived.Test.YtjnkgakajenoaaaS19
namespace Go.Proofs.Ytjnkgakajenoaaa
open Go.RowKit Go.Arb
set_option linter.unusedVariables false
set_option linter.unusedSimpArgs false
set_option maxRecDepth 100000
theorem NS12 : Region.noSelect OPS12.toArray = true := by kernel_rfl
def LS12_0 : Array Bool := Array.replicate 14 false
set_option maxHeartbeats 4000000 in
theorem rg12_0 {w : World} {p q b8 : Nat} {T : Tr} {x : Option Addr} {len cap m : Nat} {kd a b c : Int} {NX : Act -> World -> Prop} {a0 : Act} {W : World} (K0 : Kn a0 303 [(1, .slice x len cap), (5, zp p 0), (6, zp q 0), (7, zi m), (8, zp b8 0), (9, .bool false), (10, .bool false)]) (H : Ob2 RfAt w W p q T T [b8]) (X : BoxAt W b8 #[zi kd, zi a, zi b, zi c] 29) (hS : (fun w' : World => w'.cell? ⟨b8, 1, none⟩ = some (zi a) /\ w'.cell? ⟨b8, 2, none⟩ = some (zi b) /\ w'.cell? ⟨b8, 3, none⟩ = some (zi c)) W) (hN : ∀ a' (r : Bool) (T' : Tr) w', Kn a' 303 [(1, .slice x len cap), (5, zp p 0), (6, zp q 0), (7, zi m), (8, zp b8 0), (9, .bool r), (10, .bool r)] -> Ob2 RfAt w w' p q T' T' [b8] -> BoxAt w' b8 #[zi kd, zi a, zi b, zi c] 29 -> NX a' w') :
  wpAnyH Try.prog .any OPS12.toArray (Norm NX) (fun w' : World => w'.cell? ⟨b8, 1, none⟩ = some (zi a) /\ w'.cell? ⟨b8, 2, none⟩ = some (zi b) /\ w'.cell? ⟨b8, 3, none⟩ = some (zi c)) 14 LS12_0 a0 W := by
 have hq : ∀ c a a' w', Norm NX (.panic c) a w' -> Norm NX (.panic c) a' w' := fun _ _ _ _ h => h
 refine dT 0 ⟨some 51, .move (.tmp 5), 23, "law.go:38", #[], none⟩ (zp p 0) K0 hq NS12 (want_none rfl) (fun ev E w9 hSw => ?_) hS fun a1 K1 => ?_
 ·have EC := E.const; have E5 := E.tmp 5 _ rfl; clear E K0 hN hq; clear hSw; go_simp
 refine dT 1 ⟨some 52, .fieldAddr 29 (.tmp 8) 1, 0, "law.go:38", #[], none⟩ (zp b8 1) K1 hq NS12 (want_none rfl) (fun ev E w9 hSw => ?_) hS fun a2 K2 => ?_
 ·have EC := E.const; have E8 := E.tmp 8 _ rfl; clear E K1 hN hq; clear hSw; go_simp
 clear K1
 refine dT 2 ⟨some 53, .load 3 (.tmp 52), 3, "law.go:38", #[⟨1, .data⟩], none⟩ (zi a) K2 hq NS12 (want_none rfl) (fun ev E w9 hSw => ?_) hS fun a3 K3 => ?_
 ·have EC := E.const; have E52 := E.tmp 52 _ rfl; clear E K2 hN hq; obtain ⟨z1, z2, z3⟩ := hSw; go_simp
 clear K2
 refine dT 3 ⟨some 54, .fieldAddr 29 (.tmp 8) 3, 0, "law.go:38", #[], none⟩ (zp b8 3) K3 hq NS12 (want_none rfl) (fun ev E w9 hSw => ?_) hS fun a4 K4 => ?_
 ·have EC := E.const; have E8 := E.tmp 8 _ rfl; clear E K3 hN hq; clear hSw; go_simp
 clear K3
 refine dT 4 ⟨some 55, .load 3 (.tmp 54), 3, "law.go:38", #[⟨3, .data⟩], none⟩ (zi c) K4 hq NS12 (want_none rfl) (fun ev E w9 hSw => ?_) hS fun a5 K5 => ?_
 ·have EC := E.const; have E54 := E.tmp 54 _ rfl; clear E K4 hN hq; obtain ⟨z1, z2, z3⟩ := hSw; go_simp
 clear K4
 refine dT 6 ⟨some 57, .move (.tmp 6), 26, "law.go:38", #[], none⟩ (zp q 0) K5 hq NS12 (want_none rfl) (fun ev E w9 hSw => ?_) hS fun a6 K6 => ?_
 ·have EC := E.const; have E6 := E.tmp 6 _ rfl; clear E K5 hN hq; clear hSw; go_simp
 clear K5
 refine dT 7 ⟨some 58, .fieldAddr 29 (.tmp 8) 1, 0, "law.go:38", #[], none⟩ (zp b8 1) K6 hq NS12 (want_none rfl) (fun ev E w9 hSw => ?_) hS fun a7 K7 => ?_
 ·have EC := E.const; have E8 := E.tmp 8 _ rfl; clear E K6 hN hq; clear hSw; go_simp
 clear K6
 refine dT 8 ⟨some 59, .load 3 (.tmp 58), 3, "law.go:38", #[⟨7, .data⟩], none⟩ (zi a) K7 hq NS12 (want_none rfl) (fun ev E w9 hSw => ?_) hS fun a8 K8 => ?_
 ·have EC := E.const; have E58 := E.tmp 58 _ rfl; clear E K7 hN hq; obtain ⟨z1, z2, z3⟩ := hSw; go_simp
 clear K7
 refine dT 9 ⟨some 60, .fieldAddr 29 (.tmp 8) 3, 0, "law.go:38", #[], none⟩ (zp b8 3) K8 hq NS12 (want_none rfl) (fun ev E w9 hSw => ?_) hS fun a9 K9 => ?_
 ·have EC := E.const; have E8 := E.tmp 8 _ rfl; clear E K8 hN hq; clear hSw; go_simp
 clear K8
 refine dT 10 ⟨some 61, .load 3 (.tmp 60), 3, "law.go:38", #[⟨9, .data⟩], none⟩ (zi c) K9 hq NS12 (want_none rfl) (fun ev E w9 hSw => ?_) hS fun a10 K10 => ?_
 ·have EC := E.const; have E60 := E.tmp 60 _ rfl; clear E K9 hN hq; obtain ⟨z1, z2, z3⟩ := hSw; go_simp
 clear K9
 refine dcall (i := 5) (o := ⟨some 56, .call { callee := (.value (.func 17)), args := #[(.tmp 51), (.tmp 53), (.tmp 55)], argTypes := #[23, 3, 3] }, 4, "law.go:38", #[⟨0, .data⟩, ⟨2, .data⟩, ⟨4, .data⟩], none⟩) (f := 17) (args := #[zp p 0, zi a, zi c]) K10 rfl (by kernel_rfl) rfl rfl (want_none rfl) (fun ev E => ?_) (H.fst Rf.lies fun _ ha => aAdd _ _ ha) (fun e w11 hR => ?_)
 ·have EC := E.const; have EF := E.func; have E51 := E.tmp 51 _ rfl; have E53 := E.tmp 53 _ rfl; have E55 := E.tmp 55 _ rfl; clear E K10 hN hq; go_simp
 obtain ⟨rfl, h6, k6⟩ := hR
 replace X := X.kept k6 (by simp)
 replace H := h6
 clear h6
 replace hS : (fun w' : World => w'.cell? ⟨b8, 1, none⟩ = some (zi a) /\ w'.cell? ⟨b8, 2, none⟩ = some (zi b) /\ w'.cell? ⟨b8, 3, none⟩ = some (zi c)) w11 := ⟨(X.cell (o := 1) rfl).1, (X.cell (o := 2) rfl).1, (X.cell (o := 3) rfl).1⟩
 refine ⟨_, rfl, hS, fun a11 K11 => ?_⟩
 clear k6
 clear K10
 refine dcall (i := 11) (o := ⟨some 62, .call { callee := (.value (.func 18)), args := #[(.tmp 57), (.tmp 59), (.tmp 61)], argTypes := #[26, 3, 3] }, 4, "law.go:38", #[⟨6, .data⟩, ⟨8, .data⟩, ⟨10, .data⟩, ⟨5, .chain⟩], none⟩) (f := 18) (args := #[zp q 0, zi a, zi c]) K11 rfl (by kernel_rfl) rfl rfl (want_none rfl) (fun ev E => ?_) (H.snd Rf.lies fun _ ha => xAdd _ _ ha) (fun e w12 hR => ?_)
 ·have EC := E.const; have EF := E.func; have E57 := E.tmp 57 _ rfl; have E59 := E.tmp 59 _ rfl; have E61 := E.tmp 61 _ rfl; clear E K11 hN hq; go_simp
 obtain ⟨rfl, h6, k6⟩ := hR
 replace X := X.kept k6 (by simp)
 replace H := h6
 clear h6
 replace hS : (fun w' : World => w'.cell? ⟨b8, 1, none⟩ = some (zi a) /\ w'.cell? ⟨b8, 2, none⟩ = some (zi b) /\ w'.cell? ⟨b8, 3, none⟩ = some (zi c)) w12 := ⟨(X.cell (o := 1) rfl).1, (X.cell (o := 2) rfl).1, (X.cell (o := 3) rfl).1⟩
 refine ⟨_, rfl, hS, fun a12 K12 => ?_⟩
 clear k6
 clear K11
 refine dT 12 ⟨some 9, .assign (.tmp 56), 4, "law.go:38", #[⟨5, .data⟩, ⟨11, .chain⟩, ⟨0, .phase⟩, ⟨1, .phase⟩, ⟨2, .phase⟩, ⟨3, .phase⟩, ⟨4, .phase⟩, ⟨5, .phase⟩, ⟨6, (Ground.textOnly Departure.lateStores)⟩, ⟨7, (Ground.textOnly Departure.lateStores)⟩, ⟨8, (Ground.textOnly Departure.lateStores)⟩, ⟨9, (Ground.textOnly Departure.lateStores)⟩, ⟨10, (Ground.textOnly Departure.lateStores)⟩, ⟨11, (Ground.textOnly Departure.lateStoresUnsure)⟩], none⟩ (.bool (T.addB a c)) K12 hq NS12 (want_none rfl) (fun ev E w9 hSw => ?_) hS fun a13 K13 => ?_
 ·have EC := E.const; have E56 := E.tmp 56 _ rfl; clear E K12 hN hq; clear hSw; go_simp
 clear K12
 refine dT 13 ⟨some 10, .assign (.tmp 62), 4, "law.go:38", #[⟨11, .data⟩, ⟨12, .chain⟩, ⟨0, .phase⟩, ⟨1, .phase⟩, ⟨2, .phase⟩, ⟨3, .phase⟩, ⟨4, .phase⟩, ⟨5, .phase⟩, ⟨6, .phase⟩, ⟨7, .phase⟩, ⟨8, .phase⟩, ⟨9, .phase⟩, ⟨10, .phase⟩, ⟨11, .phase⟩, ⟨12, .phase⟩], none⟩ (.bool (T.addB a c)) K13 hq NS12 (want_none rfl) (fun ev E w9 hSw => ?_) hS fun a14 K14 => ?_
 ·have EC := E.const; have E62 := E.tmp 62 _ rfl; clear E K13 hN hq; clear hSw; go_simp
 clear K13
 refine wpAnyH_done (by kernel_rfl) ?_ _
 exact hN _ _ _ _ (K14.less ⟨rfl, rfl, rfl, rfl, rfl, rfl, rfl, trivial⟩) H X
set_option maxHeartbeats 4000000 in
theorem rg12 {w : World} {p q b8 : Nat} {T : Tr} {x : Option Addr} {len cap m : Nat} {kd a b c : Int} {NX : Act -> World -> Prop} {a0 : Act} {V : World} (K0 : Kn a0 303 [(1, .slice x len cap), (5, zp p 0), (6, zp q 0), (7, zi m), (8, zp b8 0), (9, .bool false), (10, .bool false)]) (H : Ob2 RfAt w V p q T T [b8]) (X : BoxAt V b8 #[zi kd, zi a, zi b, zi c] 29) (hN : ∀ a' (r : Bool) (T' : Tr) w', Kn a' 303 [(1, .slice x len cap), (5, zp p 0), (6, zp q 0), (7, zi m), (8, zp b8 0), (9, .bool r), (10, .bool r)] -> Ob2 RfAt w w' p q T' T' [b8] -> BoxAt w' b8 #[zi kd, zi a, zi b, zi c] 29 -> NX a' w') :
  (Code.region 12 OPS12.toArray true).wp Try.prog (Norm NX) a0 V := by
 replace X := X.kept (H.below Rf.lies ((Below.refl _ _).drew)).2 (by simp)
 replace H := (H.below Rf.lies ((Below.refl _ _).drew)).1
 have hS : (fun w' : World => w'.cell? ⟨b8, 1, none⟩ = some (zi a) /\ w'.cell? ⟨b8, 2, none⟩ = some (zi b) /\ w'.cell? ⟨b8, 3, none⟩ = some (zi c)) V.drew := ⟨(X.cell (o := 1) rfl).1, (X.cell (o := 2) rfl).1, (X.cell (o := 3) rfl).1⟩
 refine wp_region_held_drew (S := (fun w' : World => w'.cell? ⟨b8, 1, none⟩ = some (zi a) /\ w'.cell? ⟨b8, 2, none⟩ = some (zi b) /\ w'.cell? ⟨b8, 3, none⟩ = some (zi c))) (by kernel_rfl) hS (fun hS => ?_)
 rw [show OPS12.toArray.size = 14 from by kernel_rfl, show Array.replicate 14 false = LS12_0 from rfl]
 exact rg12_0 K0 H X hS hN
theorem NS14 : Region.noSelect OPS14.toArray = true := by kernel_rfl
def LS14_0 : Array Bool := Array.replicate 10 false
set_option maxHeartbeats 4000000 in
theorem rg14_0 {w : World} {p q b8 : Nat} {T : Tr} {x : Option Addr} {len cap m : Nat} {kd a b c : Int} {NX : Act -> World -> Prop} {a0 : Act} {W : World} (K0 : Kn a0 303 [(1, .slice x len cap), (5, zp p 0), (6, zp q 0), (7, zi m), (8, zp b8 0), (9, .bool false), (10, .bool false)]) (H : Ob2 RfAt w W p q T T [b8]) (X : BoxAt W b8 #[zi kd, zi a, zi b, zi c] 29) (hS : (fun w' : World => w'.cell? ⟨b8, 1, none⟩ = some (zi a) /\ w'.cell? ⟨b8, 2, none⟩ = some (zi b) /\ w'.cell? ⟨b8, 3, none⟩ = some (zi c)) W) (hN : ∀ a' (r : Bool) (T' : Tr) w', Kn a' 303 [(1, .slice x len cap), (5, zp p 0), (6, zp q 0), (7, zi m), (8, zp b8 0), (9, .bool r), (10, .bool r)] -> Ob2 RfAt w w' p q T' T' [b8] -> BoxAt w' b8 #[zi kd, zi a, zi b, zi c] 29 -> NX a' w') :
  wpAnyH Try.prog .any OPS14.toArray (Norm NX) (fun w' : World => w'.cell? ⟨b8, 1, none⟩ = some (zi a) /\ w'.cell? ⟨b8, 2, none⟩ = some (zi b) /\ w'.cell? ⟨b8, 3, none⟩ = some (zi c)) 10 LS14_0 a0 W := by
 have hq : ∀ c a a' w', Norm NX (.panic c) a w' -> Norm NX (.panic c) a' w' := fun _ _ _ _ h => h
 refine dT 0 ⟨some 65, .move (.tmp 5), 23, "law.go:40", #[], none⟩ (zp p 0) K0 hq NS14 (want_none rfl) (fun ev E w9 hSw => ?_) hS fun a1 K1 => ?_
 ·have EC := E.const; have E5 := E.tmp 5 _ rfl; clear E K0 hN hq; clear hSw; go_simp
 refine dT 1 ⟨some 66, .fieldAddr 29 (.tmp 8) 1, 0, "law.go:40", #[], none⟩ (zp b8 1) K1 hq NS14 (want_none rfl) (fun ev E w9 hSw => ?_) hS fun a2 K2 => ?_
 ·have EC := E.const; have E8 := E.tmp 8 _ rfl; clear E K1 hN hq; clear hSw; go_simp
 clear K1
 refine dT 2 ⟨some 67, .load 3 (.tmp 66), 3, "law.go:40", #[⟨1, .data⟩], none⟩ (zi a) K2 hq NS14 (want_none rfl) (fun ev E w9 hSw => ?_) hS fun a3 K3 => ?_
 ·have EC := E.const; have E66 := E.tmp 66 _ rfl; clear E K2 hN hq; obtain ⟨z1, z2, z3⟩ := hSw; go_simp
 clear K2
 refine dT 4 ⟨some 69, .move (.tmp 6), 26, "law.go:40", #[], none⟩ (zp q 0) K3 hq NS14 (want_none rfl) (fun ev E w9 hSw => ?_) hS fun a4 K4 => ?_
 ·have EC := E.const; have E6 := E.tmp 6 _ rfl; clear E K3 hN hq; clear hSw; go_simp
 clear K3
 refine dT 5 ⟨some 70, .fieldAddr 29 (.tmp 8) 1, 0, "law.go:40", #[], none⟩ (zp b8 1) K4 hq NS14 (want_none rfl) (fun ev E w9 hSw => ?_) hS fun a5 K5 => ?_
 ·have EC := E.const; have E8 := E.tmp 8 _ rfl; clear E K4 hN hq; clear hSw; go_simp
 clear K4
 refine dT 6 ⟨some 71, .load 3 (.tmp 70), 3, "law.go:40", #[⟨5, .data⟩], none⟩ (zi a) K5 hq NS14 (want_none rfl) (fun ev E w9 hSw => ?_) hS fun a6 K6 => ?_
 ·have EC := E.const; have E70 := E.tmp 70 _ rfl; clear E K5 hN hq; obtain ⟨z1, z2, z3⟩ := hSw; go_simp
 clear K5
 refine dcall (i := 3) (o := ⟨some 68, .call { callee := (.value (.func 19)), args := #[(.tmp 65), (.tmp 67)], argTypes := #[23, 3] }, 4, "law.go:40", #[⟨0, .data⟩, ⟨2, .data⟩], none⟩) (f := 19) (args := #[zp p 0, zi a]) K6 rfl (by kernel_rfl) rfl rfl (want_none rfl) (fun ev E => ?_) (H.fst Rf.lies fun _ ha => aDrop _ ha) (fun e w7 hR => ?_)
 ·have EC := E.const; have EF := E.func; have E65 := E.tmp 65 _ rfl; have E67 := E.tmp 67 _ rfl; clear E K6 hN hq; go_simp
 obtain ⟨rfl, h6, k6⟩ := hR
 replace X := X.kept k6 (by simp)
 replace H := h6
 clear h6
 replace hS : (fun w' : World => w'.cell? ⟨b8, 1, none⟩ = some (zi a) /\ w'.cell? ⟨b8, 2, none⟩ = some (zi b) /\ w'.cell? ⟨b8, 3, none⟩ = some (zi c)) w7 := ⟨(X.cell (o := 1) rfl).1, (X.cell (o := 2) rfl).1, (X.cell (o := 3) rfl).1⟩
 refine ⟨_, rfl, hS, fun a7 K7 => ?_⟩
 clear k6
 clear K6
 refine dcall (i := 7) (o := ⟨some 72, .call { callee := (.value (.func 20)), args := #[(.tmp 69), (.tmp 71)], argTypes := #[26, 3] }, 4, "law.go:40", #[⟨4, .data⟩, ⟨6, .data⟩, ⟨3, .chain⟩], none⟩) (f := 20) (args := #[zp q 0, zi a]) K7 rfl (by kernel_rfl) rfl rfl (want_none rfl) (fun ev E => ?_) (H.snd Rf.lies fun _ ha => xDrop _ ha) (fun e w8 hR => ?_)
 ·have EC := E.const; have EF := E.func; have E69 := E.tmp 69 _ rfl; have E71 := E.tmp 71 _ rfl; clear E K7 hN hq; go_simp
 obtain ⟨rfl, h6, k6⟩ := hR
 replace X := X.kept k6 (by simp)
 replace H := h6
 clear h6
 replace hS : (fun w' : World => w'.cell? ⟨b8, 1, none⟩ = some (zi a) /\ w'.cell? ⟨b8, 2, none⟩ = some (zi b) /\ w'.cell? ⟨b8, 3, none⟩ = some (zi c)) w8 := ⟨(X.cell (o := 1) rfl).1, (X.cell (o := 2) rfl).1, (X.cell (o := 3) rfl).1⟩
 refine ⟨_, rfl, hS, fun a8 K8 => ?_⟩
 clear k6
 clear K7
 refine dT 8 ⟨some 9, .assign (.tmp 68), 4, "law.go:40", #[⟨3, .data⟩, ⟨7, .chain⟩, ⟨0, .phase⟩, ⟨1, .phase⟩, ⟨2, .phase⟩, ⟨3, .phase⟩, ⟨4, (Ground.textOnly Departure.lateStores)⟩, ⟨5, (Ground.textOnly Departure.lateStores)⟩, ⟨6, (Ground.textOnly Departure.lateStores)⟩, ⟨7, (Ground.textOnly Departure.lateStoresUnsure)⟩], none⟩ (.bool (T.goB a)) K8 hq NS14 (want_none rfl) (fun ev E w9 hSw => ?_) hS fun a9 K9 => ?_
 ·have EC := E.const; have E68 := E.tmp 68 _ rfl; clear E K8 hN hq; clear hSw; go_simp
 clear K8
 refine dT 9 ⟨some 10, .assign (.tmp 72), 4, "law.go:40", #[⟨7, .data⟩, ⟨8, .chain⟩, ⟨0, .phase⟩, ⟨1, .phase⟩, ⟨2, .phase⟩, ⟨3, .phase⟩, ⟨4, .phase⟩, ⟨5, .phase⟩, ⟨6, .phase⟩, ⟨7, .phase⟩, ⟨8, .phase⟩], none⟩ (.bool (T.goB a)) K9 hq NS14 (want_none rfl) (fun ev E w9 hSw => ?_) hS fun a10 K10 => ?_
 ·have EC := E.const; have E72 := E.tmp 72 _ rfl; clear E K9 hN hq; clear hSw; go_simp
 clear K9
 refine wpAnyH_done (by kernel_rfl) ?_ _
 exact hN _ _ _ _ (K10.less ⟨rfl, rfl, rfl, rfl, rfl, rfl, rfl, trivial⟩) H X
set_option maxHeartbeats 4000000 in
theorem rg14 {w : World} {p q b8 : Nat} {T : Tr} {x : Option Addr} {len cap m : Nat} {kd a b c : Int} {NX : Act -> World -> Prop} {a0 : Act} {V : World} (K0 : Kn a0 303 [(1, .slice x len cap), (5, zp p 0), (6, zp q 0), (7, zi m), (8, zp b8 0), (9, .bool false), (10, .bool false)]) (H : Ob2 RfAt w V p q T T [b8]) (X : BoxAt V b8 #[zi kd, zi a, zi b, zi c] 29) (hN : ∀ a' (r : Bool) (T' : Tr) w', Kn a' 303 [(1, .slice x len cap), (5, zp p 0), (6, zp q 0), (7, zi m), (8, zp b8 0), (9, .bool r), (10, .bool r)] -> Ob2 RfAt w w' p q T' T' [b8] -> BoxAt w' b8 #[zi kd, zi a, zi b, zi c] 29 -> NX a' w') :
  (Code.region 14 OPS14.toArray true).wp Try.prog (Norm NX) a0 V := by
 replace X := X.kept (H.below Rf.lies ((Below.refl _ _).drew)).2 (by simp)
 replace H := (H.below Rf.lies ((Below.refl _ _).drew)).1
 have hS : (fun w' : World => w'.cell? ⟨b8, 1, none⟩ = some (zi a) /\ w'.cell? ⟨b8, 2, none⟩ = some (zi b) /\ w'.cell? ⟨b8, 3, none⟩ = some (zi c)) V.drew := ⟨(X.cell (o := 1) rfl).1, (X.cell (o := 2) rfl).1, (X.cell (o := 3) rfl).1⟩
 refine wp_region_held_drew (S := (fun w' : World => w'.cell? ⟨b8, 1, none⟩ = some (zi a) /\ w'.cell? ⟨b8, 2, none⟩ = some (zi b) /\ w'.cell? ⟨b8, 3, none⟩ = some (zi c))) (by kernel_rfl) hS (fun hS => ?_)
 rw [show OPS14.toArray.size = 10 from by kernel_rfl, show Array.replicate 10 false = LS14_0 from rfl]
 exact rg14_0 K0 H X hS hN
theorem NS16 : Region.noSelect OPS16.toArray = true := by kernel_rfl
def LS16_0 : Array Bool := Array.replicate 14 false
set_option maxHeartbeats 4000000 in
theorem rg16_0 {w : World} {p q b8 : Nat} {T : Tr} {x : Option Addr} {len cap m : Nat} {kd a b c : Int} {NX : Act -> World -> Prop} {a0 : Act} {W : World} (K0 : Kn a0 303 [(1, .slice x len cap), (5, zp p 0), (6, zp q 0), (7, zi m), (8, zp b8 0), (9, .bool false), (10, .bool false)]) (H : Ob2 RfAt w W p q T T [b8]) (X : BoxAt W b8 #[zi kd, zi a, zi b, zi c] 29) (hS : (fun w' : World => w'.cell? ⟨b8, 1, none⟩ = some (zi a) /\ w'.cell? ⟨b8, 2, none⟩ = some (zi b) /\ w'.cell? ⟨b8, 3, none⟩ = some (zi c)) W) (hN : ∀ a' (r : Bool) (T' : Tr) w', Kn a' 303 [(1, .slice x len cap), (5, zp p 0), (6, zp q 0), (7, zi m), (8, zp b8 0), (9, .bool r), (10, .bool r)] -> Ob2 RfAt w w' p q T' T' [b8] -> BoxAt w' b8 #[zi kd, zi a, zi b, zi c] 29 -> NX a' w') :
  wpAnyH Try.prog .any OPS16.toArray (Norm NX) (fun w' : World => w'.cell? ⟨b8, 1, none⟩ = some (zi a) /\ w'.cell? ⟨b8, 2, none⟩ = some (zi b) /\ w'.cell? ⟨b8, 3, none⟩ = some (zi c)) 14 LS16_0 a0 W := by
 have hq : ∀ c a a' w', Norm NX (.panic c) a w' -> Norm NX (.panic c) a' w' := fun _ _ _ _ h => h
 refine dT 0 ⟨some 75, .move (.tmp 5), 23, "law.go:42", #[], none⟩ (zp p 0) K0 hq NS16 (want_none rfl) (fun ev E w9 hSw => ?_) hS fun a1 K1 => ?_
 ·have EC := E.const; have E5 := E.tmp 5 _ rfl; clear E K0 hN hq; clear hSw; go_simp
 refine dT 1 ⟨some 76, .fieldAddr 29 (.tmp 8) 1, 0, "law.go:42", #[], none⟩ (zp b8 1) K1 hq NS16 (want_none rfl) (fun ev E w9 hSw => ?_) hS fun a2 K2 => ?_
 ·have EC := E.const; have E8 := E.tmp 8 _ rfl; clear E K1 hN hq; clear hSw; go_simp
 clear K1
 refine dT 2 ⟨some 77, .load 3 (.tmp 76), 3, "law.go:42", #[⟨1, .data⟩], none⟩ (zi a) K2 hq NS16 (want_none rfl) (fun ev E w9 hSw => ?_) hS fun a3 K3 => ?_
 ·have EC := E.const; have E76 := E.tmp 76 _ rfl; clear E K2 hN hq; obtain ⟨z1, z2, z3⟩ := hSw; go_simp
 clear K2
 refine dT 3 ⟨some 78, .fieldAddr 29 (.tmp 8) 2, 0, "law.go:42", #[], none⟩ (zp b8 2) K3 hq NS16 (want_none rfl) (fun ev E w9 hSw => ?_) hS fun a4 K4 => ?_
 ·have EC := E.const; have E8 := E.tmp 8 _ rfl; clear E K3 hN hq; clear hSw; go_simp
 clear K3
 refine dT 4 ⟨some 79, .load 3 (.tmp 78), 3, "law.go:42", #[⟨3, .data⟩], none⟩ (zi b) K4 hq NS16 (want_none rfl) (fun ev E w9 hSw => ?_) hS fun a5 K5 => ?_
 ·have EC := E.const; have E78 := E.tmp 78 _ rfl; clear E K4 hN hq; obtain ⟨z1, z2, z3⟩ := hSw; go_simp
 clear K4
 refine dT 6 ⟨some 81, .move (.tmp 6), 26, "law.go:42", #[], none⟩ (zp q 0) K5 hq NS16 (want_none rfl) (fun ev E w9 hSw => ?_) hS fun a6 K6 => ?_
 ·have EC := E.const; have E6 := E.tmp 6 _ rfl; clear E K5 hN hq; clear hSw; go_simp
 clear K5
 refine dT 7 ⟨some 82, .fieldAddr 29 (.tmp 8) 1, 0, "law.go:42", #[], none⟩ (zp b8 1) K6 hq NS16 (want_none rfl) (fun ev E w9 hSw => ?_) hS fun a7 K7 => ?_
 ·have EC := E.const; have E8 := E.tmp 8 _ rfl; clear E K6 hN hq; clear hSw; go_simp
 clear K6
 refine dT 8 ⟨some 83, .load 3 (.tmp 82), 3, "law.go:42", #[⟨7, .data⟩], none⟩ (zi a) K7 hq NS16 (want_none rfl) (fun ev E w9 hSw => ?_) hS fun a8 K8 => ?_
 ·have EC := E.const; have E82 := E.tmp 82 _ rfl; clear E K7 hN hq; obtain ⟨z1, z2, z3⟩ := hSw; go_simp
 clear K7
 refine dT 9 ⟨some 84, .fieldAddr 29 (.tmp 8) 2, 0, "law.go:42", #[], none⟩ (zp b8 2) K8 hq NS16 (want_none rfl) (fun ev E w9 hSw => ?_) hS fun a9 K9 => ?_
 ·have EC := E.const; have E8 := E.tmp 8 _ rfl; clear E K8 hN hq; clear hSw; go_simp
 clear K8
 refine dT 10 ⟨some 85, .load 3 (.tmp 84), 3, "law.go:42", #[⟨9, .data⟩], none⟩ (zi b) K9 hq NS16 (want_none rfl) (fun ev E w9 hSw => ?_) hS fun a10 K10 => ?_
 ·have EC := E.const; have E84 := E.tmp 84 _ rfl; clear E K9 hN hq; obtain ⟨z1, z2, z3⟩ := hSw; go_simp
 clear K9
 refine dcall (i := 5) (o := ⟨some 80, .call { callee := (.value (.func 21)), args := #[(.tmp 75), (.tmp 77), (.tmp 79)], argTypes := #[23, 3, 3] }, 4, "law.go:42", #[⟨0, .data⟩, ⟨2, .data⟩, ⟨4, .data⟩], none⟩) (f := 21) (args := #[zp p 0, zi a, zi b]) K10 rfl (by kernel_rfl) rfl rfl (want_none rfl) (fun ev E => ?_) (H.fst Rf.lies fun _ ha => aLink _ _ ha) (fun e w11 hR => ?_)
 ·have EC := E.const; have EF := E.func; have E75 := E.tmp 75 _ rfl; have E77 := E.tmp 77 _ rfl; have E79 := E.tmp 79 _ rfl; clear E K10 hN hq; go_simp
 obtain ⟨rfl, h6, k6⟩ := hR
 replace X := X.kept k6 (by simp)
 replace H := h6
 clear h6
 replace hS : (fun w' : World => w'.cell? ⟨b8, 1, none⟩ = some (zi a) /\ w'.cell? ⟨b8, 2, none⟩ = some (zi b) /\ w'.cell? ⟨b8, 3, none⟩ = some (zi c)) w11 := ⟨(X.cell (o := 1) rfl).1, (X.cell (o := 2) rfl).1, (X.cell (o := 3) rfl).1⟩
 refine ⟨_, rfl, hS, fun a11 K11 => ?_⟩
 clear k6
 clear K10
 refine dcall (i := 11) (o := ⟨some 86, .call { callee := (.value (.func 22)), args := #[(.tmp 81), (.tmp 83), (.tmp 85)], argTypes := #[26, 3, 3] }, 4, "law.go:42", #[⟨6, .data⟩, ⟨8, .data⟩, ⟨10, .data⟩, ⟨5, .chain⟩], none⟩) (f := 22) (args := #[zp q 0, zi a, zi b]) K11 rfl (by kernel_rfl) rfl rfl (want_none rfl) (fun ev E => ?_) (H.snd Rf.lies fun _ ha => xLink _ _ ha) (fun e w12 hR => ?_)
 ·have EC := E.const; have EF := E.func; have E81 := E.tmp 81 _ rfl; have E83 := E.tmp 83 _ rfl; have E85 := E.tmp 85 _ rfl; clear E K11 hN hq; go_simp
 obtain ⟨rfl, h6, k6⟩ := hR
 replace X := X.kept k6 (by simp)
 replace H := h6
 clear h6
 replace hS : (fun w' : World => w'.cell? ⟨b8, 1, none⟩ = some (zi a) /\ w'.cell? ⟨b8, 2, none⟩ = some (zi b) /\ w'.cell? ⟨b8, 3, none⟩ = some (zi c)) w12 := ⟨(X.cell (o := 1) rfl).1, (X.cell (o := 2) rfl).1, (X.cell (o := 3) rfl).1⟩
 refine ⟨_, rfl, hS, fun a12 K12 => ?_⟩
 clear k6
 clear K11
 refine dT 12 ⟨some 9, .assign (.tmp 80), 4, "law.go:42", #[⟨5, .data⟩, ⟨11, .chain⟩, ⟨0, .phase⟩, ⟨1, .phase⟩, ⟨2, .phase⟩, ⟨3, .phase⟩, ⟨4, .phase⟩, ⟨5, .phase⟩, ⟨6, (Ground.textOnly Departure.lateStores)⟩, ⟨7, (Ground.textOnly Departure.lateStores)⟩, ⟨8, (Ground.textOnly Departure.lateStores)⟩, ⟨9, (Ground.textOnly Departure.lateStores)⟩, ⟨10, (Ground.textOnly Departure.lateStores)⟩, ⟨11, (Ground.textOnly Departure.lateStoresUnsure)⟩], none⟩ (.bool (T.linkB a b)) K12 hq NS16 (want_none rfl) (fun ev E w9 hSw => ?_) hS fun a13 K13 => ?_
 ·have EC := E.const; have E80 := E.tmp 80 _ rfl; clear E K12 hN hq; clear hSw; go_simp
 clear K12
 refine dT 13 ⟨some 10, .assign (.tmp 86), 4, "law.go:42", #[⟨11, .data⟩, ⟨12, .chain⟩, ⟨0, .phase⟩, ⟨1, .phase⟩, ⟨2, .phase⟩, ⟨3, .phase⟩, ⟨4, .phase⟩, ⟨5, .phase⟩, ⟨6, .phase⟩, ⟨7, .phase⟩, ⟨8, .phase⟩, ⟨9, .phase⟩, ⟨10, .phase⟩, ⟨11, .phase⟩, ⟨12, .phase⟩], none⟩ (.bool (T.linkB a b)) K13 hq NS16 (want_none rfl) (fun ev E w9 hSw => ?_) hS fun a14 K14 => ?_
 ·have EC := E.const; have E86 := E.tmp 86 _ rfl; clear E K13 hN hq; clear hSw; go_simp
 clear K13
 refine wpAnyH_done (by kernel_rfl) ?_ _
 exact hN _ _ _ _ (K14.less ⟨rfl, rfl, rfl, rfl, rfl, rfl, rfl, trivial⟩) H X
set_option maxHeartbeats 4000000 in
theorem rg16 {w : World} {p q b8 : Nat} {T : Tr} {x : Option Addr} {len cap m : Nat} {kd a b c : Int} {NX : Act -> World -> Prop} {a0 : Act} {V : World} (K0 : Kn a0 303 [(1, .slice x len cap), (5, zp p 0), (6, zp q 0), (7, zi m), (8, zp b8 0), (9, .bool false), (10, .bool false)]) (H : Ob2 RfAt w V p q T T [b8]) (X : BoxAt V b8 #[zi kd, zi a, zi b, zi c] 29) (hN : ∀ a' (r : Bool) (T' : Tr) w', Kn a' 303 [(1, .slice x len cap), (5, zp p 0), (6, zp q 0), (7, zi m), (8, zp b8 0), (9, .bool r), (10, .bool r)] -> Ob2 RfAt w w' p q T' T' [b8] -> BoxAt w' b8 #[zi kd, zi a, zi b, zi c] 29 -> NX a' w') :
  (Code.region 16 OPS16.toArray true).wp Try.prog (Norm NX) a0 V := by
 replace X := X.kept (H.below Rf.lies ((Below.refl _ _).drew)).2 (by simp)
 replace H := (H.below Rf.lies ((Below.refl _ _).drew)).1
 have hS : (fun w' : World => w'.cell? ⟨b8, 1, none⟩ = some (zi a) /\ w'.cell? ⟨b8, 2, none⟩ = some (zi b) /\ w'.cell? ⟨b8, 3, none⟩ = some (zi c)) V.drew := ⟨(X.cell (o := 1) rfl).1, (X.cell (o := 2) rfl).1, (X.cell (o := 3) rfl).1⟩
 refine wp_region_held_drew (S := (fun w' : World => w'.cell? ⟨b8, 1, none⟩ = some (zi a) /\ w'.cell? ⟨b8, 2, none⟩ = some (zi b) /\ w'.cell? ⟨b8, 3, none⟩ = some (zi c))) (by kernel_rfl) hS (fun hS => ?_)
 rw [show OPS16.toArray.size = 14 from by kernel_rfl, show Array.replicate 14 false = LS16_0 from rfl]
 exact rg16_0 K0 H X hS hN
theorem NS18 : Region.noSelect OPS18.toArray = true := by kernel_rfl
def LS18_0 : Array Bool := Array.replicate 10 false
set_option maxHeartbeats 4000000 in
theorem rg18_0 {w : World} {p q b8 : Nat} {T : Tr} {x : Option Addr} {len cap m : Nat} {kd a b c : Int} {NX : Act -> World -> Prop} {a0 : Act} {W : World} (K0 : Kn a0 303 [(1, .slice x len cap), (5, zp p 0), (6, zp q 0), (7, zi m), (8, zp b8 0), (9, .bool false), (10, .bool false)]) (H : Ob2 RfAt w W p q T T [b8]) (X : BoxAt W b8 #[zi kd, zi a, zi b, zi c] 29) (hS : (fun w' : World => w'.cell? ⟨b8, 1, none⟩ = some (zi a) /\ w'.cell? ⟨b8, 2, none⟩ = some (zi b) /\ w'.cell? ⟨b8, 3, none⟩ = some (zi c)) W) (hN : ∀ a' (r : Bool) (T' : Tr) w', Kn a' 303 [(1, .slice x len cap), (5, zp p 0), (6, zp q 0), (7, zi m), (8, zp b8 0), (9, .bool r), (10, .bool r)] -> Ob2 RfAt w w' p q T' T' [b8] -> BoxAt w' b8 #[zi kd, zi a, zi b, zi c] 29 -> NX a' w') :
  wpAnyH Try.prog .any OPS18.toArray (Norm NX) (fun w' : World => w'.cell? ⟨b8, 1, none⟩ = some (zi a) /\ w'.cell? ⟨b8, 2, none⟩ = some (zi b) /\ w'.cell? ⟨b8, 3, none⟩ = some (zi c)) 10 LS18_0 a0 W := by
 have hq : ∀ c a a' w', Norm NX (.panic c) a w' -> Norm NX (.panic c) a' w' := fun _ _ _ _ h => h
 refine dT 0 ⟨some 89, .move (.tmp 5), 23, "law.go:44", #[], none⟩ (zp p 0) K0 hq NS18 (want_none rfl) (fun ev E w9 hSw => ?_) hS fun a1 K1 => ?_
 ·have EC := E.const; have E5 := E.tmp 5 _ rfl; clear E K0 hN hq; clear hSw; go_simp
 refine dT 1 ⟨some 90, .fieldAddr 29 (.tmp 8) 1, 0, "law.go:44", #[], none⟩ (zp b8 1) K1 hq NS18 (want_none rfl) (fun ev E w9 hSw => ?_) hS fun a2 K2 => ?_
 ·have EC := E.const; have E8 := E.tmp 8 _ rfl; clear E K1 hN hq; clear hSw; go_simp
 clear K1
 refine dT 2 ⟨some 91, .load 3 (.tmp 90), 3, "law.go:44", #[⟨1, .data⟩], none⟩ (zi a) K2 hq NS18 (want_none rfl) (fun ev E w9 hSw => ?_) hS fun a3 K3 => ?_
 ·have EC := E.const; have E90 := E.tmp 90 _ rfl; clear E K2 hN hq; obtain ⟨z1, z2, z3⟩ := hSw; go_simp
 clear K2
 refine dT 4 ⟨some 93, .move (.tmp 6), 26, "law.go:44", #[], none⟩ (zp q 0) K3 hq NS18 (want_none rfl) (fun ev E w9 hSw => ?_) hS fun a4 K4 => ?_
 ·have EC := E.const; have E6 := E.tmp 6 _ rfl; clear E K3 hN hq; clear hSw; go_simp
 clear K3
 refine dT 5 ⟨some 94, .fieldAddr 29 (.tmp 8) 1, 0, "law.go:44", #[], none⟩ (zp b8 1) K4 hq NS18 (want_none rfl) (fun ev E w9 hSw => ?_) hS fun a5 K5 => ?_
 ·have EC := E.const; have E8 := E.tmp 8 _ rfl; clear E K4 hN hq; clear hSw; go_simp
 clear K4
 refine dT 6 ⟨some 95, .load 3 (.tmp 94), 3, "law.go:44", #[⟨5, .data⟩], none⟩ (zi a) K5 hq NS18 (want_none rfl) (fun ev E w9 hSw => ?_) hS fun a6 K6 => ?_
 ·have EC := E.const; have E94 := E.tmp 94 _ rfl; clear E K5 hN hq; obtain ⟨z1, z2, z3⟩ := hSw; go_simp
 clear K5
 refine dcall (i := 3) (o := ⟨some 92, .call { callee := (.value (.func 23)), args := #[(.tmp 89), (.tmp 91)], argTypes := #[23, 3] }, 4, "law.go:44", #[⟨0, .data⟩, ⟨2, .data⟩], none⟩) (f := 23) (args := #[zp p 0, zi a]) K6 rfl (by kernel_rfl) rfl rfl (want_none rfl) (fun ev E => ?_) (H.fst Rf.lies fun _ ha => aCut _ ha) (fun e w7 hR => ?_)
 ·have EC := E.const; have EF := E.func; have E89 := E.tmp 89 _ rfl; have E91 := E.tmp 91 _ rfl; clear E K6 hN hq; go_simp
 obtain ⟨rfl, h6, k6⟩ := hR
 replace X := X.kept k6 (by simp)
 replace H := h6
 clear h6
 replace hS : (fun w' : World => w'.cell? ⟨b8, 1, none⟩ = some (zi a) /\ w'.cell? ⟨b8, 2, none⟩ = some (zi b) /\ w'.cell? ⟨b8, 3, none⟩ = some (zi c)) w7 := ⟨(X.cell (o := 1) rfl).1, (X.cell (o := 2) rfl).1, (X.cell (o := 3) rfl).1⟩
 refine ⟨_, rfl, hS, fun a7 K7 => ?_⟩
 clear k6
 clear K6
 refine dcall (i := 7) (o := ⟨some 96, .call { callee := (.value (.func 24)), args := #[(.tmp 93), (.tmp 95)], argTypes := #[26, 3] }, 4, "law.go:44", #[⟨4, .data⟩, ⟨6, .data⟩, ⟨3, .chain⟩], none⟩) (f := 24) (args := #[zp q 0, zi a]) K7 rfl (by kernel_rfl) rfl rfl (want_none rfl) (fun ev E => ?_) (H.snd Rf.lies fun _ ha => xCut _ ha) (fun e w8 hR => ?_)
 ·have EC := E.const; have EF := E.func; have E93 := E.tmp 93 _ rfl; have E95 := E.tmp 95 _ rfl; clear E K7 hN hq; go_simp
 obtain ⟨rfl, h6, k6⟩ := hR
 replace X := X.kept k6 (by simp)
 replace H := h6
 clear h6
 replace hS : (fun w' : World => w'.cell? ⟨b8, 1, none⟩ = some (zi a) /\ w'.cell? ⟨b8, 2, none⟩ = some (zi b) /\ w'.cell? ⟨b8, 3, none⟩ = some (zi c)) w8 := ⟨(X.cell (o := 1) rfl).1, (X.cell (o := 2) rfl).1, (X.cell (o := 3) rfl).1⟩
 refine ⟨_, rfl, hS, fun a8 K8 => ?_⟩
 clear k6
 clear K7
 refine dT 8 ⟨some 9, .assign (.tmp 92), 4, "law.go:44", #[⟨3, .data⟩, ⟨7, .chain⟩, ⟨0, .phase⟩, ⟨1, .phase⟩, ⟨2, .phase⟩, ⟨3, .phase⟩, ⟨4, (Ground.textOnly Departure.lateStores)⟩, ⟨5, (Ground.textOnly Departure.lateStores)⟩, ⟨6, (Ground.textOnly Departure.lateStores)⟩, ⟨7, (Ground.textOnly Departure.lateStoresUnsure)⟩], none⟩ (.bool (T.cutB a)) K8 hq NS18 (want_none rfl) (fun ev E w9 hSw => ?_) hS fun a9 K9 => ?_
 ·have EC := E.const; have E92 := E.tmp 92 _ rfl; clear E K8 hN hq; clear hSw; go_simp
 clear K8
 refine dT 9 ⟨some 10, .assign (.tmp 96), 4, "law.go:44", #[⟨7, .data⟩, ⟨8, .chain⟩, ⟨0, .phase⟩, ⟨1, .phase⟩, ⟨2, .phase⟩, ⟨3, .phase⟩, ⟨4, .phase⟩, ⟨5, .phase⟩, ⟨6, .phase⟩, ⟨7, .phase⟩, ⟨8, .phase⟩], none⟩ (.bool (T.cutB a)) K9 hq NS18 (want_none rfl) (fun ev E w9 hSw => ?_) hS fun a10 K10 => ?_
 ·have EC := E.const; have E96 := E.tmp 96 _ rfl; clear E K9 hN hq; clear hSw; go_simp
 clear K9
 refine wpAnyH_done (by kernel_rfl) ?_ _
 exact hN _ _ _ _ (K10.less ⟨rfl, rfl, rfl, rfl, rfl, rfl, rfl, trivial⟩) H X
set_option maxHeartbeats 4000000 in
theorem rg18 {w : World} {p q b8 : Nat} {T : Tr} {x : Option Addr} {len cap m : Nat} {kd a b c : Int} {NX : Act -> World -> Prop} {a0 : Act} {V : World} (K0 : Kn a0 303 [(1, .slice x len cap), (5, zp p 0), (6, zp q 0), (7, zi m), (8, zp b8 0), (9, .bool false), (10, .bool false)]) (H : Ob2 RfAt w V p q T T [b8]) (X : BoxAt V b8 #[zi kd, zi a, zi b, zi c] 29) (hN : ∀ a' (r : Bool) (T' : Tr) w', Kn a' 303 [(1, .slice x len cap), (5, zp p 0), (6, zp q 0), (7, zi m), (8, zp b8 0), (9, .bool r), (10, .bool r)] -> Ob2 RfAt w w' p q T' T' [b8] -> BoxAt w' b8 #[zi kd, zi a, zi b, zi c] 29 -> NX a' w') :
  (Code.region 18 OPS18.toArray true).wp Try.prog (Norm NX) a0 V := by
 replace X := X.kept (H.below Rf.lies ((Below.refl _ _).drew)).2 (by simp)
 replace H := (H.below Rf.lies ((Below.refl _ _).drew)).1
 have hS : (fun w' : World => w'.cell? ⟨b8, 1, none⟩ = some (zi a) /\ w'.cell? ⟨b8, 2, none⟩ = some (zi b) /\ w'.cell? ⟨b8, 3, none⟩ = some (zi c)) V.drew := ⟨(X.cell (o := 1) rfl).1, (X.cell (o := 2) rfl).1, (X.cell (o := 3) rfl).1⟩
 refine wp_region_held_drew (S := (fun w' : World => w'.cell? ⟨b8, 1, none⟩ = some (zi a) /\ w'.cell? ⟨b8, 2, none⟩ = some (zi b) /\ w'.cell? ⟨b8, 3, none⟩ = some (zi c))) (by kernel_rfl) hS (fun hS => ?_)
 rw [show OPS18.toArray.size = 10 from by kernel_rfl, show Array.replicate 10 false = LS18_0 from rfl]
 exact rg18_0 K0 H X hS hN
theorem NS20 : Region.noSelect OPS20.toArray = true := by kernel_rfl
def LS20_0 : Array Bool := Array.replicate 10 false
set_option maxHeartbeats 4000000 in
theorem rg20_0 {w : World} {p q b8 : Nat} {T : Tr} {x : Option Addr} {len cap m : Nat} {kd a b c : Int} {NX : Act -> World -> Prop} {a0 : Act} {W : World} (K0 : Kn a0 303 [(1, .slice x len cap), (5, zp p 0), (6, zp q 0), (7, zi m), (8, zp b8 0), (9, .bool false), (10, .bool false)]) (H : Ob2 RfAt w W p q T T [b8]) (X : BoxAt W b8 #[zi kd, zi a, zi b, zi c] 29) (hS : (fun w' : World => w'.cell? ⟨b8, 1, none⟩ = some (zi a) /\ w'.cell? ⟨b8, 2, none⟩ = some (zi b) /\ w'.cell? ⟨b8, 3, none⟩ = some (zi c)) W) (hN : ∀ a' (r : Bool) (T' : Tr) w', Kn a' 303 [(1, .slice x len cap), (5, zp p 0), (6, zp q 0), (7, zi m), (8, zp b8 0), (9, .bool r), (10, .bool r)] -> Ob2 RfAt w w' p q T' T' [b8] -> BoxAt w' b8 #[zi kd, zi a, zi b, zi c] 29 -> NX a' w') :
  wpAnyH Try.prog .any OPS20.toArray (Norm NX) (fun w' : World => w'.cell? ⟨b8, 1, none⟩ = some (zi a) /\ w'.cell? ⟨b8, 2, none⟩ = some (zi b) /\ w'.cell? ⟨b8, 3, none⟩ = some (zi c)) 10 LS20_0 a0 W := by
 have hq : ∀ c a a' w', Norm NX (.panic c) a w' -> Norm NX (.panic c) a' w' := fun _ _ _ _ h => h
 refine dT 0 ⟨some 99, .move (.tmp 5), 23, "law.go:46", #[], none⟩ (zp p 0) K0 hq NS20 (want_none rfl) (fun ev E w9 hSw => ?_) hS fun a1 K1 => ?_
 ·have EC := E.const; have E5 := E.tmp 5 _ rfl; clear E K0 hN hq; clear hSw; go_simp
 refine dT 1 ⟨some 100, .fieldAddr 29 (.tmp 8) 1, 0, "law.go:46", #[], none⟩ (zp b8 1) K1 hq NS20 (want_none rfl) (fun ev E w9 hSw => ?_) hS fun a2 K2 => ?_
 ·have EC := E.const; have E8 := E.tmp 8 _ rfl; clear E K1 hN hq; clear hSw; go_simp
 clear K1
 refine dT 2 ⟨some 101, .load 3 (.tmp 100), 3, "law.go:46", #[⟨1, .data⟩], none⟩ (zi a) K2 hq NS20 (want_none rfl) (fun ev E w9 hSw => ?_) hS fun a3 K3 => ?_
 ·have EC := E.const; have E100 := E.tmp 100 _ rfl; clear E K2 hN hq; obtain ⟨z1, z2, z3⟩ := hSw; go_simp
 clear K2
 refine dT 4 ⟨some 103, .move (.tmp 6), 26, "law.go:46", #[], none⟩ (zp q 0) K3 hq NS20 (want_none rfl) (fun ev E w9 hSw => ?_) hS fun a4 K4 => ?_
 ·have EC := E.const; have E6 := E.tmp 6 _ rfl; clear E K3 hN hq; clear hSw; go_simp
 clear K3
 refine dT 5 ⟨some 104, .fieldAddr 29 (.tmp 8) 1, 0, "law.go:46", #[], none⟩ (zp b8 1) K4 hq NS20 (want_none rfl) (fun ev E w9 hSw => ?_) hS fun a5 K5 => ?_
 ·have EC := E.const; have E8 := E.tmp 8 _ rfl; clear E K4 hN hq; clear hSw; go_simp
 clear K4
 refine dT 6 ⟨some 105, .load 3 (.tmp 104), 3, "law.go:46", #[⟨5, .data⟩], none⟩ (zi a) K5 hq NS20 (want_none rfl) (fun ev E w9 hSw => ?_) hS fun a6 K6 => ?_
 ·have EC := E.const; have E104 := E.tmp 104 _ rfl; clear E K5 hN hq; obtain ⟨z1, z2, z3⟩ := hSw; go_simp
 clear K5
 refine dcall (i := 3) (o := ⟨some 102, .call { callee := (.value (.func 25)), args := #[(.tmp 99), (.tmp 101)], argTypes := #[23, 3] }, 4, "law.go:46", #[⟨0, .data⟩, ⟨2, .data⟩], none⟩) (f := 25) (args := #[zp p 0, zi a]) K6 rfl (by kernel_rfl) rfl rfl (want_none rfl) (fun ev E => ?_) (H.fst Rf.lies fun _ ha => aEvert _ ha) (fun e w7 hR => ?_)
 ·have EC := E.const; have EF := E.func; have E99 := E.tmp 99 _ rfl; have E101 := E.tmp 101 _ rfl; clear E K6 hN hq; go_simp
 obtain ⟨rfl, h6, k6⟩ := hR
 replace X := X.kept k6 (by simp)
 replace H := h6
 clear h6
 replace hS : (fun w' : World => w'.cell? ⟨b8, 1, none⟩ = some (zi a) /\ w'.cell? ⟨b8, 2, none⟩ = some (zi b) /\ w'.cell? ⟨b8, 3, none⟩ = some (zi c)) w7 := ⟨(X.cell (o := 1) rfl).1, (X.cell (o := 2) rfl).1, (X.cell (o := 3) rfl).1⟩
 refine ⟨_, rfl, hS, fun a7 K7 => ?_⟩
 clear k6
 clear K6
 refine dcall (i := 7) (o := ⟨some 106, .call { callee := (.value (.func 26)), args := #[(.tmp 103), (.tmp 105)], argTypes := #[26, 3] }, 4, "law.go:46", #[⟨4, .data⟩, ⟨6, .data⟩, ⟨3, .chain⟩], none⟩) (f := 26) (args := #[zp q 0, zi a]) K7 rfl (by kernel_rfl) rfl rfl (want_none rfl) (fun ev E => ?_) (H.snd Rf.lies fun _ ha => xEvert _ ha) (fun e w8 hR => ?_)
 ·have EC := E.const; have EF := E.func; have E103 := E.tmp 103 _ rfl; have E105 := E.tmp 105 _ rfl; clear E K7 hN hq; go_simp
 obtain ⟨rfl, h6, k6⟩ := hR
 replace X := X.kept k6 (by simp)
 replace H := h6
 clear h6
 replace hS : (fun w' : World => w'.cell? ⟨b8, 1, none⟩ = some (zi a) /\ w'.cell? ⟨b8, 2, none⟩ = some (zi b) /\ w'.cell? ⟨b8, 3, none⟩ = some (zi c)) w8 := ⟨(X.cell (o := 1) rfl).1, (X.cell (o := 2) rfl).1, (X.cell (o := 3) rfl).1⟩
 refine ⟨_, rfl, hS, fun a8 K8 => ?_⟩
 clear k6
 clear K7
 refine dT 8 ⟨some 9, .assign (.tmp 102), 4, "law.go:46", #[⟨3, .data⟩, ⟨7, .chain⟩, ⟨0, .phase⟩, ⟨1, .phase⟩, ⟨2, .phase⟩, ⟨3, .phase⟩, ⟨4, (Ground.textOnly Departure.lateStores)⟩, ⟨5, (Ground.textOnly Departure.lateStores)⟩, ⟨6, (Ground.textOnly Departure.lateStores)⟩, ⟨7, (Ground.textOnly Departure.lateStoresUnsure)⟩], none⟩ (.bool (T.hasI a)) K8 hq NS20 (want_none rfl) (fun ev E w9 hSw => ?_) hS fun a9 K9 => ?_
 ·have EC := E.const; have E102 := E.tmp 102 _ rfl; clear E K8 hN hq; clear hSw; go_simp
 clear K8
 refine dT 9 ⟨some 10, .assign (.tmp 106), 4, "law.go:46", #[⟨7, .data⟩, ⟨8, .chain⟩, ⟨0, .phase⟩, ⟨1, .phase⟩, ⟨2, .phase⟩, ⟨3, .phase⟩, ⟨4, .phase⟩, ⟨5, .phase⟩, ⟨6, .phase⟩, ⟨7, .phase⟩, ⟨8, .phase⟩], none⟩ (.bool (T.hasI a)) K9 hq NS20 (want_none rfl) (fun ev E w9 hSw => ?_) hS fun a10 K10 => ?_
 ·have EC := E.const; have E106 := E.tmp 106 _ rfl; clear E K9 hN hq; clear hSw; go_simp
 clear K9
 refine wpAnyH_done (by kernel_rfl) ?_ _
 exact hN _ _ _ _ (K10.less ⟨rfl, rfl, rfl, rfl, rfl, rfl, rfl, trivial⟩) H X
set_option maxHeartbeats 4000000 in
theorem rg20 {w : World} {p q b8 : Nat} {T : Tr} {x : Option Addr} {len cap m : Nat} {kd a b c : Int} {NX : Act -> World -> Prop} {a0 : Act} {V : World} (K0 : Kn a0 303 [(1, .slice x len cap), (5, zp p 0), (6, zp q 0), (7, zi m), (8, zp b8 0), (9, .bool false), (10, .bool false)]) (H : Ob2 RfAt w V p q T T [b8]) (X : BoxAt V b8 #[zi kd, zi a, zi b, zi c] 29) (hN : ∀ a' (r : Bool) (T' : Tr) w', Kn a' 303 [(1, .slice x len cap), (5, zp p 0), (6, zp q 0), (7, zi m), (8, zp b8 0), (9, .bool r), (10, .bool r)] -> Ob2 RfAt w w' p q T' T' [b8] -> BoxAt w' b8 #[zi kd, zi a, zi b, zi c] 29 -> NX a' w') :
  (Code.region 20 OPS20.toArray true).wp Try.prog (Norm NX) a0 V := by
 replace X := X.kept (H.below Rf.lies ((Below.refl _ _).drew)).2 (by simp)
 replace H := (H.below Rf.lies ((Below.refl _ _).drew)).1
 have hS : (fun w' : World => w'.cell? ⟨b8, 1, none⟩ = some (zi a) /\ w'.cell? ⟨b8, 2, none⟩ = some (zi b) /\ w'.cell? ⟨b8, 3, none⟩ = some (zi c)) V.drew := ⟨(X.cell (o := 1) rfl).1, (X.cell (o := 2) rfl).1, (X.cell (o := 3) rfl).1⟩
 refine wp_region_held_drew (S := (fun w' : World => w'.cell? ⟨b8, 1, none⟩ = some (zi a) /\ w'.cell? ⟨b8, 2, none⟩ = some (zi b) /\ w'.cell? ⟨b8, 3, none⟩ = some (zi c))) (by kernel_rfl) hS (fun hS => ?_)
 rw [show OPS20.toArray.size = 10 from by kernel_rfl, show Array.replicate 10 false = LS20_0 from rfl]
 exact rg20_0 K0 H X hS hN
theorem NS22 : Region.noSelect OPS22.toArray = true := by kernel_rfl
def LS22_0 : Array Bool := Array.replicate 14 false
set_option maxHeartbeats 4000000 in
theorem rg22_0 {w : World} {p q b8 : Nat} {T : Tr} {x : Option Addr} {len cap m : Nat} {kd a b c : Int} {NX : Act -> World -> Prop} {a0 : Act} {W : World} (K0 : Kn a0 303 [(1, .slice x len cap), (5, zp p 0), (6, zp q 0), (7, zi m), (8, zp b8 0), (9, .bool false), (10, .bool false)]) (H : Ob2 RfAt w W p q T T [b8]) (X : BoxAt W b8 #[zi kd, zi a, zi b, zi c] 29) (hS : (fun w' : World => w'.cell? ⟨b8, 1, none⟩ = some (zi a) /\ w'.cell? ⟨b8, 2, none⟩ = some (zi b) /\ w'.cell? ⟨b8, 3, none⟩ = some (zi c)) W) (hN : ∀ a' (r : Bool) (T' : Tr) w', Kn a' 303 [(1, .slice x len cap), (5, zp p 0), (6, zp q 0), (7, zi m), (8, zp b8 0), (9, .bool r), (10, .bool r)] -> Ob2 RfAt w w' p q T' T' [b8] -> BoxAt w' b8 #[zi kd, zi a, zi b, zi c] 29 -> NX a' w') :
  wpAnyH Try.prog .any OPS22.toArray (Norm NX) (fun w' : World => w'.cell? ⟨b8, 1, none⟩ = some (zi a) /\ w'.cell? ⟨b8, 2, none⟩ = some (zi b) /\ w'.cell? ⟨b8, 3, none⟩ = some (zi c)) 14 LS22_0 a0 W := by
 have hq : ∀ c a a' w', Norm NX (.panic c) a w' -> Norm NX (.panic c) a' w' := fun _ _ _ _ h => h
 refine dT 0 ⟨some 109, .move (.tmp 5), 23, "law.go:48", #[], none⟩ (zp p 0) K0 hq NS22 (want_none rfl) (fun ev E w9 hSw => ?_) hS fun a1 K1 => ?_
 ·have EC := E.const; have E5 := E.tmp 5 _ rfl; clear E K0 hN hq; clear hSw; go_simp
 refine dT 1 ⟨some 110, .fieldAddr 29 (.tmp 8) 1, 0, "law.go:48", #[], none⟩ (zp b8 1) K1 hq NS22 (want_none rfl) (fun ev E w9 hSw => ?_) hS fun a2 K2 => ?_
 ·have EC := E.const; have E8 := E.tmp 8 _ rfl; clear E K1 hN hq; clear hSw; go_simp
 clear K1
 refine dT 2 ⟨some 111, .load 3 (.tmp 110), 3, "law.go:48", #[⟨1, .data⟩], none⟩ (zi a) K2 hq NS22 (want_none rfl) (fun ev E w9 hSw => ?_) hS fun a3 K3 => ?_
 ·have EC := E.const; have E110 := E.tmp 110 _ rfl; clear E K2 hN hq; obtain ⟨z1, z2, z3⟩ := hSw; go_simp
 clear K2
 refine dT 3 ⟨some 112, .fieldAddr 29 (.tmp 8) 3, 0, "law.go:48", #[], none⟩ (zp b8 3) K3 hq NS22 (want_none rfl) (fun ev E w9 hSw => ?_) hS fun a4 K4 => ?_
 ·have EC := E.const; have E8 := E.tmp 8 _ rfl; clear E K3 hN hq; clear hSw; go_simp
 clear K3
 refine dT 4 ⟨some 113, .load 3 (.tmp 112), 3, "law.go:48", #[⟨3, .data⟩], none⟩ (zi c) K4 hq NS22 (want_none rfl) (fun ev E w9 hSw => ?_) hS fun a5 K5 => ?_
 ·have EC := E.const; have E112 := E.tmp 112 _ rfl; clear E K4 hN hq; obtain ⟨z1, z2, z3⟩ := hSw; go_simp
 clear K4
 refine dT 6 ⟨some 115, .move (.tmp 6), 26, "law.go:48", #[], none⟩ (zp q 0) K5 hq NS22 (want_none rfl) (fun ev E w9 hSw => ?_) hS fun a6 K6 => ?_
 ·have EC := E.const; have E6 := E.tmp 6 _ rfl; clear E K5 hN hq; clear hSw; go_simp
 clear K5
 refine dT 7 ⟨some 116, .fieldAddr 29 (.tmp 8) 1, 0, "law.go:48", #[], none⟩ (zp b8 1) K6 hq NS22 (want_none rfl) (fun ev E w9 hSw => ?_) hS fun a7 K7 => ?_
 ·have EC := E.const; have E8 := E.tmp 8 _ rfl; clear E K6 hN hq; clear hSw; go_simp
 clear K6
 refine dT 8 ⟨some 117, .load 3 (.tmp 116), 3, "law.go:48", #[⟨7, .data⟩], none⟩ (zi a) K7 hq NS22 (want_none rfl) (fun ev E w9 hSw => ?_) hS fun a8 K8 => ?_
 ·have EC := E.const; have E116 := E.tmp 116 _ rfl; clear E K7 hN hq; obtain ⟨z1, z2, z3⟩ := hSw; go_simp
 clear K7
 refine dT 9 ⟨some 118, .fieldAddr 29 (.tmp 8) 3, 0, "law.go:48", #[], none⟩ (zp b8 3) K8 hq NS22 (want_none rfl) (fun ev E w9 hSw => ?_) hS fun a9 K9 => ?_
 ·have EC := E.const; have E8 := E.tmp 8 _ rfl; clear E K8 hN hq; clear hSw; go_simp
 clear K8
 refine dT 10 ⟨some 119, .load 3 (.tmp 118), 3, "law.go:48", #[⟨9, .data⟩], none⟩ (zi c) K9 hq NS22 (want_none rfl) (fun ev E w9 hSw => ?_) hS fun a10 K10 => ?_
 ·have EC := E.const; have E118 := E.tmp 118 _ rfl; clear E K9 hN hq; obtain ⟨z1, z2, z3⟩ := hSw; go_simp
 clear K9
 refine dcall (i := 5) (o := ⟨some 114, .call { callee := (.value (.func 27)), args := #[(.tmp 109), (.tmp 111), (.tmp 113)], argTypes := #[23, 3, 3] }, 4, "law.go:48", #[⟨0, .data⟩, ⟨2, .data⟩, ⟨4, .data⟩], none⟩) (f := 27) (args := #[zp p 0, zi a, zi c]) K10 rfl (by kernel_rfl) rfl rfl (want_none rfl) (fun ev E => ?_) (H.fst Rf.lies fun _ ha => aSet _ _ ha) (fun e w11 hR => ?_)
 ·have EC := E.const; have EF := E.func; have E109 := E.tmp 109 _ rfl; have E111 := E.tmp 111 _ rfl; have E113 := E.tmp 113 _ rfl; clear E K10 hN hq; go_simp
 obtain ⟨rfl, h6, k6⟩ := hR
 replace X := X.kept k6 (by simp)
 replace H := h6
 clear h6
 replace hS : (fun w' : World => w'.cell? ⟨b8, 1, none⟩ = some (zi a) /\ w'.cell? ⟨b8, 2, none⟩ = some (zi b) /\ w'.cell? ⟨b8, 3, none⟩ = some (zi c)) w11 := ⟨(X.cell (o := 1) rfl).1, (X.cell (o := 2) rfl).1, (X.cell (o := 3) rfl).1⟩
 refine ⟨_, rfl, hS, fun a11 K11 => ?_⟩
 clear k6
 clear K10
 refine dcall (i := 11) (o := ⟨some 120, .call { callee := (.value (.func 28)), args := #[(.tmp 115), (.tmp 117), (.tmp 119)], argTypes := #[26, 3, 3] }, 4, "law.go:48", #[⟨6, .data⟩, ⟨8, .data⟩, ⟨10, .data⟩, ⟨5, .chain⟩], none⟩) (f := 28) (args := #[zp q 0, zi a, zi c]) K11 rfl (by kernel_rfl) rfl rfl (want_none rfl) (fun ev E => ?_) (H.snd Rf.lies fun _ ha => xSet _ _ ha) (fun e w12 hR => ?_)
 ·have EC := E.const; have EF := E.func; have E115 := E.tmp 115 _ rfl; have E117 := E.tmp 117 _ rfl; have E119 := E.tmp 119 _ rfl; clear E K11 hN hq; go_simp
 obtain ⟨rfl, h6, k6⟩ := hR
 replace X := X.kept k6 (by simp)
 replace H := h6
 clear h6
 replace hS : (fun w' : World => w'.cell? ⟨b8, 1, none⟩ = some (zi a) /\ w'.cell? ⟨b8, 2, none⟩ = some (zi b) /\ w'.cell? ⟨b8, 3, none⟩ = some (zi c)) w12 := ⟨(X.cell (o := 1) rfl).1, (X.cell (o := 2) rfl).1, (X.cell (o := 3) rfl).1⟩
 refine ⟨_, rfl, hS, fun a12 K12 => ?_⟩
 clear k6
 clear K11
 refine dT 12 ⟨some 9, .assign (.tmp 114), 4, "law.go:48", #[⟨5, .data⟩, ⟨11, .chain⟩, ⟨0, .phase⟩, ⟨1, .phase⟩, ⟨2, .phase⟩, ⟨3, .phase⟩, ⟨4, .phase⟩, ⟨5, .phase⟩, ⟨6, (Ground.textOnly Departure.lateStores)⟩, ⟨7, (Ground.textOnly Departure.lateStores)⟩, ⟨8, (Ground.textOnly Departure.lateStores)⟩, ⟨9, (Ground.textOnly Departure.lateStores)⟩, ⟨10, (Ground.textOnly Departure.lateStores)⟩, ⟨11, (Ground.textOnly Departure.lateStoresUnsure)⟩], none⟩ (.bool ((T.hasI a && fitB c))) K12 hq NS22 (want_none rfl) (fun ev E w9 hSw => ?_) hS fun a13 K13 => ?_
 ·have EC := E.const; have E114 := E.tmp 114 _ rfl; clear E K12 hN hq; clear hSw; go_simp
 clear K12
 refine dT 13 ⟨some 10, .assign (.tmp 120), 4, "law.go:48", #[⟨11, .data⟩, ⟨12, .chain⟩, ⟨0, .phase⟩, ⟨1, .phase⟩, ⟨2, .phase⟩, ⟨3, .phase⟩, ⟨4, .phase⟩, ⟨5, .phase⟩, ⟨6, .phase⟩, ⟨7, .phase⟩, ⟨8, .phase⟩, ⟨9, .phase⟩, ⟨10, .phase⟩, ⟨11, .phase⟩, ⟨12, .phase⟩], none⟩ (.bool ((T.hasI a && fitB c))) K13 hq NS22 (want_none rfl) (fun ev E w9 hSw => ?_) hS fun a14 K14 => ?_
 ·have EC := E.const; have E120 := E.tmp 120 _ rfl; clear E K13 hN hq; clear hSw; go_simp
 clear K13
 refine wpAnyH_done (by kernel_rfl) ?_ _
 exact hN _ _ _ _ (K14.less ⟨rfl, rfl, rfl, rfl, rfl, rfl, rfl, trivial⟩) H X
set_option maxHeartbeats 4000000 in
theorem rg22 {w : World} {p q b8 : Nat} {T : Tr} {x : Option Addr} {len cap m : Nat} {kd a b c : Int} {NX : Act -> World -> Prop} {a0 : Act} {V : World} (K0 : Kn a0 303 [(1, .slice x len cap), (5, zp p 0), (6, zp q 0), (7, zi m), (8, zp b8 0), (9, .bool false), (10, .bool false)]) (H : Ob2 RfAt w V p q T T [b8]) (X : BoxAt V b8 #[zi kd, zi a, zi b, zi c] 29) (hN : ∀ a' (r : Bool) (T' : Tr) w', Kn a' 303 [(1, .slice x len cap), (5, zp p 0), (6, zp q 0), (7, zi m), (8, zp b8 0), (9, .bool r), (10, .bool r)] -> Ob2 RfAt w w' p q T' T' [b8] -> BoxAt w' b8 #[zi kd, zi a, zi b, zi c] 29 -> NX a' w') :
  (Code.region 22 OPS22.toArray true).wp Try.prog (Norm NX) a0 V := by
 replace X := X.kept (H.below Rf.lies ((Below.refl _ _).drew)).2 (by simp)
 replace H := (H.below Rf.lies ((Below.refl _ _).drew)).1
 have hS : (fun w' : World => w'.cell? ⟨b8, 1, none⟩ = some (zi a) /\ w'.cell? ⟨b8, 2, none⟩ = some (zi b) /\ w'.cell? ⟨b8, 3, none⟩ = some (zi c)) V.drew := ⟨(X.cell (o := 1) rfl).1, (X.cell (o := 2) rfl).1, (X.cell (o := 3) rfl).1⟩
 refine wp_region_held_drew (S := (fun w' : World => w'.cell? ⟨b8, 1, none⟩ = some (zi a) /\ w'.cell? ⟨b8, 2, none⟩ = some (zi b) /\ w'.cell? ⟨b8, 3, none⟩ = some (zi c))) (by kernel_rfl) hS (fun hS => ?_)
 rw [show OPS22.toArray.size = 14 from by kernel_rfl, show Array.replicate 14 false = LS22_0 from rfl]
 exact rg22_0 K0 H X hS hN
theorem NS24 : Region.noSelect OPS24.toArray = true := by kernel_rfl
def LS24_0 : Array Bool := Array.replicate 18 false
set_option maxHeartbeats 4000000 in
theorem rg24_0 {w : World} {p q b8 : Nat} {T : Tr} {x : Option Addr} {len cap m : Nat} {kd a b c : Int} {NX : Act -> World -> Prop} {a0 : Act} {W : World} (K0 : Kn a0 303 [(1, .slice x len cap), (5, zp p 0), (6, zp q 0), (7, zi m), (8, zp b8 0), (9, .bool false), (10, .bool false)]) (H : Ob2 RfAt w W p q T T [b8]) (X : BoxAt W b8 #[zi kd, zi a, zi b, zi c] 29) (hS : (fun w' : World => w'.cell? ⟨b8, 1, none⟩ = some (zi a) /\ w'.cell? ⟨b8, 2, none⟩ = some (zi b) /\ w'.cell? ⟨b8, 3, none⟩ = some (zi c)) W) (hN : ∀ a' (r : Bool) (T' : Tr) w', Kn a' 303 [(1, .slice x len cap), (5, zp p 0), (6, zp q 0), (7, zi m), (8, zp b8 0), (9, .bool r), (10, .bool r)] -> Ob2 RfAt w w' p q T' T' [b8] -> BoxAt w' b8 #[zi kd, zi a, zi b, zi c] 29 -> NX a' w') :
  wpAnyH Try.prog .any OPS24.toArray (Norm NX) (fun w' : World => w'.cell? ⟨b8, 1, none⟩ = some (zi a) /\ w'.cell? ⟨b8, 2, none⟩ = some (zi b) /\ w'.cell? ⟨b8, 3, none⟩ = some (zi c)) 18 LS24_0 a0 W := by
 have hq : ∀ c a a' w', Norm NX (.panic c) a w' -> Norm NX (.panic c) a' w' := fun _ _ _ _ h => h
 refine dT 0 ⟨some 123, .move (.tmp 5), 23, "law.go:50", #[], none⟩ (zp p 0) K0 hq NS24 (want_none rfl) (fun ev E w9 hSw => ?_) hS fun a1 K1 => ?_
 ·have EC := E.const; have E5 := E.tmp 5 _ rfl; clear E K0 hN hq; clear hSw; go_simp
 refine dT 1 ⟨some 124, .fieldAddr 29 (.tmp 8) 1, 0, "law.go:50", #[], none⟩ (zp b8 1) K1 hq NS24 (want_none rfl) (fun ev E w9 hSw => ?_) hS fun a2 K2 => ?_
 ·have EC := E.const; have E8 := E.tmp 8 _ rfl; clear E K1 hN hq; clear hSw; go_simp
 clear K1
 refine dT 2 ⟨some 125, .load 3 (.tmp 124), 3, "law.go:50", #[⟨1, .data⟩], none⟩ (zi a) K2 hq NS24 (want_none rfl) (fun ev E w9 hSw => ?_) hS fun a3 K3 => ?_
 ·have EC := E.const; have E124 := E.tmp 124 _ rfl; clear E K2 hN hq; obtain ⟨z1, z2, z3⟩ := hSw; go_simp
 clear K2
 refine dT 3 ⟨some 126, .fieldAddr 29 (.tmp 8) 2, 0, "law.go:50", #[], none⟩ (zp b8 2) K3 hq NS24 (want_none rfl) (fun ev E w9 hSw => ?_) hS fun a4 K4 => ?_
 ·have EC := E.const; have E8 := E.tmp 8 _ rfl; clear E K3 hN hq; clear hSw; go_simp
 clear K3
 refine dT 4 ⟨some 127, .load 3 (.tmp 126), 3, "law.go:50", #[⟨3, .data⟩], none⟩ (zi b) K4 hq NS24 (want_none rfl) (fun ev E w9 hSw => ?_) hS fun a5 K5 => ?_
 ·have EC := E.const; have E126 := E.tmp 126 _ rfl; clear E K4 hN hq; obtain ⟨z1, z2, z3⟩ := hSw; go_simp
 clear K4
 refine dT 5 ⟨some 128, .fieldAddr 29 (.tmp 8) 3, 0, "law.go:50", #[], none⟩ (zp b8 3) K5 hq NS24 (want_none rfl) (fun ev E w9 hSw => ?_) hS fun a6 K6 => ?_
 ·have EC := E.const; have E8 := E.tmp 8 _ rfl; clear E K5 hN hq; clear hSw; go_simp
 clear K5
 refine dT 6 ⟨some 129, .load 3 (.tmp 128), 3, "law.go:50", #[⟨5, .data⟩], none⟩ (zi c) K6 hq NS24 (want_none rfl) (fun ev E w9 hSw => ?_) hS fun a7 K7 => ?_
 ·have EC := E.const; have E128 := E.tmp 128 _ rfl; clear E K6 hN hq; obtain ⟨z1, z2, z3⟩ := hSw; go_simp
 clear K6
 refine dT 8 ⟨some 131, .move (.tmp 6), 26, "law.go:50", #[], none⟩ (zp q 0) K7 hq NS24 (want_none rfl) (fun ev E w9 hSw => ?_) hS fun a8 K8 => ?_
 ·have EC := E.const; have E6 := E.tmp 6 _ rfl; clear E K7 hN hq; clear hSw; go_simp
 clear K7
 refine dT 9 ⟨some 132, .fieldAddr 29 (.tmp 8) 1, 0, "law.go:50", #[], none⟩ (zp b8 1) K8 hq NS24 (want_none rfl) (fun ev E w9 hSw => ?_) hS fun a9 K9 => ?_
 ·have EC := E.const; have E8 := E.tmp 8 _ rfl; clear E K8 hN hq; clear hSw; go_simp
 clear K8
 refine dT 10 ⟨some 133, .load 3 (.tmp 132), 3, "law.go:50", #[⟨9, .data⟩], none⟩ (zi a) K9 hq NS24 (want_none rfl) (fun ev E w9 hSw => ?_) hS fun a10 K10 => ?_
 ·have EC := E.const; have E132 := E.tmp 132 _ rfl; clear E K9 hN hq; obtain ⟨z1, z2, z3⟩ := hSw; go_simp
 clear K9
 refine dT 11 ⟨some 134, .fieldAddr 29 (.tmp 8) 2, 0, "law.go:50", #[], none⟩ (zp b8 2) K10 hq NS24 (want_none rfl) (fun ev E w9 hSw => ?_) hS fun a11 K11 => ?_
 ·have EC := E.const; have E8 := E.tmp 8 _ rfl; clear E K10 hN hq; clear hSw; go_simp
 clear K10
 refine dT 12 ⟨some 135, .load 3 (.tmp 134), 3, "law.go:50", #[⟨11, .data⟩], none⟩ (zi b) K11 hq NS24 (want_none rfl) (fun ev E w9 hSw => ?_) hS fun a12 K12 => ?_
 ·have EC := E.const; have E134 := E.tmp 134 _ rfl; clear E K11 hN hq; obtain ⟨z1, z2, z3⟩ := hSw; go_simp
 clear K11
 refine dT 13 ⟨some 136, .fieldAddr 29 (.tmp 8) 3, 0, "law.go:50", #[], none⟩ (zp b8 3) K12 hq NS24 (want_none rfl) (fun ev E w9 hSw => ?_) hS fun a13 K13 => ?_
 ·have EC := E.const; have E8 := E.tmp 8 _ rfl; clear E K12 hN hq; clear hSw; go_simp
 clear K12
 refine dT 14 ⟨some 137, .load 3 (.tmp 136), 3, "law.go:50", #[⟨13, .data⟩], none⟩ (zi c) K13 hq NS24 (want_none rfl) (fun ev E w9 hSw => ?_) hS fun a14 K14 => ?_
 ·have EC := E.const; have E136 := E.tmp 136 _ rfl; clear E K13 hN hq; obtain ⟨z1, z2, z3⟩ := hSw; go_simp
 clear K13
 refine dcall (i := 7) (o := ⟨some 130, .call { callee := (.value (.func 29)), args := #[(.tmp 123), (.tmp 125), (.tmp 127), (.tmp 129)], argTypes := #[23, 3, 3, 3] }, 4, "law.go:50", #[⟨0, .data⟩, ⟨2, .data⟩, ⟨4, .data⟩, ⟨6, .data⟩], none⟩) (f := 29) (args := #[zp p 0, zi a, zi b, zi c]) K14 rfl (by kernel_rfl) rfl rfl (want_none rfl) (fun ev E => ?_) (H.fst Rf.lies fun _ ha => aPathAdd _ _ _ ha) (fun e w15 hR => ?_)
 ·have EC := E.const; have EF := E.func; have E123 := E.tmp 123 _ rfl; have E125 := E.tmp 125 _ rfl; have E127 := E.tmp 127 _ rfl; have E129 := E.tmp 129 _ rfl; clear E K14 hN hq; go_simp
 obtain ⟨rfl, h6, k6⟩ := hR
 replace X := X.kept k6 (by simp)
 replace H := h6
 clear h6
 replace hS : (fun w' : World => w'.cell? ⟨b8, 1, none⟩ = some (zi a) /\ w'.cell? ⟨b8, 2, none⟩ = some (zi b) /\ w'.cell? ⟨b8, 3, none⟩ = some (zi c)) w15 := ⟨(X.cell (o := 1) rfl).1, (X.cell (o := 2) rfl).1, (X.cell (o := 3) rfl).1⟩
 refine ⟨_, rfl, hS, fun a15 K15 => ?_⟩
 clear k6
 clear K14
 refine dcall (i := 15) (o := ⟨some 138, .call { callee := (.value (.func 30)), args := #[(.tmp 131), (.tmp 133), (.tmp 135), (.tmp 137)], argTypes := #[26, 3, 3, 3] }, 4, "law.go:50", #[⟨8, .data⟩, ⟨10, .data⟩, ⟨12, .data⟩, ⟨14, .data⟩, ⟨7, .chain⟩], none⟩) (f := 30) (args := #[zp q 0, zi a, zi b, zi c]) K15 rfl (by kernel_rfl) rfl rfl (want_none rfl) (fun ev E => ?_) (H.snd Rf.lies fun _ ha => xPathAdd _ _ _ ha) (fun e w16 hR => ?_)
 ·have EC := E.const; have EF := E.func; have E131 := E.tmp 131 _ rfl; have E133 := E.tmp 133 _ rfl; have E135 := E.tmp 135 _ rfl; have E137 := E.tmp 137 _ rfl; clear E K15 hN hq; go_simp
 obtain ⟨rfl, h6, k6⟩ := hR
 replace X := X.kept k6 (by simp)
 replace H := h6
 clear h6
 replace hS : (fun w' : World => w'.cell? ⟨b8, 1, none⟩ = some (zi a) /\ w'.cell? ⟨b8, 2, none⟩ = some (zi b) /\ w'.cell? ⟨b8, 3, none⟩ = some (zi c)) w16 := ⟨(X.cell (o := 1) rfl).1, (X.cell (o := 2) rfl).1, (X.cell (o := 3) rfl).1⟩
 refine ⟨_, rfl, hS, fun a16 K16 => ?_⟩
 clear k6
 clear K15
 refine dT 16 ⟨some 9, .assign (.tmp 130), 4, "law.go:50", #[⟨7, .data⟩, ⟨15, .chain⟩, ⟨0, .phase⟩, ⟨1, .phase⟩, ⟨2, .phase⟩, ⟨3, .phase⟩, ⟨4, .phase⟩, ⟨5, .phase⟩, ⟨6, .phase⟩, ⟨7, .phase⟩, ⟨8, (Ground.textOnly Departure.lateStores)⟩, ⟨9, (Ground.textOnly Departure.lateStores)⟩, ⟨10, (Ground.textOnly Departure.lateStores)⟩, ⟨11, (Ground.textOnly Departure.lateStores)⟩, ⟨12, (Ground.textOnly Departure.lateStores)⟩, ⟨13, (Ground.textOnly Departure.lateStores)⟩, ⟨14, (Ground.textOnly Departure.lateStores)⟩, ⟨15, (Ground.textOnly Departure.lateStoresUnsure)⟩], none⟩ (.bool (T.raiseB a b c)) K16 hq NS24 (want_none rfl) (fun ev E w9 hSw => ?_) hS fun a17 K17 => ?_
 ·have EC := E.const; have E130 := E.tmp 130 _ rfl; clear E K16 hN hq; clear hSw; go_simp
 clear K16
 refine dT 17 ⟨some 10, .assign (.tmp 138), 4, "law.go:50", #[⟨15, .data⟩, ⟨16, .chain⟩, ⟨0, .phase⟩, ⟨1, .phase⟩, ⟨2, .phase⟩, ⟨3, .phase⟩, ⟨4, .phase⟩, ⟨5, .phase⟩, ⟨6, .phase⟩, ⟨7, .phase⟩, ⟨8, .phase⟩, ⟨9, .phase⟩, ⟨10, .phase⟩, ⟨11, .phase⟩, ⟨12, .phase⟩, ⟨13, .phase⟩, ⟨14, .phase⟩, ⟨15, .phase⟩, ⟨16, .phase⟩], none⟩ (.bool (T.raiseB a b c)) K17 hq NS24 (want_none rfl) (fun ev E w9 hSw => ?_) hS fun a18 K18 => ?_
 ·have EC := E.const; have E138 := E.tmp 138 _ rfl; clear E K17 hN hq; clear hSw; go_simp
 clear K17
 refine wpAnyH_done (by kernel_rfl) ?_ _
 exact hN _ _ _ _ (K18.less ⟨rfl, rfl, rfl, rfl, rfl, rfl, rfl, trivial⟩) H X
set_option maxHeartbeats 4000000 in
theorem rg24 {w : World} {p q b8 : Nat} {T : Tr} {x : Option Addr} {len cap m : Nat} {kd a b c : Int} {NX : Act -> World -> Prop} {a0 : Act} {V : World} (K0 : Kn a0 303 [(1, .slice x len cap), (5, zp p 0), (6, zp q 0), (7, zi m), (8, zp b8 0), (9, .bool false), (10, .bool false)]) (H : Ob2 RfAt w V p q T T [b8]) (X : BoxAt V b8 #[zi kd, zi a, zi b, zi c] 29) (hN : ∀ a' (r : Bool) (T' : Tr) w', Kn a' 303 [(1, .slice x len cap), (5, zp p 0), (6, zp q 0), (7, zi m), (8, zp b8 0), (9, .bool r), (10, .bool r)] -> Ob2 RfAt w w' p q T' T' [b8] -> BoxAt w' b8 #[zi kd, zi a, zi b, zi c] 29 -> NX a' w') :
  (Code.region 24 OPS24.toArray true).wp Try.prog (Norm NX) a0 V := by
 replace X := X.kept (H.below Rf.lies ((Below.refl _ _).drew)).2 (by simp)
 replace H := (H.below Rf.lies ((Below.refl _ _).drew)).1
 have hS : (fun w' : World => w'.cell? ⟨b8, 1, none⟩ = some (zi a) /\ w'.cell? ⟨b8, 2, none⟩ = some (zi b) /\ w'.cell? ⟨b8, 3, none⟩ = some (zi c)) V.drew := ⟨(X.cell (o := 1) rfl).1, (X.cell (o := 2) rfl).1, (X.cell (o := 3) rfl).1⟩
 refine wp_region_held_drew (S := (fun w' : World => w'.cell? ⟨b8, 1, none⟩ = some (zi a) /\ w'.cell? ⟨b8, 2, none⟩ = some (zi b) /\ w'.cell? ⟨b8, 3, none⟩ = some (zi c))) (by kernel_rfl) hS (fun hS => ?_)
 rw [show OPS24.toArray.size = 18 from by kernel_rfl, show Array.replicate 18 false = LS24_0 from rfl]
 exact rg24_0 K0 H X hS hN
end Go.Proofs.Ytjnkgakajenoaaa

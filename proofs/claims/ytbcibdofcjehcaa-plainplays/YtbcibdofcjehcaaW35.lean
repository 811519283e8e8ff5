/- The statements of ..Plays that are drawn, over a frame that is a letter. -/
import Derived.Test.YtbcibdofcjehcaaE11
import Derived.Test.YtbcibdofcjehcaaW34
import Derived.Test.YtbcibdofcjehcaaO3
import Derived.Test.YtbcibdofcjehcaaB2
namespace Go.Proofs.Ytbcibdofcjehcaa
open Go.RowKit Go.Arb
set_option linter.unusedVariables false
set_option linter.unusedSimpArgs false
set_option maxRecDepth 100000
theorem NS12 : Region.noSelect OPS12.toArray = true := by kernel_rfl
def LS12_0 : Array Bool := [false, false, false, false, false, false, false, false, false, false, false, false, false, false].toArray
def LS12_1 : Array Bool := [true, false, false, false, false, false, false, false, false, false, false, false, false, false].toArray
def LS12_2 : Array Bool := [true, true, false, false, false, false, false, false, false, false, false, false, false, false].toArray
def LS12_3 : Array Bool := [true, true, true, false, false, false, false, false, false, false, false, false, false, false].toArray
def LS12_4 : Array Bool := [true, true, true, true, false, false, false, false, false, false, false, false, false, false].toArray
def LS12_5 : Array Bool := [true, true, true, true, true, false, false, false, false, false, false, false, false, false].toArray
def LS12_6 : Array Bool := [true, true, true, true, true, false, true, false, false, false, false, false, false, false].toArray
def LS12_7 : Array Bool := [true, true, true, true, true, false, true, true, false, false, false, false, false, false].toArray
def LS12_8 : Array Bool := [true, true, true, true, true, false, true, true, true, false, false, false, false, false].toArray
def LS12_9 : Array Bool := [true, true, true, true, true, false, true, true, true, true, false, false, false, false].toArray
def LS12_10 : Array Bool := [true, true, true, true, true, false, true, true, true, true, true, false, false, false].toArray
def LS12_11 : Array Bool := [true, true, true, true, true, true, true, true, true, true, true, false, false, false].toArray
def LS12_12 : Array Bool := [true, true, true, true, true, true, true, true, true, true, true, true, false, false].toArray
def LS12_13 : Array Bool := [true, true, true, true, true, true, true, true, true, true, true, true, true, false].toArray
def LS12_14 : Array Bool := [true, true, true, true, true, true, true, true, true, true, true, true, true, true].toArray
set_option maxHeartbeats 4000000 in
theorem rg12_0 {w : World} {p q b8 : Nat} {T : Tr} {x : Option Addr} {len cap m : Nat} {kd a b c : Int} {NX : Act → World → Prop} {a0 : Act} {W : World} (K0 : Kn a0 303 [(1, .slice x len cap), (5, .pointer (some ⟨p, 0, none⟩)), (6, .pointer (some ⟨q, 0, none⟩)), (7, .int .i64 (m : Int)), (8, .pointer (some ⟨b8, 0, none⟩)), (9, .bool false), (10, .bool false)]) (H : Ob2 RfAt w W p q T T [b8]) (X : BoxAt W b8 #[.int .i64 kd, .int .i64 a, .int .i64 b, .int .i64 c] 29) (hS : (fun w' : World => w'.cell? ⟨b8, 1, none⟩ = some (.int .i64 a) ∧ w'.cell? ⟨b8, 2, none⟩ = some (.int .i64 b) ∧ w'.cell? ⟨b8, 3, none⟩ = some (.int .i64 c)) W) (hN : ∀ a' (r : Bool) (T' : Tr) w', Kn a' 303 [(1, .slice x len cap), (5, .pointer (some ⟨p, 0, none⟩)), (6, .pointer (some ⟨q, 0, none⟩)), (7, .int .i64 (m : Int)), (8, .pointer (some ⟨b8, 0, none⟩)), (9, .bool r), (10, .bool r)] → Ob2 RfAt w w' p q T' T' [b8] → BoxAt w' b8 #[.int .i64 kd, .int .i64 a, .int .i64 b, .int .i64 c] 29 → NX a' w') :
    wpAnyH Try.prog .any OPS12.toArray (Norm NX) (fun w' : World => w'.cell? ⟨b8, 1, none⟩ = some (.int .i64 a) ∧ w'.cell? ⟨b8, 2, none⟩ = some (.int .i64 b) ∧ w'.cell? ⟨b8, 3, none⟩ = some (.int .i64 c)) 14 LS12_0 a0 W := by
  have hq : ∀ c a a' w', Norm NX (.panic c) a w' → Norm NX (.panic c) a' w' := fun _ _ _ _ h => h
  refine dtake (i := 0) (o := { dst := (some 51), op := (Op.move (Operand.tmp 5)), type := 23, pos := "law.go:38", after := #[], guard := none }) (v := .pointer (some ⟨p, 0, none⟩)) (l2 := LS12_1) K0 hq rfl NS12 (by kernel_rfl) (by kernel_rfl) (by kernel_rfl) rfl rfl (want_none rfl) (fun ev E w9 hSw => ?_) hS (fun a1 K1 => ?_)
  · have EC := E.const; have E5 := E.tmp 5 _ rfl; clear E K0 hN hq; clear hSw; go_simp
  refine dtake (i := 1) (o := { dst := (some 52), op := (Op.fieldAddr 29 (Operand.tmp 8) 1), type := 0, pos := "law.go:38", after := #[], guard := none }) (v := .pointer (some ⟨b8, 1, none⟩)) (l2 := LS12_2) K1 hq rfl NS12 (by kernel_rfl) (by kernel_rfl) (by kernel_rfl) rfl rfl (want_none rfl) (fun ev E w9 hSw => ?_) hS (fun a2 K2 => ?_)
  · have EC := E.const; have E8 := E.tmp 8 _ rfl; clear E K1 hN hq; clear hSw; go_simp
  clear K1
  refine dtake (i := 2) (o := { dst := (some 53), op := (Op.load 3 (Operand.tmp 52)), type := 3, pos := "law.go:38", after := #[{ on := 1, ground := Ground.data }], guard := none }) (v := .int .i64 a) (l2 := LS12_3) K2 hq rfl NS12 (by kernel_rfl) (by kernel_rfl) (by kernel_rfl) rfl rfl (want_none rfl) (fun ev E w9 hSw => ?_) hS (fun a3 K3 => ?_)
  · have EC := E.const; have E52 := E.tmp 52 _ rfl; clear E K2 hN hq; obtain ⟨z1, z2, z3⟩ := hSw; go_simp
  clear K2
  refine dtake (i := 3) (o := { dst := (some 54), op := (Op.fieldAddr 29 (Operand.tmp 8) 3), type := 0, pos := "law.go:38", after := #[], guard := none }) (v := .pointer (some ⟨b8, 3, none⟩)) (l2 := LS12_4) K3 hq rfl NS12 (by kernel_rfl) (by kernel_rfl) (by kernel_rfl) rfl rfl (want_none rfl) (fun ev E w9 hSw => ?_) hS (fun a4 K4 => ?_)
  · have EC := E.const; have E8 := E.tmp 8 _ rfl; clear E K3 hN hq; clear hSw; go_simp
  clear K3
  refine dtake (i := 4) (o := { dst := (some 55), op := (Op.load 3 (Operand.tmp 54)), type := 3, pos := "law.go:38", after := #[{ on := 3, ground := Ground.data }], guard := none }) (v := .int .i64 c) (l2 := LS12_5) K4 hq rfl NS12 (by kernel_rfl) (by kernel_rfl) (by kernel_rfl) rfl rfl (want_none rfl) (fun ev E w9 hSw => ?_) hS (fun a5 K5 => ?_)
  · have EC := E.const; have E54 := E.tmp 54 _ rfl; clear E K4 hN hq; obtain ⟨z1, z2, z3⟩ := hSw; go_simp
  clear K4
  refine dtake (i := 6) (o := { dst := (some 57), op := (Op.move (Operand.tmp 6)), type := 26, pos := "law.go:38", after := #[], guard := none }) (v := .pointer (some ⟨q, 0, none⟩)) (l2 := LS12_6) K5 hq rfl NS12 (by kernel_rfl) (by kernel_rfl) (by kernel_rfl) rfl rfl (want_none rfl) (fun ev E w9 hSw => ?_) hS (fun a6 K6 => ?_)
  · have EC := E.const; have E6 := E.tmp 6 _ rfl; clear E K5 hN hq; clear hSw; go_simp
  clear K5
  refine dtake (i := 7) (o := { dst := (some 58), op := (Op.fieldAddr 29 (Operand.tmp 8) 1), type := 0, pos := "law.go:38", after := #[], guard := none }) (v := .pointer (some ⟨b8, 1, none⟩)) (l2 := LS12_7) K6 hq rfl NS12 (by kernel_rfl) (by kernel_rfl) (by kernel_rfl) rfl rfl (want_none rfl) (fun ev E w9 hSw => ?_) hS (fun a7 K7 => ?_)
  · have EC := E.const; have E8 := E.tmp 8 _ rfl; clear E K6 hN hq; clear hSw; go_simp
  clear K6
  refine dtake (i := 8) (o := { dst := (some 59), op := (Op.load 3 (Operand.tmp 58)), type := 3, pos := "law.go:38", after := #[{ on := 7, ground := Ground.data }], guard := none }) (v := .int .i64 a) (l2 := LS12_8) K7 hq rfl NS12 (by kernel_rfl) (by kernel_rfl) (by kernel_rfl) rfl rfl (want_none rfl) (fun ev E w9 hSw => ?_) hS (fun a8 K8 => ?_)
  · have EC := E.const; have E58 := E.tmp 58 _ rfl; clear E K7 hN hq; obtain ⟨z1, z2, z3⟩ := hSw; go_simp
  clear K7
  refine dtake (i := 9) (o := { dst := (some 60), op := (Op.fieldAddr 29 (Operand.tmp 8) 3), type := 0, pos := "law.go:38", after := #[], guard := none }) (v := .pointer (some ⟨b8, 3, none⟩)) (l2 := LS12_9) K8 hq rfl NS12 (by kernel_rfl) (by kernel_rfl) (by kernel_rfl) rfl rfl (want_none rfl) (fun ev E w9 hSw => ?_) hS (fun a9 K9 => ?_)
  · have EC := E.const; have E8 := E.tmp 8 _ rfl; clear E K8 hN hq; clear hSw; go_simp
  clear K8
  refine dtake (i := 10) (o := { dst := (some 61), op := (Op.load 3 (Operand.tmp 60)), type := 3, pos := "law.go:38", after := #[{ on := 9, ground := Ground.data }], guard := none }) (v := .int .i64 c) (l2 := LS12_10) K9 hq rfl NS12 (by kernel_rfl) (by kernel_rfl) (by kernel_rfl) rfl rfl (want_none rfl) (fun ev E w9 hSw => ?_) hS (fun a10 K10 => ?_)
  · have EC := E.const; have E60 := E.tmp 60 _ rfl; clear E K9 hN hq; obtain ⟨z1, z2, z3⟩ := hSw; go_simp
  clear K9
  refine dcall (i := 5) (o := { dst := (some 56), op := (Op.call { callee := (Callee.value (Operand.func 17)), args := #[(Operand.tmp 51), (Operand.tmp 53), (Operand.tmp 55)], argTypes := #[23, 3, 3] }), type := 4, pos := "law.go:38", after := #[{ on := 0, ground := Ground.data }, { on := 2, ground := Ground.data }, { on := 4, ground := Ground.data }], guard := none }) (l2 := LS12_11) (f := 17) (args := #[.pointer (some ⟨p, 0, none⟩), .int .i64 a, .int .i64 c]) K10 rfl (by kernel_rfl) (by kernel_rfl) rfl rfl (want_none rfl) (fun ev E => ?_) (H.fst Rf.lies fun _ ha => aAdd _ _ ha) (fun e w11 hR => ?_)
  · have EC := E.const; have EF := E.func; have E51 := E.tmp 51 _ rfl; have E53 := E.tmp 53 _ rfl; have E55 := E.tmp 55 _ rfl; clear E K10 hN hq; go_simp
  obtain ⟨rfl, h6, k6⟩ := hR
  replace X := X.kept k6 (by simp)
  replace H := h6
  clear h6
  replace hS : (fun w' : World => w'.cell? ⟨b8, 1, none⟩ = some (.int .i64 a) ∧ w'.cell? ⟨b8, 2, none⟩ = some (.int .i64 b) ∧ w'.cell? ⟨b8, 3, none⟩ = some (.int .i64 c)) w11 := ⟨(X.cell (o := 1) rfl).1, (X.cell (o := 2) rfl).1, (X.cell (o := 3) rfl).1⟩
  refine ⟨_, rfl, hS, fun a11 K11 => ?_⟩
  clear k6
  clear K10
  refine dcall (i := 11) (o := { dst := (some 62), op := (Op.call { callee := (Callee.value (Operand.func 18)), args := #[(Operand.tmp 57), (Operand.tmp 59), (Operand.tmp 61)], argTypes := #[26, 3, 3] }), type := 4, pos := "law.go:38", after := #[{ on := 6, ground := Ground.data }, { on := 8, ground := Ground.data }, { on := 10, ground := Ground.data }, { on := 5, ground := Ground.chain }], guard := none }) (l2 := LS12_12) (f := 18) (args := #[.pointer (some ⟨q, 0, none⟩), .int .i64 a, .int .i64 c]) K11 rfl (by kernel_rfl) (by kernel_rfl) rfl rfl (want_none rfl) (fun ev E => ?_) (H.snd Rf.lies fun _ ha => xAdd _ _ ha) (fun e w12 hR => ?_)
  · have EC := E.const; have EF := E.func; have E57 := E.tmp 57 _ rfl; have E59 := E.tmp 59 _ rfl; have E61 := E.tmp 61 _ rfl; clear E K11 hN hq; go_simp
  obtain ⟨rfl, h6, k6⟩ := hR
  replace X := X.kept k6 (by simp)
  replace H := h6
  clear h6
  replace hS : (fun w' : World => w'.cell? ⟨b8, 1, none⟩ = some (.int .i64 a) ∧ w'.cell? ⟨b8, 2, none⟩ = some (.int .i64 b) ∧ w'.cell? ⟨b8, 3, none⟩ = some (.int .i64 c)) w12 := ⟨(X.cell (o := 1) rfl).1, (X.cell (o := 2) rfl).1, (X.cell (o := 3) rfl).1⟩
  refine ⟨_, rfl, hS, fun a12 K12 => ?_⟩
  clear k6
  clear K11
  refine dtake (i := 12) (o := { dst := (some 9), op := (Op.assign (Operand.tmp 56)), type := 4, pos := "law.go:38", after := #[{ on := 5, ground := Ground.data }, { on := 11, ground := Ground.chain }, { on := 0, ground := Ground.phase }, { on := 1, ground := Ground.phase }, { on := 2, ground := Ground.phase }, { on := 3, ground := Ground.phase }, { on := 4, ground := Ground.phase }, { on := 5, ground := Ground.phase }, { on := 6, ground := (Ground.textOnly Departure.lateStores) }, { on := 7, ground := (Ground.textOnly Departure.lateStores) }, { on := 8, ground := (Ground.textOnly Departure.lateStores) }, { on := 9, ground := (Ground.textOnly Departure.lateStores) }, { on := 10, ground := (Ground.textOnly Departure.lateStores) }, { on := 11, ground := (Ground.textOnly Departure.lateStoresUnsure) }], guard := none }) (v := .bool (T.addB a c)) (l2 := LS12_13) K12 hq rfl NS12 (by kernel_rfl) (by kernel_rfl) (by kernel_rfl) rfl rfl (want_none rfl) (fun ev E w9 hSw => ?_) hS (fun a13 K13 => ?_)
  · have EC := E.const; have E56 := E.tmp 56 _ rfl; clear E K12 hN hq; clear hSw; go_simp
  clear K12
  refine dtake (i := 13) (o := { dst := (some 10), op := (Op.assign (Operand.tmp 62)), type := 4, pos := "law.go:38", after := #[{ on := 11, ground := Ground.data }, { on := 12, ground := Ground.chain }, { on := 0, ground := Ground.phase }, { on := 1, ground := Ground.phase }, { on := 2, ground := Ground.phase }, { on := 3, ground := Ground.phase }, { on := 4, ground := Ground.phase }, { on := 5, ground := Ground.phase }, { on := 6, ground := Ground.phase }, { on := 7, ground := Ground.phase }, { on := 8, ground := Ground.phase }, { on := 9, ground := Ground.phase }, { on := 10, ground := Ground.phase }, { on := 11, ground := Ground.phase }, { on := 12, ground := Ground.phase }], guard := none }) (v := .bool (T.addB a c)) (l2 := LS12_14) K13 hq rfl NS12 (by kernel_rfl) (by kernel_rfl) (by kernel_rfl) rfl rfl (want_none rfl) (fun ev E w9 hSw => ?_) hS (fun a14 K14 => ?_)
  · have EC := E.const; have E62 := E.tmp 62 _ rfl; clear E K13 hN hq; clear hSw; go_simp
  clear K13
  refine wpAnyH_done (by kernel_rfl) ?_ _
  exact hN _ _ _ _ (K14.less ⟨rfl, rfl, rfl, rfl, rfl, rfl, rfl, trivial⟩) H X
set_option maxHeartbeats 4000000 in
theorem rg12 {w : World} {p q b8 : Nat} {T : Tr} {x : Option Addr} {len cap m : Nat} {kd a b c : Int} {NX : Act → World → Prop} {a0 : Act} {V : World} (K0 : Kn a0 303 [(1, .slice x len cap), (5, .pointer (some ⟨p, 0, none⟩)), (6, .pointer (some ⟨q, 0, none⟩)), (7, .int .i64 (m : Int)), (8, .pointer (some ⟨b8, 0, none⟩)), (9, .bool false), (10, .bool false)]) (H : Ob2 RfAt w V p q T T [b8]) (X : BoxAt V b8 #[.int .i64 kd, .int .i64 a, .int .i64 b, .int .i64 c] 29) (hN : ∀ a' (r : Bool) (T' : Tr) w', Kn a' 303 [(1, .slice x len cap), (5, .pointer (some ⟨p, 0, none⟩)), (6, .pointer (some ⟨q, 0, none⟩)), (7, .int .i64 (m : Int)), (8, .pointer (some ⟨b8, 0, none⟩)), (9, .bool r), (10, .bool r)] → Ob2 RfAt w w' p q T' T' [b8] → BoxAt w' b8 #[.int .i64 kd, .int .i64 a, .int .i64 b, .int .i64 c] 29 → NX a' w') :
    (Code.region 12 OPS12.toArray true).wp Try.prog (Norm NX) a0 V := by
  replace X := X.kept (H.below Rf.lies ((Below.refl _ _).drew)).2 (by simp)
  replace H := (H.below Rf.lies ((Below.refl _ _).drew)).1
  have hS : (fun w' : World => w'.cell? ⟨b8, 1, none⟩ = some (.int .i64 a) ∧ w'.cell? ⟨b8, 2, none⟩ = some (.int .i64 b) ∧ w'.cell? ⟨b8, 3, none⟩ = some (.int .i64 c)) V.drew := ⟨(X.cell (o := 1) rfl).1, (X.cell (o := 2) rfl).1, (X.cell (o := 3) rfl).1⟩
  refine wp_region_held_drew (S := (fun w' : World => w'.cell? ⟨b8, 1, none⟩ = some (.int .i64 a) ∧ w'.cell? ⟨b8, 2, none⟩ = some (.int .i64 b) ∧ w'.cell? ⟨b8, 3, none⟩ = some (.int .i64 c))) (by kernel_rfl) hS (fun hS => ?_)
  rw [show OPS12.toArray.size = 14 from by kernel_rfl, show Array.replicate 14 false = LS12_0 from by kernel_rfl]
  exact rg12_0 K0 H X hS hN
theorem NS14 : Region.noSelect OPS14.toArray = true := by kernel_rfl
def LS14_0 : Array Bool := [false, false, false, false, false, false, false, false, false, false].toArray
def LS14_1 : Array Bool := [true, false, false, false, false, false, false, false, false, false].toArray
def LS14_2 : Array Bool := [true, true, false, false, false, false, false, false, false, false].toArray
def LS14_3 : Array Bool := [true, true, true, false, false, false, false, false, false, false].toArray
def LS14_4 : Array Bool := [true, true, true, false, true, false, false, false, false, false].toArray
def LS14_5 : Array Bool := [true, true, true, false, true, true, false, false, false, false].toArray
def LS14_6 : Array Bool := [true, true, true, false, true, true, true, false, false, false].toArray
def LS14_7 : Array Bool := [true, true, true, true, true, true, true, false, false, false].toArray
def LS14_8 : Array Bool := [true, true, true, true, true, true, true, true, false, false].toArray
def LS14_9 : Array Bool := [true, true, true, true, true, true, true, true, true, false].toArray
def LS14_10 : Array Bool := [true, true, true, true, true, true, true, true, true, true].toArray
set_option maxHeartbeats 4000000 in
theorem rg14_0 {w : World} {p q b8 : Nat} {T : Tr} {x : Option Addr} {len cap m : Nat} {kd a b c : Int} {NX : Act → World → Prop} {a0 : Act} {W : World} (K0 : Kn a0 303 [(1, .slice x len cap), (5, .pointer (some ⟨p, 0, none⟩)), (6, .pointer (some ⟨q, 0, none⟩)), (7, .int .i64 (m : Int)), (8, .pointer (some ⟨b8, 0, none⟩)), (9, .bool false), (10, .bool false)]) (H : Ob2 RfAt w W p q T T [b8]) (X : BoxAt W b8 #[.int .i64 kd, .int .i64 a, .int .i64 b, .int .i64 c] 29) (hS : (fun w' : World => w'.cell? ⟨b8, 1, none⟩ = some (.int .i64 a) ∧ w'.cell? ⟨b8, 2, none⟩ = some (.int .i64 b) ∧ w'.cell? ⟨b8, 3, none⟩ = some (.int .i64 c)) W) (hN : ∀ a' (r : Bool) (T' : Tr) w', Kn a' 303 [(1, .slice x len cap), (5, .pointer (some ⟨p, 0, none⟩)), (6, .pointer (some ⟨q, 0, none⟩)), (7, .int .i64 (m : Int)), (8, .pointer (some ⟨b8, 0, none⟩)), (9, .bool r), (10, .bool r)] → Ob2 RfAt w w' p q T' T' [b8] → BoxAt w' b8 #[.int .i64 kd, .int .i64 a, .int .i64 b, .int .i64 c] 29 → NX a' w') :
    wpAnyH Try.prog .any OPS14.toArray (Norm NX) (fun w' : World => w'.cell? ⟨b8, 1, none⟩ = some (.int .i64 a) ∧ w'.cell? ⟨b8, 2, none⟩ = some (.int .i64 b) ∧ w'.cell? ⟨b8, 3, none⟩ = some (.int .i64 c)) 10 LS14_0 a0 W := by
  have hq : ∀ c a a' w', Norm NX (.panic c) a w' → Norm NX (.panic c) a' w' := fun _ _ _ _ h => h
  refine dtake (i := 0) (o := { dst := (some 65), op := (Op.move (Operand.tmp 5)), type := 23, pos := "law.go:40", after := #[], guard := none }) (v := .pointer (some ⟨p, 0, none⟩)) (l2 := LS14_1) K0 hq rfl NS14 (by kernel_rfl) (by kernel_rfl) (by kernel_rfl) rfl rfl (want_none rfl) (fun ev E w9 hSw => ?_) hS (fun a1 K1 => ?_)
  · have EC := E.const; have E5 := E.tmp 5 _ rfl; clear E K0 hN hq; clear hSw; go_simp
  refine dtake (i := 1) (o := { dst := (some 66), op := (Op.fieldAddr 29 (Operand.tmp 8) 1), type := 0, pos := "law.go:40", after := #[], guard := none }) (v := .pointer (some ⟨b8, 1, none⟩)) (l2 := LS14_2) K1 hq rfl NS14 (by kernel_rfl) (by kernel_rfl) (by kernel_rfl) rfl rfl (want_none rfl) (fun ev E w9 hSw => ?_) hS (fun a2 K2 => ?_)
  · have EC := E.const; have E8 := E.tmp 8 _ rfl; clear E K1 hN hq; clear hSw; go_simp
  clear K1
  refine dtake (i := 2) (o := { dst := (some 67), op := (Op.load 3 (Operand.tmp 66)), type := 3, pos := "law.go:40", after := #[{ on := 1, ground := Ground.data }], guard := none }) (v := .int .i64 a) (l2 := LS14_3) K2 hq rfl NS14 (by kernel_rfl) (by kernel_rfl) (by kernel_rfl) rfl rfl (want_none rfl) (fun ev E w9 hSw => ?_) hS (fun a3 K3 => ?_)
  · have EC := E.const; have E66 := E.tmp 66 _ rfl; clear E K2 hN hq; obtain ⟨z1, z2, z3⟩ := hSw; go_simp
  clear K2
  refine dtake (i := 4) (o := { dst := (some 69), op := (Op.move (Operand.tmp 6)), type := 26, pos := "law.go:40", after := #[], guard := none }) (v := .pointer (some ⟨q, 0, none⟩)) (l2 := LS14_4) K3 hq rfl NS14 (by kernel_rfl) (by kernel_rfl) (by kernel_rfl) rfl rfl (want_none rfl) (fun ev E w9 hSw => ?_) hS (fun a4 K4 => ?_)
  · have EC := E.const; have E6 := E.tmp 6 _ rfl; clear E K3 hN hq; clear hSw; go_simp
  clear K3
  refine dtake (i := 5) (o := { dst := (some 70), op := (Op.fieldAddr 29 (Operand.tmp 8) 1), type := 0, pos := "law.go:40", after := #[], guard := none }) (v := .pointer (some ⟨b8, 1, none⟩)) (l2 := LS14_5) K4 hq rfl NS14 (by kernel_rfl) (by kernel_rfl) (by kernel_rfl) rfl rfl (want_none rfl) (fun ev E w9 hSw => ?_) hS (fun a5 K5 => ?_)
  · have EC := E.const; have E8 := E.tmp 8 _ rfl; clear E K4 hN hq; clear hSw; go_simp
  clear K4
  refine dtake (i := 6) (o := { dst := (some 71), op := (Op.load 3 (Operand.tmp 70)), type := 3, pos := "law.go:40", after := #[{ on := 5, ground := Ground.data }], guard := none }) (v := .int .i64 a) (l2 := LS14_6) K5 hq rfl NS14 (by kernel_rfl) (by kernel_rfl) (by kernel_rfl) rfl rfl (want_none rfl) (fun ev E w9 hSw => ?_) hS (fun a6 K6 => ?_)
  · have EC := E.const; have E70 := E.tmp 70 _ rfl; clear E K5 hN hq; obtain ⟨z1, z2, z3⟩ := hSw; go_simp
  clear K5
  refine dcall (i := 3) (o := { dst := (some 68), op := (Op.call { callee := (Callee.value (Operand.func 19)), args := #[(Operand.tmp 65), (Operand.tmp 67)], argTypes := #[23, 3] }), type := 4, pos := "law.go:40", after := #[{ on := 0, ground := Ground.data }, { on := 2, ground := Ground.data }], guard := none }) (l2 := LS14_7) (f := 19) (args := #[.pointer (some ⟨p, 0, none⟩), .int .i64 a]) K6 rfl (by kernel_rfl) (by kernel_rfl) rfl rfl (want_none rfl) (fun ev E => ?_) (H.fst Rf.lies fun _ ha => aDrop _ ha) (fun e w7 hR => ?_)
  · have EC := E.const; have EF := E.func; have E65 := E.tmp 65 _ rfl; have E67 := E.tmp 67 _ rfl; clear E K6 hN hq; go_simp
  obtain ⟨rfl, h6, k6⟩ := hR
  replace X := X.kept k6 (by simp)
  replace H := h6
  clear h6
  replace hS : (fun w' : World => w'.cell? ⟨b8, 1, none⟩ = some (.int .i64 a) ∧ w'.cell? ⟨b8, 2, none⟩ = some (.int .i64 b) ∧ w'.cell? ⟨b8, 3, none⟩ = some (.int .i64 c)) w7 := ⟨(X.cell (o := 1) rfl).1, (X.cell (o := 2) rfl).1, (X.cell (o := 3) rfl).1⟩
  refine ⟨_, rfl, hS, fun a7 K7 => ?_⟩
  clear k6
  clear K6
  refine dcall (i := 7) (o := { dst := (some 72), op := (Op.call { callee := (Callee.value (Operand.func 20)), args := #[(Operand.tmp 69), (Operand.tmp 71)], argTypes := #[26, 3] }), type := 4, pos := "law.go:40", after := #[{ on := 4, ground := Ground.data }, { on := 6, ground := Ground.data }, { on := 3, ground := Ground.chain }], guard := none }) (l2 := LS14_8) (f := 20) (args := #[.pointer (some ⟨q, 0, none⟩), .int .i64 a]) K7 rfl (by kernel_rfl) (by kernel_rfl) rfl rfl (want_none rfl) (fun ev E => ?_) (H.snd Rf.lies fun _ ha => xDrop _ ha) (fun e w8 hR => ?_)
  · have EC := E.const; have EF := E.func; have E69 := E.tmp 69 _ rfl; have E71 := E.tmp 71 _ rfl; clear E K7 hN hq; go_simp
  obtain ⟨rfl, h6, k6⟩ := hR
  replace X := X.kept k6 (by simp)
  replace H := h6
  clear h6
  replace hS : (fun w' : World => w'.cell? ⟨b8, 1, none⟩ = some (.int .i64 a) ∧ w'.cell? ⟨b8, 2, none⟩ = some (.int .i64 b) ∧ w'.cell? ⟨b8, 3, none⟩ = some (.int .i64 c)) w8 := ⟨(X.cell (o := 1) rfl).1, (X.cell (o := 2) rfl).1, (X.cell (o := 3) rfl).1⟩
  refine ⟨_, rfl, hS, fun a8 K8 => ?_⟩
  clear k6
  clear K7
  refine dtake (i := 8) (o := { dst := (some 9), op := (Op.assign (Operand.tmp 68)), type := 4, pos := "law.go:40", after := #[{ on := 3, ground := Ground.data }, { on := 7, ground := Ground.chain }, { on := 0, ground := Ground.phase }, { on := 1, ground := Ground.phase }, { on := 2, ground := Ground.phase }, { on := 3, ground := Ground.phase }, { on := 4, ground := (Ground.textOnly Departure.lateStores) }, { on := 5, ground := (Ground.textOnly Departure.lateStores) }, { on := 6, ground := (Ground.textOnly Departure.lateStores) }, { on := 7, ground := (Ground.textOnly Departure.lateStoresUnsure) }], guard := none }) (v := .bool (T.goB a)) (l2 := LS14_9) K8 hq rfl NS14 (by kernel_rfl) (by kernel_rfl) (by kernel_rfl) rfl rfl (want_none rfl) (fun ev E w9 hSw => ?_) hS (fun a9 K9 => ?_)
  · have EC := E.const; have E68 := E.tmp 68 _ rfl; clear E K8 hN hq; clear hSw; go_simp
  clear K8
  refine dtake (i := 9) (o := { dst := (some 10), op := (Op.assign (Operand.tmp 72)), type := 4, pos := "law.go:40", after := #[{ on := 7, ground := Ground.data }, { on := 8, ground := Ground.chain }, { on := 0, ground := Ground.phase }, { on := 1, ground := Ground.phase }, { on := 2, ground := Ground.phase }, { on := 3, ground := Ground.phase }, { on := 4, ground := Ground.phase }, { on := 5, ground := Ground.phase }, { on := 6, ground := Ground.phase }, { on := 7, ground := Ground.phase }, { on := 8, ground := Ground.phase }], guard := none }) (v := .bool (T.goB a)) (l2 := LS14_10) K9 hq rfl NS14 (by kernel_rfl) (by kernel_rfl) (by kernel_rfl) rfl rfl (want_none rfl) (fun ev E w9 hSw => ?_) hS (fun a10 K10 => ?_)
  · have EC := E.const; have E72 := E.tmp 72 _ rfl; clear E K9 hN hq; clear hSw; go_simp
  clear K9
  refine wpAnyH_done (by kernel_rfl) ?_ _
  exact hN _ _ _ _ (K10.less ⟨rfl, rfl, rfl, rfl, rfl, rfl, rfl, trivial⟩) H X
set_option maxHeartbeats 4000000 in
theorem rg14 {w : World} {p q b8 : Nat} {T : Tr} {x : Option Addr} {len cap m : Nat} {kd a b c : Int} {NX : Act → World → Prop} {a0 : Act} {V : World} (K0 : Kn a0 303 [(1, .slice x len cap), (5, .pointer (some ⟨p, 0, none⟩)), (6, .pointer (some ⟨q, 0, none⟩)), (7, .int .i64 (m : Int)), (8, .pointer (some ⟨b8, 0, none⟩)), (9, .bool false), (10, .bool false)]) (H : Ob2 RfAt w V p q T T [b8]) (X : BoxAt V b8 #[.int .i64 kd, .int .i64 a, .int .i64 b, .int .i64 c] 29) (hN : ∀ a' (r : Bool) (T' : Tr) w', Kn a' 303 [(1, .slice x len cap), (5, .pointer (some ⟨p, 0, none⟩)), (6, .pointer (some ⟨q, 0, none⟩)), (7, .int .i64 (m : Int)), (8, .pointer (some ⟨b8, 0, none⟩)), (9, .bool r), (10, .bool r)] → Ob2 RfAt w w' p q T' T' [b8] → BoxAt w' b8 #[.int .i64 kd, .int .i64 a, .int .i64 b, .int .i64 c] 29 → NX a' w') :
    (Code.region 14 OPS14.toArray true).wp Try.prog (Norm NX) a0 V := by
  replace X := X.kept (H.below Rf.lies ((Below.refl _ _).drew)).2 (by simp)
  replace H := (H.below Rf.lies ((Below.refl _ _).drew)).1
  have hS : (fun w' : World => w'.cell? ⟨b8, 1, none⟩ = some (.int .i64 a) ∧ w'.cell? ⟨b8, 2, none⟩ = some (.int .i64 b) ∧ w'.cell? ⟨b8, 3, none⟩ = some (.int .i64 c)) V.drew := ⟨(X.cell (o := 1) rfl).1, (X.cell (o := 2) rfl).1, (X.cell (o := 3) rfl).1⟩
  refine wp_region_held_drew (S := (fun w' : World => w'.cell? ⟨b8, 1, none⟩ = some (.int .i64 a) ∧ w'.cell? ⟨b8, 2, none⟩ = some (.int .i64 b) ∧ w'.cell? ⟨b8, 3, none⟩ = some (.int .i64 c))) (by kernel_rfl) hS (fun hS => ?_)
  rw [show OPS14.toArray.size = 10 from by kernel_rfl, show Array.replicate 10 false = LS14_0 from by kernel_rfl]
  exact rg14_0 K0 H X hS hN
theorem NS16 : Region.noSelect OPS16.toArray = true := by kernel_rfl
def LS16_0 : Array Bool := [false, false, false, false, false, false, false, false, false, false, false, false, false, false].toArray
def LS16_1 : Array Bool := [true, false, false, false, false, false, false, false, false, false, false, false, false, false].toArray
def LS16_2 : Array Bool := [true, true, false, false, false, false, false, false, false, false, false, false, false, false].toArray
def LS16_3 : Array Bool := [true, true, true, false, false, false, false, false, false, false, false, false, false, false].toArray
def LS16_4 : Array Bool := [true, true, true, true, false, false, false, false, false, false, false, false, false, false].toArray
def LS16_5 : Array Bool := [true, true, true, true, true, false, false, false, false, false, false, false, false, false].toArray
def LS16_6 : Array Bool := [true, true, true, true, true, false, true, false, false, false, false, false, false, false].toArray
def LS16_7 : Array Bool := [true, true, true, true, true, false, true, true, false, false, false, false, false, false].toArray
def LS16_8 : Array Bool := [true, true, true, true, true, false, true, true, true, false, false, false, false, false].toArray
def LS16_9 : Array Bool := [true, true, true, true, true, false, true, true, true, true, false, false, false, false].toArray
def LS16_10 : Array Bool := [true, true, true, true, true, false, true, true, true, true, true, false, false, false].toArray
def LS16_11 : Array Bool := [true, true, true, true, true, true, true, true, true, true, true, false, false, false].toArray
def LS16_12 : Array Bool := [true, true, true, true, true, true, true, true, true, true, true, true, false, false].toArray
def LS16_13 : Array Bool := [true, true, true, true, true, true, true, true, true, true, true, true, true, false].toArray
def LS16_14 : Array Bool := [true, true, true, true, true, true, true, true, true, true, true, true, true, true].toArray
set_option maxHeartbeats 4000000 in
theorem rg16_0 {w : World} {p q b8 : Nat} {T : Tr} {x : Option Addr} {len cap m : Nat} {kd a b c : Int} {NX : Act → World → Prop} {a0 : Act} {W : World} (K0 : Kn a0 303 [(1, .slice x len cap), (5, .pointer (some ⟨p, 0, none⟩)), (6, .pointer (some ⟨q, 0, none⟩)), (7, .int .i64 (m : Int)), (8, .pointer (some ⟨b8, 0, none⟩)), (9, .bool false), (10, .bool false)]) (H : Ob2 RfAt w W p q T T [b8]) (X : BoxAt W b8 #[.int .i64 kd, .int .i64 a, .int .i64 b, .int .i64 c] 29) (hS : (fun w' : World => w'.cell? ⟨b8, 1, none⟩ = some (.int .i64 a) ∧ w'.cell? ⟨b8, 2, none⟩ = some (.int .i64 b) ∧ w'.cell? ⟨b8, 3, none⟩ = some (.int .i64 c)) W) (hN : ∀ a' (r : Bool) (T' : Tr) w', Kn a' 303 [(1, .slice x len cap), (5, .pointer (some ⟨p, 0, none⟩)), (6, .pointer (some ⟨q, 0, none⟩)), (7, .int .i64 (m : Int)), (8, .pointer (some ⟨b8, 0, none⟩)), (9, .bool r), (10, .bool r)] → Ob2 RfAt w w' p q T' T' [b8] → BoxAt w' b8 #[.int .i64 kd, .int .i64 a, .int .i64 b, .int .i64 c] 29 → NX a' w') :
    wpAnyH Try.prog .any OPS16.toArray (Norm NX) (fun w' : World => w'.cell? ⟨b8, 1, none⟩ = some (.int .i64 a) ∧ w'.cell? ⟨b8, 2, none⟩ = some (.int .i64 b) ∧ w'.cell? ⟨b8, 3, none⟩ = some (.int .i64 c)) 14 LS16_0 a0 W := by
  have hq : ∀ c a a' w', Norm NX (.panic c) a w' → Norm NX (.panic c) a' w' := fun _ _ _ _ h => h
  refine dtake (i := 0) (o := { dst := (some 75), op := (Op.move (Operand.tmp 5)), type := 23, pos := "law.go:42", after := #[], guard := none }) (v := .pointer (some ⟨p, 0, none⟩)) (l2 := LS16_1) K0 hq rfl NS16 (by kernel_rfl) (by kernel_rfl) (by kernel_rfl) rfl rfl (want_none rfl) (fun ev E w9 hSw => ?_) hS (fun a1 K1 => ?_)
  · have EC := E.const; have E5 := E.tmp 5 _ rfl; clear E K0 hN hq; clear hSw; go_simp
  refine dtake (i := 1) (o := { dst := (some 76), op := (Op.fieldAddr 29 (Operand.tmp 8) 1), type := 0, pos := "law.go:42", after := #[], guard := none }) (v := .pointer (some ⟨b8, 1, none⟩)) (l2 := LS16_2) K1 hq rfl NS16 (by kernel_rfl) (by kernel_rfl) (by kernel_rfl) rfl rfl (want_none rfl) (fun ev E w9 hSw => ?_) hS (fun a2 K2 => ?_)
  · have EC := E.const; have E8 := E.tmp 8 _ rfl; clear E K1 hN hq; clear hSw; go_simp
  clear K1
  refine dtake (i := 2) (o := { dst := (some 77), op := (Op.load 3 (Operand.tmp 76)), type := 3, pos := "law.go:42", after := #[{ on := 1, ground := Ground.data }], guard := none }) (v := .int .i64 a) (l2 := LS16_3) K2 hq rfl NS16 (by kernel_rfl) (by kernel_rfl) (by kernel_rfl) rfl rfl (want_none rfl) (fun ev E w9 hSw => ?_) hS (fun a3 K3 => ?_)
  · have EC := E.const; have E76 := E.tmp 76 _ rfl; clear E K2 hN hq; obtain ⟨z1, z2, z3⟩ := hSw; go_simp
  clear K2
  refine dtake (i := 3) (o := { dst := (some 78), op := (Op.fieldAddr 29 (Operand.tmp 8) 2), type := 0, pos := "law.go:42", after := #[], guard := none }) (v := .pointer (some ⟨b8, 2, none⟩)) (l2 := LS16_4) K3 hq rfl NS16 (by kernel_rfl) (by kernel_rfl) (by kernel_rfl) rfl rfl (want_none rfl) (fun ev E w9 hSw => ?_) hS (fun a4 K4 => ?_)
  · have EC := E.const; have E8 := E.tmp 8 _ rfl; clear E K3 hN hq; clear hSw; go_simp
  clear K3
  refine dtake (i := 4) (o := { dst := (some 79), op := (Op.load 3 (Operand.tmp 78)), type := 3, pos := "law.go:42", after := #[{ on := 3, ground := Ground.data }], guard := none }) (v := .int .i64 b) (l2 := LS16_5) K4 hq rfl NS16 (by kernel_rfl) (by kernel_rfl) (by kernel_rfl) rfl rfl (want_none rfl) (fun ev E w9 hSw => ?_) hS (fun a5 K5 => ?_)
  · have EC := E.const; have E78 := E.tmp 78 _ rfl; clear E K4 hN hq; obtain ⟨z1, z2, z3⟩ := hSw; go_simp
  clear K4
  refine dtake (i := 6) (o := { dst := (some 81), op := (Op.move (Operand.tmp 6)), type := 26, pos := "law.go:42", after := #[], guard := none }) (v := .pointer (some ⟨q, 0, none⟩)) (l2 := LS16_6) K5 hq rfl NS16 (by kernel_rfl) (by kernel_rfl) (by kernel_rfl) rfl rfl (want_none rfl) (fun ev E w9 hSw => ?_) hS (fun a6 K6 => ?_)
  · have EC := E.const; have E6 := E.tmp 6 _ rfl; clear E K5 hN hq; clear hSw; go_simp
  clear K5
  refine dtake (i := 7) (o := { dst := (some 82), op := (Op.fieldAddr 29 (Operand.tmp 8) 1), type := 0, pos := "law.go:42", after := #[], guard := none }) (v := .pointer (some ⟨b8, 1, none⟩)) (l2 := LS16_7) K6 hq rfl NS16 (by kernel_rfl) (by kernel_rfl) (by kernel_rfl) rfl rfl (want_none rfl) (fun ev E w9 hSw => ?_) hS (fun a7 K7 => ?_)
  · have EC := E.const; have E8 := E.tmp 8 _ rfl; clear E K6 hN hq; clear hSw; go_simp
  clear K6
  refine dtake (i := 8) (o := { dst := (some 83), op := (Op.load 3 (Operand.tmp 82)), type := 3, pos := "law.go:42", after := #[{ on := 7, ground := Ground.data }], guard := none }) (v := .int .i64 a) (l2 := LS16_8) K7 hq rfl NS16 (by kernel_rfl) (by kernel_rfl) (by kernel_rfl) rfl rfl (want_none rfl) (fun ev E w9 hSw => ?_) hS (fun a8 K8 => ?_)
  · have EC := E.const; have E82 := E.tmp 82 _ rfl; clear E K7 hN hq; obtain ⟨z1, z2, z3⟩ := hSw; go_simp
  clear K7
  refine dtake (i := 9) (o := { dst := (some 84), op := (Op.fieldAddr 29 (Operand.tmp 8) 2), type := 0, pos := "law.go:42", after := #[], guard := none }) (v := .pointer (some ⟨b8, 2, none⟩)) (l2 := LS16_9) K8 hq rfl NS16 (by kernel_rfl) (by kernel_rfl) (by kernel_rfl) rfl rfl (want_none rfl) (fun ev E w9 hSw => ?_) hS (fun a9 K9 => ?_)
  · have EC := E.const; have E8 := E.tmp 8 _ rfl; clear E K8 hN hq; clear hSw; go_simp
  clear K8
  refine dtake (i := 10) (o := { dst := (some 85), op := (Op.load 3 (Operand.tmp 84)), type := 3, pos := "law.go:42", after := #[{ on := 9, ground := Ground.data }], guard := none }) (v := .int .i64 b) (l2 := LS16_10) K9 hq rfl NS16 (by kernel_rfl) (by kernel_rfl) (by kernel_rfl) rfl rfl (want_none rfl) (fun ev E w9 hSw => ?_) hS (fun a10 K10 => ?_)
  · have EC := E.const; have E84 := E.tmp 84 _ rfl; clear E K9 hN hq; obtain ⟨z1, z2, z3⟩ := hSw; go_simp
  clear K9
  refine dcall (i := 5) (o := { dst := (some 80), op := (Op.call { callee := (Callee.value (Operand.func 21)), args := #[(Operand.tmp 75), (Operand.tmp 77), (Operand.tmp 79)], argTypes := #[23, 3, 3] }), type := 4, pos := "law.go:42", after := #[{ on := 0, ground := Ground.data }, { on := 2, ground := Ground.data }, { on := 4, ground := Ground.data }], guard := none }) (l2 := LS16_11) (f := 21) (args := #[.pointer (some ⟨p, 0, none⟩), .int .i64 a, .int .i64 b]) K10 rfl (by kernel_rfl) (by kernel_rfl) rfl rfl (want_none rfl) (fun ev E => ?_) (H.fst Rf.lies fun _ ha => aLink _ _ ha) (fun e w11 hR => ?_)
  · have EC := E.const; have EF := E.func; have E75 := E.tmp 75 _ rfl; have E77 := E.tmp 77 _ rfl; have E79 := E.tmp 79 _ rfl; clear E K10 hN hq; go_simp
  obtain ⟨rfl, h6, k6⟩ := hR
  replace X := X.kept k6 (by simp)
  replace H := h6
  clear h6
  replace hS : (fun w' : World => w'.cell? ⟨b8, 1, none⟩ = some (.int .i64 a) ∧ w'.cell? ⟨b8, 2, none⟩ = some (.int .i64 b) ∧ w'.cell? ⟨b8, 3, none⟩ = some (.int .i64 c)) w11 := ⟨(X.cell (o := 1) rfl).1, (X.cell (o := 2) rfl).1, (X.cell (o := 3) rfl).1⟩
  refine ⟨_, rfl, hS, fun a11 K11 => ?_⟩
  clear k6
  clear K10
  refine dcall (i := 11) (o := { dst := (some 86), op := (Op.call { callee := (Callee.value (Operand.func 22)), args := #[(Operand.tmp 81), (Operand.tmp 83), (Operand.tmp 85)], argTypes := #[26, 3, 3] }), type := 4, pos := "law.go:42", after := #[{ on := 6, ground := Ground.data }, { on := 8, ground := Ground.data }, { on := 10, ground := Ground.data }, { on := 5, ground := Ground.chain }], guard := none }) (l2 := LS16_12) (f := 22) (args := #[.pointer (some ⟨q, 0, none⟩), .int .i64 a, .int .i64 b]) K11 rfl (by kernel_rfl) (by kernel_rfl) rfl rfl (want_none rfl) (fun ev E => ?_) (H.snd Rf.lies fun _ ha => xLink _ _ ha) (fun e w12 hR => ?_)
  · have EC := E.const; have EF := E.func; have E81 := E.tmp 81 _ rfl; have E83 := E.tmp 83 _ rfl; have E85 := E.tmp 85 _ rfl; clear E K11 hN hq; go_simp
  obtain ⟨rfl, h6, k6⟩ := hR
  replace X := X.kept k6 (by simp)
  replace H := h6
  clear h6
  replace hS : (fun w' : World => w'.cell? ⟨b8, 1, none⟩ = some (.int .i64 a) ∧ w'.cell? ⟨b8, 2, none⟩ = some (.int .i64 b) ∧ w'.cell? ⟨b8, 3, none⟩ = some (.int .i64 c)) w12 := ⟨(X.cell (o := 1) rfl).1, (X.cell (o := 2) rfl).1, (X.cell (o := 3) rfl).1⟩
  refine ⟨_, rfl, hS, fun a12 K12 => ?_⟩
  clear k6
  clear K11
  refine dtake (i := 12) (o := { dst := (some 9), op := (Op.assign (Operand.tmp 80)), type := 4, pos := "law.go:42", after := #[{ on := 5, ground := Ground.data }, { on := 11, ground := Ground.chain }, { on := 0, ground := Ground.phase }, { on := 1, ground := Ground.phase }, { on := 2, ground := Ground.phase }, { on := 3, ground := Ground.phase }, { on := 4, ground := Ground.phase }, { on := 5, ground := Ground.phase }, { on := 6, ground := (Ground.textOnly Departure.lateStores) }, { on := 7, ground := (Ground.textOnly Departure.lateStores) }, { on := 8, ground := (Ground.textOnly Departure.lateStores) }, { on := 9, ground := (Ground.textOnly Departure.lateStores) }, { on := 10, ground := (Ground.textOnly Departure.lateStores) }, { on := 11, ground := (Ground.textOnly Departure.lateStoresUnsure) }], guard := none }) (v := .bool (T.linkB a b)) (l2 := LS16_13) K12 hq rfl NS16 (by kernel_rfl) (by kernel_rfl) (by kernel_rfl) rfl rfl (want_none rfl) (fun ev E w9 hSw => ?_) hS (fun a13 K13 => ?_)
  · have EC := E.const; have E80 := E.tmp 80 _ rfl; clear E K12 hN hq; clear hSw; go_simp
  clear K12
  refine dtake (i := 13) (o := { dst := (some 10), op := (Op.assign (Operand.tmp 86)), type := 4, pos := "law.go:42", after := #[{ on := 11, ground := Ground.data }, { on := 12, ground := Ground.chain }, { on := 0, ground := Ground.phase }, { on := 1, ground := Ground.phase }, { on := 2, ground := Ground.phase }, { on := 3, ground := Ground.phase }, { on := 4, ground := Ground.phase }, { on := 5, ground := Ground.phase }, { on := 6, ground := Ground.phase }, { on := 7, ground := Ground.phase }, { on := 8, ground := Ground.phase }, { on := 9, ground := Ground.phase }, { on := 10, ground := Ground.phase }, { on := 11, ground := Ground.phase }, { on := 12, ground := Ground.phase }], guard := none }) (v := .bool (T.linkB a b)) (l2 := LS16_14) K13 hq rfl NS16 (by kernel_rfl) (by kernel_rfl) (by kernel_rfl) rfl rfl (want_none rfl) (fun ev E w9 hSw => ?_) hS (fun a14 K14 => ?_)
  · have EC := E.const; have E86 := E.tmp 86 _ rfl; clear E K13 hN hq; clear hSw; go_simp
  clear K13
  refine wpAnyH_done (by kernel_rfl) ?_ _
  exact hN _ _ _ _ (K14.less ⟨rfl, rfl, rfl, rfl, rfl, rfl, rfl, trivial⟩) H X
set_option maxHeartbeats 4000000 in
theorem rg16 {w : World} {p q b8 : Nat} {T : Tr} {x : Option Addr} {len cap m : Nat} {kd a b c : Int} {NX : Act → World → Prop} {a0 : Act} {V : World} (K0 : Kn a0 303 [(1, .slice x len cap), (5, .pointer (some ⟨p, 0, none⟩)), (6, .pointer (some ⟨q, 0, none⟩)), (7, .int .i64 (m : Int)), (8, .pointer (some ⟨b8, 0, none⟩)), (9, .bool false), (10, .bool false)]) (H : Ob2 RfAt w V p q T T [b8]) (X : BoxAt V b8 #[.int .i64 kd, .int .i64 a, .int .i64 b, .int .i64 c] 29) (hN : ∀ a' (r : Bool) (T' : Tr) w', Kn a' 303 [(1, .slice x len cap), (5, .pointer (some ⟨p, 0, none⟩)), (6, .pointer (some ⟨q, 0, none⟩)), (7, .int .i64 (m : Int)), (8, .pointer (some ⟨b8, 0, none⟩)), (9, .bool r), (10, .bool r)] → Ob2 RfAt w w' p q T' T' [b8] → BoxAt w' b8 #[.int .i64 kd, .int .i64 a, .int .i64 b, .int .i64 c] 29 → NX a' w') :
    (Code.region 16 OPS16.toArray true).wp Try.prog (Norm NX) a0 V := by
  replace X := X.kept (H.below Rf.lies ((Below.refl _ _).drew)).2 (by simp)
  replace H := (H.below Rf.lies ((Below.refl _ _).drew)).1
  have hS : (fun w' : World => w'.cell? ⟨b8, 1, none⟩ = some (.int .i64 a) ∧ w'.cell? ⟨b8, 2, none⟩ = some (.int .i64 b) ∧ w'.cell? ⟨b8, 3, none⟩ = some (.int .i64 c)) V.drew := ⟨(X.cell (o := 1) rfl).1, (X.cell (o := 2) rfl).1, (X.cell (o := 3) rfl).1⟩
  refine wp_region_held_drew (S := (fun w' : World => w'.cell? ⟨b8, 1, none⟩ = some (.int .i64 a) ∧ w'.cell? ⟨b8, 2, none⟩ = some (.int .i64 b) ∧ w'.cell? ⟨b8, 3, none⟩ = some (.int .i64 c))) (by kernel_rfl) hS (fun hS => ?_)
  rw [show OPS16.toArray.size = 14 from by kernel_rfl, show Array.replicate 14 false = LS16_0 from by kernel_rfl]
  exact rg16_0 K0 H X hS hN
theorem NS18 : Region.noSelect OPS18.toArray = true := by kernel_rfl
def LS18_0 : Array Bool := [false, false, false, false, false, false, false, false, false, false].toArray
def LS18_1 : Array Bool := [true, false, false, false, false, false, false, false, false, false].toArray
def LS18_2 : Array Bool := [true, true, false, false, false, false, false, false, false, false].toArray
def LS18_3 : Array Bool := [true, true, true, false, false, false, false, false, false, false].toArray
def LS18_4 : Array Bool := [true, true, true, false, true, false, false, false, false, false].toArray
def LS18_5 : Array Bool := [true, true, true, false, true, true, false, false, false, false].toArray
def LS18_6 : Array Bool := [true, true, true, false, true, true, true, false, false, false].toArray
def LS18_7 : Array Bool := [true, true, true, true, true, true, true, false, false, false].toArray
def LS18_8 : Array Bool := [true, true, true, true, true, true, true, true, false, false].toArray
def LS18_9 : Array Bool := [true, true, true, true, true, true, true, true, true, false].toArray
def LS18_10 : Array Bool := [true, true, true, true, true, true, true, true, true, true].toArray
set_option maxHeartbeats 4000000 in
theorem rg18_0 {w : World} {p q b8 : Nat} {T : Tr} {x : Option Addr} {len cap m : Nat} {kd a b c : Int} {NX : Act → World → Prop} {a0 : Act} {W : World} (K0 : Kn a0 303 [(1, .slice x len cap), (5, .pointer (some ⟨p, 0, none⟩)), (6, .pointer (some ⟨q, 0, none⟩)), (7, .int .i64 (m : Int)), (8, .pointer (some ⟨b8, 0, none⟩)), (9, .bool false), (10, .bool false)]) (H : Ob2 RfAt w W p q T T [b8]) (X : BoxAt W b8 #[.int .i64 kd, .int .i64 a, .int .i64 b, .int .i64 c] 29) (hS : (fun w' : World => w'.cell? ⟨b8, 1, none⟩ = some (.int .i64 a) ∧ w'.cell? ⟨b8, 2, none⟩ = some (.int .i64 b) ∧ w'.cell? ⟨b8, 3, none⟩ = some (.int .i64 c)) W) (hN : ∀ a' (r : Bool) (T' : Tr) w', Kn a' 303 [(1, .slice x len cap), (5, .pointer (some ⟨p, 0, none⟩)), (6, .pointer (some ⟨q, 0, none⟩)), (7, .int .i64 (m : Int)), (8, .pointer (some ⟨b8, 0, none⟩)), (9, .bool r), (10, .bool r)] → Ob2 RfAt w w' p q T' T' [b8] → BoxAt w' b8 #[.int .i64 kd, .int .i64 a, .int .i64 b, .int .i64 c] 29 → NX a' w') :
    wpAnyH Try.prog .any OPS18.toArray (Norm NX) (fun w' : World => w'.cell? ⟨b8, 1, none⟩ = some (.int .i64 a) ∧ w'.cell? ⟨b8, 2, none⟩ = some (.int .i64 b) ∧ w'.cell? ⟨b8, 3, none⟩ = some (.int .i64 c)) 10 LS18_0 a0 W := by
  have hq : ∀ c a a' w', Norm NX (.panic c) a w' → Norm NX (.panic c) a' w' := fun _ _ _ _ h => h
  refine dtake (i := 0) (o := { dst := (some 89), op := (Op.move (Operand.tmp 5)), type := 23, pos := "law.go:44", after := #[], guard := none }) (v := .pointer (some ⟨p, 0, none⟩)) (l2 := LS18_1) K0 hq rfl NS18 (by kernel_rfl) (by kernel_rfl) (by kernel_rfl) rfl rfl (want_none rfl) (fun ev E w9 hSw => ?_) hS (fun a1 K1 => ?_)
  · have EC := E.const; have E5 := E.tmp 5 _ rfl; clear E K0 hN hq; clear hSw; go_simp
  refine dtake (i := 1) (o := { dst := (some 90), op := (Op.fieldAddr 29 (Operand.tmp 8) 1), type := 0, pos := "law.go:44", after := #[], guard := none }) (v := .pointer (some ⟨b8, 1, none⟩)) (l2 := LS18_2) K1 hq rfl NS18 (by kernel_rfl) (by kernel_rfl) (by kernel_rfl) rfl rfl (want_none rfl) (fun ev E w9 hSw => ?_) hS (fun a2 K2 => ?_)
  · have EC := E.const; have E8 := E.tmp 8 _ rfl; clear E K1 hN hq; clear hSw; go_simp
  clear K1
  refine dtake (i := 2) (o := { dst := (some 91), op := (Op.load 3 (Operand.tmp 90)), type := 3, pos := "law.go:44", after := #[{ on := 1, ground := Ground.data }], guard := none }) (v := .int .i64 a) (l2 := LS18_3) K2 hq rfl NS18 (by kernel_rfl) (by kernel_rfl) (by kernel_rfl) rfl rfl (want_none rfl) (fun ev E w9 hSw => ?_) hS (fun a3 K3 => ?_)
  · have EC := E.const; have E90 := E.tmp 90 _ rfl; clear E K2 hN hq; obtain ⟨z1, z2, z3⟩ := hSw; go_simp
  clear K2
  refine dtake (i := 4) (o := { dst := (some 93), op := (Op.move (Operand.tmp 6)), type := 26, pos := "law.go:44", after := #[], guard := none }) (v := .pointer (some ⟨q, 0, none⟩)) (l2 := LS18_4) K3 hq rfl NS18 (by kernel_rfl) (by kernel_rfl) (by kernel_rfl) rfl rfl (want_none rfl) (fun ev E w9 hSw => ?_) hS (fun a4 K4 => ?_)
  · have EC := E.const; have E6 := E.tmp 6 _ rfl; clear E K3 hN hq; clear hSw; go_simp
  clear K3
  refine dtake (i := 5) (o := { dst := (some 94), op := (Op.fieldAddr 29 (Operand.tmp 8) 1), type := 0, pos := "law.go:44", after := #[], guard := none }) (v := .pointer (some ⟨b8, 1, none⟩)) (l2 := LS18_5) K4 hq rfl NS18 (by kernel_rfl) (by kernel_rfl) (by kernel_rfl) rfl rfl (want_none rfl) (fun ev E w9 hSw => ?_) hS (fun a5 K5 => ?_)
  · have EC := E.const; have E8 := E.tmp 8 _ rfl; clear E K4 hN hq; clear hSw; go_simp
  clear K4
  refine dtake (i := 6) (o := { dst := (some 95), op := (Op.load 3 (Operand.tmp 94)), type := 3, pos := "law.go:44", after := #[{ on := 5, ground := Ground.data }], guard := none }) (v := .int .i64 a) (l2 := LS18_6) K5 hq rfl NS18 (by kernel_rfl) (by kernel_rfl) (by kernel_rfl) rfl rfl (want_none rfl) (fun ev E w9 hSw => ?_) hS (fun a6 K6 => ?_)
  · have EC := E.const; have E94 := E.tmp 94 _ rfl; clear E K5 hN hq; obtain ⟨z1, z2, z3⟩ := hSw; go_simp
  clear K5
  refine dcall (i := 3) (o := { dst := (some 92), op := (Op.call { callee := (Callee.value (Operand.func 23)), args := #[(Operand.tmp 89), (Operand.tmp 91)], argTypes := #[23, 3] }), type := 4, pos := "law.go:44", after := #[{ on := 0, ground := Ground.data }, { on := 2, ground := Ground.data }], guard := none }) (l2 := LS18_7) (f := 23) (args := #[.pointer (some ⟨p, 0, none⟩), .int .i64 a]) K6 rfl (by kernel_rfl) (by kernel_rfl) rfl rfl (want_none rfl) (fun ev E => ?_) (H.fst Rf.lies fun _ ha => aCut _ ha) (fun e w7 hR => ?_)
  · have EC := E.const; have EF := E.func; have E89 := E.tmp 89 _ rfl; have E91 := E.tmp 91 _ rfl; clear E K6 hN hq; go_simp
  obtain ⟨rfl, h6, k6⟩ := hR
  replace X := X.kept k6 (by simp)
  replace H := h6
  clear h6
  replace hS : (fun w' : World => w'.cell? ⟨b8, 1, none⟩ = some (.int .i64 a) ∧ w'.cell? ⟨b8, 2, none⟩ = some (.int .i64 b) ∧ w'.cell? ⟨b8, 3, none⟩ = some (.int .i64 c)) w7 := ⟨(X.cell (o := 1) rfl).1, (X.cell (o := 2) rfl).1, (X.cell (o := 3) rfl).1⟩
  refine ⟨_, rfl, hS, fun a7 K7 => ?_⟩
  clear k6
  clear K6
  refine dcall (i := 7) (o := { dst := (some 96), op := (Op.call { callee := (Callee.value (Operand.func 24)), args := #[(Operand.tmp 93), (Operand.tmp 95)], argTypes := #[26, 3] }), type := 4, pos := "law.go:44", after := #[{ on := 4, ground := Ground.data }, { on := 6, ground := Ground.data }, { on := 3, ground := Ground.chain }], guard := none }) (l2 := LS18_8) (f := 24) (args := #[.pointer (some ⟨q, 0, none⟩), .int .i64 a]) K7 rfl (by kernel_rfl) (by kernel_rfl) rfl rfl (want_none rfl) (fun ev E => ?_) (H.snd Rf.lies fun _ ha => xCut _ ha) (fun e w8 hR => ?_)
  · have EC := E.const; have EF := E.func; have E93 := E.tmp 93 _ rfl; have E95 := E.tmp 95 _ rfl; clear E K7 hN hq; go_simp
  obtain ⟨rfl, h6, k6⟩ := hR
  replace X := X.kept k6 (by simp)
  replace H := h6
  clear h6
  replace hS : (fun w' : World => w'.cell? ⟨b8, 1, none⟩ = some (.int .i64 a) ∧ w'.cell? ⟨b8, 2, none⟩ = some (.int .i64 b) ∧ w'.cell? ⟨b8, 3, none⟩ = some (.int .i64 c)) w8 := ⟨(X.cell (o := 1) rfl).1, (X.cell (o := 2) rfl).1, (X.cell (o := 3) rfl).1⟩
  refine ⟨_, rfl, hS, fun a8 K8 => ?_⟩
  clear k6
  clear K7
  refine dtake (i := 8) (o := { dst := (some 9), op := (Op.assign (Operand.tmp 92)), type := 4, pos := "law.go:44", after := #[{ on := 3, ground := Ground.data }, { on := 7, ground := Ground.chain }, { on := 0, ground := Ground.phase }, { on := 1, ground := Ground.phase }, { on := 2, ground := Ground.phase }, { on := 3, ground := Ground.phase }, { on := 4, ground := (Ground.textOnly Departure.lateStores) }, { on := 5, ground := (Ground.textOnly Departure.lateStores) }, { on := 6, ground := (Ground.textOnly Departure.lateStores) }, { on := 7, ground := (Ground.textOnly Departure.lateStoresUnsure) }], guard := none }) (v := .bool (T.cutB a)) (l2 := LS18_9) K8 hq rfl NS18 (by kernel_rfl) (by kernel_rfl) (by kernel_rfl) rfl rfl (want_none rfl) (fun ev E w9 hSw => ?_) hS (fun a9 K9 => ?_)
  · have EC := E.const; have E92 := E.tmp 92 _ rfl; clear E K8 hN hq; clear hSw; go_simp
  clear K8
  refine dtake (i := 9) (o := { dst := (some 10), op := (Op.assign (Operand.tmp 96)), type := 4, pos := "law.go:44", after := #[{ on := 7, ground := Ground.data }, { on := 8, ground := Ground.chain }, { on := 0, ground := Ground.phase }, { on := 1, ground := Ground.phase }, { on := 2, ground := Ground.phase }, { on := 3, ground := Ground.phase }, { on := 4, ground := Ground.phase }, { on := 5, ground := Ground.phase }, { on := 6, ground := Ground.phase }, { on := 7, ground := Ground.phase }, { on := 8, ground := Ground.phase }], guard := none }) (v := .bool (T.cutB a)) (l2 := LS18_10) K9 hq rfl NS18 (by kernel_rfl) (by kernel_rfl) (by kernel_rfl) rfl rfl (want_none rfl) (fun ev E w9 hSw => ?_) hS (fun a10 K10 => ?_)
  · have EC := E.const; have E96 := E.tmp 96 _ rfl; clear E K9 hN hq; clear hSw; go_simp
  clear K9
  refine wpAnyH_done (by kernel_rfl) ?_ _
  exact hN _ _ _ _ (K10.less ⟨rfl, rfl, rfl, rfl, rfl, rfl, rfl, trivial⟩) H X
set_option maxHeartbeats 4000000 in
theorem rg18 {w : World} {p q b8 : Nat} {T : Tr} {x : Option Addr} {len cap m : Nat} {kd a b c : Int} {NX : Act → World → Prop} {a0 : Act} {V : World} (K0 : Kn a0 303 [(1, .slice x len cap), (5, .pointer (some ⟨p, 0, none⟩)), (6, .pointer (some ⟨q, 0, none⟩)), (7, .int .i64 (m : Int)), (8, .pointer (some ⟨b8, 0, none⟩)), (9, .bool false), (10, .bool false)]) (H : Ob2 RfAt w V p q T T [b8]) (X : BoxAt V b8 #[.int .i64 kd, .int .i64 a, .int .i64 b, .int .i64 c] 29) (hN : ∀ a' (r : Bool) (T' : Tr) w', Kn a' 303 [(1, .slice x len cap), (5, .pointer (some ⟨p, 0, none⟩)), (6, .pointer (some ⟨q, 0, none⟩)), (7, .int .i64 (m : Int)), (8, .pointer (some ⟨b8, 0, none⟩)), (9, .bool r), (10, .bool r)] → Ob2 RfAt w w' p q T' T' [b8] → BoxAt w' b8 #[.int .i64 kd, .int .i64 a, .int .i64 b, .int .i64 c] 29 → NX a' w') :
    (Code.region 18 OPS18.toArray true).wp Try.prog (Norm NX) a0 V := by
  replace X := X.kept (H.below Rf.lies ((Below.refl _ _).drew)).2 (by simp)
  replace H := (H.below Rf.lies ((Below.refl _ _).drew)).1
  have hS : (fun w' : World => w'.cell? ⟨b8, 1, none⟩ = some (.int .i64 a) ∧ w'.cell? ⟨b8, 2, none⟩ = some (.int .i64 b) ∧ w'.cell? ⟨b8, 3, none⟩ = some (.int .i64 c)) V.drew := ⟨(X.cell (o := 1) rfl).1, (X.cell (o := 2) rfl).1, (X.cell (o := 3) rfl).1⟩
  refine wp_region_held_drew (S := (fun w' : World => w'.cell? ⟨b8, 1, none⟩ = some (.int .i64 a) ∧ w'.cell? ⟨b8, 2, none⟩ = some (.int .i64 b) ∧ w'.cell? ⟨b8, 3, none⟩ = some (.int .i64 c))) (by kernel_rfl) hS (fun hS => ?_)
  rw [show OPS18.toArray.size = 10 from by kernel_rfl, show Array.replicate 10 false = LS18_0 from by kernel_rfl]
  exact rg18_0 K0 H X hS hN
theorem NS20 : Region.noSelect OPS20.toArray = true := by kernel_rfl
def LS20_0 : Array Bool := [false, false, false, false, false, false, false, false, false, false].toArray
def LS20_1 : Array Bool := [true, false, false, false, false, false, false, false, false, false].toArray
def LS20_2 : Array Bool := [true, true, false, false, false, false, false, false, false, false].toArray
def LS20_3 : Array Bool := [true, true, true, false, false, false, false, false, false, false].toArray
def LS20_4 : Array Bool := [true, true, true, false, true, false, false, false, false, false].toArray
def LS20_5 : Array Bool := [true, true, true, false, true, true, false, false, false, false].toArray
def LS20_6 : Array Bool := [true, true, true, false, true, true, true, false, false, false].toArray
def LS20_7 : Array Bool := [true, true, true, true, true, true, true, false, false, false].toArray
def LS20_8 : Array Bool := [true, true, true, true, true, true, true, true, false, false].toArray
def LS20_9 : Array Bool := [true, true, true, true, true, true, true, true, true, false].toArray
def LS20_10 : Array Bool := [true, true, true, true, true, true, true, true, true, true].toArray
set_option maxHeartbeats 4000000 in
theorem rg20_0 {w : World} {p q b8 : Nat} {T : Tr} {x : Option Addr} {len cap m : Nat} {kd a b c : Int} {NX : Act → World → Prop} {a0 : Act} {W : World} (K0 : Kn a0 303 [(1, .slice x len cap), (5, .pointer (some ⟨p, 0, none⟩)), (6, .pointer (some ⟨q, 0, none⟩)), (7, .int .i64 (m : Int)), (8, .pointer (some ⟨b8, 0, none⟩)), (9, .bool false), (10, .bool false)]) (H : Ob2 RfAt w W p q T T [b8]) (X : BoxAt W b8 #[.int .i64 kd, .int .i64 a, .int .i64 b, .int .i64 c] 29) (hS : (fun w' : World => w'.cell? ⟨b8, 1, none⟩ = some (.int .i64 a) ∧ w'.cell? ⟨b8, 2, none⟩ = some (.int .i64 b) ∧ w'.cell? ⟨b8, 3, none⟩ = some (.int .i64 c)) W) (hN : ∀ a' (r : Bool) (T' : Tr) w', Kn a' 303 [(1, .slice x len cap), (5, .pointer (some ⟨p, 0, none⟩)), (6, .pointer (some ⟨q, 0, none⟩)), (7, .int .i64 (m : Int)), (8, .pointer (some ⟨b8, 0, none⟩)), (9, .bool r), (10, .bool r)] → Ob2 RfAt w w' p q T' T' [b8] → BoxAt w' b8 #[.int .i64 kd, .int .i64 a, .int .i64 b, .int .i64 c] 29 → NX a' w') :
    wpAnyH Try.prog .any OPS20.toArray (Norm NX) (fun w' : World => w'.cell? ⟨b8, 1, none⟩ = some (.int .i64 a) ∧ w'.cell? ⟨b8, 2, none⟩ = some (.int .i64 b) ∧ w'.cell? ⟨b8, 3, none⟩ = some (.int .i64 c)) 10 LS20_0 a0 W := by
  have hq : ∀ c a a' w', Norm NX (.panic c) a w' → Norm NX (.panic c) a' w' := fun _ _ _ _ h => h
  refine dtake (i := 0) (o := { dst := (some 99), op := (Op.move (Operand.tmp 5)), type := 23, pos := "law.go:46", after := #[], guard := none }) (v := .pointer (some ⟨p, 0, none⟩)) (l2 := LS20_1) K0 hq rfl NS20 (by kernel_rfl) (by kernel_rfl) (by kernel_rfl) rfl rfl (want_none rfl) (fun ev E w9 hSw => ?_) hS (fun a1 K1 => ?_)
  · have EC := E.const; have E5 := E.tmp 5 _ rfl; clear E K0 hN hq; clear hSw; go_simp
  refine dtake (i := 1) (o := { dst := (some 100), op := (Op.fieldAddr 29 (Operand.tmp 8) 1), type := 0, pos := "law.go:46", after := #[], guard := none }) (v := .pointer (some ⟨b8, 1, none⟩)) (l2 := LS20_2) K1 hq rfl NS20 (by kernel_rfl) (by kernel_rfl) (by kernel_rfl) rfl rfl (want_none rfl) (fun ev E w9 hSw => ?_) hS (fun a2 K2 => ?_)
  · have EC := E.const; have E8 := E.tmp 8 _ rfl; clear E K1 hN hq; clear hSw; go_simp
  clear K1
  refine dtake (i := 2) (o := { dst := (some 101), op := (Op.load 3 (Operand.tmp 100)), type := 3, pos := "law.go:46", after := #[{ on := 1, ground := Ground.data }], guard := none }) (v := .int .i64 a) (l2 := LS20_3) K2 hq rfl NS20 (by kernel_rfl) (by kernel_rfl) (by kernel_rfl) rfl rfl (want_none rfl) (fun ev E w9 hSw => ?_) hS (fun a3 K3 => ?_)
  · have EC := E.const; have E100 := E.tmp 100 _ rfl; clear E K2 hN hq; obtain ⟨z1, z2, z3⟩ := hSw; go_simp
  clear K2
  refine dtake (i := 4) (o := { dst := (some 103), op := (Op.move (Operand.tmp 6)), type := 26, pos := "law.go:46", after := #[], guard := none }) (v := .pointer (some ⟨q, 0, none⟩)) (l2 := LS20_4) K3 hq rfl NS20 (by kernel_rfl) (by kernel_rfl) (by kernel_rfl) rfl rfl (want_none rfl) (fun ev E w9 hSw => ?_) hS (fun a4 K4 => ?_)
  · have EC := E.const; have E6 := E.tmp 6 _ rfl; clear E K3 hN hq; clear hSw; go_simp
  clear K3
  refine dtake (i := 5) (o := { dst := (some 104), op := (Op.fieldAddr 29 (Operand.tmp 8) 1), type := 0, pos := "law.go:46", after := #[], guard := none }) (v := .pointer (some ⟨b8, 1, none⟩)) (l2 := LS20_5) K4 hq rfl NS20 (by kernel_rfl) (by kernel_rfl) (by kernel_rfl) rfl rfl (want_none rfl) (fun ev E w9 hSw => ?_) hS (fun a5 K5 => ?_)
  · have EC := E.const; have E8 := E.tmp 8 _ rfl; clear E K4 hN hq; clear hSw; go_simp
  clear K4
  refine dtake (i := 6) (o := { dst := (some 105), op := (Op.load 3 (Operand.tmp 104)), type := 3, pos := "law.go:46", after := #[{ on := 5, ground := Ground.data }], guard := none }) (v := .int .i64 a) (l2 := LS20_6) K5 hq rfl NS20 (by kernel_rfl) (by kernel_rfl) (by kernel_rfl) rfl rfl (want_none rfl) (fun ev E w9 hSw => ?_) hS (fun a6 K6 => ?_)
  · have EC := E.const; have E104 := E.tmp 104 _ rfl; clear E K5 hN hq; obtain ⟨z1, z2, z3⟩ := hSw; go_simp
  clear K5
  refine dcall (i := 3) (o := { dst := (some 102), op := (Op.call { callee := (Callee.value (Operand.func 25)), args := #[(Operand.tmp 99), (Operand.tmp 101)], argTypes := #[23, 3] }), type := 4, pos := "law.go:46", after := #[{ on := 0, ground := Ground.data }, { on := 2, ground := Ground.data }], guard := none }) (l2 := LS20_7) (f := 25) (args := #[.pointer (some ⟨p, 0, none⟩), .int .i64 a]) K6 rfl (by kernel_rfl) (by kernel_rfl) rfl rfl (want_none rfl) (fun ev E => ?_) (H.fst Rf.lies fun _ ha => aEvert _ ha) (fun e w7 hR => ?_)
  · have EC := E.const; have EF := E.func; have E99 := E.tmp 99 _ rfl; have E101 := E.tmp 101 _ rfl; clear E K6 hN hq; go_simp
  obtain ⟨rfl, h6, k6⟩ := hR
  replace X := X.kept k6 (by simp)
  replace H := h6
  clear h6
  replace hS : (fun w' : World => w'.cell? ⟨b8, 1, none⟩ = some (.int .i64 a) ∧ w'.cell? ⟨b8, 2, none⟩ = some (.int .i64 b) ∧ w'.cell? ⟨b8, 3, none⟩ = some (.int .i64 c)) w7 := ⟨(X.cell (o := 1) rfl).1, (X.cell (o := 2) rfl).1, (X.cell (o := 3) rfl).1⟩
  refine ⟨_, rfl, hS, fun a7 K7 => ?_⟩
  clear k6
  clear K6
  refine dcall (i := 7) (o := { dst := (some 106), op := (Op.call { callee := (Callee.value (Operand.func 26)), args := #[(Operand.tmp 103), (Operand.tmp 105)], argTypes := #[26, 3] }), type := 4, pos := "law.go:46", after := #[{ on := 4, ground := Ground.data }, { on := 6, ground := Ground.data }, { on := 3, ground := Ground.chain }], guard := none }) (l2 := LS20_8) (f := 26) (args := #[.pointer (some ⟨q, 0, none⟩), .int .i64 a]) K7 rfl (by kernel_rfl) (by kernel_rfl) rfl rfl (want_none rfl) (fun ev E => ?_) (H.snd Rf.lies fun _ ha => xEvert _ ha) (fun e w8 hR => ?_)
  · have EC := E.const; have EF := E.func; have E103 := E.tmp 103 _ rfl; have E105 := E.tmp 105 _ rfl; clear E K7 hN hq; go_simp
  obtain ⟨rfl, h6, k6⟩ := hR
  replace X := X.kept k6 (by simp)
  replace H := h6
  clear h6
  replace hS : (fun w' : World => w'.cell? ⟨b8, 1, none⟩ = some (.int .i64 a) ∧ w'.cell? ⟨b8, 2, none⟩ = some (.int .i64 b) ∧ w'.cell? ⟨b8, 3, none⟩ = some (.int .i64 c)) w8 := ⟨(X.cell (o := 1) rfl).1, (X.cell (o := 2) rfl).1, (X.cell (o := 3) rfl).1⟩
  refine ⟨_, rfl, hS, fun a8 K8 => ?_⟩
  clear k6
  clear K7
  refine dtake (i := 8) (o := { dst := (some 9), op := (Op.assign (Operand.tmp 102)), type := 4, pos := "law.go:46", after := #[{ on := 3, ground := Ground.data }, { on := 7, ground := Ground.chain }, { on := 0, ground := Ground.phase }, { on := 1, ground := Ground.phase }, { on := 2, ground := Ground.phase }, { on := 3, ground := Ground.phase }, { on := 4, ground := (Ground.textOnly Departure.lateStores) }, { on := 5, ground := (Ground.textOnly Departure.lateStores) }, { on := 6, ground := (Ground.textOnly Departure.lateStores) }, { on := 7, ground := (Ground.textOnly Departure.lateStoresUnsure) }], guard := none }) (v := .bool (T.hasI a)) (l2 := LS20_9) K8 hq rfl NS20 (by kernel_rfl) (by kernel_rfl) (by kernel_rfl) rfl rfl (want_none rfl) (fun ev E w9 hSw => ?_) hS (fun a9 K9 => ?_)
  · have EC := E.const; have E102 := E.tmp 102 _ rfl; clear E K8 hN hq; clear hSw; go_simp
  clear K8
  refine dtake (i := 9) (o := { dst := (some 10), op := (Op.assign (Operand.tmp 106)), type := 4, pos := "law.go:46", after := #[{ on := 7, ground := Ground.data }, { on := 8, ground := Ground.chain }, { on := 0, ground := Ground.phase }, { on := 1, ground := Ground.phase }, { on := 2, ground := Ground.phase }, { on := 3, ground := Ground.phase }, { on := 4, ground := Ground.phase }, { on := 5, ground := Ground.phase }, { on := 6, ground := Ground.phase }, { on := 7, ground := Ground.phase }, { on := 8, ground := Ground.phase }], guard := none }) (v := .bool (T.hasI a)) (l2 := LS20_10) K9 hq rfl NS20 (by kernel_rfl) (by kernel_rfl) (by kernel_rfl) rfl rfl (want_none rfl) (fun ev E w9 hSw => ?_) hS (fun a10 K10 => ?_)
  · have EC := E.const; have E106 := E.tmp 106 _ rfl; clear E K9 hN hq; clear hSw; go_simp
  clear K9
  refine wpAnyH_done (by kernel_rfl) ?_ _
  exact hN _ _ _ _ (K10.less ⟨rfl, rfl, rfl, rfl, rfl, rfl, rfl, trivial⟩) H X
set_option maxHeartbeats 4000000 in
theorem rg20 {w : World} {p q b8 : Nat} {T : Tr} {x : Option Addr} {len cap m : Nat} {kd a b c : Int} {NX : Act → World → Prop} {a0 : Act} {V : World} (K0 : Kn a0 303 [(1, .slice x len cap), (5, .pointer (some ⟨p, 0, none⟩)), (6, .pointer (some ⟨q, 0, none⟩)), (7, .int .i64 (m : Int)), (8, .pointer (some ⟨b8, 0, none⟩)), (9, .bool false), (10, .bool false)]) (H : Ob2 RfAt w V p q T T [b8]) (X : BoxAt V b8 #[.int .i64 kd, .int .i64 a, .int .i64 b, .int .i64 c] 29) (hN : ∀ a' (r : Bool) (T' : Tr) w', Kn a' 303 [(1, .slice x len cap), (5, .pointer (some ⟨p, 0, none⟩)), (6, .pointer (some ⟨q, 0, none⟩)), (7, .int .i64 (m : Int)), (8, .pointer (some ⟨b8, 0, none⟩)), (9, .bool r), (10, .bool r)] → Ob2 RfAt w w' p q T' T' [b8] → BoxAt w' b8 #[.int .i64 kd, .int .i64 a, .int .i64 b, .int .i64 c] 29 → NX a' w') :
    (Code.region 20 OPS20.toArray true).wp Try.prog (Norm NX) a0 V := by
  replace X := X.kept (H.below Rf.lies ((Below.refl _ _).drew)).2 (by simp)
  replace H := (H.below Rf.lies ((Below.refl _ _).drew)).1
  have hS : (fun w' : World => w'.cell? ⟨b8, 1, none⟩ = some (.int .i64 a) ∧ w'.cell? ⟨b8, 2, none⟩ = some (.int .i64 b) ∧ w'.cell? ⟨b8, 3, none⟩ = some (.int .i64 c)) V.drew := ⟨(X.cell (o := 1) rfl).1, (X.cell (o := 2) rfl).1, (X.cell (o := 3) rfl).1⟩
  refine wp_region_held_drew (S := (fun w' : World => w'.cell? ⟨b8, 1, none⟩ = some (.int .i64 a) ∧ w'.cell? ⟨b8, 2, none⟩ = some (.int .i64 b) ∧ w'.cell? ⟨b8, 3, none⟩ = some (.int .i64 c))) (by kernel_rfl) hS (fun hS => ?_)
  rw [show OPS20.toArray.size = 10 from by kernel_rfl, show Array.replicate 10 false = LS20_0 from by kernel_rfl]
  exact rg20_0 K0 H X hS hN
theorem NS22 : Region.noSelect OPS22.toArray = true := by kernel_rfl
def LS22_0 : Array Bool := [false, false, false, false, false, false, false, false, false, false, false, false, false, false].toArray
def LS22_1 : Array Bool := [true, false, false, false, false, false, false, false, false, false, false, false, false, false].toArray
def LS22_2 : Array Bool := [true, true, false, false, false, false, false, false, false, false, false, false, false, false].toArray
def LS22_3 : Array Bool := [true, true, true, false, false, false, false, false, false, false, false, false, false, false].toArray
def LS22_4 : Array Bool := [true, true, true, true, false, false, false, false, false, false, false, false, false, false].toArray
def LS22_5 : Array Bool := [true, true, true, true, true, false, false, false, false, false, false, false, false, false].toArray
def LS22_6 : Array Bool := [true, true, true, true, true, false, true, false, false, false, false, false, false, false].toArray
def LS22_7 : Array Bool := [true, true, true, true, true, false, true, true, false, false, false, false, false, false].toArray
def LS22_8 : Array Bool := [true, true, true, true, true, false, true, true, true, false, false, false, false, false].toArray
def LS22_9 : Array Bool := [true, true, true, true, true, false, true, true, true, true, false, false, false, false].toArray
def LS22_10 : Array Bool := [true, true, true, true, true, false, true, true, true, true, true, false, false, false].toArray
def LS22_11 : Array Bool := [true, true, true, true, true, true, true, true, true, true, true, false, false, false].toArray
def LS22_12 : Array Bool := [true, true, true, true, true, true, true, true, true, true, true, true, false, false].toArray
def LS22_13 : Array Bool := [true, true, true, true, true, true, true, true, true, true, true, true, true, false].toArray
def LS22_14 : Array Bool := [true, true, true, true, true, true, true, true, true, true, true, true, true, true].toArray
set_option maxHeartbeats 4000000 in
theorem rg22_0 {w : World} {p q b8 : Nat} {T : Tr} {x : Option Addr} {len cap m : Nat} {kd a b c : Int} {NX : Act → World → Prop} {a0 : Act} {W : World} (K0 : Kn a0 303 [(1, .slice x len cap), (5, .pointer (some ⟨p, 0, none⟩)), (6, .pointer (some ⟨q, 0, none⟩)), (7, .int .i64 (m : Int)), (8, .pointer (some ⟨b8, 0, none⟩)), (9, .bool false), (10, .bool false)]) (H : Ob2 RfAt w W p q T T [b8]) (X : BoxAt W b8 #[.int .i64 kd, .int .i64 a, .int .i64 b, .int .i64 c] 29) (hS : (fun w' : World => w'.cell? ⟨b8, 1, none⟩ = some (.int .i64 a) ∧ w'.cell? ⟨b8, 2, none⟩ = some (.int .i64 b) ∧ w'.cell? ⟨b8, 3, none⟩ = some (.int .i64 c)) W) (hN : ∀ a' (r : Bool) (T' : Tr) w', Kn a' 303 [(1, .slice x len cap), (5, .pointer (some ⟨p, 0, none⟩)), (6, .pointer (some ⟨q, 0, none⟩)), (7, .int .i64 (m : Int)), (8, .pointer (some ⟨b8, 0, none⟩)), (9, .bool r), (10, .bool r)] → Ob2 RfAt w w' p q T' T' [b8] → BoxAt w' b8 #[.int .i64 kd, .int .i64 a, .int .i64 b, .int .i64 c] 29 → NX a' w') :
    wpAnyH Try.prog .any OPS22.toArray (Norm NX) (fun w' : World => w'.cell? ⟨b8, 1, none⟩ = some (.int .i64 a) ∧ w'.cell? ⟨b8, 2, none⟩ = some (.int .i64 b) ∧ w'.cell? ⟨b8, 3, none⟩ = some (.int .i64 c)) 14 LS22_0 a0 W := by
  have hq : ∀ c a a' w', Norm NX (.panic c) a w' → Norm NX (.panic c) a' w' := fun _ _ _ _ h => h
  refine dtake (i := 0) (o := { dst := (some 109), op := (Op.move (Operand.tmp 5)), type := 23, pos := "law.go:48", after := #[], guard := none }) (v := .pointer (some ⟨p, 0, none⟩)) (l2 := LS22_1) K0 hq rfl NS22 (by kernel_rfl) (by kernel_rfl) (by kernel_rfl) rfl rfl (want_none rfl) (fun ev E w9 hSw => ?_) hS (fun a1 K1 => ?_)
  · have EC := E.const; have E5 := E.tmp 5 _ rfl; clear E K0 hN hq; clear hSw; go_simp
  refine dtake (i := 1) (o := { dst := (some 110), op := (Op.fieldAddr 29 (Operand.tmp 8) 1), type := 0, pos := "law.go:48", after := #[], guard := none }) (v := .pointer (some ⟨b8, 1, none⟩)) (l2 := LS22_2) K1 hq rfl NS22 (by kernel_rfl) (by kernel_rfl) (by kernel_rfl) rfl rfl (want_none rfl) (fun ev E w9 hSw => ?_) hS (fun a2 K2 => ?_)
  · have EC := E.const; have E8 := E.tmp 8 _ rfl; clear E K1 hN hq; clear hSw; go_simp
  clear K1
  refine dtake (i := 2) (o := { dst := (some 111), op := (Op.load 3 (Operand.tmp 110)), type := 3, pos := "law.go:48", after := #[{ on := 1, ground := Ground.data }], guard := none }) (v := .int .i64 a) (l2 := LS22_3) K2 hq rfl NS22 (by kernel_rfl) (by kernel_rfl) (by kernel_rfl) rfl rfl (want_none rfl) (fun ev E w9 hSw => ?_) hS (fun a3 K3 => ?_)
  · have EC := E.const; have E110 := E.tmp 110 _ rfl; clear E K2 hN hq; obtain ⟨z1, z2, z3⟩ := hSw; go_simp
  clear K2
  refine dtake (i := 3) (o := { dst := (some 112), op := (Op.fieldAddr 29 (Operand.tmp 8) 3), type := 0, pos := "law.go:48", after := #[], guard := none }) (v := .pointer (some ⟨b8, 3, none⟩)) (l2 := LS22_4) K3 hq rfl NS22 (by kernel_rfl) (by kernel_rfl) (by kernel_rfl) rfl rfl (want_none rfl) (fun ev E w9 hSw => ?_) hS (fun a4 K4 => ?_)
  · have EC := E.const; have E8 := E.tmp 8 _ rfl; clear E K3 hN hq; clear hSw; go_simp
  clear K3
  refine dtake (i := 4) (o := { dst := (some 113), op := (Op.load 3 (Operand.tmp 112)), type := 3, pos := "law.go:48", after := #[{ on := 3, ground := Ground.data }], guard := none }) (v := .int .i64 c) (l2 := LS22_5) K4 hq rfl NS22 (by kernel_rfl) (by kernel_rfl) (by kernel_rfl) rfl rfl (want_none rfl) (fun ev E w9 hSw => ?_) hS (fun a5 K5 => ?_)
  · have EC := E.const; have E112 := E.tmp 112 _ rfl; clear E K4 hN hq; obtain ⟨z1, z2, z3⟩ := hSw; go_simp
  clear K4
  refine dtake (i := 6) (o := { dst := (some 115), op := (Op.move (Operand.tmp 6)), type := 26, pos := "law.go:48", after := #[], guard := none }) (v := .pointer (some ⟨q, 0, none⟩)) (l2 := LS22_6) K5 hq rfl NS22 (by kernel_rfl) (by kernel_rfl) (by kernel_rfl) rfl rfl (want_none rfl) (fun ev E w9 hSw => ?_) hS (fun a6 K6 => ?_)
  · have EC := E.const; have E6 := E.tmp 6 _ rfl; clear E K5 hN hq; clear hSw; go_simp
  clear K5
  refine dtake (i := 7) (o := { dst := (some 116), op := (Op.fieldAddr 29 (Operand.tmp 8) 1), type := 0, pos := "law.go:48", after := #[], guard := none }) (v := .pointer (some ⟨b8, 1, none⟩)) (l2 := LS22_7) K6 hq rfl NS22 (by kernel_rfl) (by kernel_rfl) (by kernel_rfl) rfl rfl (want_none rfl) (fun ev E w9 hSw => ?_) hS (fun a7 K7 => ?_)
  · have EC := E.const; have E8 := E.tmp 8 _ rfl; clear E K6 hN hq; clear hSw; go_simp
  clear K6
  refine dtake (i := 8) (o := { dst := (some 117), op := (Op.load 3 (Operand.tmp 116)), type := 3, pos := "law.go:48", after := #[{ on := 7, ground := Ground.data }], guard := none }) (v := .int .i64 a) (l2 := LS22_8) K7 hq rfl NS22 (by kernel_rfl) (by kernel_rfl) (by kernel_rfl) rfl rfl (want_none rfl) (fun ev E w9 hSw => ?_) hS (fun a8 K8 => ?_)
  · have EC := E.const; have E116 := E.tmp 116 _ rfl; clear E K7 hN hq; obtain ⟨z1, z2, z3⟩ := hSw; go_simp
  clear K7
  refine dtake (i := 9) (o := { dst := (some 118), op := (Op.fieldAddr 29 (Operand.tmp 8) 3), type := 0, pos := "law.go:48", after := #[], guard := none }) (v := .pointer (some ⟨b8, 3, none⟩)) (l2 := LS22_9) K8 hq rfl NS22 (by kernel_rfl) (by kernel_rfl) (by kernel_rfl) rfl rfl (want_none rfl) (fun ev E w9 hSw => ?_) hS (fun a9 K9 => ?_)
  · have EC := E.const; have E8 := E.tmp 8 _ rfl; clear E K8 hN hq; clear hSw; go_simp
  clear K8
  refine dtake (i := 10) (o := { dst := (some 119), op := (Op.load 3 (Operand.tmp 118)), type := 3, pos := "law.go:48", after := #[{ on := 9, ground := Ground.data }], guard := none }) (v := .int .i64 c) (l2 := LS22_10) K9 hq rfl NS22 (by kernel_rfl) (by kernel_rfl) (by kernel_rfl) rfl rfl (want_none rfl) (fun ev E w9 hSw => ?_) hS (fun a10 K10 => ?_)
  · have EC := E.const; have E118 := E.tmp 118 _ rfl; clear E K9 hN hq; obtain ⟨z1, z2, z3⟩ := hSw; go_simp
  clear K9
  refine dcall (i := 5) (o := { dst := (some 114), op := (Op.call { callee := (Callee.value (Operand.func 27)), args := #[(Operand.tmp 109), (Operand.tmp 111), (Operand.tmp 113)], argTypes := #[23, 3, 3] }), type := 4, pos := "law.go:48", after := #[{ on := 0, ground := Ground.data }, { on := 2, ground := Ground.data }, { on := 4, ground := Ground.data }], guard := none }) (l2 := LS22_11) (f := 27) (args := #[.pointer (some ⟨p, 0, none⟩), .int .i64 a, .int .i64 c]) K10 rfl (by kernel_rfl) (by kernel_rfl) rfl rfl (want_none rfl) (fun ev E => ?_) (H.fst Rf.lies fun _ ha => aSet _ _ ha) (fun e w11 hR => ?_)
  · have EC := E.const; have EF := E.func; have E109 := E.tmp 109 _ rfl; have E111 := E.tmp 111 _ rfl; have E113 := E.tmp 113 _ rfl; clear E K10 hN hq; go_simp
  obtain ⟨rfl, h6, k6⟩ := hR
  replace X := X.kept k6 (by simp)
  replace H := h6
  clear h6
  replace hS : (fun w' : World => w'.cell? ⟨b8, 1, none⟩ = some (.int .i64 a) ∧ w'.cell? ⟨b8, 2, none⟩ = some (.int .i64 b) ∧ w'.cell? ⟨b8, 3, none⟩ = some (.int .i64 c)) w11 := ⟨(X.cell (o := 1) rfl).1, (X.cell (o := 2) rfl).1, (X.cell (o := 3) rfl).1⟩
  refine ⟨_, rfl, hS, fun a11 K11 => ?_⟩
  clear k6
  clear K10
  refine dcall (i := 11) (o := { dst := (some 120), op := (Op.call { callee := (Callee.value (Operand.func 28)), args := #[(Operand.tmp 115), (Operand.tmp 117), (Operand.tmp 119)], argTypes := #[26, 3, 3] }), type := 4, pos := "law.go:48", after := #[{ on := 6, ground := Ground.data }, { on := 8, ground := Ground.data }, { on := 10, ground := Ground.data }, { on := 5, ground := Ground.chain }], guard := none }) (l2 := LS22_12) (f := 28) (args := #[.pointer (some ⟨q, 0, none⟩), .int .i64 a, .int .i64 c]) K11 rfl (by kernel_rfl) (by kernel_rfl) rfl rfl (want_none rfl) (fun ev E => ?_) (H.snd Rf.lies fun _ ha => xSet _ _ ha) (fun e w12 hR => ?_)
  · have EC := E.const; have EF := E.func; have E115 := E.tmp 115 _ rfl; have E117 := E.tmp 117 _ rfl; have E119 := E.tmp 119 _ rfl; clear E K11 hN hq; go_simp
  obtain ⟨rfl, h6, k6⟩ := hR
  replace X := X.kept k6 (by simp)
  replace H := h6
  clear h6
  replace hS : (fun w' : World => w'.cell? ⟨b8, 1, none⟩ = some (.int .i64 a) ∧ w'.cell? ⟨b8, 2, none⟩ = some (.int .i64 b) ∧ w'.cell? ⟨b8, 3, none⟩ = some (.int .i64 c)) w12 := ⟨(X.cell (o := 1) rfl).1, (X.cell (o := 2) rfl).1, (X.cell (o := 3) rfl).1⟩
  refine ⟨_, rfl, hS, fun a12 K12 => ?_⟩
  clear k6
  clear K11
  refine dtake (i := 12) (o := { dst := (some 9), op := (Op.assign (Operand.tmp 114)), type := 4, pos := "law.go:48", after := #[{ on := 5, ground := Ground.data }, { on := 11, ground := Ground.chain }, { on := 0, ground := Ground.phase }, { on := 1, ground := Ground.phase }, { on := 2, ground := Ground.phase }, { on := 3, ground := Ground.phase }, { on := 4, ground := Ground.phase }, { on := 5, ground := Ground.phase }, { on := 6, ground := (Ground.textOnly Departure.lateStores) }, { on := 7, ground := (Ground.textOnly Departure.lateStores) }, { on := 8, ground := (Ground.textOnly Departure.lateStores) }, { on := 9, ground := (Ground.textOnly Departure.lateStores) }, { on := 10, ground := (Ground.textOnly Departure.lateStores) }, { on := 11, ground := (Ground.textOnly Departure.lateStoresUnsure) }], guard := none }) (v := .bool ((T.hasI a && fitB c))) (l2 := LS22_13) K12 hq rfl NS22 (by kernel_rfl) (by kernel_rfl) (by kernel_rfl) rfl rfl (want_none rfl) (fun ev E w9 hSw => ?_) hS (fun a13 K13 => ?_)
  · have EC := E.const; have E114 := E.tmp 114 _ rfl; clear E K12 hN hq; clear hSw; go_simp
  clear K12
  refine dtake (i := 13) (o := { dst := (some 10), op := (Op.assign (Operand.tmp 120)), type := 4, pos := "law.go:48", after := #[{ on := 11, ground := Ground.data }, { on := 12, ground := Ground.chain }, { on := 0, ground := Ground.phase }, { on := 1, ground := Ground.phase }, { on := 2, ground := Ground.phase }, { on := 3, ground := Ground.phase }, { on := 4, ground := Ground.phase }, { on := 5, ground := Ground.phase }, { on := 6, ground := Ground.phase }, { on := 7, ground := Ground.phase }, { on := 8, ground := Ground.phase }, { on := 9, ground := Ground.phase }, { on := 10, ground := Ground.phase }, { on := 11, ground := Ground.phase }, { on := 12, ground := Ground.phase }], guard := none }) (v := .bool ((T.hasI a && fitB c))) (l2 := LS22_14) K13 hq rfl NS22 (by kernel_rfl) (by kernel_rfl) (by kernel_rfl) rfl rfl (want_none rfl) (fun ev E w9 hSw => ?_) hS (fun a14 K14 => ?_)
  · have EC := E.const; have E120 := E.tmp 120 _ rfl; clear E K13 hN hq; clear hSw; go_simp
  clear K13
  refine wpAnyH_done (by kernel_rfl) ?_ _
  exact hN _ _ _ _ (K14.less ⟨rfl, rfl, rfl, rfl, rfl, rfl, rfl, trivial⟩) H X
set_option maxHeartbeats 4000000 in
theorem rg22 {w : World} {p q b8 : Nat} {T : Tr} {x : Option Addr} {len cap m : Nat} {kd a b c : Int} {NX : Act → World → Prop} {a0 : Act} {V : World} (K0 : Kn a0 303 [(1, .slice x len cap), (5, .pointer (some ⟨p, 0, none⟩)), (6, .pointer (some ⟨q, 0, none⟩)), (7, .int .i64 (m : Int)), (8, .pointer (some ⟨b8, 0, none⟩)), (9, .bool false), (10, .bool false)]) (H : Ob2 RfAt w V p q T T [b8]) (X : BoxAt V b8 #[.int .i64 kd, .int .i64 a, .int .i64 b, .int .i64 c] 29) (hN : ∀ a' (r : Bool) (T' : Tr) w', Kn a' 303 [(1, .slice x len cap), (5, .pointer (some ⟨p, 0, none⟩)), (6, .pointer (some ⟨q, 0, none⟩)), (7, .int .i64 (m : Int)), (8, .pointer (some ⟨b8, 0, none⟩)), (9, .bool r), (10, .bool r)] → Ob2 RfAt w w' p q T' T' [b8] → BoxAt w' b8 #[.int .i64 kd, .int .i64 a, .int .i64 b, .int .i64 c] 29 → NX a' w') :
    (Code.region 22 OPS22.toArray true).wp Try.prog (Norm NX) a0 V := by
  replace X := X.kept (H.below Rf.lies ((Below.refl _ _).drew)).2 (by simp)
  replace H := (H.below Rf.lies ((Below.refl _ _).drew)).1
  have hS : (fun w' : World => w'.cell? ⟨b8, 1, none⟩ = some (.int .i64 a) ∧ w'.cell? ⟨b8, 2, none⟩ = some (.int .i64 b) ∧ w'.cell? ⟨b8, 3, none⟩ = some (.int .i64 c)) V.drew := ⟨(X.cell (o := 1) rfl).1, (X.cell (o := 2) rfl).1, (X.cell (o := 3) rfl).1⟩
  refine wp_region_held_drew (S := (fun w' : World => w'.cell? ⟨b8, 1, none⟩ = some (.int .i64 a) ∧ w'.cell? ⟨b8, 2, none⟩ = some (.int .i64 b) ∧ w'.cell? ⟨b8, 3, none⟩ = some (.int .i64 c))) (by kernel_rfl) hS (fun hS => ?_)
  rw [show OPS22.toArray.size = 14 from by kernel_rfl, show Array.replicate 14 false = LS22_0 from by kernel_rfl]
  exact rg22_0 K0 H X hS hN
theorem NS24 : Region.noSelect OPS24.toArray = true := by kernel_rfl
def LS24_0 : Array Bool := [false, false, false, false, false, false, false, false, false, false, false, false, false, false, false, false, false, false].toArray
def LS24_1 : Array Bool := [true, false, false, false, false, false, false, false, false, false, false, false, false, false, false, false, false, false].toArray
def LS24_2 : Array Bool := [true, true, false, false, false, false, false, false, false, false, false, false, false, false, false, false, false, false].toArray
def LS24_3 : Array Bool := [true, true, true, false, false, false, false, false, false, false, false, false, false, false, false, false, false, false].toArray
def LS24_4 : Array Bool := [true, true, true, true, false, false, false, false, false, false, false, false, false, false, false, false, false, false].toArray
def LS24_5 : Array Bool := [true, true, true, true, true, false, false, false, false, false, false, false, false, false, false, false, false, false].toArray
def LS24_6 : Array Bool := [true, true, true, true, true, true, false, false, false, false, false, false, false, false, false, false, false, false].toArray
def LS24_7 : Array Bool := [true, true, true, true, true, true, true, false, false, false, false, false, false, false, false, false, false, false].toArray
def LS24_8 : Array Bool := [true, true, true, true, true, true, true, false, true, false, false, false, false, false, false, false, false, false].toArray
def LS24_9 : Array Bool := [true, true, true, true, true, true, true, false, true, true, false, false, false, false, false, false, false, false].toArray
def LS24_10 : Array Bool := [true, true, true, true, true, true, true, false, true, true, true, false, false, false, false, false, false, false].toArray
def LS24_11 : Array Bool := [true, true, true, true, true, true, true, false, true, true, true, true, false, false, false, false, false, false].toArray
def LS24_12 : Array Bool := [true, true, true, true, true, true, true, false, true, true, true, true, true, false, false, false, false, false].toArray
def LS24_13 : Array Bool := [true, true, true, true, true, true, true, false, true, true, true, true, true, true, false, false, false, false].toArray
def LS24_14 : Array Bool := [true, true, true, true, true, true, true, false, true, true, true, true, true, true, true, false, false, false].toArray
def LS24_15 : Array Bool := [true, true, true, true, true, true, true, true, true, true, true, true, true, true, true, false, false, false].toArray
def LS24_16 : Array Bool := [true, true, true, true, true, true, true, true, true, true, true, true, true, true, true, true, false, false].toArray
def LS24_17 : Array Bool := [true, true, true, true, true, true, true, true, true, true, true, true, true, true, true, true, true, false].toArray
def LS24_18 : Array Bool := [true, true, true, true, true, true, true, true, true, true, true, true, true, true, true, true, true, true].toArray
set_option maxHeartbeats 4000000 in
theorem rg24_0 {w : World} {p q b8 : Nat} {T : Tr} {x : Option Addr} {len cap m : Nat} {kd a b c : Int} {NX : Act → World → Prop} {a0 : Act} {W : World} (K0 : Kn a0 303 [(1, .slice x len cap), (5, .pointer (some ⟨p, 0, none⟩)), (6, .pointer (some ⟨q, 0, none⟩)), (7, .int .i64 (m : Int)), (8, .pointer (some ⟨b8, 0, none⟩)), (9, .bool false), (10, .bool false)]) (H : Ob2 RfAt w W p q T T [b8]) (X : BoxAt W b8 #[.int .i64 kd, .int .i64 a, .int .i64 b, .int .i64 c] 29) (hS : (fun w' : World => w'.cell? ⟨b8, 1, none⟩ = some (.int .i64 a) ∧ w'.cell? ⟨b8, 2, none⟩ = some (.int .i64 b) ∧ w'.cell? ⟨b8, 3, none⟩ = some (.int .i64 c)) W) (hN : ∀ a' (r : Bool) (T' : Tr) w', Kn a' 303 [(1, .slice x len cap), (5, .pointer (some ⟨p, 0, none⟩)), (6, .pointer (some ⟨q, 0, none⟩)), (7, .int .i64 (m : Int)), (8, .pointer (some ⟨b8, 0, none⟩)), (9, .bool r), (10, .bool r)] → Ob2 RfAt w w' p q T' T' [b8] → BoxAt w' b8 #[.int .i64 kd, .int .i64 a, .int .i64 b, .int .i64 c] 29 → NX a' w') :
    wpAnyH Try.prog .any OPS24.toArray (Norm NX) (fun w' : World => w'.cell? ⟨b8, 1, none⟩ = some (.int .i64 a) ∧ w'.cell? ⟨b8, 2, none⟩ = some (.int .i64 b) ∧ w'.cell? ⟨b8, 3, none⟩ = some (.int .i64 c)) 18 LS24_0 a0 W := by
  have hq : ∀ c a a' w', Norm NX (.panic c) a w' → Norm NX (.panic c) a' w' := fun _ _ _ _ h => h
  refine dtake (i := 0) (o := { dst := (some 123), op := (Op.move (Operand.tmp 5)), type := 23, pos := "law.go:50", after := #[], guard := none }) (v := .pointer (some ⟨p, 0, none⟩)) (l2 := LS24_1) K0 hq rfl NS24 (by kernel_rfl) (by kernel_rfl) (by kernel_rfl) rfl rfl (want_none rfl) (fun ev E w9 hSw => ?_) hS (fun a1 K1 => ?_)
  · have EC := E.const; have E5 := E.tmp 5 _ rfl; clear E K0 hN hq; clear hSw; go_simp
  refine dtake (i := 1) (o := { dst := (some 124), op := (Op.fieldAddr 29 (Operand.tmp 8) 1), type := 0, pos := "law.go:50", after := #[], guard := none }) (v := .pointer (some ⟨b8, 1, none⟩)) (l2 := LS24_2) K1 hq rfl NS24 (by kernel_rfl) (by kernel_rfl) (by kernel_rfl) rfl rfl (want_none rfl) (fun ev E w9 hSw => ?_) hS (fun a2 K2 => ?_)
  · have EC := E.const; have E8 := E.tmp 8 _ rfl; clear E K1 hN hq; clear hSw; go_simp
  clear K1
  refine dtake (i := 2) (o := { dst := (some 125), op := (Op.load 3 (Operand.tmp 124)), type := 3, pos := "law.go:50", after := #[{ on := 1, ground := Ground.data }], guard := none }) (v := .int .i64 a) (l2 := LS24_3) K2 hq rfl NS24 (by kernel_rfl) (by kernel_rfl) (by kernel_rfl) rfl rfl (want_none rfl) (fun ev E w9 hSw => ?_) hS (fun a3 K3 => ?_)
  · have EC := E.const; have E124 := E.tmp 124 _ rfl; clear E K2 hN hq; obtain ⟨z1, z2, z3⟩ := hSw; go_simp
  clear K2
  refine dtake (i := 3) (o := { dst := (some 126), op := (Op.fieldAddr 29 (Operand.tmp 8) 2), type := 0, pos := "law.go:50", after := #[], guard := none }) (v := .pointer (some ⟨b8, 2, none⟩)) (l2 := LS24_4) K3 hq rfl NS24 (by kernel_rfl) (by kernel_rfl) (by kernel_rfl) rfl rfl (want_none rfl) (fun ev E w9 hSw => ?_) hS (fun a4 K4 => ?_)
  · have EC := E.const; have E8 := E.tmp 8 _ rfl; clear E K3 hN hq; clear hSw; go_simp
  clear K3
  refine dtake (i := 4) (o := { dst := (some 127), op := (Op.load 3 (Operand.tmp 126)), type := 3, pos := "law.go:50", after := #[{ on := 3, ground := Ground.data }], guard := none }) (v := .int .i64 b) (l2 := LS24_5) K4 hq rfl NS24 (by kernel_rfl) (by kernel_rfl) (by kernel_rfl) rfl rfl (want_none rfl) (fun ev E w9 hSw => ?_) hS (fun a5 K5 => ?_)
  · have EC := E.const; have E126 := E.tmp 126 _ rfl; clear E K4 hN hq; obtain ⟨z1, z2, z3⟩ := hSw; go_simp
  clear K4
  refine dtake (i := 5) (o := { dst := (some 128), op := (Op.fieldAddr 29 (Operand.tmp 8) 3), type := 0, pos := "law.go:50", after := #[], guard := none }) (v := .pointer (some ⟨b8, 3, none⟩)) (l2 := LS24_6) K5 hq rfl NS24 (by kernel_rfl) (by kernel_rfl) (by kernel_rfl) rfl rfl (want_none rfl) (fun ev E w9 hSw => ?_) hS (fun a6 K6 => ?_)
  · have EC := E.const; have E8 := E.tmp 8 _ rfl; clear E K5 hN hq; clear hSw; go_simp
  clear K5
  refine dtake (i := 6) (o := { dst := (some 129), op := (Op.load 3 (Operand.tmp 128)), type := 3, pos := "law.go:50", after := #[{ on := 5, ground := Ground.data }], guard := none }) (v := .int .i64 c) (l2 := LS24_7) K6 hq rfl NS24 (by kernel_rfl) (by kernel_rfl) (by kernel_rfl) rfl rfl (want_none rfl) (fun ev E w9 hSw => ?_) hS (fun a7 K7 => ?_)
  · have EC := E.const; have E128 := E.tmp 128 _ rfl; clear E K6 hN hq; obtain ⟨z1, z2, z3⟩ := hSw; go_simp
  clear K6
  refine dtake (i := 8) (o := { dst := (some 131), op := (Op.move (Operand.tmp 6)), type := 26, pos := "law.go:50", after := #[], guard := none }) (v := .pointer (some ⟨q, 0, none⟩)) (l2 := LS24_8) K7 hq rfl NS24 (by kernel_rfl) (by kernel_rfl) (by kernel_rfl) rfl rfl (want_none rfl) (fun ev E w9 hSw => ?_) hS (fun a8 K8 => ?_)
  · have EC := E.const; have E6 := E.tmp 6 _ rfl; clear E K7 hN hq; clear hSw; go_simp
  clear K7
  refine dtake (i := 9) (o := { dst := (some 132), op := (Op.fieldAddr 29 (Operand.tmp 8) 1), type := 0, pos := "law.go:50", after := #[], guard := none }) (v := .pointer (some ⟨b8, 1, none⟩)) (l2 := LS24_9) K8 hq rfl NS24 (by kernel_rfl) (by kernel_rfl) (by kernel_rfl) rfl rfl (want_none rfl) (fun ev E w9 hSw => ?_) hS (fun a9 K9 => ?_)
  · have EC := E.const; have E8 := E.tmp 8 _ rfl; clear E K8 hN hq; clear hSw; go_simp
  clear K8
  refine dtake (i := 10) (o := { dst := (some 133), op := (Op.load 3 (Operand.tmp 132)), type := 3, pos := "law.go:50", after := #[{ on := 9, ground := Ground.data }], guard := none }) (v := .int .i64 a) (l2 := LS24_10) K9 hq rfl NS24 (by kernel_rfl) (by kernel_rfl) (by kernel_rfl) rfl rfl (want_none rfl) (fun ev E w9 hSw => ?_) hS (fun a10 K10 => ?_)
  · have EC := E.const; have E132 := E.tmp 132 _ rfl; clear E K9 hN hq; obtain ⟨z1, z2, z3⟩ := hSw; go_simp
  clear K9
  refine dtake (i := 11) (o := { dst := (some 134), op := (Op.fieldAddr 29 (Operand.tmp 8) 2), type := 0, pos := "law.go:50", after := #[], guard := none }) (v := .pointer (some ⟨b8, 2, none⟩)) (l2 := LS24_11) K10 hq rfl NS24 (by kernel_rfl) (by kernel_rfl) (by kernel_rfl) rfl rfl (want_none rfl) (fun ev E w9 hSw => ?_) hS (fun a11 K11 => ?_)
  · have EC := E.const; have E8 := E.tmp 8 _ rfl; clear E K10 hN hq; clear hSw; go_simp
  clear K10
  refine dtake (i := 12) (o := { dst := (some 135), op := (Op.load 3 (Operand.tmp 134)), type := 3, pos := "law.go:50", after := #[{ on := 11, ground := Ground.data }], guard := none }) (v := .int .i64 b) (l2 := LS24_12) K11 hq rfl NS24 (by kernel_rfl) (by kernel_rfl) (by kernel_rfl) rfl rfl (want_none rfl) (fun ev E w9 hSw => ?_) hS (fun a12 K12 => ?_)
  · have EC := E.const; have E134 := E.tmp 134 _ rfl; clear E K11 hN hq; obtain ⟨z1, z2, z3⟩ := hSw; go_simp
  clear K11
  refine dtake (i := 13) (o := { dst := (some 136), op := (Op.fieldAddr 29 (Operand.tmp 8) 3), type := 0, pos := "law.go:50", after := #[], guard := none }) (v := .pointer (some ⟨b8, 3, none⟩)) (l2 := LS24_13) K12 hq rfl NS24 (by kernel_rfl) (by kernel_rfl) (by kernel_rfl) rfl rfl (want_none rfl) (fun ev E w9 hSw => ?_) hS (fun a13 K13 => ?_)
  · have EC := E.const; have E8 := E.tmp 8 _ rfl; clear E K12 hN hq; clear hSw; go_simp
  clear K12
  refine dtake (i := 14) (o := { dst := (some 137), op := (Op.load 3 (Operand.tmp 136)), type := 3, pos := "law.go:50", after := #[{ on := 13, ground := Ground.data }], guard := none }) (v := .int .i64 c) (l2 := LS24_14) K13 hq rfl NS24 (by kernel_rfl) (by kernel_rfl) (by kernel_rfl) rfl rfl (want_none rfl) (fun ev E w9 hSw => ?_) hS (fun a14 K14 => ?_)
  · have EC := E.const; have E136 := E.tmp 136 _ rfl; clear E K13 hN hq; obtain ⟨z1, z2, z3⟩ := hSw; go_simp
  clear K13
  refine dcall (i := 7) (o := { dst := (some 130), op := (Op.call { callee := (Callee.value (Operand.func 29)), args := #[(Operand.tmp 123), (Operand.tmp 125), (Operand.tmp 127), (Operand.tmp 129)], argTypes := #[23, 3, 3, 3] }), type := 4, pos := "law.go:50", after := #[{ on := 0, ground := Ground.data }, { on := 2, ground := Ground.data }, { on := 4, ground := Ground.data }, { on := 6, ground := Ground.data }], guard := none }) (l2 := LS24_15) (f := 29) (args := #[.pointer (some ⟨p, 0, none⟩), .int .i64 a, .int .i64 b, .int .i64 c]) K14 rfl (by kernel_rfl) (by kernel_rfl) rfl rfl (want_none rfl) (fun ev E => ?_) (H.fst Rf.lies fun _ ha => aPathAdd _ _ _ ha) (fun e w15 hR => ?_)
  · have EC := E.const; have EF := E.func; have E123 := E.tmp 123 _ rfl; have E125 := E.tmp 125 _ rfl; have E127 := E.tmp 127 _ rfl; have E129 := E.tmp 129 _ rfl; clear E K14 hN hq; go_simp
  obtain ⟨rfl, h6, k6⟩ := hR
  replace X := X.kept k6 (by simp)
  replace H := h6
  clear h6
  replace hS : (fun w' : World => w'.cell? ⟨b8, 1, none⟩ = some (.int .i64 a) ∧ w'.cell? ⟨b8, 2, none⟩ = some (.int .i64 b) ∧ w'.cell? ⟨b8, 3, none⟩ = some (.int .i64 c)) w15 := ⟨(X.cell (o := 1) rfl).1, (X.cell (o := 2) rfl).1, (X.cell (o := 3) rfl).1⟩
  refine ⟨_, rfl, hS, fun a15 K15 => ?_⟩
  clear k6
  clear K14
  refine dcall (i := 15) (o := { dst := (some 138), op := (Op.call { callee := (Callee.value (Operand.func 30)), args := #[(Operand.tmp 131), (Operand.tmp 133), (Operand.tmp 135), (Operand.tmp 137)], argTypes := #[26, 3, 3, 3] }), type := 4, pos := "law.go:50", after := #[{ on := 8, ground := Ground.data }, { on := 10, ground := Ground.data }, { on := 12, ground := Ground.data }, { on := 14, ground := Ground.data }, { on := 7, ground := Ground.chain }], guard := none }) (l2 := LS24_16) (f := 30) (args := #[.pointer (some ⟨q, 0, none⟩), .int .i64 a, .int .i64 b, .int .i64 c]) K15 rfl (by kernel_rfl) (by kernel_rfl) rfl rfl (want_none rfl) (fun ev E => ?_) (H.snd Rf.lies fun _ ha => xPathAdd _ _ _ ha) (fun e w16 hR => ?_)
  · have EC := E.const; have EF := E.func; have E131 := E.tmp 131 _ rfl; have E133 := E.tmp 133 _ rfl; have E135 := E.tmp 135 _ rfl; have E137 := E.tmp 137 _ rfl; clear E K15 hN hq; go_simp
  obtain ⟨rfl, h6, k6⟩ := hR
  replace X := X.kept k6 (by simp)
  replace H := h6
  clear h6
  replace hS : (fun w' : World => w'.cell? ⟨b8, 1, none⟩ = some (.int .i64 a) ∧ w'.cell? ⟨b8, 2, none⟩ = some (.int .i64 b) ∧ w'.cell? ⟨b8, 3, none⟩ = some (.int .i64 c)) w16 := ⟨(X.cell (o := 1) rfl).1, (X.cell (o := 2) rfl).1, (X.cell (o := 3) rfl).1⟩
  refine ⟨_, rfl, hS, fun a16 K16 => ?_⟩
  clear k6
  clear K15
  refine dtake (i := 16) (o := { dst := (some 9), op := (Op.assign (Operand.tmp 130)), type := 4, pos := "law.go:50", after := #[{ on := 7, ground := Ground.data }, { on := 15, ground := Ground.chain }, { on := 0, ground := Ground.phase }, { on := 1, ground := Ground.phase }, { on := 2, ground := Ground.phase }, { on := 3, ground := Ground.phase }, { on := 4, ground := Ground.phase }, { on := 5, ground := Ground.phase }, { on := 6, ground := Ground.phase }, { on := 7, ground := Ground.phase }, { on := 8, ground := (Ground.textOnly Departure.lateStores) }, { on := 9, ground := (Ground.textOnly Departure.lateStores) }, { on := 10, ground := (Ground.textOnly Departure.lateStores) }, { on := 11, ground := (Ground.textOnly Departure.lateStores) }, { on := 12, ground := (Ground.textOnly Departure.lateStores) }, { on := 13, ground := (Ground.textOnly Departure.lateStores) }, { on := 14, ground := (Ground.textOnly Departure.lateStores) }, { on := 15, ground := (Ground.textOnly Departure.lateStoresUnsure) }], guard := none }) (v := .bool (T.raiseB a b c)) (l2 := LS24_17) K16 hq rfl NS24 (by kernel_rfl) (by kernel_rfl) (by kernel_rfl) rfl rfl (want_none rfl) (fun ev E w9 hSw => ?_) hS (fun a17 K17 => ?_)
  · have EC := E.const; have E130 := E.tmp 130 _ rfl; clear E K16 hN hq; clear hSw; go_simp
  clear K16
  refine dtake (i := 17) (o := { dst := (some 10), op := (Op.assign (Operand.tmp 138)), type := 4, pos := "law.go:50", after := #[{ on := 15, ground := Ground.data }, { on := 16, ground := Ground.chain }, { on := 0, ground := Ground.phase }, { on := 1, ground := Ground.phase }, { on := 2, ground := Ground.phase }, { on := 3, ground := Ground.phase }, { on := 4, ground := Ground.phase }, { on := 5, ground := Ground.phase }, { on := 6, ground := Ground.phase }, { on := 7, ground := Ground.phase }, { on := 8, ground := Ground.phase }, { on := 9, ground := Ground.phase }, { on := 10, ground := Ground.phase }, { on := 11, ground := Ground.phase }, { on := 12, ground := Ground.phase }, { on := 13, ground := Ground.phase }, { on := 14, ground := Ground.phase }, { on := 15, ground := Ground.phase }, { on := 16, ground := Ground.phase }], guard := none }) (v := .bool (T.raiseB a b c)) (l2 := LS24_18) K17 hq rfl NS24 (by kernel_rfl) (by kernel_rfl) (by kernel_rfl) rfl rfl (want_none rfl) (fun ev E w9 hSw => ?_) hS (fun a18 K18 => ?_)
  · have EC := E.const; have E138 := E.tmp 138 _ rfl; clear E K17 hN hq; clear hSw; go_simp
  clear K17
  refine wpAnyH_done (by kernel_rfl) ?_ _
  exact hN _ _ _ _ (K18.less ⟨rfl, rfl, rfl, rfl, rfl, rfl, rfl, trivial⟩) H X
set_option maxHeartbeats 4000000 in
theorem rg24 {w : World} {p q b8 : Nat} {T : Tr} {x : Option Addr} {len cap m : Nat} {kd a b c : Int} {NX : Act → World → Prop} {a0 : Act} {V : World} (K0 : Kn a0 303 [(1, .slice x len cap), (5, .pointer (some ⟨p, 0, none⟩)), (6, .pointer (some ⟨q, 0, none⟩)), (7, .int .i64 (m : Int)), (8, .pointer (some ⟨b8, 0, none⟩)), (9, .bool false), (10, .bool false)]) (H : Ob2 RfAt w V p q T T [b8]) (X : BoxAt V b8 #[.int .i64 kd, .int .i64 a, .int .i64 b, .int .i64 c] 29) (hN : ∀ a' (r : Bool) (T' : Tr) w', Kn a' 303 [(1, .slice x len cap), (5, .pointer (some ⟨p, 0, none⟩)), (6, .pointer (some ⟨q, 0, none⟩)), (7, .int .i64 (m : Int)), (8, .pointer (some ⟨b8, 0, none⟩)), (9, .bool r), (10, .bool r)] → Ob2 RfAt w w' p q T' T' [b8] → BoxAt w' b8 #[.int .i64 kd, .int .i64 a, .int .i64 b, .int .i64 c] 29 → NX a' w') :
    (Code.region 24 OPS24.toArray true).wp Try.prog (Norm NX) a0 V := by
  replace X := X.kept (H.below Rf.lies ((Below.refl _ _).drew)).2 (by simp)
  replace H := (H.below Rf.lies ((Below.refl _ _).drew)).1
  have hS : (fun w' : World => w'.cell? ⟨b8, 1, none⟩ = some (.int .i64 a) ∧ w'.cell? ⟨b8, 2, none⟩ = some (.int .i64 b) ∧ w'.cell? ⟨b8, 3, none⟩ = some (.int .i64 c)) V.drew := ⟨(X.cell (o := 1) rfl).1, (X.cell (o := 2) rfl).1, (X.cell (o := 3) rfl).1⟩
  refine wp_region_held_drew (S := (fun w' : World => w'.cell? ⟨b8, 1, none⟩ = some (.int .i64 a) ∧ w'.cell? ⟨b8, 2, none⟩ = some (.int .i64 b) ∧ w'.cell? ⟨b8, 3, none⟩ = some (.int .i64 c))) (by kernel_rfl) hS (fun hS => ?_)
  rw [show OPS24.toArray.size = 18 from by kernel_rfl, show Array.replicate 18 false = LS24_0 from by kernel_rfl]
  exact rg24_0 K0 H X hS hN
end Go.Proofs.Ytbcibdofcjehcaa

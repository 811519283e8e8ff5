/- The statements of ..Plays whose order is told, over a frame that is a letter. -/
import Derived.Test.YtbcibdofcjehcaaE11
import Derived.Test.YtbcibdofcjehcaaO3
import Derived.Test.YtbcibdofcjehcaaB2
namespace Go.Proofs.Ytbcibdofcjehcaa
open Go.RowKit Go.Arb
set_option linter.unusedVariables false
set_option linter.unusedSimpArgs false
set_option maxRecDepth 100000
/-- Behind a statement that ends as it should. -/
def Norm (R : Act → World → Prop) : Exit → Act → World → Prop
  | .normal, a, w => R a w
  | _, _, _ => False
theorem seqN {P : Program} {Q : Exit → Act → World → Prop} {a : Act} {w : World} {x y : Code} (h : x.wp P (Norm (fun a w => y.wp P Q a w)) a w) : (Code.seq x y).wp P Q a w :=
  wp_seq (Code.wp_mono (fun e a w h => by cases e <;> first | exact h | exact h.elim) h)
theorem lastN {P : Program} {Q : Exit → Act → World → Prop} {a : Act} {w : World} {x : Code} (h : x.wp P (Norm (fun a w => Q .normal a w)) a w) : x.wp P Q a w :=
  Code.wp_mono (fun e a w h => by cases e <;> first | exact h | exact h.elim) h
theorem few_any (a : Nat) (w : World) (h : a ≤ 255) : Calls Try.prog 15 #[.int .u8 (a : Int)] w fun e w' => e = .returned (.int .i64 ((a % 41 : Nat) : Int)) ∧ w = w' := by
  go_enter Try.func15, Try.ntmps15
  go_wp2
  go_ret
  exact ⟨rfl, rfl⟩
def OPS0 : List Oper := [({ dst := (some 4), op := (Op.assign (Operand.const (Value.bool false))), type := 4, pos := "law.go:27", after := #[], guard := none } : Oper)]
def OPS1 : List Oper := [({ dst := (some 25), op := (Op.move (Operand.tmp 0)), type := 5, pos := "law.go:28", after := #[], guard := none } : Oper), ({ dst := (some 26), op := (Op.call { callee := (Callee.value (Operand.func 15)), args := #[(Operand.tmp 25)], argTypes := #[5] }), type := 3, pos := "law.go:28", after := #[{ on := 0, ground := Ground.data }], guard := none } : Oper), ({ dst := (some 27), op := (Op.call { callee := (Callee.value (Operand.func 14)), args := #[(Operand.tmp 26)], argTypes := #[3] }), type := 23, pos := "law.go:28", after := #[{ on := 1, ground := Ground.data }, { on := 1, ground := Ground.chain }], guard := none } : Oper), ({ dst := (some 5), op := (Op.assign (Operand.tmp 27)), type := 23, pos := "law.go:28", after := #[{ on := 2, ground := Ground.data }, { on := 2, ground := Ground.chain }, { on := 0, ground := Ground.phase }, { on := 1, ground := Ground.phase }, { on := 2, ground := Ground.phase }], guard := none } : Oper)]
def OPS2 : List Oper := [({ dst := (some 28), op := (Op.move (Operand.tmp 0)), type := 5, pos := "law.go:29", after := #[], guard := none } : Oper), ({ dst := (some 29), op := (Op.call { callee := (Callee.value (Operand.func 15)), args := #[(Operand.tmp 28)], argTypes := #[5] }), type := 3, pos := "law.go:29", after := #[{ on := 0, ground := Ground.data }], guard := none } : Oper), ({ dst := (some 30), op := (Op.call { callee := (Callee.value (Operand.func 16)), args := #[(Operand.tmp 29)], argTypes := #[3] }), type := 26, pos := "law.go:29", after := #[{ on := 1, ground := Ground.data }, { on := 1, ground := Ground.chain }], guard := none } : Oper), ({ dst := (some 6), op := (Op.assign (Operand.tmp 30)), type := 26, pos := "law.go:29", after := #[{ on := 2, ground := Ground.data }, { on := 2, ground := Ground.chain }, { on := 0, ground := Ground.phase }, { on := 1, ground := Ground.phase }, { on := 2, ground := Ground.phase }], guard := none } : Oper)]
def OPS3 : List Oper := [({ dst := (some 31), op := (Op.move (Operand.tmp 5)), type := 23, pos := "law.go:30", after := #[], guard := none } : Oper), ({ dst := (some 32), op := (Op.binOp BinOp.eql 23 (Operand.tmp 31) (Operand.const (Value.pointer none)) 23), type := 4, pos := "law.go:30", after := #[{ on := 0, ground := Ground.data }], guard := none } : Oper)]
def OPS4 : List Oper := [({ dst := (some 4), op := (Op.assign (Operand.const (Value.bool false))), type := 4, pos := "law.go:31", after := #[], guard := none } : Oper)]
def OPS5 : List Oper := [({ dst := (some 7), op := (Op.assign (Operand.const (Value.int IntKind.i64 0))), type := 3, pos := "law.go:33", after := #[], guard := none } : Oper)]
def OPS6 : List Oper := [({ dst := (some 33), op := (Op.move (Operand.tmp 7)), type := 3, pos := "law.go:33", after := #[], guard := none } : Oper), ({ dst := (some 34), op := (Op.move (Operand.tmp 1)), type := 22, pos := "law.go:33", after := #[], guard := none } : Oper), ({ dst := (some 35), op := (Op.call { callee := (Callee.builtin Builtin.len), args := #[(Operand.tmp 34)], argTypes := #[22] }), type := 3, pos := "law.go:33", after := #[{ on := 1, ground := Ground.data }], guard := none } : Oper), ({ dst := (some 36), op := (Op.binOp BinOp.lss 3 (Operand.tmp 33) (Operand.tmp 35) 3), type := 4, pos := "law.go:33", after := #[{ on := 0, ground := Ground.data }, { on := 2, ground := Ground.data }], guard := none } : Oper), ({ dst := (some 37), op := (Op.move (Operand.tmp 36)), type := 4, pos := "law.go:33", after := #[{ on := 3, ground := Ground.data }], guard := none } : Oper), ({ dst := (some 38), op := (Op.move (Operand.tmp 7)), type := 3, pos := "law.go:33", after := #[{ on := 4, ground := Ground.guard }], guard := some (4, true) } : Oper), ({ dst := (some 39), op := (Op.binOp BinOp.lss 3 (Operand.tmp 38) (Operand.const (Value.int IntKind.i64 150)) 3), type := 4, pos := "law.go:33", after := #[{ on := 5, ground := Ground.data }, { on := 4, ground := Ground.guard }], guard := some (4, true) } : Oper), ({ dst := (some 40), op := (Op.pick (Operand.tmp 37) (Operand.tmp 39) (Operand.const (Value.bool false))), type := 4, pos := "law.go:33", after := #[{ on := 4, ground := Ground.data }, { on := 6, ground := Ground.data }], guard := none } : Oper)]
def OPS7 : List Oper := [({ dst := (some 41), op := (Op.move (Operand.tmp 7)), type := 3, pos := "law.go:33", after := #[], guard := none } : Oper), ({ dst := (some 42), op := (Op.binOp BinOp.add 3 (Operand.tmp 41) (Operand.const (Value.int IntKind.i64 1)) 3), type := 3, pos := "law.go:33", after := #[{ on := 0, ground := Ground.data }], guard := none } : Oper), ({ dst := (some 7), op := (Op.assign (Operand.tmp 42)), type := 3, pos := "law.go:33", after := #[{ on := 1, ground := Ground.data }, { on := 0, ground := Ground.phase }, { on := 1, ground := Ground.phase }], guard := none } : Oper)]
def OPS8 : List Oper := [({ dst := (some 43), op := (Op.move (Operand.tmp 1)), type := 22, pos := "law.go:34", after := #[], guard := none } : Oper), ({ dst := (some 44), op := (Op.move (Operand.tmp 7)), type := 3, pos := "law.go:34", after := #[], guard := none } : Oper), ({ dst := (some 45), op := (Op.indexAddr 22 (Operand.tmp 43) (Operand.tmp 44)), type := 0, pos := "law.go:34", after := #[{ on := 0, ground := Ground.data }, { on := 1, ground := Ground.data }], guard := none } : Oper), ({ dst := (some 46), op := (Op.load 29 (Operand.tmp 45)), type := 29, pos := "law.go:34", after := #[{ on := 2, ground := Ground.data }], guard := none } : Oper), ({ dst := (some 8), op := (Op.alloc 29), type := 0, pos := "law.go:34", after := #[], guard := none } : Oper), ({ dst := none, op := (Op.store 29 (Operand.tmp 8) (Operand.tmp 46)), type := 0, pos := "law.go:34", after := #[{ on := 4, ground := Ground.data }, { on := 3, ground := Ground.data }, { on := 0, ground := Ground.phase }, { on := 1, ground := Ground.phase }, { on := 2, ground := Ground.phase }, { on := 3, ground := Ground.phase }, { on := 4, ground := Ground.phase }], guard := none } : Oper)]
def OPS9 : List Oper := [({ dst := (some 9), op := (Op.assign (Operand.const (Value.bool false))), type := 4, pos := "law.go:35", after := #[], guard := none } : Oper), ({ dst := (some 10), op := (Op.assign (Operand.const (Value.bool false))), type := 4, pos := "law.go:35", after := #[{ on := 0, ground := Ground.chain }, { on := 0, ground := Ground.phase }], guard := none } : Oper)]
def OPS10 : List Oper := [({ dst := (some 47), op := (Op.fieldAddr 29 (Operand.tmp 8) 0), type := 0, pos := "law.go:36", after := #[], guard := none } : Oper), ({ dst := (some 48), op := (Op.load 3 (Operand.tmp 47)), type := 3, pos := "law.go:36", after := #[{ on := 0, ground := Ground.data }], guard := none } : Oper)]
def OPS11 : List Oper := [({ dst := (some 50), op := (Op.binOp BinOp.eql 3 (Operand.tmp 48) (Operand.const (Value.int IntKind.i64 0)) 3), type := 4, pos := "law.go:37", after := #[], guard := none } : Oper), ({ dst := (some 49), op := (Op.assign (Operand.tmp 50)), type := 4, pos := "law.go:37", after := #[{ on := 0, ground := Ground.data }], guard := none } : Oper)]
def OPS12 : List Oper := [({ dst := (some 51), op := (Op.move (Operand.tmp 5)), type := 23, pos := "law.go:38", after := #[], guard := none } : Oper), ({ dst := (some 52), op := (Op.fieldAddr 29 (Operand.tmp 8) 1), type := 0, pos := "law.go:38", after := #[], guard := none } : Oper), ({ dst := (some 53), op := (Op.load 3 (Operand.tmp 52)), type := 3, pos := "law.go:38", after := #[{ on := 1, ground := Ground.data }], guard := none } : Oper), ({ dst := (some 54), op := (Op.fieldAddr 29 (Operand.tmp 8) 3), type := 0, pos := "law.go:38", after := #[], guard := none } : Oper), ({ dst := (some 55), op := (Op.load 3 (Operand.tmp 54)), type := 3, pos := "law.go:38", after := #[{ on := 3, ground := Ground.data }], guard := none } : Oper), ({ dst := (some 56), op := (Op.call { callee := (Callee.value (Operand.func 17)), args := #[(Operand.tmp 51), (Operand.tmp 53), (Operand.tmp 55)], argTypes := #[23, 3, 3] }), type := 4, pos := "law.go:38", after := #[{ on := 0, ground := Ground.data }, { on := 2, ground := Ground.data }, { on := 4, ground := Ground.data }], guard := none } : Oper), ({ dst := (some 57), op := (Op.move (Operand.tmp 6)), type := 26, pos := "law.go:38", after := #[], guard := none } : Oper), ({ dst := (some 58), op := (Op.fieldAddr 29 (Operand.tmp 8) 1), type := 0, pos := "law.go:38", after := #[], guard := none } : Oper), ({ dst := (some 59), op := (Op.load 3 (Operand.tmp 58)), type := 3, pos := "law.go:38", after := #[{ on := 7, ground := Ground.data }], guard := none } : Oper), ({ dst := (some 60), op := (Op.fieldAddr 29 (Operand.tmp 8) 3), type := 0, pos := "law.go:38", after := #[], guard := none } : Oper), ({ dst := (some 61), op := (Op.load 3 (Operand.tmp 60)), type := 3, pos := "law.go:38", after := #[{ on := 9, ground := Ground.data }], guard := none } : Oper), ({ dst := (some 62), op := (Op.call { callee := (Callee.value (Operand.func 18)), args := #[(Operand.tmp 57), (Operand.tmp 59), (Operand.tmp 61)], argTypes := #[26, 3, 3] }), type := 4, pos := "law.go:38", after := #[{ on := 6, ground := Ground.data }, { on := 8, ground := Ground.data }, { on := 10, ground := Ground.data }, { on := 5, ground := Ground.chain }], guard := none } : Oper), ({ dst := (some 9), op := (Op.assign (Operand.tmp 56)), type := 4, pos := "law.go:38", after := #[{ on := 5, ground := Ground.data }, { on := 11, ground := Ground.chain }, { on := 0, ground := Ground.phase }, { on := 1, ground := Ground.phase }, { on := 2, ground := Ground.phase }, { on := 3, ground := Ground.phase }, { on := 4, ground := Ground.phase }, { on := 5, ground := Ground.phase }, { on := 6, ground := (Ground.textOnly Departure.lateStores) }, { on := 7, ground := (Ground.textOnly Departure.lateStores) }, { on := 8, ground := (Ground.textOnly Departure.lateStores) }, { on := 9, ground := (Ground.textOnly Departure.lateStores) }, { on := 10, ground := (Ground.textOnly Departure.lateStores) }, { on := 11, ground := (Ground.textOnly Departure.lateStoresUnsure) }], guard := none } : Oper), ({ dst := (some 10), op := (Op.assign (Operand.tmp 62)), type := 4, pos := "law.go:38", after := #[{ on := 11, ground := Ground.data }, { on := 12, ground := Ground.chain }, { on := 0, ground := Ground.phase }, { on := 1, ground := Ground.phase }, { on := 2, ground := Ground.phase }, { on := 3, ground := Ground.phase }, { on := 4, ground := Ground.phase }, { on := 5, ground := Ground.phase }, { on := 6, ground := Ground.phase }, { on := 7, ground := Ground.phase }, { on := 8, ground := Ground.phase }, { on := 9, ground := Ground.phase }, { on := 10, ground := Ground.phase }, { on := 11, ground := Ground.phase }, { on := 12, ground := Ground.phase }], guard := none } : Oper)]
def OPS13 : List Oper := [({ dst := (some 64), op := (Op.binOp BinOp.eql 3 (Operand.tmp 48) (Operand.const (Value.int IntKind.i64 1)) 3), type := 4, pos := "law.go:39", after := #[], guard := none } : Oper), ({ dst := (some 63), op := (Op.assign (Operand.tmp 64)), type := 4, pos := "law.go:39", after := #[{ on := 0, ground := Ground.data }], guard := none } : Oper)]
def OPS14 : List Oper := [({ dst := (some 65), op := (Op.move (Operand.tmp 5)), type := 23, pos := "law.go:40", after := #[], guard := none } : Oper), ({ dst := (some 66), op := (Op.fieldAddr 29 (Operand.tmp 8) 1), type := 0, pos := "law.go:40", after := #[], guard := none } : Oper), ({ dst := (some 67), op := (Op.load 3 (Operand.tmp 66)), type := 3, pos := "law.go:40", after := #[{ on := 1, ground := Ground.data }], guard := none } : Oper), ({ dst := (some 68), op := (Op.call { callee := (Callee.value (Operand.func 19)), args := #[(Operand.tmp 65), (Operand.tmp 67)], argTypes := #[23, 3] }), type := 4, pos := "law.go:40", after := #[{ on := 0, ground := Ground.data }, { on := 2, ground := Ground.data }], guard := none } : Oper), ({ dst := (some 69), op := (Op.move (Operand.tmp 6)), type := 26, pos := "law.go:40", after := #[], guard := none } : Oper), ({ dst := (some 70), op := (Op.fieldAddr 29 (Operand.tmp 8) 1), type := 0, pos := "law.go:40", after := #[], guard := none } : Oper), ({ dst := (some 71), op := (Op.load 3 (Operand.tmp 70)), type := 3, pos := "law.go:40", after := #[{ on := 5, ground := Ground.data }], guard := none } : Oper), ({ dst := (some 72), op := (Op.call { callee := (Callee.value (Operand.func 20)), args := #[(Operand.tmp 69), (Operand.tmp 71)], argTypes := #[26, 3] }), type := 4, pos := "law.go:40", after := #[{ on := 4, ground := Ground.data }, { on := 6, ground := Ground.data }, { on := 3, ground := Ground.chain }], guard := none } : Oper), ({ dst := (some 9), op := (Op.assign (Operand.tmp 68)), type := 4, pos := "law.go:40", after := #[{ on := 3, ground := Ground.data }, { on := 7, ground := Ground.chain }, { on := 0, ground := Ground.phase }, { on := 1, ground := Ground.phase }, { on := 2, ground := Ground.phase }, { on := 3, ground := Ground.phase }, { on := 4, ground := (Ground.textOnly Departure.lateStores) }, { on := 5, ground := (Ground.textOnly Departure.lateStores) }, { on := 6, ground := (Ground.textOnly Departure.lateStores) }, { on := 7, ground := (Ground.textOnly Departure.lateStoresUnsure) }], guard := none } : Oper), ({ dst := (some 10), op := (Op.assign (Operand.tmp 72)), type := 4, pos := "law.go:40", after := #[{ on := 7, ground := Ground.data }, { on := 8, ground := Ground.chain }, { on := 0, ground := Ground.phase }, { on := 1, ground := Ground.phase }, { on := 2, ground := Ground.phase }, { on := 3, ground := Ground.phase }, { on := 4, ground := Ground.phase }, { on := 5, ground := Ground.phase }, { on := 6, ground := Ground.phase }, { on := 7, ground := Ground.phase }, { on := 8, ground := Ground.phase }], guard := none } : Oper)]
def OPS15 : List Oper := [({ dst := (some 74), op := (Op.binOp BinOp.eql 3 (Operand.tmp 48) (Operand.const (Value.int IntKind.i64 2)) 3), type := 4, pos := "law.go:41", after := #[], guard := none } : Oper), ({ dst := (some 73), op := (Op.assign (Operand.tmp 74)), type := 4, pos := "law.go:41", after := #[{ on := 0, ground := Ground.data }], guard := none } : Oper)]
def OPS16 : List Oper := [({ dst := (some 75), op := (Op.move (Operand.tmp 5)), type := 23, pos := "law.go:42", after := #[], guard := none } : Oper), ({ dst := (some 76), op := (Op.fieldAddr 29 (Operand.tmp 8) 1), type := 0, pos := "law.go:42", after := #[], guard := none } : Oper), ({ dst := (some 77), op := (Op.load 3 (Operand.tmp 76)), type := 3, pos := "law.go:42", after := #[{ on := 1, ground := Ground.data }], guard := none } : Oper), ({ dst := (some 78), op := (Op.fieldAddr 29 (Operand.tmp 8) 2), type := 0, pos := "law.go:42", after := #[], guard := none } : Oper), ({ dst := (some 79), op := (Op.load 3 (Operand.tmp 78)), type := 3, pos := "law.go:42", after := #[{ on := 3, ground := Ground.data }], guard := none } : Oper), ({ dst := (some 80), op := (Op.call { callee := (Callee.value (Operand.func 21)), args := #[(Operand.tmp 75), (Operand.tmp 77), (Operand.tmp 79)], argTypes := #[23, 3, 3] }), type := 4, pos := "law.go:42", after := #[{ on := 0, ground := Ground.data }, { on := 2, ground := Ground.data }, { on := 4, ground := Ground.data }], guard := none } : Oper), ({ dst := (some 81), op := (Op.move (Operand.tmp 6)), type := 26, pos := "law.go:42", after := #[], guard := none } : Oper), ({ dst := (some 82), op := (Op.fieldAddr 29 (Operand.tmp 8) 1), type := 0, pos := "law.go:42", after := #[], guard := none } : Oper), ({ dst := (some 83), op := (Op.load 3 (Operand.tmp 82)), type := 3, pos := "law.go:42", after := #[{ on := 7, ground := Ground.data }], guard := none } : Oper), ({ dst := (some 84), op := (Op.fieldAddr 29 (Operand.tmp 8) 2), type := 0, pos := "law.go:42", after := #[], guard := none } : Oper), ({ dst := (some 85), op := (Op.load 3 (Operand.tmp 84)), type := 3, pos := "law.go:42", after := #[{ on := 9, ground := Ground.data }], guard := none } : Oper), ({ dst := (some 86), op := (Op.call { callee := (Callee.value (Operand.func 22)), args := #[(Operand.tmp 81), (Operand.tmp 83), (Operand.tmp 85)], argTypes := #[26, 3, 3] }), type := 4, pos := "law.go:42", after := #[{ on := 6, ground := Ground.data }, { on := 8, ground := Ground.data }, { on := 10, ground := Ground.data }, { on := 5, ground := Ground.chain }], guard := none } : Oper), ({ dst := (some 9), op := (Op.assign (Operand.tmp 80)), type := 4, pos := "law.go:42", after := #[{ on := 5, ground := Ground.data }, { on := 11, ground := Ground.chain }, { on := 0, ground := Ground.phase }, { on := 1, ground := Ground.phase }, { on := 2, ground := Ground.phase }, { on := 3, ground := Ground.phase }, { on := 4, ground := Ground.phase }, { on := 5, ground := Ground.phase }, { on := 6, ground := (Ground.textOnly Departure.lateStores) }, { on := 7, ground := (Ground.textOnly Departure.lateStores) }, { on := 8, ground := (Ground.textOnly Departure.lateStores) }, { on := 9, ground := (Ground.textOnly Departure.lateStores) }, { on := 10, ground := (Ground.textOnly Departure.lateStores) }, { on := 11, ground := (Ground.textOnly Departure.lateStoresUnsure) }], guard := none } : Oper), ({ dst := (some 10), op := (Op.assign (Operand.tmp 86)), type := 4, pos := "law.go:42", after := #[{ on := 11, ground := Ground.data }, { on := 12, ground := Ground.chain }, { on := 0, ground := Ground.phase }, { on := 1, ground := Ground.phase }, { on := 2, ground := Ground.phase }, { on := 3, ground := Ground.phase }, { on := 4, ground := Ground.phase }, { on := 5, ground := Ground.phase }, { on := 6, ground := Ground.phase }, { on := 7, ground := Ground.phase }, { on := 8, ground := Ground.phase }, { on := 9, ground := Ground.phase }, { on := 10, ground := Ground.phase }, { on := 11, ground := Ground.phase }, { on := 12, ground := Ground.phase }], guard := none } : Oper)]
def OPS17 : List Oper := [({ dst := (some 88), op := (Op.binOp BinOp.eql 3 (Operand.tmp 48) (Operand.const (Value.int IntKind.i64 3)) 3), type := 4, pos := "law.go:43", after := #[], guard := none } : Oper), ({ dst := (some 87), op := (Op.assign (Operand.tmp 88)), type := 4, pos := "law.go:43", after := #[{ on := 0, ground := Ground.data }], guard := none } : Oper)]
def OPS18 : List Oper := [({ dst := (some 89), op := (Op.move (Operand.tmp 5)), type := 23, pos := "law.go:44", after := #[], guard := none } : Oper), ({ dst := (some 90), op := (Op.fieldAddr 29 (Operand.tmp 8) 1), type := 0, pos := "law.go:44", after := #[], guard := none } : Oper), ({ dst := (some 91), op := (Op.load 3 (Operand.tmp 90)), type := 3, pos := "law.go:44", after := #[{ on := 1, ground := Ground.data }], guard := none } : Oper), ({ dst := (some 92), op := (Op.call { callee := (Callee.value (Operand.func 23)), args := #[(Operand.tmp 89), (Operand.tmp 91)], argTypes := #[23, 3] }), type := 4, pos := "law.go:44", after := #[{ on := 0, ground := Ground.data }, { on := 2, ground := Ground.data }], guard := none } : Oper), ({ dst := (some 93), op := (Op.move (Operand.tmp 6)), type := 26, pos := "law.go:44", after := #[], guard := none } : Oper), ({ dst := (some 94), op := (Op.fieldAddr 29 (Operand.tmp 8) 1), type := 0, pos := "law.go:44", after := #[], guard := none } : Oper), ({ dst := (some 95), op := (Op.load 3 (Operand.tmp 94)), type := 3, pos := "law.go:44", after := #[{ on := 5, ground := Ground.data }], guard := none } : Oper), ({ dst := (some 96), op := (Op.call { callee := (Callee.value (Operand.func 24)), args := #[(Operand.tmp 93), (Operand.tmp 95)], argTypes := #[26, 3] }), type := 4, pos := "law.go:44", after := #[{ on := 4, ground := Ground.data }, { on := 6, ground := Ground.data }, { on := 3, ground := Ground.chain }], guard := none } : Oper), ({ dst := (some 9), op := (Op.assign (Operand.tmp 92)), type := 4, pos := "law.go:44", after := #[{ on := 3, ground := Ground.data }, { on := 7, ground := Ground.chain }, { on := 0, ground := Ground.phase }, { on := 1, ground := Ground.phase }, { on := 2, ground := Ground.phase }, { on := 3, ground := Ground.phase }, { on := 4, ground := (Ground.textOnly Departure.lateStores) }, { on := 5, ground := (Ground.textOnly Departure.lateStores) }, { on := 6, ground := (Ground.textOnly Departure.lateStores) }, { on := 7, ground := (Ground.textOnly Departure.lateStoresUnsure) }], guard := none } : Oper), ({ dst := (some 10), op := (Op.assign (Operand.tmp 96)), type := 4, pos := "law.go:44", after := #[{ on := 7, ground := Ground.data }, { on := 8, ground := Ground.chain }, { on := 0, ground := Ground.phase }, { on := 1, ground := Ground.phase }, { on := 2, ground := Ground.phase }, { on := 3, ground := Ground.phase }, { on := 4, ground := Ground.phase }, { on := 5, ground := Ground.phase }, { on := 6, ground := Ground.phase }, { on := 7, ground := Ground.phase }, { on := 8, ground := Ground.phase }], guard := none } : Oper)]
def OPS19 : List Oper := [({ dst := (some 98), op := (Op.binOp BinOp.eql 3 (Operand.tmp 48) (Operand.const (Value.int IntKind.i64 4)) 3), type := 4, pos := "law.go:45", after := #[], guard := none } : Oper), ({ dst := (some 97), op := (Op.assign (Operand.tmp 98)), type := 4, pos := "law.go:45", after := #[{ on := 0, ground := Ground.data }], guard := none } : Oper)]
def OPS20 : List Oper := [({ dst := (some 99), op := (Op.move (Operand.tmp 5)), type := 23, pos := "law.go:46", after := #[], guard := none } : Oper), ({ dst := (some 100), op := (Op.fieldAddr 29 (Operand.tmp 8) 1), type := 0, pos := "law.go:46", after := #[], guard := none } : Oper), ({ dst := (some 101), op := (Op.load 3 (Operand.tmp 100)), type := 3, pos := "law.go:46", after := #[{ on := 1, ground := Ground.data }], guard := none } : Oper), ({ dst := (some 102), op := (Op.call { callee := (Callee.value (Operand.func 25)), args := #[(Operand.tmp 99), (Operand.tmp 101)], argTypes := #[23, 3] }), type := 4, pos := "law.go:46", after := #[{ on := 0, ground := Ground.data }, { on := 2, ground := Ground.data }], guard := none } : Oper), ({ dst := (some 103), op := (Op.move (Operand.tmp 6)), type := 26, pos := "law.go:46", after := #[], guard := none } : Oper), ({ dst := (some 104), op := (Op.fieldAddr 29 (Operand.tmp 8) 1), type := 0, pos := "law.go:46", after := #[], guard := none } : Oper), ({ dst := (some 105), op := (Op.load 3 (Operand.tmp 104)), type := 3, pos := "law.go:46", after := #[{ on := 5, ground := Ground.data }], guard := none } : Oper), ({ dst := (some 106), op := (Op.call { callee := (Callee.value (Operand.func 26)), args := #[(Operand.tmp 103), (Operand.tmp 105)], argTypes := #[26, 3] }), type := 4, pos := "law.go:46", after := #[{ on := 4, ground := Ground.data }, { on := 6, ground := Ground.data }, { on := 3, ground := Ground.chain }], guard := none } : Oper), ({ dst := (some 9), op := (Op.assign (Operand.tmp 102)), type := 4, pos := "law.go:46", after := #[{ on := 3, ground := Ground.data }, { on := 7, ground := Ground.chain }, { on := 0, ground := Ground.phase }, { on := 1, ground := Ground.phase }, { on := 2, ground := Ground.phase }, { on := 3, ground := Ground.phase }, { on := 4, ground := (Ground.textOnly Departure.lateStores) }, { on := 5, ground := (Ground.textOnly Departure.lateStores) }, { on := 6, ground := (Ground.textOnly Departure.lateStores) }, { on := 7, ground := (Ground.textOnly Departure.lateStoresUnsure) }], guard := none } : Oper), ({ dst := (some 10), op := (Op.assign (Operand.tmp 106)), type := 4, pos := "law.go:46", after := #[{ on := 7, ground := Ground.data }, { on := 8, ground := Ground.chain }, { on := 0, ground := Ground.phase }, { on := 1, ground := Ground.phase }, { on := 2, ground := Ground.phase }, { on := 3, ground := Ground.phase }, { on := 4, ground := Ground.phase }, { on := 5, ground := Ground.phase }, { on := 6, ground := Ground.phase }, { on := 7, ground := Ground.phase }, { on := 8, ground := Ground.phase }], guard := none } : Oper)]
def OPS21 : List Oper := [({ dst := (some 108), op := (Op.binOp BinOp.eql 3 (Operand.tmp 48) (Operand.const (Value.int IntKind.i64 5)) 3), type := 4, pos := "law.go:47", after := #[], guard := none } : Oper), ({ dst := (some 107), op := (Op.assign (Operand.tmp 108)), type := 4, pos := "law.go:47", after := #[{ on := 0, ground := Ground.data }], guard := none } : Oper)]
def OPS22 : List Oper := [({ dst := (some 109), op := (Op.move (Operand.tmp 5)), type := 23, pos := "law.go:48", after := #[], guard := none } : Oper), ({ dst := (some 110), op := (Op.fieldAddr 29 (Operand.tmp 8) 1), type := 0, pos := "law.go:48", after := #[], guard := none } : Oper), ({ dst := (some 111), op := (Op.load 3 (Operand.tmp 110)), type := 3, pos := "law.go:48", after := #[{ on := 1, ground := Ground.data }], guard := none } : Oper), ({ dst := (some 112), op := (Op.fieldAddr 29 (Operand.tmp 8) 3), type := 0, pos := "law.go:48", after := #[], guard := none } : Oper), ({ dst := (some 113), op := (Op.load 3 (Operand.tmp 112)), type := 3, pos := "law.go:48", after := #[{ on := 3, ground := Ground.data }], guard := none } : Oper), ({ dst := (some 114), op := (Op.call { callee := (Callee.value (Operand.func 27)), args := #[(Operand.tmp 109), (Operand.tmp 111), (Operand.tmp 113)], argTypes := #[23, 3, 3] }), type := 4, pos := "law.go:48", after := #[{ on := 0, ground := Ground.data }, { on := 2, ground := Ground.data }, { on := 4, ground := Ground.data }], guard := none } : Oper), ({ dst := (some 115), op := (Op.move (Operand.tmp 6)), type := 26, pos := "law.go:48", after := #[], guard := none } : Oper), ({ dst := (some 116), op := (Op.fieldAddr 29 (Operand.tmp 8) 1), type := 0, pos := "law.go:48", after := #[], guard := none } : Oper), ({ dst := (some 117), op := (Op.load 3 (Operand.tmp 116)), type := 3, pos := "law.go:48", after := #[{ on := 7, ground := Ground.data }], guard := none } : Oper), ({ dst := (some 118), op := (Op.fieldAddr 29 (Operand.tmp 8) 3), type := 0, pos := "law.go:48", after := #[], guard := none } : Oper), ({ dst := (some 119), op := (Op.load 3 (Operand.tmp 118)), type := 3, pos := "law.go:48", after := #[{ on := 9, ground := Ground.data }], guard := none } : Oper), ({ dst := (some 120), op := (Op.call { callee := (Callee.value (Operand.func 28)), args := #[(Operand.tmp 115), (Operand.tmp 117), (Operand.tmp 119)], argTypes := #[26, 3, 3] }), type := 4, pos := "law.go:48", after := #[{ on := 6, ground := Ground.data }, { on := 8, ground := Ground.data }, { on := 10, ground := Ground.data }, { on := 5, ground := Ground.chain }], guard := none } : Oper), ({ dst := (some 9), op := (Op.assign (Operand.tmp 114)), type := 4, pos := "law.go:48", after := #[{ on := 5, ground := Ground.data }, { on := 11, ground := Ground.chain }, { on := 0, ground := Ground.phase }, { on := 1, ground := Ground.phase }, { on := 2, ground := Ground.phase }, { on := 3, ground := Ground.phase }, { on := 4, ground := Ground.phase }, { on := 5, ground := Ground.phase }, { on := 6, ground := (Ground.textOnly Departure.lateStores) }, { on := 7, ground := (Ground.textOnly Departure.lateStores) }, { on := 8, ground := (Ground.textOnly Departure.lateStores) }, { on := 9, ground := (Ground.textOnly Departure.lateStores) }, { on := 10, ground := (Ground.textOnly Departure.lateStores) }, { on := 11, ground := (Ground.textOnly Departure.lateStoresUnsure) }], guard := none } : Oper), ({ dst := (some 10), op := (Op.assign (Operand.tmp 120)), type := 4, pos := "law.go:48", after := #[{ on := 11, ground := Ground.data }, { on := 12, ground := Ground.chain }, { on := 0, ground := Ground.phase }, { on := 1, ground := Ground.phase }, { on := 2, ground := Ground.phase }, { on := 3, ground := Ground.phase }, { on := 4, ground := Ground.phase }, { on := 5, ground := Ground.phase }, { on := 6, ground := Ground.phase }, { on := 7, ground := Ground.phase }, { on := 8, ground := Ground.phase }, { on := 9, ground := Ground.phase }, { on := 10, ground := Ground.phase }, { on := 11, ground := Ground.phase }, { on := 12, ground := Ground.phase }], guard := none } : Oper)]
def OPS23 : List Oper := [({ dst := (some 122), op := (Op.binOp BinOp.eql 3 (Operand.tmp 48) (Operand.const (Value.int IntKind.i64 6)) 3), type := 4, pos := "law.go:49", after := #[], guard := none } : Oper), ({ dst := (some 121), op := (Op.assign (Operand.tmp 122)), type := 4, pos := "law.go:49", after := #[{ on := 0, ground := Ground.data }], guard := none } : Oper)]
def OPS24 : List Oper := [({ dst := (some 123), op := (Op.move (Operand.tmp 5)), type := 23, pos := "law.go:50", after := #[], guard := none } : Oper), ({ dst := (some 124), op := (Op.fieldAddr 29 (Operand.tmp 8) 1), type := 0, pos := "law.go:50", after := #[], guard := none } : Oper), ({ dst := (some 125), op := (Op.load 3 (Operand.tmp 124)), type := 3, pos := "law.go:50", after := #[{ on := 1, ground := Ground.data }], guard := none } : Oper), ({ dst := (some 126), op := (Op.fieldAddr 29 (Operand.tmp 8) 2), type := 0, pos := "law.go:50", after := #[], guard := none } : Oper), ({ dst := (some 127), op := (Op.load 3 (Operand.tmp 126)), type := 3, pos := "law.go:50", after := #[{ on := 3, ground := Ground.data }], guard := none } : Oper), ({ dst := (some 128), op := (Op.fieldAddr 29 (Operand.tmp 8) 3), type := 0, pos := "law.go:50", after := #[], guard := none } : Oper), ({ dst := (some 129), op := (Op.load 3 (Operand.tmp 128)), type := 3, pos := "law.go:50", after := #[{ on := 5, ground := Ground.data }], guard := none } : Oper), ({ dst := (some 130), op := (Op.call { callee := (Callee.value (Operand.func 29)), args := #[(Operand.tmp 123), (Operand.tmp 125), (Operand.tmp 127), (Operand.tmp 129)], argTypes := #[23, 3, 3, 3] }), type := 4, pos := "law.go:50", after := #[{ on := 0, ground := Ground.data }, { on := 2, ground := Ground.data }, { on := 4, ground := Ground.data }, { on := 6, ground := Ground.data }], guard := none } : Oper), ({ dst := (some 131), op := (Op.move (Operand.tmp 6)), type := 26, pos := "law.go:50", after := #[], guard := none } : Oper), ({ dst := (some 132), op := (Op.fieldAddr 29 (Operand.tmp 8) 1), type := 0, pos := "law.go:50", after := #[], guard := none } : Oper), ({ dst := (some 133), op := (Op.load 3 (Operand.tmp 132)), type := 3, pos := "law.go:50", after := #[{ on := 9, ground := Ground.data }], guard := none } : Oper), ({ dst := (some 134), op := (Op.fieldAddr 29 (Operand.tmp 8) 2), type := 0, pos := "law.go:50", after := #[], guard := none } : Oper), ({ dst := (some 135), op := (Op.load 3 (Operand.tmp 134)), type := 3, pos := "law.go:50", after := #[{ on := 11, ground := Ground.data }], guard := none } : Oper), ({ dst := (some 136), op := (Op.fieldAddr 29 (Operand.tmp 8) 3), type := 0, pos := "law.go:50", after := #[], guard := none } : Oper), ({ dst := (some 137), op := (Op.load 3 (Operand.tmp 136)), type := 3, pos := "law.go:50", after := #[{ on := 13, ground := Ground.data }], guard := none } : Oper), ({ dst := (some 138), op := (Op.call { callee := (Callee.value (Operand.func 30)), args := #[(Operand.tmp 131), (Operand.tmp 133), (Operand.tmp 135), (Operand.tmp 137)], argTypes := #[26, 3, 3, 3] }), type := 4, pos := "law.go:50", after := #[{ on := 8, ground := Ground.data }, { on := 10, ground := Ground.data }, { on := 12, ground := Ground.data }, { on := 14, ground := Ground.data }, { on := 7, ground := Ground.chain }], guard := none } : Oper), ({ dst := (some 9), op := (Op.assign (Operand.tmp 130)), type := 4, pos := "law.go:50", after := #[{ on := 7, ground := Ground.data }, { on := 15, ground := Ground.chain }, { on := 0, ground := Ground.phase }, { on := 1, ground := Ground.phase }, { on := 2, ground := Ground.phase }, { on := 3, ground := Ground.phase }, { on := 4, ground := Ground.phase }, { on := 5, ground := Ground.phase }, { on := 6, ground := Ground.phase }, { on := 7, ground := Ground.phase }, { on := 8, ground := (Ground.textOnly Departure.lateStores) }, { on := 9, ground := (Ground.textOnly Departure.lateStores) }, { on := 10, ground := (Ground.textOnly Departure.lateStores) }, { on := 11, ground := (Ground.textOnly Departure.lateStores) }, { on := 12, ground := (Ground.textOnly Departure.lateStores) }, { on := 13, ground := (Ground.textOnly Departure.lateStores) }, { on := 14, ground := (Ground.textOnly Departure.lateStores) }, { on := 15, ground := (Ground.textOnly Departure.lateStoresUnsure) }], guard := none } : Oper), ({ dst := (some 10), op := (Op.assign (Operand.tmp 138)), type := 4, pos := "law.go:50", after := #[{ on := 15, ground := Ground.data }, { on := 16, ground := Ground.chain }, { on := 0, ground := Ground.phase }, { on := 1, ground := Ground.phase }, { on := 2, ground := Ground.phase }, { on := 3, ground := Ground.phase }, { on := 4, ground := Ground.phase }, { on := 5, ground := Ground.phase }, { on := 6, ground := Ground.phase }, { on := 7, ground := Ground.phase }, { on := 8, ground := Ground.phase }, { on := 9, ground := Ground.phase }, { on := 10, ground := Ground.phase }, { on := 11, ground := Ground.phase }, { on := 12, ground := Ground.phase }, { on := 13, ground := Ground.phase }, { on := 14, ground := Ground.phase }, { on := 15, ground := Ground.phase }, { on := 16, ground := Ground.phase }], guard := none } : Oper)]
def OPS25 : List Oper := [({ dst := (some 139), op := (Op.move (Operand.tmp 9)), type := 4, pos := "law.go:52", after := #[], guard := none } : Oper), ({ dst := (some 140), op := (Op.move (Operand.tmp 10)), type := 4, pos := "law.go:52", after := #[], guard := none } : Oper), ({ dst := (some 141), op := (Op.binOp BinOp.neq 4 (Operand.tmp 139) (Operand.tmp 140) 4), type := 4, pos := "law.go:52", after := #[{ on := 0, ground := Ground.data }, { on := 1, ground := Ground.data }], guard := none } : Oper)]
def OPS26 : List Oper := [({ dst := (some 4), op := (Op.assign (Operand.const (Value.bool false))), type := 4, pos := "law.go:53", after := #[], guard := none } : Oper)]
def OPS27 : List Oper := [({ dst := (some 143), op := (Op.move (Operand.tmp 5)), type := 23, pos := "law.go:55", after := #[], guard := none } : Oper), ({ dst := (some 144), op := (Op.fieldAddr 29 (Operand.tmp 8) 1), type := 0, pos := "law.go:55", after := #[], guard := none } : Oper), ({ dst := (some 145), op := (Op.load 3 (Operand.tmp 144)), type := 3, pos := "law.go:55", after := #[{ on := 1, ground := Ground.data }], guard := none } : Oper), ({ dst := (some 146), op := (Op.fieldAddr 29 (Operand.tmp 8) 2), type := 0, pos := "law.go:55", after := #[], guard := none } : Oper), ({ dst := (some 147), op := (Op.load 3 (Operand.tmp 146)), type := 3, pos := "law.go:55", after := #[{ on := 3, ground := Ground.data }], guard := none } : Oper), ({ dst := (some 148), op := (Op.call { callee := (Callee.value (Operand.func 31)), args := #[(Operand.tmp 143), (Operand.tmp 145), (Operand.tmp 147)], argTypes := #[23, 3, 3] }), type := 35, pos := "law.go:55", after := #[{ on := 0, ground := Ground.data }, { on := 2, ground := Ground.data }, { on := 4, ground := Ground.data }], guard := none } : Oper), ({ dst := (some 142), op := (Op.move (Operand.tmp 148)), type := 35, pos := "law.go:55", after := #[{ on := 5, ground := Ground.data }], guard := none } : Oper), ({ dst := (some 149), op := (Op.extract (Operand.tmp 142) 0), type := 34, pos := "law.go:55", after := #[{ on := 6, ground := Ground.data }], guard := none } : Oper), ({ dst := (some 150), op := (Op.extract (Operand.tmp 142) 1), type := 4, pos := "law.go:55", after := #[{ on := 6, ground := Ground.data }, { on := 10, ground := (Ground.gcOnly Departure.lateStores) }], guard := none } : Oper), ({ dst := (some 11), op := (Op.alloc 34), type := 0, pos := "law.go:55", after := #[], guard := none } : Oper), ({ dst := none, op := (Op.store 34 (Operand.tmp 11) (Operand.tmp 149)), type := 0, pos := "law.go:55", after := #[{ on := 9, ground := Ground.data }, { on := 7, ground := Ground.data }, { on := 5, ground := Ground.chain }, { on := 0, ground := Ground.phase }, { on := 1, ground := Ground.phase }, { on := 2, ground := Ground.phase }, { on := 3, ground := Ground.phase }, { on := 4, ground := Ground.phase }, { on := 5, ground := Ground.phase }, { on := 6, ground := Ground.phase }, { on := 7, ground := Ground.phase }, { on := 8, ground := (Ground.textOnly Departure.lateStores) }, { on := 9, ground := Ground.phase }], guard := none } : Oper), ({ dst := (some 12), op := (Op.assign (Operand.tmp 150)), type := 4, pos := "law.go:55", after := #[{ on := 8, ground := Ground.data }, { on := 10, ground := Ground.chain }, { on := 0, ground := Ground.phase }, { on := 1, ground := Ground.phase }, { on := 2, ground := Ground.phase }, { on := 3, ground := Ground.phase }, { on := 4, ground := Ground.phase }, { on := 5, ground := Ground.phase }, { on := 6, ground := Ground.phase }, { on := 7, ground := Ground.phase }, { on := 8, ground := Ground.phase }, { on := 9, ground := Ground.phase }, { on := 10, ground := Ground.phase }], guard := none } : Oper)]
def OPS28 : List Oper := [({ dst := (some 152), op := (Op.move (Operand.tmp 6)), type := 26, pos := "law.go:56", after := #[], guard := none } : Oper), ({ dst := (some 153), op := (Op.fieldAddr 29 (Operand.tmp 8) 1), type := 0, pos := "law.go:56", after := #[], guard := none } : Oper), ({ dst := (some 154), op := (Op.load 3 (Operand.tmp 153)), type := 3, pos := "law.go:56", after := #[{ on := 1, ground := Ground.data }], guard := none } : Oper), ({ dst := (some 155), op := (Op.fieldAddr 29 (Operand.tmp 8) 2), type := 0, pos := "law.go:56", after := #[], guard := none } : Oper), ({ dst := (some 156), op := (Op.load 3 (Operand.tmp 155)), type := 3, pos := "law.go:56", after := #[{ on := 3, ground := Ground.data }], guard := none } : Oper), ({ dst := (some 157), op := (Op.call { callee := (Callee.value (Operand.func 32)), args := #[(Operand.tmp 152), (Operand.tmp 154), (Operand.tmp 156)], argTypes := #[26, 3, 3] }), type := 35, pos := "law.go:56", after := #[{ on := 0, ground := Ground.data }, { on := 2, ground := Ground.data }, { on := 4, ground := Ground.data }], guard := none } : Oper), ({ dst := (some 151), op := (Op.move (Operand.tmp 157)), type := 35, pos := "law.go:56", after := #[{ on := 5, ground := Ground.data }], guard := none } : Oper), ({ dst := (some 158), op := (Op.extract (Operand.tmp 151) 0), type := 34, pos := "law.go:56", after := #[{ on := 6, ground := Ground.data }], guard := none } : Oper), ({ dst := (some 159), op := (Op.extract (Operand.tmp 151) 1), type := 4, pos := "law.go:56", after := #[{ on := 6, ground := Ground.data }, { on := 10, ground := (Ground.gcOnly Departure.lateStores) }], guard := none } : Oper), ({ dst := (some 13), op := (Op.alloc 34), type := 0, pos := "law.go:56", after := #[], guard := none } : Oper), ({ dst := none, op := (Op.store 34 (Operand.tmp 13) (Operand.tmp 158)), type := 0, pos := "law.go:56", after := #[{ on := 9, ground := Ground.data }, { on := 7, ground := Ground.data }, { on := 5, ground := Ground.chain }, { on := 0, ground := Ground.phase }, { on := 1, ground := Ground.phase }, { on := 2, ground := Ground.phase }, { on := 3, ground := Ground.phase }, { on := 4, ground := Ground.phase }, { on := 5, ground := Ground.phase }, { on := 6, ground := Ground.phase }, { on := 7, ground := Ground.phase }, { on := 8, ground := (Ground.textOnly Departure.lateStores) }, { on := 9, ground := Ground.phase }], guard := none } : Oper), ({ dst := (some 14), op := (Op.assign (Operand.tmp 159)), type := 4, pos := "law.go:56", after := #[{ on := 8, ground := Ground.data }, { on := 10, ground := Ground.chain }, { on := 0, ground := Ground.phase }, { on := 1, ground := Ground.phase }, { on := 2, ground := Ground.phase }, { on := 3, ground := Ground.phase }, { on := 4, ground := Ground.phase }, { on := 5, ground := Ground.phase }, { on := 6, ground := Ground.phase }, { on := 7, ground := Ground.phase }, { on := 8, ground := Ground.phase }, { on := 9, ground := Ground.phase }, { on := 10, ground := Ground.phase }], guard := none } : Oper)]
def OPS29 : List Oper := [({ dst := (some 161), op := (Op.move (Operand.tmp 5)), type := 23, pos := "law.go:57", after := #[], guard := none } : Oper), ({ dst := (some 162), op := (Op.fieldAddr 29 (Operand.tmp 8) 1), type := 0, pos := "law.go:57", after := #[], guard := none } : Oper), ({ dst := (some 163), op := (Op.load 3 (Operand.tmp 162)), type := 3, pos := "law.go:57", after := #[{ on := 1, ground := Ground.data }], guard := none } : Oper), ({ dst := (some 164), op := (Op.call { callee := (Callee.value (Operand.func 33)), args := #[(Operand.tmp 161), (Operand.tmp 163)], argTypes := #[23, 3] }), type := 37, pos := "law.go:57", after := #[{ on := 0, ground := Ground.data }, { on := 2, ground := Ground.data }], guard := none } : Oper), ({ dst := (some 160), op := (Op.move (Operand.tmp 164)), type := 37, pos := "law.go:57", after := #[{ on := 3, ground := Ground.data }], guard := none } : Oper), ({ dst := (some 165), op := (Op.extract (Operand.tmp 160) 0), type := 3, pos := "law.go:57", after := #[{ on := 4, ground := Ground.data }], guard := none } : Oper), ({ dst := (some 166), op := (Op.extract (Operand.tmp 160) 1), type := 3, pos := "law.go:57", after := #[{ on := 4, ground := Ground.data }, { on := 8, ground := (Ground.gcOnly Departure.lateStores) }], guard := none } : Oper), ({ dst := (some 167), op := (Op.extract (Operand.tmp 160) 2), type := 4, pos := "law.go:57", after := #[{ on := 4, ground := Ground.data }, { on := 9, ground := (Ground.gcOnly Departure.lateStores) }], guard := none } : Oper), ({ dst := (some 15), op := (Op.assign (Operand.tmp 165)), type := 3, pos := "law.go:57", after := #[{ on := 5, ground := Ground.data }, { on := 3, ground := Ground.chain }, { on := 0, ground := Ground.phase }, { on := 1, ground := Ground.phase }, { on := 2, ground := Ground.phase }, { on := 3, ground := Ground.phase }, { on := 4, ground := Ground.phase }, { on := 5, ground := Ground.phase }, { on := 6, ground := (Ground.textOnly Departure.lateStores) }, { on := 7, ground := (Ground.textOnly Departure.lateStores) }], guard := none } : Oper), ({ dst := (some 16), op := (Op.assign (Operand.tmp 166)), type := 3, pos := "law.go:57", after := #[{ on := 6, ground := Ground.data }, { on := 8, ground := Ground.chain }, { on := 0, ground := Ground.phase }, { on := 1, ground := Ground.phase }, { on := 2, ground := Ground.phase }, { on := 3, ground := Ground.phase }, { on := 4, ground := Ground.phase }, { on := 5, ground := Ground.phase }, { on := 6, ground := Ground.phase }, { on := 7, ground := (Ground.textOnly Departure.lateStores) }, { on := 8, ground := Ground.phase }], guard := none } : Oper), ({ dst := (some 17), op := (Op.assign (Operand.tmp 167)), type := 4, pos := "law.go:57", after := #[{ on := 7, ground := Ground.data }, { on := 9, ground := Ground.chain }, { on := 0, ground := Ground.phase }, { on := 1, ground := Ground.phase }, { on := 2, ground := Ground.phase }, { on := 3, ground := Ground.phase }, { on := 4, ground := Ground.phase }, { on := 5, ground := Ground.phase }, { on := 6, ground := Ground.phase }, { on := 7, ground := Ground.phase }, { on := 8, ground := Ground.phase }, { on := 9, ground := Ground.phase }], guard := none } : Oper)]
def OPS30 : List Oper := [({ dst := (some 169), op := (Op.move (Operand.tmp 6)), type := 26, pos := "law.go:58", after := #[], guard := none } : Oper), ({ dst := (some 170), op := (Op.fieldAddr 29 (Operand.tmp 8) 1), type := 0, pos := "law.go:58", after := #[], guard := none } : Oper), ({ dst := (some 171), op := (Op.load 3 (Operand.tmp 170)), type := 3, pos := "law.go:58", after := #[{ on := 1, ground := Ground.data }], guard := none } : Oper), ({ dst := (some 172), op := (Op.call { callee := (Callee.value (Operand.func 34)), args := #[(Operand.tmp 169), (Operand.tmp 171)], argTypes := #[26, 3] }), type := 37, pos := "law.go:58", after := #[{ on := 0, ground := Ground.data }, { on := 2, ground := Ground.data }], guard := none } : Oper), ({ dst := (some 168), op := (Op.move (Operand.tmp 172)), type := 37, pos := "law.go:58", after := #[{ on := 3, ground := Ground.data }], guard := none } : Oper), ({ dst := (some 173), op := (Op.extract (Operand.tmp 168) 0), type := 3, pos := "law.go:58", after := #[{ on := 4, ground := Ground.data }], guard := none } : Oper), ({ dst := (some 174), op := (Op.extract (Operand.tmp 168) 1), type := 3, pos := "law.go:58", after := #[{ on := 4, ground := Ground.data }, { on := 8, ground := (Ground.gcOnly Departure.lateStores) }], guard := none } : Oper), ({ dst := (some 175), op := (Op.extract (Operand.tmp 168) 2), type := 4, pos := "law.go:58", after := #[{ on := 4, ground := Ground.data }, { on := 9, ground := (Ground.gcOnly Departure.lateStores) }], guard := none } : Oper), ({ dst := (some 18), op := (Op.assign (Operand.tmp 173)), type := 3, pos := "law.go:58", after := #[{ on := 5, ground := Ground.data }, { on := 3, ground := Ground.chain }, { on := 0, ground := Ground.phase }, { on := 1, ground := Ground.phase }, { on := 2, ground := Ground.phase }, { on := 3, ground := Ground.phase }, { on := 4, ground := Ground.phase }, { on := 5, ground := Ground.phase }, { on := 6, ground := (Ground.textOnly Departure.lateStores) }, { on := 7, ground := (Ground.textOnly Departure.lateStores) }], guard := none } : Oper), ({ dst := (some 19), op := (Op.assign (Operand.tmp 174)), type := 3, pos := "law.go:58", after := #[{ on := 6, ground := Ground.data }, { on := 8, ground := Ground.chain }, { on := 0, ground := Ground.phase }, { on := 1, ground := Ground.phase }, { on := 2, ground := Ground.phase }, { on := 3, ground := Ground.phase }, { on := 4, ground := Ground.phase }, { on := 5, ground := Ground.phase }, { on := 6, ground := Ground.phase }, { on := 7, ground := (Ground.textOnly Departure.lateStores) }, { on := 8, ground := Ground.phase }], guard := none } : Oper), ({ dst := (some 20), op := (Op.assign (Operand.tmp 175)), type := 4, pos := "law.go:58", after := #[{ on := 7, ground := Ground.data }, { on := 9, ground := Ground.chain }, { on := 0, ground := Ground.phase }, { on := 1, ground := Ground.phase }, { on := 2, ground := Ground.phase }, { on := 3, ground := Ground.phase }, { on := 4, ground := Ground.phase }, { on := 5, ground := Ground.phase }, { on := 6, ground := Ground.phase }, { on := 7, ground := Ground.phase }, { on := 8, ground := Ground.phase }, { on := 9, ground := Ground.phase }], guard := none } : Oper)]
def OPS31 : List Oper := [({ dst := (some 177), op := (Op.move (Operand.tmp 5)), type := 23, pos := "law.go:59", after := #[], guard := none } : Oper), ({ dst := (some 178), op := (Op.fieldAddr 29 (Operand.tmp 8) 1), type := 0, pos := "law.go:59", after := #[], guard := none } : Oper), ({ dst := (some 179), op := (Op.load 3 (Operand.tmp 178)), type := 3, pos := "law.go:59", after := #[{ on := 1, ground := Ground.data }], guard := none } : Oper), ({ dst := (some 180), op := (Op.call { callee := (Callee.value (Operand.func 35)), args := #[(Operand.tmp 177), (Operand.tmp 179)], argTypes := #[23, 3] }), type := 39, pos := "law.go:59", after := #[{ on := 0, ground := Ground.data }, { on := 2, ground := Ground.data }], guard := none } : Oper), ({ dst := (some 176), op := (Op.move (Operand.tmp 180)), type := 39, pos := "law.go:59", after := #[{ on := 3, ground := Ground.data }], guard := none } : Oper), ({ dst := (some 181), op := (Op.extract (Operand.tmp 176) 0), type := 3, pos := "law.go:59", after := #[{ on := 4, ground := Ground.data }], guard := none } : Oper), ({ dst := (some 182), op := (Op.extract (Operand.tmp 176) 1), type := 4, pos := "law.go:59", after := #[{ on := 4, ground := Ground.data }, { on := 7, ground := (Ground.gcOnly Departure.lateStores) }], guard := none } : Oper), ({ dst := (some 21), op := (Op.assign (Operand.tmp 181)), type := 3, pos := "law.go:59", after := #[{ on := 5, ground := Ground.data }, { on := 3, ground := Ground.chain }, { on := 0, ground := Ground.phase }, { on := 1, ground := Ground.phase }, { on := 2, ground := Ground.phase }, { on := 3, ground := Ground.phase }, { on := 4, ground := Ground.phase }, { on := 5, ground := Ground.phase }, { on := 6, ground := (Ground.textOnly Departure.lateStores) }], guard := none } : Oper), ({ dst := (some 22), op := (Op.assign (Operand.tmp 182)), type := 4, pos := "law.go:59", after := #[{ on := 6, ground := Ground.data }, { on := 7, ground := Ground.chain }, { on := 0, ground := Ground.phase }, { on := 1, ground := Ground.phase }, { on := 2, ground := Ground.phase }, { on := 3, ground := Ground.phase }, { on := 4, ground := Ground.phase }, { on := 5, ground := Ground.phase }, { on := 6, ground := Ground.phase }, { on := 7, ground := Ground.phase }], guard := none } : Oper)]
def OPS32 : List Oper := [({ dst := (some 184), op := (Op.move (Operand.tmp 6)), type := 26, pos := "law.go:60", after := #[], guard := none } : Oper), ({ dst := (some 185), op := (Op.fieldAddr 29 (Operand.tmp 8) 1), type := 0, pos := "law.go:60", after := #[], guard := none } : Oper), ({ dst := (some 186), op := (Op.load 3 (Operand.tmp 185)), type := 3, pos := "law.go:60", after := #[{ on := 1, ground := Ground.data }], guard := none } : Oper), ({ dst := (some 187), op := (Op.call { callee := (Callee.value (Operand.func 36)), args := #[(Operand.tmp 184), (Operand.tmp 186)], argTypes := #[26, 3] }), type := 39, pos := "law.go:60", after := #[{ on := 0, ground := Ground.data }, { on := 2, ground := Ground.data }], guard := none } : Oper), ({ dst := (some 183), op := (Op.move (Operand.tmp 187)), type := 39, pos := "law.go:60", after := #[{ on := 3, ground := Ground.data }], guard := none } : Oper), ({ dst := (some 188), op := (Op.extract (Operand.tmp 183) 0), type := 3, pos := "law.go:60", after := #[{ on := 4, ground := Ground.data }], guard := none } : Oper), ({ dst := (some 189), op := (Op.extract (Operand.tmp 183) 1), type := 4, pos := "law.go:60", after := #[{ on := 4, ground := Ground.data }, { on := 7, ground := (Ground.gcOnly Departure.lateStores) }], guard := none } : Oper), ({ dst := (some 23), op := (Op.assign (Operand.tmp 188)), type := 3, pos := "law.go:60", after := #[{ on := 5, ground := Ground.data }, { on := 3, ground := Ground.chain }, { on := 0, ground := Ground.phase }, { on := 1, ground := Ground.phase }, { on := 2, ground := Ground.phase }, { on := 3, ground := Ground.phase }, { on := 4, ground := Ground.phase }, { on := 5, ground := Ground.phase }, { on := 6, ground := (Ground.textOnly Departure.lateStores) }], guard := none } : Oper), ({ dst := (some 24), op := (Op.assign (Operand.tmp 189)), type := 4, pos := "law.go:60", after := #[{ on := 6, ground := Ground.data }, { on := 7, ground := Ground.chain }, { on := 0, ground := Ground.phase }, { on := 1, ground := Ground.phase }, { on := 2, ground := Ground.phase }, { on := 3, ground := Ground.phase }, { on := 4, ground := Ground.phase }, { on := 5, ground := Ground.phase }, { on := 6, ground := Ground.phase }, { on := 7, ground := Ground.phase }], guard := none } : Oper)]
def OPS34 : List Oper := [({ dst := (some 4), op := (Op.assign (Operand.const (Value.bool false))), type := 4, pos := "law.go:62", after := #[], guard := none } : Oper)]
def OPS35 : List Oper := [({ dst := (some 302), op := (Op.call { callee := (Callee.value (Operand.func 50)), args := #[], argTypes := #[] }), type := 4, pos := "law.go:65", after := #[], guard := none } : Oper), ({ dst := (some 4), op := (Op.assign (Operand.tmp 302)), type := 4, pos := "law.go:65", after := #[{ on := 0, ground := Ground.data }, { on := 0, ground := Ground.chain }, { on := 0, ground := Ground.phase }], guard := none } : Oper)]
theorem rg6t {x : Option Addr} {len cap m p q : Nat} {NX : Act → World → Prop} {a0 : Act} {V : World} (K0 : Kn a0 303 [(1, .slice x len cap), (5, .pointer (some ⟨p, 0, none⟩)), (6, .pointer (some ⟨q, 0, none⟩)), (7, .int .i64 (m : Int))]) (e1 : (m : Int) < (len : Int)) (e2 : (m : Int) < 150) (hN : ∀ a' w', Kn a' 303 [(1, .slice x len cap), (5, .pointer (some ⟨p, 0, none⟩)), (6, .pointer (some ⟨q, 0, none⟩)), (7, .int .i64 (m : Int)), (40, .bool true)] → w' = V →  NX a' w') :
    (Code.region 6 OPS6.toArray false).wp Try.prog (Norm NX) a0 V := by
  refine wp_region_lit ?_
  refine ltake (v := .int .i64 (m : Int)) (w' := V) K0 rfl rfl (want_none rfl) (fun ev E => ?_) (fun a1 K1 => ?_)
  · have EC := E.const; have E7 := E.tmp 7 _ rfl; clear E K0; go_simp
  refine ltake (v := .slice x len cap) (w' := V) K1 rfl rfl (want_none rfl) (fun ev E => ?_) (fun a2 K2 => ?_)
  · have EC := E.const; have E1 := E.tmp 1 _ rfl; clear E K1; go_simp
  clear K1
  refine ltake (v := .int .i64 (len : Int)) (w' := V) K2 rfl rfl (want_none rfl) (fun ev E => ?_) (fun a3 K3 => ?_)
  · have EC := E.const; have E34 := E.tmp 34 _ rfl; clear E K2; go_simp
  clear K2
  refine ltake (v := .bool true) (w' := V) K3 rfl rfl (want_none rfl) (fun ev E => ?_) (fun a4 K4 => ?_)
  · have EC := E.const; have E33 := E.tmp 33 _ rfl; have E35 := E.tmp 35 _ rfl; clear E K3; go_simp
  clear K3
  refine ltake (v := .bool true) (w' := V) K4 rfl rfl (want_none rfl) (fun ev E => ?_) (fun a5 K5 => ?_)
  · have EC := E.const; have E36 := E.tmp 36 _ rfl; clear E K4; go_simp
  clear K4
  refine ltake (v := .int .i64 (m : Int)) (w' := V) K5 rfl rfl (want_some K5 rfl rfl rfl) (fun ev E => ?_) (fun a6 K6 => ?_)
  · have EC := E.const; have E7 := E.tmp 7 _ rfl; clear E K5; go_simp
  clear K5
  refine ltake (v := .bool true) (w' := V) K6 rfl rfl (want_some K6 rfl rfl rfl) (fun ev E => ?_) (fun a7 K7 => ?_)
  · have EC := E.const; have E38 := E.tmp 38 _ rfl; clear E K6; go_simp
  clear K6
  refine ltake (v := .bool true) (w' := V) K7 rfl rfl (want_none rfl) (fun ev E => ?_) (fun a8 K8 => ?_)
  · have EC := E.const; have E37 := E.tmp 37 _ rfl; have E39 := E.tmp 39 _ rfl; clear E K7; go_simp
  clear K7
  exact wpList_nil (hN _ _ (K8.less ⟨rfl, rfl, rfl, rfl, rfl, trivial⟩) rfl)
theorem rg6a {x : Option Addr} {len cap m p q : Nat} {NX : Act → World → Prop} {a0 : Act} {V : World} (K0 : Kn a0 303 [(1, .slice x len cap), (5, .pointer (some ⟨p, 0, none⟩)), (6, .pointer (some ⟨q, 0, none⟩)), (7, .int .i64 (m : Int))]) (e1 : ¬ (m : Int) < (len : Int)) (hN : ∀ a' w', Kn a' 303 [(1, .slice x len cap), (5, .pointer (some ⟨p, 0, none⟩)), (6, .pointer (some ⟨q, 0, none⟩)), (7, .int .i64 (m : Int)), (40, .bool false)] → w' = V →  NX a' w') :
    (Code.region 6 OPS6.toArray false).wp Try.prog (Norm NX) a0 V := by
  refine wp_region_lit ?_
  refine ltake (v := .int .i64 (m : Int)) (w' := V) K0 rfl rfl (want_none rfl) (fun ev E => ?_) (fun a1 K1 => ?_)
  · have EC := E.const; have E7 := E.tmp 7 _ rfl; clear E K0; go_simp
  refine ltake (v := .slice x len cap) (w' := V) K1 rfl rfl (want_none rfl) (fun ev E => ?_) (fun a2 K2 => ?_)
  · have EC := E.const; have E1 := E.tmp 1 _ rfl; clear E K1; go_simp
  clear K1
  refine ltake (v := .int .i64 (len : Int)) (w' := V) K2 rfl rfl (want_none rfl) (fun ev E => ?_) (fun a3 K3 => ?_)
  · have EC := E.const; have E34 := E.tmp 34 _ rfl; clear E K2; go_simp
  clear K2
  refine ltake (v := .bool false) (w' := V) K3 rfl rfl (want_none rfl) (fun ev E => ?_) (fun a4 K4 => ?_)
  · have EC := E.const; have E33 := E.tmp 33 _ rfl; have E35 := E.tmp 35 _ rfl; clear E K3; go_simp
  clear K3
  refine ltake (v := .bool false) (w' := V) K4 rfl rfl (want_none rfl) (fun ev E => ?_) (fun a5 K5 => ?_)
  · have EC := E.const; have E36 := E.tmp 36 _ rfl; clear E K4; go_simp
  clear K4
  refine lskip K5 rfl rfl (want_not K5 rfl rfl rfl (by decide)) (fun a6 K6 => ?_)
  clear K5
  refine lskip K6 rfl rfl (want_not K6 rfl rfl rfl (by decide)) (fun a7 K7 => ?_)
  clear K6
  refine ltake (v := .bool false) (w' := V) K7 rfl rfl (want_none rfl) (fun ev E => ?_) (fun a8 K8 => ?_)
  · have EC := E.const; have E37 := E.tmp 37 _ rfl; have E39 := E.tmp 39 _ rfl; clear E K7; go_simp
  clear K7
  exact wpList_nil (hN _ _ (K8.less ⟨rfl, rfl, rfl, rfl, rfl, trivial⟩) rfl)
theorem rg6b {x : Option Addr} {len cap m p q : Nat} {NX : Act → World → Prop} {a0 : Act} {V : World} (K0 : Kn a0 303 [(1, .slice x len cap), (5, .pointer (some ⟨p, 0, none⟩)), (6, .pointer (some ⟨q, 0, none⟩)), (7, .int .i64 (m : Int))]) (e1 : (m : Int) < (len : Int)) (e2 : ¬ (m : Int) < 150) (hN : ∀ a' w', Kn a' 303 [(1, .slice x len cap), (5, .pointer (some ⟨p, 0, none⟩)), (6, .pointer (some ⟨q, 0, none⟩)), (7, .int .i64 (m : Int)), (40, .bool false)] → w' = V →  NX a' w') :
    (Code.region 6 OPS6.toArray false).wp Try.prog (Norm NX) a0 V := by
  refine wp_region_lit ?_
  refine ltake (v := .int .i64 (m : Int)) (w' := V) K0 rfl rfl (want_none rfl) (fun ev E => ?_) (fun a1 K1 => ?_)
  · have EC := E.const; have E7 := E.tmp 7 _ rfl; clear E K0; go_simp
  refine ltake (v := .slice x len cap) (w' := V) K1 rfl rfl (want_none rfl) (fun ev E => ?_) (fun a2 K2 => ?_)
  · have EC := E.const; have E1 := E.tmp 1 _ rfl; clear E K1; go_simp
  clear K1
  refine ltake (v := .int .i64 (len : Int)) (w' := V) K2 rfl rfl (want_none rfl) (fun ev E => ?_) (fun a3 K3 => ?_)
  · have EC := E.const; have E34 := E.tmp 34 _ rfl; clear E K2; go_simp
  clear K2
  refine ltake (v := .bool true) (w' := V) K3 rfl rfl (want_none rfl) (fun ev E => ?_) (fun a4 K4 => ?_)
  · have EC := E.const; have E33 := E.tmp 33 _ rfl; have E35 := E.tmp 35 _ rfl; clear E K3; go_simp
  clear K3
  refine ltake (v := .bool true) (w' := V) K4 rfl rfl (want_none rfl) (fun ev E => ?_) (fun a5 K5 => ?_)
  · have EC := E.const; have E36 := E.tmp 36 _ rfl; clear E K4; go_simp
  clear K4
  refine ltake (v := .int .i64 (m : Int)) (w' := V) K5 rfl rfl (want_some K5 rfl rfl rfl) (fun ev E => ?_) (fun a6 K6 => ?_)
  · have EC := E.const; have E7 := E.tmp 7 _ rfl; clear E K5; go_simp
  clear K5
  refine ltake (v := .bool false) (w' := V) K6 rfl rfl (want_some K6 rfl rfl rfl) (fun ev E => ?_) (fun a7 K7 => ?_)
  · have EC := E.const; have E38 := E.tmp 38 _ rfl; clear E K6; go_simp
  clear K6
  refine ltake (v := .bool false) (w' := V) K7 rfl rfl (want_none rfl) (fun ev E => ?_) (fun a8 K8 => ?_)
  · have EC := E.const; have E37 := E.tmp 37 _ rfl; have E39 := E.tmp 39 _ rfl; clear E K7; go_simp
  clear K7
  exact wpList_nil (hN _ _ (K8.less ⟨rfl, rfl, rfl, rfl, rfl, trivial⟩) rfl)
theorem rg8 {bx ox : Nat} {len cap m p q : Nat} {kd a b c : Int} {NX : Act → World → Prop} {a0 : Act} {V : World} (K0 : Kn a0 303 [(1, .slice (some ⟨bx, ox, none⟩) len cap), (5, .pointer (some ⟨p, 0, none⟩)), (6, .pointer (some ⟨q, 0, none⟩)), (7, .int .i64 (m : Int))]) (e1 : (m : Int) < (len : Int)) (e3 : (0 : Int) ≤ (m : Int)) (y0 : V.cell? ⟨bx, ox + m * 4, none⟩ = some (.int .i64 kd)) (y1 : V.cell? ⟨bx, ox + m * 4 + 1, none⟩ = some (.int .i64 a)) (y2 : V.cell? ⟨bx, ox + m * 4 + 2, none⟩ = some (.int .i64 b)) (y3 : V.cell? ⟨bx, ox + m * 4 + 3, none⟩ = some (.int .i64 c)) (hN : ∀ a' w', Kn a' 303 [(1, .slice (some ⟨bx, ox, none⟩) len cap), (5, .pointer (some ⟨p, 0, none⟩)), (6, .pointer (some ⟨q, 0, none⟩)), (7, .int .i64 (m : Int)), (8, .pointer (some ⟨V.heap.size, 0, none⟩))] → w' = V.alloc (.cells #[.int .i64 kd, .int .i64 a, .int .i64 b, .int .i64 c] 29) →  NX a' w') :
    (Code.region 8 OPS8.toArray false).wp Try.prog (Norm NX) a0 V := by
  refine wp_region_lit ?_
  refine ltake (v := .slice (some ⟨bx, ox, none⟩) len cap) (w' := V) K0 rfl rfl (want_none rfl) (fun ev E => ?_) (fun a1 K1 => ?_)
  · have EC := E.const; have E1 := E.tmp 1 _ rfl; clear E K0; go_simp
  refine ltake (v := .int .i64 (m : Int)) (w' := V) K1 rfl rfl (want_none rfl) (fun ev E => ?_) (fun a2 K2 => ?_)
  · have EC := E.const; have E7 := E.tmp 7 _ rfl; clear E K1; go_simp
  clear K1
  refine ltake (v := .pointer (some ⟨bx, ox + m * 4, none⟩)) (w' := V) K2 rfl rfl (want_none rfl) (fun ev E => ?_) (fun a3 K3 => ?_)
  · have EC := E.const; have E43 := E.tmp 43 _ rfl; have E44 := E.tmp 44 _ rfl; clear E K2; go_simp
  clear K2
  refine ltake (v := .agg #[.int .i64 kd, .int .i64 a, .int .i64 b, .int .i64 c]) (w' := V) K3 rfl rfl (want_none rfl) (fun ev E => ?_) (fun a4 K4 => ?_)
  · have EC := E.const; have E45 := E.tmp 45 _ rfl; clear E K3; go_simp
  clear K3
  refine ltake (v := .pointer (some ⟨V.heap.size, 0, none⟩)) (w' := V.alloc (.cells #[.int .i64 0, .int .i64 0, .int .i64 0, .int .i64 0] 29)) K4 rfl rfl (want_none rfl) (fun ev E => ?_) (fun a5 K5 => ?_)
  · have EC := E.const; clear E K4; go_simp
  clear K4
  refine lstore (w' := V.alloc (.cells #[.int .i64 kd, .int .i64 a, .int .i64 b, .int .i64 c] 29)) K5 rfl (want_none rfl) (fun ev E => ?_) ?_
  · have EC := E.const; have E8 := E.tmp 8 _ rfl; have E46 := E.tmp 46 _ rfl; clear E K5; go_simp
  have K6 := K5
  clear K5
  exact wpList_nil (hN _ _ (K6.less ⟨rfl, rfl, rfl, rfl, rfl, trivial⟩) rfl)
theorem rg9 {w : World} {p q b8 : Nat} {T : Tr} {x : Option Addr} {len cap m : Nat} {kd a b c : Int} {NX : Act → World → Prop} {a0 : Act} {V : World} (K0 : Kn a0 303 [(1, .slice x len cap), (5, .pointer (some ⟨p, 0, none⟩)), (6, .pointer (some ⟨q, 0, none⟩)), (7, .int .i64 (m : Int)), (8, .pointer (some ⟨b8, 0, none⟩))]) (hN : ∀ a' w', Kn a' 303 [(1, .slice x len cap), (5, .pointer (some ⟨p, 0, none⟩)), (6, .pointer (some ⟨q, 0, none⟩)), (7, .int .i64 (m : Int)), (8, .pointer (some ⟨b8, 0, none⟩)), (9, .bool false), (10, .bool false)] → w' = V →  NX a' w') :
    (Code.region 9 OPS9.toArray false).wp Try.prog (Norm NX) a0 V := by
  refine wp_region_lit ?_
  refine ltake (v := .bool false) (w' := V) K0 rfl rfl (want_none rfl) (fun ev E => ?_) (fun a1 K1 => ?_)
  · have EC := E.const; clear E K0; go_simp
  refine ltake (v := .bool false) (w' := V) K1 rfl rfl (want_none rfl) (fun ev E => ?_) (fun a2 K2 => ?_)
  · have EC := E.const; clear E K1; go_simp
  clear K1
  exact wpList_nil (hN _ _ (K2.less ⟨rfl, rfl, rfl, rfl, rfl, rfl, rfl, trivial⟩) rfl)
theorem rg10 {w : World} {p q b8 : Nat} {T : Tr} {x : Option Addr} {len cap m : Nat} {kd a b c : Int} {NX : Act → World → Prop} {a0 : Act} {V : World} (K0 : Kn a0 303 [(1, .slice x len cap), (5, .pointer (some ⟨p, 0, none⟩)), (6, .pointer (some ⟨q, 0, none⟩)), (7, .int .i64 (m : Int)), (8, .pointer (some ⟨b8, 0, none⟩)), (9, .bool false), (10, .bool false)]) (X : BoxAt V b8 #[.int .i64 kd, .int .i64 a, .int .i64 b, .int .i64 c] 29) (hN : ∀ a' w', Kn a' 303 [(1, .slice x len cap), (5, .pointer (some ⟨p, 0, none⟩)), (6, .pointer (some ⟨q, 0, none⟩)), (7, .int .i64 (m : Int)), (8, .pointer (some ⟨b8, 0, none⟩)), (9, .bool false), (10, .bool false), (48, .int .i64 kd)] → w' = V →  NX a' w') :
    (Code.region 10 OPS10.toArray false).wp Try.prog (Norm NX) a0 V := by
  refine wp_region_lit ?_
  refine ltake (v := .pointer (some ⟨b8, 0, none⟩)) (w' := V) K0 rfl rfl (want_none rfl) (fun ev E => ?_) (fun a1 K1 => ?_)
  · have EC := E.const; have E8 := E.tmp 8 _ rfl; clear E K0; go_simp
  refine ltake (v := .int .i64 kd) (w' := V) K1 rfl rfl (want_none rfl) (fun ev E => ?_) (fun a2 K2 => ?_)
  · have z0 : V.cell? ⟨b8, 0, none⟩ = some (.int .i64 kd) := (X.cell (o := 0) rfl).1; have EC := E.const; have E47 := E.tmp 47 _ rfl; clear E K1; go_simp
  clear K1
  exact wpList_nil (hN _ _ (K2.less ⟨rfl, rfl, rfl, rfl, rfl, rfl, rfl, rfl, trivial⟩) rfl)
theorem rg11t {w : World} {p q b8 : Nat} {T : Tr} {x : Option Addr} {len cap m : Nat} {kd a b c : Int} {NX : Act → World → Prop} {a0 : Act} {V : World} (K0 : Kn a0 303 [(1, .slice x len cap), (5, .pointer (some ⟨p, 0, none⟩)), (6, .pointer (some ⟨q, 0, none⟩)), (7, .int .i64 (m : Int)), (8, .pointer (some ⟨b8, 0, none⟩)), (9, .bool false), (10, .bool false), (48, .int .i64 0)]) (hN : ∀ a' w', Kn a' 303 [(1, .slice x len cap), (5, .pointer (some ⟨p, 0, none⟩)), (6, .pointer (some ⟨q, 0, none⟩)), (7, .int .i64 (m : Int)), (8, .pointer (some ⟨b8, 0, none⟩)), (9, .bool false), (10, .bool false), (48, .int .i64 0), (49, .bool true)] → w' = V →  NX a' w') :
    (Code.region 11 OPS11.toArray false).wp Try.prog (Norm NX) a0 V := by
  refine wp_region_lit ?_
  refine ltake (v := .bool true) (w' := V) K0 rfl rfl (want_none rfl) (fun ev E => ?_) (fun a1 K1 => ?_)
  · have EC := E.const; have E48 := E.tmp 48 _ rfl; clear E K0; go_simp
  refine ltake (v := .bool true) (w' := V) K1 rfl rfl (want_none rfl) (fun ev E => ?_) (fun a2 K2 => ?_)
  · have EC := E.const; have E50 := E.tmp 50 _ rfl; clear E K1; go_simp
  clear K1
  exact wpList_nil (hN _ _ (K2.less ⟨rfl, rfl, rfl, rfl, rfl, rfl, rfl, rfl, rfl, trivial⟩) rfl)
theorem rg11f {w : World} {p q b8 : Nat} {T : Tr} {x : Option Addr} {len cap m : Nat} {kd a b c : Int} {NX : Act → World → Prop} {a0 : Act} {V : World} (K0 : Kn a0 303 [(1, .slice x len cap), (5, .pointer (some ⟨p, 0, none⟩)), (6, .pointer (some ⟨q, 0, none⟩)), (7, .int .i64 (m : Int)), (8, .pointer (some ⟨b8, 0, none⟩)), (9, .bool false), (10, .bool false), (48, .int .i64 kd)]) (hq : (kd == 0) = false) (hN : ∀ a' w', Kn a' 303 [(1, .slice x len cap), (5, .pointer (some ⟨p, 0, none⟩)), (6, .pointer (some ⟨q, 0, none⟩)), (7, .int .i64 (m : Int)), (8, .pointer (some ⟨b8, 0, none⟩)), (9, .bool false), (10, .bool false), (48, .int .i64 kd), (49, .bool false)] → w' = V →  NX a' w') :
    (Code.region 11 OPS11.toArray false).wp Try.prog (Norm NX) a0 V := by
  refine wp_region_lit ?_
  refine ltake (v := .bool false) (w' := V) K0 rfl rfl (want_none rfl) (fun ev E => ?_) (fun a1 K1 => ?_)
  · have EC := E.const; have E48 := E.tmp 48 _ rfl; clear E K0; go_simp
  refine ltake (v := .bool false) (w' := V) K1 rfl rfl (want_none rfl) (fun ev E => ?_) (fun a2 K2 => ?_)
  · have EC := E.const; have E50 := E.tmp 50 _ rfl; clear E K1; go_simp
  clear K1
  exact wpList_nil (hN _ _ (K2.less ⟨rfl, rfl, rfl, rfl, rfl, rfl, rfl, rfl, rfl, trivial⟩) rfl)
theorem rg13t {w : World} {p q b8 : Nat} {T : Tr} {x : Option Addr} {len cap m : Nat} {kd a b c : Int} {NX : Act → World → Prop} {a0 : Act} {V : World} (K0 : Kn a0 303 [(1, .slice x len cap), (5, .pointer (some ⟨p, 0, none⟩)), (6, .pointer (some ⟨q, 0, none⟩)), (7, .int .i64 (m : Int)), (8, .pointer (some ⟨b8, 0, none⟩)), (9, .bool false), (10, .bool false), (48, .int .i64 1)]) (hN : ∀ a' w', Kn a' 303 [(1, .slice x len cap), (5, .pointer (some ⟨p, 0, none⟩)), (6, .pointer (some ⟨q, 0, none⟩)), (7, .int .i64 (m : Int)), (8, .pointer (some ⟨b8, 0, none⟩)), (9, .bool false), (10, .bool false), (48, .int .i64 1), (63, .bool true)] → w' = V →  NX a' w') :
    (Code.region 13 OPS13.toArray false).wp Try.prog (Norm NX) a0 V := by
  refine wp_region_lit ?_
  refine ltake (v := .bool true) (w' := V) K0 rfl rfl (want_none rfl) (fun ev E => ?_) (fun a1 K1 => ?_)
  · have EC := E.const; have E48 := E.tmp 48 _ rfl; clear E K0; go_simp
  refine ltake (v := .bool true) (w' := V) K1 rfl rfl (want_none rfl) (fun ev E => ?_) (fun a2 K2 => ?_)
  · have EC := E.const; have E64 := E.tmp 64 _ rfl; clear E K1; go_simp
  clear K1
  exact wpList_nil (hN _ _ (K2.less ⟨rfl, rfl, rfl, rfl, rfl, rfl, rfl, rfl, rfl, trivial⟩) rfl)
theorem rg13f {w : World} {p q b8 : Nat} {T : Tr} {x : Option Addr} {len cap m : Nat} {kd a b c : Int} {NX : Act → World → Prop} {a0 : Act} {V : World} (K0 : Kn a0 303 [(1, .slice x len cap), (5, .pointer (some ⟨p, 0, none⟩)), (6, .pointer (some ⟨q, 0, none⟩)), (7, .int .i64 (m : Int)), (8, .pointer (some ⟨b8, 0, none⟩)), (9, .bool false), (10, .bool false), (48, .int .i64 kd)]) (hq : (kd == 1) = false) (hN : ∀ a' w', Kn a' 303 [(1, .slice x len cap), (5, .pointer (some ⟨p, 0, none⟩)), (6, .pointer (some ⟨q, 0, none⟩)), (7, .int .i64 (m : Int)), (8, .pointer (some ⟨b8, 0, none⟩)), (9, .bool false), (10, .bool false), (48, .int .i64 kd), (63, .bool false)] → w' = V →  NX a' w') :
    (Code.region 13 OPS13.toArray false).wp Try.prog (Norm NX) a0 V := by
  refine wp_region_lit ?_
  refine ltake (v := .bool false) (w' := V) K0 rfl rfl (want_none rfl) (fun ev E => ?_) (fun a1 K1 => ?_)
  · have EC := E.const; have E48 := E.tmp 48 _ rfl; clear E K0; go_simp
  refine ltake (v := .bool false) (w' := V) K1 rfl rfl (want_none rfl) (fun ev E => ?_) (fun a2 K2 => ?_)
  · have EC := E.const; have E64 := E.tmp 64 _ rfl; clear E K1; go_simp
  clear K1
  exact wpList_nil (hN _ _ (K2.less ⟨rfl, rfl, rfl, rfl, rfl, rfl, rfl, rfl, rfl, trivial⟩) rfl)
theorem rg15t {w : World} {p q b8 : Nat} {T : Tr} {x : Option Addr} {len cap m : Nat} {kd a b c : Int} {NX : Act → World → Prop} {a0 : Act} {V : World} (K0 : Kn a0 303 [(1, .slice x len cap), (5, .pointer (some ⟨p, 0, none⟩)), (6, .pointer (some ⟨q, 0, none⟩)), (7, .int .i64 (m : Int)), (8, .pointer (some ⟨b8, 0, none⟩)), (9, .bool false), (10, .bool false), (48, .int .i64 2)]) (hN : ∀ a' w', Kn a' 303 [(1, .slice x len cap), (5, .pointer (some ⟨p, 0, none⟩)), (6, .pointer (some ⟨q, 0, none⟩)), (7, .int .i64 (m : Int)), (8, .pointer (some ⟨b8, 0, none⟩)), (9, .bool false), (10, .bool false), (48, .int .i64 2), (73, .bool true)] → w' = V →  NX a' w') :
    (Code.region 15 OPS15.toArray false).wp Try.prog (Norm NX) a0 V := by
  refine wp_region_lit ?_
  refine ltake (v := .bool true) (w' := V) K0 rfl rfl (want_none rfl) (fun ev E => ?_) (fun a1 K1 => ?_)
  · have EC := E.const; have E48 := E.tmp 48 _ rfl; clear E K0; go_simp
  refine ltake (v := .bool true) (w' := V) K1 rfl rfl (want_none rfl) (fun ev E => ?_) (fun a2 K2 => ?_)
  · have EC := E.const; have E74 := E.tmp 74 _ rfl; clear E K1; go_simp
  clear K1
  exact wpList_nil (hN _ _ (K2.less ⟨rfl, rfl, rfl, rfl, rfl, rfl, rfl, rfl, rfl, trivial⟩) rfl)
theorem rg15f {w : World} {p q b8 : Nat} {T : Tr} {x : Option Addr} {len cap m : Nat} {kd a b c : Int} {NX : Act → World → Prop} {a0 : Act} {V : World} (K0 : Kn a0 303 [(1, .slice x len cap), (5, .pointer (some ⟨p, 0, none⟩)), (6, .pointer (some ⟨q, 0, none⟩)), (7, .int .i64 (m : Int)), (8, .pointer (some ⟨b8, 0, none⟩)), (9, .bool false), (10, .bool false), (48, .int .i64 kd)]) (hq : (kd == 2) = false) (hN : ∀ a' w', Kn a' 303 [(1, .slice x len cap), (5, .pointer (some ⟨p, 0, none⟩)), (6, .pointer (some ⟨q, 0, none⟩)), (7, .int .i64 (m : Int)), (8, .pointer (some ⟨b8, 0, none⟩)), (9, .bool false), (10, .bool false), (48, .int .i64 kd), (73, .bool false)] → w' = V →  NX a' w') :
    (Code.region 15 OPS15.toArray false).wp Try.prog (Norm NX) a0 V := by
  refine wp_region_lit ?_
  refine ltake (v := .bool false) (w' := V) K0 rfl rfl (want_none rfl) (fun ev E => ?_) (fun a1 K1 => ?_)
  · have EC := E.const; have E48 := E.tmp 48 _ rfl; clear E K0; go_simp
  refine ltake (v := .bool false) (w' := V) K1 rfl rfl (want_none rfl) (fun ev E => ?_) (fun a2 K2 => ?_)
  · have EC := E.const; have E74 := E.tmp 74 _ rfl; clear E K1; go_simp
  clear K1
  exact wpList_nil (hN _ _ (K2.less ⟨rfl, rfl, rfl, rfl, rfl, rfl, rfl, rfl, rfl, trivial⟩) rfl)
theorem rg17t {w : World} {p q b8 : Nat} {T : Tr} {x : Option Addr} {len cap m : Nat} {kd a b c : Int} {NX : Act → World → Prop} {a0 : Act} {V : World} (K0 : Kn a0 303 [(1, .slice x len cap), (5, .pointer (some ⟨p, 0, none⟩)), (6, .pointer (some ⟨q, 0, none⟩)), (7, .int .i64 (m : Int)), (8, .pointer (some ⟨b8, 0, none⟩)), (9, .bool false), (10, .bool false), (48, .int .i64 3)]) (hN : ∀ a' w', Kn a' 303 [(1, .slice x len cap), (5, .pointer (some ⟨p, 0, none⟩)), (6, .pointer (some ⟨q, 0, none⟩)), (7, .int .i64 (m : Int)), (8, .pointer (some ⟨b8, 0, none⟩)), (9, .bool false), (10, .bool false), (48, .int .i64 3), (87, .bool true)] → w' = V →  NX a' w') :
    (Code.region 17 OPS17.toArray false).wp Try.prog (Norm NX) a0 V := by
  refine wp_region_lit ?_
  refine ltake (v := .bool true) (w' := V) K0 rfl rfl (want_none rfl) (fun ev E => ?_) (fun a1 K1 => ?_)
  · have EC := E.const; have E48 := E.tmp 48 _ rfl; clear E K0; go_simp
  refine ltake (v := .bool true) (w' := V) K1 rfl rfl (want_none rfl) (fun ev E => ?_) (fun a2 K2 => ?_)
  · have EC := E.const; have E88 := E.tmp 88 _ rfl; clear E K1; go_simp
  clear K1
  exact wpList_nil (hN _ _ (K2.less ⟨rfl, rfl, rfl, rfl, rfl, rfl, rfl, rfl, rfl, trivial⟩) rfl)
theorem rg17f {w : World} {p q b8 : Nat} {T : Tr} {x : Option Addr} {len cap m : Nat} {kd a b c : Int} {NX : Act → World → Prop} {a0 : Act} {V : World} (K0 : Kn a0 303 [(1, .slice x len cap), (5, .pointer (some ⟨p, 0, none⟩)), (6, .pointer (some ⟨q, 0, none⟩)), (7, .int .i64 (m : Int)), (8, .pointer (some ⟨b8, 0, none⟩)), (9, .bool false), (10, .bool false), (48, .int .i64 kd)]) (hq : (kd == 3) = false) (hN : ∀ a' w', Kn a' 303 [(1, .slice x len cap), (5, .pointer (some ⟨p, 0, none⟩)), (6, .pointer (some ⟨q, 0, none⟩)), (7, .int .i64 (m : Int)), (8, .pointer (some ⟨b8, 0, none⟩)), (9, .bool false), (10, .bool false), (48, .int .i64 kd), (87, .bool false)] → w' = V →  NX a' w') :
    (Code.region 17 OPS17.toArray false).wp Try.prog (Norm NX) a0 V := by
  refine wp_region_lit ?_
  refine ltake (v := .bool false) (w' := V) K0 rfl rfl (want_none rfl) (fun ev E => ?_) (fun a1 K1 => ?_)
  · have EC := E.const; have E48 := E.tmp 48 _ rfl; clear E K0; go_simp
  refine ltake (v := .bool false) (w' := V) K1 rfl rfl (want_none rfl) (fun ev E => ?_) (fun a2 K2 => ?_)
  · have EC := E.const; have E88 := E.tmp 88 _ rfl; clear E K1; go_simp
  clear K1
  exact wpList_nil (hN _ _ (K2.less ⟨rfl, rfl, rfl, rfl, rfl, rfl, rfl, rfl, rfl, trivial⟩) rfl)
theorem rg19t {w : World} {p q b8 : Nat} {T : Tr} {x : Option Addr} {len cap m : Nat} {kd a b c : Int} {NX : Act → World → Prop} {a0 : Act} {V : World} (K0 : Kn a0 303 [(1, .slice x len cap), (5, .pointer (some ⟨p, 0, none⟩)), (6, .pointer (some ⟨q, 0, none⟩)), (7, .int .i64 (m : Int)), (8, .pointer (some ⟨b8, 0, none⟩)), (9, .bool false), (10, .bool false), (48, .int .i64 4)]) (hN : ∀ a' w', Kn a' 303 [(1, .slice x len cap), (5, .pointer (some ⟨p, 0, none⟩)), (6, .pointer (some ⟨q, 0, none⟩)), (7, .int .i64 (m : Int)), (8, .pointer (some ⟨b8, 0, none⟩)), (9, .bool false), (10, .bool false), (48, .int .i64 4), (97, .bool true)] → w' = V →  NX a' w') :
    (Code.region 19 OPS19.toArray false).wp Try.prog (Norm NX) a0 V := by
  refine wp_region_lit ?_
  refine ltake (v := .bool true) (w' := V) K0 rfl rfl (want_none rfl) (fun ev E => ?_) (fun a1 K1 => ?_)
  · have EC := E.const; have E48 := E.tmp 48 _ rfl; clear E K0; go_simp
  refine ltake (v := .bool true) (w' := V) K1 rfl rfl (want_none rfl) (fun ev E => ?_) (fun a2 K2 => ?_)
  · have EC := E.const; have E98 := E.tmp 98 _ rfl; clear E K1; go_simp
  clear K1
  exact wpList_nil (hN _ _ (K2.less ⟨rfl, rfl, rfl, rfl, rfl, rfl, rfl, rfl, rfl, trivial⟩) rfl)
theorem rg19f {w : World} {p q b8 : Nat} {T : Tr} {x : Option Addr} {len cap m : Nat} {kd a b c : Int} {NX : Act → World → Prop} {a0 : Act} {V : World} (K0 : Kn a0 303 [(1, .slice x len cap), (5, .pointer (some ⟨p, 0, none⟩)), (6, .pointer (some ⟨q, 0, none⟩)), (7, .int .i64 (m : Int)), (8, .pointer (some ⟨b8, 0, none⟩)), (9, .bool false), (10, .bool false), (48, .int .i64 kd)]) (hq : (kd == 4) = false) (hN : ∀ a' w', Kn a' 303 [(1, .slice x len cap), (5, .pointer (some ⟨p, 0, none⟩)), (6, .pointer (some ⟨q, 0, none⟩)), (7, .int .i64 (m : Int)), (8, .pointer (some ⟨b8, 0, none⟩)), (9, .bool false), (10, .bool false), (48, .int .i64 kd), (97, .bool false)] → w' = V →  NX a' w') :
    (Code.region 19 OPS19.toArray false).wp Try.prog (Norm NX) a0 V := by
  refine wp_region_lit ?_
  refine ltake (v := .bool false) (w' := V) K0 rfl rfl (want_none rfl) (fun ev E => ?_) (fun a1 K1 => ?_)
  · have EC := E.const; have E48 := E.tmp 48 _ rfl; clear E K0; go_simp
  refine ltake (v := .bool false) (w' := V) K1 rfl rfl (want_none rfl) (fun ev E => ?_) (fun a2 K2 => ?_)
  · have EC := E.const; have E98 := E.tmp 98 _ rfl; clear E K1; go_simp
  clear K1
  exact wpList_nil (hN _ _ (K2.less ⟨rfl, rfl, rfl, rfl, rfl, rfl, rfl, rfl, rfl, trivial⟩) rfl)
theorem rg21t {w : World} {p q b8 : Nat} {T : Tr} {x : Option Addr} {len cap m : Nat} {kd a b c : Int} {NX : Act → World → Prop} {a0 : Act} {V : World} (K0 : Kn a0 303 [(1, .slice x len cap), (5, .pointer (some ⟨p, 0, none⟩)), (6, .pointer (some ⟨q, 0, none⟩)), (7, .int .i64 (m : Int)), (8, .pointer (some ⟨b8, 0, none⟩)), (9, .bool false), (10, .bool false), (48, .int .i64 5)]) (hN : ∀ a' w', Kn a' 303 [(1, .slice x len cap), (5, .pointer (some ⟨p, 0, none⟩)), (6, .pointer (some ⟨q, 0, none⟩)), (7, .int .i64 (m : Int)), (8, .pointer (some ⟨b8, 0, none⟩)), (9, .bool false), (10, .bool false), (48, .int .i64 5), (107, .bool true)] → w' = V →  NX a' w') :
    (Code.region 21 OPS21.toArray false).wp Try.prog (Norm NX) a0 V := by
  refine wp_region_lit ?_
  refine ltake (v := .bool true) (w' := V) K0 rfl rfl (want_none rfl) (fun ev E => ?_) (fun a1 K1 => ?_)
  · have EC := E.const; have E48 := E.tmp 48 _ rfl; clear E K0; go_simp
  refine ltake (v := .bool true) (w' := V) K1 rfl rfl (want_none rfl) (fun ev E => ?_) (fun a2 K2 => ?_)
  · have EC := E.const; have E108 := E.tmp 108 _ rfl; clear E K1; go_simp
  clear K1
  exact wpList_nil (hN _ _ (K2.less ⟨rfl, rfl, rfl, rfl, rfl, rfl, rfl, rfl, rfl, trivial⟩) rfl)
theorem rg21f {w : World} {p q b8 : Nat} {T : Tr} {x : Option Addr} {len cap m : Nat} {kd a b c : Int} {NX : Act → World → Prop} {a0 : Act} {V : World} (K0 : Kn a0 303 [(1, .slice x len cap), (5, .pointer (some ⟨p, 0, none⟩)), (6, .pointer (some ⟨q, 0, none⟩)), (7, .int .i64 (m : Int)), (8, .pointer (some ⟨b8, 0, none⟩)), (9, .bool false), (10, .bool false), (48, .int .i64 kd)]) (hq : (kd == 5) = false) (hN : ∀ a' w', Kn a' 303 [(1, .slice x len cap), (5, .pointer (some ⟨p, 0, none⟩)), (6, .pointer (some ⟨q, 0, none⟩)), (7, .int .i64 (m : Int)), (8, .pointer (some ⟨b8, 0, none⟩)), (9, .bool false), (10, .bool false), (48, .int .i64 kd), (107, .bool false)] → w' = V →  NX a' w') :
    (Code.region 21 OPS21.toArray false).wp Try.prog (Norm NX) a0 V := by
  refine wp_region_lit ?_
  refine ltake (v := .bool false) (w' := V) K0 rfl rfl (want_none rfl) (fun ev E => ?_) (fun a1 K1 => ?_)
  · have EC := E.const; have E48 := E.tmp 48 _ rfl; clear E K0; go_simp
  refine ltake (v := .bool false) (w' := V) K1 rfl rfl (want_none rfl) (fun ev E => ?_) (fun a2 K2 => ?_)
  · have EC := E.const; have E108 := E.tmp 108 _ rfl; clear E K1; go_simp
  clear K1
  exact wpList_nil (hN _ _ (K2.less ⟨rfl, rfl, rfl, rfl, rfl, rfl, rfl, rfl, rfl, trivial⟩) rfl)
theorem rg23t {w : World} {p q b8 : Nat} {T : Tr} {x : Option Addr} {len cap m : Nat} {kd a b c : Int} {NX : Act → World → Prop} {a0 : Act} {V : World} (K0 : Kn a0 303 [(1, .slice x len cap), (5, .pointer (some ⟨p, 0, none⟩)), (6, .pointer (some ⟨q, 0, none⟩)), (7, .int .i64 (m : Int)), (8, .pointer (some ⟨b8, 0, none⟩)), (9, .bool false), (10, .bool false), (48, .int .i64 6)]) (hN : ∀ a' w', Kn a' 303 [(1, .slice x len cap), (5, .pointer (some ⟨p, 0, none⟩)), (6, .pointer (some ⟨q, 0, none⟩)), (7, .int .i64 (m : Int)), (8, .pointer (some ⟨b8, 0, none⟩)), (9, .bool false), (10, .bool false), (48, .int .i64 6), (121, .bool true)] → w' = V →  NX a' w') :
    (Code.region 23 OPS23.toArray false).wp Try.prog (Norm NX) a0 V := by
  refine wp_region_lit ?_
  refine ltake (v := .bool true) (w' := V) K0 rfl rfl (want_none rfl) (fun ev E => ?_) (fun a1 K1 => ?_)
  · have EC := E.const; have E48 := E.tmp 48 _ rfl; clear E K0; go_simp
  refine ltake (v := .bool true) (w' := V) K1 rfl rfl (want_none rfl) (fun ev E => ?_) (fun a2 K2 => ?_)
  · have EC := E.const; have E122 := E.tmp 122 _ rfl; clear E K1; go_simp
  clear K1
  exact wpList_nil (hN _ _ (K2.less ⟨rfl, rfl, rfl, rfl, rfl, rfl, rfl, rfl, rfl, trivial⟩) rfl)
theorem rg23f {w : World} {p q b8 : Nat} {T : Tr} {x : Option Addr} {len cap m : Nat} {kd a b c : Int} {NX : Act → World → Prop} {a0 : Act} {V : World} (K0 : Kn a0 303 [(1, .slice x len cap), (5, .pointer (some ⟨p, 0, none⟩)), (6, .pointer (some ⟨q, 0, none⟩)), (7, .int .i64 (m : Int)), (8, .pointer (some ⟨b8, 0, none⟩)), (9, .bool false), (10, .bool false), (48, .int .i64 kd)]) (hq : (kd == 6) = false) (hN : ∀ a' w', Kn a' 303 [(1, .slice x len cap), (5, .pointer (some ⟨p, 0, none⟩)), (6, .pointer (some ⟨q, 0, none⟩)), (7, .int .i64 (m : Int)), (8, .pointer (some ⟨b8, 0, none⟩)), (9, .bool false), (10, .bool false), (48, .int .i64 kd), (121, .bool false)] → w' = V →  NX a' w') :
    (Code.region 23 OPS23.toArray false).wp Try.prog (Norm NX) a0 V := by
  refine wp_region_lit ?_
  refine ltake (v := .bool false) (w' := V) K0 rfl rfl (want_none rfl) (fun ev E => ?_) (fun a1 K1 => ?_)
  · have EC := E.const; have E48 := E.tmp 48 _ rfl; clear E K0; go_simp
  refine ltake (v := .bool false) (w' := V) K1 rfl rfl (want_none rfl) (fun ev E => ?_) (fun a2 K2 => ?_)
  · have EC := E.const; have E122 := E.tmp 122 _ rfl; clear E K1; go_simp
  clear K1
  exact wpList_nil (hN _ _ (K2.less ⟨rfl, rfl, rfl, rfl, rfl, rfl, rfl, rfl, rfl, trivial⟩) rfl)
theorem rg25 {w : World} {p q b8 : Nat} {T : Tr} {x : Option Addr} {len cap m : Nat} {kd a b c : Int} {r : Bool} {NX : Act → World → Prop} {a0 : Act} {V : World} (K0 : Kn a0 303 [(1, .slice x len cap), (5, .pointer (some ⟨p, 0, none⟩)), (6, .pointer (some ⟨q, 0, none⟩)), (7, .int .i64 (m : Int)), (8, .pointer (some ⟨b8, 0, none⟩)), (9, .bool r), (10, .bool r)]) (hN : ∀ a' w', Kn a' 303 [(1, .slice x len cap), (5, .pointer (some ⟨p, 0, none⟩)), (6, .pointer (some ⟨q, 0, none⟩)), (7, .int .i64 (m : Int)), (8, .pointer (some ⟨b8, 0, none⟩)), (141, .bool false)] → w' = V →  NX a' w') :
    (Code.region 25 OPS25.toArray false).wp Try.prog (Norm NX) a0 V := by
  refine wp_region_lit ?_
  refine ltake (v := .bool r) (w' := V) K0 rfl rfl (want_none rfl) (fun ev E => ?_) (fun a1 K1 => ?_)
  · have EC := E.const; have E9 := E.tmp 9 _ rfl; clear E K0; go_simp
  refine ltake (v := .bool r) (w' := V) K1 rfl rfl (want_none rfl) (fun ev E => ?_) (fun a2 K2 => ?_)
  · have EC := E.const; have E10 := E.tmp 10 _ rfl; clear E K1; go_simp
  clear K1
  refine ltake (v := .bool false) (w' := V) K2 rfl rfl (want_none rfl) (fun ev E => ?_) (fun a3 K3 => ?_)
  · have EC := E.const; have E139 := E.tmp 139 _ rfl; have E140 := E.tmp 140 _ rfl; clear E K2; go_simp
  clear K2
  exact wpList_nil (hN _ _ (K3.less ⟨rfl, rfl, rfl, rfl, rfl, rfl, trivial⟩) rfl)
theorem rg27 {w : World} {p q b8 : Nat} {T : Tr} {x : Option Addr} {len cap m : Nat} {kd a b c : Int} {NX : Act → World → Prop} {a0 : Act} {V : World} (K0 : Kn a0 303 [(1, .slice x len cap), (5, .pointer (some ⟨p, 0, none⟩)), (6, .pointer (some ⟨q, 0, none⟩)), (7, .int .i64 (m : Int)), (8, .pointer (some ⟨b8, 0, none⟩))]) (H : Ob2 RfAt w V p q T T [b8]) (X : BoxAt V b8 #[.int .i64 kd, .int .i64 a, .int .i64 b, .int .i64 c] 29) (hN : ∀ a' (bs1 : Nat) w', Kn a' 303 [(1, .slice x len cap), (5, .pointer (some ⟨p, 0, none⟩)), (6, .pointer (some ⟨q, 0, none⟩)), (7, .int .i64 (m : Int)), (8, .pointer (some ⟨b8, 0, none⟩)), (11, .pointer (some ⟨bs1, 0, none⟩)), (12, .bool (T.sameI a b))] → Ob2 RfAt w w' p q T T [bs1, b8] → BoxAt w' b8 #[.int .i64 kd, .int .i64 a, .int .i64 b, .int .i64 c] 29 → SumAt w' bs1 (T.pathI a b) →  NX a' w') :
    (Code.region 27 OPS27.toArray false).wp Try.prog (Norm NX) a0 V := by
  refine wp_region_lit ?_
  refine ltake (v := .pointer (some ⟨p, 0, none⟩)) (w' := V) K0 rfl rfl (want_none rfl) (fun ev E => ?_) (fun a1 K1 => ?_)
  · have EC := E.const; have E5 := E.tmp 5 _ rfl; clear E K0; go_simp
  refine ltake (v := .pointer (some ⟨b8, 1, none⟩)) (w' := V) K1 rfl rfl (want_none rfl) (fun ev E => ?_) (fun a2 K2 => ?_)
  · have EC := E.const; have E8 := E.tmp 8 _ rfl; clear E K1; go_simp
  clear K1
  refine ltake (v := .int .i64 a) (w' := V) K2 rfl rfl (want_none rfl) (fun ev E => ?_) (fun a3 K3 => ?_)
  · have z1 : V.cell? ⟨b8, 1, none⟩ = some (.int .i64 a) := (X.cell (o := 1) rfl).1; have EC := E.const; have E144 := E.tmp 144 _ rfl; clear E K2; go_simp
  clear K2
  refine ltake (v := .pointer (some ⟨b8, 2, none⟩)) (w' := V) K3 rfl rfl (want_none rfl) (fun ev E => ?_) (fun a4 K4 => ?_)
  · have EC := E.const; have E8 := E.tmp 8 _ rfl; clear E K3; go_simp
  clear K3
  refine ltake (v := .int .i64 b) (w' := V) K4 rfl rfl (want_none rfl) (fun ev E => ?_) (fun a5 K5 => ?_)
  · have z2 : V.cell? ⟨b8, 2, none⟩ = some (.int .i64 b) := (X.cell (o := 2) rfl).1; have EC := E.const; have E146 := E.tmp 146 _ rfl; clear E K4; go_simp
  clear K4
  refine lcall (f := 31) (args := #[.pointer (some ⟨p, 0, none⟩), .int .i64 a, .int .i64 b]) K5 rfl rfl (want_none rfl) (fun ev E => ?_) (H.fst Rf.lies fun _ ha => aPath _ _ ha) (fun e V1 hR => ?_)
  · have EC := E.const; have EF := E.func; have E143 := E.tmp 143 _ rfl; have E145 := E.tmp 145 _ rfl; have E147 := E.tmp 147 _ rfl; clear E K5; go_simp
  obtain ⟨rfl, h6, k6⟩ := hR
  replace X := X.kept k6 (by simp)
  replace H := h6
  clear h6 k6
  refine ⟨_, rfl, fun a6 K6 => ?_⟩
  clear K5
  refine ltake (v := .tuple #[smV (T.pathI a b), .bool (T.sameI a b)]) (w' := V1) K6 rfl rfl (want_none rfl) (fun ev E => ?_) (fun a7 K7 => ?_)
  · have EC := E.const; have E148 := E.tmp 148 _ rfl; clear E K6; go_simp
  clear K6
  refine ltake (v := .agg #[.int .i64 (T.pathI a b).c, .int .i64 (T.pathI a b).s, .int .i64 (T.pathI a b).a, .int .i64 (T.pathI a b).b]) (w' := V1) K7 rfl rfl (want_none rfl) (fun ev E => ?_) (fun a8 K8 => ?_)
  · have EC := E.const; have E142 := E.tmp 142 _ rfl; clear E K7; simp [smV, go_sem, *]
  clear K7
  refine ltake (v := .bool (T.sameI a b)) (w' := V1) K8 rfl rfl (want_none rfl) (fun ev E => ?_) (fun a9 K9 => ?_)
  · have EC := E.const; have E142 := E.tmp 142 _ rfl; clear E K8; go_simp
  clear K8
  refine ltake (v := .pointer (some ⟨V1.heap.size, 0, none⟩)) (w' := V1.alloc (.cells #[.int .i64 0, .int .i64 0, .int .i64 0, .int .i64 0] 34)) K9 rfl rfl (want_none rfl) (fun ev E => ?_) (fun a10 K10 => ?_)
  · have EC := E.const; clear E K9; go_simp
  clear K9
  refine lstore (w' := V1.alloc (.cells #[.int .i64 (T.pathI a b).c, .int .i64 (T.pathI a b).s, .int .i64 (T.pathI a b).a, .int .i64 (T.pathI a b).b] 34)) K10 rfl (want_none rfl) (fun ev E => ?_) ?_
  · have EC := E.const; have E11 := E.tmp 11 _ rfl; have E149 := E.tmp 149 _ rfl; clear E K10; go_simp
  have K11 := K10
  clear K10
  refine ltake (v := .bool (T.sameI a b)) (w' := V1.alloc (.cells #[.int .i64 (T.pathI a b).c, .int .i64 (T.pathI a b).s, .int .i64 (T.pathI a b).a, .int .i64 (T.pathI a b).b] 34)) K11 rfl rfl (want_none rfl) (fun ev E => ?_) (fun a12 K12 => ?_)
  · have EC := E.const; have E150 := E.tmp 150 _ rfl; clear E K11; go_simp
  clear K11
  exact wpList_nil (hN _ V1.heap.size _ (K12.less ⟨rfl, rfl, rfl, rfl, rfl, rfl, rfl, trivial⟩) (H.push Rf.lies (.cells #[.int .i64 (T.pathI a b).c, .int .i64 (T.pathI a b).s, .int .i64 (T.pathI a b).a, .int .i64 (T.pathI a b).b] 34)) (X.kept (H.alloc Rf.lies (.cells #[.int .i64 (T.pathI a b).c, .int .i64 (T.pathI a b).s, .int .i64 (T.pathI a b).a, .int .i64 (T.pathI a b).b] 34)).2 (by simp)) (SumAt.new V1 34 _ _ _ _))
theorem rg28 {w : World} {p q b8 : Nat} {T : Tr} {x : Option Addr} {len cap m : Nat} {kd a b c : Int} {bs1 : Nat} {NX : Act → World → Prop} {a0 : Act} {V : World} (K0 : Kn a0 303 [(1, .slice x len cap), (5, .pointer (some ⟨p, 0, none⟩)), (6, .pointer (some ⟨q, 0, none⟩)), (7, .int .i64 (m : Int)), (8, .pointer (some ⟨b8, 0, none⟩)), (11, .pointer (some ⟨bs1, 0, none⟩)), (12, .bool (T.sameI a b))]) (H : Ob2 RfAt w V p q T T [bs1, b8]) (X : BoxAt V b8 #[.int .i64 kd, .int .i64 a, .int .i64 b, .int .i64 c] 29) (S1 : SumAt V bs1 (T.pathI a b)) (hN : ∀ a' (bs2 : Nat) w', Kn a' 303 [(1, .slice x len cap), (5, .pointer (some ⟨p, 0, none⟩)), (6, .pointer (some ⟨q, 0, none⟩)), (7, .int .i64 (m : Int)), (8, .pointer (some ⟨b8, 0, none⟩)), (11, .pointer (some ⟨bs1, 0, none⟩)), (12, .bool (T.sameI a b)), (13, .pointer (some ⟨bs2, 0, none⟩)), (14, .bool (T.sameI a b))] → Ob2 RfAt w w' p q T T [bs2, bs1, b8] → BoxAt w' b8 #[.int .i64 kd, .int .i64 a, .int .i64 b, .int .i64 c] 29 → SumAt w' bs1 (T.pathI a b) → SumAt w' bs2 (T.pathI a b) →  NX a' w') :
    (Code.region 28 OPS28.toArray false).wp Try.prog (Norm NX) a0 V := by
  refine wp_region_lit ?_
  refine ltake (v := .pointer (some ⟨q, 0, none⟩)) (w' := V) K0 rfl rfl (want_none rfl) (fun ev E => ?_) (fun a1 K1 => ?_)
  · have EC := E.const; have E6 := E.tmp 6 _ rfl; clear E K0; go_simp
  refine ltake (v := .pointer (some ⟨b8, 1, none⟩)) (w' := V) K1 rfl rfl (want_none rfl) (fun ev E => ?_) (fun a2 K2 => ?_)
  · have EC := E.const; have E8 := E.tmp 8 _ rfl; clear E K1; go_simp
  clear K1
  refine ltake (v := .int .i64 a) (w' := V) K2 rfl rfl (want_none rfl) (fun ev E => ?_) (fun a3 K3 => ?_)
  · have z1 : V.cell? ⟨b8, 1, none⟩ = some (.int .i64 a) := (X.cell (o := 1) rfl).1; have EC := E.const; have E153 := E.tmp 153 _ rfl; clear E K2; go_simp
  clear K2
  refine ltake (v := .pointer (some ⟨b8, 2, none⟩)) (w' := V) K3 rfl rfl (want_none rfl) (fun ev E => ?_) (fun a4 K4 => ?_)
  · have EC := E.const; have E8 := E.tmp 8 _ rfl; clear E K3; go_simp
  clear K3
  refine ltake (v := .int .i64 b) (w' := V) K4 rfl rfl (want_none rfl) (fun ev E => ?_) (fun a5 K5 => ?_)
  · have z2 : V.cell? ⟨b8, 2, none⟩ = some (.int .i64 b) := (X.cell (o := 2) rfl).1; have EC := E.const; have E155 := E.tmp 155 _ rfl; clear E K4; go_simp
  clear K4
  refine lcall (f := 32) (args := #[.pointer (some ⟨q, 0, none⟩), .int .i64 a, .int .i64 b]) K5 rfl rfl (want_none rfl) (fun ev E => ?_) (H.snd Rf.lies fun _ ha => xPath _ _ ha) (fun e V1 hR => ?_)
  · have EC := E.const; have EF := E.func; have E152 := E.tmp 152 _ rfl; have E154 := E.tmp 154 _ rfl; have E156 := E.tmp 156 _ rfl; clear E K5; go_simp
  obtain ⟨rfl, h6, k6⟩ := hR
  replace X := X.kept k6 (by simp)
  replace S1 := S1.kept k6 (by simp)
  replace H := h6
  clear h6 k6
  refine ⟨_, rfl, fun a6 K6 => ?_⟩
  clear K5
  refine ltake (v := .tuple #[smV (T.pathI a b), .bool (T.sameI a b)]) (w' := V1) K6 rfl rfl (want_none rfl) (fun ev E => ?_) (fun a7 K7 => ?_)
  · have EC := E.const; have E157 := E.tmp 157 _ rfl; clear E K6; go_simp
  clear K6
  refine ltake (v := .agg #[.int .i64 (T.pathI a b).c, .int .i64 (T.pathI a b).s, .int .i64 (T.pathI a b).a, .int .i64 (T.pathI a b).b]) (w' := V1) K7 rfl rfl (want_none rfl) (fun ev E => ?_) (fun a8 K8 => ?_)
  · have EC := E.const; have E151 := E.tmp 151 _ rfl; clear E K7; simp [smV, go_sem, *]
  clear K7
  refine ltake (v := .bool (T.sameI a b)) (w' := V1) K8 rfl rfl (want_none rfl) (fun ev E => ?_) (fun a9 K9 => ?_)
  · have EC := E.const; have E151 := E.tmp 151 _ rfl; clear E K8; go_simp
  clear K8
  refine ltake (v := .pointer (some ⟨V1.heap.size, 0, none⟩)) (w' := V1.alloc (.cells #[.int .i64 0, .int .i64 0, .int .i64 0, .int .i64 0] 34)) K9 rfl rfl (want_none rfl) (fun ev E => ?_) (fun a10 K10 => ?_)
  · have EC := E.const; clear E K9; go_simp
  clear K9
  refine lstore (w' := V1.alloc (.cells #[.int .i64 (T.pathI a b).c, .int .i64 (T.pathI a b).s, .int .i64 (T.pathI a b).a, .int .i64 (T.pathI a b).b] 34)) K10 rfl (want_none rfl) (fun ev E => ?_) ?_
  · have EC := E.const; have E13 := E.tmp 13 _ rfl; have E158 := E.tmp 158 _ rfl; clear E K10; go_simp
  have K11 := K10
  clear K10
  refine ltake (v := .bool (T.sameI a b)) (w' := V1.alloc (.cells #[.int .i64 (T.pathI a b).c, .int .i64 (T.pathI a b).s, .int .i64 (T.pathI a b).a, .int .i64 (T.pathI a b).b] 34)) K11 rfl rfl (want_none rfl) (fun ev E => ?_) (fun a12 K12 => ?_)
  · have EC := E.const; have E159 := E.tmp 159 _ rfl; clear E K11; go_simp
  clear K11
  exact wpList_nil (hN _ V1.heap.size _ (K12.less ⟨rfl, rfl, rfl, rfl, rfl, rfl, rfl, rfl, rfl, trivial⟩) (H.push Rf.lies (.cells #[.int .i64 (T.pathI a b).c, .int .i64 (T.pathI a b).s, .int .i64 (T.pathI a b).a, .int .i64 (T.pathI a b).b] 34)) (X.kept (H.alloc Rf.lies (.cells #[.int .i64 (T.pathI a b).c, .int .i64 (T.pathI a b).s, .int .i64 (T.pathI a b).a, .int .i64 (T.pathI a b).b] 34)).2 (by simp)) (S1.kept (H.alloc Rf.lies (.cells #[.int .i64 (T.pathI a b).c, .int .i64 (T.pathI a b).s, .int .i64 (T.pathI a b).a, .int .i64 (T.pathI a b).b] 34)).2 (by simp)) (SumAt.new V1 34 _ _ _ _))
theorem rg29 {w : World} {p q b8 : Nat} {T : Tr} {x : Option Addr} {len cap m : Nat} {kd a b c : Int} {bs1 bs2 : Nat} {NX : Act → World → Prop} {a0 : Act} {V : World} (K0 : Kn a0 303 [(1, .slice x len cap), (5, .pointer (some ⟨p, 0, none⟩)), (6, .pointer (some ⟨q, 0, none⟩)), (7, .int .i64 (m : Int)), (8, .pointer (some ⟨b8, 0, none⟩)), (11, .pointer (some ⟨bs1, 0, none⟩)), (12, .bool (T.sameI a b)), (13, .pointer (some ⟨bs2, 0, none⟩)), (14, .bool (T.sameI a b))]) (H : Ob2 RfAt w V p q T T [bs2, bs1, b8]) (X : BoxAt V b8 #[.int .i64 kd, .int .i64 a, .int .i64 b, .int .i64 c] 29) (S1 : SumAt V bs1 (T.pathI a b)) (S2 : SumAt V bs2 (T.pathI a b)) (hN : ∀ a' w', Kn a' 303 [(1, .slice x len cap), (5, .pointer (some ⟨p, 0, none⟩)), (6, .pointer (some ⟨q, 0, none⟩)), (7, .int .i64 (m : Int)), (8, .pointer (some ⟨b8, 0, none⟩)), (11, .pointer (some ⟨bs1, 0, none⟩)), (12, .bool (T.sameI a b)), (13, .pointer (some ⟨bs2, 0, none⟩)), (14, .bool (T.sameI a b)), (15, .int .i64 (T.subI a).c), (16, .int .i64 (T.subI a).s), (17, .bool (T.hasI a))] → Ob2 RfAt w w' p q T T [bs2, bs1, b8] → BoxAt w' b8 #[.int .i64 kd, .int .i64 a, .int .i64 b, .int .i64 c] 29 → SumAt w' bs1 (T.pathI a b) → SumAt w' bs2 (T.pathI a b) →  NX a' w') :
    (Code.region 29 OPS29.toArray false).wp Try.prog (Norm NX) a0 V := by
  refine wp_region_lit ?_
  refine ltake (v := .pointer (some ⟨p, 0, none⟩)) (w' := V) K0 rfl rfl (want_none rfl) (fun ev E => ?_) (fun a1 K1 => ?_)
  · have EC := E.const; have E5 := E.tmp 5 _ rfl; clear E K0; go_simp
  refine ltake (v := .pointer (some ⟨b8, 1, none⟩)) (w' := V) K1 rfl rfl (want_none rfl) (fun ev E => ?_) (fun a2 K2 => ?_)
  · have EC := E.const; have E8 := E.tmp 8 _ rfl; clear E K1; go_simp
  clear K1
  refine ltake (v := .int .i64 a) (w' := V) K2 rfl rfl (want_none rfl) (fun ev E => ?_) (fun a3 K3 => ?_)
  · have z1 : V.cell? ⟨b8, 1, none⟩ = some (.int .i64 a) := (X.cell (o := 1) rfl).1; have EC := E.const; have E162 := E.tmp 162 _ rfl; clear E K2; go_simp
  clear K2
  refine lcall (f := 33) (args := #[.pointer (some ⟨p, 0, none⟩), .int .i64 a]) K3 rfl rfl (want_none rfl) (fun ev E => ?_) (H.fst Rf.lies fun _ ha => aSub _ ha) (fun e V1 hR => ?_)
  · have EC := E.const; have EF := E.func; have E161 := E.tmp 161 _ rfl; have E163 := E.tmp 163 _ rfl; clear E K3; go_simp
  obtain ⟨rfl, h6, k6⟩ := hR
  replace X := X.kept k6 (by simp)
  replace S1 := S1.kept k6 (by simp)
  replace S2 := S2.kept k6 (by simp)
  replace H := h6
  clear h6 k6
  refine ⟨_, rfl, fun a4 K4 => ?_⟩
  clear K3
  refine ltake (v := .tuple #[.int .i64 (T.subI a).c, .int .i64 (T.subI a).s, .bool (T.hasI a)]) (w' := V1) K4 rfl rfl (want_none rfl) (fun ev E => ?_) (fun a5 K5 => ?_)
  · have EC := E.const; have E164 := E.tmp 164 _ rfl; clear E K4; go_simp
  clear K4
  refine ltake (v := .int .i64 (T.subI a).c) (w' := V1) K5 rfl rfl (want_none rfl) (fun ev E => ?_) (fun a6 K6 => ?_)
  · have EC := E.const; have E160 := E.tmp 160 _ rfl; clear E K5; go_simp
  clear K5
  refine ltake (v := .int .i64 (T.subI a).s) (w' := V1) K6 rfl rfl (want_none rfl) (fun ev E => ?_) (fun a7 K7 => ?_)
  · have EC := E.const; have E160 := E.tmp 160 _ rfl; clear E K6; go_simp
  clear K6
  refine ltake (v := .bool (T.hasI a)) (w' := V1) K7 rfl rfl (want_none rfl) (fun ev E => ?_) (fun a8 K8 => ?_)
  · have EC := E.const; have E160 := E.tmp 160 _ rfl; clear E K7; go_simp
  clear K7
  refine ltake (v := .int .i64 (T.subI a).c) (w' := V1) K8 rfl rfl (want_none rfl) (fun ev E => ?_) (fun a9 K9 => ?_)
  · have EC := E.const; have E165 := E.tmp 165 _ rfl; clear E K8; go_simp
  clear K8
  refine ltake (v := .int .i64 (T.subI a).s) (w' := V1) K9 rfl rfl (want_none rfl) (fun ev E => ?_) (fun a10 K10 => ?_)
  · have EC := E.const; have E166 := E.tmp 166 _ rfl; clear E K9; go_simp
  clear K9
  refine ltake (v := .bool (T.hasI a)) (w' := V1) K10 rfl rfl (want_none rfl) (fun ev E => ?_) (fun a11 K11 => ?_)
  · have EC := E.const; have E167 := E.tmp 167 _ rfl; clear E K10; go_simp
  clear K10
  exact wpList_nil (hN _ _ (K11.less ⟨rfl, rfl, rfl, rfl, rfl, rfl, rfl, rfl, rfl, rfl, rfl, rfl, trivial⟩) H X S1 S2)
theorem rg30 {w : World} {p q b8 : Nat} {T : Tr} {x : Option Addr} {len cap m : Nat} {kd a b c : Int} {bs1 bs2 : Nat} {NX : Act → World → Prop} {a0 : Act} {V : World} (K0 : Kn a0 303 [(1, .slice x len cap), (5, .pointer (some ⟨p, 0, none⟩)), (6, .pointer (some ⟨q, 0, none⟩)), (7, .int .i64 (m : Int)), (8, .pointer (some ⟨b8, 0, none⟩)), (11, .pointer (some ⟨bs1, 0, none⟩)), (12, .bool (T.sameI a b)), (13, .pointer (some ⟨bs2, 0, none⟩)), (14, .bool (T.sameI a b)), (15, .int .i64 (T.subI a).c), (16, .int .i64 (T.subI a).s), (17, .bool (T.hasI a))]) (H : Ob2 RfAt w V p q T T [bs2, bs1, b8]) (X : BoxAt V b8 #[.int .i64 kd, .int .i64 a, .int .i64 b, .int .i64 c] 29) (S1 : SumAt V bs1 (T.pathI a b)) (S2 : SumAt V bs2 (T.pathI a b)) (hN : ∀ a' w', Kn a' 303 [(1, .slice x len cap), (5, .pointer (some ⟨p, 0, none⟩)), (6, .pointer (some ⟨q, 0, none⟩)), (7, .int .i64 (m : Int)), (8, .pointer (some ⟨b8, 0, none⟩)), (11, .pointer (some ⟨bs1, 0, none⟩)), (12, .bool (T.sameI a b)), (13, .pointer (some ⟨bs2, 0, none⟩)), (14, .bool (T.sameI a b)), (15, .int .i64 (T.subI a).c), (16, .int .i64 (T.subI a).s), (17, .bool (T.hasI a)), (18, .int .i64 (T.subI a).c), (19, .int .i64 (T.subI a).s), (20, .bool (T.hasI a))] → Ob2 RfAt w w' p q T T [bs2, bs1, b8] → BoxAt w' b8 #[.int .i64 kd, .int .i64 a, .int .i64 b, .int .i64 c] 29 → SumAt w' bs1 (T.pathI a b) → SumAt w' bs2 (T.pathI a b) →  NX a' w') :
    (Code.region 30 OPS30.toArray false).wp Try.prog (Norm NX) a0 V := by
  refine wp_region_lit ?_
  refine ltake (v := .pointer (some ⟨q, 0, none⟩)) (w' := V) K0 rfl rfl (want_none rfl) (fun ev E => ?_) (fun a1 K1 => ?_)
  · have EC := E.const; have E6 := E.tmp 6 _ rfl; clear E K0; go_simp
  refine ltake (v := .pointer (some ⟨b8, 1, none⟩)) (w' := V) K1 rfl rfl (want_none rfl) (fun ev E => ?_) (fun a2 K2 => ?_)
  · have EC := E.const; have E8 := E.tmp 8 _ rfl; clear E K1; go_simp
  clear K1
  refine ltake (v := .int .i64 a) (w' := V) K2 rfl rfl (want_none rfl) (fun ev E => ?_) (fun a3 K3 => ?_)
  · have z1 : V.cell? ⟨b8, 1, none⟩ = some (.int .i64 a) := (X.cell (o := 1) rfl).1; have EC := E.const; have E170 := E.tmp 170 _ rfl; clear E K2; go_simp
  clear K2
  refine lcall (f := 34) (args := #[.pointer (some ⟨q, 0, none⟩), .int .i64 a]) K3 rfl rfl (want_none rfl) (fun ev E => ?_) (H.snd Rf.lies fun _ ha => xSub _ ha) (fun e V1 hR => ?_)
  · have EC := E.const; have EF := E.func; have E169 := E.tmp 169 _ rfl; have E171 := E.tmp 171 _ rfl; clear E K3; go_simp
  obtain ⟨rfl, h6, k6⟩ := hR
  replace X := X.kept k6 (by simp)
  replace S1 := S1.kept k6 (by simp)
  replace S2 := S2.kept k6 (by simp)
  replace H := h6
  clear h6 k6
  refine ⟨_, rfl, fun a4 K4 => ?_⟩
  clear K3
  refine ltake (v := .tuple #[.int .i64 (T.subI a).c, .int .i64 (T.subI a).s, .bool (T.hasI a)]) (w' := V1) K4 rfl rfl (want_none rfl) (fun ev E => ?_) (fun a5 K5 => ?_)
  · have EC := E.const; have E172 := E.tmp 172 _ rfl; clear E K4; go_simp
  clear K4
  refine ltake (v := .int .i64 (T.subI a).c) (w' := V1) K5 rfl rfl (want_none rfl) (fun ev E => ?_) (fun a6 K6 => ?_)
  · have EC := E.const; have E168 := E.tmp 168 _ rfl; clear E K5; go_simp
  clear K5
  refine ltake (v := .int .i64 (T.subI a).s) (w' := V1) K6 rfl rfl (want_none rfl) (fun ev E => ?_) (fun a7 K7 => ?_)
  · have EC := E.const; have E168 := E.tmp 168 _ rfl; clear E K6; go_simp
  clear K6
  refine ltake (v := .bool (T.hasI a)) (w' := V1) K7 rfl rfl (want_none rfl) (fun ev E => ?_) (fun a8 K8 => ?_)
  · have EC := E.const; have E168 := E.tmp 168 _ rfl; clear E K7; go_simp
  clear K7
  refine ltake (v := .int .i64 (T.subI a).c) (w' := V1) K8 rfl rfl (want_none rfl) (fun ev E => ?_) (fun a9 K9 => ?_)
  · have EC := E.const; have E173 := E.tmp 173 _ rfl; clear E K8; go_simp
  clear K8
  refine ltake (v := .int .i64 (T.subI a).s) (w' := V1) K9 rfl rfl (want_none rfl) (fun ev E => ?_) (fun a10 K10 => ?_)
  · have EC := E.const; have E174 := E.tmp 174 _ rfl; clear E K9; go_simp
  clear K9
  refine ltake (v := .bool (T.hasI a)) (w' := V1) K10 rfl rfl (want_none rfl) (fun ev E => ?_) (fun a11 K11 => ?_)
  · have EC := E.const; have E175 := E.tmp 175 _ rfl; clear E K10; go_simp
  clear K10
  exact wpList_nil (hN _ _ (K11.less ⟨rfl, rfl, rfl, rfl, rfl, rfl, rfl, rfl, rfl, rfl, rfl, rfl, rfl, rfl, rfl, trivial⟩) H X S1 S2)
theorem rg31 {w : World} {p q b8 : Nat} {T : Tr} {x : Option Addr} {len cap m : Nat} {kd a b c : Int} {bs1 bs2 : Nat} {NX : Act → World → Prop} {a0 : Act} {V : World} (K0 : Kn a0 303 [(1, .slice x len cap), (5, .pointer (some ⟨p, 0, none⟩)), (6, .pointer (some ⟨q, 0, none⟩)), (7, .int .i64 (m : Int)), (8, .pointer (some ⟨b8, 0, none⟩)), (11, .pointer (some ⟨bs1, 0, none⟩)), (12, .bool (T.sameI a b)), (13, .pointer (some ⟨bs2, 0, none⟩)), (14, .bool (T.sameI a b)), (15, .int .i64 (T.subI a).c), (16, .int .i64 (T.subI a).s), (17, .bool (T.hasI a)), (18, .int .i64 (T.subI a).c), (19, .int .i64 (T.subI a).s), (20, .bool (T.hasI a))]) (H : Ob2 RfAt w V p q T T [bs2, bs1, b8]) (X : BoxAt V b8 #[.int .i64 kd, .int .i64 a, .int .i64 b, .int .i64 c] 29) (S1 : SumAt V bs1 (T.pathI a b)) (S2 : SumAt V bs2 (T.pathI a b)) (hN : ∀ a' w', Kn a' 303 [(1, .slice x len cap), (5, .pointer (some ⟨p, 0, none⟩)), (6, .pointer (some ⟨q, 0, none⟩)), (7, .int .i64 (m : Int)), (8, .pointer (some ⟨b8, 0, none⟩)), (11, .pointer (some ⟨bs1, 0, none⟩)), (12, .bool (T.sameI a b)), (13, .pointer (some ⟨bs2, 0, none⟩)), (14, .bool (T.sameI a b)), (15, .int .i64 (T.subI a).c), (16, .int .i64 (T.subI a).s), (17, .bool (T.hasI a)), (18, .int .i64 (T.subI a).c), (19, .int .i64 (T.subI a).s), (20, .bool (T.hasI a)), (21, .int .i64 (T.getI a)), (22, .bool (T.hasI a))] → Ob2 RfAt w w' p q T T [bs2, bs1, b8] → BoxAt w' b8 #[.int .i64 kd, .int .i64 a, .int .i64 b, .int .i64 c] 29 → SumAt w' bs1 (T.pathI a b) → SumAt w' bs2 (T.pathI a b) →  NX a' w') :
    (Code.region 31 OPS31.toArray false).wp Try.prog (Norm NX) a0 V := by
  refine wp_region_lit ?_
  refine ltake (v := .pointer (some ⟨p, 0, none⟩)) (w' := V) K0 rfl rfl (want_none rfl) (fun ev E => ?_) (fun a1 K1 => ?_)
  · have EC := E.const; have E5 := E.tmp 5 _ rfl; clear E K0; go_simp
  refine ltake (v := .pointer (some ⟨b8, 1, none⟩)) (w' := V) K1 rfl rfl (want_none rfl) (fun ev E => ?_) (fun a2 K2 => ?_)
  · have EC := E.const; have E8 := E.tmp 8 _ rfl; clear E K1; go_simp
  clear K1
  refine ltake (v := .int .i64 a) (w' := V) K2 rfl rfl (want_none rfl) (fun ev E => ?_) (fun a3 K3 => ?_)
  · have z1 : V.cell? ⟨b8, 1, none⟩ = some (.int .i64 a) := (X.cell (o := 1) rfl).1; have EC := E.const; have E178 := E.tmp 178 _ rfl; clear E K2; go_simp
  clear K2
  refine lcall (f := 35) (args := #[.pointer (some ⟨p, 0, none⟩), .int .i64 a]) K3 rfl rfl (want_none rfl) (fun ev E => ?_) (H.fst Rf.lies fun _ ha => aGet _ ha) (fun e V1 hR => ?_)
  · have EC := E.const; have EF := E.func; have E177 := E.tmp 177 _ rfl; have E179 := E.tmp 179 _ rfl; clear E K3; go_simp
  obtain ⟨rfl, h6, k6⟩ := hR
  replace X := X.kept k6 (by simp)
  replace S1 := S1.kept k6 (by simp)
  replace S2 := S2.kept k6 (by simp)
  replace H := h6
  clear h6 k6
  refine ⟨_, rfl, fun a4 K4 => ?_⟩
  clear K3
  refine ltake (v := .tuple #[.int .i64 (T.getI a), .bool (T.hasI a)]) (w' := V1) K4 rfl rfl (want_none rfl) (fun ev E => ?_) (fun a5 K5 => ?_)
  · have EC := E.const; have E180 := E.tmp 180 _ rfl; clear E K4; go_simp
  clear K4
  refine ltake (v := .int .i64 (T.getI a)) (w' := V1) K5 rfl rfl (want_none rfl) (fun ev E => ?_) (fun a6 K6 => ?_)
  · have EC := E.const; have E176 := E.tmp 176 _ rfl; clear E K5; go_simp
  clear K5
  refine ltake (v := .bool (T.hasI a)) (w' := V1) K6 rfl rfl (want_none rfl) (fun ev E => ?_) (fun a7 K7 => ?_)
  · have EC := E.const; have E176 := E.tmp 176 _ rfl; clear E K6; go_simp
  clear K6
  refine ltake (v := .int .i64 (T.getI a)) (w' := V1) K7 rfl rfl (want_none rfl) (fun ev E => ?_) (fun a8 K8 => ?_)
  · have EC := E.const; have E181 := E.tmp 181 _ rfl; clear E K7; go_simp
  clear K7
  refine ltake (v := .bool (T.hasI a)) (w' := V1) K8 rfl rfl (want_none rfl) (fun ev E => ?_) (fun a9 K9 => ?_)
  · have EC := E.const; have E182 := E.tmp 182 _ rfl; clear E K8; go_simp
  clear K8
  exact wpList_nil (hN _ _ (K9.less ⟨rfl, rfl, rfl, rfl, rfl, rfl, rfl, rfl, rfl, rfl, rfl, rfl, rfl, rfl, rfl, rfl, rfl, trivial⟩) H X S1 S2)
theorem rg32 {w : World} {p q b8 : Nat} {T : Tr} {x : Option Addr} {len cap m : Nat} {kd a b c : Int} {bs1 bs2 : Nat} {NX : Act → World → Prop} {a0 : Act} {V : World} (K0 : Kn a0 303 [(1, .slice x len cap), (5, .pointer (some ⟨p, 0, none⟩)), (6, .pointer (some ⟨q, 0, none⟩)), (7, .int .i64 (m : Int)), (8, .pointer (some ⟨b8, 0, none⟩)), (11, .pointer (some ⟨bs1, 0, none⟩)), (12, .bool (T.sameI a b)), (13, .pointer (some ⟨bs2, 0, none⟩)), (14, .bool (T.sameI a b)), (15, .int .i64 (T.subI a).c), (16, .int .i64 (T.subI a).s), (17, .bool (T.hasI a)), (18, .int .i64 (T.subI a).c), (19, .int .i64 (T.subI a).s), (20, .bool (T.hasI a)), (21, .int .i64 (T.getI a)), (22, .bool (T.hasI a))]) (H : Ob2 RfAt w V p q T T [bs2, bs1, b8]) (X : BoxAt V b8 #[.int .i64 kd, .int .i64 a, .int .i64 b, .int .i64 c] 29) (S1 : SumAt V bs1 (T.pathI a b)) (S2 : SumAt V bs2 (T.pathI a b)) (hN : ∀ a' w', Kn a' 303 [(1, .slice x len cap), (5, .pointer (some ⟨p, 0, none⟩)), (6, .pointer (some ⟨q, 0, none⟩)), (7, .int .i64 (m : Int)), (8, .pointer (some ⟨b8, 0, none⟩)), (11, .pointer (some ⟨bs1, 0, none⟩)), (12, .bool (T.sameI a b)), (13, .pointer (some ⟨bs2, 0, none⟩)), (14, .bool (T.sameI a b)), (15, .int .i64 (T.subI a).c), (16, .int .i64 (T.subI a).s), (17, .bool (T.hasI a)), (18, .int .i64 (T.subI a).c), (19, .int .i64 (T.subI a).s), (20, .bool (T.hasI a)), (21, .int .i64 (T.getI a)), (22, .bool (T.hasI a)), (23, .int .i64 (T.getI a)), (24, .bool (T.hasI a))] → Ob2 RfAt w w' p q T T [bs2, bs1, b8] → BoxAt w' b8 #[.int .i64 kd, .int .i64 a, .int .i64 b, .int .i64 c] 29 → SumAt w' bs1 (T.pathI a b) → SumAt w' bs2 (T.pathI a b) →  NX a' w') :
    (Code.region 32 OPS32.toArray false).wp Try.prog (Norm NX) a0 V := by
  refine wp_region_lit ?_
  refine ltake (v := .pointer (some ⟨q, 0, none⟩)) (w' := V) K0 rfl rfl (want_none rfl) (fun ev E => ?_) (fun a1 K1 => ?_)
  · have EC := E.const; have E6 := E.tmp 6 _ rfl; clear E K0; go_simp
  refine ltake (v := .pointer (some ⟨b8, 1, none⟩)) (w' := V) K1 rfl rfl (want_none rfl) (fun ev E => ?_) (fun a2 K2 => ?_)
  · have EC := E.const; have E8 := E.tmp 8 _ rfl; clear E K1; go_simp
  clear K1
  refine ltake (v := .int .i64 a) (w' := V) K2 rfl rfl (want_none rfl) (fun ev E => ?_) (fun a3 K3 => ?_)
  · have z1 : V.cell? ⟨b8, 1, none⟩ = some (.int .i64 a) := (X.cell (o := 1) rfl).1; have EC := E.const; have E185 := E.tmp 185 _ rfl; clear E K2; go_simp
  clear K2
  refine lcall (f := 36) (args := #[.pointer (some ⟨q, 0, none⟩), .int .i64 a]) K3 rfl rfl (want_none rfl) (fun ev E => ?_) (H.snd Rf.lies fun _ ha => xGet _ ha) (fun e V1 hR => ?_)
  · have EC := E.const; have EF := E.func; have E184 := E.tmp 184 _ rfl; have E186 := E.tmp 186 _ rfl; clear E K3; go_simp
  obtain ⟨rfl, h6, k6⟩ := hR
  replace X := X.kept k6 (by simp)
  replace S1 := S1.kept k6 (by simp)
  replace S2 := S2.kept k6 (by simp)
  replace H := h6
  clear h6 k6
  refine ⟨_, rfl, fun a4 K4 => ?_⟩
  clear K3
  refine ltake (v := .tuple #[.int .i64 (T.getI a), .bool (T.hasI a)]) (w' := V1) K4 rfl rfl (want_none rfl) (fun ev E => ?_) (fun a5 K5 => ?_)
  · have EC := E.const; have E187 := E.tmp 187 _ rfl; clear E K4; go_simp
  clear K4
  refine ltake (v := .int .i64 (T.getI a)) (w' := V1) K5 rfl rfl (want_none rfl) (fun ev E => ?_) (fun a6 K6 => ?_)
  · have EC := E.const; have E183 := E.tmp 183 _ rfl; clear E K5; go_simp
  clear K5
  refine ltake (v := .bool (T.hasI a)) (w' := V1) K6 rfl rfl (want_none rfl) (fun ev E => ?_) (fun a7 K7 => ?_)
  · have EC := E.const; have E183 := E.tmp 183 _ rfl; clear E K6; go_simp
  clear K6
  refine ltake (v := .int .i64 (T.getI a)) (w' := V1) K7 rfl rfl (want_none rfl) (fun ev E => ?_) (fun a8 K8 => ?_)
  · have EC := E.const; have E188 := E.tmp 188 _ rfl; clear E K7; go_simp
  clear K7
  refine ltake (v := .bool (T.hasI a)) (w' := V1) K8 rfl rfl (want_none rfl) (fun ev E => ?_) (fun a9 K9 => ?_)
  · have EC := E.const; have E189 := E.tmp 189 _ rfl; clear E K8; go_simp
  clear K8
  exact wpList_nil (hN _ _ (K9.less ⟨rfl, rfl, rfl, rfl, rfl, rfl, rfl, rfl, rfl, rfl, rfl, rfl, rfl, rfl, rfl, rfl, rfl, rfl, rfl, trivial⟩) H X S1 S2)
theorem rg7 {x : Option Addr} {len cap m p q : Nat} {NX : Act → World → Prop} {a0 : Act} {V : World} (K0 : Kn a0 303 [(1, .slice x len cap), (5, .pointer (some ⟨p, 0, none⟩)), (6, .pointer (some ⟨q, 0, none⟩)), (7, .int .i64 (m : Int))]) (hm : m < 150) (hN : ∀ a' w', Kn a' 303 [(1, .slice x len cap), (5, .pointer (some ⟨p, 0, none⟩)), (6, .pointer (some ⟨q, 0, none⟩)), (7, .int .i64 ((m + 1 : Nat) : Int))] → w' = V →  NX a' w') :
    (Code.region 7 OPS7.toArray false).wp Try.prog (Norm NX) a0 V := by
  refine wp_region_lit ?_
  refine ltake (v := .int .i64 (m : Int)) (w' := V) K0 rfl rfl (want_none rfl) (fun ev E => ?_) (fun a1 K1 => ?_)
  · have EC := E.const; have E7 := E.tmp 7 _ rfl; clear E K0; go_simp
  refine ltake (v := .int .i64 ((m + 1 : Nat) : Int)) (w' := V) K1 rfl rfl (want_none rfl) (fun ev E => ?_) (fun a2 K2 => ?_)
  · have hw := IntWalk.i64_in ((m : Int) + 1) (by omega); have EC := E.const; have E41 := E.tmp 41 _ rfl; clear E K1; simp [go_sem, *]
  clear K1
  refine ltake (v := .int .i64 ((m + 1 : Nat) : Int)) (w' := V) K2 rfl rfl (want_none rfl) (fun ev E => ?_) (fun a3 K3 => ?_)
  · have EC := E.const; have E42 := E.tmp 42 _ rfl; clear E K2; go_simp
  clear K2
  exact wpList_nil (hN _ _ (K3.less ⟨rfl, rfl, rfl, rfl, trivial⟩) rfl)
theorem rg0 {n : Nat} {x : Option Addr} {len cap : Nat} {w : World} {NX : Act → World → Prop} {a0 : Act} {V : World} (K0 : Kn a0 303 [(0, .int .u8 (n : Int)), (1, .slice x len cap)]) (hN : ∀ a' w', Kn a' 303 [(0, .int .u8 (n : Int)), (1, .slice x len cap)] → w' = V →  NX a' w') :
    (Code.region 0 OPS0.toArray false).wp Try.prog (Norm NX) a0 V := by
  refine wp_region_lit ?_
  refine ltake (v := .bool false) (w' := V) K0 rfl rfl (want_none rfl) (fun ev E => ?_) (fun a1 K1 => ?_)
  · have EC := E.const; clear E K0; go_simp
  exact wpList_nil (hN _ _ (K1.less ⟨rfl, rfl, trivial⟩) rfl)
theorem rg1 {n : Nat} {x : Option Addr} {len cap : Nat} {w : World} {NX : Act → World → Prop} {a0 : Act} {V : World} (K0 : Kn a0 303 [(0, .int .u8 (n : Int)), (1, .slice x len cap)]) (hn : n ≤ 255) (hb : Below w.heap.size w V) (hN : ∀ a' (p : Nat) w', Kn a' 303 [(0, .int .u8 (n : Int)), (1, .slice x len cap), (5, .pointer (some ⟨p, 0, none⟩))] → Ob w w' p (Tr.new (n % 41)) [] →  NX a' w') :
    (Code.region 1 OPS1.toArray false).wp Try.prog (Norm NX) a0 V := by
  refine wp_region_lit ?_
  refine ltake (v := .int .u8 (n : Int)) (w' := V) K0 rfl rfl (want_none rfl) (fun ev E => ?_) (fun a1 K1 => ?_)
  · have EC := E.const; have E0 := E.tmp 0 _ rfl; clear E K0; go_simp
  refine lcall (f := 15) (args := #[.int .u8 (n : Int)]) K1 rfl rfl (want_none rfl) (fun ev E => ?_) (few_any n _ hn) (fun e V1 hR => ?_)
  · have EC := E.const; have EF := E.func; have E25 := E.tmp 25 _ rfl; clear E K1; go_simp
  obtain ⟨rfl, hV⟩ := hR
  rw [← hV]
  clear hV
  refine ⟨_, rfl, fun a2 K2 => ?_⟩
  clear K1
  refine lcall (f := 14) (args := #[.int .i64 ((n % 41 : Nat) : Int)]) K2 rfl rfl (want_none rfl) (fun ev E => ?_) (oNew (w := w) (js := []) (n % 41) _ hb (by simp) (by omega)) (fun e V2 hR => ?_)
  · have EC := E.const; have EF := E.func; have E26 := E.tmp 26 _ rfl; clear E K2; go_simp
  obtain ⟨p, rfl, h, _⟩ := hR
  refine ⟨_, rfl, fun a3 K3 => ?_⟩
  clear K2
  refine ltake (v := .pointer (some ⟨p, 0, none⟩)) (w' := V2) K3 rfl rfl (want_none rfl) (fun ev E => ?_) (fun a4 K4 => ?_)
  · have EC := E.const; have E27 := E.tmp 27 _ rfl; clear E K3; go_simp
  clear K3
  exact wpList_nil (hN _ p _ (K4.less ⟨rfl, rfl, rfl, trivial⟩) h)
theorem rg2 {n : Nat} {x : Option Addr} {len cap : Nat} {w : World} {p : Nat} {NX : Act → World → Prop} {a0 : Act} {V : World} (K0 : Kn a0 303 [(0, .int .u8 (n : Int)), (1, .slice x len cap), (5, .pointer (some ⟨p, 0, none⟩))]) (hn : n ≤ 255) (H : Ob w V p (Tr.new (n % 41)) []) (hN : ∀ a' (q : Nat) w', Kn a' 303 [(1, .slice x len cap), (5, .pointer (some ⟨p, 0, none⟩)), (6, .pointer (some ⟨q, 0, none⟩))] → Ob2 RfAt w w' p q (Tr.new (n % 41)) (Tr.new (n % 41)) [] →  NX a' w') :
    (Code.region 2 OPS2.toArray false).wp Try.prog (Norm NX) a0 V := by
  refine wp_region_lit ?_
  refine ltake (v := .int .u8 (n : Int)) (w' := V) K0 rfl rfl (want_none rfl) (fun ev E => ?_) (fun a1 K1 => ?_)
  · have EC := E.const; have E0 := E.tmp 0 _ rfl; clear E K0; go_simp
  refine lcall (f := 15) (args := #[.int .u8 (n : Int)]) K1 rfl rfl (want_none rfl) (fun ev E => ?_) (few_any n _ hn) (fun e V1 hR => ?_)
  · have EC := E.const; have EF := E.func; have E28 := E.tmp 28 _ rfl; clear E K1; go_simp
  obtain ⟨rfl, hV⟩ := hR
  rw [← hV]
  clear hV
  refine ⟨_, rfl, fun a2 K2 => ?_⟩
  clear K1
  refine lcall (f := 16) (args := #[.int .i64 ((n % 41 : Nat) : Int)]) K2 rfl rfl (want_none rfl) (fun ev E => ?_) (x2New H (n % 41) (by omega)) (fun e V2 hR => ?_)
  · have EC := E.const; have EF := E.func; have E29 := E.tmp 29 _ rfl; clear E K2; go_simp
  obtain ⟨q, rfl, h, _⟩ := hR
  refine ⟨_, rfl, fun a3 K3 => ?_⟩
  clear K2
  refine ltake (v := .pointer (some ⟨q, 0, none⟩)) (w' := V2) K3 rfl rfl (want_none rfl) (fun ev E => ?_) (fun a4 K4 => ?_)
  · have EC := E.const; have E30 := E.tmp 30 _ rfl; clear E K3; go_simp
  clear K3
  exact wpList_nil (hN _ q _ (K4.less ⟨rfl, rfl, rfl, trivial⟩) h)
theorem rg3 {n : Nat} {x : Option Addr} {len cap : Nat} {w : World} {p q : Nat} {NX : Act → World → Prop} {a0 : Act} {V : World} (K0 : Kn a0 303 [(1, .slice x len cap), (5, .pointer (some ⟨p, 0, none⟩)), (6, .pointer (some ⟨q, 0, none⟩))]) (hN : ∀ a' w', Kn a' 303 [(1, .slice x len cap), (5, .pointer (some ⟨p, 0, none⟩)), (6, .pointer (some ⟨q, 0, none⟩)), (32, .bool false)] → w' = V →  NX a' w') :
    (Code.region 3 OPS3.toArray false).wp Try.prog (Norm NX) a0 V := by
  refine wp_region_lit ?_
  refine ltake (v := .pointer (some ⟨p, 0, none⟩)) (w' := V) K0 rfl rfl (want_none rfl) (fun ev E => ?_) (fun a1 K1 => ?_)
  · have EC := E.const; have E5 := E.tmp 5 _ rfl; clear E K0; go_simp
  refine ltake (v := .bool false) (w' := V) K1 rfl rfl (want_none rfl) (fun ev E => ?_) (fun a2 K2 => ?_)
  · have EC := E.const; have E31 := E.tmp 31 _ rfl; clear E K1; go_simp
  clear K1
  exact wpList_nil (hN _ _ (K2.less ⟨rfl, rfl, rfl, rfl, trivial⟩) rfl)
theorem rg5 {n : Nat} {x : Option Addr} {len cap : Nat} {w : World} {p q : Nat} {NX : Act → World → Prop} {a0 : Act} {V : World} (K0 : Kn a0 303 [(1, .slice x len cap), (5, .pointer (some ⟨p, 0, none⟩)), (6, .pointer (some ⟨q, 0, none⟩))]) (hN : ∀ a' w', Kn a' 303 [(1, .slice x len cap), (5, .pointer (some ⟨p, 0, none⟩)), (6, .pointer (some ⟨q, 0, none⟩)), (7, .int .i64 ((0 : Nat) : Int))] → w' = V →  NX a' w') :
    (Code.region 5 OPS5.toArray false).wp Try.prog (Norm NX) a0 V := by
  refine wp_region_lit ?_
  refine ltake (v := .int .i64 ((0 : Nat) : Int)) (w' := V) K0 rfl rfl (want_none rfl) (fun ev E => ?_) (fun a1 K1 => ?_)
  · have EC := E.const; clear E K0; go_simp
  exact wpList_nil (hN _ _ (K1.less ⟨rfl, rfl, rfl, rfl, trivial⟩) rfl)
theorem rg35 {n : Nat} {x : Option Addr} {len cap : Nat} {w : World} {p q : Nat} {T : Tr} {NX : Act → World → Prop} {a0 : Act} {V : World} (K0 : Kn a0 303 [(5, .pointer (some ⟨p, 0, none⟩))]) (H : Ob2 RfAt w V p q T T []) (hN : ∀ a' w', Kn a' 303 [(4, .bool true)] → Below w.heap.size w w' →  NX a' w') :
    (Code.region 35 OPS35.toArray false).wp Try.prog (Norm NX) a0 V := by
  refine wp_region_lit ?_
  refine lcall (f := 50) (args := #[]) K0 rfl rfl (want_none rfl) (fun ev E => ?_) (awake_any _) (fun e V1 hR => ?_)
  · have EC := E.const; have EF := E.func; clear E K0; go_simp
  obtain ⟨rfl, hb⟩ := hR
  replace H := (H.below Rf.lies hb).1
  clear hb
  refine ⟨_, rfl, fun a1 K1 => ?_⟩
  refine ltake (v := .bool true) (w' := V1) K1 rfl rfl (want_none rfl) (fun ev E => ?_) (fun a2 K2 => ?_)
  · have EC := E.const; have E302 := E.tmp 302 _ rfl; clear E K1; go_simp
  clear K1
  exact wpList_nil (hN _ _ (K2.less ⟨rfl, trivial⟩) H.bel)
end Go.Proofs.Ytbcibdofcjehcaa

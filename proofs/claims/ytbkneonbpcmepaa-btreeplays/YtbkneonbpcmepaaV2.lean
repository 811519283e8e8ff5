/- The statements of ..Plays whose order is told, over a frame that is a letter. -/
import Derived.Test.YtbkneonbpcmepaaJ4
namespace Go.Proofs.Ytbkneonbpcmepaa
open Go.RowKit Go.Arb
set_option linter.unusedVariables false
set_option linter.unusedSimpArgs false
set_option maxRecDepth 100000
/-- k times true, then n times false. -/
def pf (k n : Nat) : Array Bool := (List.replicate k true ++ List.replicate n false).toArray
def OPS0 : List Oper := [({ dst := (some 4), op := (Op.assign (Operand.const (Value.bool false))), type := 4, pos := "law.go:24", after := #[], guard := none } : Oper)]
def OPS1 : List Oper := [({ dst := (some 20), op := (Op.move (Operand.tmp 0)), type := 5, pos := "law.go:25", after := #[], guard := none } : Oper), ({ dst := (some 21), op := (Op.binOp BinOp.rem 5 (Operand.tmp 20) (Operand.const (Value.int IntKind.u8 61)) 5), type := 5, pos := "law.go:25", after := #[{ on := 0, ground := Ground.data }], guard := none } : Oper), ({ dst := (some 22), op := (Op.convert 5 3 (Operand.tmp 21)), type := 3, pos := "law.go:25", after := #[{ on := 1, ground := Ground.data }], guard := none } : Oper), ({ dst := (some 5), op := (Op.assign (Operand.tmp 22)), type := 3, pos := "law.go:25", after := #[{ on := 2, ground := Ground.data }, { on := 0, ground := Ground.phase }, { on := 1, ground := Ground.phase }, { on := 2, ground := Ground.phase }], guard := none } : Oper)]
def OPS2 : List Oper := [({ dst := (some 23), op := (Op.move (Operand.tmp 5)), type := 3, pos := "law.go:26", after := #[], guard := none } : Oper), ({ dst := (some 24), op := (Op.call { callee := (Callee.value (Operand.func 11)), args := #[(Operand.tmp 23)], argTypes := #[3] }), type := 23, pos := "law.go:26", after := #[{ on := 0, ground := Ground.data }], guard := none } : Oper), ({ dst := (some 25), op := (Op.move (Operand.tmp 5)), type := 3, pos := "law.go:26", after := #[], guard := none } : Oper), ({ dst := (some 26), op := (Op.call { callee := (Callee.value (Operand.func 12)), args := #[(Operand.tmp 25)], argTypes := #[3] }), type := 25, pos := "law.go:26", after := #[{ on := 2, ground := Ground.data }, { on := 1, ground := Ground.chain }], guard := none } : Oper), ({ dst := (some 6), op := (Op.assign (Operand.tmp 24)), type := 23, pos := "law.go:26", after := #[{ on := 1, ground := Ground.data }, { on := 3, ground := Ground.chain }, { on := 0, ground := Ground.phase }, { on := 1, ground := Ground.phase }, { on := 2, ground := (Ground.textOnly Departure.lateStores) }, { on := 3, ground := (Ground.textOnly Departure.lateStoresUnsure) }], guard := none } : Oper), ({ dst := (some 7), op := (Op.assign (Operand.tmp 26)), type := 25, pos := "law.go:26", after := #[{ on := 3, ground := Ground.data }, { on := 4, ground := Ground.chain }, { on := 0, ground := Ground.phase }, { on := 1, ground := Ground.phase }, { on := 2, ground := Ground.phase }, { on := 3, ground := Ground.phase }, { on := 4, ground := Ground.phase }], guard := none } : Oper)]
def OPS3 : List Oper := [({ dst := (some 27), op := (Op.move (Operand.tmp 6)), type := 23, pos := "law.go:27", after := #[], guard := none } : Oper), ({ dst := (some 28), op := (Op.binOp BinOp.eql 23 (Operand.tmp 27) (Operand.const (Value.pointer none)) 23), type := 4, pos := "law.go:27", after := #[{ on := 0, ground := Ground.data }], guard := none } : Oper)]
def OPS4 : List Oper := [({ dst := (some 4), op := (Op.assign (Operand.const (Value.bool false))), type := 4, pos := "law.go:28", after := #[], guard := none } : Oper)]
def OPS5 : List Oper := [({ dst := (some 8), op := (Op.assign (Operand.const (Value.int IntKind.i64 0))), type := 3, pos := "law.go:30", after := #[], guard := none } : Oper)]
def OPS6 : List Oper := [({ dst := (some 29), op := (Op.move (Operand.tmp 8)), type := 3, pos := "law.go:30", after := #[], guard := none } : Oper), ({ dst := (some 30), op := (Op.move (Operand.tmp 1)), type := 22, pos := "law.go:30", after := #[], guard := none } : Oper), ({ dst := (some 31), op := (Op.call { callee := (Callee.builtin Builtin.len), args := #[(Operand.tmp 30)], argTypes := #[22] }), type := 3, pos := "law.go:30", after := #[{ on := 1, ground := Ground.data }], guard := none } : Oper), ({ dst := (some 32), op := (Op.binOp BinOp.lss 3 (Operand.tmp 29) (Operand.tmp 31) 3), type := 4, pos := "law.go:30", after := #[{ on := 0, ground := Ground.data }, { on := 2, ground := Ground.data }], guard := none } : Oper), ({ dst := (some 33), op := (Op.move (Operand.tmp 32)), type := 4, pos := "law.go:30", after := #[{ on := 3, ground := Ground.data }], guard := none } : Oper), ({ dst := (some 34), op := (Op.move (Operand.tmp 8)), type := 3, pos := "law.go:30", after := #[{ on := 4, ground := Ground.guard }], guard := some (4, true) } : Oper), ({ dst := (some 35), op := (Op.binOp BinOp.lss 3 (Operand.tmp 34) (Operand.const (Value.int IntKind.i64 200)) 3), type := 4, pos := "law.go:30", after := #[{ on := 5, ground := Ground.data }, { on := 4, ground := Ground.guard }], guard := some (4, true) } : Oper), ({ dst := (some 36), op := (Op.pick (Operand.tmp 33) (Operand.tmp 35) (Operand.const (Value.bool false))), type := 4, pos := "law.go:30", after := #[{ on := 4, ground := Ground.data }, { on := 6, ground := Ground.data }], guard := none } : Oper)]
def OPS7 : List Oper := [({ dst := (some 37), op := (Op.move (Operand.tmp 8)), type := 3, pos := "law.go:30", after := #[], guard := none } : Oper), ({ dst := (some 38), op := (Op.binOp BinOp.add 3 (Operand.tmp 37) (Operand.const (Value.int IntKind.i64 1)) 3), type := 3, pos := "law.go:30", after := #[{ on := 0, ground := Ground.data }], guard := none } : Oper), ({ dst := (some 8), op := (Op.assign (Operand.tmp 38)), type := 3, pos := "law.go:30", after := #[{ on := 1, ground := Ground.data }, { on := 0, ground := Ground.phase }, { on := 1, ground := Ground.phase }], guard := none } : Oper)]
def OPS8 : List Oper := [({ dst := (some 39), op := (Op.move (Operand.tmp 1)), type := 22, pos := "law.go:31", after := #[], guard := none } : Oper), ({ dst := (some 40), op := (Op.move (Operand.tmp 8)), type := 3, pos := "law.go:31", after := #[], guard := none } : Oper), ({ dst := (some 41), op := (Op.indexAddr 22 (Operand.tmp 39) (Operand.tmp 40)), type := 0, pos := "law.go:31", after := #[{ on := 0, ground := Ground.data }, { on := 1, ground := Ground.data }], guard := none } : Oper), ({ dst := (some 42), op := (Op.load 28 (Operand.tmp 41)), type := 28, pos := "law.go:31", after := #[{ on := 2, ground := Ground.data }], guard := none } : Oper), ({ dst := (some 9), op := (Op.alloc 28), type := 0, pos := "law.go:31", after := #[], guard := none } : Oper), ({ dst := none, op := (Op.store 28 (Operand.tmp 9) (Operand.tmp 42)), type := 0, pos := "law.go:31", after := #[{ on := 4, ground := Ground.data }, { on := 3, ground := Ground.data }, { on := 0, ground := Ground.phase }, { on := 1, ground := Ground.phase }, { on := 2, ground := Ground.phase }, { on := 3, ground := Ground.phase }, { on := 4, ground := Ground.phase }], guard := none } : Oper)]
def OPS9 : List Oper := [({ dst := (some 10), op := (Op.assign (Operand.const (Value.bool false))), type := 4, pos := "law.go:32", after := #[], guard := none } : Oper), ({ dst := (some 11), op := (Op.assign (Operand.const (Value.bool false))), type := 4, pos := "law.go:32", after := #[{ on := 0, ground := Ground.chain }, { on := 0, ground := Ground.phase }], guard := none } : Oper)]
def OPS10 : List Oper := [({ dst := (some 43), op := (Op.fieldAddr 28 (Operand.tmp 9) 0), type := 0, pos := "law.go:33", after := #[], guard := none } : Oper), ({ dst := (some 44), op := (Op.load 3 (Operand.tmp 43)), type := 3, pos := "law.go:33", after := #[{ on := 0, ground := Ground.data }], guard := none } : Oper)]
def OPS11 : List Oper := [({ dst := (some 46), op := (Op.binOp BinOp.eql 3 (Operand.tmp 44) (Operand.const (Value.int IntKind.i64 0)) 3), type := 4, pos := "law.go:34", after := #[], guard := none } : Oper), ({ dst := (some 45), op := (Op.assign (Operand.tmp 46)), type := 4, pos := "law.go:34", after := #[{ on := 0, ground := Ground.data }], guard := none } : Oper)]
def OPS12 : List Oper := [({ dst := (some 47), op := (Op.move (Operand.tmp 6)), type := 23, pos := "law.go:35", after := #[], guard := none } : Oper), ({ dst := (some 48), op := (Op.fieldAddr 28 (Operand.tmp 9) 1), type := 0, pos := "law.go:35", after := #[], guard := none } : Oper), ({ dst := (some 49), op := (Op.load 3 (Operand.tmp 48)), type := 3, pos := "law.go:35", after := #[{ on := 1, ground := Ground.data }], guard := none } : Oper), ({ dst := (some 50), op := (Op.fieldAddr 28 (Operand.tmp 9) 3), type := 0, pos := "law.go:35", after := #[], guard := none } : Oper), ({ dst := (some 51), op := (Op.load 3 (Operand.tmp 50)), type := 3, pos := "law.go:35", after := #[{ on := 3, ground := Ground.data }], guard := none } : Oper), ({ dst := (some 52), op := (Op.call { callee := (Callee.value (Operand.func 13)), args := #[(Operand.tmp 47), (Operand.tmp 49), (Operand.tmp 51)], argTypes := #[23, 3, 3] }), type := 4, pos := "law.go:35", after := #[{ on := 0, ground := Ground.data }, { on := 2, ground := Ground.data }, { on := 4, ground := Ground.data }], guard := none } : Oper), ({ dst := (some 53), op := (Op.move (Operand.tmp 7)), type := 25, pos := "law.go:35", after := #[], guard := none } : Oper), ({ dst := (some 54), op := (Op.fieldAddr 28 (Operand.tmp 9) 1), type := 0, pos := "law.go:35", after := #[], guard := none } : Oper), ({ dst := (some 55), op := (Op.load 3 (Operand.tmp 54)), type := 3, pos := "law.go:35", after := #[{ on := 7, ground := Ground.data }], guard := none } : Oper), ({ dst := (some 56), op := (Op.fieldAddr 28 (Operand.tmp 9) 3), type := 0, pos := "law.go:35", after := #[], guard := none } : Oper), ({ dst := (some 57), op := (Op.load 3 (Operand.tmp 56)), type := 3, pos := "law.go:35", after := #[{ on := 9, ground := Ground.data }], guard := none } : Oper), ({ dst := (some 58), op := (Op.call { callee := (Callee.value (Operand.func 14)), args := #[(Operand.tmp 53), (Operand.tmp 55), (Operand.tmp 57)], argTypes := #[25, 3, 3] }), type := 4, pos := "law.go:35", after := #[{ on := 6, ground := Ground.data }, { on := 8, ground := Ground.data }, { on := 10, ground := Ground.data }, { on := 5, ground := Ground.chain }], guard := none } : Oper), ({ dst := (some 10), op := (Op.assign (Operand.tmp 52)), type := 4, pos := "law.go:35", after := #[{ on := 5, ground := Ground.data }, { on := 11, ground := Ground.chain }, { on := 0, ground := Ground.phase }, { on := 1, ground := Ground.phase }, { on := 2, ground := Ground.phase }, { on := 3, ground := Ground.phase }, { on := 4, ground := Ground.phase }, { on := 5, ground := Ground.phase }, { on := 6, ground := (Ground.textOnly Departure.lateStores) }, { on := 7, ground := (Ground.textOnly Departure.lateStores) }, { on := 8, ground := (Ground.textOnly Departure.lateStores) }, { on := 9, ground := (Ground.textOnly Departure.lateStores) }, { on := 10, ground := (Ground.textOnly Departure.lateStores) }, { on := 11, ground := (Ground.textOnly Departure.lateStoresUnsure) }], guard := none } : Oper), ({ dst := (some 11), op := (Op.assign (Operand.tmp 58)), type := 4, pos := "law.go:35", after := #[{ on := 11, ground := Ground.data }, { on := 12, ground := Ground.chain }, { on := 0, ground := Ground.phase }, { on := 1, ground := Ground.phase }, { on := 2, ground := Ground.phase }, { on := 3, ground := Ground.phase }, { on := 4, ground := Ground.phase }, { on := 5, ground := Ground.phase }, { on := 6, ground := Ground.phase }, { on := 7, ground := Ground.phase }, { on := 8, ground := Ground.phase }, { on := 9, ground := Ground.phase }, { on := 10, ground := Ground.phase }, { on := 11, ground := Ground.phase }, { on := 12, ground := Ground.phase }], guard := none } : Oper)]
def OPS13 : List Oper := [({ dst := (some 60), op := (Op.binOp BinOp.eql 3 (Operand.tmp 44) (Operand.const (Value.int IntKind.i64 1)) 3), type := 4, pos := "law.go:36", after := #[], guard := none } : Oper), ({ dst := (some 59), op := (Op.assign (Operand.tmp 60)), type := 4, pos := "law.go:36", after := #[{ on := 0, ground := Ground.data }], guard := none } : Oper)]
def OPS14 : List Oper := [({ dst := (some 61), op := (Op.move (Operand.tmp 6)), type := 23, pos := "law.go:37", after := #[], guard := none } : Oper), ({ dst := (some 62), op := (Op.fieldAddr 28 (Operand.tmp 9) 1), type := 0, pos := "law.go:37", after := #[], guard := none } : Oper), ({ dst := (some 63), op := (Op.load 3 (Operand.tmp 62)), type := 3, pos := "law.go:37", after := #[{ on := 1, ground := Ground.data }], guard := none } : Oper), ({ dst := (some 64), op := (Op.call { callee := (Callee.value (Operand.func 15)), args := #[(Operand.tmp 61), (Operand.tmp 63)], argTypes := #[23, 3] }), type := 4, pos := "law.go:37", after := #[{ on := 0, ground := Ground.data }, { on := 2, ground := Ground.data }], guard := none } : Oper), ({ dst := (some 65), op := (Op.move (Operand.tmp 7)), type := 25, pos := "law.go:37", after := #[], guard := none } : Oper), ({ dst := (some 66), op := (Op.fieldAddr 28 (Operand.tmp 9) 1), type := 0, pos := "law.go:37", after := #[], guard := none } : Oper), ({ dst := (some 67), op := (Op.load 3 (Operand.tmp 66)), type := 3, pos := "law.go:37", after := #[{ on := 5, ground := Ground.data }], guard := none } : Oper), ({ dst := (some 68), op := (Op.call { callee := (Callee.value (Operand.func 16)), args := #[(Operand.tmp 65), (Operand.tmp 67)], argTypes := #[25, 3] }), type := 4, pos := "law.go:37", after := #[{ on := 4, ground := Ground.data }, { on := 6, ground := Ground.data }, { on := 3, ground := Ground.chain }], guard := none } : Oper), ({ dst := (some 10), op := (Op.assign (Operand.tmp 64)), type := 4, pos := "law.go:37", after := #[{ on := 3, ground := Ground.data }, { on := 7, ground := Ground.chain }, { on := 0, ground := Ground.phase }, { on := 1, ground := Ground.phase }, { on := 2, ground := Ground.phase }, { on := 3, ground := Ground.phase }, { on := 4, ground := (Ground.textOnly Departure.lateStores) }, { on := 5, ground := (Ground.textOnly Departure.lateStores) }, { on := 6, ground := (Ground.textOnly Departure.lateStores) }, { on := 7, ground := (Ground.textOnly Departure.lateStoresUnsure) }], guard := none } : Oper), ({ dst := (some 11), op := (Op.assign (Operand.tmp 68)), type := 4, pos := "law.go:37", after := #[{ on := 7, ground := Ground.data }, { on := 8, ground := Ground.chain }, { on := 0, ground := Ground.phase }, { on := 1, ground := Ground.phase }, { on := 2, ground := Ground.phase }, { on := 3, ground := Ground.phase }, { on := 4, ground := Ground.phase }, { on := 5, ground := Ground.phase }, { on := 6, ground := Ground.phase }, { on := 7, ground := Ground.phase }, { on := 8, ground := Ground.phase }], guard := none } : Oper)]
def OPS15 : List Oper := [({ dst := (some 70), op := (Op.binOp BinOp.eql 3 (Operand.tmp 44) (Operand.const (Value.int IntKind.i64 2)) 3), type := 4, pos := "law.go:38", after := #[], guard := none } : Oper), ({ dst := (some 69), op := (Op.assign (Operand.tmp 70)), type := 4, pos := "law.go:38", after := #[{ on := 0, ground := Ground.data }], guard := none } : Oper)]
def OPS16 : List Oper := [({ dst := (some 71), op := (Op.move (Operand.tmp 6)), type := 23, pos := "law.go:39", after := #[], guard := none } : Oper), ({ dst := (some 72), op := (Op.fieldAddr 28 (Operand.tmp 9) 1), type := 0, pos := "law.go:39", after := #[], guard := none } : Oper), ({ dst := (some 73), op := (Op.load 3 (Operand.tmp 72)), type := 3, pos := "law.go:39", after := #[{ on := 1, ground := Ground.data }], guard := none } : Oper), ({ dst := (some 74), op := (Op.call { callee := (Callee.value (Operand.func 17)), args := #[(Operand.tmp 71), (Operand.tmp 73)], argTypes := #[23, 3] }), type := 4, pos := "law.go:39", after := #[{ on := 0, ground := Ground.data }, { on := 2, ground := Ground.data }], guard := none } : Oper), ({ dst := (some 75), op := (Op.move (Operand.tmp 7)), type := 25, pos := "law.go:39", after := #[], guard := none } : Oper), ({ dst := (some 76), op := (Op.fieldAddr 28 (Operand.tmp 9) 1), type := 0, pos := "law.go:39", after := #[], guard := none } : Oper), ({ dst := (some 77), op := (Op.load 3 (Operand.tmp 76)), type := 3, pos := "law.go:39", after := #[{ on := 5, ground := Ground.data }], guard := none } : Oper), ({ dst := (some 78), op := (Op.call { callee := (Callee.value (Operand.func 18)), args := #[(Operand.tmp 75), (Operand.tmp 77)], argTypes := #[25, 3] }), type := 4, pos := "law.go:39", after := #[{ on := 4, ground := Ground.data }, { on := 6, ground := Ground.data }, { on := 3, ground := Ground.chain }], guard := none } : Oper), ({ dst := (some 10), op := (Op.assign (Operand.tmp 74)), type := 4, pos := "law.go:39", after := #[{ on := 3, ground := Ground.data }, { on := 7, ground := Ground.chain }, { on := 0, ground := Ground.phase }, { on := 1, ground := Ground.phase }, { on := 2, ground := Ground.phase }, { on := 3, ground := Ground.phase }, { on := 4, ground := (Ground.textOnly Departure.lateStores) }, { on := 5, ground := (Ground.textOnly Departure.lateStores) }, { on := 6, ground := (Ground.textOnly Departure.lateStores) }, { on := 7, ground := (Ground.textOnly Departure.lateStoresUnsure) }], guard := none } : Oper), ({ dst := (some 11), op := (Op.assign (Operand.tmp 78)), type := 4, pos := "law.go:39", after := #[{ on := 7, ground := Ground.data }, { on := 8, ground := Ground.chain }, { on := 0, ground := Ground.phase }, { on := 1, ground := Ground.phase }, { on := 2, ground := Ground.phase }, { on := 3, ground := Ground.phase }, { on := 4, ground := Ground.phase }, { on := 5, ground := Ground.phase }, { on := 6, ground := Ground.phase }, { on := 7, ground := Ground.phase }, { on := 8, ground := Ground.phase }], guard := none } : Oper)]
def OPS17 : List Oper := [({ dst := (some 80), op := (Op.binOp BinOp.eql 3 (Operand.tmp 44) (Operand.const (Value.int IntKind.i64 3)) 3), type := 4, pos := "law.go:40", after := #[], guard := none } : Oper), ({ dst := (some 79), op := (Op.assign (Operand.tmp 80)), type := 4, pos := "law.go:40", after := #[{ on := 0, ground := Ground.data }], guard := none } : Oper)]
def OPS18 : List Oper := [({ dst := (some 81), op := (Op.move (Operand.tmp 6)), type := 23, pos := "law.go:41", after := #[], guard := none } : Oper), ({ dst := (some 82), op := (Op.fieldAddr 28 (Operand.tmp 9) 1), type := 0, pos := "law.go:41", after := #[], guard := none } : Oper), ({ dst := (some 83), op := (Op.load 3 (Operand.tmp 82)), type := 3, pos := "law.go:41", after := #[{ on := 1, ground := Ground.data }], guard := none } : Oper), ({ dst := (some 84), op := (Op.fieldAddr 28 (Operand.tmp 9) 2), type := 0, pos := "law.go:41", after := #[], guard := none } : Oper), ({ dst := (some 85), op := (Op.load 3 (Operand.tmp 84)), type := 3, pos := "law.go:41", after := #[{ on := 3, ground := Ground.data }], guard := none } : Oper), ({ dst := (some 86), op := (Op.call { callee := (Callee.value (Operand.func 19)), args := #[(Operand.tmp 81), (Operand.tmp 83), (Operand.tmp 85)], argTypes := #[23, 3, 3] }), type := 4, pos := "law.go:41", after := #[{ on := 0, ground := Ground.data }, { on := 2, ground := Ground.data }, { on := 4, ground := Ground.data }], guard := none } : Oper), ({ dst := (some 87), op := (Op.move (Operand.tmp 7)), type := 25, pos := "law.go:41", after := #[], guard := none } : Oper), ({ dst := (some 88), op := (Op.fieldAddr 28 (Operand.tmp 9) 1), type := 0, pos := "law.go:41", after := #[], guard := none } : Oper), ({ dst := (some 89), op := (Op.load 3 (Operand.tmp 88)), type := 3, pos := "law.go:41", after := #[{ on := 7, ground := Ground.data }], guard := none } : Oper), ({ dst := (some 90), op := (Op.fieldAddr 28 (Operand.tmp 9) 2), type := 0, pos := "law.go:41", after := #[], guard := none } : Oper), ({ dst := (some 91), op := (Op.load 3 (Operand.tmp 90)), type := 3, pos := "law.go:41", after := #[{ on := 9, ground := Ground.data }], guard := none } : Oper), ({ dst := (some 92), op := (Op.call { callee := (Callee.value (Operand.func 20)), args := #[(Operand.tmp 87), (Operand.tmp 89), (Operand.tmp 91)], argTypes := #[25, 3, 3] }), type := 4, pos := "law.go:41", after := #[{ on := 6, ground := Ground.data }, { on := 8, ground := Ground.data }, { on := 10, ground := Ground.data }, { on := 5, ground := Ground.chain }], guard := none } : Oper), ({ dst := (some 10), op := (Op.assign (Operand.tmp 86)), type := 4, pos := "law.go:41", after := #[{ on := 5, ground := Ground.data }, { on := 11, ground := Ground.chain }, { on := 0, ground := Ground.phase }, { on := 1, ground := Ground.phase }, { on := 2, ground := Ground.phase }, { on := 3, ground := Ground.phase }, { on := 4, ground := Ground.phase }, { on := 5, ground := Ground.phase }, { on := 6, ground := (Ground.textOnly Departure.lateStores) }, { on := 7, ground := (Ground.textOnly Departure.lateStores) }, { on := 8, ground := (Ground.textOnly Departure.lateStores) }, { on := 9, ground := (Ground.textOnly Departure.lateStores) }, { on := 10, ground := (Ground.textOnly Departure.lateStores) }, { on := 11, ground := (Ground.textOnly Departure.lateStoresUnsure) }], guard := none } : Oper), ({ dst := (some 11), op := (Op.assign (Operand.tmp 92)), type := 4, pos := "law.go:41", after := #[{ on := 11, ground := Ground.data }, { on := 12, ground := Ground.chain }, { on := 0, ground := Ground.phase }, { on := 1, ground := Ground.phase }, { on := 2, ground := Ground.phase }, { on := 3, ground := Ground.phase }, { on := 4, ground := Ground.phase }, { on := 5, ground := Ground.phase }, { on := 6, ground := Ground.phase }, { on := 7, ground := Ground.phase }, { on := 8, ground := Ground.phase }, { on := 9, ground := Ground.phase }, { on := 10, ground := Ground.phase }, { on := 11, ground := Ground.phase }, { on := 12, ground := Ground.phase }], guard := none } : Oper)]
def OPS19 : List Oper := [({ dst := (some 94), op := (Op.binOp BinOp.eql 3 (Operand.tmp 44) (Operand.const (Value.int IntKind.i64 4)) 3), type := 4, pos := "law.go:42", after := #[], guard := none } : Oper), ({ dst := (some 93), op := (Op.assign (Operand.tmp 94)), type := 4, pos := "law.go:42", after := #[{ on := 0, ground := Ground.data }], guard := none } : Oper)]
def OPS20 : List Oper := [({ dst := (some 95), op := (Op.move (Operand.tmp 6)), type := 23, pos := "law.go:43", after := #[], guard := none } : Oper), ({ dst := (some 96), op := (Op.fieldAddr 28 (Operand.tmp 9) 1), type := 0, pos := "law.go:43", after := #[], guard := none } : Oper), ({ dst := (some 97), op := (Op.load 3 (Operand.tmp 96)), type := 3, pos := "law.go:43", after := #[{ on := 1, ground := Ground.data }], guard := none } : Oper), ({ dst := (some 98), op := (Op.fieldAddr 28 (Operand.tmp 9) 3), type := 0, pos := "law.go:43", after := #[], guard := none } : Oper), ({ dst := (some 99), op := (Op.load 3 (Operand.tmp 98)), type := 3, pos := "law.go:43", after := #[{ on := 3, ground := Ground.data }], guard := none } : Oper), ({ dst := (some 100), op := (Op.call { callee := (Callee.value (Operand.func 21)), args := #[(Operand.tmp 95), (Operand.tmp 97), (Operand.tmp 99)], argTypes := #[23, 3, 3] }), type := 4, pos := "law.go:43", after := #[{ on := 0, ground := Ground.data }, { on := 2, ground := Ground.data }, { on := 4, ground := Ground.data }], guard := none } : Oper), ({ dst := (some 101), op := (Op.move (Operand.tmp 7)), type := 25, pos := "law.go:43", after := #[], guard := none } : Oper), ({ dst := (some 102), op := (Op.fieldAddr 28 (Operand.tmp 9) 1), type := 0, pos := "law.go:43", after := #[], guard := none } : Oper), ({ dst := (some 103), op := (Op.load 3 (Operand.tmp 102)), type := 3, pos := "law.go:43", after := #[{ on := 7, ground := Ground.data }], guard := none } : Oper), ({ dst := (some 104), op := (Op.fieldAddr 28 (Operand.tmp 9) 3), type := 0, pos := "law.go:43", after := #[], guard := none } : Oper), ({ dst := (some 105), op := (Op.load 3 (Operand.tmp 104)), type := 3, pos := "law.go:43", after := #[{ on := 9, ground := Ground.data }], guard := none } : Oper), ({ dst := (some 106), op := (Op.call { callee := (Callee.value (Operand.func 22)), args := #[(Operand.tmp 101), (Operand.tmp 103), (Operand.tmp 105)], argTypes := #[25, 3, 3] }), type := 4, pos := "law.go:43", after := #[{ on := 6, ground := Ground.data }, { on := 8, ground := Ground.data }, { on := 10, ground := Ground.data }, { on := 5, ground := Ground.chain }], guard := none } : Oper), ({ dst := (some 10), op := (Op.assign (Operand.tmp 100)), type := 4, pos := "law.go:43", after := #[{ on := 5, ground := Ground.data }, { on := 11, ground := Ground.chain }, { on := 0, ground := Ground.phase }, { on := 1, ground := Ground.phase }, { on := 2, ground := Ground.phase }, { on := 3, ground := Ground.phase }, { on := 4, ground := Ground.phase }, { on := 5, ground := Ground.phase }, { on := 6, ground := (Ground.textOnly Departure.lateStores) }, { on := 7, ground := (Ground.textOnly Departure.lateStores) }, { on := 8, ground := (Ground.textOnly Departure.lateStores) }, { on := 9, ground := (Ground.textOnly Departure.lateStores) }, { on := 10, ground := (Ground.textOnly Departure.lateStores) }, { on := 11, ground := (Ground.textOnly Departure.lateStoresUnsure) }], guard := none } : Oper), ({ dst := (some 11), op := (Op.assign (Operand.tmp 106)), type := 4, pos := "law.go:43", after := #[{ on := 11, ground := Ground.data }, { on := 12, ground := Ground.chain }, { on := 0, ground := Ground.phase }, { on := 1, ground := Ground.phase }, { on := 2, ground := Ground.phase }, { on := 3, ground := Ground.phase }, { on := 4, ground := Ground.phase }, { on := 5, ground := Ground.phase }, { on := 6, ground := Ground.phase }, { on := 7, ground := Ground.phase }, { on := 8, ground := Ground.phase }, { on := 9, ground := Ground.phase }, { on := 10, ground := Ground.phase }, { on := 11, ground := Ground.phase }, { on := 12, ground := Ground.phase }], guard := none } : Oper)]
def OPS21 : List Oper := [({ dst := (some 108), op := (Op.binOp BinOp.eql 3 (Operand.tmp 44) (Operand.const (Value.int IntKind.i64 5)) 3), type := 4, pos := "law.go:44", after := #[], guard := none } : Oper), ({ dst := (some 107), op := (Op.assign (Operand.tmp 108)), type := 4, pos := "law.go:44", after := #[{ on := 0, ground := Ground.data }], guard := none } : Oper)]
def OPS22 : List Oper := [({ dst := (some 109), op := (Op.move (Operand.tmp 6)), type := 23, pos := "law.go:45", after := #[], guard := none } : Oper), ({ dst := (some 110), op := (Op.fieldAddr 28 (Operand.tmp 9) 1), type := 0, pos := "law.go:45", after := #[], guard := none } : Oper), ({ dst := (some 111), op := (Op.load 3 (Operand.tmp 110)), type := 3, pos := "law.go:45", after := #[{ on := 1, ground := Ground.data }], guard := none } : Oper), ({ dst := (some 112), op := (Op.fieldAddr 28 (Operand.tmp 9) 2), type := 0, pos := "law.go:45", after := #[], guard := none } : Oper), ({ dst := (some 113), op := (Op.load 3 (Operand.tmp 112)), type := 3, pos := "law.go:45", after := #[{ on := 3, ground := Ground.data }], guard := none } : Oper), ({ dst := (some 114), op := (Op.fieldAddr 28 (Operand.tmp 9) 3), type := 0, pos := "law.go:45", after := #[], guard := none } : Oper), ({ dst := (some 115), op := (Op.load 3 (Operand.tmp 114)), type := 3, pos := "law.go:45", after := #[{ on := 5, ground := Ground.data }], guard := none } : Oper), ({ dst := (some 116), op := (Op.call { callee := (Callee.value (Operand.func 23)), args := #[(Operand.tmp 109), (Operand.tmp 111), (Operand.tmp 113), (Operand.tmp 115)], argTypes := #[23, 3, 3, 3] }), type := 4, pos := "law.go:45", after := #[{ on := 0, ground := Ground.data }, { on := 2, ground := Ground.data }, { on := 4, ground := Ground.data }, { on := 6, ground := Ground.data }], guard := none } : Oper), ({ dst := (some 117), op := (Op.move (Operand.tmp 7)), type := 25, pos := "law.go:45", after := #[], guard := none } : Oper), ({ dst := (some 118), op := (Op.fieldAddr 28 (Operand.tmp 9) 1), type := 0, pos := "law.go:45", after := #[], guard := none } : Oper), ({ dst := (some 119), op := (Op.load 3 (Operand.tmp 118)), type := 3, pos := "law.go:45", after := #[{ on := 9, ground := Ground.data }], guard := none } : Oper), ({ dst := (some 120), op := (Op.fieldAddr 28 (Operand.tmp 9) 2), type := 0, pos := "law.go:45", after := #[], guard := none } : Oper), ({ dst := (some 121), op := (Op.load 3 (Operand.tmp 120)), type := 3, pos := "law.go:45", after := #[{ on := 11, ground := Ground.data }], guard := none } : Oper), ({ dst := (some 122), op := (Op.fieldAddr 28 (Operand.tmp 9) 3), type := 0, pos := "law.go:45", after := #[], guard := none } : Oper), ({ dst := (some 123), op := (Op.load 3 (Operand.tmp 122)), type := 3, pos := "law.go:45", after := #[{ on := 13, ground := Ground.data }], guard := none } : Oper), ({ dst := (some 124), op := (Op.call { callee := (Callee.value (Operand.func 24)), args := #[(Operand.tmp 117), (Operand.tmp 119), (Operand.tmp 121), (Operand.tmp 123)], argTypes := #[25, 3, 3, 3] }), type := 4, pos := "law.go:45", after := #[{ on := 8, ground := Ground.data }, { on := 10, ground := Ground.data }, { on := 12, ground := Ground.data }, { on := 14, ground := Ground.data }, { on := 7, ground := Ground.chain }], guard := none } : Oper), ({ dst := (some 10), op := (Op.assign (Operand.tmp 116)), type := 4, pos := "law.go:45", after := #[{ on := 7, ground := Ground.data }, { on := 15, ground := Ground.chain }, { on := 0, ground := Ground.phase }, { on := 1, ground := Ground.phase }, { on := 2, ground := Ground.phase }, { on := 3, ground := Ground.phase }, { on := 4, ground := Ground.phase }, { on := 5, ground := Ground.phase }, { on := 6, ground := Ground.phase }, { on := 7, ground := Ground.phase }, { on := 8, ground := (Ground.textOnly Departure.lateStores) }, { on := 9, ground := (Ground.textOnly Departure.lateStores) }, { on := 10, ground := (Ground.textOnly Departure.lateStores) }, { on := 11, ground := (Ground.textOnly Departure.lateStores) }, { on := 12, ground := (Ground.textOnly Departure.lateStores) }, { on := 13, ground := (Ground.textOnly Departure.lateStores) }, { on := 14, ground := (Ground.textOnly Departure.lateStores) }, { on := 15, ground := (Ground.textOnly Departure.lateStoresUnsure) }], guard := none } : Oper), ({ dst := (some 11), op := (Op.assign (Operand.tmp 124)), type := 4, pos := "law.go:45", after := #[{ on := 15, ground := Ground.data }, { on := 16, ground := Ground.chain }, { on := 0, ground := Ground.phase }, { on := 1, ground := Ground.phase }, { on := 2, ground := Ground.phase }, { on := 3, ground := Ground.phase }, { on := 4, ground := Ground.phase }, { on := 5, ground := Ground.phase }, { on := 6, ground := Ground.phase }, { on := 7, ground := Ground.phase }, { on := 8, ground := Ground.phase }, { on := 9, ground := Ground.phase }, { on := 10, ground := Ground.phase }, { on := 11, ground := Ground.phase }, { on := 12, ground := Ground.phase }, { on := 13, ground := Ground.phase }, { on := 14, ground := Ground.phase }, { on := 15, ground := Ground.phase }, { on := 16, ground := Ground.phase }], guard := none } : Oper)]
def OPS23 : List Oper := [({ dst := (some 126), op := (Op.move (Operand.tmp 6)), type := 23, pos := "law.go:47", after := #[], guard := none } : Oper), ({ dst := (some 127), op := (Op.fieldAddr 28 (Operand.tmp 9) 1), type := 0, pos := "law.go:47", after := #[], guard := none } : Oper), ({ dst := (some 128), op := (Op.load 3 (Operand.tmp 127)), type := 3, pos := "law.go:47", after := #[{ on := 1, ground := Ground.data }], guard := none } : Oper), ({ dst := (some 129), op := (Op.fieldAddr 28 (Operand.tmp 9) 2), type := 0, pos := "law.go:47", after := #[], guard := none } : Oper), ({ dst := (some 130), op := (Op.load 3 (Operand.tmp 129)), type := 3, pos := "law.go:47", after := #[{ on := 3, ground := Ground.data }], guard := none } : Oper), ({ dst := (some 131), op := (Op.call { callee := (Callee.value (Operand.func 25)), args := #[(Operand.tmp 126), (Operand.tmp 128), (Operand.tmp 130)], argTypes := #[23, 3, 3] }), type := 34, pos := "law.go:47", after := #[{ on := 0, ground := Ground.data }, { on := 2, ground := Ground.data }, { on := 4, ground := Ground.data }], guard := none } : Oper), ({ dst := (some 125), op := (Op.move (Operand.tmp 131)), type := 34, pos := "law.go:47", after := #[{ on := 5, ground := Ground.data }], guard := none } : Oper), ({ dst := (some 132), op := (Op.extract (Operand.tmp 125) 0), type := 33, pos := "law.go:47", after := #[{ on := 6, ground := Ground.data }], guard := none } : Oper), ({ dst := (some 133), op := (Op.extract (Operand.tmp 125) 1), type := 4, pos := "law.go:47", after := #[{ on := 6, ground := Ground.data }, { on := 10, ground := (Ground.gcOnly Departure.lateStores) }], guard := none } : Oper), ({ dst := (some 12), op := (Op.alloc 33), type := 0, pos := "law.go:47", after := #[], guard := none } : Oper), ({ dst := none, op := (Op.store 33 (Operand.tmp 12) (Operand.tmp 132)), type := 0, pos := "law.go:47", after := #[{ on := 9, ground := Ground.data }, { on := 7, ground := Ground.data }, { on := 5, ground := Ground.chain }, { on := 0, ground := Ground.phase }, { on := 1, ground := Ground.phase }, { on := 2, ground := Ground.phase }, { on := 3, ground := Ground.phase }, { on := 4, ground := Ground.phase }, { on := 5, ground := Ground.phase }, { on := 6, ground := Ground.phase }, { on := 7, ground := Ground.phase }, { on := 8, ground := (Ground.textOnly Departure.lateStores) }, { on := 9, ground := Ground.phase }], guard := none } : Oper), ({ dst := (some 13), op := (Op.assign (Operand.tmp 133)), type := 4, pos := "law.go:47", after := #[{ on := 8, ground := Ground.data }, { on := 10, ground := Ground.chain }, { on := 0, ground := Ground.phase }, { on := 1, ground := Ground.phase }, { on := 2, ground := Ground.phase }, { on := 3, ground := Ground.phase }, { on := 4, ground := Ground.phase }, { on := 5, ground := Ground.phase }, { on := 6, ground := Ground.phase }, { on := 7, ground := Ground.phase }, { on := 8, ground := Ground.phase }, { on := 9, ground := Ground.phase }, { on := 10, ground := Ground.phase }], guard := none } : Oper)]
def OPS24 : List Oper := [({ dst := (some 135), op := (Op.move (Operand.tmp 7)), type := 25, pos := "law.go:48", after := #[], guard := none } : Oper), ({ dst := (some 136), op := (Op.fieldAddr 28 (Operand.tmp 9) 1), type := 0, pos := "law.go:48", after := #[], guard := none } : Oper), ({ dst := (some 137), op := (Op.load 3 (Operand.tmp 136)), type := 3, pos := "law.go:48", after := #[{ on := 1, ground := Ground.data }], guard := none } : Oper), ({ dst := (some 138), op := (Op.fieldAddr 28 (Operand.tmp 9) 2), type := 0, pos := "law.go:48", after := #[], guard := none } : Oper), ({ dst := (some 139), op := (Op.load 3 (Operand.tmp 138)), type := 3, pos := "law.go:48", after := #[{ on := 3, ground := Ground.data }], guard := none } : Oper), ({ dst := (some 140), op := (Op.call { callee := (Callee.value (Operand.func 26)), args := #[(Operand.tmp 135), (Operand.tmp 137), (Operand.tmp 139)], argTypes := #[25, 3, 3] }), type := 34, pos := "law.go:48", after := #[{ on := 0, ground := Ground.data }, { on := 2, ground := Ground.data }, { on := 4, ground := Ground.data }], guard := none } : Oper), ({ dst := (some 134), op := (Op.move (Operand.tmp 140)), type := 34, pos := "law.go:48", after := #[{ on := 5, ground := Ground.data }], guard := none } : Oper), ({ dst := (some 141), op := (Op.extract (Operand.tmp 134) 0), type := 33, pos := "law.go:48", after := #[{ on := 6, ground := Ground.data }], guard := none } : Oper), ({ dst := (some 142), op := (Op.extract (Operand.tmp 134) 1), type := 4, pos := "law.go:48", after := #[{ on := 6, ground := Ground.data }, { on := 10, ground := (Ground.gcOnly Departure.lateStores) }], guard := none } : Oper), ({ dst := (some 14), op := (Op.alloc 33), type := 0, pos := "law.go:48", after := #[], guard := none } : Oper), ({ dst := none, op := (Op.store 33 (Operand.tmp 14) (Operand.tmp 141)), type := 0, pos := "law.go:48", after := #[{ on := 9, ground := Ground.data }, { on := 7, ground := Ground.data }, { on := 5, ground := Ground.chain }, { on := 0, ground := Ground.phase }, { on := 1, ground := Ground.phase }, { on := 2, ground := Ground.phase }, { on := 3, ground := Ground.phase }, { on := 4, ground := Ground.phase }, { on := 5, ground := Ground.phase }, { on := 6, ground := Ground.phase }, { on := 7, ground := Ground.phase }, { on := 8, ground := (Ground.textOnly Departure.lateStores) }, { on := 9, ground := Ground.phase }], guard := none } : Oper), ({ dst := (some 15), op := (Op.assign (Operand.tmp 142)), type := 4, pos := "law.go:48", after := #[{ on := 8, ground := Ground.data }, { on := 10, ground := Ground.chain }, { on := 0, ground := Ground.phase }, { on := 1, ground := Ground.phase }, { on := 2, ground := Ground.phase }, { on := 3, ground := Ground.phase }, { on := 4, ground := Ground.phase }, { on := 5, ground := Ground.phase }, { on := 6, ground := Ground.phase }, { on := 7, ground := Ground.phase }, { on := 8, ground := Ground.phase }, { on := 9, ground := Ground.phase }, { on := 10, ground := Ground.phase }], guard := none } : Oper)]
def OPS25 : List Oper := [({ dst := (some 144), op := (Op.move (Operand.tmp 6)), type := 23, pos := "law.go:49", after := #[], guard := none } : Oper), ({ dst := (some 145), op := (Op.fieldAddr 28 (Operand.tmp 9) 1), type := 0, pos := "law.go:49", after := #[], guard := none } : Oper), ({ dst := (some 146), op := (Op.load 3 (Operand.tmp 145)), type := 3, pos := "law.go:49", after := #[{ on := 1, ground := Ground.data }], guard := none } : Oper), ({ dst := (some 147), op := (Op.call { callee := (Callee.value (Operand.func 27)), args := #[(Operand.tmp 144), (Operand.tmp 146)], argTypes := #[23, 3] }), type := 36, pos := "law.go:49", after := #[{ on := 0, ground := Ground.data }, { on := 2, ground := Ground.data }], guard := none } : Oper), ({ dst := (some 143), op := (Op.move (Operand.tmp 147)), type := 36, pos := "law.go:49", after := #[{ on := 3, ground := Ground.data }], guard := none } : Oper), ({ dst := (some 148), op := (Op.extract (Operand.tmp 143) 0), type := 3, pos := "law.go:49", after := #[{ on := 4, ground := Ground.data }], guard := none } : Oper), ({ dst := (some 149), op := (Op.extract (Operand.tmp 143) 1), type := 4, pos := "law.go:49", after := #[{ on := 4, ground := Ground.data }, { on := 7, ground := (Ground.gcOnly Departure.lateStores) }], guard := none } : Oper), ({ dst := (some 16), op := (Op.assign (Operand.tmp 148)), type := 3, pos := "law.go:49", after := #[{ on := 5, ground := Ground.data }, { on := 3, ground := Ground.chain }, { on := 0, ground := Ground.phase }, { on := 1, ground := Ground.phase }, { on := 2, ground := Ground.phase }, { on := 3, ground := Ground.phase }, { on := 4, ground := Ground.phase }, { on := 5, ground := Ground.phase }, { on := 6, ground := (Ground.textOnly Departure.lateStores) }], guard := none } : Oper), ({ dst := (some 17), op := (Op.assign (Operand.tmp 149)), type := 4, pos := "law.go:49", after := #[{ on := 6, ground := Ground.data }, { on := 7, ground := Ground.chain }, { on := 0, ground := Ground.phase }, { on := 1, ground := Ground.phase }, { on := 2, ground := Ground.phase }, { on := 3, ground := Ground.phase }, { on := 4, ground := Ground.phase }, { on := 5, ground := Ground.phase }, { on := 6, ground := Ground.phase }, { on := 7, ground := Ground.phase }], guard := none } : Oper)]
def OPS26 : List Oper := [({ dst := (some 151), op := (Op.move (Operand.tmp 7)), type := 25, pos := "law.go:50", after := #[], guard := none } : Oper), ({ dst := (some 152), op := (Op.fieldAddr 28 (Operand.tmp 9) 1), type := 0, pos := "law.go:50", after := #[], guard := none } : Oper), ({ dst := (some 153), op := (Op.load 3 (Operand.tmp 152)), type := 3, pos := "law.go:50", after := #[{ on := 1, ground := Ground.data }], guard := none } : Oper), ({ dst := (some 154), op := (Op.call { callee := (Callee.value (Operand.func 28)), args := #[(Operand.tmp 151), (Operand.tmp 153)], argTypes := #[25, 3] }), type := 36, pos := "law.go:50", after := #[{ on := 0, ground := Ground.data }, { on := 2, ground := Ground.data }], guard := none } : Oper), ({ dst := (some 150), op := (Op.move (Operand.tmp 154)), type := 36, pos := "law.go:50", after := #[{ on := 3, ground := Ground.data }], guard := none } : Oper), ({ dst := (some 155), op := (Op.extract (Operand.tmp 150) 0), type := 3, pos := "law.go:50", after := #[{ on := 4, ground := Ground.data }], guard := none } : Oper), ({ dst := (some 156), op := (Op.extract (Operand.tmp 150) 1), type := 4, pos := "law.go:50", after := #[{ on := 4, ground := Ground.data }, { on := 7, ground := (Ground.gcOnly Departure.lateStores) }], guard := none } : Oper), ({ dst := (some 18), op := (Op.assign (Operand.tmp 155)), type := 3, pos := "law.go:50", after := #[{ on := 5, ground := Ground.data }, { on := 3, ground := Ground.chain }, { on := 0, ground := Ground.phase }, { on := 1, ground := Ground.phase }, { on := 2, ground := Ground.phase }, { on := 3, ground := Ground.phase }, { on := 4, ground := Ground.phase }, { on := 5, ground := Ground.phase }, { on := 6, ground := (Ground.textOnly Departure.lateStores) }], guard := none } : Oper), ({ dst := (some 19), op := (Op.assign (Operand.tmp 156)), type := 4, pos := "law.go:50", after := #[{ on := 6, ground := Ground.data }, { on := 7, ground := Ground.chain }, { on := 0, ground := Ground.phase }, { on := 1, ground := Ground.phase }, { on := 2, ground := Ground.phase }, { on := 3, ground := Ground.phase }, { on := 4, ground := Ground.phase }, { on := 5, ground := Ground.phase }, { on := 6, ground := Ground.phase }, { on := 7, ground := Ground.phase }], guard := none } : Oper)]
def OPS28 : List Oper := [({ dst := (some 4), op := (Op.assign (Operand.const (Value.bool false))), type := 4, pos := "law.go:52", after := #[], guard := none } : Oper)]
def OPS29 : List Oper := [({ dst := (some 274), op := (Op.call { callee := (Callee.value (Operand.func 42)), args := #[], argTypes := #[] }), type := 4, pos := "law.go:55", after := #[], guard := none } : Oper), ({ dst := (some 4), op := (Op.assign (Operand.tmp 274)), type := 4, pos := "law.go:55", after := #[{ on := 0, ground := Ground.data }, { on := 0, ground := Ground.chain }, { on := 0, ground := Ground.phase }], guard := none } : Oper)]
theorem rg6t {x : Option Addr} {len cap m p q : Nat} {NX : Act → World → Prop} {a0 : Act} {V : World} (K0 : Kb a0 275 [(1, .slice x len cap), (6, .pointer (some ⟨p, 0, none⟩)), (7, .pointer (some ⟨q, 0, none⟩)), (8, .int .i64 (m : Int))]) (e1 : (m : Int) < (len : Int)) (e2 : (m : Int) < 200) (hN : ∀ a' w', Kb a' 275 [(1, .slice x len cap), (6, .pointer (some ⟨p, 0, none⟩)), (7, .pointer (some ⟨q, 0, none⟩)), (8, .int .i64 (m : Int)), (36, .bool true)] → w' = V →  NX a' w') :
    (Code.region 6 OPS6.toArray false).wp Try.prog (Norm NX) a0 V := by
  refine wp_region_lit ?_
  refine ltake (v := .int .i64 (m : Int)) (w' := V) K0 rfl rfl (want_none rfl) (fun ev E => ?_) (fun a1 K1 => ?_)
  · have EC := E.const; have E8 := E.tmp 8 _ rfl; clear E K0; go_simp
  refine ltake (v := .slice x len cap) (w' := V) K1 rfl rfl (want_none rfl) (fun ev E => ?_) (fun a2 K2 => ?_)
  · have EC := E.const; have E1 := E.tmp 1 _ rfl; clear E K1; go_simp
  clear K1
  refine ltake (v := .int .i64 (len : Int)) (w' := V) K2 rfl rfl (want_none rfl) (fun ev E => ?_) (fun a3 K3 => ?_)
  · have EC := E.const; have E30 := E.tmp 30 _ rfl; clear E K2; go_simp
  clear K2
  refine ltake (v := .bool true) (w' := V) K3 rfl rfl (want_none rfl) (fun ev E => ?_) (fun a4 K4 => ?_)
  · have EC := E.const; have E29 := E.tmp 29 _ rfl; have E31 := E.tmp 31 _ rfl; clear E K3; go_simp
  clear K3
  refine ltake (v := .bool true) (w' := V) K4 rfl rfl (want_none rfl) (fun ev E => ?_) (fun a5 K5 => ?_)
  · have EC := E.const; have E32 := E.tmp 32 _ rfl; clear E K4; go_simp
  clear K4
  refine ltake (v := .int .i64 (m : Int)) (w' := V) K5 rfl rfl (want_some K5 rfl rfl rfl) (fun ev E => ?_) (fun a6 K6 => ?_)
  · have EC := E.const; have E8 := E.tmp 8 _ rfl; clear E K5; go_simp
  clear K5
  refine ltake (v := .bool true) (w' := V) K6 rfl rfl (want_some K6 rfl rfl rfl) (fun ev E => ?_) (fun a7 K7 => ?_)
  · have EC := E.const; have E34 := E.tmp 34 _ rfl; clear E K6; go_simp
  clear K6
  refine ltake (v := .bool true) (w' := V) K7 rfl rfl (want_none rfl) (fun ev E => ?_) (fun a8 K8 => ?_)
  · have EC := E.const; have E33 := E.tmp 33 _ rfl; have E35 := E.tmp 35 _ rfl; clear E K7; go_simp
  clear K7
  exact wpList_nil (hN _ _ (K8.less ⟨rfl, rfl, rfl, rfl, rfl, trivial⟩) rfl)
theorem rg6a {x : Option Addr} {len cap m p q : Nat} {NX : Act → World → Prop} {a0 : Act} {V : World} (K0 : Kb a0 275 [(1, .slice x len cap), (6, .pointer (some ⟨p, 0, none⟩)), (7, .pointer (some ⟨q, 0, none⟩)), (8, .int .i64 (m : Int))]) (e1 : ¬ (m : Int) < (len : Int)) (hN : ∀ a' w', Kb a' 275 [(1, .slice x len cap), (6, .pointer (some ⟨p, 0, none⟩)), (7, .pointer (some ⟨q, 0, none⟩)), (8, .int .i64 (m : Int)), (36, .bool false)] → w' = V →  NX a' w') :
    (Code.region 6 OPS6.toArray false).wp Try.prog (Norm NX) a0 V := by
  refine wp_region_lit ?_
  refine ltake (v := .int .i64 (m : Int)) (w' := V) K0 rfl rfl (want_none rfl) (fun ev E => ?_) (fun a1 K1 => ?_)
  · have EC := E.const; have E8 := E.tmp 8 _ rfl; clear E K0; go_simp
  refine ltake (v := .slice x len cap) (w' := V) K1 rfl rfl (want_none rfl) (fun ev E => ?_) (fun a2 K2 => ?_)
  · have EC := E.const; have E1 := E.tmp 1 _ rfl; clear E K1; go_simp
  clear K1
  refine ltake (v := .int .i64 (len : Int)) (w' := V) K2 rfl rfl (want_none rfl) (fun ev E => ?_) (fun a3 K3 => ?_)
  · have EC := E.const; have E30 := E.tmp 30 _ rfl; clear E K2; go_simp
  clear K2
  refine ltake (v := .bool false) (w' := V) K3 rfl rfl (want_none rfl) (fun ev E => ?_) (fun a4 K4 => ?_)
  · have EC := E.const; have E29 := E.tmp 29 _ rfl; have E31 := E.tmp 31 _ rfl; clear E K3; go_simp
  clear K3
  refine ltake (v := .bool false) (w' := V) K4 rfl rfl (want_none rfl) (fun ev E => ?_) (fun a5 K5 => ?_)
  · have EC := E.const; have E32 := E.tmp 32 _ rfl; clear E K4; go_simp
  clear K4
  refine lskip K5 rfl rfl (want_not K5 rfl rfl rfl (by decide)) (fun a6 K6 => ?_)
  clear K5
  refine lskip K6 rfl rfl (want_not K6 rfl rfl rfl (by decide)) (fun a7 K7 => ?_)
  clear K6
  refine ltake (v := .bool false) (w' := V) K7 rfl rfl (want_none rfl) (fun ev E => ?_) (fun a8 K8 => ?_)
  · have EC := E.const; have E33 := E.tmp 33 _ rfl; have E35 := E.tmp 35 _ rfl; clear E K7; go_simp
  clear K7
  exact wpList_nil (hN _ _ (K8.less ⟨rfl, rfl, rfl, rfl, rfl, trivial⟩) rfl)
theorem rg6b {x : Option Addr} {len cap m p q : Nat} {NX : Act → World → Prop} {a0 : Act} {V : World} (K0 : Kb a0 275 [(1, .slice x len cap), (6, .pointer (some ⟨p, 0, none⟩)), (7, .pointer (some ⟨q, 0, none⟩)), (8, .int .i64 (m : Int))]) (e1 : (m : Int) < (len : Int)) (e2 : ¬ (m : Int) < 200) (hN : ∀ a' w', Kb a' 275 [(1, .slice x len cap), (6, .pointer (some ⟨p, 0, none⟩)), (7, .pointer (some ⟨q, 0, none⟩)), (8, .int .i64 (m : Int)), (36, .bool false)] → w' = V →  NX a' w') :
    (Code.region 6 OPS6.toArray false).wp Try.prog (Norm NX) a0 V := by
  refine wp_region_lit ?_
  refine ltake (v := .int .i64 (m : Int)) (w' := V) K0 rfl rfl (want_none rfl) (fun ev E => ?_) (fun a1 K1 => ?_)
  · have EC := E.const; have E8 := E.tmp 8 _ rfl; clear E K0; go_simp
  refine ltake (v := .slice x len cap) (w' := V) K1 rfl rfl (want_none rfl) (fun ev E => ?_) (fun a2 K2 => ?_)
  · have EC := E.const; have E1 := E.tmp 1 _ rfl; clear E K1; go_simp
  clear K1
  refine ltake (v := .int .i64 (len : Int)) (w' := V) K2 rfl rfl (want_none rfl) (fun ev E => ?_) (fun a3 K3 => ?_)
  · have EC := E.const; have E30 := E.tmp 30 _ rfl; clear E K2; go_simp
  clear K2
  refine ltake (v := .bool true) (w' := V) K3 rfl rfl (want_none rfl) (fun ev E => ?_) (fun a4 K4 => ?_)
  · have EC := E.const; have E29 := E.tmp 29 _ rfl; have E31 := E.tmp 31 _ rfl; clear E K3; go_simp
  clear K3
  refine ltake (v := .bool true) (w' := V) K4 rfl rfl (want_none rfl) (fun ev E => ?_) (fun a5 K5 => ?_)
  · have EC := E.const; have E32 := E.tmp 32 _ rfl; clear E K4; go_simp
  clear K4
  refine ltake (v := .int .i64 (m : Int)) (w' := V) K5 rfl rfl (want_some K5 rfl rfl rfl) (fun ev E => ?_) (fun a6 K6 => ?_)
  · have EC := E.const; have E8 := E.tmp 8 _ rfl; clear E K5; go_simp
  clear K5
  refine ltake (v := .bool false) (w' := V) K6 rfl rfl (want_some K6 rfl rfl rfl) (fun ev E => ?_) (fun a7 K7 => ?_)
  · have EC := E.const; have E34 := E.tmp 34 _ rfl; clear E K6; go_simp
  clear K6
  refine ltake (v := .bool false) (w' := V) K7 rfl rfl (want_none rfl) (fun ev E => ?_) (fun a8 K8 => ?_)
  · have EC := E.const; have E33 := E.tmp 33 _ rfl; have E35 := E.tmp 35 _ rfl; clear E K7; go_simp
  clear K7
  exact wpList_nil (hN _ _ (K8.less ⟨rfl, rfl, rfl, rfl, rfl, trivial⟩) rfl)
theorem rg8 {bx ox : Nat} {len cap m p q : Nat} {kd a b c : Int} {NX : Act → World → Prop} {a0 : Act} {V : World} (K0 : Kb a0 275 [(1, .slice (some ⟨bx, ox, none⟩) len cap), (6, .pointer (some ⟨p, 0, none⟩)), (7, .pointer (some ⟨q, 0, none⟩)), (8, .int .i64 (m : Int))]) (e1 : (m : Int) < (len : Int)) (e3 : (0 : Int) ≤ (m : Int)) (y0 : V.cell? ⟨bx, ox + m * 4, none⟩ = some (.int .i64 kd)) (y1 : V.cell? ⟨bx, ox + m * 4 + 1, none⟩ = some (.int .i64 a)) (y2 : V.cell? ⟨bx, ox + m * 4 + 2, none⟩ = some (.int .i64 b)) (y3 : V.cell? ⟨bx, ox + m * 4 + 3, none⟩ = some (.int .i64 c)) (hN : ∀ a' w', Kb a' 275 [(1, .slice (some ⟨bx, ox, none⟩) len cap), (6, .pointer (some ⟨p, 0, none⟩)), (7, .pointer (some ⟨q, 0, none⟩)), (8, .int .i64 (m : Int)), (9, .pointer (some ⟨V.heap.size, 0, none⟩))] → w' = V.alloc (.cells #[.int .i64 kd, .int .i64 a, .int .i64 b, .int .i64 c] 28) →  NX a' w') :
    (Code.region 8 OPS8.toArray false).wp Try.prog (Norm NX) a0 V := by
  refine wp_region_lit ?_
  refine ltake (v := .slice (some ⟨bx, ox, none⟩) len cap) (w' := V) K0 rfl rfl (want_none rfl) (fun ev E => ?_) (fun a1 K1 => ?_)
  · have EC := E.const; have E1 := E.tmp 1 _ rfl; clear E K0; go_simp
  refine ltake (v := .int .i64 (m : Int)) (w' := V) K1 rfl rfl (want_none rfl) (fun ev E => ?_) (fun a2 K2 => ?_)
  · have EC := E.const; have E8 := E.tmp 8 _ rfl; clear E K1; go_simp
  clear K1
  refine ltake (v := .pointer (some ⟨bx, ox + m * 4, none⟩)) (w' := V) K2 rfl rfl (want_none rfl) (fun ev E => ?_) (fun a3 K3 => ?_)
  · have EC := E.const; have E39 := E.tmp 39 _ rfl; have E40 := E.tmp 40 _ rfl; clear E K2; go_simp
  clear K2
  refine ltake (v := .agg #[.int .i64 kd, .int .i64 a, .int .i64 b, .int .i64 c]) (w' := V) K3 rfl rfl (want_none rfl) (fun ev E => ?_) (fun a4 K4 => ?_)
  · have EC := E.const; have E41 := E.tmp 41 _ rfl; clear E K3; go_simp
  clear K3
  refine ltake (v := .pointer (some ⟨V.heap.size, 0, none⟩)) (w' := V.alloc (.cells #[.int .i64 0, .int .i64 0, .int .i64 0, .int .i64 0] 28)) K4 rfl rfl (want_none rfl) (fun ev E => ?_) (fun a5 K5 => ?_)
  · have EC := E.const; clear E K4; go_simp
  clear K4
  refine lstore (w' := V.alloc (.cells #[.int .i64 kd, .int .i64 a, .int .i64 b, .int .i64 c] 28)) K5 rfl (want_none rfl) (fun ev E => ?_) ?_
  · have EC := E.const; have E9 := E.tmp 9 _ rfl; have E42 := E.tmp 42 _ rfl; clear E K5; go_simp
  have K6 := K5
  clear K5
  exact wpList_nil (hN _ _ (K6.less ⟨rfl, rfl, rfl, rfl, rfl, trivial⟩) rfl)
theorem rg9 {w : World} {p q b8 : Nat} {T : Se} {x : Option Addr} {len cap m : Nat} {kd a b c : Int} {NX : Act → World → Prop} {a0 : Act} {V : World} (K0 : Kb a0 275 [(1, .slice x len cap), (6, .pointer (some ⟨p, 0, none⟩)), (7, .pointer (some ⟨q, 0, none⟩)), (8, .int .i64 (m : Int)), (9, .pointer (some ⟨b8, 0, none⟩))]) (hN : ∀ a' w', Kb a' 275 [(1, .slice x len cap), (6, .pointer (some ⟨p, 0, none⟩)), (7, .pointer (some ⟨q, 0, none⟩)), (8, .int .i64 (m : Int)), (9, .pointer (some ⟨b8, 0, none⟩)), (10, .bool false), (11, .bool false)] → w' = V →  NX a' w') :
    (Code.region 9 OPS9.toArray false).wp Try.prog (Norm NX) a0 V := by
  refine wp_region_lit ?_
  refine ltake (v := .bool false) (w' := V) K0 rfl rfl (want_none rfl) (fun ev E => ?_) (fun a1 K1 => ?_)
  · have EC := E.const; clear E K0; go_simp
  refine ltake (v := .bool false) (w' := V) K1 rfl rfl (want_none rfl) (fun ev E => ?_) (fun a2 K2 => ?_)
  · have EC := E.const; clear E K1; go_simp
  clear K1
  exact wpList_nil (hN _ _ (K2.less ⟨rfl, rfl, rfl, rfl, rfl, rfl, rfl, trivial⟩) rfl)
theorem rg10 {w : World} {p q b8 : Nat} {T : Se} {x : Option Addr} {len cap m : Nat} {kd a b c : Int} {NX : Act → World → Prop} {a0 : Act} {V : World} (K0 : Kb a0 275 [(1, .slice x len cap), (6, .pointer (some ⟨p, 0, none⟩)), (7, .pointer (some ⟨q, 0, none⟩)), (8, .int .i64 (m : Int)), (9, .pointer (some ⟨b8, 0, none⟩)), (10, .bool false), (11, .bool false)]) (X : BoxAt V b8 #[.int .i64 kd, .int .i64 a, .int .i64 b, .int .i64 c] 28) (hN : ∀ a' w', Kb a' 275 [(1, .slice x len cap), (6, .pointer (some ⟨p, 0, none⟩)), (7, .pointer (some ⟨q, 0, none⟩)), (8, .int .i64 (m : Int)), (9, .pointer (some ⟨b8, 0, none⟩)), (10, .bool false), (11, .bool false), (44, .int .i64 kd)] → w' = V →  NX a' w') :
    (Code.region 10 OPS10.toArray false).wp Try.prog (Norm NX) a0 V := by
  refine wp_region_lit ?_
  refine ltake (v := .pointer (some ⟨b8, 0, none⟩)) (w' := V) K0 rfl rfl (want_none rfl) (fun ev E => ?_) (fun a1 K1 => ?_)
  · have EC := E.const; have E9 := E.tmp 9 _ rfl; clear E K0; go_simp
  refine ltake (v := .int .i64 kd) (w' := V) K1 rfl rfl (want_none rfl) (fun ev E => ?_) (fun a2 K2 => ?_)
  · have z0 : V.cell? ⟨b8, 0, none⟩ = some (.int .i64 kd) := (X.cell (o := 0) rfl).1; have EC := E.const; have E43 := E.tmp 43 _ rfl; clear E K1; go_simp
  clear K1
  exact wpList_nil (hN _ _ (K2.less ⟨rfl, rfl, rfl, rfl, rfl, rfl, rfl, rfl, trivial⟩) rfl)
theorem rg11t {w : World} {p q b8 : Nat} {T : Se} {x : Option Addr} {len cap m : Nat} {kd a b c : Int} {NX : Act → World → Prop} {a0 : Act} {V : World} (K0 : Kb a0 275 [(1, .slice x len cap), (6, .pointer (some ⟨p, 0, none⟩)), (7, .pointer (some ⟨q, 0, none⟩)), (8, .int .i64 (m : Int)), (9, .pointer (some ⟨b8, 0, none⟩)), (10, .bool false), (11, .bool false), (44, .int .i64 0)]) (hN : ∀ a' w', Kb a' 275 [(1, .slice x len cap), (6, .pointer (some ⟨p, 0, none⟩)), (7, .pointer (some ⟨q, 0, none⟩)), (8, .int .i64 (m : Int)), (9, .pointer (some ⟨b8, 0, none⟩)), (10, .bool false), (11, .bool false), (44, .int .i64 0), (45, .bool true)] → w' = V →  NX a' w') :
    (Code.region 11 OPS11.toArray false).wp Try.prog (Norm NX) a0 V := by
  refine wp_region_lit ?_
  refine ltake (v := .bool true) (w' := V) K0 rfl rfl (want_none rfl) (fun ev E => ?_) (fun a1 K1 => ?_)
  · have EC := E.const; have E44 := E.tmp 44 _ rfl; clear E K0; go_simp
  refine ltake (v := .bool true) (w' := V) K1 rfl rfl (want_none rfl) (fun ev E => ?_) (fun a2 K2 => ?_)
  · have EC := E.const; have E46 := E.tmp 46 _ rfl; clear E K1; go_simp
  clear K1
  exact wpList_nil (hN _ _ (K2.less ⟨rfl, rfl, rfl, rfl, rfl, rfl, rfl, rfl, rfl, trivial⟩) rfl)
theorem rg11f {w : World} {p q b8 : Nat} {T : Se} {x : Option Addr} {len cap m : Nat} {kd a b c : Int} {NX : Act → World → Prop} {a0 : Act} {V : World} (K0 : Kb a0 275 [(1, .slice x len cap), (6, .pointer (some ⟨p, 0, none⟩)), (7, .pointer (some ⟨q, 0, none⟩)), (8, .int .i64 (m : Int)), (9, .pointer (some ⟨b8, 0, none⟩)), (10, .bool false), (11, .bool false), (44, .int .i64 kd)]) (hq : (kd == 0) = false) (hN : ∀ a' w', Kb a' 275 [(1, .slice x len cap), (6, .pointer (some ⟨p, 0, none⟩)), (7, .pointer (some ⟨q, 0, none⟩)), (8, .int .i64 (m : Int)), (9, .pointer (some ⟨b8, 0, none⟩)), (10, .bool false), (11, .bool false), (44, .int .i64 kd), (45, .bool false)] → w' = V →  NX a' w') :
    (Code.region 11 OPS11.toArray false).wp Try.prog (Norm NX) a0 V := by
  refine wp_region_lit ?_
  refine ltake (v := .bool false) (w' := V) K0 rfl rfl (want_none rfl) (fun ev E => ?_) (fun a1 K1 => ?_)
  · have EC := E.const; have E44 := E.tmp 44 _ rfl; clear E K0; go_simp
  refine ltake (v := .bool false) (w' := V) K1 rfl rfl (want_none rfl) (fun ev E => ?_) (fun a2 K2 => ?_)
  · have EC := E.const; have E46 := E.tmp 46 _ rfl; clear E K1; go_simp
  clear K1
  exact wpList_nil (hN _ _ (K2.less ⟨rfl, rfl, rfl, rfl, rfl, rfl, rfl, rfl, rfl, trivial⟩) rfl)
theorem rg13t {w : World} {p q b8 : Nat} {T : Se} {x : Option Addr} {len cap m : Nat} {kd a b c : Int} {NX : Act → World → Prop} {a0 : Act} {V : World} (K0 : Kb a0 275 [(1, .slice x len cap), (6, .pointer (some ⟨p, 0, none⟩)), (7, .pointer (some ⟨q, 0, none⟩)), (8, .int .i64 (m : Int)), (9, .pointer (some ⟨b8, 0, none⟩)), (10, .bool false), (11, .bool false), (44, .int .i64 1)]) (hN : ∀ a' w', Kb a' 275 [(1, .slice x len cap), (6, .pointer (some ⟨p, 0, none⟩)), (7, .pointer (some ⟨q, 0, none⟩)), (8, .int .i64 (m : Int)), (9, .pointer (some ⟨b8, 0, none⟩)), (10, .bool false), (11, .bool false), (44, .int .i64 1), (59, .bool true)] → w' = V →  NX a' w') :
    (Code.region 13 OPS13.toArray false).wp Try.prog (Norm NX) a0 V := by
  refine wp_region_lit ?_
  refine ltake (v := .bool true) (w' := V) K0 rfl rfl (want_none rfl) (fun ev E => ?_) (fun a1 K1 => ?_)
  · have EC := E.const; have E44 := E.tmp 44 _ rfl; clear E K0; go_simp
  refine ltake (v := .bool true) (w' := V) K1 rfl rfl (want_none rfl) (fun ev E => ?_) (fun a2 K2 => ?_)
  · have EC := E.const; have E60 := E.tmp 60 _ rfl; clear E K1; go_simp
  clear K1
  exact wpList_nil (hN _ _ (K2.less ⟨rfl, rfl, rfl, rfl, rfl, rfl, rfl, rfl, rfl, trivial⟩) rfl)
theorem rg13f {w : World} {p q b8 : Nat} {T : Se} {x : Option Addr} {len cap m : Nat} {kd a b c : Int} {NX : Act → World → Prop} {a0 : Act} {V : World} (K0 : Kb a0 275 [(1, .slice x len cap), (6, .pointer (some ⟨p, 0, none⟩)), (7, .pointer (some ⟨q, 0, none⟩)), (8, .int .i64 (m : Int)), (9, .pointer (some ⟨b8, 0, none⟩)), (10, .bool false), (11, .bool false), (44, .int .i64 kd)]) (hq : (kd == 1) = false) (hN : ∀ a' w', Kb a' 275 [(1, .slice x len cap), (6, .pointer (some ⟨p, 0, none⟩)), (7, .pointer (some ⟨q, 0, none⟩)), (8, .int .i64 (m : Int)), (9, .pointer (some ⟨b8, 0, none⟩)), (10, .bool false), (11, .bool false), (44, .int .i64 kd), (59, .bool false)] → w' = V →  NX a' w') :
    (Code.region 13 OPS13.toArray false).wp Try.prog (Norm NX) a0 V := by
  refine wp_region_lit ?_
  refine ltake (v := .bool false) (w' := V) K0 rfl rfl (want_none rfl) (fun ev E => ?_) (fun a1 K1 => ?_)
  · have EC := E.const; have E44 := E.tmp 44 _ rfl; clear E K0; go_simp
  refine ltake (v := .bool false) (w' := V) K1 rfl rfl (want_none rfl) (fun ev E => ?_) (fun a2 K2 => ?_)
  · have EC := E.const; have E60 := E.tmp 60 _ rfl; clear E K1; go_simp
  clear K1
  exact wpList_nil (hN _ _ (K2.less ⟨rfl, rfl, rfl, rfl, rfl, rfl, rfl, rfl, rfl, trivial⟩) rfl)
theorem rg15t {w : World} {p q b8 : Nat} {T : Se} {x : Option Addr} {len cap m : Nat} {kd a b c : Int} {NX : Act → World → Prop} {a0 : Act} {V : World} (K0 : Kb a0 275 [(1, .slice x len cap), (6, .pointer (some ⟨p, 0, none⟩)), (7, .pointer (some ⟨q, 0, none⟩)), (8, .int .i64 (m : Int)), (9, .pointer (some ⟨b8, 0, none⟩)), (10, .bool false), (11, .bool false), (44, .int .i64 2)]) (hN : ∀ a' w', Kb a' 275 [(1, .slice x len cap), (6, .pointer (some ⟨p, 0, none⟩)), (7, .pointer (some ⟨q, 0, none⟩)), (8, .int .i64 (m : Int)), (9, .pointer (some ⟨b8, 0, none⟩)), (10, .bool false), (11, .bool false), (44, .int .i64 2), (69, .bool true)] → w' = V →  NX a' w') :
    (Code.region 15 OPS15.toArray false).wp Try.prog (Norm NX) a0 V := by
  refine wp_region_lit ?_
  refine ltake (v := .bool true) (w' := V) K0 rfl rfl (want_none rfl) (fun ev E => ?_) (fun a1 K1 => ?_)
  · have EC := E.const; have E44 := E.tmp 44 _ rfl; clear E K0; go_simp
  refine ltake (v := .bool true) (w' := V) K1 rfl rfl (want_none rfl) (fun ev E => ?_) (fun a2 K2 => ?_)
  · have EC := E.const; have E70 := E.tmp 70 _ rfl; clear E K1; go_simp
  clear K1
  exact wpList_nil (hN _ _ (K2.less ⟨rfl, rfl, rfl, rfl, rfl, rfl, rfl, rfl, rfl, trivial⟩) rfl)
theorem rg15f {w : World} {p q b8 : Nat} {T : Se} {x : Option Addr} {len cap m : Nat} {kd a b c : Int} {NX : Act → World → Prop} {a0 : Act} {V : World} (K0 : Kb a0 275 [(1, .slice x len cap), (6, .pointer (some ⟨p, 0, none⟩)), (7, .pointer (some ⟨q, 0, none⟩)), (8, .int .i64 (m : Int)), (9, .pointer (some ⟨b8, 0, none⟩)), (10, .bool false), (11, .bool false), (44, .int .i64 kd)]) (hq : (kd == 2) = false) (hN : ∀ a' w', Kb a' 275 [(1, .slice x len cap), (6, .pointer (some ⟨p, 0, none⟩)), (7, .pointer (some ⟨q, 0, none⟩)), (8, .int .i64 (m : Int)), (9, .pointer (some ⟨b8, 0, none⟩)), (10, .bool false), (11, .bool false), (44, .int .i64 kd), (69, .bool false)] → w' = V →  NX a' w') :
    (Code.region 15 OPS15.toArray false).wp Try.prog (Norm NX) a0 V := by
  refine wp_region_lit ?_
  refine ltake (v := .bool false) (w' := V) K0 rfl rfl (want_none rfl) (fun ev E => ?_) (fun a1 K1 => ?_)
  · have EC := E.const; have E44 := E.tmp 44 _ rfl; clear E K0; go_simp
  refine ltake (v := .bool false) (w' := V) K1 rfl rfl (want_none rfl) (fun ev E => ?_) (fun a2 K2 => ?_)
  · have EC := E.const; have E70 := E.tmp 70 _ rfl; clear E K1; go_simp
  clear K1
  exact wpList_nil (hN _ _ (K2.less ⟨rfl, rfl, rfl, rfl, rfl, rfl, rfl, rfl, rfl, trivial⟩) rfl)
theorem rg17t {w : World} {p q b8 : Nat} {T : Se} {x : Option Addr} {len cap m : Nat} {kd a b c : Int} {NX : Act → World → Prop} {a0 : Act} {V : World} (K0 : Kb a0 275 [(1, .slice x len cap), (6, .pointer (some ⟨p, 0, none⟩)), (7, .pointer (some ⟨q, 0, none⟩)), (8, .int .i64 (m : Int)), (9, .pointer (some ⟨b8, 0, none⟩)), (10, .bool false), (11, .bool false), (44, .int .i64 3)]) (hN : ∀ a' w', Kb a' 275 [(1, .slice x len cap), (6, .pointer (some ⟨p, 0, none⟩)), (7, .pointer (some ⟨q, 0, none⟩)), (8, .int .i64 (m : Int)), (9, .pointer (some ⟨b8, 0, none⟩)), (10, .bool false), (11, .bool false), (44, .int .i64 3), (79, .bool true)] → w' = V →  NX a' w') :
    (Code.region 17 OPS17.toArray false).wp Try.prog (Norm NX) a0 V := by
  refine wp_region_lit ?_
  refine ltake (v := .bool true) (w' := V) K0 rfl rfl (want_none rfl) (fun ev E => ?_) (fun a1 K1 => ?_)
  · have EC := E.const; have E44 := E.tmp 44 _ rfl; clear E K0; go_simp
  refine ltake (v := .bool true) (w' := V) K1 rfl rfl (want_none rfl) (fun ev E => ?_) (fun a2 K2 => ?_)
  · have EC := E.const; have E80 := E.tmp 80 _ rfl; clear E K1; go_simp
  clear K1
  exact wpList_nil (hN _ _ (K2.less ⟨rfl, rfl, rfl, rfl, rfl, rfl, rfl, rfl, rfl, trivial⟩) rfl)
theorem rg17f {w : World} {p q b8 : Nat} {T : Se} {x : Option Addr} {len cap m : Nat} {kd a b c : Int} {NX : Act → World → Prop} {a0 : Act} {V : World} (K0 : Kb a0 275 [(1, .slice x len cap), (6, .pointer (some ⟨p, 0, none⟩)), (7, .pointer (some ⟨q, 0, none⟩)), (8, .int .i64 (m : Int)), (9, .pointer (some ⟨b8, 0, none⟩)), (10, .bool false), (11, .bool false), (44, .int .i64 kd)]) (hq : (kd == 3) = false) (hN : ∀ a' w', Kb a' 275 [(1, .slice x len cap), (6, .pointer (some ⟨p, 0, none⟩)), (7, .pointer (some ⟨q, 0, none⟩)), (8, .int .i64 (m : Int)), (9, .pointer (some ⟨b8, 0, none⟩)), (10, .bool false), (11, .bool false), (44, .int .i64 kd), (79, .bool false)] → w' = V →  NX a' w') :
    (Code.region 17 OPS17.toArray false).wp Try.prog (Norm NX) a0 V := by
  refine wp_region_lit ?_
  refine ltake (v := .bool false) (w' := V) K0 rfl rfl (want_none rfl) (fun ev E => ?_) (fun a1 K1 => ?_)
  · have EC := E.const; have E44 := E.tmp 44 _ rfl; clear E K0; go_simp
  refine ltake (v := .bool false) (w' := V) K1 rfl rfl (want_none rfl) (fun ev E => ?_) (fun a2 K2 => ?_)
  · have EC := E.const; have E80 := E.tmp 80 _ rfl; clear E K1; go_simp
  clear K1
  exact wpList_nil (hN _ _ (K2.less ⟨rfl, rfl, rfl, rfl, rfl, rfl, rfl, rfl, rfl, trivial⟩) rfl)
theorem rg19t {w : World} {p q b8 : Nat} {T : Se} {x : Option Addr} {len cap m : Nat} {kd a b c : Int} {NX : Act → World → Prop} {a0 : Act} {V : World} (K0 : Kb a0 275 [(1, .slice x len cap), (6, .pointer (some ⟨p, 0, none⟩)), (7, .pointer (some ⟨q, 0, none⟩)), (8, .int .i64 (m : Int)), (9, .pointer (some ⟨b8, 0, none⟩)), (10, .bool false), (11, .bool false), (44, .int .i64 4)]) (hN : ∀ a' w', Kb a' 275 [(1, .slice x len cap), (6, .pointer (some ⟨p, 0, none⟩)), (7, .pointer (some ⟨q, 0, none⟩)), (8, .int .i64 (m : Int)), (9, .pointer (some ⟨b8, 0, none⟩)), (10, .bool false), (11, .bool false), (44, .int .i64 4), (93, .bool true)] → w' = V →  NX a' w') :
    (Code.region 19 OPS19.toArray false).wp Try.prog (Norm NX) a0 V := by
  refine wp_region_lit ?_
  refine ltake (v := .bool true) (w' := V) K0 rfl rfl (want_none rfl) (fun ev E => ?_) (fun a1 K1 => ?_)
  · have EC := E.const; have E44 := E.tmp 44 _ rfl; clear E K0; go_simp
  refine ltake (v := .bool true) (w' := V) K1 rfl rfl (want_none rfl) (fun ev E => ?_) (fun a2 K2 => ?_)
  · have EC := E.const; have E94 := E.tmp 94 _ rfl; clear E K1; go_simp
  clear K1
  exact wpList_nil (hN _ _ (K2.less ⟨rfl, rfl, rfl, rfl, rfl, rfl, rfl, rfl, rfl, trivial⟩) rfl)
theorem rg19f {w : World} {p q b8 : Nat} {T : Se} {x : Option Addr} {len cap m : Nat} {kd a b c : Int} {NX : Act → World → Prop} {a0 : Act} {V : World} (K0 : Kb a0 275 [(1, .slice x len cap), (6, .pointer (some ⟨p, 0, none⟩)), (7, .pointer (some ⟨q, 0, none⟩)), (8, .int .i64 (m : Int)), (9, .pointer (some ⟨b8, 0, none⟩)), (10, .bool false), (11, .bool false), (44, .int .i64 kd)]) (hq : (kd == 4) = false) (hN : ∀ a' w', Kb a' 275 [(1, .slice x len cap), (6, .pointer (some ⟨p, 0, none⟩)), (7, .pointer (some ⟨q, 0, none⟩)), (8, .int .i64 (m : Int)), (9, .pointer (some ⟨b8, 0, none⟩)), (10, .bool false), (11, .bool false), (44, .int .i64 kd), (93, .bool false)] → w' = V →  NX a' w') :
    (Code.region 19 OPS19.toArray false).wp Try.prog (Norm NX) a0 V := by
  refine wp_region_lit ?_
  refine ltake (v := .bool false) (w' := V) K0 rfl rfl (want_none rfl) (fun ev E => ?_) (fun a1 K1 => ?_)
  · have EC := E.const; have E44 := E.tmp 44 _ rfl; clear E K0; go_simp
  refine ltake (v := .bool false) (w' := V) K1 rfl rfl (want_none rfl) (fun ev E => ?_) (fun a2 K2 => ?_)
  · have EC := E.const; have E94 := E.tmp 94 _ rfl; clear E K1; go_simp
  clear K1
  exact wpList_nil (hN _ _ (K2.less ⟨rfl, rfl, rfl, rfl, rfl, rfl, rfl, rfl, rfl, trivial⟩) rfl)
theorem rg21t {w : World} {p q b8 : Nat} {T : Se} {x : Option Addr} {len cap m : Nat} {kd a b c : Int} {NX : Act → World → Prop} {a0 : Act} {V : World} (K0 : Kb a0 275 [(1, .slice x len cap), (6, .pointer (some ⟨p, 0, none⟩)), (7, .pointer (some ⟨q, 0, none⟩)), (8, .int .i64 (m : Int)), (9, .pointer (some ⟨b8, 0, none⟩)), (10, .bool false), (11, .bool false), (44, .int .i64 5)]) (hN : ∀ a' w', Kb a' 275 [(1, .slice x len cap), (6, .pointer (some ⟨p, 0, none⟩)), (7, .pointer (some ⟨q, 0, none⟩)), (8, .int .i64 (m : Int)), (9, .pointer (some ⟨b8, 0, none⟩)), (10, .bool false), (11, .bool false), (44, .int .i64 5), (107, .bool true)] → w' = V →  NX a' w') :
    (Code.region 21 OPS21.toArray false).wp Try.prog (Norm NX) a0 V := by
  refine wp_region_lit ?_
  refine ltake (v := .bool true) (w' := V) K0 rfl rfl (want_none rfl) (fun ev E => ?_) (fun a1 K1 => ?_)
  · have EC := E.const; have E44 := E.tmp 44 _ rfl; clear E K0; go_simp
  refine ltake (v := .bool true) (w' := V) K1 rfl rfl (want_none rfl) (fun ev E => ?_) (fun a2 K2 => ?_)
  · have EC := E.const; have E108 := E.tmp 108 _ rfl; clear E K1; go_simp
  clear K1
  exact wpList_nil (hN _ _ (K2.less ⟨rfl, rfl, rfl, rfl, rfl, rfl, rfl, rfl, rfl, trivial⟩) rfl)
theorem rg21f {w : World} {p q b8 : Nat} {T : Se} {x : Option Addr} {len cap m : Nat} {kd a b c : Int} {NX : Act → World → Prop} {a0 : Act} {V : World} (K0 : Kb a0 275 [(1, .slice x len cap), (6, .pointer (some ⟨p, 0, none⟩)), (7, .pointer (some ⟨q, 0, none⟩)), (8, .int .i64 (m : Int)), (9, .pointer (some ⟨b8, 0, none⟩)), (10, .bool false), (11, .bool false), (44, .int .i64 kd)]) (hq : (kd == 5) = false) (hN : ∀ a' w', Kb a' 275 [(1, .slice x len cap), (6, .pointer (some ⟨p, 0, none⟩)), (7, .pointer (some ⟨q, 0, none⟩)), (8, .int .i64 (m : Int)), (9, .pointer (some ⟨b8, 0, none⟩)), (10, .bool false), (11, .bool false), (44, .int .i64 kd), (107, .bool false)] → w' = V →  NX a' w') :
    (Code.region 21 OPS21.toArray false).wp Try.prog (Norm NX) a0 V := by
  refine wp_region_lit ?_
  refine ltake (v := .bool false) (w' := V) K0 rfl rfl (want_none rfl) (fun ev E => ?_) (fun a1 K1 => ?_)
  · have EC := E.const; have E44 := E.tmp 44 _ rfl; clear E K0; go_simp
  refine ltake (v := .bool false) (w' := V) K1 rfl rfl (want_none rfl) (fun ev E => ?_) (fun a2 K2 => ?_)
  · have EC := E.const; have E108 := E.tmp 108 _ rfl; clear E K1; go_simp
  clear K1
  exact wpList_nil (hN _ _ (K2.less ⟨rfl, rfl, rfl, rfl, rfl, rfl, rfl, rfl, rfl, trivial⟩) rfl)
theorem rg23 {w : World} {p q b8 : Nat} {T : Se} {x : Option Addr} {len cap m : Nat} {kd a b c : Int} {r : Bool} {NX : Act → World → Prop} {a0 : Act} {V : World} (K0 : Kb a0 275 [(1, .slice x len cap), (6, .pointer (some ⟨p, 0, none⟩)), (7, .pointer (some ⟨q, 0, none⟩)), (8, .int .i64 (m : Int)), (9, .pointer (some ⟨b8, 0, none⟩)), (10, .bool r), (11, .bool r)]) (H : Ob2 RfAt w V p q T T [b8]) (X : BoxAt V b8 #[.int .i64 kd, .int .i64 a, .int .i64 b, .int .i64 c] 28) (hN : ∀ a' (bs1 : Nat) w', Kb a' 275 [(1, .slice x len cap), (6, .pointer (some ⟨p, 0, none⟩)), (7, .pointer (some ⟨q, 0, none⟩)), (8, .int .i64 (m : Int)), (9, .pointer (some ⟨b8, 0, none⟩)), (10, .bool r), (11, .bool r), (12, .pointer (some ⟨bs1, 0, none⟩)), (13, .bool (T.okR a b))] → Ob2 RfAt w w' p q T T [bs1, b8] → BoxAt w' b8 #[.int .i64 kd, .int .i64 a, .int .i64 b, .int .i64 c] 28 → SumAt w' bs1 (T.rangeI a b) →  NX a' w') :
    (Code.region 23 OPS23.toArray false).wp Try.prog (Norm NX) a0 V := by
  refine wp_region_lit ?_
  refine ltake (v := .pointer (some ⟨p, 0, none⟩)) (w' := V) K0 rfl rfl (want_none rfl) (fun ev E => ?_) (fun a1 K1 => ?_)
  · have EC := E.const; have E6 := E.tmp 6 _ rfl; clear E K0; go_simp
  refine ltake (v := .pointer (some ⟨b8, 1, none⟩)) (w' := V) K1 rfl rfl (want_none rfl) (fun ev E => ?_) (fun a2 K2 => ?_)
  · have EC := E.const; have E9 := E.tmp 9 _ rfl; clear E K1; go_simp
  clear K1
  refine ltake (v := .int .i64 a) (w' := V) K2 rfl rfl (want_none rfl) (fun ev E => ?_) (fun a3 K3 => ?_)
  · have z1 : V.cell? ⟨b8, 1, none⟩ = some (.int .i64 a) := (X.cell (o := 1) rfl).1; have EC := E.const; have E127 := E.tmp 127 _ rfl; clear E K2; go_simp
  clear K2
  refine ltake (v := .pointer (some ⟨b8, 2, none⟩)) (w' := V) K3 rfl rfl (want_none rfl) (fun ev E => ?_) (fun a4 K4 => ?_)
  · have EC := E.const; have E9 := E.tmp 9 _ rfl; clear E K3; go_simp
  clear K3
  refine ltake (v := .int .i64 b) (w' := V) K4 rfl rfl (want_none rfl) (fun ev E => ?_) (fun a5 K5 => ?_)
  · have z2 : V.cell? ⟨b8, 2, none⟩ = some (.int .i64 b) := (X.cell (o := 2) rfl).1; have EC := E.const; have E129 := E.tmp 129 _ rfl; clear E K4; go_simp
  clear K4
  refine lcall (f := 25) (args := #[.pointer (some ⟨p, 0, none⟩), .int .i64 a, .int .i64 b]) K5 rfl rfl (want_none rfl) (fun ev E => ?_) (H.fst Rf.lies fun _ ha => aRange _ _ ha) (fun e V1 hR => ?_)
  · have EC := E.const; have EF := E.func; have E126 := E.tmp 126 _ rfl; have E128 := E.tmp 128 _ rfl; have E130 := E.tmp 130 _ rfl; clear E K5; go_simp
  obtain ⟨rfl, h6, k6⟩ := hR
  replace X := X.kept k6 (by simp)
  replace H := h6
  clear h6 k6
  refine ⟨_, rfl, fun a6 K6 => ?_⟩
  clear K5
  refine ltake (v := .tuple #[smV (T.rangeI a b), .bool (T.okR a b)]) (w' := V1) K6 rfl rfl (want_none rfl) (fun ev E => ?_) (fun a7 K7 => ?_)
  · have EC := E.const; have E131 := E.tmp 131 _ rfl; clear E K6; go_simp
  clear K6
  refine ltake (v := .agg #[.int .i64 (T.rangeI a b).c, .int .i64 (T.rangeI a b).s, .int .i64 (T.rangeI a b).a, .int .i64 (T.rangeI a b).b]) (w' := V1) K7 rfl rfl (want_none rfl) (fun ev E => ?_) (fun a8 K8 => ?_)
  · have EC := E.const; have E125 := E.tmp 125 _ rfl; clear E K7; simp [smV, go_sem, *]
  clear K7
  refine ltake (v := .bool (T.okR a b)) (w' := V1) K8 rfl rfl (want_none rfl) (fun ev E => ?_) (fun a9 K9 => ?_)
  · have EC := E.const; have E125 := E.tmp 125 _ rfl; clear E K8; go_simp
  clear K8
  refine ltake (v := .pointer (some ⟨V1.heap.size, 0, none⟩)) (w' := V1.alloc (.cells #[.int .i64 0, .int .i64 0, .int .i64 0, .int .i64 0] 33)) K9 rfl rfl (want_none rfl) (fun ev E => ?_) (fun a10 K10 => ?_)
  · have EC := E.const; clear E K9; go_simp
  clear K9
  refine lstore (w' := V1.alloc (.cells #[.int .i64 (T.rangeI a b).c, .int .i64 (T.rangeI a b).s, .int .i64 (T.rangeI a b).a, .int .i64 (T.rangeI a b).b] 33)) K10 rfl (want_none rfl) (fun ev E => ?_) ?_
  · have EC := E.const; have E12 := E.tmp 12 _ rfl; have E132 := E.tmp 132 _ rfl; clear E K10; go_simp
  have K11 := K10
  clear K10
  refine ltake (v := .bool (T.okR a b)) (w' := V1.alloc (.cells #[.int .i64 (T.rangeI a b).c, .int .i64 (T.rangeI a b).s, .int .i64 (T.rangeI a b).a, .int .i64 (T.rangeI a b).b] 33)) K11 rfl rfl (want_none rfl) (fun ev E => ?_) (fun a12 K12 => ?_)
  · have EC := E.const; have E133 := E.tmp 133 _ rfl; clear E K11; go_simp
  clear K11
  exact wpList_nil (hN _ V1.heap.size _ (K12.less ⟨rfl, rfl, rfl, rfl, rfl, rfl, rfl, rfl, rfl, trivial⟩) (H.push Rf.lies (.cells #[.int .i64 (T.rangeI a b).c, .int .i64 (T.rangeI a b).s, .int .i64 (T.rangeI a b).a, .int .i64 (T.rangeI a b).b] 33)) (X.kept (H.alloc Rf.lies (.cells #[.int .i64 (T.rangeI a b).c, .int .i64 (T.rangeI a b).s, .int .i64 (T.rangeI a b).a, .int .i64 (T.rangeI a b).b] 33)).2 (by simp)) (SumAt.new V1 33 _ _ _ _))
theorem rg24 {w : World} {p q b8 : Nat} {T : Se} {x : Option Addr} {len cap m : Nat} {kd a b c : Int} {r : Bool} {bs1 : Nat} {NX : Act → World → Prop} {a0 : Act} {V : World} (K0 : Kb a0 275 [(1, .slice x len cap), (6, .pointer (some ⟨p, 0, none⟩)), (7, .pointer (some ⟨q, 0, none⟩)), (8, .int .i64 (m : Int)), (9, .pointer (some ⟨b8, 0, none⟩)), (10, .bool r), (11, .bool r), (12, .pointer (some ⟨bs1, 0, none⟩)), (13, .bool (T.okR a b))]) (H : Ob2 RfAt w V p q T T [bs1, b8]) (X : BoxAt V b8 #[.int .i64 kd, .int .i64 a, .int .i64 b, .int .i64 c] 28) (S1 : SumAt V bs1 (T.rangeI a b)) (hN : ∀ a' (bs2 : Nat) w', Kb a' 275 [(1, .slice x len cap), (6, .pointer (some ⟨p, 0, none⟩)), (7, .pointer (some ⟨q, 0, none⟩)), (8, .int .i64 (m : Int)), (9, .pointer (some ⟨b8, 0, none⟩)), (10, .bool r), (11, .bool r), (12, .pointer (some ⟨bs1, 0, none⟩)), (13, .bool (T.okR a b)), (14, .pointer (some ⟨bs2, 0, none⟩)), (15, .bool (T.okR a b))] → Ob2 RfAt w w' p q T T [bs2, bs1, b8] → BoxAt w' b8 #[.int .i64 kd, .int .i64 a, .int .i64 b, .int .i64 c] 28 → SumAt w' bs1 (T.rangeI a b) → SumAt w' bs2 (T.rangeI a b) →  NX a' w') :
    (Code.region 24 OPS24.toArray false).wp Try.prog (Norm NX) a0 V := by
  refine wp_region_lit ?_
  refine ltake (v := .pointer (some ⟨q, 0, none⟩)) (w' := V) K0 rfl rfl (want_none rfl) (fun ev E => ?_) (fun a1 K1 => ?_)
  · have EC := E.const; have E7 := E.tmp 7 _ rfl; clear E K0; go_simp
  refine ltake (v := .pointer (some ⟨b8, 1, none⟩)) (w' := V) K1 rfl rfl (want_none rfl) (fun ev E => ?_) (fun a2 K2 => ?_)
  · have EC := E.const; have E9 := E.tmp 9 _ rfl; clear E K1; go_simp
  clear K1
  refine ltake (v := .int .i64 a) (w' := V) K2 rfl rfl (want_none rfl) (fun ev E => ?_) (fun a3 K3 => ?_)
  · have z1 : V.cell? ⟨b8, 1, none⟩ = some (.int .i64 a) := (X.cell (o := 1) rfl).1; have EC := E.const; have E136 := E.tmp 136 _ rfl; clear E K2; go_simp
  clear K2
  refine ltake (v := .pointer (some ⟨b8, 2, none⟩)) (w' := V) K3 rfl rfl (want_none rfl) (fun ev E => ?_) (fun a4 K4 => ?_)
  · have EC := E.const; have E9 := E.tmp 9 _ rfl; clear E K3; go_simp
  clear K3
  refine ltake (v := .int .i64 b) (w' := V) K4 rfl rfl (want_none rfl) (fun ev E => ?_) (fun a5 K5 => ?_)
  · have z2 : V.cell? ⟨b8, 2, none⟩ = some (.int .i64 b) := (X.cell (o := 2) rfl).1; have EC := E.const; have E138 := E.tmp 138 _ rfl; clear E K4; go_simp
  clear K4
  refine lcall (f := 26) (args := #[.pointer (some ⟨q, 0, none⟩), .int .i64 a, .int .i64 b]) K5 rfl rfl (want_none rfl) (fun ev E => ?_) (H.snd Rf.lies fun _ ha => xRange _ _ ha) (fun e V1 hR => ?_)
  · have EC := E.const; have EF := E.func; have E135 := E.tmp 135 _ rfl; have E137 := E.tmp 137 _ rfl; have E139 := E.tmp 139 _ rfl; clear E K5; go_simp
  obtain ⟨rfl, h6, k6⟩ := hR
  replace X := X.kept k6 (by simp)
  replace S1 := S1.kept k6 (by simp)
  replace H := h6
  clear h6 k6
  refine ⟨_, rfl, fun a6 K6 => ?_⟩
  clear K5
  refine ltake (v := .tuple #[smV (T.rangeI a b), .bool (T.okR a b)]) (w' := V1) K6 rfl rfl (want_none rfl) (fun ev E => ?_) (fun a7 K7 => ?_)
  · have EC := E.const; have E140 := E.tmp 140 _ rfl; clear E K6; go_simp
  clear K6
  refine ltake (v := .agg #[.int .i64 (T.rangeI a b).c, .int .i64 (T.rangeI a b).s, .int .i64 (T.rangeI a b).a, .int .i64 (T.rangeI a b).b]) (w' := V1) K7 rfl rfl (want_none rfl) (fun ev E => ?_) (fun a8 K8 => ?_)
  · have EC := E.const; have E134 := E.tmp 134 _ rfl; clear E K7; simp [smV, go_sem, *]
  clear K7
  refine ltake (v := .bool (T.okR a b)) (w' := V1) K8 rfl rfl (want_none rfl) (fun ev E => ?_) (fun a9 K9 => ?_)
  · have EC := E.const; have E134 := E.tmp 134 _ rfl; clear E K8; go_simp
  clear K8
  refine ltake (v := .pointer (some ⟨V1.heap.size, 0, none⟩)) (w' := V1.alloc (.cells #[.int .i64 0, .int .i64 0, .int .i64 0, .int .i64 0] 33)) K9 rfl rfl (want_none rfl) (fun ev E => ?_) (fun a10 K10 => ?_)
  · have EC := E.const; clear E K9; go_simp
  clear K9
  refine lstore (w' := V1.alloc (.cells #[.int .i64 (T.rangeI a b).c, .int .i64 (T.rangeI a b).s, .int .i64 (T.rangeI a b).a, .int .i64 (T.rangeI a b).b] 33)) K10 rfl (want_none rfl) (fun ev E => ?_) ?_
  · have EC := E.const; have E14 := E.tmp 14 _ rfl; have E141 := E.tmp 141 _ rfl; clear E K10; go_simp
  have K11 := K10
  clear K10
  refine ltake (v := .bool (T.okR a b)) (w' := V1.alloc (.cells #[.int .i64 (T.rangeI a b).c, .int .i64 (T.rangeI a b).s, .int .i64 (T.rangeI a b).a, .int .i64 (T.rangeI a b).b] 33)) K11 rfl rfl (want_none rfl) (fun ev E => ?_) (fun a12 K12 => ?_)
  · have EC := E.const; have E142 := E.tmp 142 _ rfl; clear E K11; go_simp
  clear K11
  exact wpList_nil (hN _ V1.heap.size _ (K12.less ⟨rfl, rfl, rfl, rfl, rfl, rfl, rfl, rfl, rfl, rfl, rfl, trivial⟩) (H.push Rf.lies (.cells #[.int .i64 (T.rangeI a b).c, .int .i64 (T.rangeI a b).s, .int .i64 (T.rangeI a b).a, .int .i64 (T.rangeI a b).b] 33)) (X.kept (H.alloc Rf.lies (.cells #[.int .i64 (T.rangeI a b).c, .int .i64 (T.rangeI a b).s, .int .i64 (T.rangeI a b).a, .int .i64 (T.rangeI a b).b] 33)).2 (by simp)) (S1.kept (H.alloc Rf.lies (.cells #[.int .i64 (T.rangeI a b).c, .int .i64 (T.rangeI a b).s, .int .i64 (T.rangeI a b).a, .int .i64 (T.rangeI a b).b] 33)).2 (by simp)) (SumAt.new V1 33 _ _ _ _))
theorem rg25 {w : World} {p q b8 : Nat} {T : Se} {x : Option Addr} {len cap m : Nat} {kd a b c : Int} {r : Bool} {bs1 bs2 : Nat} {NX : Act → World → Prop} {a0 : Act} {V : World} (K0 : Kb a0 275 [(1, .slice x len cap), (6, .pointer (some ⟨p, 0, none⟩)), (7, .pointer (some ⟨q, 0, none⟩)), (8, .int .i64 (m : Int)), (9, .pointer (some ⟨b8, 0, none⟩)), (10, .bool r), (11, .bool r), (12, .pointer (some ⟨bs1, 0, none⟩)), (13, .bool (T.okR a b)), (14, .pointer (some ⟨bs2, 0, none⟩)), (15, .bool (T.okR a b))]) (H : Ob2 RfAt w V p q T T [bs2, bs1, b8]) (X : BoxAt V b8 #[.int .i64 kd, .int .i64 a, .int .i64 b, .int .i64 c] 28) (S1 : SumAt V bs1 (T.rangeI a b)) (S2 : SumAt V bs2 (T.rangeI a b)) (hN : ∀ a' w', Kb a' 275 [(1, .slice x len cap), (6, .pointer (some ⟨p, 0, none⟩)), (7, .pointer (some ⟨q, 0, none⟩)), (8, .int .i64 (m : Int)), (9, .pointer (some ⟨b8, 0, none⟩)), (10, .bool r), (11, .bool r), (12, .pointer (some ⟨bs1, 0, none⟩)), (13, .bool (T.okR a b)), (14, .pointer (some ⟨bs2, 0, none⟩)), (15, .bool (T.okR a b)), (16, .int .i64 (T.getI a)), (17, .bool (T.hasI a))] → Ob2 RfAt w w' p q T T [bs2, bs1, b8] → BoxAt w' b8 #[.int .i64 kd, .int .i64 a, .int .i64 b, .int .i64 c] 28 → SumAt w' bs1 (T.rangeI a b) → SumAt w' bs2 (T.rangeI a b) →  NX a' w') :
    (Code.region 25 OPS25.toArray false).wp Try.prog (Norm NX) a0 V := by
  refine wp_region_lit ?_
  refine ltake (v := .pointer (some ⟨p, 0, none⟩)) (w' := V) K0 rfl rfl (want_none rfl) (fun ev E => ?_) (fun a1 K1 => ?_)
  · have EC := E.const; have E6 := E.tmp 6 _ rfl; clear E K0; go_simp
  refine ltake (v := .pointer (some ⟨b8, 1, none⟩)) (w' := V) K1 rfl rfl (want_none rfl) (fun ev E => ?_) (fun a2 K2 => ?_)
  · have EC := E.const; have E9 := E.tmp 9 _ rfl; clear E K1; go_simp
  clear K1
  refine ltake (v := .int .i64 a) (w' := V) K2 rfl rfl (want_none rfl) (fun ev E => ?_) (fun a3 K3 => ?_)
  · have z1 : V.cell? ⟨b8, 1, none⟩ = some (.int .i64 a) := (X.cell (o := 1) rfl).1; have EC := E.const; have E145 := E.tmp 145 _ rfl; clear E K2; go_simp
  clear K2
  refine lcall (f := 27) (args := #[.pointer (some ⟨p, 0, none⟩), .int .i64 a]) K3 rfl rfl (want_none rfl) (fun ev E => ?_) (H.fst Rf.lies fun _ ha => aGet _ ha) (fun e V1 hR => ?_)
  · have EC := E.const; have EF := E.func; have E144 := E.tmp 144 _ rfl; have E146 := E.tmp 146 _ rfl; clear E K3; go_simp
  obtain ⟨rfl, h6, k6⟩ := hR
  replace X := X.kept k6 (by simp)
  replace S1 := S1.kept k6 (by simp)
  replace S2 := S2.kept k6 (by simp)
  replace H := h6
  clear h6 k6
  refine ⟨_, rfl, fun a4 K4 => ?_⟩
  clear K3
  refine ltake (v := .tuple #[.int .i64 (T.getI a), .bool (T.hasI a)]) (w' := V1) K4 rfl rfl (want_none rfl) (fun ev E => ?_) (fun a5 K5 => ?_)
  · have EC := E.const; have E147 := E.tmp 147 _ rfl; clear E K4; go_simp
  clear K4
  refine ltake (v := .int .i64 (T.getI a)) (w' := V1) K5 rfl rfl (want_none rfl) (fun ev E => ?_) (fun a6 K6 => ?_)
  · have EC := E.const; have E143 := E.tmp 143 _ rfl; clear E K5; go_simp
  clear K5
  refine ltake (v := .bool (T.hasI a)) (w' := V1) K6 rfl rfl (want_none rfl) (fun ev E => ?_) (fun a7 K7 => ?_)
  · have EC := E.const; have E143 := E.tmp 143 _ rfl; clear E K6; go_simp
  clear K6
  refine ltake (v := .int .i64 (T.getI a)) (w' := V1) K7 rfl rfl (want_none rfl) (fun ev E => ?_) (fun a8 K8 => ?_)
  · have EC := E.const; have E148 := E.tmp 148 _ rfl; clear E K7; go_simp
  clear K7
  refine ltake (v := .bool (T.hasI a)) (w' := V1) K8 rfl rfl (want_none rfl) (fun ev E => ?_) (fun a9 K9 => ?_)
  · have EC := E.const; have E149 := E.tmp 149 _ rfl; clear E K8; go_simp
  clear K8
  exact wpList_nil (hN _ _ (K9.less ⟨rfl, rfl, rfl, rfl, rfl, rfl, rfl, rfl, rfl, rfl, rfl, rfl, rfl, trivial⟩) H X S1 S2)
theorem rg26 {w : World} {p q b8 : Nat} {T : Se} {x : Option Addr} {len cap m : Nat} {kd a b c : Int} {r : Bool} {bs1 bs2 : Nat} {NX : Act → World → Prop} {a0 : Act} {V : World} (K0 : Kb a0 275 [(1, .slice x len cap), (6, .pointer (some ⟨p, 0, none⟩)), (7, .pointer (some ⟨q, 0, none⟩)), (8, .int .i64 (m : Int)), (9, .pointer (some ⟨b8, 0, none⟩)), (10, .bool r), (11, .bool r), (12, .pointer (some ⟨bs1, 0, none⟩)), (13, .bool (T.okR a b)), (14, .pointer (some ⟨bs2, 0, none⟩)), (15, .bool (T.okR a b)), (16, .int .i64 (T.getI a)), (17, .bool (T.hasI a))]) (H : Ob2 RfAt w V p q T T [bs2, bs1, b8]) (X : BoxAt V b8 #[.int .i64 kd, .int .i64 a, .int .i64 b, .int .i64 c] 28) (S1 : SumAt V bs1 (T.rangeI a b)) (S2 : SumAt V bs2 (T.rangeI a b)) (hN : ∀ a' w', Kb a' 275 [(1, .slice x len cap), (6, .pointer (some ⟨p, 0, none⟩)), (7, .pointer (some ⟨q, 0, none⟩)), (8, .int .i64 (m : Int)), (9, .pointer (some ⟨b8, 0, none⟩)), (10, .bool r), (11, .bool r), (12, .pointer (some ⟨bs1, 0, none⟩)), (13, .bool (T.okR a b)), (14, .pointer (some ⟨bs2, 0, none⟩)), (15, .bool (T.okR a b)), (16, .int .i64 (T.getI a)), (17, .bool (T.hasI a)), (18, .int .i64 (T.getI a)), (19, .bool (T.hasI a))] → Ob2 RfAt w w' p q T T [bs2, bs1, b8] → BoxAt w' b8 #[.int .i64 kd, .int .i64 a, .int .i64 b, .int .i64 c] 28 → SumAt w' bs1 (T.rangeI a b) → SumAt w' bs2 (T.rangeI a b) →  NX a' w') :
    (Code.region 26 OPS26.toArray false).wp Try.prog (Norm NX) a0 V := by
  refine wp_region_lit ?_
  refine ltake (v := .pointer (some ⟨q, 0, none⟩)) (w' := V) K0 rfl rfl (want_none rfl) (fun ev E => ?_) (fun a1 K1 => ?_)
  · have EC := E.const; have E7 := E.tmp 7 _ rfl; clear E K0; go_simp
  refine ltake (v := .pointer (some ⟨b8, 1, none⟩)) (w' := V) K1 rfl rfl (want_none rfl) (fun ev E => ?_) (fun a2 K2 => ?_)
  · have EC := E.const; have E9 := E.tmp 9 _ rfl; clear E K1; go_simp
  clear K1
  refine ltake (v := .int .i64 a) (w' := V) K2 rfl rfl (want_none rfl) (fun ev E => ?_) (fun a3 K3 => ?_)
  · have z1 : V.cell? ⟨b8, 1, none⟩ = some (.int .i64 a) := (X.cell (o := 1) rfl).1; have EC := E.const; have E152 := E.tmp 152 _ rfl; clear E K2; go_simp
  clear K2
  refine lcall (f := 28) (args := #[.pointer (some ⟨q, 0, none⟩), .int .i64 a]) K3 rfl rfl (want_none rfl) (fun ev E => ?_) (H.snd Rf.lies fun _ ha => xGet _ ha) (fun e V1 hR => ?_)
  · have EC := E.const; have EF := E.func; have E151 := E.tmp 151 _ rfl; have E153 := E.tmp 153 _ rfl; clear E K3; go_simp
  obtain ⟨rfl, h6, k6⟩ := hR
  replace X := X.kept k6 (by simp)
  replace S1 := S1.kept k6 (by simp)
  replace S2 := S2.kept k6 (by simp)
  replace H := h6
  clear h6 k6
  refine ⟨_, rfl, fun a4 K4 => ?_⟩
  clear K3
  refine ltake (v := .tuple #[.int .i64 (T.getI a), .bool (T.hasI a)]) (w' := V1) K4 rfl rfl (want_none rfl) (fun ev E => ?_) (fun a5 K5 => ?_)
  · have EC := E.const; have E154 := E.tmp 154 _ rfl; clear E K4; go_simp
  clear K4
  refine ltake (v := .int .i64 (T.getI a)) (w' := V1) K5 rfl rfl (want_none rfl) (fun ev E => ?_) (fun a6 K6 => ?_)
  · have EC := E.const; have E150 := E.tmp 150 _ rfl; clear E K5; go_simp
  clear K5
  refine ltake (v := .bool (T.hasI a)) (w' := V1) K6 rfl rfl (want_none rfl) (fun ev E => ?_) (fun a7 K7 => ?_)
  · have EC := E.const; have E150 := E.tmp 150 _ rfl; clear E K6; go_simp
  clear K6
  refine ltake (v := .int .i64 (T.getI a)) (w' := V1) K7 rfl rfl (want_none rfl) (fun ev E => ?_) (fun a8 K8 => ?_)
  · have EC := E.const; have E155 := E.tmp 155 _ rfl; clear E K7; go_simp
  clear K7
  refine ltake (v := .bool (T.hasI a)) (w' := V1) K8 rfl rfl (want_none rfl) (fun ev E => ?_) (fun a9 K9 => ?_)
  · have EC := E.const; have E156 := E.tmp 156 _ rfl; clear E K8; go_simp
  clear K8
  exact wpList_nil (hN _ _ (K9.less ⟨rfl, rfl, rfl, rfl, rfl, rfl, rfl, rfl, rfl, rfl, rfl, rfl, rfl, rfl, rfl, trivial⟩) H X S1 S2)
theorem rg7 {x : Option Addr} {len cap m p q : Nat} {NX : Act → World → Prop} {a0 : Act} {V : World} (K0 : Kb a0 275 [(1, .slice x len cap), (6, .pointer (some ⟨p, 0, none⟩)), (7, .pointer (some ⟨q, 0, none⟩)), (8, .int .i64 (m : Int))]) (hm : m < 200) (hN : ∀ a' w', Kb a' 275 [(1, .slice x len cap), (6, .pointer (some ⟨p, 0, none⟩)), (7, .pointer (some ⟨q, 0, none⟩)), (8, .int .i64 ((m + 1 : Nat) : Int))] → w' = V →  NX a' w') :
    (Code.region 7 OPS7.toArray false).wp Try.prog (Norm NX) a0 V := by
  refine wp_region_lit ?_
  refine ltake (v := .int .i64 (m : Int)) (w' := V) K0 rfl rfl (want_none rfl) (fun ev E => ?_) (fun a1 K1 => ?_)
  · have EC := E.const; have E8 := E.tmp 8 _ rfl; clear E K0; go_simp
  refine ltake (v := .int .i64 ((m + 1 : Nat) : Int)) (w' := V) K1 rfl rfl (want_none rfl) (fun ev E => ?_) (fun a2 K2 => ?_)
  · have hw := IntWalk.i64_in ((m : Int) + 1) (by omega); have EC := E.const; have E37 := E.tmp 37 _ rfl; clear E K1; simp [go_sem, *]
  clear K1
  refine ltake (v := .int .i64 ((m + 1 : Nat) : Int)) (w' := V) K2 rfl rfl (want_none rfl) (fun ev E => ?_) (fun a3 K3 => ?_)
  · have EC := E.const; have E38 := E.tmp 38 _ rfl; clear E K2; go_simp
  clear K2
  exact wpList_nil (hN _ _ (K3.less ⟨rfl, rfl, rfl, rfl, trivial⟩) rfl)
theorem rg0 {n : Nat} {x : Option Addr} {len cap : Nat} {w : World} {NX : Act → World → Prop} {a0 : Act} {V : World} (K0 : Kb a0 275 [(0, .int .u8 (n : Int)), (1, .slice x len cap)]) (hN : ∀ a' w', Kb a' 275 [(0, .int .u8 (n : Int)), (1, .slice x len cap)] → w' = V →  NX a' w') :
    (Code.region 0 OPS0.toArray false).wp Try.prog (Norm NX) a0 V := by
  refine wp_region_lit ?_
  refine ltake (v := .bool false) (w' := V) K0 rfl rfl (want_none rfl) (fun ev E => ?_) (fun a1 K1 => ?_)
  · have EC := E.const; clear E K0; go_simp
  exact wpList_nil (hN _ _ (K1.less ⟨rfl, rfl, trivial⟩) rfl)
theorem rg1 {n : Nat} {x : Option Addr} {len cap : Nat} {w : World} {NX : Act → World → Prop} {a0 : Act} {V : World} (K0 : Kb a0 275 [(0, .int .u8 (n : Int)), (1, .slice x len cap)]) (hn : n ≤ 255) (hN : ∀ a' w', Kb a' 275 [(1, .slice x len cap), (5, .int .i64 ((n % 61 : Nat) : Int))] → w' = V →  NX a' w') :
    (Code.region 1 OPS1.toArray false).wp Try.prog (Norm NX) a0 V := by
  refine wp_region_lit ?_
  refine ltake (v := .int .u8 (n : Int)) (w' := V) K0 rfl rfl (want_none rfl) (fun ev E => ?_) (fun a1 K1 => ?_)
  · have EC := E.const; have E0 := E.tmp 0 _ rfl; clear E K0; go_simp
  refine ltake (v := .int .u8 ((n % 61 : Nat) : Int)) (w' := V) K1 rfl rfl (want_none rfl) (fun ev E => ?_) (fun a2 K2 => ?_)
  · have htm : Int.tmod (n : Int) 61 = ((n % 61 : Nat) : Int) := rfl; have hr : n % 61 < 61 := Nat.mod_lt _ (by decide); have hw8 := IntWalk.u8_in ((n % 61 : Nat) : Int) (by omega); generalize n % 61 = r at *; have EC := E.const; have E20 := E.tmp 20 _ rfl; clear E K1; first | (go_simp; done) | (simp [go_sem, *]; done) | (simp [go_sem, *]; omega)
  clear K1
  refine ltake (v := .int .i64 ((n % 61 : Nat) : Int)) (w' := V) K2 rfl rfl (want_none rfl) (fun ev E => ?_) (fun a3 K3 => ?_)
  · have hr : n % 61 < 61 := Nat.mod_lt _ (by decide); have hw8 := IntWalk.i64_in ((n % 61 : Nat) : Int) (by omega); generalize n % 61 = r at *; have EC := E.const; have E21 := E.tmp 21 _ rfl; clear E K2; first | (go_simp; done) | (simp [go_sem, *]; done) | (simp [go_sem, *]; omega)
  clear K2
  refine ltake (v := .int .i64 ((n % 61 : Nat) : Int)) (w' := V) K3 rfl rfl (want_none rfl) (fun ev E => ?_) (fun a4 K4 => ?_)
  · have EC := E.const; have E22 := E.tmp 22 _ rfl; clear E K3; go_simp
  clear K3
  exact wpList_nil (hN _ _ (K4.less ⟨rfl, rfl, trivial⟩) rfl)
theorem rg2 {n : Nat} {x : Option Addr} {len cap : Nat} {w : World} {NX : Act → World → Prop} {a0 : Act} {V : World} (K0 : Kb a0 275 [(1, .slice x len cap), (5, .int .i64 ((n % 61 : Nat) : Int))]) (hn : n ≤ 255) (hb : Below w.heap.size w V) (hN : ∀ a' (p q : Nat) w', Kb a' 275 [(1, .slice x len cap), (6, .pointer (some ⟨p, 0, none⟩)), (7, .pointer (some ⟨q, 0, none⟩))] → Ob2 RfAt w w' p q (Se.new (n % 61)) (Se.new (n % 61)) [] →  NX a' w') :
    (Code.region 2 OPS2.toArray false).wp Try.prog (Norm NX) a0 V := by
  refine wp_region_lit ?_
  refine ltake (v := .int .i64 ((n % 61 : Nat) : Int)) (w' := V) K0 rfl rfl (want_none rfl) (fun ev E => ?_) (fun a1 K1 => ?_)
  · have EC := E.const; have E5 := E.tmp 5 _ rfl; clear E K0; go_simp
  refine lcall (f := 11) (args := #[.int .i64 ((n % 61 : Nat) : Int)]) K1 rfl rfl (want_none rfl) (fun ev E => ?_) (oNew (w := w) (js := []) (n % 61) _ hb (by simp) (by omega)) (fun e V2 hR => ?_)
  · have EC := E.const; have EF := E.func; have E23 := E.tmp 23 _ rfl; clear E K1; go_simp
  obtain ⟨p, rfl, H, _⟩ := hR
  refine ⟨_, rfl, fun a2 K2 => ?_⟩
  clear K1
  refine ltake (v := .int .i64 ((n % 61 : Nat) : Int)) (w' := V2) K2 rfl rfl (want_none rfl) (fun ev E => ?_) (fun a3 K3 => ?_)
  · have EC := E.const; have E5 := E.tmp 5 _ rfl; clear E K2; go_simp
  clear K2
  refine lcall (f := 12) (args := #[.int .i64 ((n % 61 : Nat) : Int)]) K3 rfl rfl (want_none rfl) (fun ev E => ?_) (x2New H (n % 61) (by omega)) (fun e V3 hR => ?_)
  · have EC := E.const; have EF := E.func; have E25 := E.tmp 25 _ rfl; clear E K3; go_simp
  obtain ⟨q, rfl, h, _⟩ := hR
  refine ⟨_, rfl, fun a4 K4 => ?_⟩
  clear K3
  refine ltake (v := .pointer (some ⟨p, 0, none⟩)) (w' := V3) K4 rfl rfl (want_none rfl) (fun ev E => ?_) (fun a5 K5 => ?_)
  · have EC := E.const; have E24 := E.tmp 24 _ rfl; clear E K4; go_simp
  clear K4
  refine ltake (v := .pointer (some ⟨q, 0, none⟩)) (w' := V3) K5 rfl rfl (want_none rfl) (fun ev E => ?_) (fun a6 K6 => ?_)
  · have EC := E.const; have E26 := E.tmp 26 _ rfl; clear E K5; go_simp
  clear K5
  exact wpList_nil (hN _ p q _ (K6.less ⟨rfl, rfl, rfl, trivial⟩) h)
theorem rg3 {n : Nat} {x : Option Addr} {len cap : Nat} {w : World} {p q : Nat} {NX : Act → World → Prop} {a0 : Act} {V : World} (K0 : Kb a0 275 [(1, .slice x len cap), (6, .pointer (some ⟨p, 0, none⟩)), (7, .pointer (some ⟨q, 0, none⟩))]) (hN : ∀ a' w', Kb a' 275 [(1, .slice x len cap), (6, .pointer (some ⟨p, 0, none⟩)), (7, .pointer (some ⟨q, 0, none⟩)), (28, .bool false)] → w' = V →  NX a' w') :
    (Code.region 3 OPS3.toArray false).wp Try.prog (Norm NX) a0 V := by
  refine wp_region_lit ?_
  refine ltake (v := .pointer (some ⟨p, 0, none⟩)) (w' := V) K0 rfl rfl (want_none rfl) (fun ev E => ?_) (fun a1 K1 => ?_)
  · have EC := E.const; have E6 := E.tmp 6 _ rfl; clear E K0; go_simp
  refine ltake (v := .bool false) (w' := V) K1 rfl rfl (want_none rfl) (fun ev E => ?_) (fun a2 K2 => ?_)
  · have EC := E.const; have E27 := E.tmp 27 _ rfl; clear E K1; go_simp
  clear K1
  exact wpList_nil (hN _ _ (K2.less ⟨rfl, rfl, rfl, rfl, trivial⟩) rfl)
theorem rg5 {n : Nat} {x : Option Addr} {len cap : Nat} {w : World} {p q : Nat} {NX : Act → World → Prop} {a0 : Act} {V : World} (K0 : Kb a0 275 [(1, .slice x len cap), (6, .pointer (some ⟨p, 0, none⟩)), (7, .pointer (some ⟨q, 0, none⟩))]) (hN : ∀ a' w', Kb a' 275 [(1, .slice x len cap), (6, .pointer (some ⟨p, 0, none⟩)), (7, .pointer (some ⟨q, 0, none⟩)), (8, .int .i64 ((0 : Nat) : Int))] → w' = V →  NX a' w') :
    (Code.region 5 OPS5.toArray false).wp Try.prog (Norm NX) a0 V := by
  refine wp_region_lit ?_
  refine ltake (v := .int .i64 ((0 : Nat) : Int)) (w' := V) K0 rfl rfl (want_none rfl) (fun ev E => ?_) (fun a1 K1 => ?_)
  · have EC := E.const; clear E K0; go_simp
  exact wpList_nil (hN _ _ (K1.less ⟨rfl, rfl, rfl, rfl, trivial⟩) rfl)
theorem rg29 {n : Nat} {x : Option Addr} {len cap : Nat} {w : World} {p q : Nat} {T : Se} {NX : Act → World → Prop} {a0 : Act} {V : World} (K0 : Kb a0 275 [(6, .pointer (some ⟨p, 0, none⟩))]) (H : Ob2 RfAt w V p q T T []) (hN : ∀ a' w', Kb a' 275 [(4, .bool true)] → Below w.heap.size w w' →  NX a' w') :
    (Code.region 29 OPS29.toArray false).wp Try.prog (Norm NX) a0 V := by
  refine wp_region_lit ?_
  refine lcall (f := 42) (args := #[]) K0 rfl rfl (want_none rfl) (fun ev E => ?_) (awake_any _) (fun e V1 hR => ?_)
  · have EC := E.const; have EF := E.func; clear E K0; go_simp
  obtain ⟨rfl, hb⟩ := hR
  replace H := (H.below Rf.lies hb).1
  clear hb
  refine ⟨_, rfl, fun a1 K1 => ?_⟩
  refine ltake (v := .bool true) (w' := V1) K1 rfl rfl (want_none rfl) (fun ev E => ?_) (fun a2 K2 => ?_)
  · have EC := E.const; have E274 := E.tmp 274 _ rfl; clear E K1; go_simp
  clear K1
  exact wpList_nil (hN _ _ (K2.less ⟨rfl, trivial⟩) H.bel)
end Go.Proofs.Ytbkneonbpcmepaa
/- The statements of ..Plays that are drawn, over a frame that is a letter. -/

namespace Go.Proofs.Ytbkneonbpcmepaa
open Go.RowKit Go.Arb
set_option linter.unusedVariables false
set_option linter.unusedSimpArgs false
set_option maxRecDepth 100000
theorem NS12 : Region.noSelect OPS12.toArray = true := by kernel_rfl
def LS12_0 : Array Bool := pf 0 14
def LS12_1 : Array Bool := pf 1 13
def LS12_2 : Array Bool := pf 2 12
def LS12_3 : Array Bool := pf 3 11
def LS12_4 : Array Bool := pf 4 10
def LS12_5 : Array Bool := pf 5 9
def LS12_6 : Array Bool := [true, true, true, true, true, false, true, false, false, false, false, false, false, false].toArray
def LS12_7 : Array Bool := [true, true, true, true, true, false, true, true, false, false, false, false, false, false].toArray
def LS12_8 : Array Bool := [true, true, true, true, true, false, true, true, true, false, false, false, false, false].toArray
def LS12_9 : Array Bool := [true, true, true, true, true, false, true, true, true, true, false, false, false, false].toArray
def LS12_10 : Array Bool := [true, true, true, true, true, false, true, true, true, true, true, false, false, false].toArray
def LS12_11 : Array Bool := pf 11 3
def LS12_12 : Array Bool := pf 12 2
def LS12_13 : Array Bool := pf 13 1
def LS12_14 : Array Bool := pf 14 0
set_option maxHeartbeats 4000000 in
theorem rg12_0 {w : World} {p q b8 : Nat} {T : Se} {x : Option Addr} {len cap m : Nat} {kd a b c : Int} {NX : Act → World → Prop} {a0 : Act} {W : World} (K0 : Kb a0 275 [(1, .slice x len cap), (6, .pointer (some ⟨p, 0, none⟩)), (7, .pointer (some ⟨q, 0, none⟩)), (8, .int .i64 (m : Int)), (9, .pointer (some ⟨b8, 0, none⟩)), (10, .bool false), (11, .bool false)]) (H : Ob2 RfAt w W p q T T [b8]) (X : BoxAt W b8 #[.int .i64 kd, .int .i64 a, .int .i64 b, .int .i64 c] 28) (hS : (fun w' : World => w'.cell? ⟨b8, 1, none⟩ = some (.int .i64 a) ∧ w'.cell? ⟨b8, 2, none⟩ = some (.int .i64 b) ∧ w'.cell? ⟨b8, 3, none⟩ = some (.int .i64 c)) W) (hN : ∀ a' (r : Bool) (T' : Se) w', Kb a' 275 [(1, .slice x len cap), (6, .pointer (some ⟨p, 0, none⟩)), (7, .pointer (some ⟨q, 0, none⟩)), (8, .int .i64 (m : Int)), (9, .pointer (some ⟨b8, 0, none⟩)), (10, .bool r), (11, .bool r)] → Ob2 RfAt w w' p q T' T' [b8] → BoxAt w' b8 #[.int .i64 kd, .int .i64 a, .int .i64 b, .int .i64 c] 28 → NX a' w') :
    wpAnyH Try.prog .any OPS12.toArray (Norm NX) (fun w' : World => w'.cell? ⟨b8, 1, none⟩ = some (.int .i64 a) ∧ w'.cell? ⟨b8, 2, none⟩ = some (.int .i64 b) ∧ w'.cell? ⟨b8, 3, none⟩ = some (.int .i64 c)) 14 LS12_0 a0 W := by
  have hq : ∀ c a a' w', Norm NX (.panic c) a w' → Norm NX (.panic c) a' w' := fun _ _ _ _ h => h
  refine dtake (i := 0) (o := { dst := (some 47), op := (Op.move (Operand.tmp 6)), type := 23, pos := "law.go:35", after := #[], guard := none }) (v := .pointer (some ⟨p, 0, none⟩)) (l2 := LS12_1) K0 hq rfl NS12 (by kernel_rfl) (by kernel_rfl) (by kernel_rfl) rfl rfl (want_none rfl) (fun ev E w9 hSw => ?_) hS (fun a1 K1 => ?_)
  · have EC := E.const; have E6 := E.tmp 6 _ rfl; clear E K0 hN hq; clear hSw; go_simp
  refine dtake (i := 1) (o := { dst := (some 48), op := (Op.fieldAddr 28 (Operand.tmp 9) 1), type := 0, pos := "law.go:35", after := #[], guard := none }) (v := .pointer (some ⟨b8, 1, none⟩)) (l2 := LS12_2) K1 hq rfl NS12 (by kernel_rfl) (by kernel_rfl) (by kernel_rfl) rfl rfl (want_none rfl) (fun ev E w9 hSw => ?_) hS (fun a2 K2 => ?_)
  · have EC := E.const; have E9 := E.tmp 9 _ rfl; clear E K1 hN hq; clear hSw; go_simp
  clear K1
  refine dtake (i := 2) (o := { dst := (some 49), op := (Op.load 3 (Operand.tmp 48)), type := 3, pos := "law.go:35", after := #[{ on := 1, ground := Ground.data }], guard := none }) (v := .int .i64 a) (l2 := LS12_3) K2 hq rfl NS12 (by kernel_rfl) (by kernel_rfl) (by kernel_rfl) rfl rfl (want_none rfl) (fun ev E w9 hSw => ?_) hS (fun a3 K3 => ?_)
  · have EC := E.const; have E48 := E.tmp 48 _ rfl; clear E K2 hN hq; obtain ⟨z1, z2, z3⟩ := hSw; go_simp
  clear K2
  refine dtake (i := 3) (o := { dst := (some 50), op := (Op.fieldAddr 28 (Operand.tmp 9) 3), type := 0, pos := "law.go:35", after := #[], guard := none }) (v := .pointer (some ⟨b8, 3, none⟩)) (l2 := LS12_4) K3 hq rfl NS12 (by kernel_rfl) (by kernel_rfl) (by kernel_rfl) rfl rfl (want_none rfl) (fun ev E w9 hSw => ?_) hS (fun a4 K4 => ?_)
  · have EC := E.const; have E9 := E.tmp 9 _ rfl; clear E K3 hN hq; clear hSw; go_simp
  clear K3
  refine dtake (i := 4) (o := { dst := (some 51), op := (Op.load 3 (Operand.tmp 50)), type := 3, pos := "law.go:35", after := #[{ on := 3, ground := Ground.data }], guard := none }) (v := .int .i64 c) (l2 := LS12_5) K4 hq rfl NS12 (by kernel_rfl) (by kernel_rfl) (by kernel_rfl) rfl rfl (want_none rfl) (fun ev E w9 hSw => ?_) hS (fun a5 K5 => ?_)
  · have EC := E.const; have E50 := E.tmp 50 _ rfl; clear E K4 hN hq; obtain ⟨z1, z2, z3⟩ := hSw; go_simp
  clear K4
  refine dtake (i := 6) (o := { dst := (some 53), op := (Op.move (Operand.tmp 7)), type := 25, pos := "law.go:35", after := #[], guard := none }) (v := .pointer (some ⟨q, 0, none⟩)) (l2 := LS12_6) K5 hq rfl NS12 (by kernel_rfl) (by kernel_rfl) (by kernel_rfl) rfl rfl (want_none rfl) (fun ev E w9 hSw => ?_) hS (fun a6 K6 => ?_)
  · have EC := E.const; have E7 := E.tmp 7 _ rfl; clear E K5 hN hq; clear hSw; go_simp
  clear K5
  refine dtake (i := 7) (o := { dst := (some 54), op := (Op.fieldAddr 28 (Operand.tmp 9) 1), type := 0, pos := "law.go:35", after := #[], guard := none }) (v := .pointer (some ⟨b8, 1, none⟩)) (l2 := LS12_7) K6 hq rfl NS12 (by kernel_rfl) (by kernel_rfl) (by kernel_rfl) rfl rfl (want_none rfl) (fun ev E w9 hSw => ?_) hS (fun a7 K7 => ?_)
  · have EC := E.const; have E9 := E.tmp 9 _ rfl; clear E K6 hN hq; clear hSw; go_simp
  clear K6
  refine dtake (i := 8) (o := { dst := (some 55), op := (Op.load 3 (Operand.tmp 54)), type := 3, pos := "law.go:35", after := #[{ on := 7, ground := Ground.data }], guard := none }) (v := .int .i64 a) (l2 := LS12_8) K7 hq rfl NS12 (by kernel_rfl) (by kernel_rfl) (by kernel_rfl) rfl rfl (want_none rfl) (fun ev E w9 hSw => ?_) hS (fun a8 K8 => ?_)
  · have EC := E.const; have E54 := E.tmp 54 _ rfl; clear E K7 hN hq; obtain ⟨z1, z2, z3⟩ := hSw; go_simp
  clear K7
  refine dtake (i := 9) (o := { dst := (some 56), op := (Op.fieldAddr 28 (Operand.tmp 9) 3), type := 0, pos := "law.go:35", after := #[], guard := none }) (v := .pointer (some ⟨b8, 3, none⟩)) (l2 := LS12_9) K8 hq rfl NS12 (by kernel_rfl) (by kernel_rfl) (by kernel_rfl) rfl rfl (want_none rfl) (fun ev E w9 hSw => ?_) hS (fun a9 K9 => ?_)
  · have EC := E.const; have E9 := E.tmp 9 _ rfl; clear E K8 hN hq; clear hSw; go_simp
  clear K8
  refine dtake (i := 10) (o := { dst := (some 57), op := (Op.load 3 (Operand.tmp 56)), type := 3, pos := "law.go:35", after := #[{ on := 9, ground := Ground.data }], guard := none }) (v := .int .i64 c) (l2 := LS12_10) K9 hq rfl NS12 (by kernel_rfl) (by kernel_rfl) (by kernel_rfl) rfl rfl (want_none rfl) (fun ev E w9 hSw => ?_) hS (fun a10 K10 => ?_)
  · have EC := E.const; have E56 := E.tmp 56 _ rfl; clear E K9 hN hq; obtain ⟨z1, z2, z3⟩ := hSw; go_simp
  clear K9
  refine dcall (i := 5) (o := { dst := (some 52), op := (Op.call { callee := (Callee.value (Operand.func 13)), args := #[(Operand.tmp 47), (Operand.tmp 49), (Operand.tmp 51)], argTypes := #[23, 3, 3] }), type := 4, pos := "law.go:35", after := #[{ on := 0, ground := Ground.data }, { on := 2, ground := Ground.data }, { on := 4, ground := Ground.data }], guard := none }) (l2 := LS12_11) (f := 13) (args := #[.pointer (some ⟨p, 0, none⟩), .int .i64 a, .int .i64 c]) K10 rfl (by kernel_rfl) (by kernel_rfl) rfl rfl (want_none rfl) (fun ev E => ?_) (H.fst Rf.lies fun _ ha => aAdd _ _ ha) (fun e w11 hR => ?_)
  · have EC := E.const; have EF := E.func; have E47 := E.tmp 47 _ rfl; have E49 := E.tmp 49 _ rfl; have E51 := E.tmp 51 _ rfl; clear E K10 hN hq; go_simp
  obtain ⟨rfl, h6, k6⟩ := hR
  replace X := X.kept k6 (by simp)
  replace H := h6
  clear h6
  replace hS : (fun w' : World => w'.cell? ⟨b8, 1, none⟩ = some (.int .i64 a) ∧ w'.cell? ⟨b8, 2, none⟩ = some (.int .i64 b) ∧ w'.cell? ⟨b8, 3, none⟩ = some (.int .i64 c)) w11 := ⟨(X.cell (o := 1) rfl).1, (X.cell (o := 2) rfl).1, (X.cell (o := 3) rfl).1⟩
  refine ⟨_, rfl, hS, fun a11 K11 => ?_⟩
  clear k6
  clear K10
  refine dcall (i := 11) (o := { dst := (some 58), op := (Op.call { callee := (Callee.value (Operand.func 14)), args := #[(Operand.tmp 53), (Operand.tmp 55), (Operand.tmp 57)], argTypes := #[25, 3, 3] }), type := 4, pos := "law.go:35", after := #[{ on := 6, ground := Ground.data }, { on := 8, ground := Ground.data }, { on := 10, ground := Ground.data }, { on := 5, ground := Ground.chain }], guard := none }) (l2 := LS12_12) (f := 14) (args := #[.pointer (some ⟨q, 0, none⟩), .int .i64 a, .int .i64 c]) K11 rfl (by kernel_rfl) (by kernel_rfl) rfl rfl (want_none rfl) (fun ev E => ?_) (H.snd Rf.lies fun _ ha => xAdd _ _ ha) (fun e w12 hR => ?_)
  · have EC := E.const; have EF := E.func; have E53 := E.tmp 53 _ rfl; have E55 := E.tmp 55 _ rfl; have E57 := E.tmp 57 _ rfl; clear E K11 hN hq; go_simp
  obtain ⟨rfl, h6, k6⟩ := hR
  replace X := X.kept k6 (by simp)
  replace H := h6
  clear h6
  replace hS : (fun w' : World => w'.cell? ⟨b8, 1, none⟩ = some (.int .i64 a) ∧ w'.cell? ⟨b8, 2, none⟩ = some (.int .i64 b) ∧ w'.cell? ⟨b8, 3, none⟩ = some (.int .i64 c)) w12 := ⟨(X.cell (o := 1) rfl).1, (X.cell (o := 2) rfl).1, (X.cell (o := 3) rfl).1⟩
  refine ⟨_, rfl, hS, fun a12 K12 => ?_⟩
  clear k6
  clear K11
  refine dtake (i := 12) (o := { dst := (some 10), op := (Op.assign (Operand.tmp 52)), type := 4, pos := "law.go:35", after := #[{ on := 5, ground := Ground.data }, { on := 11, ground := Ground.chain }, { on := 0, ground := Ground.phase }, { on := 1, ground := Ground.phase }, { on := 2, ground := Ground.phase }, { on := 3, ground := Ground.phase }, { on := 4, ground := Ground.phase }, { on := 5, ground := Ground.phase }, { on := 6, ground := (Ground.textOnly Departure.lateStores) }, { on := 7, ground := (Ground.textOnly Departure.lateStores) }, { on := 8, ground := (Ground.textOnly Departure.lateStores) }, { on := 9, ground := (Ground.textOnly Departure.lateStores) }, { on := 10, ground := (Ground.textOnly Departure.lateStores) }, { on := 11, ground := (Ground.textOnly Departure.lateStoresUnsure) }], guard := none }) (v := .bool (T.addOk a c)) (l2 := LS12_13) K12 hq rfl NS12 (by kernel_rfl) (by kernel_rfl) (by kernel_rfl) rfl rfl (want_none rfl) (fun ev E w9 hSw => ?_) hS (fun a13 K13 => ?_)
  · have EC := E.const; have E52 := E.tmp 52 _ rfl; clear E K12 hN hq; clear hSw; go_simp
  clear K12
  refine dtake (i := 13) (o := { dst := (some 11), op := (Op.assign (Operand.tmp 58)), type := 4, pos := "law.go:35", after := #[{ on := 11, ground := Ground.data }, { on := 12, ground := Ground.chain }, { on := 0, ground := Ground.phase }, { on := 1, ground := Ground.phase }, { on := 2, ground := Ground.phase }, { on := 3, ground := Ground.phase }, { on := 4, ground := Ground.phase }, { on := 5, ground := Ground.phase }, { on := 6, ground := Ground.phase }, { on := 7, ground := Ground.phase }, { on := 8, ground := Ground.phase }, { on := 9, ground := Ground.phase }, { on := 10, ground := Ground.phase }, { on := 11, ground := Ground.phase }, { on := 12, ground := Ground.phase }], guard := none }) (v := .bool (T.addOk a c)) (l2 := LS12_14) K13 hq rfl NS12 (by kernel_rfl) (by kernel_rfl) (by kernel_rfl) rfl rfl (want_none rfl) (fun ev E w9 hSw => ?_) hS (fun a14 K14 => ?_)
  · have EC := E.const; have E58 := E.tmp 58 _ rfl; clear E K13 hN hq; clear hSw; go_simp
  clear K13
  refine wpAnyH_done (by kernel_rfl) ?_ _
  exact hN _ _ _ _ (K14.less ⟨rfl, rfl, rfl, rfl, rfl, rfl, rfl, trivial⟩) H X
set_option maxHeartbeats 4000000 in
theorem rg12 {w : World} {p q b8 : Nat} {T : Se} {x : Option Addr} {len cap m : Nat} {kd a b c : Int} {NX : Act → World → Prop} {a0 : Act} {V : World} (K0 : Kb a0 275 [(1, .slice x len cap), (6, .pointer (some ⟨p, 0, none⟩)), (7, .pointer (some ⟨q, 0, none⟩)), (8, .int .i64 (m : Int)), (9, .pointer (some ⟨b8, 0, none⟩)), (10, .bool false), (11, .bool false)]) (H : Ob2 RfAt w V p q T T [b8]) (X : BoxAt V b8 #[.int .i64 kd, .int .i64 a, .int .i64 b, .int .i64 c] 28) (hN : ∀ a' (r : Bool) (T' : Se) w', Kb a' 275 [(1, .slice x len cap), (6, .pointer (some ⟨p, 0, none⟩)), (7, .pointer (some ⟨q, 0, none⟩)), (8, .int .i64 (m : Int)), (9, .pointer (some ⟨b8, 0, none⟩)), (10, .bool r), (11, .bool r)] → Ob2 RfAt w w' p q T' T' [b8] → BoxAt w' b8 #[.int .i64 kd, .int .i64 a, .int .i64 b, .int .i64 c] 28 → NX a' w') :
    (Code.region 12 OPS12.toArray true).wp Try.prog (Norm NX) a0 V := by
  replace X := X.kept (H.below Rf.lies ((Below.refl _ _).drew)).2 (by simp)
  replace H := (H.below Rf.lies ((Below.refl _ _).drew)).1
  have hS : (fun w' : World => w'.cell? ⟨b8, 1, none⟩ = some (.int .i64 a) ∧ w'.cell? ⟨b8, 2, none⟩ = some (.int .i64 b) ∧ w'.cell? ⟨b8, 3, none⟩ = some (.int .i64 c)) V.drew := ⟨(X.cell (o := 1) rfl).1, (X.cell (o := 2) rfl).1, (X.cell (o := 3) rfl).1⟩
  refine wp_region_held_drew (S := (fun w' : World => w'.cell? ⟨b8, 1, none⟩ = some (.int .i64 a) ∧ w'.cell? ⟨b8, 2, none⟩ = some (.int .i64 b) ∧ w'.cell? ⟨b8, 3, none⟩ = some (.int .i64 c))) (by kernel_rfl) hS (fun hS => ?_)
  rw [show OPS12.toArray.size = 14 from by kernel_rfl, show Array.replicate 14 false = LS12_0 from by kernel_rfl]
  exact rg12_0 K0 H X hS hN
theorem NS14 : Region.noSelect OPS14.toArray = true := by kernel_rfl
def LS14_0 : Array Bool := pf 0 10
def LS14_1 : Array Bool := pf 1 9
def LS14_2 : Array Bool := pf 2 8
def LS14_3 : Array Bool := pf 3 7
def LS14_4 : Array Bool := [true, true, true, false, true, false, false, false, false, false].toArray
def LS14_5 : Array Bool := [true, true, true, false, true, true, false, false, false, false].toArray
def LS14_6 : Array Bool := [true, true, true, false, true, true, true, false, false, false].toArray
def LS14_7 : Array Bool := pf 7 3
def LS14_8 : Array Bool := pf 8 2
def LS14_9 : Array Bool := pf 9 1
def LS14_10 : Array Bool := pf 10 0
set_option maxHeartbeats 4000000 in
theorem rg14_0 {w : World} {p q b8 : Nat} {T : Se} {x : Option Addr} {len cap m : Nat} {kd a b c : Int} {NX : Act → World → Prop} {a0 : Act} {W : World} (K0 : Kb a0 275 [(1, .slice x len cap), (6, .pointer (some ⟨p, 0, none⟩)), (7, .pointer (some ⟨q, 0, none⟩)), (8, .int .i64 (m : Int)), (9, .pointer (some ⟨b8, 0, none⟩)), (10, .bool false), (11, .bool false)]) (H : Ob2 RfAt w W p q T T [b8]) (X : BoxAt W b8 #[.int .i64 kd, .int .i64 a, .int .i64 b, .int .i64 c] 28) (hS : (fun w' : World => w'.cell? ⟨b8, 1, none⟩ = some (.int .i64 a) ∧ w'.cell? ⟨b8, 2, none⟩ = some (.int .i64 b) ∧ w'.cell? ⟨b8, 3, none⟩ = some (.int .i64 c)) W) (hN : ∀ a' (r : Bool) (T' : Se) w', Kb a' 275 [(1, .slice x len cap), (6, .pointer (some ⟨p, 0, none⟩)), (7, .pointer (some ⟨q, 0, none⟩)), (8, .int .i64 (m : Int)), (9, .pointer (some ⟨b8, 0, none⟩)), (10, .bool r), (11, .bool r)] → Ob2 RfAt w w' p q T' T' [b8] → BoxAt w' b8 #[.int .i64 kd, .int .i64 a, .int .i64 b, .int .i64 c] 28 → NX a' w') :
    wpAnyH Try.prog .any OPS14.toArray (Norm NX) (fun w' : World => w'.cell? ⟨b8, 1, none⟩ = some (.int .i64 a) ∧ w'.cell? ⟨b8, 2, none⟩ = some (.int .i64 b) ∧ w'.cell? ⟨b8, 3, none⟩ = some (.int .i64 c)) 10 LS14_0 a0 W := by
  have hq : ∀ c a a' w', Norm NX (.panic c) a w' → Norm NX (.panic c) a' w' := fun _ _ _ _ h => h
  refine dtake (i := 0) (o := { dst := (some 61), op := (Op.move (Operand.tmp 6)), type := 23, pos := "law.go:37", after := #[], guard := none }) (v := .pointer (some ⟨p, 0, none⟩)) (l2 := LS14_1) K0 hq rfl NS14 (by kernel_rfl) (by kernel_rfl) (by kernel_rfl) rfl rfl (want_none rfl) (fun ev E w9 hSw => ?_) hS (fun a1 K1 => ?_)
  · have EC := E.const; have E6 := E.tmp 6 _ rfl; clear E K0 hN hq; clear hSw; go_simp
  refine dtake (i := 1) (o := { dst := (some 62), op := (Op.fieldAddr 28 (Operand.tmp 9) 1), type := 0, pos := "law.go:37", after := #[], guard := none }) (v := .pointer (some ⟨b8, 1, none⟩)) (l2 := LS14_2) K1 hq rfl NS14 (by kernel_rfl) (by kernel_rfl) (by kernel_rfl) rfl rfl (want_none rfl) (fun ev E w9 hSw => ?_) hS (fun a2 K2 => ?_)
  · have EC := E.const; have E9 := E.tmp 9 _ rfl; clear E K1 hN hq; clear hSw; go_simp
  clear K1
  refine dtake (i := 2) (o := { dst := (some 63), op := (Op.load 3 (Operand.tmp 62)), type := 3, pos := "law.go:37", after := #[{ on := 1, ground := Ground.data }], guard := none }) (v := .int .i64 a) (l2 := LS14_3) K2 hq rfl NS14 (by kernel_rfl) (by kernel_rfl) (by kernel_rfl) rfl rfl (want_none rfl) (fun ev E w9 hSw => ?_) hS (fun a3 K3 => ?_)
  · have EC := E.const; have E62 := E.tmp 62 _ rfl; clear E K2 hN hq; obtain ⟨z1, z2, z3⟩ := hSw; go_simp
  clear K2
  refine dtake (i := 4) (o := { dst := (some 65), op := (Op.move (Operand.tmp 7)), type := 25, pos := "law.go:37", after := #[], guard := none }) (v := .pointer (some ⟨q, 0, none⟩)) (l2 := LS14_4) K3 hq rfl NS14 (by kernel_rfl) (by kernel_rfl) (by kernel_rfl) rfl rfl (want_none rfl) (fun ev E w9 hSw => ?_) hS (fun a4 K4 => ?_)
  · have EC := E.const; have E7 := E.tmp 7 _ rfl; clear E K3 hN hq; clear hSw; go_simp
  clear K3
  refine dtake (i := 5) (o := { dst := (some 66), op := (Op.fieldAddr 28 (Operand.tmp 9) 1), type := 0, pos := "law.go:37", after := #[], guard := none }) (v := .pointer (some ⟨b8, 1, none⟩)) (l2 := LS14_5) K4 hq rfl NS14 (by kernel_rfl) (by kernel_rfl) (by kernel_rfl) rfl rfl (want_none rfl) (fun ev E w9 hSw => ?_) hS (fun a5 K5 => ?_)
  · have EC := E.const; have E9 := E.tmp 9 _ rfl; clear E K4 hN hq; clear hSw; go_simp
  clear K4
  refine dtake (i := 6) (o := { dst := (some 67), op := (Op.load 3 (Operand.tmp 66)), type := 3, pos := "law.go:37", after := #[{ on := 5, ground := Ground.data }], guard := none }) (v := .int .i64 a) (l2 := LS14_6) K5 hq rfl NS14 (by kernel_rfl) (by kernel_rfl) (by kernel_rfl) rfl rfl (want_none rfl) (fun ev E w9 hSw => ?_) hS (fun a6 K6 => ?_)
  · have EC := E.const; have E66 := E.tmp 66 _ rfl; clear E K5 hN hq; obtain ⟨z1, z2, z3⟩ := hSw; go_simp
  clear K5
  refine dcall (i := 3) (o := { dst := (some 64), op := (Op.call { callee := (Callee.value (Operand.func 15)), args := #[(Operand.tmp 61), (Operand.tmp 63)], argTypes := #[23, 3] }), type := 4, pos := "law.go:37", after := #[{ on := 0, ground := Ground.data }, { on := 2, ground := Ground.data }], guard := none }) (l2 := LS14_7) (f := 15) (args := #[.pointer (some ⟨p, 0, none⟩), .int .i64 a]) K6 rfl (by kernel_rfl) (by kernel_rfl) rfl rfl (want_none rfl) (fun ev E => ?_) (H.fst Rf.lies fun _ ha => aDrop _ ha) (fun e w7 hR => ?_)
  · have EC := E.const; have EF := E.func; have E61 := E.tmp 61 _ rfl; have E63 := E.tmp 63 _ rfl; clear E K6 hN hq; go_simp
  obtain ⟨rfl, h6, k6⟩ := hR
  replace X := X.kept k6 (by simp)
  replace H := h6
  clear h6
  replace hS : (fun w' : World => w'.cell? ⟨b8, 1, none⟩ = some (.int .i64 a) ∧ w'.cell? ⟨b8, 2, none⟩ = some (.int .i64 b) ∧ w'.cell? ⟨b8, 3, none⟩ = some (.int .i64 c)) w7 := ⟨(X.cell (o := 1) rfl).1, (X.cell (o := 2) rfl).1, (X.cell (o := 3) rfl).1⟩
  refine ⟨_, rfl, hS, fun a7 K7 => ?_⟩
  clear k6
  clear K6
  refine dcall (i := 7) (o := { dst := (some 68), op := (Op.call { callee := (Callee.value (Operand.func 16)), args := #[(Operand.tmp 65), (Operand.tmp 67)], argTypes := #[25, 3] }), type := 4, pos := "law.go:37", after := #[{ on := 4, ground := Ground.data }, { on := 6, ground := Ground.data }, { on := 3, ground := Ground.chain }], guard := none }) (l2 := LS14_8) (f := 16) (args := #[.pointer (some ⟨q, 0, none⟩), .int .i64 a]) K7 rfl (by kernel_rfl) (by kernel_rfl) rfl rfl (want_none rfl) (fun ev E => ?_) (H.snd Rf.lies fun _ ha => xDrop _ ha) (fun e w8 hR => ?_)
  · have EC := E.const; have EF := E.func; have E65 := E.tmp 65 _ rfl; have E67 := E.tmp 67 _ rfl; clear E K7 hN hq; go_simp
  obtain ⟨rfl, h6, k6⟩ := hR
  replace X := X.kept k6 (by simp)
  replace H := h6
  clear h6
  replace hS : (fun w' : World => w'.cell? ⟨b8, 1, none⟩ = some (.int .i64 a) ∧ w'.cell? ⟨b8, 2, none⟩ = some (.int .i64 b) ∧ w'.cell? ⟨b8, 3, none⟩ = some (.int .i64 c)) w8 := ⟨(X.cell (o := 1) rfl).1, (X.cell (o := 2) rfl).1, (X.cell (o := 3) rfl).1⟩
  refine ⟨_, rfl, hS, fun a8 K8 => ?_⟩
  clear k6
  clear K7
  refine dtake (i := 8) (o := { dst := (some 10), op := (Op.assign (Operand.tmp 64)), type := 4, pos := "law.go:37", after := #[{ on := 3, ground := Ground.data }, { on := 7, ground := Ground.chain }, { on := 0, ground := Ground.phase }, { on := 1, ground := Ground.phase }, { on := 2, ground := Ground.phase }, { on := 3, ground := Ground.phase }, { on := 4, ground := (Ground.textOnly Departure.lateStores) }, { on := 5, ground := (Ground.textOnly Departure.lateStores) }, { on := 6, ground := (Ground.textOnly Departure.lateStores) }, { on := 7, ground := (Ground.textOnly Departure.lateStoresUnsure) }], guard := none }) (v := .bool (T.dropB a)) (l2 := LS14_9) K8 hq rfl NS14 (by kernel_rfl) (by kernel_rfl) (by kernel_rfl) rfl rfl (want_none rfl) (fun ev E w9 hSw => ?_) hS (fun a9 K9 => ?_)
  · have EC := E.const; have E64 := E.tmp 64 _ rfl; clear E K8 hN hq; clear hSw; go_simp
  clear K8
  refine dtake (i := 9) (o := { dst := (some 11), op := (Op.assign (Operand.tmp 68)), type := 4, pos := "law.go:37", after := #[{ on := 7, ground := Ground.data }, { on := 8, ground := Ground.chain }, { on := 0, ground := Ground.phase }, { on := 1, ground := Ground.phase }, { on := 2, ground := Ground.phase }, { on := 3, ground := Ground.phase }, { on := 4, ground := Ground.phase }, { on := 5, ground := Ground.phase }, { on := 6, ground := Ground.phase }, { on := 7, ground := Ground.phase }, { on := 8, ground := Ground.phase }], guard := none }) (v := .bool (T.dropB a)) (l2 := LS14_10) K9 hq rfl NS14 (by kernel_rfl) (by kernel_rfl) (by kernel_rfl) rfl rfl (want_none rfl) (fun ev E w9 hSw => ?_) hS (fun a10 K10 => ?_)
  · have EC := E.const; have E68 := E.tmp 68 _ rfl; clear E K9 hN hq; clear hSw; go_simp
  clear K9
  refine wpAnyH_done (by kernel_rfl) ?_ _
  exact hN _ _ _ _ (K10.less ⟨rfl, rfl, rfl, rfl, rfl, rfl, rfl, trivial⟩) H X
set_option maxHeartbeats 4000000 in
theorem rg14 {w : World} {p q b8 : Nat} {T : Se} {x : Option Addr} {len cap m : Nat} {kd a b c : Int} {NX : Act → World → Prop} {a0 : Act} {V : World} (K0 : Kb a0 275 [(1, .slice x len cap), (6, .pointer (some ⟨p, 0, none⟩)), (7, .pointer (some ⟨q, 0, none⟩)), (8, .int .i64 (m : Int)), (9, .pointer (some ⟨b8, 0, none⟩)), (10, .bool false), (11, .bool false)]) (H : Ob2 RfAt w V p q T T [b8]) (X : BoxAt V b8 #[.int .i64 kd, .int .i64 a, .int .i64 b, .int .i64 c] 28) (hN : ∀ a' (r : Bool) (T' : Se) w', Kb a' 275 [(1, .slice x len cap), (6, .pointer (some ⟨p, 0, none⟩)), (7, .pointer (some ⟨q, 0, none⟩)), (8, .int .i64 (m : Int)), (9, .pointer (some ⟨b8, 0, none⟩)), (10, .bool r), (11, .bool r)] → Ob2 RfAt w w' p q T' T' [b8] → BoxAt w' b8 #[.int .i64 kd, .int .i64 a, .int .i64 b, .int .i64 c] 28 → NX a' w') :
    (Code.region 14 OPS14.toArray true).wp Try.prog (Norm NX) a0 V := by
  replace X := X.kept (H.below Rf.lies ((Below.refl _ _).drew)).2 (by simp)
  replace H := (H.below Rf.lies ((Below.refl _ _).drew)).1
  have hS : (fun w' : World => w'.cell? ⟨b8, 1, none⟩ = some (.int .i64 a) ∧ w'.cell? ⟨b8, 2, none⟩ = some (.int .i64 b) ∧ w'.cell? ⟨b8, 3, none⟩ = some (.int .i64 c)) V.drew := ⟨(X.cell (o := 1) rfl).1, (X.cell (o := 2) rfl).1, (X.cell (o := 3) rfl).1⟩
  refine wp_region_held_drew (S := (fun w' : World => w'.cell? ⟨b8, 1, none⟩ = some (.int .i64 a) ∧ w'.cell? ⟨b8, 2, none⟩ = some (.int .i64 b) ∧ w'.cell? ⟨b8, 3, none⟩ = some (.int .i64 c))) (by kernel_rfl) hS (fun hS => ?_)
  rw [show OPS14.toArray.size = 10 from by kernel_rfl, show Array.replicate 10 false = LS14_0 from by kernel_rfl]
  exact rg14_0 K0 H X hS hN
theorem NS16 : Region.noSelect OPS16.toArray = true := by kernel_rfl
def LS16_0 : Array Bool := pf 0 10
def LS16_1 : Array Bool := pf 1 9
def LS16_2 : Array Bool := pf 2 8
def LS16_3 : Array Bool := pf 3 7
def LS16_4 : Array Bool := [true, true, true, false, true, false, false, false, false, false].toArray
def LS16_5 : Array Bool := [true, true, true, false, true, true, false, false, false, false].toArray
def LS16_6 : Array Bool := [true, true, true, false, true, true, true, false, false, false].toArray
def LS16_7 : Array Bool := pf 7 3
def LS16_8 : Array Bool := pf 8 2
def LS16_9 : Array Bool := pf 9 1
def LS16_10 : Array Bool := pf 10 0
set_option maxHeartbeats 4000000 in
theorem rg16_0 {w : World} {p q b8 : Nat} {T : Se} {x : Option Addr} {len cap m : Nat} {kd a b c : Int} {NX : Act → World → Prop} {a0 : Act} {W : World} (K0 : Kb a0 275 [(1, .slice x len cap), (6, .pointer (some ⟨p, 0, none⟩)), (7, .pointer (some ⟨q, 0, none⟩)), (8, .int .i64 (m : Int)), (9, .pointer (some ⟨b8, 0, none⟩)), (10, .bool false), (11, .bool false)]) (H : Ob2 RfAt w W p q T T [b8]) (X : BoxAt W b8 #[.int .i64 kd, .int .i64 a, .int .i64 b, .int .i64 c] 28) (hS : (fun w' : World => w'.cell? ⟨b8, 1, none⟩ = some (.int .i64 a) ∧ w'.cell? ⟨b8, 2, none⟩ = some (.int .i64 b) ∧ w'.cell? ⟨b8, 3, none⟩ = some (.int .i64 c)) W) (hN : ∀ a' (r : Bool) (T' : Se) w', Kb a' 275 [(1, .slice x len cap), (6, .pointer (some ⟨p, 0, none⟩)), (7, .pointer (some ⟨q, 0, none⟩)), (8, .int .i64 (m : Int)), (9, .pointer (some ⟨b8, 0, none⟩)), (10, .bool r), (11, .bool r)] → Ob2 RfAt w w' p q T' T' [b8] → BoxAt w' b8 #[.int .i64 kd, .int .i64 a, .int .i64 b, .int .i64 c] 28 → NX a' w') :
    wpAnyH Try.prog .any OPS16.toArray (Norm NX) (fun w' : World => w'.cell? ⟨b8, 1, none⟩ = some (.int .i64 a) ∧ w'.cell? ⟨b8, 2, none⟩ = some (.int .i64 b) ∧ w'.cell? ⟨b8, 3, none⟩ = some (.int .i64 c)) 10 LS16_0 a0 W := by
  have hq : ∀ c a a' w', Norm NX (.panic c) a w' → Norm NX (.panic c) a' w' := fun _ _ _ _ h => h
  refine dtake (i := 0) (o := { dst := (some 71), op := (Op.move (Operand.tmp 6)), type := 23, pos := "law.go:39", after := #[], guard := none }) (v := .pointer (some ⟨p, 0, none⟩)) (l2 := LS16_1) K0 hq rfl NS16 (by kernel_rfl) (by kernel_rfl) (by kernel_rfl) rfl rfl (want_none rfl) (fun ev E w9 hSw => ?_) hS (fun a1 K1 => ?_)
  · have EC := E.const; have E6 := E.tmp 6 _ rfl; clear E K0 hN hq; clear hSw; go_simp
  refine dtake (i := 1) (o := { dst := (some 72), op := (Op.fieldAddr 28 (Operand.tmp 9) 1), type := 0, pos := "law.go:39", after := #[], guard := none }) (v := .pointer (some ⟨b8, 1, none⟩)) (l2 := LS16_2) K1 hq rfl NS16 (by kernel_rfl) (by kernel_rfl) (by kernel_rfl) rfl rfl (want_none rfl) (fun ev E w9 hSw => ?_) hS (fun a2 K2 => ?_)
  · have EC := E.const; have E9 := E.tmp 9 _ rfl; clear E K1 hN hq; clear hSw; go_simp
  clear K1
  refine dtake (i := 2) (o := { dst := (some 73), op := (Op.load 3 (Operand.tmp 72)), type := 3, pos := "law.go:39", after := #[{ on := 1, ground := Ground.data }], guard := none }) (v := .int .i64 a) (l2 := LS16_3) K2 hq rfl NS16 (by kernel_rfl) (by kernel_rfl) (by kernel_rfl) rfl rfl (want_none rfl) (fun ev E w9 hSw => ?_) hS (fun a3 K3 => ?_)
  · have EC := E.const; have E72 := E.tmp 72 _ rfl; clear E K2 hN hq; obtain ⟨z1, z2, z3⟩ := hSw; go_simp
  clear K2
  refine dtake (i := 4) (o := { dst := (some 75), op := (Op.move (Operand.tmp 7)), type := 25, pos := "law.go:39", after := #[], guard := none }) (v := .pointer (some ⟨q, 0, none⟩)) (l2 := LS16_4) K3 hq rfl NS16 (by kernel_rfl) (by kernel_rfl) (by kernel_rfl) rfl rfl (want_none rfl) (fun ev E w9 hSw => ?_) hS (fun a4 K4 => ?_)
  · have EC := E.const; have E7 := E.tmp 7 _ rfl; clear E K3 hN hq; clear hSw; go_simp
  clear K3
  refine dtake (i := 5) (o := { dst := (some 76), op := (Op.fieldAddr 28 (Operand.tmp 9) 1), type := 0, pos := "law.go:39", after := #[], guard := none }) (v := .pointer (some ⟨b8, 1, none⟩)) (l2 := LS16_5) K4 hq rfl NS16 (by kernel_rfl) (by kernel_rfl) (by kernel_rfl) rfl rfl (want_none rfl) (fun ev E w9 hSw => ?_) hS (fun a5 K5 => ?_)
  · have EC := E.const; have E9 := E.tmp 9 _ rfl; clear E K4 hN hq; clear hSw; go_simp
  clear K4
  refine dtake (i := 6) (o := { dst := (some 77), op := (Op.load 3 (Operand.tmp 76)), type := 3, pos := "law.go:39", after := #[{ on := 5, ground := Ground.data }], guard := none }) (v := .int .i64 a) (l2 := LS16_6) K5 hq rfl NS16 (by kernel_rfl) (by kernel_rfl) (by kernel_rfl) rfl rfl (want_none rfl) (fun ev E w9 hSw => ?_) hS (fun a6 K6 => ?_)
  · have EC := E.const; have E76 := E.tmp 76 _ rfl; clear E K5 hN hq; obtain ⟨z1, z2, z3⟩ := hSw; go_simp
  clear K5
  refine dcall (i := 3) (o := { dst := (some 74), op := (Op.call { callee := (Callee.value (Operand.func 17)), args := #[(Operand.tmp 71), (Operand.tmp 73)], argTypes := #[23, 3] }), type := 4, pos := "law.go:39", after := #[{ on := 0, ground := Ground.data }, { on := 2, ground := Ground.data }], guard := none }) (l2 := LS16_7) (f := 17) (args := #[.pointer (some ⟨p, 0, none⟩), .int .i64 a]) K6 rfl (by kernel_rfl) (by kernel_rfl) rfl rfl (want_none rfl) (fun ev E => ?_) (H.fst Rf.lies fun _ ha => aBefore _ ha) (fun e w7 hR => ?_)
  · have EC := E.const; have EF := E.func; have E71 := E.tmp 71 _ rfl; have E73 := E.tmp 73 _ rfl; clear E K6 hN hq; go_simp
  obtain ⟨rfl, h6, k6⟩ := hR
  replace X := X.kept k6 (by simp)
  replace H := h6
  clear h6
  replace hS : (fun w' : World => w'.cell? ⟨b8, 1, none⟩ = some (.int .i64 a) ∧ w'.cell? ⟨b8, 2, none⟩ = some (.int .i64 b) ∧ w'.cell? ⟨b8, 3, none⟩ = some (.int .i64 c)) w7 := ⟨(X.cell (o := 1) rfl).1, (X.cell (o := 2) rfl).1, (X.cell (o := 3) rfl).1⟩
  refine ⟨_, rfl, hS, fun a7 K7 => ?_⟩
  clear k6
  clear K6
  refine dcall (i := 7) (o := { dst := (some 78), op := (Op.call { callee := (Callee.value (Operand.func 18)), args := #[(Operand.tmp 75), (Operand.tmp 77)], argTypes := #[25, 3] }), type := 4, pos := "law.go:39", after := #[{ on := 4, ground := Ground.data }, { on := 6, ground := Ground.data }, { on := 3, ground := Ground.chain }], guard := none }) (l2 := LS16_8) (f := 18) (args := #[.pointer (some ⟨q, 0, none⟩), .int .i64 a]) K7 rfl (by kernel_rfl) (by kernel_rfl) rfl rfl (want_none rfl) (fun ev E => ?_) (H.snd Rf.lies fun _ ha => xBefore _ ha) (fun e w8 hR => ?_)
  · have EC := E.const; have EF := E.func; have E75 := E.tmp 75 _ rfl; have E77 := E.tmp 77 _ rfl; clear E K7 hN hq; go_simp
  obtain ⟨rfl, h6, k6⟩ := hR
  replace X := X.kept k6 (by simp)
  replace H := h6
  clear h6
  replace hS : (fun w' : World => w'.cell? ⟨b8, 1, none⟩ = some (.int .i64 a) ∧ w'.cell? ⟨b8, 2, none⟩ = some (.int .i64 b) ∧ w'.cell? ⟨b8, 3, none⟩ = some (.int .i64 c)) w8 := ⟨(X.cell (o := 1) rfl).1, (X.cell (o := 2) rfl).1, (X.cell (o := 3) rfl).1⟩
  refine ⟨_, rfl, hS, fun a8 K8 => ?_⟩
  clear k6
  clear K7
  refine dtake (i := 8) (o := { dst := (some 10), op := (Op.assign (Operand.tmp 74)), type := 4, pos := "law.go:39", after := #[{ on := 3, ground := Ground.data }, { on := 7, ground := Ground.chain }, { on := 0, ground := Ground.phase }, { on := 1, ground := Ground.phase }, { on := 2, ground := Ground.phase }, { on := 3, ground := Ground.phase }, { on := 4, ground := (Ground.textOnly Departure.lateStores) }, { on := 5, ground := (Ground.textOnly Departure.lateStores) }, { on := 6, ground := (Ground.textOnly Departure.lateStores) }, { on := 7, ground := (Ground.textOnly Departure.lateStoresUnsure) }], guard := none }) (v := .bool (T.beforeB a)) (l2 := LS16_9) K8 hq rfl NS16 (by kernel_rfl) (by kernel_rfl) (by kernel_rfl) rfl rfl (want_none rfl) (fun ev E w9 hSw => ?_) hS (fun a9 K9 => ?_)
  · have EC := E.const; have E74 := E.tmp 74 _ rfl; clear E K8 hN hq; clear hSw; go_simp
  clear K8
  refine dtake (i := 9) (o := { dst := (some 11), op := (Op.assign (Operand.tmp 78)), type := 4, pos := "law.go:39", after := #[{ on := 7, ground := Ground.data }, { on := 8, ground := Ground.chain }, { on := 0, ground := Ground.phase }, { on := 1, ground := Ground.phase }, { on := 2, ground := Ground.phase }, { on := 3, ground := Ground.phase }, { on := 4, ground := Ground.phase }, { on := 5, ground := Ground.phase }, { on := 6, ground := Ground.phase }, { on := 7, ground := Ground.phase }, { on := 8, ground := Ground.phase }], guard := none }) (v := .bool (T.beforeB a)) (l2 := LS16_10) K9 hq rfl NS16 (by kernel_rfl) (by kernel_rfl) (by kernel_rfl) rfl rfl (want_none rfl) (fun ev E w9 hSw => ?_) hS (fun a10 K10 => ?_)
  · have EC := E.const; have E78 := E.tmp 78 _ rfl; clear E K9 hN hq; clear hSw; go_simp
  clear K9
  refine wpAnyH_done (by kernel_rfl) ?_ _
  exact hN _ _ _ _ (K10.less ⟨rfl, rfl, rfl, rfl, rfl, rfl, rfl, trivial⟩) H X
set_option maxHeartbeats 4000000 in
theorem rg16 {w : World} {p q b8 : Nat} {T : Se} {x : Option Addr} {len cap m : Nat} {kd a b c : Int} {NX : Act → World → Prop} {a0 : Act} {V : World} (K0 : Kb a0 275 [(1, .slice x len cap), (6, .pointer (some ⟨p, 0, none⟩)), (7, .pointer (some ⟨q, 0, none⟩)), (8, .int .i64 (m : Int)), (9, .pointer (some ⟨b8, 0, none⟩)), (10, .bool false), (11, .bool false)]) (H : Ob2 RfAt w V p q T T [b8]) (X : BoxAt V b8 #[.int .i64 kd, .int .i64 a, .int .i64 b, .int .i64 c] 28) (hN : ∀ a' (r : Bool) (T' : Se) w', Kb a' 275 [(1, .slice x len cap), (6, .pointer (some ⟨p, 0, none⟩)), (7, .pointer (some ⟨q, 0, none⟩)), (8, .int .i64 (m : Int)), (9, .pointer (some ⟨b8, 0, none⟩)), (10, .bool r), (11, .bool r)] → Ob2 RfAt w w' p q T' T' [b8] → BoxAt w' b8 #[.int .i64 kd, .int .i64 a, .int .i64 b, .int .i64 c] 28 → NX a' w') :
    (Code.region 16 OPS16.toArray true).wp Try.prog (Norm NX) a0 V := by
  replace X := X.kept (H.below Rf.lies ((Below.refl _ _).drew)).2 (by simp)
  replace H := (H.below Rf.lies ((Below.refl _ _).drew)).1
  have hS : (fun w' : World => w'.cell? ⟨b8, 1, none⟩ = some (.int .i64 a) ∧ w'.cell? ⟨b8, 2, none⟩ = some (.int .i64 b) ∧ w'.cell? ⟨b8, 3, none⟩ = some (.int .i64 c)) V.drew := ⟨(X.cell (o := 1) rfl).1, (X.cell (o := 2) rfl).1, (X.cell (o := 3) rfl).1⟩
  refine wp_region_held_drew (S := (fun w' : World => w'.cell? ⟨b8, 1, none⟩ = some (.int .i64 a) ∧ w'.cell? ⟨b8, 2, none⟩ = some (.int .i64 b) ∧ w'.cell? ⟨b8, 3, none⟩ = some (.int .i64 c))) (by kernel_rfl) hS (fun hS => ?_)
  rw [show OPS16.toArray.size = 10 from by kernel_rfl, show Array.replicate 10 false = LS16_0 from by kernel_rfl]
  exact rg16_0 K0 H X hS hN
theorem NS18 : Region.noSelect OPS18.toArray = true := by kernel_rfl
def LS18_0 : Array Bool := pf 0 14
def LS18_1 : Array Bool := pf 1 13
def LS18_2 : Array Bool := pf 2 12
def LS18_3 : Array Bool := pf 3 11
def LS18_4 : Array Bool := pf 4 10
def LS18_5 : Array Bool := pf 5 9
def LS18_6 : Array Bool := [true, true, true, true, true, false, true, false, false, false, false, false, false, false].toArray
def LS18_7 : Array Bool := [true, true, true, true, true, false, true, true, false, false, false, false, false, false].toArray
def LS18_8 : Array Bool := [true, true, true, true, true, false, true, true, true, false, false, false, false, false].toArray
def LS18_9 : Array Bool := [true, true, true, true, true, false, true, true, true, true, false, false, false, false].toArray
def LS18_10 : Array Bool := [true, true, true, true, true, false, true, true, true, true, true, false, false, false].toArray
def LS18_11 : Array Bool := pf 11 3
def LS18_12 : Array Bool := pf 12 2
def LS18_13 : Array Bool := pf 13 1
def LS18_14 : Array Bool := pf 14 0
set_option maxHeartbeats 4000000 in
theorem rg18_0 {w : World} {p q b8 : Nat} {T : Se} {x : Option Addr} {len cap m : Nat} {kd a b c : Int} {NX : Act → World → Prop} {a0 : Act} {W : World} (K0 : Kb a0 275 [(1, .slice x len cap), (6, .pointer (some ⟨p, 0, none⟩)), (7, .pointer (some ⟨q, 0, none⟩)), (8, .int .i64 (m : Int)), (9, .pointer (some ⟨b8, 0, none⟩)), (10, .bool false), (11, .bool false)]) (H : Ob2 RfAt w W p q T T [b8]) (X : BoxAt W b8 #[.int .i64 kd, .int .i64 a, .int .i64 b, .int .i64 c] 28) (hS : (fun w' : World => w'.cell? ⟨b8, 1, none⟩ = some (.int .i64 a) ∧ w'.cell? ⟨b8, 2, none⟩ = some (.int .i64 b) ∧ w'.cell? ⟨b8, 3, none⟩ = some (.int .i64 c)) W) (hN : ∀ a' (r : Bool) (T' : Se) w', Kb a' 275 [(1, .slice x len cap), (6, .pointer (some ⟨p, 0, none⟩)), (7, .pointer (some ⟨q, 0, none⟩)), (8, .int .i64 (m : Int)), (9, .pointer (some ⟨b8, 0, none⟩)), (10, .bool r), (11, .bool r)] → Ob2 RfAt w w' p q T' T' [b8] → BoxAt w' b8 #[.int .i64 kd, .int .i64 a, .int .i64 b, .int .i64 c] 28 → NX a' w') :
    wpAnyH Try.prog .any OPS18.toArray (Norm NX) (fun w' : World => w'.cell? ⟨b8, 1, none⟩ = some (.int .i64 a) ∧ w'.cell? ⟨b8, 2, none⟩ = some (.int .i64 b) ∧ w'.cell? ⟨b8, 3, none⟩ = some (.int .i64 c)) 14 LS18_0 a0 W := by
  have hq : ∀ c a a' w', Norm NX (.panic c) a w' → Norm NX (.panic c) a' w' := fun _ _ _ _ h => h
  refine dtake (i := 0) (o := { dst := (some 81), op := (Op.move (Operand.tmp 6)), type := 23, pos := "law.go:41", after := #[], guard := none }) (v := .pointer (some ⟨p, 0, none⟩)) (l2 := LS18_1) K0 hq rfl NS18 (by kernel_rfl) (by kernel_rfl) (by kernel_rfl) rfl rfl (want_none rfl) (fun ev E w9 hSw => ?_) hS (fun a1 K1 => ?_)
  · have EC := E.const; have E6 := E.tmp 6 _ rfl; clear E K0 hN hq; clear hSw; go_simp
  refine dtake (i := 1) (o := { dst := (some 82), op := (Op.fieldAddr 28 (Operand.tmp 9) 1), type := 0, pos := "law.go:41", after := #[], guard := none }) (v := .pointer (some ⟨b8, 1, none⟩)) (l2 := LS18_2) K1 hq rfl NS18 (by kernel_rfl) (by kernel_rfl) (by kernel_rfl) rfl rfl (want_none rfl) (fun ev E w9 hSw => ?_) hS (fun a2 K2 => ?_)
  · have EC := E.const; have E9 := E.tmp 9 _ rfl; clear E K1 hN hq; clear hSw; go_simp
  clear K1
  refine dtake (i := 2) (o := { dst := (some 83), op := (Op.load 3 (Operand.tmp 82)), type := 3, pos := "law.go:41", after := #[{ on := 1, ground := Ground.data }], guard := none }) (v := .int .i64 a) (l2 := LS18_3) K2 hq rfl NS18 (by kernel_rfl) (by kernel_rfl) (by kernel_rfl) rfl rfl (want_none rfl) (fun ev E w9 hSw => ?_) hS (fun a3 K3 => ?_)
  · have EC := E.const; have E82 := E.tmp 82 _ rfl; clear E K2 hN hq; obtain ⟨z1, z2, z3⟩ := hSw; go_simp
  clear K2
  refine dtake (i := 3) (o := { dst := (some 84), op := (Op.fieldAddr 28 (Operand.tmp 9) 2), type := 0, pos := "law.go:41", after := #[], guard := none }) (v := .pointer (some ⟨b8, 2, none⟩)) (l2 := LS18_4) K3 hq rfl NS18 (by kernel_rfl) (by kernel_rfl) (by kernel_rfl) rfl rfl (want_none rfl) (fun ev E w9 hSw => ?_) hS (fun a4 K4 => ?_)
  · have EC := E.const; have E9 := E.tmp 9 _ rfl; clear E K3 hN hq; clear hSw; go_simp
  clear K3
  refine dtake (i := 4) (o := { dst := (some 85), op := (Op.load 3 (Operand.tmp 84)), type := 3, pos := "law.go:41", after := #[{ on := 3, ground := Ground.data }], guard := none }) (v := .int .i64 b) (l2 := LS18_5) K4 hq rfl NS18 (by kernel_rfl) (by kernel_rfl) (by kernel_rfl) rfl rfl (want_none rfl) (fun ev E w9 hSw => ?_) hS (fun a5 K5 => ?_)
  · have EC := E.const; have E84 := E.tmp 84 _ rfl; clear E K4 hN hq; obtain ⟨z1, z2, z3⟩ := hSw; go_simp
  clear K4
  refine dtake (i := 6) (o := { dst := (some 87), op := (Op.move (Operand.tmp 7)), type := 25, pos := "law.go:41", after := #[], guard := none }) (v := .pointer (some ⟨q, 0, none⟩)) (l2 := LS18_6) K5 hq rfl NS18 (by kernel_rfl) (by kernel_rfl) (by kernel_rfl) rfl rfl (want_none rfl) (fun ev E w9 hSw => ?_) hS (fun a6 K6 => ?_)
  · have EC := E.const; have E7 := E.tmp 7 _ rfl; clear E K5 hN hq; clear hSw; go_simp
  clear K5
  refine dtake (i := 7) (o := { dst := (some 88), op := (Op.fieldAddr 28 (Operand.tmp 9) 1), type := 0, pos := "law.go:41", after := #[], guard := none }) (v := .pointer (some ⟨b8, 1, none⟩)) (l2 := LS18_7) K6 hq rfl NS18 (by kernel_rfl) (by kernel_rfl) (by kernel_rfl) rfl rfl (want_none rfl) (fun ev E w9 hSw => ?_) hS (fun a7 K7 => ?_)
  · have EC := E.const; have E9 := E.tmp 9 _ rfl; clear E K6 hN hq; clear hSw; go_simp
  clear K6
  refine dtake (i := 8) (o := { dst := (some 89), op := (Op.load 3 (Operand.tmp 88)), type := 3, pos := "law.go:41", after := #[{ on := 7, ground := Ground.data }], guard := none }) (v := .int .i64 a) (l2 := LS18_8) K7 hq rfl NS18 (by kernel_rfl) (by kernel_rfl) (by kernel_rfl) rfl rfl (want_none rfl) (fun ev E w9 hSw => ?_) hS (fun a8 K8 => ?_)
  · have EC := E.const; have E88 := E.tmp 88 _ rfl; clear E K7 hN hq; obtain ⟨z1, z2, z3⟩ := hSw; go_simp
  clear K7
  refine dtake (i := 9) (o := { dst := (some 90), op := (Op.fieldAddr 28 (Operand.tmp 9) 2), type := 0, pos := "law.go:41", after := #[], guard := none }) (v := .pointer (some ⟨b8, 2, none⟩)) (l2 := LS18_9) K8 hq rfl NS18 (by kernel_rfl) (by kernel_rfl) (by kernel_rfl) rfl rfl (want_none rfl) (fun ev E w9 hSw => ?_) hS (fun a9 K9 => ?_)
  · have EC := E.const; have E9 := E.tmp 9 _ rfl; clear E K8 hN hq; clear hSw; go_simp
  clear K8
  refine dtake (i := 10) (o := { dst := (some 91), op := (Op.load 3 (Operand.tmp 90)), type := 3, pos := "law.go:41", after := #[{ on := 9, ground := Ground.data }], guard := none }) (v := .int .i64 b) (l2 := LS18_10) K9 hq rfl NS18 (by kernel_rfl) (by kernel_rfl) (by kernel_rfl) rfl rfl (want_none rfl) (fun ev E w9 hSw => ?_) hS (fun a10 K10 => ?_)
  · have EC := E.const; have E90 := E.tmp 90 _ rfl; clear E K9 hN hq; obtain ⟨z1, z2, z3⟩ := hSw; go_simp
  clear K9
  refine dcall (i := 5) (o := { dst := (some 86), op := (Op.call { callee := (Callee.value (Operand.func 19)), args := #[(Operand.tmp 81), (Operand.tmp 83), (Operand.tmp 85)], argTypes := #[23, 3, 3] }), type := 4, pos := "law.go:41", after := #[{ on := 0, ground := Ground.data }, { on := 2, ground := Ground.data }, { on := 4, ground := Ground.data }], guard := none }) (l2 := LS18_11) (f := 19) (args := #[.pointer (some ⟨p, 0, none⟩), .int .i64 a, .int .i64 b]) K10 rfl (by kernel_rfl) (by kernel_rfl) rfl rfl (want_none rfl) (fun ev E => ?_) (H.fst Rf.lies fun _ ha => aJoin _ _ ha) (fun e w11 hR => ?_)
  · have EC := E.const; have EF := E.func; have E81 := E.tmp 81 _ rfl; have E83 := E.tmp 83 _ rfl; have E85 := E.tmp 85 _ rfl; clear E K10 hN hq; go_simp
  obtain ⟨rfl, h6, k6⟩ := hR
  replace X := X.kept k6 (by simp)
  replace H := h6
  clear h6
  replace hS : (fun w' : World => w'.cell? ⟨b8, 1, none⟩ = some (.int .i64 a) ∧ w'.cell? ⟨b8, 2, none⟩ = some (.int .i64 b) ∧ w'.cell? ⟨b8, 3, none⟩ = some (.int .i64 c)) w11 := ⟨(X.cell (o := 1) rfl).1, (X.cell (o := 2) rfl).1, (X.cell (o := 3) rfl).1⟩
  refine ⟨_, rfl, hS, fun a11 K11 => ?_⟩
  clear k6
  clear K10
  refine dcall (i := 11) (o := { dst := (some 92), op := (Op.call { callee := (Callee.value (Operand.func 20)), args := #[(Operand.tmp 87), (Operand.tmp 89), (Operand.tmp 91)], argTypes := #[25, 3, 3] }), type := 4, pos := "law.go:41", after := #[{ on := 6, ground := Ground.data }, { on := 8, ground := Ground.data }, { on := 10, ground := Ground.data }, { on := 5, ground := Ground.chain }], guard := none }) (l2 := LS18_12) (f := 20) (args := #[.pointer (some ⟨q, 0, none⟩), .int .i64 a, .int .i64 b]) K11 rfl (by kernel_rfl) (by kernel_rfl) rfl rfl (want_none rfl) (fun ev E => ?_) (H.snd Rf.lies fun _ ha => xJoin _ _ ha) (fun e w12 hR => ?_)
  · have EC := E.const; have EF := E.func; have E87 := E.tmp 87 _ rfl; have E89 := E.tmp 89 _ rfl; have E91 := E.tmp 91 _ rfl; clear E K11 hN hq; go_simp
  obtain ⟨rfl, h6, k6⟩ := hR
  replace X := X.kept k6 (by simp)
  replace H := h6
  clear h6
  replace hS : (fun w' : World => w'.cell? ⟨b8, 1, none⟩ = some (.int .i64 a) ∧ w'.cell? ⟨b8, 2, none⟩ = some (.int .i64 b) ∧ w'.cell? ⟨b8, 3, none⟩ = some (.int .i64 c)) w12 := ⟨(X.cell (o := 1) rfl).1, (X.cell (o := 2) rfl).1, (X.cell (o := 3) rfl).1⟩
  refine ⟨_, rfl, hS, fun a12 K12 => ?_⟩
  clear k6
  clear K11
  refine dtake (i := 12) (o := { dst := (some 10), op := (Op.assign (Operand.tmp 86)), type := 4, pos := "law.go:41", after := #[{ on := 5, ground := Ground.data }, { on := 11, ground := Ground.chain }, { on := 0, ground := Ground.phase }, { on := 1, ground := Ground.phase }, { on := 2, ground := Ground.phase }, { on := 3, ground := Ground.phase }, { on := 4, ground := Ground.phase }, { on := 5, ground := Ground.phase }, { on := 6, ground := (Ground.textOnly Departure.lateStores) }, { on := 7, ground := (Ground.textOnly Departure.lateStores) }, { on := 8, ground := (Ground.textOnly Departure.lateStores) }, { on := 9, ground := (Ground.textOnly Departure.lateStores) }, { on := 10, ground := (Ground.textOnly Departure.lateStores) }, { on := 11, ground := (Ground.textOnly Departure.lateStoresUnsure) }], guard := none }) (v := .bool (T.joinB a b)) (l2 := LS18_13) K12 hq rfl NS18 (by kernel_rfl) (by kernel_rfl) (by kernel_rfl) rfl rfl (want_none rfl) (fun ev E w9 hSw => ?_) hS (fun a13 K13 => ?_)
  · have EC := E.const; have E86 := E.tmp 86 _ rfl; clear E K12 hN hq; clear hSw; go_simp
  clear K12
  refine dtake (i := 13) (o := { dst := (some 11), op := (Op.assign (Operand.tmp 92)), type := 4, pos := "law.go:41", after := #[{ on := 11, ground := Ground.data }, { on := 12, ground := Ground.chain }, { on := 0, ground := Ground.phase }, { on := 1, ground := Ground.phase }, { on := 2, ground := Ground.phase }, { on := 3, ground := Ground.phase }, { on := 4, ground := Ground.phase }, { on := 5, ground := Ground.phase }, { on := 6, ground := Ground.phase }, { on := 7, ground := Ground.phase }, { on := 8, ground := Ground.phase }, { on := 9, ground := Ground.phase }, { on := 10, ground := Ground.phase }, { on := 11, ground := Ground.phase }, { on := 12, ground := Ground.phase }], guard := none }) (v := .bool (T.joinB a b)) (l2 := LS18_14) K13 hq rfl NS18 (by kernel_rfl) (by kernel_rfl) (by kernel_rfl) rfl rfl (want_none rfl) (fun ev E w9 hSw => ?_) hS (fun a14 K14 => ?_)
  · have EC := E.const; have E92 := E.tmp 92 _ rfl; clear E K13 hN hq; clear hSw; go_simp
  clear K13
  refine wpAnyH_done (by kernel_rfl) ?_ _
  exact hN _ _ _ _ (K14.less ⟨rfl, rfl, rfl, rfl, rfl, rfl, rfl, trivial⟩) H X
set_option maxHeartbeats 4000000 in
theorem rg18 {w : World} {p q b8 : Nat} {T : Se} {x : Option Addr} {len cap m : Nat} {kd a b c : Int} {NX : Act → World → Prop} {a0 : Act} {V : World} (K0 : Kb a0 275 [(1, .slice x len cap), (6, .pointer (some ⟨p, 0, none⟩)), (7, .pointer (some ⟨q, 0, none⟩)), (8, .int .i64 (m : Int)), (9, .pointer (some ⟨b8, 0, none⟩)), (10, .bool false), (11, .bool false)]) (H : Ob2 RfAt w V p q T T [b8]) (X : BoxAt V b8 #[.int .i64 kd, .int .i64 a, .int .i64 b, .int .i64 c] 28) (hN : ∀ a' (r : Bool) (T' : Se) w', Kb a' 275 [(1, .slice x len cap), (6, .pointer (some ⟨p, 0, none⟩)), (7, .pointer (some ⟨q, 0, none⟩)), (8, .int .i64 (m : Int)), (9, .pointer (some ⟨b8, 0, none⟩)), (10, .bool r), (11, .bool r)] → Ob2 RfAt w w' p q T' T' [b8] → BoxAt w' b8 #[.int .i64 kd, .int .i64 a, .int .i64 b, .int .i64 c] 28 → NX a' w') :
    (Code.region 18 OPS18.toArray true).wp Try.prog (Norm NX) a0 V := by
  replace X := X.kept (H.below Rf.lies ((Below.refl _ _).drew)).2 (by simp)
  replace H := (H.below Rf.lies ((Below.refl _ _).drew)).1
  have hS : (fun w' : World => w'.cell? ⟨b8, 1, none⟩ = some (.int .i64 a) ∧ w'.cell? ⟨b8, 2, none⟩ = some (.int .i64 b) ∧ w'.cell? ⟨b8, 3, none⟩ = some (.int .i64 c)) V.drew := ⟨(X.cell (o := 1) rfl).1, (X.cell (o := 2) rfl).1, (X.cell (o := 3) rfl).1⟩
  refine wp_region_held_drew (S := (fun w' : World => w'.cell? ⟨b8, 1, none⟩ = some (.int .i64 a) ∧ w'.cell? ⟨b8, 2, none⟩ = some (.int .i64 b) ∧ w'.cell? ⟨b8, 3, none⟩ = some (.int .i64 c))) (by kernel_rfl) hS (fun hS => ?_)
  rw [show OPS18.toArray.size = 14 from by kernel_rfl, show Array.replicate 14 false = LS18_0 from by kernel_rfl]
  exact rg18_0 K0 H X hS hN
theorem NS20 : Region.noSelect OPS20.toArray = true := by kernel_rfl
def LS20_0 : Array Bool := pf 0 14
def LS20_1 : Array Bool := pf 1 13
def LS20_2 : Array Bool := pf 2 12
def LS20_3 : Array Bool := pf 3 11
def LS20_4 : Array Bool := pf 4 10
def LS20_5 : Array Bool := pf 5 9
def LS20_6 : Array Bool := [true, true, true, true, true, false, true, false, false, false, false, false, false, false].toArray
def LS20_7 : Array Bool := [true, true, true, true, true, false, true, true, false, false, false, false, false, false].toArray
def LS20_8 : Array Bool := [true, true, true, true, true, false, true, true, true, false, false, false, false, false].toArray
def LS20_9 : Array Bool := [true, true, true, true, true, false, true, true, true, true, false, false, false, false].toArray
def LS20_10 : Array Bool := [true, true, true, true, true, false, true, true, true, true, true, false, false, false].toArray
def LS20_11 : Array Bool := pf 11 3
def LS20_12 : Array Bool := pf 12 2
def LS20_13 : Array Bool := pf 13 1
def LS20_14 : Array Bool := pf 14 0
set_option maxHeartbeats 4000000 in
theorem rg20_0 {w : World} {p q b8 : Nat} {T : Se} {x : Option Addr} {len cap m : Nat} {kd a b c : Int} {NX : Act → World → Prop} {a0 : Act} {W : World} (K0 : Kb a0 275 [(1, .slice x len cap), (6, .pointer (some ⟨p, 0, none⟩)), (7, .pointer (some ⟨q, 0, none⟩)), (8, .int .i64 (m : Int)), (9, .pointer (some ⟨b8, 0, none⟩)), (10, .bool false), (11, .bool false)]) (H : Ob2 RfAt w W p q T T [b8]) (X : BoxAt W b8 #[.int .i64 kd, .int .i64 a, .int .i64 b, .int .i64 c] 28) (hS : (fun w' : World => w'.cell? ⟨b8, 1, none⟩ = some (.int .i64 a) ∧ w'.cell? ⟨b8, 2, none⟩ = some (.int .i64 b) ∧ w'.cell? ⟨b8, 3, none⟩ = some (.int .i64 c)) W) (hN : ∀ a' (r : Bool) (T' : Se) w', Kb a' 275 [(1, .slice x len cap), (6, .pointer (some ⟨p, 0, none⟩)), (7, .pointer (some ⟨q, 0, none⟩)), (8, .int .i64 (m : Int)), (9, .pointer (some ⟨b8, 0, none⟩)), (10, .bool r), (11, .bool r)] → Ob2 RfAt w w' p q T' T' [b8] → BoxAt w' b8 #[.int .i64 kd, .int .i64 a, .int .i64 b, .int .i64 c] 28 → NX a' w') :
    wpAnyH Try.prog .any OPS20.toArray (Norm NX) (fun w' : World => w'.cell? ⟨b8, 1, none⟩ = some (.int .i64 a) ∧ w'.cell? ⟨b8, 2, none⟩ = some (.int .i64 b) ∧ w'.cell? ⟨b8, 3, none⟩ = some (.int .i64 c)) 14 LS20_0 a0 W := by
  have hq : ∀ c a a' w', Norm NX (.panic c) a w' → Norm NX (.panic c) a' w' := fun _ _ _ _ h => h
  refine dtake (i := 0) (o := { dst := (some 95), op := (Op.move (Operand.tmp 6)), type := 23, pos := "law.go:43", after := #[], guard := none }) (v := .pointer (some ⟨p, 0, none⟩)) (l2 := LS20_1) K0 hq rfl NS20 (by kernel_rfl) (by kernel_rfl) (by kernel_rfl) rfl rfl (want_none rfl) (fun ev E w9 hSw => ?_) hS (fun a1 K1 => ?_)
  · have EC := E.const; have E6 := E.tmp 6 _ rfl; clear E K0 hN hq; clear hSw; go_simp
  refine dtake (i := 1) (o := { dst := (some 96), op := (Op.fieldAddr 28 (Operand.tmp 9) 1), type := 0, pos := "law.go:43", after := #[], guard := none }) (v := .pointer (some ⟨b8, 1, none⟩)) (l2 := LS20_2) K1 hq rfl NS20 (by kernel_rfl) (by kernel_rfl) (by kernel_rfl) rfl rfl (want_none rfl) (fun ev E w9 hSw => ?_) hS (fun a2 K2 => ?_)
  · have EC := E.const; have E9 := E.tmp 9 _ rfl; clear E K1 hN hq; clear hSw; go_simp
  clear K1
  refine dtake (i := 2) (o := { dst := (some 97), op := (Op.load 3 (Operand.tmp 96)), type := 3, pos := "law.go:43", after := #[{ on := 1, ground := Ground.data }], guard := none }) (v := .int .i64 a) (l2 := LS20_3) K2 hq rfl NS20 (by kernel_rfl) (by kernel_rfl) (by kernel_rfl) rfl rfl (want_none rfl) (fun ev E w9 hSw => ?_) hS (fun a3 K3 => ?_)
  · have EC := E.const; have E96 := E.tmp 96 _ rfl; clear E K2 hN hq; obtain ⟨z1, z2, z3⟩ := hSw; go_simp
  clear K2
  refine dtake (i := 3) (o := { dst := (some 98), op := (Op.fieldAddr 28 (Operand.tmp 9) 3), type := 0, pos := "law.go:43", after := #[], guard := none }) (v := .pointer (some ⟨b8, 3, none⟩)) (l2 := LS20_4) K3 hq rfl NS20 (by kernel_rfl) (by kernel_rfl) (by kernel_rfl) rfl rfl (want_none rfl) (fun ev E w9 hSw => ?_) hS (fun a4 K4 => ?_)
  · have EC := E.const; have E9 := E.tmp 9 _ rfl; clear E K3 hN hq; clear hSw; go_simp
  clear K3
  refine dtake (i := 4) (o := { dst := (some 99), op := (Op.load 3 (Operand.tmp 98)), type := 3, pos := "law.go:43", after := #[{ on := 3, ground := Ground.data }], guard := none }) (v := .int .i64 c) (l2 := LS20_5) K4 hq rfl NS20 (by kernel_rfl) (by kernel_rfl) (by kernel_rfl) rfl rfl (want_none rfl) (fun ev E w9 hSw => ?_) hS (fun a5 K5 => ?_)
  · have EC := E.const; have E98 := E.tmp 98 _ rfl; clear E K4 hN hq; obtain ⟨z1, z2, z3⟩ := hSw; go_simp
  clear K4
  refine dtake (i := 6) (o := { dst := (some 101), op := (Op.move (Operand.tmp 7)), type := 25, pos := "law.go:43", after := #[], guard := none }) (v := .pointer (some ⟨q, 0, none⟩)) (l2 := LS20_6) K5 hq rfl NS20 (by kernel_rfl) (by kernel_rfl) (by kernel_rfl) rfl rfl (want_none rfl) (fun ev E w9 hSw => ?_) hS (fun a6 K6 => ?_)
  · have EC := E.const; have E7 := E.tmp 7 _ rfl; clear E K5 hN hq; clear hSw; go_simp
  clear K5
  refine dtake (i := 7) (o := { dst := (some 102), op := (Op.fieldAddr 28 (Operand.tmp 9) 1), type := 0, pos := "law.go:43", after := #[], guard := none }) (v := .pointer (some ⟨b8, 1, none⟩)) (l2 := LS20_7) K6 hq rfl NS20 (by kernel_rfl) (by kernel_rfl) (by kernel_rfl) rfl rfl (want_none rfl) (fun ev E w9 hSw => ?_) hS (fun a7 K7 => ?_)
  · have EC := E.const; have E9 := E.tmp 9 _ rfl; clear E K6 hN hq; clear hSw; go_simp
  clear K6
  refine dtake (i := 8) (o := { dst := (some 103), op := (Op.load 3 (Operand.tmp 102)), type := 3, pos := "law.go:43", after := #[{ on := 7, ground := Ground.data }], guard := none }) (v := .int .i64 a) (l2 := LS20_8) K7 hq rfl NS20 (by kernel_rfl) (by kernel_rfl) (by kernel_rfl) rfl rfl (want_none rfl) (fun ev E w9 hSw => ?_) hS (fun a8 K8 => ?_)
  · have EC := E.const; have E102 := E.tmp 102 _ rfl; clear E K7 hN hq; obtain ⟨z1, z2, z3⟩ := hSw; go_simp
  clear K7
  refine dtake (i := 9) (o := { dst := (some 104), op := (Op.fieldAddr 28 (Operand.tmp 9) 3), type := 0, pos := "law.go:43", after := #[], guard := none }) (v := .pointer (some ⟨b8, 3, none⟩)) (l2 := LS20_9) K8 hq rfl NS20 (by kernel_rfl) (by kernel_rfl) (by kernel_rfl) rfl rfl (want_none rfl) (fun ev E w9 hSw => ?_) hS (fun a9 K9 => ?_)
  · have EC := E.const; have E9 := E.tmp 9 _ rfl; clear E K8 hN hq; clear hSw; go_simp
  clear K8
  refine dtake (i := 10) (o := { dst := (some 105), op := (Op.load 3 (Operand.tmp 104)), type := 3, pos := "law.go:43", after := #[{ on := 9, ground := Ground.data }], guard := none }) (v := .int .i64 c) (l2 := LS20_10) K9 hq rfl NS20 (by kernel_rfl) (by kernel_rfl) (by kernel_rfl) rfl rfl (want_none rfl) (fun ev E w9 hSw => ?_) hS (fun a10 K10 => ?_)
  · have EC := E.const; have E104 := E.tmp 104 _ rfl; clear E K9 hN hq; obtain ⟨z1, z2, z3⟩ := hSw; go_simp
  clear K9
  refine dcall (i := 5) (o := { dst := (some 100), op := (Op.call { callee := (Callee.value (Operand.func 21)), args := #[(Operand.tmp 95), (Operand.tmp 97), (Operand.tmp 99)], argTypes := #[23, 3, 3] }), type := 4, pos := "law.go:43", after := #[{ on := 0, ground := Ground.data }, { on := 2, ground := Ground.data }, { on := 4, ground := Ground.data }], guard := none }) (l2 := LS20_11) (f := 21) (args := #[.pointer (some ⟨p, 0, none⟩), .int .i64 a, .int .i64 c]) K10 rfl (by kernel_rfl) (by kernel_rfl) rfl rfl (want_none rfl) (fun ev E => ?_) (H.fst Rf.lies fun _ ha => aSet _ _ ha) (fun e w11 hR => ?_)
  · have EC := E.const; have EF := E.func; have E95 := E.tmp 95 _ rfl; have E97 := E.tmp 97 _ rfl; have E99 := E.tmp 99 _ rfl; clear E K10 hN hq; go_simp
  obtain ⟨rfl, h6, k6⟩ := hR
  replace X := X.kept k6 (by simp)
  replace H := h6
  clear h6
  replace hS : (fun w' : World => w'.cell? ⟨b8, 1, none⟩ = some (.int .i64 a) ∧ w'.cell? ⟨b8, 2, none⟩ = some (.int .i64 b) ∧ w'.cell? ⟨b8, 3, none⟩ = some (.int .i64 c)) w11 := ⟨(X.cell (o := 1) rfl).1, (X.cell (o := 2) rfl).1, (X.cell (o := 3) rfl).1⟩
  refine ⟨_, rfl, hS, fun a11 K11 => ?_⟩
  clear k6
  clear K10
  refine dcall (i := 11) (o := { dst := (some 106), op := (Op.call { callee := (Callee.value (Operand.func 22)), args := #[(Operand.tmp 101), (Operand.tmp 103), (Operand.tmp 105)], argTypes := #[25, 3, 3] }), type := 4, pos := "law.go:43", after := #[{ on := 6, ground := Ground.data }, { on := 8, ground := Ground.data }, { on := 10, ground := Ground.data }, { on := 5, ground := Ground.chain }], guard := none }) (l2 := LS20_12) (f := 22) (args := #[.pointer (some ⟨q, 0, none⟩), .int .i64 a, .int .i64 c]) K11 rfl (by kernel_rfl) (by kernel_rfl) rfl rfl (want_none rfl) (fun ev E => ?_) (H.snd Rf.lies fun _ ha => xSet _ _ ha) (fun e w12 hR => ?_)
  · have EC := E.const; have EF := E.func; have E101 := E.tmp 101 _ rfl; have E103 := E.tmp 103 _ rfl; have E105 := E.tmp 105 _ rfl; clear E K11 hN hq; go_simp
  obtain ⟨rfl, h6, k6⟩ := hR
  replace X := X.kept k6 (by simp)
  replace H := h6
  clear h6
  replace hS : (fun w' : World => w'.cell? ⟨b8, 1, none⟩ = some (.int .i64 a) ∧ w'.cell? ⟨b8, 2, none⟩ = some (.int .i64 b) ∧ w'.cell? ⟨b8, 3, none⟩ = some (.int .i64 c)) w12 := ⟨(X.cell (o := 1) rfl).1, (X.cell (o := 2) rfl).1, (X.cell (o := 3) rfl).1⟩
  refine ⟨_, rfl, hS, fun a12 K12 => ?_⟩
  clear k6
  clear K11
  refine dtake (i := 12) (o := { dst := (some 10), op := (Op.assign (Operand.tmp 100)), type := 4, pos := "law.go:43", after := #[{ on := 5, ground := Ground.data }, { on := 11, ground := Ground.chain }, { on := 0, ground := Ground.phase }, { on := 1, ground := Ground.phase }, { on := 2, ground := Ground.phase }, { on := 3, ground := Ground.phase }, { on := 4, ground := Ground.phase }, { on := 5, ground := Ground.phase }, { on := 6, ground := (Ground.textOnly Departure.lateStores) }, { on := 7, ground := (Ground.textOnly Departure.lateStores) }, { on := 8, ground := (Ground.textOnly Departure.lateStores) }, { on := 9, ground := (Ground.textOnly Departure.lateStores) }, { on := 10, ground := (Ground.textOnly Departure.lateStores) }, { on := 11, ground := (Ground.textOnly Departure.lateStoresUnsure) }], guard := none }) (v := .bool (T.setB a c)) (l2 := LS20_13) K12 hq rfl NS20 (by kernel_rfl) (by kernel_rfl) (by kernel_rfl) rfl rfl (want_none rfl) (fun ev E w9 hSw => ?_) hS (fun a13 K13 => ?_)
  · have EC := E.const; have E100 := E.tmp 100 _ rfl; clear E K12 hN hq; clear hSw; go_simp
  clear K12
  refine dtake (i := 13) (o := { dst := (some 11), op := (Op.assign (Operand.tmp 106)), type := 4, pos := "law.go:43", after := #[{ on := 11, ground := Ground.data }, { on := 12, ground := Ground.chain }, { on := 0, ground := Ground.phase }, { on := 1, ground := Ground.phase }, { on := 2, ground := Ground.phase }, { on := 3, ground := Ground.phase }, { on := 4, ground := Ground.phase }, { on := 5, ground := Ground.phase }, { on := 6, ground := Ground.phase }, { on := 7, ground := Ground.phase }, { on := 8, ground := Ground.phase }, { on := 9, ground := Ground.phase }, { on := 10, ground := Ground.phase }, { on := 11, ground := Ground.phase }, { on := 12, ground := Ground.phase }], guard := none }) (v := .bool (T.setB a c)) (l2 := LS20_14) K13 hq rfl NS20 (by kernel_rfl) (by kernel_rfl) (by kernel_rfl) rfl rfl (want_none rfl) (fun ev E w9 hSw => ?_) hS (fun a14 K14 => ?_)
  · have EC := E.const; have E106 := E.tmp 106 _ rfl; clear E K13 hN hq; clear hSw; go_simp
  clear K13
  refine wpAnyH_done (by kernel_rfl) ?_ _
  exact hN _ _ _ _ (K14.less ⟨rfl, rfl, rfl, rfl, rfl, rfl, rfl, trivial⟩) H X
set_option maxHeartbeats 4000000 in
theorem rg20 {w : World} {p q b8 : Nat} {T : Se} {x : Option Addr} {len cap m : Nat} {kd a b c : Int} {NX : Act → World → Prop} {a0 : Act} {V : World} (K0 : Kb a0 275 [(1, .slice x len cap), (6, .pointer (some ⟨p, 0, none⟩)), (7, .pointer (some ⟨q, 0, none⟩)), (8, .int .i64 (m : Int)), (9, .pointer (some ⟨b8, 0, none⟩)), (10, .bool false), (11, .bool false)]) (H : Ob2 RfAt w V p q T T [b8]) (X : BoxAt V b8 #[.int .i64 kd, .int .i64 a, .int .i64 b, .int .i64 c] 28) (hN : ∀ a' (r : Bool) (T' : Se) w', Kb a' 275 [(1, .slice x len cap), (6, .pointer (some ⟨p, 0, none⟩)), (7, .pointer (some ⟨q, 0, none⟩)), (8, .int .i64 (m : Int)), (9, .pointer (some ⟨b8, 0, none⟩)), (10, .bool r), (11, .bool r)] → Ob2 RfAt w w' p q T' T' [b8] → BoxAt w' b8 #[.int .i64 kd, .int .i64 a, .int .i64 b, .int .i64 c] 28 → NX a' w') :
    (Code.region 20 OPS20.toArray true).wp Try.prog (Norm NX) a0 V := by
  replace X := X.kept (H.below Rf.lies ((Below.refl _ _).drew)).2 (by simp)
  replace H := (H.below Rf.lies ((Below.refl _ _).drew)).1
  have hS : (fun w' : World => w'.cell? ⟨b8, 1, none⟩ = some (.int .i64 a) ∧ w'.cell? ⟨b8, 2, none⟩ = some (.int .i64 b) ∧ w'.cell? ⟨b8, 3, none⟩ = some (.int .i64 c)) V.drew := ⟨(X.cell (o := 1) rfl).1, (X.cell (o := 2) rfl).1, (X.cell (o := 3) rfl).1⟩
  refine wp_region_held_drew (S := (fun w' : World => w'.cell? ⟨b8, 1, none⟩ = some (.int .i64 a) ∧ w'.cell? ⟨b8, 2, none⟩ = some (.int .i64 b) ∧ w'.cell? ⟨b8, 3, none⟩ = some (.int .i64 c))) (by kernel_rfl) hS (fun hS => ?_)
  rw [show OPS20.toArray.size = 14 from by kernel_rfl, show Array.replicate 14 false = LS20_0 from by kernel_rfl]
  exact rg20_0 K0 H X hS hN
theorem NS22 : Region.noSelect OPS22.toArray = true := by kernel_rfl
def LS22_0 : Array Bool := pf 0 18
def LS22_1 : Array Bool := pf 1 17
def LS22_2 : Array Bool := pf 2 16
def LS22_3 : Array Bool := pf 3 15
def LS22_4 : Array Bool := pf 4 14
def LS22_5 : Array Bool := pf 5 13
def LS22_6 : Array Bool := pf 6 12
def LS22_7 : Array Bool := pf 7 11
def LS22_8 : Array Bool := [true, true, true, true, true, true, true, false, true, false, false, false, false, false, false, false, false, false].toArray
def LS22_9 : Array Bool := [true, true, true, true, true, true, true, false, true, true, false, false, false, false, false, false, false, false].toArray
def LS22_10 : Array Bool := [true, true, true, true, true, true, true, false, true, true, true, false, false, false, false, false, false, false].toArray
def LS22_11 : Array Bool := [true, true, true, true, true, true, true, false, true, true, true, true, false, false, false, false, false, false].toArray
def LS22_12 : Array Bool := [true, true, true, true, true, true, true, false, true, true, true, true, true, false, false, false, false, false].toArray
def LS22_13 : Array Bool := [true, true, true, true, true, true, true, false, true, true, true, true, true, true, false, false, false, false].toArray
def LS22_14 : Array Bool := [true, true, true, true, true, true, true, false, true, true, true, true, true, true, true, false, false, false].toArray
def LS22_15 : Array Bool := pf 15 3
def LS22_16 : Array Bool := pf 16 2
def LS22_17 : Array Bool := pf 17 1
def LS22_18 : Array Bool := pf 18 0
set_option maxHeartbeats 4000000 in
theorem rg22_0 {w : World} {p q b8 : Nat} {T : Se} {x : Option Addr} {len cap m : Nat} {kd a b c : Int} {NX : Act → World → Prop} {a0 : Act} {W : World} (K0 : Kb a0 275 [(1, .slice x len cap), (6, .pointer (some ⟨p, 0, none⟩)), (7, .pointer (some ⟨q, 0, none⟩)), (8, .int .i64 (m : Int)), (9, .pointer (some ⟨b8, 0, none⟩)), (10, .bool false), (11, .bool false)]) (H : Ob2 RfAt w W p q T T [b8]) (X : BoxAt W b8 #[.int .i64 kd, .int .i64 a, .int .i64 b, .int .i64 c] 28) (hS : (fun w' : World => w'.cell? ⟨b8, 1, none⟩ = some (.int .i64 a) ∧ w'.cell? ⟨b8, 2, none⟩ = some (.int .i64 b) ∧ w'.cell? ⟨b8, 3, none⟩ = some (.int .i64 c)) W) (hN : ∀ a' (r : Bool) (T' : Se) w', Kb a' 275 [(1, .slice x len cap), (6, .pointer (some ⟨p, 0, none⟩)), (7, .pointer (some ⟨q, 0, none⟩)), (8, .int .i64 (m : Int)), (9, .pointer (some ⟨b8, 0, none⟩)), (10, .bool r), (11, .bool r)] → Ob2 RfAt w w' p q T' T' [b8] → BoxAt w' b8 #[.int .i64 kd, .int .i64 a, .int .i64 b, .int .i64 c] 28 → NX a' w') :
    wpAnyH Try.prog .any OPS22.toArray (Norm NX) (fun w' : World => w'.cell? ⟨b8, 1, none⟩ = some (.int .i64 a) ∧ w'.cell? ⟨b8, 2, none⟩ = some (.int .i64 b) ∧ w'.cell? ⟨b8, 3, none⟩ = some (.int .i64 c)) 18 LS22_0 a0 W := by
  have hq : ∀ c a a' w', Norm NX (.panic c) a w' → Norm NX (.panic c) a' w' := fun _ _ _ _ h => h
  refine dtake (i := 0) (o := { dst := (some 109), op := (Op.move (Operand.tmp 6)), type := 23, pos := "law.go:45", after := #[], guard := none }) (v := .pointer (some ⟨p, 0, none⟩)) (l2 := LS22_1) K0 hq rfl NS22 (by kernel_rfl) (by kernel_rfl) (by kernel_rfl) rfl rfl (want_none rfl) (fun ev E w9 hSw => ?_) hS (fun a1 K1 => ?_)
  · have EC := E.const; have E6 := E.tmp 6 _ rfl; clear E K0 hN hq; clear hSw; go_simp
  refine dtake (i := 1) (o := { dst := (some 110), op := (Op.fieldAddr 28 (Operand.tmp 9) 1), type := 0, pos := "law.go:45", after := #[], guard := none }) (v := .pointer (some ⟨b8, 1, none⟩)) (l2 := LS22_2) K1 hq rfl NS22 (by kernel_rfl) (by kernel_rfl) (by kernel_rfl) rfl rfl (want_none rfl) (fun ev E w9 hSw => ?_) hS (fun a2 K2 => ?_)
  · have EC := E.const; have E9 := E.tmp 9 _ rfl; clear E K1 hN hq; clear hSw; go_simp
  clear K1
  refine dtake (i := 2) (o := { dst := (some 111), op := (Op.load 3 (Operand.tmp 110)), type := 3, pos := "law.go:45", after := #[{ on := 1, ground := Ground.data }], guard := none }) (v := .int .i64 a) (l2 := LS22_3) K2 hq rfl NS22 (by kernel_rfl) (by kernel_rfl) (by kernel_rfl) rfl rfl (want_none rfl) (fun ev E w9 hSw => ?_) hS (fun a3 K3 => ?_)
  · have EC := E.const; have E110 := E.tmp 110 _ rfl; clear E K2 hN hq; obtain ⟨z1, z2, z3⟩ := hSw; go_simp
  clear K2
  refine dtake (i := 3) (o := { dst := (some 112), op := (Op.fieldAddr 28 (Operand.tmp 9) 2), type := 0, pos := "law.go:45", after := #[], guard := none }) (v := .pointer (some ⟨b8, 2, none⟩)) (l2 := LS22_4) K3 hq rfl NS22 (by kernel_rfl) (by kernel_rfl) (by kernel_rfl) rfl rfl (want_none rfl) (fun ev E w9 hSw => ?_) hS (fun a4 K4 => ?_)
  · have EC := E.const; have E9 := E.tmp 9 _ rfl; clear E K3 hN hq; clear hSw; go_simp
  clear K3
  refine dtake (i := 4) (o := { dst := (some 113), op := (Op.load 3 (Operand.tmp 112)), type := 3, pos := "law.go:45", after := #[{ on := 3, ground := Ground.data }], guard := none }) (v := .int .i64 b) (l2 := LS22_5) K4 hq rfl NS22 (by kernel_rfl) (by kernel_rfl) (by kernel_rfl) rfl rfl (want_none rfl) (fun ev E w9 hSw => ?_) hS (fun a5 K5 => ?_)
  · have EC := E.const; have E112 := E.tmp 112 _ rfl; clear E K4 hN hq; obtain ⟨z1, z2, z3⟩ := hSw; go_simp
  clear K4
  refine dtake (i := 5) (o := { dst := (some 114), op := (Op.fieldAddr 28 (Operand.tmp 9) 3), type := 0, pos := "law.go:45", after := #[], guard := none }) (v := .pointer (some ⟨b8, 3, none⟩)) (l2 := LS22_6) K5 hq rfl NS22 (by kernel_rfl) (by kernel_rfl) (by kernel_rfl) rfl rfl (want_none rfl) (fun ev E w9 hSw => ?_) hS (fun a6 K6 => ?_)
  · have EC := E.const; have E9 := E.tmp 9 _ rfl; clear E K5 hN hq; clear hSw; go_simp
  clear K5
  refine dtake (i := 6) (o := { dst := (some 115), op := (Op.load 3 (Operand.tmp 114)), type := 3, pos := "law.go:45", after := #[{ on := 5, ground := Ground.data }], guard := none }) (v := .int .i64 c) (l2 := LS22_7) K6 hq rfl NS22 (by kernel_rfl) (by kernel_rfl) (by kernel_rfl) rfl rfl (want_none rfl) (fun ev E w9 hSw => ?_) hS (fun a7 K7 => ?_)
  · have EC := E.const; have E114 := E.tmp 114 _ rfl; clear E K6 hN hq; obtain ⟨z1, z2, z3⟩ := hSw; go_simp
  clear K6
  refine dtake (i := 8) (o := { dst := (some 117), op := (Op.move (Operand.tmp 7)), type := 25, pos := "law.go:45", after := #[], guard := none }) (v := .pointer (some ⟨q, 0, none⟩)) (l2 := LS22_8) K7 hq rfl NS22 (by kernel_rfl) (by kernel_rfl) (by kernel_rfl) rfl rfl (want_none rfl) (fun ev E w9 hSw => ?_) hS (fun a8 K8 => ?_)
  · have EC := E.const; have E7 := E.tmp 7 _ rfl; clear E K7 hN hq; clear hSw; go_simp
  clear K7
  refine dtake (i := 9) (o := { dst := (some 118), op := (Op.fieldAddr 28 (Operand.tmp 9) 1), type := 0, pos := "law.go:45", after := #[], guard := none }) (v := .pointer (some ⟨b8, 1, none⟩)) (l2 := LS22_9) K8 hq rfl NS22 (by kernel_rfl) (by kernel_rfl) (by kernel_rfl) rfl rfl (want_none rfl) (fun ev E w9 hSw => ?_) hS (fun a9 K9 => ?_)
  · have EC := E.const; have E9 := E.tmp 9 _ rfl; clear E K8 hN hq; clear hSw; go_simp
  clear K8
  refine dtake (i := 10) (o := { dst := (some 119), op := (Op.load 3 (Operand.tmp 118)), type := 3, pos := "law.go:45", after := #[{ on := 9, ground := Ground.data }], guard := none }) (v := .int .i64 a) (l2 := LS22_10) K9 hq rfl NS22 (by kernel_rfl) (by kernel_rfl) (by kernel_rfl) rfl rfl (want_none rfl) (fun ev E w9 hSw => ?_) hS (fun a10 K10 => ?_)
  · have EC := E.const; have E118 := E.tmp 118 _ rfl; clear E K9 hN hq; obtain ⟨z1, z2, z3⟩ := hSw; go_simp
  clear K9
  refine dtake (i := 11) (o := { dst := (some 120), op := (Op.fieldAddr 28 (Operand.tmp 9) 2), type := 0, pos := "law.go:45", after := #[], guard := none }) (v := .pointer (some ⟨b8, 2, none⟩)) (l2 := LS22_11) K10 hq rfl NS22 (by kernel_rfl) (by kernel_rfl) (by kernel_rfl) rfl rfl (want_none rfl) (fun ev E w9 hSw => ?_) hS (fun a11 K11 => ?_)
  · have EC := E.const; have E9 := E.tmp 9 _ rfl; clear E K10 hN hq; clear hSw; go_simp
  clear K10
  refine dtake (i := 12) (o := { dst := (some 121), op := (Op.load 3 (Operand.tmp 120)), type := 3, pos := "law.go:45", after := #[{ on := 11, ground := Ground.data }], guard := none }) (v := .int .i64 b) (l2 := LS22_12) K11 hq rfl NS22 (by kernel_rfl) (by kernel_rfl) (by kernel_rfl) rfl rfl (want_none rfl) (fun ev E w9 hSw => ?_) hS (fun a12 K12 => ?_)
  · have EC := E.const; have E120 := E.tmp 120 _ rfl; clear E K11 hN hq; obtain ⟨z1, z2, z3⟩ := hSw; go_simp
  clear K11
  refine dtake (i := 13) (o := { dst := (some 122), op := (Op.fieldAddr 28 (Operand.tmp 9) 3), type := 0, pos := "law.go:45", after := #[], guard := none }) (v := .pointer (some ⟨b8, 3, none⟩)) (l2 := LS22_13) K12 hq rfl NS22 (by kernel_rfl) (by kernel_rfl) (by kernel_rfl) rfl rfl (want_none rfl) (fun ev E w9 hSw => ?_) hS (fun a13 K13 => ?_)
  · have EC := E.const; have E9 := E.tmp 9 _ rfl; clear E K12 hN hq; clear hSw; go_simp
  clear K12
  refine dtake (i := 14) (o := { dst := (some 123), op := (Op.load 3 (Operand.tmp 122)), type := 3, pos := "law.go:45", after := #[{ on := 13, ground := Ground.data }], guard := none }) (v := .int .i64 c) (l2 := LS22_14) K13 hq rfl NS22 (by kernel_rfl) (by kernel_rfl) (by kernel_rfl) rfl rfl (want_none rfl) (fun ev E w9 hSw => ?_) hS (fun a14 K14 => ?_)
  · have EC := E.const; have E122 := E.tmp 122 _ rfl; clear E K13 hN hq; obtain ⟨z1, z2, z3⟩ := hSw; go_simp
  clear K13
  refine dcall (i := 7) (o := { dst := (some 116), op := (Op.call { callee := (Callee.value (Operand.func 23)), args := #[(Operand.tmp 109), (Operand.tmp 111), (Operand.tmp 113), (Operand.tmp 115)], argTypes := #[23, 3, 3, 3] }), type := 4, pos := "law.go:45", after := #[{ on := 0, ground := Ground.data }, { on := 2, ground := Ground.data }, { on := 4, ground := Ground.data }, { on := 6, ground := Ground.data }], guard := none }) (l2 := LS22_15) (f := 23) (args := #[.pointer (some ⟨p, 0, none⟩), .int .i64 a, .int .i64 b, .int .i64 c]) K14 rfl (by kernel_rfl) (by kernel_rfl) rfl rfl (want_none rfl) (fun ev E => ?_) (H.fst Rf.lies fun _ ha => aLift _ _ _ ha) (fun e w15 hR => ?_)
  · have EC := E.const; have EF := E.func; have E109 := E.tmp 109 _ rfl; have E111 := E.tmp 111 _ rfl; have E113 := E.tmp 113 _ rfl; have E115 := E.tmp 115 _ rfl; clear E K14 hN hq; go_simp
  obtain ⟨rfl, h6, k6⟩ := hR
  replace X := X.kept k6 (by simp)
  replace H := h6
  clear h6
  replace hS : (fun w' : World => w'.cell? ⟨b8, 1, none⟩ = some (.int .i64 a) ∧ w'.cell? ⟨b8, 2, none⟩ = some (.int .i64 b) ∧ w'.cell? ⟨b8, 3, none⟩ = some (.int .i64 c)) w15 := ⟨(X.cell (o := 1) rfl).1, (X.cell (o := 2) rfl).1, (X.cell (o := 3) rfl).1⟩
  refine ⟨_, rfl, hS, fun a15 K15 => ?_⟩
  clear k6
  clear K14
  refine dcall (i := 15) (o := { dst := (some 124), op := (Op.call { callee := (Callee.value (Operand.func 24)), args := #[(Operand.tmp 117), (Operand.tmp 119), (Operand.tmp 121), (Operand.tmp 123)], argTypes := #[25, 3, 3, 3] }), type := 4, pos := "law.go:45", after := #[{ on := 8, ground := Ground.data }, { on := 10, ground := Ground.data }, { on := 12, ground := Ground.data }, { on := 14, ground := Ground.data }, { on := 7, ground := Ground.chain }], guard := none }) (l2 := LS22_16) (f := 24) (args := #[.pointer (some ⟨q, 0, none⟩), .int .i64 a, .int .i64 b, .int .i64 c]) K15 rfl (by kernel_rfl) (by kernel_rfl) rfl rfl (want_none rfl) (fun ev E => ?_) (H.snd Rf.lies fun _ ha => xLift _ _ _ ha) (fun e w16 hR => ?_)
  · have EC := E.const; have EF := E.func; have E117 := E.tmp 117 _ rfl; have E119 := E.tmp 119 _ rfl; have E121 := E.tmp 121 _ rfl; have E123 := E.tmp 123 _ rfl; clear E K15 hN hq; go_simp
  obtain ⟨rfl, h6, k6⟩ := hR
  replace X := X.kept k6 (by simp)
  replace H := h6
  clear h6
  replace hS : (fun w' : World => w'.cell? ⟨b8, 1, none⟩ = some (.int .i64 a) ∧ w'.cell? ⟨b8, 2, none⟩ = some (.int .i64 b) ∧ w'.cell? ⟨b8, 3, none⟩ = some (.int .i64 c)) w16 := ⟨(X.cell (o := 1) rfl).1, (X.cell (o := 2) rfl).1, (X.cell (o := 3) rfl).1⟩
  refine ⟨_, rfl, hS, fun a16 K16 => ?_⟩
  clear k6
  clear K15
  refine dtake (i := 16) (o := { dst := (some 10), op := (Op.assign (Operand.tmp 116)), type := 4, pos := "law.go:45", after := #[{ on := 7, ground := Ground.data }, { on := 15, ground := Ground.chain }, { on := 0, ground := Ground.phase }, { on := 1, ground := Ground.phase }, { on := 2, ground := Ground.phase }, { on := 3, ground := Ground.phase }, { on := 4, ground := Ground.phase }, { on := 5, ground := Ground.phase }, { on := 6, ground := Ground.phase }, { on := 7, ground := Ground.phase }, { on := 8, ground := (Ground.textOnly Departure.lateStores) }, { on := 9, ground := (Ground.textOnly Departure.lateStores) }, { on := 10, ground := (Ground.textOnly Departure.lateStores) }, { on := 11, ground := (Ground.textOnly Departure.lateStores) }, { on := 12, ground := (Ground.textOnly Departure.lateStores) }, { on := 13, ground := (Ground.textOnly Departure.lateStores) }, { on := 14, ground := (Ground.textOnly Departure.lateStores) }, { on := 15, ground := (Ground.textOnly Departure.lateStoresUnsure) }], guard := none }) (v := .bool (T.liftB a b c)) (l2 := LS22_17) K16 hq rfl NS22 (by kernel_rfl) (by kernel_rfl) (by kernel_rfl) rfl rfl (want_none rfl) (fun ev E w9 hSw => ?_) hS (fun a17 K17 => ?_)
  · have EC := E.const; have E116 := E.tmp 116 _ rfl; clear E K16 hN hq; clear hSw; go_simp
  clear K16
  refine dtake (i := 17) (o := { dst := (some 11), op := (Op.assign (Operand.tmp 124)), type := 4, pos := "law.go:45", after := #[{ on := 15, ground := Ground.data }, { on := 16, ground := Ground.chain }, { on := 0, ground := Ground.phase }, { on := 1, ground := Ground.phase }, { on := 2, ground := Ground.phase }, { on := 3, ground := Ground.phase }, { on := 4, ground := Ground.phase }, { on := 5, ground := Ground.phase }, { on := 6, ground := Ground.phase }, { on := 7, ground := Ground.phase }, { on := 8, ground := Ground.phase }, { on := 9, ground := Ground.phase }, { on := 10, ground := Ground.phase }, { on := 11, ground := Ground.phase }, { on := 12, ground := Ground.phase }, { on := 13, ground := Ground.phase }, { on := 14, ground := Ground.phase }, { on := 15, ground := Ground.phase }, { on := 16, ground := Ground.phase }], guard := none }) (v := .bool (T.liftB a b c)) (l2 := LS22_18) K17 hq rfl NS22 (by kernel_rfl) (by kernel_rfl) (by kernel_rfl) rfl rfl (want_none rfl) (fun ev E w9 hSw => ?_) hS (fun a18 K18 => ?_)
  · have EC := E.const; have E124 := E.tmp 124 _ rfl; clear E K17 hN hq; clear hSw; go_simp
  clear K17
  refine wpAnyH_done (by kernel_rfl) ?_ _
  exact hN _ _ _ _ (K18.less ⟨rfl, rfl, rfl, rfl, rfl, rfl, rfl, trivial⟩) H X
set_option maxHeartbeats 4000000 in
theorem rg22 {w : World} {p q b8 : Nat} {T : Se} {x : Option Addr} {len cap m : Nat} {kd a b c : Int} {NX : Act → World → Prop} {a0 : Act} {V : World} (K0 : Kb a0 275 [(1, .slice x len cap), (6, .pointer (some ⟨p, 0, none⟩)), (7, .pointer (some ⟨q, 0, none⟩)), (8, .int .i64 (m : Int)), (9, .pointer (some ⟨b8, 0, none⟩)), (10, .bool false), (11, .bool false)]) (H : Ob2 RfAt w V p q T T [b8]) (X : BoxAt V b8 #[.int .i64 kd, .int .i64 a, .int .i64 b, .int .i64 c] 28) (hN : ∀ a' (r : Bool) (T' : Se) w', Kb a' 275 [(1, .slice x len cap), (6, .pointer (some ⟨p, 0, none⟩)), (7, .pointer (some ⟨q, 0, none⟩)), (8, .int .i64 (m : Int)), (9, .pointer (some ⟨b8, 0, none⟩)), (10, .bool r), (11, .bool r)] → Ob2 RfAt w w' p q T' T' [b8] → BoxAt w' b8 #[.int .i64 kd, .int .i64 a, .int .i64 b, .int .i64 c] 28 → NX a' w') :
    (Code.region 22 OPS22.toArray true).wp Try.prog (Norm NX) a0 V := by
  replace X := X.kept (H.below Rf.lies ((Below.refl _ _).drew)).2 (by simp)
  replace H := (H.below Rf.lies ((Below.refl _ _).drew)).1
  have hS : (fun w' : World => w'.cell? ⟨b8, 1, none⟩ = some (.int .i64 a) ∧ w'.cell? ⟨b8, 2, none⟩ = some (.int .i64 b) ∧ w'.cell? ⟨b8, 3, none⟩ = some (.int .i64 c)) V.drew := ⟨(X.cell (o := 1) rfl).1, (X.cell (o := 2) rfl).1, (X.cell (o := 3) rfl).1⟩
  refine wp_region_held_drew (S := (fun w' : World => w'.cell? ⟨b8, 1, none⟩ = some (.int .i64 a) ∧ w'.cell? ⟨b8, 2, none⟩ = some (.int .i64 b) ∧ w'.cell? ⟨b8, 3, none⟩ = some (.int .i64 c))) (by kernel_rfl) hS (fun hS => ?_)
  rw [show OPS22.toArray.size = 18 from by kernel_rfl, show Array.replicate 18 false = LS22_0 from by kernel_rfl]
  exact rg22_0 K0 H X hS hN
end Go.Proofs.Ytbkneonbpcmepaa

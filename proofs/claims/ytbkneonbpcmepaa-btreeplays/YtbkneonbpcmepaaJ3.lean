/- The document's pool: weights from one item to another one are raised. -/
import Derived.Test.YtbkneonbpcmepaaJ2
import Derived.Test.YtbkneonbpcmepaaJ5
namespace Go.Proofs.Ytbkneonbpcmepaa
open Go.RowKit Go.Arb
set_option linter.unusedVariables false
set_option linter.unusedSimpArgs false
set_option maxRecDepth 100000

def OPS24_0 : List Oper := [({ dst := (some 8), op := (Op.assign (Operand.const (Value.bool false))), type := 4, pos := "ref.go:156", after := #[], guard := none } : Oper)]
def OPS24_1 : List Oper := [({ dst := (some 21), op := (Op.move (Operand.tmp 0)), type := 25, pos := "ref.go:157", after := #[], guard := none } : Oper), ({ dst := (some 22), op := (Op.move (Operand.tmp 1)), type := 3, pos := "ref.go:157", after := #[], guard := none } : Oper), ({ dst := (some 23), op := (Op.move (Operand.tmp 2)), type := 3, pos := "ref.go:157", after := #[], guard := none } : Oper), ({ dst := (some 24), op := (Op.call { callee := (Callee.value (Operand.func 26)), args := #[(Operand.tmp 21), (Operand.tmp 22), (Operand.tmp 23)], argTypes := #[25, 3, 3] }), type := 34, pos := "ref.go:157", after := #[{ on := 0, ground := Ground.data }, { on := 1, ground := Ground.data }, { on := 2, ground := Ground.data }], guard := none } : Oper), ({ dst := (some 20), op := (Op.move (Operand.tmp 24)), type := 34, pos := "ref.go:157", after := #[{ on := 3, ground := Ground.data }], guard := none } : Oper), ({ dst := (some 25), op := (Op.extract (Operand.tmp 20) 0), type := 33, pos := "ref.go:157", after := #[{ on := 4, ground := Ground.data }], guard := none } : Oper), ({ dst := (some 26), op := (Op.extract (Operand.tmp 20) 1), type := 4, pos := "ref.go:157", after := #[{ on := 4, ground := Ground.data }, { on := 8, ground := (Ground.gcOnly Departure.lateStores) }], guard := none } : Oper), ({ dst := (some 9), op := (Op.alloc 33), type := 0, pos := "ref.go:157", after := #[], guard := none } : Oper), ({ dst := none, op := (Op.store 33 (Operand.tmp 9) (Operand.tmp 25)), type := 0, pos := "ref.go:157", after := #[{ on := 7, ground := Ground.data }, { on := 5, ground := Ground.data }, { on := 3, ground := Ground.chain }, { on := 0, ground := Ground.phase }, { on := 1, ground := Ground.phase }, { on := 2, ground := Ground.phase }, { on := 3, ground := Ground.phase }, { on := 4, ground := Ground.phase }, { on := 5, ground := Ground.phase }, { on := 6, ground := (Ground.textOnly Departure.lateStores) }, { on := 7, ground := Ground.phase }], guard := none } : Oper), ({ dst := (some 10), op := (Op.assign (Operand.tmp 26)), type := 4, pos := "ref.go:157", after := #[{ on := 6, ground := Ground.data }, { on := 8, ground := Ground.chain }, { on := 0, ground := Ground.phase }, { on := 1, ground := Ground.phase }, { on := 2, ground := Ground.phase }, { on := 3, ground := Ground.phase }, { on := 4, ground := Ground.phase }, { on := 5, ground := Ground.phase }, { on := 6, ground := Ground.phase }, { on := 7, ground := Ground.phase }, { on := 8, ground := Ground.phase }], guard := none } : Oper)]
def OPS24_2 : List Oper := [({ dst := (some 27), op := (Op.move (Operand.tmp 10)), type := 4, pos := "ref.go:158", after := #[], guard := none } : Oper), ({ dst := (some 28), op := (Op.unOp UnOp.not 4 (Operand.tmp 27)), type := 4, pos := "ref.go:158", after := #[{ on := 0, ground := Ground.data }], guard := none } : Oper)]
def OPS24_3 : List Oper := [({ dst := (some 8), op := (Op.assign (Operand.const (Value.bool false))), type := 4, pos := "ref.go:159", after := #[], guard := none } : Oper)]
def OPS24_4 : List Oper := [({ dst := (some 30), op := (Op.fieldAddr 33 (Operand.tmp 9) 2), type := 0, pos := "ref.go:161", after := #[], guard := none } : Oper), ({ dst := (some 31), op := (Op.load 3 (Operand.tmp 30)), type := 3, pos := "ref.go:161", after := #[{ on := 0, ground := Ground.data }], guard := none } : Oper), ({ dst := (some 32), op := (Op.move (Operand.tmp 3)), type := 3, pos := "ref.go:161", after := #[], guard := none } : Oper), ({ dst := (some 33), op := (Op.call { callee := (Callee.value (Operand.func 57)), args := #[(Operand.tmp 31), (Operand.tmp 32)], argTypes := #[3, 3] }), type := 36, pos := "ref.go:161", after := #[{ on := 1, ground := Ground.data }, { on := 2, ground := Ground.data }], guard := none } : Oper), ({ dst := (some 29), op := (Op.move (Operand.tmp 33)), type := 36, pos := "ref.go:161", after := #[{ on := 3, ground := Ground.data }], guard := none } : Oper), ({ dst := (some 34), op := (Op.extract (Operand.tmp 29) 0), type := 3, pos := "ref.go:161", after := #[{ on := 4, ground := Ground.data }], guard := none } : Oper), ({ dst := (some 35), op := (Op.extract (Operand.tmp 29) 1), type := 4, pos := "ref.go:161", after := #[{ on := 4, ground := Ground.data }, { on := 7, ground := (Ground.gcOnly Departure.lateStores) }], guard := none } : Oper), ({ dst := (some 11), op := (Op.assign (Operand.tmp 34)), type := 3, pos := "ref.go:161", after := #[{ on := 5, ground := Ground.data }, { on := 3, ground := Ground.chain }, { on := 0, ground := Ground.phase }, { on := 1, ground := Ground.phase }, { on := 2, ground := Ground.phase }, { on := 3, ground := Ground.phase }, { on := 4, ground := Ground.phase }, { on := 5, ground := Ground.phase }, { on := 6, ground := (Ground.textOnly Departure.lateStores) }], guard := none } : Oper), ({ dst := (some 12), op := (Op.assign (Operand.tmp 35)), type := 4, pos := "ref.go:161", after := #[{ on := 6, ground := Ground.data }, { on := 7, ground := Ground.chain }, { on := 0, ground := Ground.phase }, { on := 1, ground := Ground.phase }, { on := 2, ground := Ground.phase }, { on := 3, ground := Ground.phase }, { on := 4, ground := Ground.phase }, { on := 5, ground := Ground.phase }, { on := 6, ground := Ground.phase }, { on := 7, ground := Ground.phase }], guard := none } : Oper)]
def OPS24_5 : List Oper := [({ dst := (some 37), op := (Op.fieldAddr 33 (Operand.tmp 9) 3), type := 0, pos := "ref.go:162", after := #[], guard := none } : Oper), ({ dst := (some 38), op := (Op.load 3 (Operand.tmp 37)), type := 3, pos := "ref.go:162", after := #[{ on := 0, ground := Ground.data }], guard := none } : Oper), ({ dst := (some 39), op := (Op.move (Operand.tmp 3)), type := 3, pos := "ref.go:162", after := #[], guard := none } : Oper), ({ dst := (some 40), op := (Op.call { callee := (Callee.value (Operand.func 57)), args := #[(Operand.tmp 38), (Operand.tmp 39)], argTypes := #[3, 3] }), type := 36, pos := "ref.go:162", after := #[{ on := 1, ground := Ground.data }, { on := 2, ground := Ground.data }], guard := none } : Oper), ({ dst := (some 36), op := (Op.move (Operand.tmp 40)), type := 36, pos := "ref.go:162", after := #[{ on := 3, ground := Ground.data }], guard := none } : Oper), ({ dst := (some 41), op := (Op.extract (Operand.tmp 36) 0), type := 3, pos := "ref.go:162", after := #[{ on := 4, ground := Ground.data }], guard := none } : Oper), ({ dst := (some 42), op := (Op.extract (Operand.tmp 36) 1), type := 4, pos := "ref.go:162", after := #[{ on := 4, ground := Ground.data }, { on := 7, ground := (Ground.gcOnly Departure.lateStores) }], guard := none } : Oper), ({ dst := (some 13), op := (Op.assign (Operand.tmp 41)), type := 3, pos := "ref.go:162", after := #[{ on := 5, ground := Ground.data }, { on := 3, ground := Ground.chain }, { on := 0, ground := Ground.phase }, { on := 1, ground := Ground.phase }, { on := 2, ground := Ground.phase }, { on := 3, ground := Ground.phase }, { on := 4, ground := Ground.phase }, { on := 5, ground := Ground.phase }, { on := 6, ground := (Ground.textOnly Departure.lateStores) }], guard := none } : Oper), ({ dst := (some 14), op := (Op.assign (Operand.tmp 42)), type := 4, pos := "ref.go:162", after := #[{ on := 6, ground := Ground.data }, { on := 7, ground := Ground.chain }, { on := 0, ground := Ground.phase }, { on := 1, ground := Ground.phase }, { on := 2, ground := Ground.phase }, { on := 3, ground := Ground.phase }, { on := 4, ground := Ground.phase }, { on := 5, ground := Ground.phase }, { on := 6, ground := Ground.phase }, { on := 7, ground := Ground.phase }], guard := none } : Oper)]
def OPS24_6 : List Oper := [({ dst := (some 43), op := (Op.move (Operand.tmp 12)), type := 4, pos := "ref.go:163", after := #[], guard := none } : Oper), ({ dst := (some 44), op := (Op.unOp UnOp.not 4 (Operand.tmp 43)), type := 4, pos := "ref.go:163", after := #[{ on := 0, ground := Ground.data }], guard := none } : Oper), ({ dst := (some 45), op := (Op.move (Operand.tmp 44)), type := 4, pos := "ref.go:163", after := #[{ on := 1, ground := Ground.data }], guard := none } : Oper), ({ dst := (some 46), op := (Op.move (Operand.tmp 14)), type := 4, pos := "ref.go:163", after := #[{ on := 2, ground := Ground.guard }], guard := some (2, false) } : Oper), ({ dst := (some 47), op := (Op.unOp UnOp.not 4 (Operand.tmp 46)), type := 4, pos := "ref.go:163", after := #[{ on := 3, ground := Ground.data }, { on := 2, ground := Ground.guard }], guard := some (2, false) } : Oper), ({ dst := (some 48), op := (Op.pick (Operand.tmp 45) (Operand.const (Value.bool true)) (Operand.tmp 47)), type := 4, pos := "ref.go:163", after := #[{ on := 2, ground := Ground.data }, { on := 4, ground := Ground.data }], guard := none } : Oper)]
def OPS24_7 : List Oper := [({ dst := (some 8), op := (Op.assign (Operand.const (Value.bool false))), type := 4, pos := "ref.go:164", after := #[], guard := none } : Oper)]
def OPS24_8 : List Oper := [({ dst := (some 50), op := (Op.move (Operand.tmp 0)), type := 25, pos := "ref.go:166", after := #[], guard := none } : Oper), ({ dst := (some 51), op := (Op.move (Operand.tmp 1)), type := 3, pos := "ref.go:166", after := #[], guard := none } : Oper), ({ dst := (some 52), op := (Op.call { callee := (Callee.value (Operand.func 48)), args := #[(Operand.tmp 50), (Operand.tmp 51)], argTypes := #[25, 3] }), type := 69, pos := "ref.go:166", after := #[{ on := 0, ground := Ground.data }, { on := 1, ground := Ground.data }], guard := none } : Oper), ({ dst := (some 49), op := (Op.move (Operand.tmp 52)), type := 69, pos := "ref.go:166", after := #[{ on := 2, ground := Ground.data }], guard := none } : Oper), ({ dst := (some 53), op := (Op.extract (Operand.tmp 49) 0), type := 3, pos := "ref.go:166", after := #[{ on := 3, ground := Ground.data }], guard := none } : Oper), ({ dst := (some 54), op := (Op.extract (Operand.tmp 49) 1), type := 3, pos := "ref.go:166", after := #[{ on := 3, ground := Ground.data }, { on := 6, ground := (Ground.gcOnly Departure.lateStores) }], guard := none } : Oper), ({ dst := (some 15), op := (Op.assign (Operand.tmp 53)), type := 3, pos := "ref.go:166", after := #[{ on := 4, ground := Ground.data }, { on := 2, ground := Ground.chain }, { on := 0, ground := Ground.phase }, { on := 1, ground := Ground.phase }, { on := 2, ground := Ground.phase }, { on := 3, ground := Ground.phase }, { on := 4, ground := Ground.phase }, { on := 5, ground := (Ground.textOnly Departure.lateStores) }], guard := none } : Oper), ({ dst := (some 16), op := (Op.assign (Operand.tmp 54)), type := 3, pos := "ref.go:166", after := #[{ on := 5, ground := Ground.data }, { on := 6, ground := Ground.chain }, { on := 0, ground := Ground.phase }, { on := 1, ground := Ground.phase }, { on := 2, ground := Ground.phase }, { on := 3, ground := Ground.phase }, { on := 4, ground := Ground.phase }, { on := 5, ground := Ground.phase }, { on := 6, ground := Ground.phase }], guard := none } : Oper)]
def OPS24_9 : List Oper := [({ dst := (some 56), op := (Op.move (Operand.tmp 0)), type := 25, pos := "ref.go:167", after := #[], guard := none } : Oper), ({ dst := (some 57), op := (Op.move (Operand.tmp 2)), type := 3, pos := "ref.go:167", after := #[], guard := none } : Oper), ({ dst := (some 58), op := (Op.call { callee := (Callee.value (Operand.func 48)), args := #[(Operand.tmp 56), (Operand.tmp 57)], argTypes := #[25, 3] }), type := 69, pos := "ref.go:167", after := #[{ on := 0, ground := Ground.data }, { on := 1, ground := Ground.data }], guard := none } : Oper), ({ dst := (some 55), op := (Op.move (Operand.tmp 58)), type := 69, pos := "ref.go:167", after := #[{ on := 2, ground := Ground.data }], guard := none } : Oper), ({ dst := (some 59), op := (Op.extract (Operand.tmp 55) 0), type := 3, pos := "ref.go:167", after := #[{ on := 3, ground := Ground.data }], guard := none } : Oper), ({ dst := (some 60), op := (Op.extract (Operand.tmp 55) 1), type := 3, pos := "ref.go:167", after := #[{ on := 3, ground := Ground.data }, { on := 6, ground := (Ground.gcOnly Departure.lateStores) }], guard := none } : Oper), ({ dst := (some 17), op := (Op.assign (Operand.tmp 59)), type := 3, pos := "ref.go:167", after := #[{ on := 4, ground := Ground.data }, { on := 2, ground := Ground.chain }, { on := 0, ground := Ground.phase }, { on := 1, ground := Ground.phase }, { on := 2, ground := Ground.phase }, { on := 3, ground := Ground.phase }, { on := 4, ground := Ground.phase }, { on := 5, ground := (Ground.textOnly Departure.lateStores) }], guard := none } : Oper), ({ dst := (some 18), op := (Op.assign (Operand.tmp 60)), type := 3, pos := "ref.go:167", after := #[{ on := 5, ground := Ground.data }, { on := 6, ground := Ground.chain }, { on := 0, ground := Ground.phase }, { on := 1, ground := Ground.phase }, { on := 2, ground := Ground.phase }, { on := 3, ground := Ground.phase }, { on := 4, ground := Ground.phase }, { on := 5, ground := Ground.phase }, { on := 6, ground := Ground.phase }], guard := none } : Oper)]
def OPS24_10 : List Oper := [({ dst := (some 61), op := (Op.move (Operand.tmp 16)), type := 3, pos := "ref.go:168", after := #[], guard := none } : Oper), ({ dst := (some 19), op := (Op.assign (Operand.tmp 61)), type := 3, pos := "ref.go:168", after := #[{ on := 0, ground := Ground.data }, { on := 0, ground := Ground.phase }], guard := none } : Oper)]
def OPS24_11 : List Oper := [({ dst := (some 62), op := (Op.move (Operand.tmp 19)), type := 3, pos := "ref.go:168", after := #[], guard := none } : Oper), ({ dst := (some 63), op := (Op.move (Operand.tmp 18)), type := 3, pos := "ref.go:168", after := #[], guard := none } : Oper), ({ dst := (some 64), op := (Op.binOp BinOp.leq 3 (Operand.tmp 62) (Operand.tmp 63) 3), type := 4, pos := "ref.go:168", after := #[{ on := 0, ground := Ground.data }, { on := 1, ground := Ground.data }], guard := none } : Oper)]
def OPS24_12 : List Oper := [({ dst := (some 65), op := (Op.move (Operand.tmp 19)), type := 3, pos := "ref.go:168", after := #[], guard := none } : Oper), ({ dst := (some 66), op := (Op.binOp BinOp.add 3 (Operand.tmp 65) (Operand.const (Value.int IntKind.i64 1)) 3), type := 3, pos := "ref.go:168", after := #[{ on := 0, ground := Ground.data }], guard := none } : Oper), ({ dst := (some 19), op := (Op.assign (Operand.tmp 66)), type := 3, pos := "ref.go:168", after := #[{ on := 1, ground := Ground.data }, { on := 0, ground := Ground.phase }, { on := 1, ground := Ground.phase }], guard := none } : Oper)]
def OPS24_13 : List Oper := [({ dst := (some 67), op := (Op.move (Operand.tmp 0)), type := 25, pos := "ref.go:169", after := #[], guard := none } : Oper), ({ dst := (some 68), op := (Op.nilCheck (Operand.tmp 67)), type := 0, pos := "ref.go:169", after := #[{ on := 0, ground := Ground.data }], guard := none } : Oper), ({ dst := (some 69), op := (Op.fieldAddr 64 (Operand.tmp 68) 2), type := 0, pos := "ref.go:169", after := #[{ on := 1, ground := Ground.data }], guard := none } : Oper), ({ dst := (some 70), op := (Op.load 61 (Operand.tmp 69)), type := 61, pos := "ref.go:169", after := #[{ on := 2, ground := Ground.data }], guard := none } : Oper), ({ dst := (some 71), op := (Op.move (Operand.tmp 0)), type := 25, pos := "ref.go:169", after := #[], guard := none } : Oper), ({ dst := (some 72), op := (Op.nilCheck (Operand.tmp 71)), type := 0, pos := "ref.go:169", after := #[{ on := 4, ground := Ground.data }], guard := none } : Oper), ({ dst := (some 73), op := (Op.fieldAddr 64 (Operand.tmp 72) 1), type := 0, pos := "ref.go:169", after := #[{ on := 5, ground := Ground.data }], guard := none } : Oper), ({ dst := (some 74), op := (Op.load 62 (Operand.tmp 73)), type := 62, pos := "ref.go:169", after := #[{ on := 6, ground := Ground.data }], guard := none } : Oper), ({ dst := (some 75), op := (Op.move (Operand.tmp 15)), type := 3, pos := "ref.go:169", after := #[], guard := none } : Oper), ({ dst := (some 76), op := (Op.indexAddr 62 (Operand.tmp 74) (Operand.tmp 75)), type := 0, pos := "ref.go:169", after := #[{ on := 7, ground := Ground.data }, { on := 8, ground := Ground.data }], guard := none } : Oper), ({ dst := (some 77), op := (Op.load 61 (Operand.tmp 76)), type := 61, pos := "ref.go:169", after := #[{ on := 9, ground := Ground.data }], guard := none } : Oper), ({ dst := (some 78), op := (Op.move (Operand.tmp 19)), type := 3, pos := "ref.go:169", after := #[], guard := none } : Oper), ({ dst := (some 79), op := (Op.indexAddr 61 (Operand.tmp 77) (Operand.tmp 78)), type := 0, pos := "ref.go:169", after := #[{ on := 10, ground := Ground.data }, { on := 11, ground := Ground.data }], guard := none } : Oper), ({ dst := (some 80), op := (Op.load 3 (Operand.tmp 79)), type := 3, pos := "ref.go:169", after := #[{ on := 12, ground := Ground.data }], guard := none } : Oper), ({ dst := (some 81), op := (Op.move (Operand.tmp 0)), type := 25, pos := "ref.go:169", after := #[], guard := none } : Oper), ({ dst := (some 82), op := (Op.nilCheck (Operand.tmp 81)), type := 0, pos := "ref.go:169", after := #[{ on := 14, ground := Ground.data }], guard := none } : Oper), ({ dst := (some 83), op := (Op.fieldAddr 64 (Operand.tmp 82) 2), type := 0, pos := "ref.go:169", after := #[{ on := 15, ground := Ground.data }], guard := none } : Oper), ({ dst := (some 84), op := (Op.load 61 (Operand.tmp 83)), type := 61, pos := "ref.go:169", after := #[{ on := 16, ground := Ground.data }], guard := none } : Oper), ({ dst := (some 85), op := (Op.move (Operand.tmp 0)), type := 25, pos := "ref.go:169", after := #[], guard := none } : Oper), ({ dst := (some 86), op := (Op.nilCheck (Operand.tmp 85)), type := 0, pos := "ref.go:169", after := #[{ on := 18, ground := Ground.data }], guard := none } : Oper), ({ dst := (some 87), op := (Op.fieldAddr 64 (Operand.tmp 86) 1), type := 0, pos := "ref.go:169", after := #[{ on := 19, ground := Ground.data }], guard := none } : Oper), ({ dst := (some 88), op := (Op.load 62 (Operand.tmp 87)), type := 62, pos := "ref.go:169", after := #[{ on := 20, ground := Ground.data }], guard := none } : Oper), ({ dst := (some 89), op := (Op.move (Operand.tmp 15)), type := 3, pos := "ref.go:169", after := #[], guard := none } : Oper), ({ dst := (some 90), op := (Op.indexAddr 62 (Operand.tmp 88) (Operand.tmp 89)), type := 0, pos := "ref.go:169", after := #[{ on := 21, ground := Ground.data }, { on := 22, ground := Ground.data }], guard := none } : Oper), ({ dst := (some 91), op := (Op.load 61 (Operand.tmp 90)), type := 61, pos := "ref.go:169", after := #[{ on := 23, ground := Ground.data }], guard := none } : Oper), ({ dst := (some 92), op := (Op.move (Operand.tmp 19)), type := 3, pos := "ref.go:169", after := #[], guard := none } : Oper), ({ dst := (some 93), op := (Op.indexAddr 61 (Operand.tmp 91) (Operand.tmp 92)), type := 0, pos := "ref.go:169", after := #[{ on := 24, ground := Ground.data }, { on := 25, ground := Ground.data }], guard := none } : Oper), ({ dst := (some 94), op := (Op.load 3 (Operand.tmp 93)), type := 3, pos := "ref.go:169", after := #[{ on := 26, ground := Ground.data }], guard := none } : Oper), ({ dst := (some 95), op := (Op.indexAddr 61 (Operand.tmp 84) (Operand.tmp 94)), type := 0, pos := "ref.go:169", after := #[{ on := 17, ground := Ground.data }, { on := 27, ground := Ground.data }], guard := none } : Oper), ({ dst := (some 96), op := (Op.load 3 (Operand.tmp 95)), type := 3, pos := "ref.go:169", after := #[{ on := 28, ground := Ground.data }], guard := none } : Oper), ({ dst := (some 97), op := (Op.move (Operand.tmp 3)), type := 3, pos := "ref.go:169", after := #[], guard := none } : Oper), ({ dst := (some 98), op := (Op.binOp BinOp.add 3 (Operand.tmp 96) (Operand.tmp 97) 3), type := 3, pos := "ref.go:169", after := #[{ on := 29, ground := Ground.data }, { on := 30, ground := Ground.data }], guard := none } : Oper), ({ dst := (some 99), op := (Op.indexAddr 61 (Operand.tmp 70) (Operand.tmp 80)), type := 0, pos := "ref.go:169", after := #[{ on := 3, ground := Ground.data }, { on := 13, ground := Ground.data }, { on := 0, ground := Ground.phase }, { on := 1, ground := Ground.phase }, { on := 2, ground := Ground.phase }, { on := 3, ground := Ground.phase }, { on := 4, ground := Ground.phase }, { on := 5, ground := Ground.phase }, { on := 6, ground := Ground.phase }, { on := 7, ground := Ground.phase }, { on := 8, ground := Ground.phase }, { on := 9, ground := Ground.phase }, { on := 10, ground := Ground.phase }, { on := 11, ground := Ground.phase }, { on := 12, ground := Ground.phase }, { on := 13, ground := Ground.phase }, { on := 14, ground := Ground.phase }, { on := 15, ground := Ground.phase }, { on := 16, ground := Ground.phase }, { on := 17, ground := Ground.phase }, { on := 18, ground := Ground.phase }, { on := 19, ground := Ground.phase }, { on := 20, ground := Ground.phase }, { on := 21, ground := Ground.phase }, { on := 22, ground := Ground.phase }, { on := 23, ground := Ground.phase }, { on := 24, ground := Ground.phase }, { on := 25, ground := Ground.phase }, { on := 26, ground := Ground.phase }, { on := 27, ground := Ground.phase }, { on := 28, ground := Ground.phase }, { on := 29, ground := Ground.phase }, { on := 30, ground := Ground.phase }, { on := 31, ground := Ground.phase }], guard := none } : Oper), ({ dst := none, op := (Op.store 3 (Operand.tmp 99) (Operand.tmp 98)), type := 0, pos := "ref.go:169", after := #[{ on := 32, ground := Ground.data }, { on := 31, ground := Ground.data }, { on := 0, ground := Ground.phase }, { on := 1, ground := Ground.phase }, { on := 2, ground := Ground.phase }, { on := 3, ground := Ground.phase }, { on := 4, ground := Ground.phase }, { on := 5, ground := Ground.phase }, { on := 6, ground := Ground.phase }, { on := 7, ground := Ground.phase }, { on := 8, ground := Ground.phase }, { on := 9, ground := Ground.phase }, { on := 10, ground := Ground.phase }, { on := 11, ground := Ground.phase }, { on := 12, ground := Ground.phase }, { on := 13, ground := Ground.phase }, { on := 14, ground := Ground.phase }, { on := 15, ground := Ground.phase }, { on := 16, ground := Ground.phase }, { on := 17, ground := Ground.phase }, { on := 18, ground := Ground.phase }, { on := 19, ground := Ground.phase }, { on := 20, ground := Ground.phase }, { on := 21, ground := Ground.phase }, { on := 22, ground := Ground.phase }, { on := 23, ground := Ground.phase }, { on := 24, ground := Ground.phase }, { on := 25, ground := Ground.phase }, { on := 26, ground := Ground.phase }, { on := 27, ground := Ground.phase }, { on := 28, ground := Ground.phase }, { on := 29, ground := Ground.phase }, { on := 30, ground := Ground.phase }, { on := 31, ground := Ground.phase }], guard := none } : Oper)]
theorem NS24_13 : Region.noSelect OPS24_13.toArray = true := by kernel_rfl
def OPS24_14 : List Oper := [({ dst := (some 8), op := (Op.assign (Operand.const (Value.bool true))), type := 4, pos := "ref.go:171", after := #[], guard := none } : Oper)]
def LOOP24 : Code := (Code.seq (Code.seq (Code.region 11 OPS24_11.toArray false) (Code.cond (Operand.tmp 64) Code.skip (Code.exit 0))) (Code.seq (Code.block 1 (Code.region 13 OPS24_13.toArray true)) (Code.region 12 OPS24_12.toArray false)))
def CODE24 : Code := (Code.seq (Code.region 0 OPS24_0.toArray false) (Code.seq (Code.region 1 OPS24_1.toArray false) (Code.seq (Code.seq (Code.region 2 OPS24_2.toArray false) (Code.cond (Operand.tmp 28) (Code.seq (Code.region 3 OPS24_3.toArray false) Code.ret) Code.skip)) (Code.seq (Code.region 4 OPS24_4.toArray false) (Code.seq (Code.region 5 OPS24_5.toArray false) (Code.seq (Code.seq (Code.region 6 OPS24_6.toArray false) (Code.cond (Operand.tmp 48) (Code.seq (Code.region 7 OPS24_7.toArray false) Code.ret) Code.skip)) (Code.seq (Code.region 8 OPS24_8.toArray false) (Code.seq (Code.region 9 OPS24_9.toArray false) (Code.seq (Code.seq (Code.region 10 OPS24_10.toArray false) (Code.block 0 (Code.loop (Code.seq (Code.seq (Code.region 11 OPS24_11.toArray false) (Code.cond (Operand.tmp 64) Code.skip (Code.exit 0))) (Code.seq (Code.block 1 (Code.region 13 OPS24_13.toArray true)) (Code.region 12 OPS24_12.toArray false)))))) (Code.seq (Code.region 14 OPS24_14.toArray false) Code.ret))))))))))
set_option maxHeartbeats 4000000 in
theorem rg24_13 {q g bw b n LN M cap cap' ii j ll z : Nat} {d y : Int} {NX : Act → World → Prop} {a0 : Act} {w : World} (K0 : Kb a0 100 [(0, .pointer (some ⟨q, 0, none⟩)), (3, .int .i64 d), (15, .int .i64 (ii : Int)), (18, .int .i64 (ll : Int)), (19, .int .i64 (j : Int))])
    (c1 : w.cell? ⟨q, 1, none⟩ = some (.slice (some ⟨g, 0, none⟩) LN cap)) (c2 : w.cell? ⟨q, 2, none⟩ = some (.slice (some ⟨bw, 0, none⟩) n n)) (d1 : w.cell? ⟨g, ii, none⟩ = some (.slice (some ⟨b, 0, none⟩) M cap')) (d2 : w.cell? ⟨b, j, none⟩ = some (.int .i64 (z : Int))) (d3 : w.cell? ⟨bw, z, none⟩ = some (.int .i64 y)) (d4 : w.frozen? ⟨bw, z, none⟩ = false)
    (e1 : (0 : Int) ≤ (ii : Int)) (e2 : (ii : Int) < (LN : Int)) (e3 : (0 : Int) ≤ (j : Int)) (e4 : (j : Int) < (M : Int)) (e5 : (0 : Int) ≤ (z : Int)) (e6 : (z : Int) < (n : Int)) (wr1 : IntKind.i64.wrap (y + d) = y + d)
    (hN : ∀ a', Kb a' 100 [(0, .pointer (some ⟨q, 0, none⟩)), (3, .int .i64 d), (15, .int .i64 (ii : Int)), (18, .int .i64 (ll : Int)), (19, .int .i64 (j : Int))] → NX a' (w.drew.setCell ⟨bw, z, none⟩ (.int .i64 (y + d)))) :
    (Code.region 13 OPS24_13.toArray true).wp Try.prog (Norm NX) a0 w := by
  refine wp_region_still_tail 33 (by kernel_rfl) (by kernel_rfl) ?_
  change wpStill _ _ w.drew _ _ _
  have c1' : w.drew.cell? ⟨q, 1, none⟩ = some (.slice (some ⟨g, 0, none⟩) LN cap) := c1
  have c2' : w.drew.cell? ⟨q, 2, none⟩ = some (.slice (some ⟨bw, 0, none⟩) n n) := c2
  have d1' : w.drew.cell? ⟨g, ii, none⟩ = some (.slice (some ⟨b, 0, none⟩) M cap') := d1
  have d2' : w.drew.cell? ⟨b, j, none⟩ = some (.int .i64 (z : Int)) := d2
  have d3' : w.drew.cell? ⟨bw, z, none⟩ = some (.int .i64 y) := d3
  have d4' : w.drew.frozen? ⟨bw, z, none⟩ = false := d4
  clear c1 c2 d1 d2 d3 d4
  refine stake (o := { dst := (some 67), op := (Op.move (Operand.tmp 0)), type := 25, pos := "ref.go:169", after := #[], guard := none }) (v := .pointer (some ⟨q, 0, none⟩)) K0 rfl rfl (want_none rfl) (fun ev E => ?_) (fun a1 K1 => ?_)
  · clear hN; have EC := E.const; have E0 := E.tmp 0 _ rfl; clear E; go_simp
  refine stake (o := { dst := (some 68), op := (Op.nilCheck (Operand.tmp 67)), type := 0, pos := "ref.go:169", after := #[{ on := 0, ground := Ground.data }], guard := none }) (v := .pointer (some ⟨q, 0, none⟩)) K1 rfl rfl (want_none rfl) (fun ev E => ?_) (fun a2 K2 => ?_)
  · clear hN; have EC := E.const; have E67 := E.tmp 67 _ rfl; clear E; go_simp
  clear K1
  refine stake (o := { dst := (some 69), op := (Op.fieldAddr 64 (Operand.tmp 68) 2), type := 0, pos := "ref.go:169", after := #[{ on := 1, ground := Ground.data }], guard := none }) (v := .pointer (some ⟨q, 2, none⟩)) K2 rfl rfl (want_none rfl) (fun ev E => ?_) (fun a3 K3 => ?_)
  · clear hN; have EC := E.const; have E68 := E.tmp 68 _ rfl; clear E; go_simp
  clear K2
  refine stake (o := { dst := (some 70), op := (Op.load 61 (Operand.tmp 69)), type := 61, pos := "ref.go:169", after := #[{ on := 2, ground := Ground.data }], guard := none }) (v := .slice (some ⟨bw, 0, none⟩) n n) K3 rfl rfl (want_none rfl) (fun ev E => ?_) (fun a4 K4 => ?_)
  · clear hN; have EC := E.const; have E69 := E.tmp 69 _ rfl; clear E; go_simp
  clear K3
  refine stake (o := { dst := (some 71), op := (Op.move (Operand.tmp 0)), type := 25, pos := "ref.go:169", after := #[], guard := none }) (v := .pointer (some ⟨q, 0, none⟩)) K4 rfl rfl (want_none rfl) (fun ev E => ?_) (fun a5 K5 => ?_)
  · clear hN; have EC := E.const; have E0 := E.tmp 0 _ rfl; clear E; go_simp
  clear K4
  refine stake (o := { dst := (some 72), op := (Op.nilCheck (Operand.tmp 71)), type := 0, pos := "ref.go:169", after := #[{ on := 4, ground := Ground.data }], guard := none }) (v := .pointer (some ⟨q, 0, none⟩)) K5 rfl rfl (want_none rfl) (fun ev E => ?_) (fun a6 K6 => ?_)
  · clear hN; have EC := E.const; have E71 := E.tmp 71 _ rfl; clear E; go_simp
  clear K5
  refine stake (o := { dst := (some 73), op := (Op.fieldAddr 64 (Operand.tmp 72) 1), type := 0, pos := "ref.go:169", after := #[{ on := 5, ground := Ground.data }], guard := none }) (v := .pointer (some ⟨q, 1, none⟩)) K6 rfl rfl (want_none rfl) (fun ev E => ?_) (fun a7 K7 => ?_)
  · clear hN; have EC := E.const; have E72 := E.tmp 72 _ rfl; clear E; go_simp
  clear K6
  refine stake (o := { dst := (some 74), op := (Op.load 62 (Operand.tmp 73)), type := 62, pos := "ref.go:169", after := #[{ on := 6, ground := Ground.data }], guard := none }) (v := .slice (some ⟨g, 0, none⟩) LN cap) K7 rfl rfl (want_none rfl) (fun ev E => ?_) (fun a8 K8 => ?_)
  · clear hN; have EC := E.const; have E73 := E.tmp 73 _ rfl; clear E; go_simp
  clear K7
  refine stake (o := { dst := (some 75), op := (Op.move (Operand.tmp 15)), type := 3, pos := "ref.go:169", after := #[], guard := none }) (v := .int .i64 (ii : Int)) K8 rfl rfl (want_none rfl) (fun ev E => ?_) (fun a9 K9 => ?_)
  · clear hN; have EC := E.const; have E15 := E.tmp 15 _ rfl; clear E; go_simp
  clear K8
  refine stake (o := { dst := (some 76), op := (Op.indexAddr 62 (Operand.tmp 74) (Operand.tmp 75)), type := 0, pos := "ref.go:169", after := #[{ on := 7, ground := Ground.data }, { on := 8, ground := Ground.data }], guard := none }) (v := .pointer (some ⟨g, ii, none⟩)) K9 rfl rfl (want_none rfl) (fun ev E => ?_) (fun a10 K10 => ?_)
  · clear hN; have EC := E.const; have E74 := E.tmp 74 _ rfl; have E75 := E.tmp 75 _ rfl; clear E; go_simp
  clear K9
  refine stake (o := { dst := (some 77), op := (Op.load 61 (Operand.tmp 76)), type := 61, pos := "ref.go:169", after := #[{ on := 9, ground := Ground.data }], guard := none }) (v := .slice (some ⟨b, 0, none⟩) M cap') K10 rfl rfl (want_none rfl) (fun ev E => ?_) (fun a11 K11 => ?_)
  · clear hN; have EC := E.const; have E76 := E.tmp 76 _ rfl; clear E; go_simp
  clear K10
  refine stake (o := { dst := (some 78), op := (Op.move (Operand.tmp 19)), type := 3, pos := "ref.go:169", after := #[], guard := none }) (v := .int .i64 (j : Int)) K11 rfl rfl (want_none rfl) (fun ev E => ?_) (fun a12 K12 => ?_)
  · clear hN; have EC := E.const; have E19 := E.tmp 19 _ rfl; clear E; go_simp
  clear K11
  refine stake (o := { dst := (some 79), op := (Op.indexAddr 61 (Operand.tmp 77) (Operand.tmp 78)), type := 0, pos := "ref.go:169", after := #[{ on := 10, ground := Ground.data }, { on := 11, ground := Ground.data }], guard := none }) (v := .pointer (some ⟨b, j, none⟩)) K12 rfl rfl (want_none rfl) (fun ev E => ?_) (fun a13 K13 => ?_)
  · clear hN; have EC := E.const; have E77 := E.tmp 77 _ rfl; have E78 := E.tmp 78 _ rfl; clear E; go_simp
  clear K12
  refine stake (o := { dst := (some 80), op := (Op.load 3 (Operand.tmp 79)), type := 3, pos := "ref.go:169", after := #[{ on := 12, ground := Ground.data }], guard := none }) (v := .int .i64 (z : Int)) K13 rfl rfl (want_none rfl) (fun ev E => ?_) (fun a14 K14 => ?_)
  · clear hN; have EC := E.const; have E79 := E.tmp 79 _ rfl; clear E; go_simp
  clear K13
  refine stake (o := { dst := (some 81), op := (Op.move (Operand.tmp 0)), type := 25, pos := "ref.go:169", after := #[], guard := none }) (v := .pointer (some ⟨q, 0, none⟩)) K14 rfl rfl (want_none rfl) (fun ev E => ?_) (fun a15 K15 => ?_)
  · clear hN; have EC := E.const; have E0 := E.tmp 0 _ rfl; clear E; go_simp
  clear K14
  refine stake (o := { dst := (some 82), op := (Op.nilCheck (Operand.tmp 81)), type := 0, pos := "ref.go:169", after := #[{ on := 14, ground := Ground.data }], guard := none }) (v := .pointer (some ⟨q, 0, none⟩)) K15 rfl rfl (want_none rfl) (fun ev E => ?_) (fun a16 K16 => ?_)
  · clear hN; have EC := E.const; have E81 := E.tmp 81 _ rfl; clear E; go_simp
  clear K15
  refine stake (o := { dst := (some 83), op := (Op.fieldAddr 64 (Operand.tmp 82) 2), type := 0, pos := "ref.go:169", after := #[{ on := 15, ground := Ground.data }], guard := none }) (v := .pointer (some ⟨q, 2, none⟩)) K16 rfl rfl (want_none rfl) (fun ev E => ?_) (fun a17 K17 => ?_)
  · clear hN; have EC := E.const; have E82 := E.tmp 82 _ rfl; clear E; go_simp
  clear K16
  refine stake (o := { dst := (some 84), op := (Op.load 61 (Operand.tmp 83)), type := 61, pos := "ref.go:169", after := #[{ on := 16, ground := Ground.data }], guard := none }) (v := .slice (some ⟨bw, 0, none⟩) n n) K17 rfl rfl (want_none rfl) (fun ev E => ?_) (fun a18 K18 => ?_)
  · clear hN; have EC := E.const; have E83 := E.tmp 83 _ rfl; clear E; go_simp
  clear K17
  refine stake (o := { dst := (some 85), op := (Op.move (Operand.tmp 0)), type := 25, pos := "ref.go:169", after := #[], guard := none }) (v := .pointer (some ⟨q, 0, none⟩)) K18 rfl rfl (want_none rfl) (fun ev E => ?_) (fun a19 K19 => ?_)
  · clear hN; have EC := E.const; have E0 := E.tmp 0 _ rfl; clear E; go_simp
  clear K18
  refine stake (o := { dst := (some 86), op := (Op.nilCheck (Operand.tmp 85)), type := 0, pos := "ref.go:169", after := #[{ on := 18, ground := Ground.data }], guard := none }) (v := .pointer (some ⟨q, 0, none⟩)) K19 rfl rfl (want_none rfl) (fun ev E => ?_) (fun a20 K20 => ?_)
  · clear hN; have EC := E.const; have E85 := E.tmp 85 _ rfl; clear E; go_simp
  clear K19
  refine stake (o := { dst := (some 87), op := (Op.fieldAddr 64 (Operand.tmp 86) 1), type := 0, pos := "ref.go:169", after := #[{ on := 19, ground := Ground.data }], guard := none }) (v := .pointer (some ⟨q, 1, none⟩)) K20 rfl rfl (want_none rfl) (fun ev E => ?_) (fun a21 K21 => ?_)
  · clear hN; have EC := E.const; have E86 := E.tmp 86 _ rfl; clear E; go_simp
  clear K20
  refine stake (o := { dst := (some 88), op := (Op.load 62 (Operand.tmp 87)), type := 62, pos := "ref.go:169", after := #[{ on := 20, ground := Ground.data }], guard := none }) (v := .slice (some ⟨g, 0, none⟩) LN cap) K21 rfl rfl (want_none rfl) (fun ev E => ?_) (fun a22 K22 => ?_)
  · clear hN; have EC := E.const; have E87 := E.tmp 87 _ rfl; clear E; go_simp
  clear K21
  refine stake (o := { dst := (some 89), op := (Op.move (Operand.tmp 15)), type := 3, pos := "ref.go:169", after := #[], guard := none }) (v := .int .i64 (ii : Int)) K22 rfl rfl (want_none rfl) (fun ev E => ?_) (fun a23 K23 => ?_)
  · clear hN; have EC := E.const; have E15 := E.tmp 15 _ rfl; clear E; go_simp
  clear K22
  refine stake (o := { dst := (some 90), op := (Op.indexAddr 62 (Operand.tmp 88) (Operand.tmp 89)), type := 0, pos := "ref.go:169", after := #[{ on := 21, ground := Ground.data }, { on := 22, ground := Ground.data }], guard := none }) (v := .pointer (some ⟨g, ii, none⟩)) K23 rfl rfl (want_none rfl) (fun ev E => ?_) (fun a24 K24 => ?_)
  · clear hN; have EC := E.const; have E88 := E.tmp 88 _ rfl; have E89 := E.tmp 89 _ rfl; clear E; go_simp
  clear K23
  refine stake (o := { dst := (some 91), op := (Op.load 61 (Operand.tmp 90)), type := 61, pos := "ref.go:169", after := #[{ on := 23, ground := Ground.data }], guard := none }) (v := .slice (some ⟨b, 0, none⟩) M cap') K24 rfl rfl (want_none rfl) (fun ev E => ?_) (fun a25 K25 => ?_)
  · clear hN; have EC := E.const; have E90 := E.tmp 90 _ rfl; clear E; go_simp
  clear K24
  refine stake (o := { dst := (some 92), op := (Op.move (Operand.tmp 19)), type := 3, pos := "ref.go:169", after := #[], guard := none }) (v := .int .i64 (j : Int)) K25 rfl rfl (want_none rfl) (fun ev E => ?_) (fun a26 K26 => ?_)
  · clear hN; have EC := E.const; have E19 := E.tmp 19 _ rfl; clear E; go_simp
  clear K25
  refine stake (o := { dst := (some 93), op := (Op.indexAddr 61 (Operand.tmp 91) (Operand.tmp 92)), type := 0, pos := "ref.go:169", after := #[{ on := 24, ground := Ground.data }, { on := 25, ground := Ground.data }], guard := none }) (v := .pointer (some ⟨b, j, none⟩)) K26 rfl rfl (want_none rfl) (fun ev E => ?_) (fun a27 K27 => ?_)
  · clear hN; have EC := E.const; have E91 := E.tmp 91 _ rfl; have E92 := E.tmp 92 _ rfl; clear E; go_simp
  clear K26
  refine stake (o := { dst := (some 94), op := (Op.load 3 (Operand.tmp 93)), type := 3, pos := "ref.go:169", after := #[{ on := 26, ground := Ground.data }], guard := none }) (v := .int .i64 (z : Int)) K27 rfl rfl (want_none rfl) (fun ev E => ?_) (fun a28 K28 => ?_)
  · clear hN; have EC := E.const; have E93 := E.tmp 93 _ rfl; clear E; go_simp
  clear K27
  refine stake (o := { dst := (some 95), op := (Op.indexAddr 61 (Operand.tmp 84) (Operand.tmp 94)), type := 0, pos := "ref.go:169", after := #[{ on := 17, ground := Ground.data }, { on := 27, ground := Ground.data }], guard := none }) (v := .pointer (some ⟨bw, z, none⟩)) K28 rfl rfl (want_none rfl) (fun ev E => ?_) (fun a29 K29 => ?_)
  · clear hN; have EC := E.const; have E84 := E.tmp 84 _ rfl; have E94 := E.tmp 94 _ rfl; clear E; go_simp
  clear K28
  refine stake (o := { dst := (some 96), op := (Op.load 3 (Operand.tmp 95)), type := 3, pos := "ref.go:169", after := #[{ on := 28, ground := Ground.data }], guard := none }) (v := .int .i64 y) K29 rfl rfl (want_none rfl) (fun ev E => ?_) (fun a30 K30 => ?_)
  · clear hN; have EC := E.const; have E95 := E.tmp 95 _ rfl; clear E; go_simp
  clear K29
  refine stake (o := { dst := (some 97), op := (Op.move (Operand.tmp 3)), type := 3, pos := "ref.go:169", after := #[], guard := none }) (v := .int .i64 d) K30 rfl rfl (want_none rfl) (fun ev E => ?_) (fun a31 K31 => ?_)
  · clear hN; have EC := E.const; have E3 := E.tmp 3 _ rfl; clear E; go_simp
  clear K30
  refine stake (o := { dst := (some 98), op := (Op.binOp BinOp.add 3 (Operand.tmp 96) (Operand.tmp 97) 3), type := 3, pos := "ref.go:169", after := #[{ on := 29, ground := Ground.data }, { on := 30, ground := Ground.data }], guard := none }) (v := .int .i64 (y + d)) K31 rfl rfl (want_none rfl) (fun ev E => ?_) (fun a32 K32 => ?_)
  · clear hN; have EC := E.const; have E96 := E.tmp 96 _ rfl; have E97 := E.tmp 97 _ rfl; clear E; go_simp
  clear K31
  refine stake (o := { dst := (some 99), op := (Op.indexAddr 61 (Operand.tmp 70) (Operand.tmp 80)), type := 0, pos := "ref.go:169", after := #[{ on := 3, ground := Ground.data }, { on := 13, ground := Ground.data }, { on := 0, ground := Ground.phase }, { on := 1, ground := Ground.phase }, { on := 2, ground := Ground.phase }, { on := 3, ground := Ground.phase }, { on := 4, ground := Ground.phase }, { on := 5, ground := Ground.phase }, { on := 6, ground := Ground.phase }, { on := 7, ground := Ground.phase }, { on := 8, ground := Ground.phase }, { on := 9, ground := Ground.phase }, { on := 10, ground := Ground.phase }, { on := 11, ground := Ground.phase }, { on := 12, ground := Ground.phase }, { on := 13, ground := Ground.phase }, { on := 14, ground := Ground.phase }, { on := 15, ground := Ground.phase }, { on := 16, ground := Ground.phase }, { on := 17, ground := Ground.phase }, { on := 18, ground := Ground.phase }, { on := 19, ground := Ground.phase }, { on := 20, ground := Ground.phase }, { on := 21, ground := Ground.phase }, { on := 22, ground := Ground.phase }, { on := 23, ground := Ground.phase }, { on := 24, ground := Ground.phase }, { on := 25, ground := Ground.phase }, { on := 26, ground := Ground.phase }, { on := 27, ground := Ground.phase }, { on := 28, ground := Ground.phase }, { on := 29, ground := Ground.phase }, { on := 30, ground := Ground.phase }, { on := 31, ground := Ground.phase }], guard := none }) (v := .pointer (some ⟨bw, z, none⟩)) K32 rfl rfl (want_none rfl) (fun ev E => ?_) (fun a33 K33 => ?_)
  · clear hN; have EC := E.const; have E70 := E.tmp 70 _ rfl; have E80 := E.tmp 80 _ rfl; clear E; go_simp
  clear K32
  refine wpStill_nil ?_
  change wpList _ _ _ [_] _ w.drew
  refine lstore (w' := w.drew.setCell ⟨bw, z, none⟩ (.int .i64 (y + d))) K33 rfl (want_none rfl) (fun ev E => ?_) ?_
  · clear hN; have EC := E.const; have E98 := E.tmp 98 _ rfl; have E99 := E.tmp 99 _ rfl; clear E; go_simp
  exact wpList_nil (hN _ (K33.less ⟨rfl, rfl, rfl, rfl, rfl, trivial⟩))
end Go.Proofs.Ytbkneonbpcmepaa
/- The document's pool: weights are raised, the whole. -/

namespace Go.Proofs.Ytbkneonbpcmepaa
open Go.RowKit Go.Arb
set_option linter.unusedVariables false
set_option linter.unusedSimpArgs false
theorem SumAt.new33 (W : World) (c s a b : Int) : SumAt (W.alloc (.cells #[.int .i64 c, .int .i64 s, .int .i64 a, .int .i64 b] 33)) W.heap.size ⟨c, s, a, b⟩ := by simp [SumAt, go_sem]
set_option maxRecDepth 100000

/-- Where the raising stands. -/
structure Rl (V W : World) (q bw : Nat) (vL : Value) (hs : List Value) (fw : Nat → Int) (A : Se) (l : List Nat) (d : Int) : Prop where
  rin : RIn W q vL bw A.n hs A.L fw
  wt : ∀ u ∈ A.L.flatten, fw u = upW A.W l d u
  kp : Keep [bw] V W
theorem Rl.step {V W : World} {q bw : Nat} {vL : Value} {hs : List Value} {fw : Nat → Int} {A : Se} {l : List Nat} {d : Int} {z : Nat} (h : Rl V W q bw vL hs fw A l d) (hz : z ∉ l) : Rl V (W.drew.setCell ⟨bw, z, none⟩ (.int .i64 (A.W z + d))) q bw vL hs (fun j => if j = z then A.W z + d else fw j) A (l ++ [z]) d := by
  have h1 := (h.rin.below ((Below.refl _ _).drew)).setW z (A.W z + d)
  refine ⟨h1.1, fun u hu => ?_, (h.kp.drew).trans h1.2 (fun i hi => .inl hi)⟩
  by_cases e : u = z
  · subst e; simp [upW]
  · simp only [e, if_false]
    rw [h.wt u hu]
    simp [upW, e]
section
variable {w w' : World} {q bw : Nat} {vL : Value} {hs : List Value} {fw : Nat → Int} {A : Se}
theorem RA.lifted {W : World} {fw' : Nat → Int} (h : RA w q vL bw hs fw A) {x y d : Int} (hr : RIn W q vL bw A.n hs A.L fw') (hw : ∀ u ∈ A.L.flatten, fw' u = upW A.W (A.part x y) d u) (hb : A.liftB x y d = true) : RA W q vL bw hs fw' (A.liftA x y d) := by
  rw [Se.liftA, if_pos hb]
  refine ⟨hr, hw, h.nd, h.ne, h.lt, fun u hu => ?_, h.nn⟩
  dsimp only at hu ⊢
  simp only [Se.liftB, Bool.and_eq_true] at hb
  obtain ⟨hok, h1, h2⟩ := hb
  rw [Se.rangeI, if_pos hok] at h1 h2
  simp only [addB, fitB, Bool.and_eq_true, decide_eq_true_eq] at h1 h2
  unfold upW
  split
  · rename_i hm
    have := ofR_mem ((A.part x y).map A.W) (A.W u) (List.mem_map_of_mem hm)
    omega
  · exact h.fit u hu
set_option maxHeartbeats 4000000 in
theorem rlift_any (x y d : Int) (h : RA w q vL bw hs fw A) : Calls Try.prog 24 #[.pointer (some ⟨q, 0, none⟩), .int .i64 x, .int .i64 y, .int .i64 d] w fun e w' => e = .returned (.bool (A.liftB x y d)) ∧ Ch w w' q bw vL hs (A.liftA x y d) := by
  have h0 := hide (rrange_any x y h)
  have h1 := hide (fun W (hb : Below w.heap.size w W) => rpos_any x (h.below hb))
  have h2 := hide (fun W (hb : Below w.heap.size w W) => rpos_any y (h.below hb))
  have HH := hide h
  have hn := h.nn
  have hLn := h.len
  clear h
  obtain ⟨R, hR⟩ : ∃ R, A.rangeI x y = R := ⟨_, rfl⟩
  obtain ⟨ok, hok⟩ : ∃ b, A.okR x y = b := ⟨_, rfl⟩
  rw [hR, hok] at h0
  obtain ⟨rc, rs, ra, rb⟩ := R
  have FR := hide (And.intro hR hok)
  clear hR hok
  refine calls_of_wp Try.func24 rfl ?_
  have K0 : Kb { tmps := #[.pointer (some ⟨q, 0, none⟩), .int .i64 x, .int .i64 y, .int .i64 d] ++ Array.replicate (Try.f24.ntmps - (#[.pointer (some ⟨q, 0, none⟩), .int .i64 x, .int .i64 y, .int .i64 d] : Array Value).size) undef, defers := [] } 100 [(0, .pointer (some ⟨q, 0, none⟩)), (1, .int .i64 x), (2, .int .i64 y), (3, .int .i64 d)] :=
    Kb.of (by simp [Try.ntmps24]) rfl (by simp)
  generalize ({ tmps := #[.pointer (some ⟨q, 0, none⟩), .int .i64 x, .int .i64 y, .int .i64 d] ++ Array.replicate (Try.f24.ntmps - (#[.pointer (some ⟨q, 0, none⟩), .int .i64 x, .int .i64 y, .int .i64 d] : Array Value).size) undef, defers := [] } : Act) = a0 at K0 ⊢
  show CODE24.wp _ _ _ _
  refine seqN ?_
  refine wp_region_lit ?_
  refine ltake (v := Value.bool false) (w' := w) K0 rfl rfl (want_none rfl) (fun ev E => ?_) (fun a1 K1 => ?_)
  · have EC := E.const; clear E; clear HH h1 h2 FR; (try clear h0); go_simp
  refine wpList_nil ?_
  show Code.wp _ _ _ _ _
  refine seqN ?_
  refine wp_region_lit ?_
  refine ltake (v := .pointer (some ⟨q, 0, none⟩)) (w' := w) K1 rfl rfl (want_none rfl) (fun ev E => ?_) (fun a2 K2 => ?_)
  · have EC := E.const; have E0 := E.tmp 0 _ rfl; clear E; clear HH h1 h2 FR; (try clear h0); go_simp
  clear K1
  refine ltake (v := .int .i64 x) (w' := w) K2 rfl rfl (want_none rfl) (fun ev E => ?_) (fun a3 K3 => ?_)
  · have EC := E.const; have E1 := E.tmp 1 _ rfl; clear E; clear HH h1 h2 FR; (try clear h0); go_simp
  clear K2
  refine ltake (v := .int .i64 y) (w' := w) K3 rfl rfl (want_none rfl) (fun ev E => ?_) (fun a4 K4 => ?_)
  · have EC := E.const; have E2 := E.tmp 2 _ rfl; clear E; clear HH h1 h2 FR; (try clear h0); go_simp
  clear K3
  refine lcall (f := 26) (args := #[.pointer (some ⟨q, 0, none⟩), .int .i64 x, .int .i64 y]) K4 rfl rfl (want_none rfl) (fun ev E => ?_) (unhide h0) (fun e V1 hR => ?_)
  · have EC := E.const; have EF := E.func; have E21 := E.tmp 21 _ rfl; have E22 := E.tmp 22 _ rfl; have E23 := E.tmp 23 _ rfl; clear E; clear HH h1 h2 FR; (try clear h0); go_simp
  obtain ⟨rfl, b1⟩ := hR
  clear h0
  unfold smV
  refine ⟨_, rfl, fun a5 K5 => ?_⟩
  clear K4
  refine ltake (v := .tuple #[.agg #[.int .i64 rc, .int .i64 rs, .int .i64 ra, .int .i64 rb], .bool ok]) (w' := V1) K5 rfl rfl (want_none rfl) (fun ev E => ?_) (fun a6 K6 => ?_)
  · have EC := E.const; have E24 := E.tmp 24 _ rfl; clear E; clear HH h1 h2 FR; (try clear h0); go_simp
  clear K5
  refine ltake (v := .agg #[.int .i64 rc, .int .i64 rs, .int .i64 ra, .int .i64 rb]) (w' := V1) K6 rfl rfl (want_none rfl) (fun ev E => ?_) (fun a7 K7 => ?_)
  · have EC := E.const; have E20 := E.tmp 20 _ rfl; clear E; clear HH h1 h2 FR; (try clear h0); go_simp
  clear K6
  refine ltake (v := .bool ok) (w' := V1) K7 rfl rfl (want_none rfl) (fun ev E => ?_) (fun a8 K8 => ?_)
  · have EC := E.const; have E20 := E.tmp 20 _ rfl; clear E; clear HH h1 h2 FR; (try clear h0); go_simp
  clear K7
  refine ltake (v := .pointer (some ⟨V1.heap.size, 0, none⟩)) (w' := V1.alloc (.cells #[.int .i64 0, .int .i64 0, .int .i64 0, .int .i64 0] 33)) K8 rfl rfl (want_none rfl) (fun ev E => ?_) (fun a9 K9 => ?_)
  · have EC := E.const; clear E; clear HH h1 h2 FR; (try clear h0); go_simp
  clear K8
  refine lstore (w' := V1.alloc (.cells #[.int .i64 rc, .int .i64 rs, .int .i64 ra, .int .i64 rb] 33)) K9 rfl (want_none rfl) (fun ev E => ?_) ?_
  · have EC := E.const; have E9 := E.tmp 9 _ rfl; have E25 := E.tmp 25 _ rfl; clear E; clear HH h1 h2 FR; (try clear h0); go_simp
  refine ltake (v := .bool ok) (w' := V1.alloc (.cells #[.int .i64 rc, .int .i64 rs, .int .i64 ra, .int .i64 rb] 33)) K9 rfl rfl (want_none rfl) (fun ev E => ?_) (fun a11 K11 => ?_)
  · have EC := E.const; have E26 := E.tmp 26 _ rfl; clear E; clear HH h1 h2 FR; (try clear h0); go_simp
  clear K9
  refine wpList_nil ?_
  show Code.wp _ _ _ _ _
  have bV : Below w.heap.size w (V1.alloc (.cells #[.int .i64 rc, .int .i64 rs, .int .i64 ra, .int .i64 rb] 33)) := b1.alloc b1.size _
  have sV := SumAt.new33 V1 rc rs ra rb
  generalize V1.alloc (.cells #[.int .i64 rc, .int .i64 rs, .int .i64 ra, .int .i64 rb] 33) = V at *
  generalize V1.heap.size = u9 at *
  clear b1
  obtain ⟨⟨s0, s1, s2, s3⟩, _⟩ := sV
  dsimp only at s0 s1 s2 s3
  have K12 : Kb _ 100 [(0, .pointer (some ⟨q, 0, none⟩)), (1, .int .i64 x), (2, .int .i64 y), (3, .int .i64 d), (9, .pointer (some ⟨u9, 0, none⟩)), (10, .bool ok)] := K11.less ⟨rfl, rfl, rfl, rfl, rfl, rfl, trivial⟩
  clear K11
  cases ok
  · have FB : Hid (A.liftB x y d = false) := by show _ = _; rw [Se.liftB, (unhide FR).2]; rfl
    refine wp_seq (seqN ?_)
    refine wp_region_lit ?_
    refine ltake (v := .bool false) (w' := V) K12 rfl rfl (want_none rfl) (fun ev E => ?_) (fun a13 K13 => ?_)
    · have EC := E.const; have E10 := E.tmp 10 _ rfl; clear E; clear HH FR; (try clear h1); (try clear h2); (try clear FB); go_simp
    clear K12
    refine ltake (v := .bool true) (w' := V) K13 rfl rfl (want_none rfl) (fun ev E => ?_) (fun a14 K14 => ?_)
    · have EC := E.const; have E27 := E.tmp 27 _ rfl; clear E; clear HH FR; (try clear h1); (try clear h2); (try clear FB); go_simp
    clear K13
    refine wpList_nil ?_
    show Code.wp _ _ _ _ _
    refine knCond (b := true) K14 rfl ?_
    refine seqN ?_
    refine wp_region_lit ?_
    refine ltake (v := Value.bool false) (w' := V) K14 rfl rfl (want_none rfl) (fun ev E => ?_) (fun a15 K15 => ?_)
    · have EC := E.const; clear E; clear HH FR; (try clear h1); (try clear h2); (try clear FB); go_simp
    clear K14
    refine wpList_nil ?_
    refine wp_ret ?_
    refine thenRet ?_
    refine bodyPost_ret (v := .bool false) ?_ K15.defers ⟨?_, ?_⟩
    · have e8 := K15.has 8 _ rfl
      simp [results, Try.results24, go_sem, e8]
    · rw [unhide FB]
    · have := unhide FB; rw [Se.liftA, this]; exact ⟨⟨vL, hs, fw, (unhide HH).below bV, fun k hk => .inl hk, fun u hu => .inl hu⟩, Keep.ofBelow bV _⟩
  · have A1 := hide (fun W => radd_any ra d W)
    have A2 := hide (fun W => radd_any rb d W)
    obtain ⟨ba, hba⟩ : ∃ b, addB ra d = b := ⟨_, rfl⟩
    obtain ⟨bb, hbb⟩ : ∃ b, addB rb d = b := ⟨_, rfl⟩
    rw [hba] at A1
    rw [hbb] at A2
    have HB := hide (And.intro hba hbb)
    clear hba hbb
    generalize addV ra d = va at *
    generalize addV rb d = vb at *
    refine wp_seq (seqN ?_)
    refine wp_region_lit ?_
    refine ltake (v := .bool true) (w' := V) K12 rfl rfl (want_none rfl) (fun ev E => ?_) (fun a13 K13 => ?_)
    · have EC := E.const; have E10 := E.tmp 10 _ rfl; clear E; clear HH FR h1 h2 HB; (try clear A1); (try clear A2); go_simp
    clear K12
    refine ltake (v := .bool false) (w' := V) K13 rfl rfl (want_none rfl) (fun ev E => ?_) (fun a14 K14 => ?_)
    · have EC := E.const; have E27 := E.tmp 27 _ rfl; clear E; clear HH FR h1 h2 HB; (try clear A1); (try clear A2); go_simp
    clear K13
    refine wpList_nil ?_
    show Code.wp _ _ _ _ _
    refine knCond (b := false) K14 rfl (wp_skip ?_)
    show Code.wp _ _ _ _ _
    refine seqN ?_
    refine wp_region_lit ?_
    refine ltake (v := .pointer (some ⟨u9, 2, none⟩)) (w' := V) K14 rfl rfl (want_none rfl) (fun ev E => ?_) (fun a15 K15 => ?_)
    · have EC := E.const; have E9 := E.tmp 9 _ rfl; clear E; clear HH FR h1 h2 HB; (try clear A1); (try clear A2); go_simp
    clear K14
    refine ltake (v := .int .i64 ra) (w' := V) K15 rfl rfl (want_none rfl) (fun ev E => ?_) (fun a16 K16 => ?_)
    · have EC := E.const; have E30 := E.tmp 30 _ rfl; clear E; clear HH FR h1 h2 HB; (try clear A1); (try clear A2); go_simp
    clear K15
    refine ltake (v := .int .i64 d) (w' := V) K16 rfl rfl (want_none rfl) (fun ev E => ?_) (fun a17 K17 => ?_)
    · have EC := E.const; have E3 := E.tmp 3 _ rfl; clear E; clear HH FR h1 h2 HB; (try clear A1); (try clear A2); go_simp
    clear K16
    refine lcall (f := 57) (args := #[.int .i64 ra, .int .i64 d]) K17 rfl rfl (want_none rfl) (fun ev E => ?_) (unhide A1 _) (fun e w1 hR => ?_)
    · have EC := E.const; have EF := E.func; have E31 := E.tmp 31 _ rfl; have E32 := E.tmp 32 _ rfl; clear E; clear HH FR h1 h2 HB; (try clear A1); (try clear A2); go_simp
    obtain ⟨rfl, hw1⟩ := hR
    rw [hw1]
    clear hw1
    refine ⟨_, rfl, fun a18 K18 => ?_⟩
    clear K17
    refine ltake (v := .tuple #[.int .i64 va, .bool ba]) (w' := V) K18 rfl rfl (want_none rfl) (fun ev E => ?_) (fun a19 K19 => ?_)
    · have EC := E.const; have E33 := E.tmp 33 _ rfl; clear E; clear HH FR h1 h2 HB; (try clear A1); (try clear A2); go_simp
    clear K18
    refine ltake (v := .int .i64 va) (w' := V) K19 rfl rfl (want_none rfl) (fun ev E => ?_) (fun a20 K20 => ?_)
    · have EC := E.const; have E29 := E.tmp 29 _ rfl; clear E; clear HH FR h1 h2 HB; (try clear A1); (try clear A2); go_simp
    clear K19
    refine ltake (v := .bool ba) (w' := V) K20 rfl rfl (want_none rfl) (fun ev E => ?_) (fun a21 K21 => ?_)
    · have EC := E.const; have E29 := E.tmp 29 _ rfl; clear E; clear HH FR h1 h2 HB; (try clear A1); (try clear A2); go_simp
    clear K20
    refine ltake (v := .int .i64 va) (w' := V) K21 rfl rfl (want_none rfl) (fun ev E => ?_) (fun a22 K22 => ?_)
    · have EC := E.const; have E34 := E.tmp 34 _ rfl; clear E; clear HH FR h1 h2 HB; (try clear A1); (try clear A2); go_simp
    clear K21
    refine ltake (v := .bool ba) (w' := V) K22 rfl rfl (want_none rfl) (fun ev E => ?_) (fun a23 K23 => ?_)
    · have EC := E.const; have E35 := E.tmp 35 _ rfl; clear E; clear HH FR h1 h2 HB; (try clear A1); (try clear A2); go_simp
    clear K22
    refine wpList_nil ?_
    show Code.wp _ _ _ _ _
    refine seqN ?_
    refine wp_region_lit ?_
    refine ltake (v := .pointer (some ⟨u9, 3, none⟩)) (w' := V) K23 rfl rfl (want_none rfl) (fun ev E => ?_) (fun a24 K24 => ?_)
    · have EC := E.const; have E9 := E.tmp 9 _ rfl; clear E; clear HH FR h1 h2 HB; (try clear A1); (try clear A2); go_simp
    clear K23
    refine ltake (v := .int .i64 rb) (w' := V) K24 rfl rfl (want_none rfl) (fun ev E => ?_) (fun a25 K25 => ?_)
    · have EC := E.const; have E37 := E.tmp 37 _ rfl; clear E; clear HH FR h1 h2 HB; (try clear A1); (try clear A2); go_simp
    clear K24
    refine ltake (v := .int .i64 d) (w' := V) K25 rfl rfl (want_none rfl) (fun ev E => ?_) (fun a26 K26 => ?_)
    · have EC := E.const; have E3 := E.tmp 3 _ rfl; clear E; clear HH FR h1 h2 HB; (try clear A1); (try clear A2); go_simp
    clear K25
    refine lcall (f := 57) (args := #[.int .i64 rb, .int .i64 d]) K26 rfl rfl (want_none rfl) (fun ev E => ?_) (unhide A2 _) (fun e w1 hR => ?_)
    · have EC := E.const; have EF := E.func; have E38 := E.tmp 38 _ rfl; have E39 := E.tmp 39 _ rfl; clear E; clear HH FR h1 h2 HB; (try clear A1); (try clear A2); go_simp
    obtain ⟨rfl, hw1⟩ := hR
    rw [hw1]
    clear hw1
    refine ⟨_, rfl, fun a27 K27 => ?_⟩
    clear K26
    refine ltake (v := .tuple #[.int .i64 vb, .bool bb]) (w' := V) K27 rfl rfl (want_none rfl) (fun ev E => ?_) (fun a28 K28 => ?_)
    · have EC := E.const; have E40 := E.tmp 40 _ rfl; clear E; clear HH FR h1 h2 HB; (try clear A1); (try clear A2); go_simp
    clear K27
    refine ltake (v := .int .i64 vb) (w' := V) K28 rfl rfl (want_none rfl) (fun ev E => ?_) (fun a29 K29 => ?_)
    · have EC := E.const; have E36 := E.tmp 36 _ rfl; clear E; clear HH FR h1 h2 HB; (try clear A1); (try clear A2); go_simp
    clear K28
    refine ltake (v := .bool bb) (w' := V) K29 rfl rfl (want_none rfl) (fun ev E => ?_) (fun a30 K30 => ?_)
    · have EC := E.const; have E36 := E.tmp 36 _ rfl; clear E; clear HH FR h1 h2 HB; (try clear A1); (try clear A2); go_simp
    clear K29
    refine ltake (v := .int .i64 vb) (w' := V) K30 rfl rfl (want_none rfl) (fun ev E => ?_) (fun a31 K31 => ?_)
    · have EC := E.const; have E41 := E.tmp 41 _ rfl; clear E; clear HH FR h1 h2 HB; (try clear A1); (try clear A2); go_simp
    clear K30
    refine ltake (v := .bool bb) (w' := V) K31 rfl rfl (want_none rfl) (fun ev E => ?_) (fun a32 K32 => ?_)
    · have EC := E.const; have E42 := E.tmp 42 _ rfl; clear E; clear HH FR h1 h2 HB; (try clear A1); (try clear A2); go_simp
    clear K31
    refine wpList_nil ?_
    show Code.wp _ _ _ _ _
    have K33 : Kb _ 100 [(0, .pointer (some ⟨q, 0, none⟩)), (1, .int .i64 x), (2, .int .i64 y), (3, .int .i64 d), (12, .bool ba), (14, .bool bb)] := K32.less ⟨rfl, rfl, rfl, rfl, rfl, rfl, trivial⟩
    clear K32
    clear A1 A2
    cases ba
    · have FB : Hid (A.liftB x y d = false) := by show _ = _; rw [Se.liftB, (unhide FR).1, (unhide HB).1]; simp
      refine wp_seq (seqN ?_)
      refine wp_region_lit ?_
      refine ltake (v := .bool false) (w' := V) K33 rfl rfl (want_none rfl) (fun ev E => ?_) (fun a34 K34 => ?_)
      · have EC := E.const; have E12 := E.tmp 12 _ rfl; clear E; clear HH FR h1 h2 HB FB; go_simp
      clear K33
      refine ltake (v := .bool true) (w' := V) K34 rfl rfl (want_none rfl) (fun ev E => ?_) (fun a35 K35 => ?_)
      · have EC := E.const; have E43 := E.tmp 43 _ rfl; clear E; clear HH FR h1 h2 HB FB; go_simp
      clear K34
      refine ltake (v := .bool true) (w' := V) K35 rfl rfl (want_none rfl) (fun ev E => ?_) (fun a36 K36 => ?_)
      · have EC := E.const; have E44 := E.tmp 44 _ rfl; clear E; clear HH FR h1 h2 HB FB; go_simp
      clear K35
      refine lskip K36 rfl rfl (want_not K36 rfl rfl rfl (by decide)) (fun a37 K37 => ?_)
      refine lskip K37 rfl rfl (want_not K37 rfl rfl rfl (by decide)) (fun a38 K38 => ?_)
      refine ltake (v := .bool true) (w' := V) K38 rfl rfl (want_none rfl) (fun ev E => ?_) (fun a39 K39 => ?_)
      · have EC := E.const; have E45 := E.tmp 45 _ rfl; have E47 := E.tmp 47 _ rfl; clear E; clear HH FR h1 h2 HB FB; go_simp
      clear K38
      refine wpList_nil ?_
      show Code.wp _ _ _ _ _
      refine knCond (b := true) K39 rfl ?_
      refine seqN ?_
      refine wp_region_lit ?_
      refine ltake (v := Value.bool false) (w' := V) K39 rfl rfl (want_none rfl) (fun ev E => ?_) (fun a40 K40 => ?_)
      · have EC := E.const; clear E; clear HH FR h1 h2 HB FB; go_simp
      clear K39
      refine wpList_nil ?_
      refine wp_ret ?_
      refine thenRet ?_
      refine bodyPost_ret (v := .bool false) ?_ K40.defers ⟨?_, ?_⟩
      · have e8 := K40.has 8 _ rfl
        simp [results, Try.results24, go_sem, e8]
      · rw [unhide FB]
      · have := unhide FB; rw [Se.liftA, this]; exact ⟨⟨vL, hs, fw, (unhide HH).below bV, fun k hk => .inl hk, fun u hu => .inl hu⟩, Keep.ofBelow bV _⟩
    · cases bb
      · have FB : Hid (A.liftB x y d = false) := by show _ = _; rw [Se.liftB, (unhide FR).1, (unhide HB).2]; simp
        refine wp_seq (seqN ?_)
        refine wp_region_lit ?_
        refine ltake (v := .bool true) (w' := V) K33 rfl rfl (want_none rfl) (fun ev E => ?_) (fun a34 K34 => ?_)
        · have EC := E.const; have E12 := E.tmp 12 _ rfl; clear E; clear HH FR h1 h2 HB FB; go_simp
        clear K33
        refine ltake (v := .bool false) (w' := V) K34 rfl rfl (want_none rfl) (fun ev E => ?_) (fun a35 K35 => ?_)
        · have EC := E.const; have E43 := E.tmp 43 _ rfl; clear E; clear HH FR h1 h2 HB FB; go_simp
        clear K34
        refine ltake (v := .bool false) (w' := V) K35 rfl rfl (want_none rfl) (fun ev E => ?_) (fun a36 K36 => ?_)
        · have EC := E.const; have E44 := E.tmp 44 _ rfl; clear E; clear HH FR h1 h2 HB FB; go_simp
        clear K35
        refine ltake (v := .bool false) (w' := V) K36 rfl rfl (want_some K36 rfl rfl rfl) (fun ev E => ?_) (fun a37 K37 => ?_)
        · have EC := E.const; have E14 := E.tmp 14 _ rfl; clear E; clear HH FR h1 h2 HB FB; go_simp
        clear K36
        refine ltake (v := .bool true) (w' := V) K37 rfl rfl (want_some K37 rfl rfl rfl) (fun ev E => ?_) (fun a38 K38 => ?_)
        · have EC := E.const; have E46 := E.tmp 46 _ rfl; clear E; clear HH FR h1 h2 HB FB; go_simp
        clear K37
        refine ltake (v := .bool true) (w' := V) K38 rfl rfl (want_none rfl) (fun ev E => ?_) (fun a39 K39 => ?_)
        · have EC := E.const; have E45 := E.tmp 45 _ rfl; have E47 := E.tmp 47 _ rfl; clear E; clear HH FR h1 h2 HB FB; go_simp
        clear K38
        refine wpList_nil ?_
        show Code.wp _ _ _ _ _
        refine knCond (b := true) K39 rfl ?_
        refine seqN ?_
        refine wp_region_lit ?_
        refine ltake (v := Value.bool false) (w' := V) K39 rfl rfl (want_none rfl) (fun ev E => ?_) (fun a40 K40 => ?_)
        · have EC := E.const; clear E; clear HH FR h1 h2 HB FB; go_simp
        clear K39
        refine wpList_nil ?_
        refine wp_ret ?_
        refine thenRet ?_
        refine bodyPost_ret (v := .bool false) ?_ K40.defers ⟨?_, ?_⟩
        · have e8 := K40.has 8 _ rfl
          simp [results, Try.results24, go_sem, e8]
        · rw [unhide FB]
        · have := unhide FB; rw [Se.liftA, this]; exact ⟨⟨vL, hs, fw, (unhide HH).below bV, fun k hk => .inl hk, fun u hu => .inl hu⟩, Keep.ofBelow bV _⟩
      · have FB : Hid (A.liftB x y d = true) := by show _ = _; rw [Se.liftB, (unhide FR).1, (unhide FR).2, (unhide HB).1, (unhide HB).2]; rfl
        refine wp_seq (seqN ?_)
        refine wp_region_lit ?_
        refine ltake (v := .bool true) (w' := V) K33 rfl rfl (want_none rfl) (fun ev E => ?_) (fun a34 K34 => ?_)
        · have EC := E.const; have E12 := E.tmp 12 _ rfl; clear E; clear HH FR HB FB; (try clear h1); (try clear h2); (try clear HP8); go_simp
        clear K33
        refine ltake (v := .bool false) (w' := V) K34 rfl rfl (want_none rfl) (fun ev E => ?_) (fun a35 K35 => ?_)
        · have EC := E.const; have E43 := E.tmp 43 _ rfl; clear E; clear HH FR HB FB; (try clear h1); (try clear h2); (try clear HP8); go_simp
        clear K34
        refine ltake (v := .bool false) (w' := V) K35 rfl rfl (want_none rfl) (fun ev E => ?_) (fun a36 K36 => ?_)
        · have EC := E.const; have E44 := E.tmp 44 _ rfl; clear E; clear HH FR HB FB; (try clear h1); (try clear h2); (try clear HP8); go_simp
        clear K35
        refine ltake (v := .bool true) (w' := V) K36 rfl rfl (want_some K36 rfl rfl rfl) (fun ev E => ?_) (fun a37 K37 => ?_)
        · have EC := E.const; have E14 := E.tmp 14 _ rfl; clear E; clear HH FR HB FB; (try clear h1); (try clear h2); (try clear HP8); go_simp
        clear K36
        refine ltake (v := .bool false) (w' := V) K37 rfl rfl (want_some K37 rfl rfl rfl) (fun ev E => ?_) (fun a38 K38 => ?_)
        · have EC := E.const; have E46 := E.tmp 46 _ rfl; clear E; clear HH FR HB FB; (try clear h1); (try clear h2); (try clear HP8); go_simp
        clear K37
        refine ltake (v := .bool false) (w' := V) K38 rfl rfl (want_none rfl) (fun ev E => ?_) (fun a39 K39 => ?_)
        · have EC := E.const; have E45 := E.tmp 45 _ rfl; have E47 := E.tmp 47 _ rfl; clear E; clear HH FR HB FB; (try clear h1); (try clear h2); (try clear HP8); go_simp
        clear K38
        refine wpList_nil ?_
        show Code.wp _ _ _ _ _
        refine knCond (b := false) K39 rfl (wp_skip ?_)
        show Code.wp _ _ _ _ _
        refine seqN ?_
        refine wp_region_lit ?_
        refine ltake (v := .pointer (some ⟨q, 0, none⟩)) (w' := V) K39 rfl rfl (want_none rfl) (fun ev E => ?_) (fun a40 K40 => ?_)
        · have EC := E.const; have E0 := E.tmp 0 _ rfl; clear E; clear HH FR HB FB; (try clear h1); (try clear h2); (try clear HP8); go_simp
        clear K39
        refine ltake (v := .int .i64 x) (w' := V) K40 rfl rfl (want_none rfl) (fun ev E => ?_) (fun a41 K41 => ?_)
        · have EC := E.const; have E1 := E.tmp 1 _ rfl; clear E; clear HH FR HB FB; (try clear h1); (try clear h2); (try clear HP8); go_simp
        clear K40
        refine lcall (f := 48) (args := #[.pointer (some ⟨q, 0, none⟩), .int .i64 x]) K41 rfl rfl (want_none rfl) (fun ev E => ?_) (unhide h1 _ bV) (fun e w1 hR => ?_)
        · have EC := E.const; have EF := E.func; have E50 := E.tmp 50 _ rfl; have E51 := E.tmp 51 _ rfl; clear E; clear HH FR HB FB; (try clear h1); (try clear h2); (try clear HP8); go_simp
        obtain ⟨⟨i, k, hp8, rfl⟩, hw1⟩ := hR
        rw [← hw1]
        clear hw1
        have HP8 := hide hp8
        clear hp8
        refine ⟨_, rfl, fun a42 K42 => ?_⟩
        clear K41
        refine ltake (v := .tuple #[.int .i64 i, .int .i64 k]) (w' := V) K42 rfl rfl (want_none rfl) (fun ev E => ?_) (fun a43 K43 => ?_)
        · have EC := E.const; have E52 := E.tmp 52 _ rfl; clear E; clear HH FR HB FB; (try clear h1); (try clear h2); (try clear HP8); go_simp
        clear K42
        refine ltake (v := .int .i64 i) (w' := V) K43 rfl rfl (want_none rfl) (fun ev E => ?_) (fun a44 K44 => ?_)
        · have EC := E.const; have E49 := E.tmp 49 _ rfl; clear E; clear HH FR HB FB; (try clear h1); (try clear h2); (try clear HP8); go_simp
        clear K43
        refine ltake (v := .int .i64 k) (w' := V) K44 rfl rfl (want_none rfl) (fun ev E => ?_) (fun a45 K45 => ?_)
        · have EC := E.const; have E49 := E.tmp 49 _ rfl; clear E; clear HH FR HB FB; (try clear h1); (try clear h2); (try clear HP8); go_simp
        clear K44
        refine ltake (v := .int .i64 i) (w' := V) K45 rfl rfl (want_none rfl) (fun ev E => ?_) (fun a46 K46 => ?_)
        · have EC := E.const; have E53 := E.tmp 53 _ rfl; clear E; clear HH FR HB FB; (try clear h1); (try clear h2); (try clear HP8); go_simp
        clear K45
        refine ltake (v := .int .i64 k) (w' := V) K46 rfl rfl (want_none rfl) (fun ev E => ?_) (fun a47 K47 => ?_)
        · have EC := E.const; have E54 := E.tmp 54 _ rfl; clear E; clear HH FR HB FB; (try clear h1); (try clear h2); (try clear HP8); go_simp
        clear K46
        refine wpList_nil ?_
        show Code.wp _ _ _ _ _
        refine seqN ?_
        refine wp_region_lit ?_
        refine ltake (v := .pointer (some ⟨q, 0, none⟩)) (w' := V) K47 rfl rfl (want_none rfl) (fun ev E => ?_) (fun a48 K48 => ?_)
        · have EC := E.const; have E0 := E.tmp 0 _ rfl; clear E; clear HH FR HB FB; (try clear h1); (try clear h2); (try clear HP8); go_simp
        clear K47
        refine ltake (v := .int .i64 y) (w' := V) K48 rfl rfl (want_none rfl) (fun ev E => ?_) (fun a49 K49 => ?_)
        · have EC := E.const; have E2 := E.tmp 2 _ rfl; clear E; clear HH FR HB FB; (try clear h1); (try clear h2); (try clear HP8); go_simp
        clear K48
        refine lcall (f := 48) (args := #[.pointer (some ⟨q, 0, none⟩), .int .i64 y]) K49 rfl rfl (want_none rfl) (fun ev E => ?_) (unhide h2 _ bV) (fun e w1 hR => ?_)
        · have EC := E.const; have EF := E.func; have E56 := E.tmp 56 _ rfl; have E57 := E.tmp 57 _ rfl; clear E; clear HH FR HB FB; (try clear h1); (try clear h2); (try clear HP8); go_simp
        obtain ⟨⟨i', k', hp9, rfl⟩, hw1⟩ := hR
        rw [← hw1]
        clear hw1
        have HP9 := hide hp9
        clear hp9
        refine ⟨_, rfl, fun a50 K50 => ?_⟩
        clear K49
        refine ltake (v := .tuple #[.int .i64 i', .int .i64 k']) (w' := V) K50 rfl rfl (want_none rfl) (fun ev E => ?_) (fun a51 K51 => ?_)
        · have EC := E.const; have E58 := E.tmp 58 _ rfl; clear E; clear HH FR HB FB; (try clear h1); (try clear h2); (try clear HP8); go_simp
        clear K50
        refine ltake (v := .int .i64 i') (w' := V) K51 rfl rfl (want_none rfl) (fun ev E => ?_) (fun a52 K52 => ?_)
        · have EC := E.const; have E55 := E.tmp 55 _ rfl; clear E; clear HH FR HB FB; (try clear h1); (try clear h2); (try clear HP8); go_simp
        clear K51
        refine ltake (v := .int .i64 k') (w' := V) K52 rfl rfl (want_none rfl) (fun ev E => ?_) (fun a53 K53 => ?_)
        · have EC := E.const; have E55 := E.tmp 55 _ rfl; clear E; clear HH FR HB FB; (try clear h1); (try clear h2); (try clear HP8); go_simp
        clear K52
        refine ltake (v := .int .i64 i') (w' := V) K53 rfl rfl (want_none rfl) (fun ev E => ?_) (fun a54 K54 => ?_)
        · have EC := E.const; have E59 := E.tmp 59 _ rfl; clear E; clear HH FR HB FB; (try clear h1); (try clear h2); (try clear HP8); go_simp
        clear K53
        refine ltake (v := .int .i64 k') (w' := V) K54 rfl rfl (want_none rfl) (fun ev E => ?_) (fun a55 K55 => ?_)
        · have EC := E.const; have E60 := E.tmp 60 _ rfl; clear E; clear HH FR HB FB; (try clear h1); (try clear h2); (try clear HP8); go_simp
        clear K54
        refine wpList_nil ?_
        show Code.wp _ _ _ _ _
        have K56 : Kb _ 100 [(0, .pointer (some ⟨q, 0, none⟩)), (3, .int .i64 d), (15, .int .i64 i), (16, .int .i64 k), (18, .int .i64 k')] := K55.less ⟨rfl, rfl, rfl, rfl, rfl, trivial⟩
        clear K55
        clear h1 h2 HB
        have hok := (unhide FR).2
        simp only [Se.okR, Bool.and_eq_true, decide_eq_true_eq] at hok
        obtain ⟨hsm, hrk⟩ := hok
        simp only [Se.sameI, Bool.and_eq_true, decide_eq_true_eq] at hsm
        obtain ⟨⟨hx1, hy1⟩, hym⟩ := hsm
        rcases pos_facts (unhide HH).nd (unhide HP8) with ⟨f1, v, ii, kk, rfl, rfl, rfl, hi, hs1, hk, f2, f3, f4⟩ | ⟨f1, _⟩
        case inr => rw [f1] at hx1; cases hx1
        rcases pos_facts (unhide HH).nd (unhide HP9) with ⟨g1, v', jj, ll, rfl, rfl, rfl, hj, gs1, gk, g2, g3, g4⟩ | ⟨g1, _⟩
        case inr => rw [g1] at hy1; cases hy1
        rw [f2, g2] at hrk
        have gm : v' ∈ A.seqI (v' : Int) := by have := get_mem gk; rwa [g3] at this
        rw [Int.toNat_natCast, ← hs1] at hym
        have hE : ii = jj := same_idx (unhide HH).nd hi hj hym (by rw [gs1]; exact gm)
        subst hE
        have hsq : A.seqI (v' : Int) = A.seqI (v : Int) := by rw [← gs1, hs1]
        rw [hsq] at gk
        have hpart : A.part (v : Int) (v' : Int) = ((A.seqI (v : Int)).take (ll + 1)).drop kk := by rw [Se.part, f2, g2]; simp
        have hO : kk ≤ ll := by omega
        have hll : (A.seqI (v : Int)).length ≤ 4194304 := by rw [← hs1]; exact (unhide HH).lenl _ (getD_mem hi)
        have hnd : (A.seqI (v : Int)).Nodup := by rw [← hs1]; exact nodup_flatten (unhide HH).nd (getD_mem hi)
        have HI := hide (And.intro hs1 (And.intro gk (And.intro hll (And.intro hnd hpart))))
        have HM : Hid (∀ u ∈ A.seqI (v : Int), u ∈ A.L.flatten) := fun u hu => List.mem_flatten.2 ⟨_, getD_mem hi, by rw [hs1]; exact hu⟩
        have hlls : ll < (A.seqI (v : Int)).length := gk
        clear f1 f2 f3 f4 g1 g2 g3 g4 hs1 hk gs1 gk gm hsq hpart HP8 HP9 hj hx1 hy1 hym hrk hnd s0 s1 s2 s3
        refine wp_seq (seqN ?_)
        refine wp_region_lit ?_
        refine ltake (v := .int .i64 (kk : Int)) (w' := V) K56 rfl rfl (want_none rfl) (fun ev E => ?_) (fun a57 K57 => ?_)
        · have EC := E.const; have E16 := E.tmp 16 _ rfl; clear E; clear HH FR FB HI HM; go_simp
        clear K56
        refine ltake (v := .int .i64 (kk : Int)) (w' := V) K57 rfl rfl (want_none rfl) (fun ev E => ?_) (fun a58 K58 => ?_)
        · have EC := E.const; have E61 := E.tmp 61 _ rfl; clear E; clear HH FR FB HI HM; go_simp
        clear K57
        refine wpList_nil ?_
        show Code.wp _ _ _ _ _
        have K59 : Kb _ 100 [(0, .pointer (some ⟨q, 0, none⟩)), (3, .int .i64 d), (15, .int .i64 (ii : Int)), (18, .int .i64 (ll : Int)), (19, .int .i64 (kk : Int))] := K58.less ⟨rfl, rfl, rfl, rfl, rfl, trivial⟩
        clear K58
        refine wp_block ?_
        show (Code.loop LOOP24).wp _ _ _ _
        refine wp_loop (fun a w' => ∃ (j : Nat) (fw' : Nat → Int), kk ≤ j ∧ j ≤ ll + 1 ∧ Kb a 100 [(0, .pointer (some ⟨q, 0, none⟩)), (3, .int .i64 d), (15, .int .i64 (ii : Int)), (18, .int .i64 (ll : Int)), (19, .int .i64 (j : Int))] ∧ Rl V w' q bw vL hs fw' A (((A.seqI (v : Int)).take j).drop kk) d) (fun a _ => ll + 1 - (intOf (a.eval (.tmp 19))).toNat) ⟨kk, fw, Nat.le_refl _, by omega, K59, by
          rw [List.drop_of_length_le (by simp; omega)]
          exact ⟨((unhide HH).below bV).rin, fun u hu => by rw [(unhide HH).wt u hu]; simp [upW], Keep.refl _ _⟩⟩ ?_
        clear K59
        rintro aL WL ⟨j, fw', hj1, hj2, KL, hRL⟩
        have em : intOf (aL.eval (.tmp 19)) = (j : Int) := by rw [KL.ev (s := 19) rfl]; rfl
        have RL := hide hRL
        clear hRL
        by_cases hlt : j ≤ ll
        · have e3 : (j : Int) ≤ (ll : Int) := by omega
          refine wp_seq (seqN ?_)
          refine wp_region_lit ?_
          refine ltake (v := .int .i64 (j : Int)) (w' := WL) KL rfl rfl (want_none rfl) (fun ev E => ?_) (fun a65 K65 => ?_)
          · have EC := E.const; have E19 := E.tmp 19 _ rfl; clear E; clear FB FR HH HI HM RL; go_simp
          clear KL
          refine ltake (v := .int .i64 (ll : Int)) (w' := WL) K65 rfl rfl (want_none rfl) (fun ev E => ?_) (fun a66 K66 => ?_)
          · have EC := E.const; have E18 := E.tmp 18 _ rfl; clear E; clear FB FR HH HI HM RL; go_simp
          clear K65
          refine ltake (v := .bool true) (w' := WL) K66 rfl rfl (want_none rfl) (fun ev E => ?_) (fun a67 K67 => ?_)
          · have EC := E.const; have E62 := E.tmp 62 _ rfl; have E63 := E.tmp 63 _ rfl; clear E; clear FB FR HH HI HM RL; go_simp
          clear K66
          refine wpList_nil ?_
          show Code.wp _ _ _ _ _
          refine knCond (b := true) K67 rfl (wp_skip ?_)
          show Code.wp _ _ _ _ _
          refine wp_seq (wp_block ?_)
          have K68 : Kb _ 100 [(0, .pointer (some ⟨q, 0, none⟩)), (3, .int .i64 d), (15, .int .i64 (ii : Int)), (18, .int .i64 (ll : Int)), (19, .int .i64 (j : Int))] := K67.less ⟨rfl, rfl, rfl, rfl, rfl, trivial⟩
          clear K67
          have hL := unhide RL
          obtain ⟨c0, c1, c2, _⟩ := hL.rin.cells
          obtain ⟨hs1, gk, hll', hnd, hpart⟩ := unhide HI
          obtain ⟨xo, cap, hvL, k1, k2, k3⟩ := hL.rin.outer
          obtain ⟨gg, hxo, hg, hc⟩ := k3 (by omega)
          obtain ⟨b, cap', hu, m1, m2, m3, m4⟩ := hL.rin.hd ii hi
          have d1 := hc ii hi
          rw [hu] at d1
          rw [hs1] at d1 m1 m4
          have hjl : j < (A.seqI (v : Int)).length := by omega
          have d2 := m4 j hjl
          have hzm := unhide HM _ (get_mem hjl)
          have hzn := (unhide HH).lt _ hzm
          have d3 := hL.rin.rw.cell hzn
          have d4 := hL.rin.rw.frozen ((A.seqI (v : Int)).getD j 0)
          have hfit := (unhide HH).fit _ hzm
          have hni : (A.seqI (v : Int)).getD j 0 ∉ ((A.seqI (v : Int)).take j).drop kk := fun hm => by
            have hm' := List.mem_of_mem_drop hm
            obtain ⟨i, hi', e'⟩ := List.mem_iff_getElem.1 hm'
            rw [List.length_take] at hi'
            rw [List.getElem_take, List.getD_eq_getElem?_getD, List.getElem?_eq_getElem hjl] at e'
            have := (List.getElem_inj hnd).1 e'
            omega
          unfold inV at d3
          rw [hL.wt _ hzm] at d3
          have hup : upW A.W (((A.seqI (v : Int)).take j).drop kk) d ((A.seqI (v : Int)).getD j 0) = A.W ((A.seqI (v : Int)).getD j 0) := by simp only [upW, hni, if_false]
          rw [hup] at d3
          have hst := hL.step hni
          rw [← slice_succ hj1 hjl] at hst
          have hdb : -2199023255552 ≤ d ∧ d ≤ 2199023255552 := by
            have := unhide FB
            simp only [Se.liftB, addB, inB, Bool.and_eq_true, decide_eq_true_eq] at this
            omega
          refine lastN (rg24_13 (g := gg) (LN := A.L.length) (cap := cap) (b := b) (M := (A.seqI (v : Int)).length) (cap' := cap') (bw := bw) (n := A.n) (z := (A.seqI (v : Int)).getD j 0) (y := A.W ((A.seqI (v : Int)).getD j 0)) K68 (by rw [c1, hvL, hxo]) c2 d1 d2 d3 d4 (by omega) (by omega) (by omega) (by omega) (by omega) (by omega) (IntWalk.i64_in _ (by omega)) (fun aM KM => ?_))
          show Code.wp _ _ _ _ _
          have RM := hide hst
          generalize WL.drew.setCell ⟨bw, (A.seqI (v : Int)).getD j 0, none⟩ (.int .i64 (A.W ((A.seqI (v : Int)).getD j 0) + d)) = WN at *
          clear hL c0 c1 c2 d1 d2 d3 d4 m4 hc hst hup hni
          refine lastN ?_
          refine wp_region_lit ?_
          refine ltake (v := .int .i64 (j : Int)) (w' := WN) KM rfl rfl (want_none rfl) (fun ev E => ?_) (fun a74 K74 => ?_)
          · have EC := E.const; have E19 := E.tmp 19 _ rfl; clear E; clear FB FR HH HI HM RL RM; go_simp
          clear KM
          refine ltake (v := .int .i64 ((j + 1 : Nat) : Int)) (w' := WN) K74 rfl rfl (want_none rfl) (fun ev E => ?_) (fun a75 K75 => ?_)
          · have hw := IntWalk.i64_in ((j : Int) + 1) (by omega); have EC := E.const; have E65 := E.tmp 65 _ rfl; clear E; clear FB FR HH HI HM RL RM; simp [go_sem, *]
          clear K74
          refine ltake (v := .int .i64 ((j + 1 : Nat) : Int)) (w' := WN) K75 rfl rfl (want_none rfl) (fun ev E => ?_) (fun a76 K76 => ?_)
          · have EC := E.const; have E66 := E.tmp 66 _ rfl; clear E; clear FB FR HH HI HM RL RM; go_simp
          clear K75
          refine wpList_nil ?_
          refine ⟨⟨j + 1, _, by omega, by omega, K76.less ⟨rfl, rfl, rfl, rfl, rfl, trivial⟩, unhide RM⟩, ?_⟩
          have em' := K76.ev (s := 19) (v := .int .i64 ((j + 1 : Nat) : Int)) rfl
          simp only [em, em', Int.toNat_natCast]
          simp only [intOf, Int.toNat_natCast]
          omega
        · have e3 : ¬ (j : Int) ≤ (ll : Int) := by omega
          refine wp_seq (seqN ?_)
          refine wp_region_lit ?_
          refine ltake (v := .int .i64 (j : Int)) (w' := WL) KL rfl rfl (want_none rfl) (fun ev E => ?_) (fun a65 K65 => ?_)
          · have EC := E.const; have E19 := E.tmp 19 _ rfl; clear E; clear FB FR HH HI HM RL; go_simp
          clear KL
          refine ltake (v := .int .i64 (ll : Int)) (w' := WL) K65 rfl rfl (want_none rfl) (fun ev E => ?_) (fun a66 K66 => ?_)
          · have EC := E.const; have E18 := E.tmp 18 _ rfl; clear E; clear FB FR HH HI HM RL; go_simp
          clear K65
          refine ltake (v := .bool false) (w' := WL) K66 rfl rfl (want_none rfl) (fun ev E => ?_) (fun a67 K67 => ?_)
          · have EC := E.const; have E62 := E.tmp 62 _ rfl; have E63 := E.tmp 63 _ rfl; clear E; clear FB FR HH HI HM RL; go_simp
          clear K66
          refine wpList_nil ?_
          show Code.wp _ _ _ _ _
          refine knCond (b := false) K67 rfl (wp_exit ?_)
          show Code.wp _ _ _ _ _
          obtain rfl : j = ll + 1 := by omega
          refine seqN ?_
          refine wp_region_lit ?_
          refine ltake (v := Value.bool true) (w' := WL) K67 rfl rfl (want_none rfl) (fun ev E => ?_) (fun a68 K68 => ?_)
          · have EC := E.const; clear E; clear FB FR HH HI HM RL; go_simp
          clear K67
          refine wpList_nil ?_
          refine wp_ret ?_
          refine bodyPost_ret (v := .bool true) ?_ K68.defers ⟨?_, ?_⟩
          · have e8 := K68.has 8 _ rfl
            simp [results, Try.results24, go_sem, e8]
          · rw [unhide FB]
          · have hL := unhide RL
            obtain ⟨_, _, _, _, hpart⟩ := unhide HI
            refine ⟨⟨vL, hs, fw', (unhide HH).lifted hL.rin (by rw [hpart]; exact hL.wt) (unhide FB), fun k hk => .inl hk, fun u hu => .inl hu⟩, ?_⟩
            exact (Keep.ofBelow bV _).trans hL.kp (fun i hi => .inl (by simp at hi; simp [hi]))
end
end Go.Proofs.Ytbkneonbpcmepaa
/- The document's pool: the sum of a sequence. -/

namespace Go.Arb
section
variable {P : Program} {ops : Array Oper} {Q : Exit → Act → World → Prop} {S : World → Prop} {a : Act} {w w' : World} {d d' n : Nat} {o o' : Oper} {L : List (Nat × Value)}
/-- Two that may come up: whichever does. -/
theorem utwo {i j t f : Nat} {l1 l2 l3 : Array Bool} {R R' : Value → World → Prop} (hk : Kb a n L) (hi : ops[i]? = some o) (hj : ops[j]? = some o') (hr : Region.ready .any ops l1 = [i, j]) (hl : l1.setIfInBounds i true = l2) (hl' : l1.setIfInBounds j true = l3)
    (ho : o.dst = some d) (ho' : o'.dst = some d') (hd : Nat.blt d n = true) (hd' : Nat.blt d' n = true) (hw : Region.wanted o (yielded ops a.tmps) = true) (hw' : Region.wanted o' (yielded ops a.tmps) = true)
    (hy : Lvs P Q o a w R) (hy' : Lvs P Q o' a w R')
    (h : ∀ v w', R v w' → (l2.getD t true = false → S w') ∧ ∀ a', Kb a' n ((d, v) :: L) → wpTill P ops Q t S f l2 a' w')
    (h' : ∀ v w', R' v w' → (l3.getD t true = false → S w') ∧ ∀ a', Kb a' n ((d', v) :: L) → wpTill P ops Q t S f l3 a' w') : wpTill P ops Q t S (f + 1) l1 a w := by
  subst hl
  subst hl'
  refine ⟨fun h => (by rw [hr] at h; cases h), fun k hk' => ?_⟩
  rw [hr] at hk'
  simp only [List.mem_cons, List.not_mem_nil, or_false] at hk'
  rcases hk' with rfl | rfl
  · refine wpOp_step hi (fun K hK => ?_)
    rw [if_pos hw]
    refine hy K (fun v w' hR => ?_)
    obtain ⟨h1, h2⟩ := h v w' hR
    refine hK _ _ ⟨h1, ?_⟩
    rw [ho]
    exact h2 _ (hk.put hd)
  · refine wpOp_step hj (fun K hK => ?_)
    rw [if_pos hw']
    refine hy' K (fun v w' hR => ?_)
    obtain ⟨h1, h2⟩ := h' v w' hR
    refine hK _ _ ⟨h1, ?_⟩
    rw [ho']
    exact h2 _ (hk.put hd')
end
end Go.Arb
namespace Go.Proofs.Ytbkneonbpcmepaa
open Go.RowKit Go.Arb
set_option linter.unusedVariables false
set_option linter.unusedSimpArgs false
set_option maxRecDepth 100000

section
variable {w w' : World} {q bw : Nat} {vL : Value} {hs : List Value} {fw : Nat → Int} {A : Se}
theorem all_range (nd : A.L.flatten.Nodup) {l : List Nat} (hl : l ∈ A.L) (h0 : 0 < l.length) : A.rangeI ((l.getD 0 0 : Nat) : Int) ((l.getD (l.length - 1) 0 : Nat) : Int) = ofR (l.map A.W) := by
  have m0 : l.getD 0 0 ∈ l := get_mem h0
  have m1 : l.getD (l.length - 1) 0 ∈ l := get_mem (by omega)
  have s0 := st_seqI (n := A.n) (W := A.W) nd hl m0
  have r0 := st_rank (n := A.n) (W := A.W) nd hl m0
  have r1 := st_rank (n := A.n) (W := A.W) nd hl m1
  have sm := st_same (n := A.n) (W := A.W) nd hl m0 m1
  rw [idx_get (nodup_flatten nd hl) h0] at r0
  rw [idx_get (nodup_flatten nd hl) (by omega)] at r1
  have s0' : A.seqI ((l.getD 0 0 : Nat) : Int) = l := s0
  have r0' : A.rankI ((l.getD 0 0 : Nat) : Int) = ((0 : Nat) : Int) := r0
  have r1' : A.rankI ((l.getD (l.length - 1) 0 : Nat) : Int) = ((l.length - 1 : Nat) : Int) := r1
  have sm' : A.sameI ((l.getD 0 0 : Nat) : Int) ((l.getD (l.length - 1) 0 : Nat) : Int) = true := sm
  have hok : A.okR ((l.getD 0 0 : Nat) : Int) ((l.getD (l.length - 1) 0 : Nat) : Int) = true := by rw [Se.okR, sm', r0', r1']; simp
  rw [Se.rangeI, if_pos hok, Se.part, s0', r0', r1', Int.toNat_natCast, Int.toNat_natCast, List.drop_zero, List.take_of_length_le (by omega)]
end
def OPS40_0 : List Oper := [({ dst := (some 4), op := (Op.alloc 33), type := 0, pos := "ref.go:175", after := #[], guard := none } : Oper)]
def OPS40_1 : List Oper := [({ dst := (some 10), op := (Op.move (Operand.tmp 0)), type := 25, pos := "ref.go:176", after := #[], guard := none } : Oper), ({ dst := (some 11), op := (Op.move (Operand.tmp 1)), type := 3, pos := "ref.go:176", after := #[], guard := none } : Oper), ({ dst := (some 12), op := (Op.call { callee := (Callee.value (Operand.func 48)), args := #[(Operand.tmp 10), (Operand.tmp 11)], argTypes := #[25, 3] }), type := 69, pos := "ref.go:176", after := #[{ on := 0, ground := Ground.data }, { on := 1, ground := Ground.data }], guard := none } : Oper), ({ dst := (some 9), op := (Op.move (Operand.tmp 12)), type := 69, pos := "ref.go:176", after := #[{ on := 2, ground := Ground.data }], guard := none } : Oper), ({ dst := (some 13), op := (Op.extract (Operand.tmp 9) 0), type := 3, pos := "ref.go:176", after := #[{ on := 3, ground := Ground.data }], guard := none } : Oper), ({ dst := (some 14), op := (Op.extract (Operand.tmp 9) 1), type := 3, pos := "ref.go:176", after := #[{ on := 3, ground := Ground.data }, { on := 6, ground := (Ground.gcOnly Departure.lateStores) }], guard := none } : Oper), ({ dst := (some 5), op := (Op.assign (Operand.tmp 13)), type := 3, pos := "ref.go:176", after := #[{ on := 4, ground := Ground.data }, { on := 2, ground := Ground.chain }, { on := 0, ground := Ground.phase }, { on := 1, ground := Ground.phase }, { on := 2, ground := Ground.phase }, { on := 3, ground := Ground.phase }, { on := 4, ground := Ground.phase }, { on := 5, ground := (Ground.textOnly Departure.lateStores) }], guard := none } : Oper), ({ dst := (some 6), op := (Op.assign (Operand.tmp 14)), type := 3, pos := "ref.go:176", after := #[{ on := 5, ground := Ground.data }, { on := 6, ground := Ground.chain }, { on := 0, ground := Ground.phase }, { on := 1, ground := Ground.phase }, { on := 2, ground := Ground.phase }, { on := 3, ground := Ground.phase }, { on := 4, ground := Ground.phase }, { on := 5, ground := Ground.phase }, { on := 6, ground := Ground.phase }], guard := none } : Oper)]
def OPS40_2 : List Oper := [({ dst := (some 15), op := (Op.move (Operand.tmp 5)), type := 3, pos := "ref.go:177", after := #[], guard := none } : Oper), ({ dst := (some 16), op := (Op.binOp BinOp.lss 3 (Operand.tmp 15) (Operand.const (Value.int IntKind.i64 0)) 3), type := 4, pos := "ref.go:177", after := #[{ on := 0, ground := Ground.data }], guard := none } : Oper)]
def OPS40_3 : List Oper := [({ dst := (some 17), op := (Op.build 33 #[]), type := 33, pos := "ref.go:178", after := #[], guard := none } : Oper), ({ dst := none, op := (Op.store 33 (Operand.tmp 4) (Operand.tmp 17)), type := 0, pos := "ref.go:178", after := #[{ on := 0, ground := Ground.data }, { on := 0, ground := Ground.phase }], guard := none } : Oper)]
def OPS40_4 : List Oper := [({ dst := (some 19), op := (Op.move (Operand.tmp 0)), type := 25, pos := "ref.go:180", after := #[], guard := none } : Oper), ({ dst := (some 20), op := (Op.move (Operand.tmp 0)), type := 25, pos := "ref.go:180", after := #[], guard := none } : Oper), ({ dst := (some 21), op := (Op.nilCheck (Operand.tmp 20)), type := 0, pos := "ref.go:180", after := #[{ on := 1, ground := Ground.data }], guard := none } : Oper), ({ dst := (some 22), op := (Op.fieldAddr 64 (Operand.tmp 21) 1), type := 0, pos := "ref.go:180", after := #[{ on := 2, ground := Ground.data }], guard := none } : Oper), ({ dst := (some 23), op := (Op.load 62 (Operand.tmp 22)), type := 62, pos := "ref.go:180", after := #[{ on := 3, ground := Ground.data }], guard := none } : Oper), ({ dst := (some 24), op := (Op.move (Operand.tmp 5)), type := 3, pos := "ref.go:180", after := #[], guard := none } : Oper), ({ dst := (some 25), op := (Op.indexAddr 62 (Operand.tmp 23) (Operand.tmp 24)), type := 0, pos := "ref.go:180", after := #[{ on := 4, ground := Ground.data }, { on := 5, ground := Ground.data }], guard := none } : Oper), ({ dst := (some 26), op := (Op.load 61 (Operand.tmp 25)), type := 61, pos := "ref.go:180", after := #[{ on := 6, ground := Ground.data }], guard := none } : Oper), ({ dst := (some 27), op := (Op.indexAddr 61 (Operand.tmp 26) (Operand.const (Value.int IntKind.i64 0))), type := 0, pos := "ref.go:180", after := #[{ on := 7, ground := Ground.data }], guard := none } : Oper), ({ dst := (some 28), op := (Op.load 3 (Operand.tmp 27)), type := 3, pos := "ref.go:180", after := #[{ on := 8, ground := Ground.data }], guard := none } : Oper), ({ dst := (some 29), op := (Op.move (Operand.tmp 0)), type := 25, pos := "ref.go:180", after := #[], guard := none } : Oper), ({ dst := (some 30), op := (Op.nilCheck (Operand.tmp 29)), type := 0, pos := "ref.go:180", after := #[{ on := 10, ground := Ground.data }], guard := none } : Oper), ({ dst := (some 31), op := (Op.fieldAddr 64 (Operand.tmp 30) 1), type := 0, pos := "ref.go:180", after := #[{ on := 11, ground := Ground.data }], guard := none } : Oper), ({ dst := (some 32), op := (Op.load 62 (Operand.tmp 31)), type := 62, pos := "ref.go:180", after := #[{ on := 12, ground := Ground.data }], guard := none } : Oper), ({ dst := (some 33), op := (Op.move (Operand.tmp 5)), type := 3, pos := "ref.go:180", after := #[], guard := none } : Oper), ({ dst := (some 34), op := (Op.indexAddr 62 (Operand.tmp 32) (Operand.tmp 33)), type := 0, pos := "ref.go:180", after := #[{ on := 13, ground := Ground.data }, { on := 14, ground := Ground.data }], guard := none } : Oper), ({ dst := (some 35), op := (Op.load 61 (Operand.tmp 34)), type := 61, pos := "ref.go:180", after := #[{ on := 15, ground := Ground.data }], guard := none } : Oper), ({ dst := (some 36), op := (Op.move (Operand.tmp 0)), type := 25, pos := "ref.go:180", after := #[], guard := none } : Oper), ({ dst := (some 37), op := (Op.nilCheck (Operand.tmp 36)), type := 0, pos := "ref.go:180", after := #[{ on := 17, ground := Ground.data }], guard := none } : Oper), ({ dst := (some 38), op := (Op.fieldAddr 64 (Operand.tmp 37) 1), type := 0, pos := "ref.go:180", after := #[{ on := 18, ground := Ground.data }], guard := none } : Oper), ({ dst := (some 39), op := (Op.load 62 (Operand.tmp 38)), type := 62, pos := "ref.go:180", after := #[{ on := 19, ground := Ground.data }], guard := none } : Oper), ({ dst := (some 40), op := (Op.move (Operand.tmp 5)), type := 3, pos := "ref.go:180", after := #[], guard := none } : Oper), ({ dst := (some 41), op := (Op.indexAddr 62 (Operand.tmp 39) (Operand.tmp 40)), type := 0, pos := "ref.go:180", after := #[{ on := 20, ground := Ground.data }, { on := 21, ground := Ground.data }], guard := none } : Oper), ({ dst := (some 42), op := (Op.load 61 (Operand.tmp 41)), type := 61, pos := "ref.go:180", after := #[{ on := 22, ground := Ground.data }], guard := none } : Oper), ({ dst := (some 43), op := (Op.call { callee := (Callee.builtin Builtin.len), args := #[(Operand.tmp 42)], argTypes := #[61] }), type := 3, pos := "ref.go:180", after := #[{ on := 23, ground := Ground.data }], guard := none } : Oper), ({ dst := (some 44), op := (Op.binOp BinOp.sub 3 (Operand.tmp 43) (Operand.const (Value.int IntKind.i64 1)) 3), type := 3, pos := "ref.go:180", after := #[{ on := 24, ground := Ground.data }], guard := none } : Oper), ({ dst := (some 45), op := (Op.indexAddr 61 (Operand.tmp 35) (Operand.tmp 44)), type := 0, pos := "ref.go:180", after := #[{ on := 16, ground := Ground.data }, { on := 25, ground := Ground.data }], guard := none } : Oper), ({ dst := (some 46), op := (Op.load 3 (Operand.tmp 45)), type := 3, pos := "ref.go:180", after := #[{ on := 26, ground := Ground.data }], guard := none } : Oper), ({ dst := (some 47), op := (Op.call { callee := (Callee.value (Operand.func 26)), args := #[(Operand.tmp 19), (Operand.tmp 28), (Operand.tmp 46)], argTypes := #[25, 3, 3] }), type := 34, pos := "ref.go:180", after := #[{ on := 0, ground := Ground.data }, { on := 9, ground := Ground.data }, { on := 27, ground := Ground.data }], guard := none } : Oper), ({ dst := (some 18), op := (Op.move (Operand.tmp 47)), type := 34, pos := "ref.go:180", after := #[{ on := 28, ground := Ground.data }], guard := none } : Oper), ({ dst := (some 48), op := (Op.extract (Operand.tmp 18) 0), type := 33, pos := "ref.go:180", after := #[{ on := 29, ground := Ground.data }], guard := none } : Oper), ({ dst := (some 49), op := (Op.extract (Operand.tmp 18) 1), type := 4, pos := "ref.go:180", after := #[{ on := 29, ground := Ground.data }, { on := 33, ground := (Ground.gcOnly Departure.lateStores) }], guard := none } : Oper), ({ dst := (some 7), op := (Op.alloc 33), type := 0, pos := "ref.go:180", after := #[], guard := none } : Oper), ({ dst := none, op := (Op.store 33 (Operand.tmp 7) (Operand.tmp 48)), type := 0, pos := "ref.go:180", after := #[{ on := 32, ground := Ground.data }, { on := 30, ground := Ground.data }, { on := 28, ground := Ground.chain }, { on := 0, ground := Ground.phase }, { on := 1, ground := Ground.phase }, { on := 2, ground := Ground.phase }, { on := 3, ground := Ground.phase }, { on := 4, ground := Ground.phase }, { on := 5, ground := Ground.phase }, { on := 6, ground := Ground.phase }, { on := 7, ground := Ground.phase }, { on := 8, ground := Ground.phase }, { on := 9, ground := Ground.phase }, { on := 10, ground := Ground.phase }, { on := 11, ground := Ground.phase }, { on := 12, ground := Ground.phase }, { on := 13, ground := Ground.phase }, { on := 14, ground := Ground.phase }, { on := 15, ground := Ground.phase }, { on := 16, ground := Ground.phase }, { on := 17, ground := Ground.phase }, { on := 18, ground := Ground.phase }, { on := 19, ground := Ground.phase }, { on := 20, ground := Ground.phase }, { on := 21, ground := Ground.phase }, { on := 22, ground := Ground.phase }, { on := 23, ground := Ground.phase }, { on := 24, ground := Ground.phase }, { on := 25, ground := Ground.phase }, { on := 26, ground := Ground.phase }, { on := 27, ground := Ground.phase }, { on := 28, ground := Ground.phase }, { on := 29, ground := Ground.phase }, { on := 30, ground := Ground.phase }, { on := 31, ground := (Ground.textOnly Departure.lateStores) }, { on := 32, ground := Ground.phase }], guard := none } : Oper), ({ dst := (some 8), op := (Op.assign (Operand.tmp 49)), type := 4, pos := "ref.go:180", after := #[{ on := 31, ground := Ground.data }, { on := 33, ground := Ground.chain }, { on := 0, ground := Ground.phase }, { on := 1, ground := Ground.phase }, { on := 2, ground := Ground.phase }, { on := 3, ground := Ground.phase }, { on := 4, ground := Ground.phase }, { on := 5, ground := Ground.phase }, { on := 6, ground := Ground.phase }, { on := 7, ground := Ground.phase }, { on := 8, ground := Ground.phase }, { on := 9, ground := Ground.phase }, { on := 10, ground := Ground.phase }, { on := 11, ground := Ground.phase }, { on := 12, ground := Ground.phase }, { on := 13, ground := Ground.phase }, { on := 14, ground := Ground.phase }, { on := 15, ground := Ground.phase }, { on := 16, ground := Ground.phase }, { on := 17, ground := Ground.phase }, { on := 18, ground := Ground.phase }, { on := 19, ground := Ground.phase }, { on := 20, ground := Ground.phase }, { on := 21, ground := Ground.phase }, { on := 22, ground := Ground.phase }, { on := 23, ground := Ground.phase }, { on := 24, ground := Ground.phase }, { on := 25, ground := Ground.phase }, { on := 26, ground := Ground.phase }, { on := 27, ground := Ground.phase }, { on := 28, ground := Ground.phase }, { on := 29, ground := Ground.phase }, { on := 30, ground := Ground.phase }, { on := 31, ground := Ground.phase }, { on := 32, ground := Ground.phase }, { on := 33, ground := Ground.phase }], guard := none } : Oper)]
theorem NS40_4 : Region.noSelect OPS40_4.toArray = true := by kernel_rfl
def OPS40_5 : List Oper := [({ dst := (some 50), op := (Op.load 33 (Operand.tmp 7)), type := 33, pos := "ref.go:181", after := #[], guard := none } : Oper), ({ dst := none, op := (Op.store 33 (Operand.tmp 4) (Operand.tmp 50)), type := 0, pos := "ref.go:181", after := #[{ on := 0, ground := Ground.data }, { on := 0, ground := Ground.phase }], guard := none } : Oper)]
def CODE40 : Code := (Code.seq (Code.region 0 OPS40_0.toArray false) (Code.seq (Code.region 1 OPS40_1.toArray false) (Code.seq (Code.seq (Code.region 2 OPS40_2.toArray false) (Code.cond (Operand.tmp 16) (Code.seq (Code.region 3 OPS40_3.toArray false) Code.ret) Code.skip)) (Code.seq (Code.region 4 OPS40_4.toArray true) (Code.seq (Code.region 5 OPS40_5.toArray false) Code.ret)))))
set_option maxHeartbeats 4000000 in
theorem rg40_4 {q g b LN M cap cap' ii z0 z1 u4 bw : Nat} {vL : Value} {hs : List Value} {fw : Nat → Int} {A : Se} {NX : Act → World → Prop} {a0 : Act} {w : World} (K0 : Kb a0 51 [(0, .pointer (some ⟨q, 0, none⟩)), (4, .pointer (some ⟨u4, 0, none⟩)), (5, .int .i64 (ii : Int))]) (hA : RA w q vL bw hs fw A)
    (hS : (fun w' : World => w'.cell? ⟨q, 1, none⟩ = some (.slice (some ⟨g, 0, none⟩) LN cap) ∧ w'.cell? ⟨g, ii, none⟩ = some (.slice (some ⟨b, 0, none⟩) (M + 1) cap') ∧ w'.cell? ⟨b, 0, none⟩ = some (.int .i64 (z0 : Int)) ∧ w'.cell? ⟨b, M, none⟩ = some (.int .i64 (z1 : Int))) w) (hlt : q < w.heap.size ∧ g < w.heap.size ∧ b < w.heap.size) (hM : M ≤ 4194304)
    (e1 : (0 : Int) ≤ (ii : Int)) (e2 : (ii : Int) < (LN : Int))
    (hN : ∀ a' b7 W, Kb a' 51 [(4, .pointer (some ⟨u4, 0, none⟩)), (7, .pointer (some ⟨b7, 0, none⟩))] → Below w.heap.size w W → SumAt W b7 (A.rangeI (z0 : Int) (z1 : Int)) → NX a' W) :
    (Code.region 4 OPS40_4.toArray true).wp Try.prog (Norm NX) a0 w := by
  have hq := @norm_q NX
  have keep : ∀ W, Below w.heap.size w W → (fun w' : World => w'.cell? ⟨q, 1, none⟩ = some (.slice (some ⟨g, 0, none⟩) LN cap) ∧ w'.cell? ⟨g, ii, none⟩ = some (.slice (some ⟨b, 0, none⟩) (M + 1) cap') ∧ w'.cell? ⟨b, 0, none⟩ = some (.int .i64 (z0 : Int)) ∧ w'.cell? ⟨b, M, none⟩ = some (.int .i64 (z1 : Int))) W := fun W hb => by
    obtain ⟨z1, z2, z3, z4⟩ := hS
    exact ⟨by rw [hb.cell (p := ⟨q, 1, none⟩) hlt.1]; exact z1, by rw [hb.cell (p := ⟨g, ii, none⟩) hlt.2.1]; exact z2, by rw [hb.cell (p := ⟨b, 0, none⟩) hlt.2.2]; exact z3, by rw [hb.cell (p := ⟨b, M, none⟩) hlt.2.2]; exact z4⟩
  have KP := hide keep
  replace hS : (fun w' : World => w'.cell? ⟨q, 1, none⟩ = some (.slice (some ⟨g, 0, none⟩) LN cap) ∧ w'.cell? ⟨g, ii, none⟩ = some (.slice (some ⟨b, 0, none⟩) (M + 1) cap') ∧ w'.cell? ⟨b, 0, none⟩ = some (.int .i64 (z0 : Int)) ∧ w'.cell? ⟨b, M, none⟩ = some (.int .i64 (z1 : Int))) w.drew := keep _ ((Below.refl _ _).drew)
  have b0 : Below w.heap.size w w.drew := (Below.refl _ _).drew
  have CR := hide (fun W (hb : Below w.heap.size w W) => rrange_any (z0 : Int) (z1 : Int) (hA.below hb))
  clear keep hA
  obtain ⟨R, hR⟩ : ∃ R, A.rangeI (z0 : Int) (z1 : Int) = R := ⟨_, rfl⟩
  rw [hR] at hN CR
  obtain ⟨ok, hok⟩ : ∃ b, A.okR (z0 : Int) (z1 : Int) = b := ⟨_, rfl⟩
  rw [hok] at CR
  clear hR hok
  obtain ⟨rc, rs, ra, rb⟩ := R
  have e3 : (0 : Int) < ((M + 1 : Nat) : Int) := by omega
  have e4 : (M : Int) < ((M + 1 : Nat) : Int) := by omega
  have e5 : (0 : Int) ≤ (M : Int) := by omega
  have wr1 : IntKind.i64.wrap (((M + 1 : Nat) : Int) - 1) = (M : Int) := by rw [IntWalk.i64_in _ (by omega)]; omega
  have wr2 : IntKind.i64.wrap (M : Int) = (M : Int) := IntWalk.i64_in _ (by omega)
  have e6 : ¬ ((M : Int) + 1 ≤ (M : Int)) := by omega
  have e7 : (M : Int) < (M : Int) + 1 := by omega
  have e8 : (0 : Int) < (M : Int) + 1 := by omega
  refine wp_region_till (t := 34) (S := (fun w' : World => w'.cell? ⟨q, 1, none⟩ = some (.slice (some ⟨g, 0, none⟩) LN cap) ∧ w'.cell? ⟨g, ii, none⟩ = some (.slice (some ⟨b, 0, none⟩) (M + 1) cap') ∧ w'.cell? ⟨b, 0, none⟩ = some (.int .i64 (z0 : Int)) ∧ w'.cell? ⟨b, M, none⟩ = some (.int .i64 (z1 : Int)))) (by kernel_rfl) ?_
  rw [show (OPS40_4.toArray).size = 35 from by kernel_rfl, show Array.replicate 35 false = ([false, false, false, false, false, false, false, false, false, false, false, false, false, false, false, false, false, false, false, false, false, false, false, false, false, false, false, false, false, false, false, false, false, false, false] : List Bool).toArray from by kernel_rfl]
  refine utake (i := 0) (o := { dst := (some 19), op := (Op.move (Operand.tmp 0)), type := 25, pos := "ref.go:180", after := #[], guard := none }) (v := .pointer (some ⟨q, 0, none⟩)) (l2 := ([true, false, false, false, false, false, false, false, false, false, false, false, false, false, false, false, false, false, false, false, false, false, false, false, false, false, false, false, false, false, false, false, false, false, false] : List Bool).toArray) K0 hq rfl NS40_4 (by kernel_rfl) (by kernel_rfl) (by kernel_rfl) (by kernel_rfl) (by kernel_rfl) rfl rfl (want_none rfl) (fun ev E w9 hSw => ?_) hS (fun a1 K1 => ?_)
  · clear hSw; clear KP hN hq hS CR; have EC := E.const; have E0 := E.tmp 0 _ rfl; clear E; go_simp
  refine utake (i := 1) (o := { dst := (some 20), op := (Op.move (Operand.tmp 0)), type := 25, pos := "ref.go:180", after := #[], guard := none }) (v := .pointer (some ⟨q, 0, none⟩)) (l2 := ([true, true, false, false, false, false, false, false, false, false, false, false, false, false, false, false, false, false, false, false, false, false, false, false, false, false, false, false, false, false, false, false, false, false, false] : List Bool).toArray) K1 hq rfl NS40_4 (by kernel_rfl) (by kernel_rfl) (by kernel_rfl) (by kernel_rfl) (by kernel_rfl) rfl rfl (want_none rfl) (fun ev E w9 hSw => ?_) hS (fun a2 K2 => ?_)
  · clear hSw; clear KP hN hq hS CR; have EC := E.const; have E0 := E.tmp 0 _ rfl; clear E; go_simp
  clear K1
  refine utake (i := 2) (o := { dst := (some 21), op := (Op.nilCheck (Operand.tmp 20)), type := 0, pos := "ref.go:180", after := #[{ on := 1, ground := Ground.data }], guard := none }) (v := .pointer (some ⟨q, 0, none⟩)) (l2 := ([true, true, true, false, false, false, false, false, false, false, false, false, false, false, false, false, false, false, false, false, false, false, false, false, false, false, false, false, false, false, false, false, false, false, false] : List Bool).toArray) K2 hq rfl NS40_4 (by kernel_rfl) (by kernel_rfl) (by kernel_rfl) (by kernel_rfl) (by kernel_rfl) rfl rfl (want_none rfl) (fun ev E w9 hSw => ?_) hS (fun a3 K3 => ?_)
  · clear hSw; clear KP hN hq hS CR; have EC := E.const; have E20 := E.tmp 20 _ rfl; clear E; go_simp
  clear K2
  refine utake (i := 3) (o := { dst := (some 22), op := (Op.fieldAddr 64 (Operand.tmp 21) 1), type := 0, pos := "ref.go:180", after := #[{ on := 2, ground := Ground.data }], guard := none }) (v := .pointer (some ⟨q, 1, none⟩)) (l2 := ([true, true, true, true, false, false, false, false, false, false, false, false, false, false, false, false, false, false, false, false, false, false, false, false, false, false, false, false, false, false, false, false, false, false, false] : List Bool).toArray) K3 hq rfl NS40_4 (by kernel_rfl) (by kernel_rfl) (by kernel_rfl) (by kernel_rfl) (by kernel_rfl) rfl rfl (want_none rfl) (fun ev E w9 hSw => ?_) hS (fun a4 K4 => ?_)
  · clear hSw; clear KP hN hq hS CR; have EC := E.const; have E21 := E.tmp 21 _ rfl; clear E; go_simp
  clear K3
  refine utake (i := 4) (o := { dst := (some 23), op := (Op.load 62 (Operand.tmp 22)), type := 62, pos := "ref.go:180", after := #[{ on := 3, ground := Ground.data }], guard := none }) (v := .slice (some ⟨g, 0, none⟩) LN cap) (l2 := ([true, true, true, true, true, false, false, false, false, false, false, false, false, false, false, false, false, false, false, false, false, false, false, false, false, false, false, false, false, false, false, false, false, false, false] : List Bool).toArray) K4 hq rfl NS40_4 (by kernel_rfl) (by kernel_rfl) (by kernel_rfl) (by kernel_rfl) (by kernel_rfl) rfl rfl (want_none rfl) (fun ev E w9 hSw => ?_) hS (fun a5 K5 => ?_)
  · obtain ⟨y1, y2, y3, y4⟩ := hSw; clear KP hN hq hS CR; have EC := E.const; have E22 := E.tmp 22 _ rfl; clear E; go_simp
  clear K4
  refine utake (i := 5) (o := { dst := (some 24), op := (Op.move (Operand.tmp 5)), type := 3, pos := "ref.go:180", after := #[], guard := none }) (v := .int .i64 (ii : Int)) (l2 := ([true, true, true, true, true, true, false, false, false, false, false, false, false, false, false, false, false, false, false, false, false, false, false, false, false, false, false, false, false, false, false, false, false, false, false] : List Bool).toArray) K5 hq rfl NS40_4 (by kernel_rfl) (by kernel_rfl) (by kernel_rfl) (by kernel_rfl) (by kernel_rfl) rfl rfl (want_none rfl) (fun ev E w9 hSw => ?_) hS (fun a6 K6 => ?_)
  · clear hSw; clear KP hN hq hS CR; have EC := E.const; have E5 := E.tmp 5 _ rfl; clear E; go_simp
  clear K5
  refine utake (i := 6) (o := { dst := (some 25), op := (Op.indexAddr 62 (Operand.tmp 23) (Operand.tmp 24)), type := 0, pos := "ref.go:180", after := #[{ on := 4, ground := Ground.data }, { on := 5, ground := Ground.data }], guard := none }) (v := .pointer (some ⟨g, ii, none⟩)) (l2 := ([true, true, true, true, true, true, true, false, false, false, false, false, false, false, false, false, false, false, false, false, false, false, false, false, false, false, false, false, false, false, false, false, false, false, false] : List Bool).toArray) K6 hq rfl NS40_4 (by kernel_rfl) (by kernel_rfl) (by kernel_rfl) (by kernel_rfl) (by kernel_rfl) rfl rfl (want_none rfl) (fun ev E w9 hSw => ?_) hS (fun a7 K7 => ?_)
  · clear hSw; clear KP hN hq hS CR; have EC := E.const; have E23 := E.tmp 23 _ rfl; have E24 := E.tmp 24 _ rfl; clear E; go_simp
  clear K6
  refine utake (i := 7) (o := { dst := (some 26), op := (Op.load 61 (Operand.tmp 25)), type := 61, pos := "ref.go:180", after := #[{ on := 6, ground := Ground.data }], guard := none }) (v := .slice (some ⟨b, 0, none⟩) (M + 1) cap') (l2 := ([true, true, true, true, true, true, true, true, false, false, false, false, false, false, false, false, false, false, false, false, false, false, false, false, false, false, false, false, false, false, false, false, false, false, false] : List Bool).toArray) K7 hq rfl NS40_4 (by kernel_rfl) (by kernel_rfl) (by kernel_rfl) (by kernel_rfl) (by kernel_rfl) rfl rfl (want_none rfl) (fun ev E w9 hSw => ?_) hS (fun a8 K8 => ?_)
  · obtain ⟨y1, y2, y3, y4⟩ := hSw; clear KP hN hq hS CR; have EC := E.const; have E25 := E.tmp 25 _ rfl; clear E; go_simp
  clear K7
  refine utake (i := 8) (o := { dst := (some 27), op := (Op.indexAddr 61 (Operand.tmp 26) (Operand.const (Value.int IntKind.i64 0))), type := 0, pos := "ref.go:180", after := #[{ on := 7, ground := Ground.data }], guard := none }) (v := .pointer (some ⟨b, 0, none⟩)) (l2 := ([true, true, true, true, true, true, true, true, true, false, false, false, false, false, false, false, false, false, false, false, false, false, false, false, false, false, false, false, false, false, false, false, false, false, false] : List Bool).toArray) K8 hq rfl NS40_4 (by kernel_rfl) (by kernel_rfl) (by kernel_rfl) (by kernel_rfl) (by kernel_rfl) rfl rfl (want_none rfl) (fun ev E w9 hSw => ?_) hS (fun a9 K9 => ?_)
  · clear hSw; clear KP hN hq hS CR; have EC := E.const; have E26 := E.tmp 26 _ rfl; clear E; go_simp
  clear K8
  refine utake (i := 9) (o := { dst := (some 28), op := (Op.load 3 (Operand.tmp 27)), type := 3, pos := "ref.go:180", after := #[{ on := 8, ground := Ground.data }], guard := none }) (v := .int .i64 (z0 : Int)) (l2 := ([true, true, true, true, true, true, true, true, true, true, false, false, false, false, false, false, false, false, false, false, false, false, false, false, false, false, false, false, false, false, false, false, false, false, false] : List Bool).toArray) K9 hq rfl NS40_4 (by kernel_rfl) (by kernel_rfl) (by kernel_rfl) (by kernel_rfl) (by kernel_rfl) rfl rfl (want_none rfl) (fun ev E w9 hSw => ?_) hS (fun a10 K10 => ?_)
  · obtain ⟨y1, y2, y3, y4⟩ := hSw; clear KP hN hq hS CR; have EC := E.const; have E27 := E.tmp 27 _ rfl; clear E; go_simp
  clear K9
  refine utake (i := 10) (o := { dst := (some 29), op := (Op.move (Operand.tmp 0)), type := 25, pos := "ref.go:180", after := #[], guard := none }) (v := .pointer (some ⟨q, 0, none⟩)) (l2 := ([true, true, true, true, true, true, true, true, true, true, true, false, false, false, false, false, false, false, false, false, false, false, false, false, false, false, false, false, false, false, false, false, false, false, false] : List Bool).toArray) K10 hq rfl NS40_4 (by kernel_rfl) (by kernel_rfl) (by kernel_rfl) (by kernel_rfl) (by kernel_rfl) rfl rfl (want_none rfl) (fun ev E w9 hSw => ?_) hS (fun a11 K11 => ?_)
  · clear hSw; clear KP hN hq hS CR; have EC := E.const; have E0 := E.tmp 0 _ rfl; clear E; go_simp
  clear K10
  refine utake (i := 11) (o := { dst := (some 30), op := (Op.nilCheck (Operand.tmp 29)), type := 0, pos := "ref.go:180", after := #[{ on := 10, ground := Ground.data }], guard := none }) (v := .pointer (some ⟨q, 0, none⟩)) (l2 := ([true, true, true, true, true, true, true, true, true, true, true, true, false, false, false, false, false, false, false, false, false, false, false, false, false, false, false, false, false, false, false, false, false, false, false] : List Bool).toArray) K11 hq rfl NS40_4 (by kernel_rfl) (by kernel_rfl) (by kernel_rfl) (by kernel_rfl) (by kernel_rfl) rfl rfl (want_none rfl) (fun ev E w9 hSw => ?_) hS (fun a12 K12 => ?_)
  · clear hSw; clear KP hN hq hS CR; have EC := E.const; have E29 := E.tmp 29 _ rfl; clear E; go_simp
  clear K11
  refine utake (i := 12) (o := { dst := (some 31), op := (Op.fieldAddr 64 (Operand.tmp 30) 1), type := 0, pos := "ref.go:180", after := #[{ on := 11, ground := Ground.data }], guard := none }) (v := .pointer (some ⟨q, 1, none⟩)) (l2 := ([true, true, true, true, true, true, true, true, true, true, true, true, true, false, false, false, false, false, false, false, false, false, false, false, false, false, false, false, false, false, false, false, false, false, false] : List Bool).toArray) K12 hq rfl NS40_4 (by kernel_rfl) (by kernel_rfl) (by kernel_rfl) (by kernel_rfl) (by kernel_rfl) rfl rfl (want_none rfl) (fun ev E w9 hSw => ?_) hS (fun a13 K13 => ?_)
  · clear hSw; clear KP hN hq hS CR; have EC := E.const; have E30 := E.tmp 30 _ rfl; clear E; go_simp
  clear K12
  refine utake (i := 13) (o := { dst := (some 32), op := (Op.load 62 (Operand.tmp 31)), type := 62, pos := "ref.go:180", after := #[{ on := 12, ground := Ground.data }], guard := none }) (v := .slice (some ⟨g, 0, none⟩) LN cap) (l2 := ([true, true, true, true, true, true, true, true, true, true, true, true, true, true, false, false, false, false, false, false, false, false, false, false, false, false, false, false, false, false, false, false, false, false, false] : List Bool).toArray) K13 hq rfl NS40_4 (by kernel_rfl) (by kernel_rfl) (by kernel_rfl) (by kernel_rfl) (by kernel_rfl) rfl rfl (want_none rfl) (fun ev E w9 hSw => ?_) hS (fun a14 K14 => ?_)
  · obtain ⟨y1, y2, y3, y4⟩ := hSw; clear KP hN hq hS CR; have EC := E.const; have E31 := E.tmp 31 _ rfl; clear E; go_simp
  clear K13
  refine utake (i := 14) (o := { dst := (some 33), op := (Op.move (Operand.tmp 5)), type := 3, pos := "ref.go:180", after := #[], guard := none }) (v := .int .i64 (ii : Int)) (l2 := ([true, true, true, true, true, true, true, true, true, true, true, true, true, true, true, false, false, false, false, false, false, false, false, false, false, false, false, false, false, false, false, false, false, false, false] : List Bool).toArray) K14 hq rfl NS40_4 (by kernel_rfl) (by kernel_rfl) (by kernel_rfl) (by kernel_rfl) (by kernel_rfl) rfl rfl (want_none rfl) (fun ev E w9 hSw => ?_) hS (fun a15 K15 => ?_)
  · clear hSw; clear KP hN hq hS CR; have EC := E.const; have E5 := E.tmp 5 _ rfl; clear E; go_simp
  clear K14
  refine utake (i := 15) (o := { dst := (some 34), op := (Op.indexAddr 62 (Operand.tmp 32) (Operand.tmp 33)), type := 0, pos := "ref.go:180", after := #[{ on := 13, ground := Ground.data }, { on := 14, ground := Ground.data }], guard := none }) (v := .pointer (some ⟨g, ii, none⟩)) (l2 := ([true, true, true, true, true, true, true, true, true, true, true, true, true, true, true, true, false, false, false, false, false, false, false, false, false, false, false, false, false, false, false, false, false, false, false] : List Bool).toArray) K15 hq rfl NS40_4 (by kernel_rfl) (by kernel_rfl) (by kernel_rfl) (by kernel_rfl) (by kernel_rfl) rfl rfl (want_none rfl) (fun ev E w9 hSw => ?_) hS (fun a16 K16 => ?_)
  · clear hSw; clear KP hN hq hS CR; have EC := E.const; have E32 := E.tmp 32 _ rfl; have E33 := E.tmp 33 _ rfl; clear E; go_simp
  clear K15
  refine utake (i := 16) (o := { dst := (some 35), op := (Op.load 61 (Operand.tmp 34)), type := 61, pos := "ref.go:180", after := #[{ on := 15, ground := Ground.data }], guard := none }) (v := .slice (some ⟨b, 0, none⟩) (M + 1) cap') (l2 := ([true, true, true, true, true, true, true, true, true, true, true, true, true, true, true, true, true, false, false, false, false, false, false, false, false, false, false, false, false, false, false, false, false, false, false] : List Bool).toArray) K16 hq rfl NS40_4 (by kernel_rfl) (by kernel_rfl) (by kernel_rfl) (by kernel_rfl) (by kernel_rfl) rfl rfl (want_none rfl) (fun ev E w9 hSw => ?_) hS (fun a17 K17 => ?_)
  · obtain ⟨y1, y2, y3, y4⟩ := hSw; clear KP hN hq hS CR; have EC := E.const; have E34 := E.tmp 34 _ rfl; clear E; go_simp
  clear K16
  refine utake (i := 17) (o := { dst := (some 36), op := (Op.move (Operand.tmp 0)), type := 25, pos := "ref.go:180", after := #[], guard := none }) (v := .pointer (some ⟨q, 0, none⟩)) (l2 := ([true, true, true, true, true, true, true, true, true, true, true, true, true, true, true, true, true, true, false, false, false, false, false, false, false, false, false, false, false, false, false, false, false, false, false] : List Bool).toArray) K17 hq rfl NS40_4 (by kernel_rfl) (by kernel_rfl) (by kernel_rfl) (by kernel_rfl) (by kernel_rfl) rfl rfl (want_none rfl) (fun ev E w9 hSw => ?_) hS (fun a18 K18 => ?_)
  · clear hSw; clear KP hN hq hS CR; have EC := E.const; have E0 := E.tmp 0 _ rfl; clear E; go_simp
  clear K17
  refine utake (i := 18) (o := { dst := (some 37), op := (Op.nilCheck (Operand.tmp 36)), type := 0, pos := "ref.go:180", after := #[{ on := 17, ground := Ground.data }], guard := none }) (v := .pointer (some ⟨q, 0, none⟩)) (l2 := ([true, true, true, true, true, true, true, true, true, true, true, true, true, true, true, true, true, true, true, false, false, false, false, false, false, false, false, false, false, false, false, false, false, false, false] : List Bool).toArray) K18 hq rfl NS40_4 (by kernel_rfl) (by kernel_rfl) (by kernel_rfl) (by kernel_rfl) (by kernel_rfl) rfl rfl (want_none rfl) (fun ev E w9 hSw => ?_) hS (fun a19 K19 => ?_)
  · clear hSw; clear KP hN hq hS CR; have EC := E.const; have E36 := E.tmp 36 _ rfl; clear E; go_simp
  clear K18
  refine utake (i := 19) (o := { dst := (some 38), op := (Op.fieldAddr 64 (Operand.tmp 37) 1), type := 0, pos := "ref.go:180", after := #[{ on := 18, ground := Ground.data }], guard := none }) (v := .pointer (some ⟨q, 1, none⟩)) (l2 := ([true, true, true, true, true, true, true, true, true, true, true, true, true, true, true, true, true, true, true, true, false, false, false, false, false, false, false, false, false, false, false, false, false, false, false] : List Bool).toArray) K19 hq rfl NS40_4 (by kernel_rfl) (by kernel_rfl) (by kernel_rfl) (by kernel_rfl) (by kernel_rfl) rfl rfl (want_none rfl) (fun ev E w9 hSw => ?_) hS (fun a20 K20 => ?_)
  · clear hSw; clear KP hN hq hS CR; have EC := E.const; have E37 := E.tmp 37 _ rfl; clear E; go_simp
  clear K19
  refine utake (i := 20) (o := { dst := (some 39), op := (Op.load 62 (Operand.tmp 38)), type := 62, pos := "ref.go:180", after := #[{ on := 19, ground := Ground.data }], guard := none }) (v := .slice (some ⟨g, 0, none⟩) LN cap) (l2 := ([true, true, true, true, true, true, true, true, true, true, true, true, true, true, true, true, true, true, true, true, true, false, false, false, false, false, false, false, false, false, false, false, false, false, false] : List Bool).toArray) K20 hq rfl NS40_4 (by kernel_rfl) (by kernel_rfl) (by kernel_rfl) (by kernel_rfl) (by kernel_rfl) rfl rfl (want_none rfl) (fun ev E w9 hSw => ?_) hS (fun a21 K21 => ?_)
  · obtain ⟨y1, y2, y3, y4⟩ := hSw; clear KP hN hq hS CR; have EC := E.const; have E38 := E.tmp 38 _ rfl; clear E; go_simp
  clear K20
  refine utake (i := 21) (o := { dst := (some 40), op := (Op.move (Operand.tmp 5)), type := 3, pos := "ref.go:180", after := #[], guard := none }) (v := .int .i64 (ii : Int)) (l2 := ([true, true, true, true, true, true, true, true, true, true, true, true, true, true, true, true, true, true, true, true, true, true, false, false, false, false, false, false, false, false, false, false, false, false, false] : List Bool).toArray) K21 hq rfl NS40_4 (by kernel_rfl) (by kernel_rfl) (by kernel_rfl) (by kernel_rfl) (by kernel_rfl) rfl rfl (want_none rfl) (fun ev E w9 hSw => ?_) hS (fun a22 K22 => ?_)
  · clear hSw; clear KP hN hq hS CR; have EC := E.const; have E5 := E.tmp 5 _ rfl; clear E; go_simp
  clear K21
  refine utake (i := 22) (o := { dst := (some 41), op := (Op.indexAddr 62 (Operand.tmp 39) (Operand.tmp 40)), type := 0, pos := "ref.go:180", after := #[{ on := 20, ground := Ground.data }, { on := 21, ground := Ground.data }], guard := none }) (v := .pointer (some ⟨g, ii, none⟩)) (l2 := ([true, true, true, true, true, true, true, true, true, true, true, true, true, true, true, true, true, true, true, true, true, true, true, false, false, false, false, false, false, false, false, false, false, false, false] : List Bool).toArray) K22 hq rfl NS40_4 (by kernel_rfl) (by kernel_rfl) (by kernel_rfl) (by kernel_rfl) (by kernel_rfl) rfl rfl (want_none rfl) (fun ev E w9 hSw => ?_) hS (fun a23 K23 => ?_)
  · clear hSw; clear KP hN hq hS CR; have EC := E.const; have E39 := E.tmp 39 _ rfl; have E40 := E.tmp 40 _ rfl; clear E; go_simp
  clear K22
  refine utake (i := 23) (o := { dst := (some 42), op := (Op.load 61 (Operand.tmp 41)), type := 61, pos := "ref.go:180", after := #[{ on := 22, ground := Ground.data }], guard := none }) (v := .slice (some ⟨b, 0, none⟩) (M + 1) cap') (l2 := ([true, true, true, true, true, true, true, true, true, true, true, true, true, true, true, true, true, true, true, true, true, true, true, true, false, false, false, false, false, false, false, false, false, false, false] : List Bool).toArray) K23 hq rfl NS40_4 (by kernel_rfl) (by kernel_rfl) (by kernel_rfl) (by kernel_rfl) (by kernel_rfl) rfl rfl (want_none rfl) (fun ev E w9 hSw => ?_) hS (fun a24 K24 => ?_)
  · obtain ⟨y1, y2, y3, y4⟩ := hSw; clear KP hN hq hS CR; have EC := E.const; have E41 := E.tmp 41 _ rfl; clear E; go_simp
  clear K23
  refine utake (i := 24) (o := { dst := (some 43), op := (Op.call { callee := (Callee.builtin Builtin.len), args := #[(Operand.tmp 42)], argTypes := #[61] }), type := 3, pos := "ref.go:180", after := #[{ on := 23, ground := Ground.data }], guard := none }) (v := .int .i64 ((M + 1 : Nat) : Int)) (l2 := ([true, true, true, true, true, true, true, true, true, true, true, true, true, true, true, true, true, true, true, true, true, true, true, true, true, false, false, false, false, false, false, false, false, false, false] : List Bool).toArray) K24 hq rfl NS40_4 (by kernel_rfl) (by kernel_rfl) (by kernel_rfl) (by kernel_rfl) (by kernel_rfl) rfl rfl (want_none rfl) (fun ev E w9 hSw => ?_) hS (fun a25 K25 => ?_)
  · clear hSw; clear KP hN hq hS CR; have EC := E.const; have E42 := E.tmp 42 _ rfl; clear E; go_simp
  clear K24
  refine utake (i := 25) (o := { dst := (some 44), op := (Op.binOp BinOp.sub 3 (Operand.tmp 43) (Operand.const (Value.int IntKind.i64 1)) 3), type := 3, pos := "ref.go:180", after := #[{ on := 24, ground := Ground.data }], guard := none }) (v := .int .i64 (M : Int)) (l2 := ([true, true, true, true, true, true, true, true, true, true, true, true, true, true, true, true, true, true, true, true, true, true, true, true, true, true, false, false, false, false, false, false, false, false, false] : List Bool).toArray) K25 hq rfl NS40_4 (by kernel_rfl) (by kernel_rfl) (by kernel_rfl) (by kernel_rfl) (by kernel_rfl) rfl rfl (want_none rfl) (fun ev E w9 hSw => ?_) hS (fun a26 K26 => ?_)
  · clear hSw; clear KP hN hq hS CR; have EC := E.const; have E43 := E.tmp 43 _ rfl; clear E; first | go_simp | (simp [go_sem, *]; omega)
  clear K25
  refine utake (i := 26) (o := { dst := (some 45), op := (Op.indexAddr 61 (Operand.tmp 35) (Operand.tmp 44)), type := 0, pos := "ref.go:180", after := #[{ on := 16, ground := Ground.data }, { on := 25, ground := Ground.data }], guard := none }) (v := .pointer (some ⟨b, M, none⟩)) (l2 := ([true, true, true, true, true, true, true, true, true, true, true, true, true, true, true, true, true, true, true, true, true, true, true, true, true, true, true, false, false, false, false, false, false, false, false] : List Bool).toArray) K26 hq rfl NS40_4 (by kernel_rfl) (by kernel_rfl) (by kernel_rfl) (by kernel_rfl) (by kernel_rfl) rfl rfl (want_none rfl) (fun ev E w9 hSw => ?_) hS (fun a27 K27 => ?_)
  · clear hSw; clear KP hN hq hS CR; have EC := E.const; have E35 := E.tmp 35 _ rfl; have E44 := E.tmp 44 _ rfl; clear E; go_simp
  clear K26
  refine utake (i := 27) (o := { dst := (some 46), op := (Op.load 3 (Operand.tmp 45)), type := 3, pos := "ref.go:180", after := #[{ on := 26, ground := Ground.data }], guard := none }) (v := .int .i64 (z1 : Int)) (l2 := ([true, true, true, true, true, true, true, true, true, true, true, true, true, true, true, true, true, true, true, true, true, true, true, true, true, true, true, true, false, false, false, false, false, false, false] : List Bool).toArray) K27 hq rfl NS40_4 (by kernel_rfl) (by kernel_rfl) (by kernel_rfl) (by kernel_rfl) (by kernel_rfl) rfl rfl (want_none rfl) (fun ev E w9 hSw => ?_) hS (fun a28 K28 => ?_)
  · obtain ⟨y1, y2, y3, y4⟩ := hSw; clear KP hN hq hS CR; have EC := E.const; have E45 := E.tmp 45 _ rfl; clear E; go_simp
  clear K27
  refine utwo (i := 28) (j := 32) (o := { dst := (some 47), op := (Op.call { callee := (Callee.value (Operand.func 26)), args := #[(Operand.tmp 19), (Operand.tmp 28), (Operand.tmp 46)], argTypes := #[25, 3, 3] }), type := 34, pos := "ref.go:180", after := #[{ on := 0, ground := Ground.data }, { on := 9, ground := Ground.data }, { on := 27, ground := Ground.data }], guard := none }) (o' := { dst := (some 7), op := (Op.alloc 33), type := 0, pos := "ref.go:180", after := #[], guard := none }) (l2 := ([true, true, true, true, true, true, true, true, true, true, true, true, true, true, true, true, true, true, true, true, true, true, true, true, true, true, true, true, true, false, false, false, false, false, false] : List Bool).toArray) (l3 := ([true, true, true, true, true, true, true, true, true, true, true, true, true, true, true, true, true, true, true, true, true, true, true, true, true, true, true, true, false, false, false, false, true, false, false] : List Bool).toArray) K28 rfl rfl (by kernel_rfl) (by kernel_rfl) (by kernel_rfl) rfl rfl rfl rfl (want_none rfl) (want_none rfl) (leaves_call (fn := 26) (args := #[.pointer (some ⟨q, 0, none⟩), .int .i64 (z0 : Int), .int .i64 (z1 : Int)]) K28 (fun ev E => by clear KP hN hq hS CR; have EF := E.func; have E19 := E.tmp 19 _ rfl; have E28 := E.tmp 28 _ rfl; have E46 := E.tmp 46 _ rfl; clear E; go_simp) (unhide CR _ b0) (fun e w' h => ⟨_, h.1⟩)) (leaves_value (v := .pointer (some ⟨w.drew.heap.size, 0, none⟩)) (w' := w.drew.alloc (.cells #[.int .i64 0, .int .i64 0, .int .i64 0, .int .i64 0] 33)) K28 (fun ev E => by clear KP hN hq hS CR; have EC := E.const; clear E; go_simp)) (fun v1 W1 hR => ?_) (fun v1 W1 hR => ?_)
  · obtain ⟨hv, hb⟩ := hR
    injection hv with hv
    subst hv
    have b1 : Below w.heap.size w W1 := b0.trans hb
    have hS : (fun w' : World => w'.cell? ⟨q, 1, none⟩ = some (.slice (some ⟨g, 0, none⟩) LN cap) ∧ w'.cell? ⟨g, ii, none⟩ = some (.slice (some ⟨b, 0, none⟩) (M + 1) cap') ∧ w'.cell? ⟨b, 0, none⟩ = some (.int .i64 (z0 : Int)) ∧ w'.cell? ⟨b, M, none⟩ = some (.int .i64 (z1 : Int))) W1 := unhide KP _ b1
    refine ⟨fun _ => hS, fun a29 K29 => ?_⟩
    unfold smV at *
    refine utake (i := 29) (o := { dst := (some 18), op := (Op.move (Operand.tmp 47)), type := 34, pos := "ref.go:180", after := #[{ on := 28, ground := Ground.data }], guard := none }) (v := .tuple #[.agg #[.int .i64 rc, .int .i64 rs, .int .i64 ra, .int .i64 rb], .bool ok]) (l2 := ([true, true, true, true, true, true, true, true, true, true, true, true, true, true, true, true, true, true, true, true, true, true, true, true, true, true, true, true, true, true, false, false, false, false, false] : List Bool).toArray) K29 hq rfl NS40_4 (by kernel_rfl) (by kernel_rfl) (by kernel_rfl) (by kernel_rfl) (by kernel_rfl) rfl rfl (want_none rfl) (fun ev E w9 hSw => ?_) hS (fun a30 K30 => ?_)
    · clear hSw; clear KP hN hq hS CR; have EC := E.const; have E47 := E.tmp 47 _ rfl; clear E; go_simp
    clear K29
    refine utake (i := 30) (o := { dst := (some 48), op := (Op.extract (Operand.tmp 18) 0), type := 33, pos := "ref.go:180", after := #[{ on := 29, ground := Ground.data }], guard := none }) (v := .agg #[.int .i64 rc, .int .i64 rs, .int .i64 ra, .int .i64 rb]) (l2 := ([true, true, true, true, true, true, true, true, true, true, true, true, true, true, true, true, true, true, true, true, true, true, true, true, true, true, true, true, true, true, true, false, false, false, false] : List Bool).toArray) K30 hq rfl NS40_4 (by kernel_rfl) (by kernel_rfl) (by kernel_rfl) (by kernel_rfl) (by kernel_rfl) rfl rfl (want_none rfl) (fun ev E w9 hSw => ?_) hS (fun a31 K31 => ?_)
    · clear hSw; clear KP hN hq hS CR; have EC := E.const; have E18 := E.tmp 18 _ rfl; clear E; go_simp
    clear K30
    refine utake (i := 31) (o := { dst := (some 49), op := (Op.extract (Operand.tmp 18) 1), type := 4, pos := "ref.go:180", after := #[{ on := 29, ground := Ground.data }, { on := 33, ground := (Ground.gcOnly Departure.lateStores) }], guard := none }) (v := .bool ok) (l2 := ([true, true, true, true, true, true, true, true, true, true, true, true, true, true, true, true, true, true, true, true, true, true, true, true, true, true, true, true, true, true, true, true, false, false, false] : List Bool).toArray) K31 hq rfl NS40_4 (by kernel_rfl) (by kernel_rfl) (by kernel_rfl) (by kernel_rfl) (by kernel_rfl) rfl rfl (want_none rfl) (fun ev E w9 hSw => ?_) hS (fun a32 K32 => ?_)
    · clear hSw; clear KP hN hq hS CR; have EC := E.const; have E18 := E.tmp 18 _ rfl; clear E; go_simp
    clear K31
    refine uone (i := 32) (o := { dst := (some 7), op := (Op.alloc 33), type := 0, pos := "ref.go:180", after := #[], guard := none }) (l2 := ([true, true, true, true, true, true, true, true, true, true, true, true, true, true, true, true, true, true, true, true, true, true, true, true, true, true, true, true, true, true, true, true, true, false, false] : List Bool).toArray) K32 rfl (by kernel_rfl) (by kernel_rfl) rfl rfl (want_none rfl) (leaves_value (v := .pointer (some ⟨W1.heap.size, 0, none⟩)) (w' := W1.alloc (.cells #[.int .i64 0, .int .i64 0, .int .i64 0, .int .i64 0] 33)) K32 (fun ev E => by clear KP hN hq hS CR; have EC := E.const; clear E; go_simp)) (fun v33 W2 hR => ?_)
    obtain ⟨rfl, hW2⟩ := hR
    have b2 : Below w.heap.size w W2 := by rw [hW2]; exact b1.alloc b1.size _
    have sU : SumAt W2 W1.heap.size zero := by rw [hW2]; exact SumAt.zero0 W1 33
    have hblk : w.heap.size ≤ W1.heap.size := b1.size
    clear hS hW2
    have hS : (fun w' : World => w'.cell? ⟨q, 1, none⟩ = some (.slice (some ⟨g, 0, none⟩) LN cap) ∧ w'.cell? ⟨g, ii, none⟩ = some (.slice (some ⟨b, 0, none⟩) (M + 1) cap') ∧ w'.cell? ⟨b, 0, none⟩ = some (.int .i64 (z0 : Int)) ∧ w'.cell? ⟨b, M, none⟩ = some (.int .i64 (z1 : Int))) W2 := unhide KP _ b2
    refine ⟨fun _ => hS, fun a33 K33 => ?_⟩
    clear K32
    obtain ⟨⟨p0, p1, p2, p3⟩, g0, g1, g2, g3⟩ := sU
    refine ustore (R := fun _ _ => True) (i := 33) (o := { dst := none, op := (Op.store 33 (Operand.tmp 7) (Operand.tmp 48)), type := 0, pos := "ref.go:180", after := #[{ on := 32, ground := Ground.data }, { on := 30, ground := Ground.data }, { on := 28, ground := Ground.chain }, { on := 0, ground := Ground.phase }, { on := 1, ground := Ground.phase }, { on := 2, ground := Ground.phase }, { on := 3, ground := Ground.phase }, { on := 4, ground := Ground.phase }, { on := 5, ground := Ground.phase }, { on := 6, ground := Ground.phase }, { on := 7, ground := Ground.phase }, { on := 8, ground := Ground.phase }, { on := 9, ground := Ground.phase }, { on := 10, ground := Ground.phase }, { on := 11, ground := Ground.phase }, { on := 12, ground := Ground.phase }, { on := 13, ground := Ground.phase }, { on := 14, ground := Ground.phase }, { on := 15, ground := Ground.phase }, { on := 16, ground := Ground.phase }, { on := 17, ground := Ground.phase }, { on := 18, ground := Ground.phase }, { on := 19, ground := Ground.phase }, { on := 20, ground := Ground.phase }, { on := 21, ground := Ground.phase }, { on := 22, ground := Ground.phase }, { on := 23, ground := Ground.phase }, { on := 24, ground := Ground.phase }, { on := 25, ground := Ground.phase }, { on := 26, ground := Ground.phase }, { on := 27, ground := Ground.phase }, { on := 28, ground := Ground.phase }, { on := 29, ground := Ground.phase }, { on := 30, ground := Ground.phase }, { on := 31, ground := (Ground.textOnly Departure.lateStores) }, { on := 32, ground := Ground.phase }], guard := none }) (w' := putSum W2 W1.heap.size ⟨rc, rs, ra, rb⟩) (l2 := ([true, true, true, true, true, true, true, true, true, true, true, true, true, true, true, true, true, true, true, true, true, true, true, true, true, true, true, true, true, true, true, true, true, true, false] : List Bool).toArray) K33 rfl (by kernel_rfl) (by kernel_rfl) rfl (want_none rfl) (fun ev E => ?_) (fun _ => ?sh) ?_
    case sh => exact unhide KP _ (below_put b2 hblk)
    · clear KP hN hq CR; have EC := E.const; have E7 := E.tmp 7 _ rfl; have E48 := E.tmp 48 _ rfl; clear E; dsimp only [zero] at p0 p1 p2 p3; unfold putSum; go_simp
    refine uone (i := 34) (o := { dst := (some 8), op := (Op.assign (Operand.tmp 49)), type := 4, pos := "ref.go:180", after := #[{ on := 31, ground := Ground.data }, { on := 33, ground := Ground.chain }, { on := 0, ground := Ground.phase }, { on := 1, ground := Ground.phase }, { on := 2, ground := Ground.phase }, { on := 3, ground := Ground.phase }, { on := 4, ground := Ground.phase }, { on := 5, ground := Ground.phase }, { on := 6, ground := Ground.phase }, { on := 7, ground := Ground.phase }, { on := 8, ground := Ground.phase }, { on := 9, ground := Ground.phase }, { on := 10, ground := Ground.phase }, { on := 11, ground := Ground.phase }, { on := 12, ground := Ground.phase }, { on := 13, ground := Ground.phase }, { on := 14, ground := Ground.phase }, { on := 15, ground := Ground.phase }, { on := 16, ground := Ground.phase }, { on := 17, ground := Ground.phase }, { on := 18, ground := Ground.phase }, { on := 19, ground := Ground.phase }, { on := 20, ground := Ground.phase }, { on := 21, ground := Ground.phase }, { on := 22, ground := Ground.phase }, { on := 23, ground := Ground.phase }, { on := 24, ground := Ground.phase }, { on := 25, ground := Ground.phase }, { on := 26, ground := Ground.phase }, { on := 27, ground := Ground.phase }, { on := 28, ground := Ground.phase }, { on := 29, ground := Ground.phase }, { on := 30, ground := Ground.phase }, { on := 31, ground := Ground.phase }, { on := 32, ground := Ground.phase }, { on := 33, ground := Ground.phase }], guard := none }) (l2 := ([true, true, true, true, true, true, true, true, true, true, true, true, true, true, true, true, true, true, true, true, true, true, true, true, true, true, true, true, true, true, true, true, true, true, true] : List Bool).toArray) K33 rfl (by kernel_rfl) (by kernel_rfl) rfl rfl (want_none rfl) (leaves_value (v := .bool ok) (w' := putSum W2 W1.heap.size ⟨rc, rs, ra, rb⟩) K33 (fun ev E => by clear KP hN hq CR; have E49 := E.tmp 49 _ rfl; clear E; go_simp)) (fun v9 W9 hR => ?_)
    obtain ⟨rfl, rfl⟩ := hR
    refine ⟨fun hx => absurd hx (by decide), fun a34 K34 => ?_⟩
    refine till_done (by kernel_rfl) ?_ _
    exact hN _ _ _ (K34.less ⟨rfl, rfl, trivial⟩) (below_put b2 hblk) (SumAt.put ⟨⟨p0, p1, p2, p3⟩, g0, g1, g2, g3⟩)
  · obtain ⟨rfl, hW1⟩ := hR
    have b1 : Below w.heap.size w W1 := by rw [hW1]; exact b0.alloc (Nat.le_refl _) _
    have sU0 : SumAt W1 w.heap.size zero := by rw [hW1]; exact SumAt.zero0 w.drew 33
    have hlU : w.heap.size < W1.heap.size := by rw [hW1]; simp
    have hblk : w.heap.size ≤ w.heap.size := Nat.le_refl _
    have hS : (fun w' : World => w'.cell? ⟨q, 1, none⟩ = some (.slice (some ⟨g, 0, none⟩) LN cap) ∧ w'.cell? ⟨g, ii, none⟩ = some (.slice (some ⟨b, 0, none⟩) (M + 1) cap') ∧ w'.cell? ⟨b, 0, none⟩ = some (.int .i64 (z0 : Int)) ∧ w'.cell? ⟨b, M, none⟩ = some (.int .i64 (z1 : Int))) W1 := unhide KP _ b1
    refine ⟨fun _ => hS, fun a29 K29 => ?_⟩
    clear hW1
    refine uone (i := 28) (o := { dst := (some 47), op := (Op.call { callee := (Callee.value (Operand.func 26)), args := #[(Operand.tmp 19), (Operand.tmp 28), (Operand.tmp 46)], argTypes := #[25, 3, 3] }), type := 34, pos := "ref.go:180", after := #[{ on := 0, ground := Ground.data }, { on := 9, ground := Ground.data }, { on := 27, ground := Ground.data }], guard := none }) (l2 := ([true, true, true, true, true, true, true, true, true, true, true, true, true, true, true, true, true, true, true, true, true, true, true, true, true, true, true, true, true, false, false, false, true, false, false] : List Bool).toArray) K29 rfl (by kernel_rfl) (by kernel_rfl) rfl rfl (want_none rfl) (leaves_call (fn := 26) (args := #[.pointer (some ⟨q, 0, none⟩), .int .i64 (z0 : Int), .int .i64 (z1 : Int)]) K29 (fun ev E => by clear KP hN hq hS CR; have EF := E.func; have E19 := E.tmp 19 _ rfl; have E28 := E.tmp 28 _ rfl; have E46 := E.tmp 46 _ rfl; clear E; go_simp) (unhide CR _ b1) (fun e w' h => ⟨_, h.1⟩)) (fun v30 W2 hR => ?_)
    obtain ⟨hv, hb⟩ := hR
    injection hv with hv
    subst hv
    have b2 : Below w.heap.size w W2 := b1.trans (hb.mono b1.size)
    have sU := sU0.below hb hlU
    clear hS
    have hS : (fun w' : World => w'.cell? ⟨q, 1, none⟩ = some (.slice (some ⟨g, 0, none⟩) LN cap) ∧ w'.cell? ⟨g, ii, none⟩ = some (.slice (some ⟨b, 0, none⟩) (M + 1) cap') ∧ w'.cell? ⟨b, 0, none⟩ = some (.int .i64 (z0 : Int)) ∧ w'.cell? ⟨b, M, none⟩ = some (.int .i64 (z1 : Int))) W2 := unhide KP _ b2
    refine ⟨fun _ => hS, fun a30 K30 => ?_⟩
    clear K29
    unfold smV at *
    refine utake (i := 29) (o := { dst := (some 18), op := (Op.move (Operand.tmp 47)), type := 34, pos := "ref.go:180", after := #[{ on := 28, ground := Ground.data }], guard := none }) (v := .tuple #[.agg #[.int .i64 rc, .int .i64 rs, .int .i64 ra, .int .i64 rb], .bool ok]) (l2 := ([true, true, true, true, true, true, true, true, true, true, true, true, true, true, true, true, true, true, true, true, true, true, true, true, true, true, true, true, true, true, false, false, true, false, false] : List Bool).toArray) K30 hq rfl NS40_4 (by kernel_rfl) (by kernel_rfl) (by kernel_rfl) (by kernel_rfl) (by kernel_rfl) rfl rfl (want_none rfl) (fun ev E w9 hSw => ?_) hS (fun a31 K31 => ?_)
    · clear hSw; clear KP hN hq hS CR; have EC := E.const; have E47 := E.tmp 47 _ rfl; clear E; go_simp
    clear K30
    refine utake (i := 30) (o := { dst := (some 48), op := (Op.extract (Operand.tmp 18) 0), type := 33, pos := "ref.go:180", after := #[{ on := 29, ground := Ground.data }], guard := none }) (v := .agg #[.int .i64 rc, .int .i64 rs, .int .i64 ra, .int .i64 rb]) (l2 := ([true, true, true, true, true, true, true, true, true, true, true, true, true, true, true, true, true, true, true, true, true, true, true, true, true, true, true, true, true, true, true, false, true, false, false] : List Bool).toArray) K31 hq rfl NS40_4 (by kernel_rfl) (by kernel_rfl) (by kernel_rfl) (by kernel_rfl) (by kernel_rfl) rfl rfl (want_none rfl) (fun ev E w9 hSw => ?_) hS (fun a32 K32 => ?_)
    · clear hSw; clear KP hN hq hS CR; have EC := E.const; have E18 := E.tmp 18 _ rfl; clear E; go_simp
    clear K31
    refine utake (i := 31) (o := { dst := (some 49), op := (Op.extract (Operand.tmp 18) 1), type := 4, pos := "ref.go:180", after := #[{ on := 29, ground := Ground.data }, { on := 33, ground := (Ground.gcOnly Departure.lateStores) }], guard := none }) (v := .bool ok) (l2 := ([true, true, true, true, true, true, true, true, true, true, true, true, true, true, true, true, true, true, true, true, true, true, true, true, true, true, true, true, true, true, true, true, true, false, false] : List Bool).toArray) K32 hq rfl NS40_4 (by kernel_rfl) (by kernel_rfl) (by kernel_rfl) (by kernel_rfl) (by kernel_rfl) rfl rfl (want_none rfl) (fun ev E w9 hSw => ?_) hS (fun a33 K33 => ?_)
    · clear hSw; clear KP hN hq hS CR; have EC := E.const; have E18 := E.tmp 18 _ rfl; clear E; go_simp
    clear K32
    obtain ⟨⟨p0, p1, p2, p3⟩, g0, g1, g2, g3⟩ := sU
    refine ustore (R := fun _ _ => True) (i := 33) (o := { dst := none, op := (Op.store 33 (Operand.tmp 7) (Operand.tmp 48)), type := 0, pos := "ref.go:180", after := #[{ on := 32, ground := Ground.data }, { on := 30, ground := Ground.data }, { on := 28, ground := Ground.chain }, { on := 0, ground := Ground.phase }, { on := 1, ground := Ground.phase }, { on := 2, ground := Ground.phase }, { on := 3, ground := Ground.phase }, { on := 4, ground := Ground.phase }, { on := 5, ground := Ground.phase }, { on := 6, ground := Ground.phase }, { on := 7, ground := Ground.phase }, { on := 8, ground := Ground.phase }, { on := 9, ground := Ground.phase }, { on := 10, ground := Ground.phase }, { on := 11, ground := Ground.phase }, { on := 12, ground := Ground.phase }, { on := 13, ground := Ground.phase }, { on := 14, ground := Ground.phase }, { on := 15, ground := Ground.phase }, { on := 16, ground := Ground.phase }, { on := 17, ground := Ground.phase }, { on := 18, ground := Ground.phase }, { on := 19, ground := Ground.phase }, { on := 20, ground := Ground.phase }, { on := 21, ground := Ground.phase }, { on := 22, ground := Ground.phase }, { on := 23, ground := Ground.phase }, { on := 24, ground := Ground.phase }, { on := 25, ground := Ground.phase }, { on := 26, ground := Ground.phase }, { on := 27, ground := Ground.phase }, { on := 28, ground := Ground.phase }, { on := 29, ground := Ground.phase }, { on := 30, ground := Ground.phase }, { on := 31, ground := (Ground.textOnly Departure.lateStores) }, { on := 32, ground := Ground.phase }], guard := none }) (w' := putSum W2 w.drew.heap.size ⟨rc, rs, ra, rb⟩) (l2 := ([true, true, true, true, true, true, true, true, true, true, true, true, true, true, true, true, true, true, true, true, true, true, true, true, true, true, true, true, true, true, true, true, true, true, false] : List Bool).toArray) K33 rfl (by kernel_rfl) (by kernel_rfl) rfl (want_none rfl) (fun ev E => ?_) (fun _ => ?sh) ?_
    case sh => exact unhide KP _ (below_put b2 hblk)
    · clear KP hN hq CR; have EC := E.const; have E7 := E.tmp 7 _ rfl; have E48 := E.tmp 48 _ rfl; clear E; dsimp only [zero] at p0 p1 p2 p3; unfold putSum; go_simp
    refine uone (i := 34) (o := { dst := (some 8), op := (Op.assign (Operand.tmp 49)), type := 4, pos := "ref.go:180", after := #[{ on := 31, ground := Ground.data }, { on := 33, ground := Ground.chain }, { on := 0, ground := Ground.phase }, { on := 1, ground := Ground.phase }, { on := 2, ground := Ground.phase }, { on := 3, ground := Ground.phase }, { on := 4, ground := Ground.phase }, { on := 5, ground := Ground.phase }, { on := 6, ground := Ground.phase }, { on := 7, ground := Ground.phase }, { on := 8, ground := Ground.phase }, { on := 9, ground := Ground.phase }, { on := 10, ground := Ground.phase }, { on := 11, ground := Ground.phase }, { on := 12, ground := Ground.phase }, { on := 13, ground := Ground.phase }, { on := 14, ground := Ground.phase }, { on := 15, ground := Ground.phase }, { on := 16, ground := Ground.phase }, { on := 17, ground := Ground.phase }, { on := 18, ground := Ground.phase }, { on := 19, ground := Ground.phase }, { on := 20, ground := Ground.phase }, { on := 21, ground := Ground.phase }, { on := 22, ground := Ground.phase }, { on := 23, ground := Ground.phase }, { on := 24, ground := Ground.phase }, { on := 25, ground := Ground.phase }, { on := 26, ground := Ground.phase }, { on := 27, ground := Ground.phase }, { on := 28, ground := Ground.phase }, { on := 29, ground := Ground.phase }, { on := 30, ground := Ground.phase }, { on := 31, ground := Ground.phase }, { on := 32, ground := Ground.phase }, { on := 33, ground := Ground.phase }], guard := none }) (l2 := ([true, true, true, true, true, true, true, true, true, true, true, true, true, true, true, true, true, true, true, true, true, true, true, true, true, true, true, true, true, true, true, true, true, true, true] : List Bool).toArray) K33 rfl (by kernel_rfl) (by kernel_rfl) rfl rfl (want_none rfl) (leaves_value (v := .bool ok) (w' := putSum W2 w.drew.heap.size ⟨rc, rs, ra, rb⟩) K33 (fun ev E => by clear KP hN hq CR; have E49 := E.tmp 49 _ rfl; clear E; go_simp)) (fun v9 W9 hR => ?_)
    obtain ⟨rfl, rfl⟩ := hR
    refine ⟨fun hx => absurd hx (by decide), fun a34 K34 => ?_⟩
    refine till_done (by kernel_rfl) ?_ _
    exact hN _ _ _ (K34.less ⟨rfl, rfl, trivial⟩) (below_put b2 hblk) (SumAt.put ⟨⟨p0, p1, p2, p3⟩, g0, g1, g2, g3⟩)
section
variable {w w' : World} {q bw : Nat} {vL : Value} {hs : List Value} {fw : Nat → Int} {A : Se}
set_option maxHeartbeats 4000000 in
theorem rall_any (x : Int) (h : RA w q vL bw hs fw A) : Calls Try.prog 40 #[.pointer (some ⟨q, 0, none⟩), .int .i64 x] w fun e w' => e = .returned (smV (A.allI x)) ∧ Below w.heap.size w w' := by
  have h1 := hide (fun W (hb : Below w.heap.size w W) => rpos_any x (h.below hb))
  have HH := hide h
  have hLn := h.len
  clear h
  refine calls_of_wp Try.func40 rfl ?_
  have K0 : Kb { tmps := #[.pointer (some ⟨q, 0, none⟩), .int .i64 x] ++ Array.replicate (Try.f40.ntmps - (#[.pointer (some ⟨q, 0, none⟩), .int .i64 x] : Array Value).size) undef, defers := [] } 51 [(0, .pointer (some ⟨q, 0, none⟩)), (1, .int .i64 x)] :=
    Kb.of (by simp [Try.ntmps40]) rfl (by simp)
  generalize ({ tmps := #[.pointer (some ⟨q, 0, none⟩), .int .i64 x] ++ Array.replicate (Try.f40.ntmps - (#[.pointer (some ⟨q, 0, none⟩), .int .i64 x] : Array Value).size) undef, defers := [] } : Act) = a0 at K0 ⊢
  show CODE40.wp _ _ _ _
  refine seqN ?_
  refine wp_region_lit ?_
  refine ltake (v := .pointer (some ⟨w.heap.size, 0, none⟩)) (w' := w.alloc (.cells #[.int .i64 0, .int .i64 0, .int .i64 0, .int .i64 0] 33)) K0 rfl rfl (want_none rfl) (fun ev E => ?_) (fun a1 K1 => ?_)
  · have EC := E.const; clear E; clear HH h1; go_simp
  refine wpList_nil ?_
  show Code.wp _ _ _ _ _
  have bU : Below w.heap.size w (w.alloc (.cells #[.int .i64 0, .int .i64 0, .int .i64 0, .int .i64 0] 33)) := (Below.refl _ _).alloc (Nat.le_refl _) _
  have sU := hide (SumAt.zero0 w 33)
  have lU : w.heap.size < (w.alloc (.cells #[.int .i64 0, .int .i64 0, .int .i64 0, .int .i64 0] 33)).heap.size := by simp
  generalize w.alloc (.cells #[.int .i64 0, .int .i64 0, .int .i64 0, .int .i64 0] 33) = U at *
  refine seqN ?_
  refine wp_region_lit ?_
  refine ltake (v := .pointer (some ⟨q, 0, none⟩)) (w' := U) K1 rfl rfl (want_none rfl) (fun ev E => ?_) (fun a2 K2 => ?_)
  · have EC := E.const; have E0 := E.tmp 0 _ rfl; clear E; clear HH sU; (try clear h1); go_simp
  clear K1
  refine ltake (v := .int .i64 x) (w' := U) K2 rfl rfl (want_none rfl) (fun ev E => ?_) (fun a3 K3 => ?_)
  · have EC := E.const; have E1 := E.tmp 1 _ rfl; clear E; clear HH sU; (try clear h1); go_simp
  clear K2
  refine lcall (f := 48) (args := #[.pointer (some ⟨q, 0, none⟩), .int .i64 x]) K3 rfl rfl (want_none rfl) (fun ev E => ?_) (unhide h1 _ bU) (fun e w1 hR => ?_)
  · have EC := E.const; have EF := E.func; have E10 := E.tmp 10 _ rfl; have E11 := E.tmp 11 _ rfl; clear E; clear HH sU; (try clear h1); go_simp
  obtain ⟨⟨i, k, hp, rfl⟩, hw1⟩ := hR
  rw [← hw1]
  clear hw1
  have HP := hide hp
  clear hp h1
  refine ⟨_, rfl, fun a4 K4 => ?_⟩
  clear K3
  refine ltake (v := .tuple #[.int .i64 i, .int .i64 k]) (w' := U) K4 rfl rfl (want_none rfl) (fun ev E => ?_) (fun a5 K5 => ?_)
  · have EC := E.const; have E12 := E.tmp 12 _ rfl; clear E; clear HH sU; (try clear HP); go_simp
  clear K4
  refine ltake (v := .int .i64 i) (w' := U) K5 rfl rfl (want_none rfl) (fun ev E => ?_) (fun a6 K6 => ?_)
  · have EC := E.const; have E9 := E.tmp 9 _ rfl; clear E; clear HH sU; (try clear HP); go_simp
  clear K5
  refine ltake (v := .int .i64 k) (w' := U) K6 rfl rfl (want_none rfl) (fun ev E => ?_) (fun a7 K7 => ?_)
  · have EC := E.const; have E9 := E.tmp 9 _ rfl; clear E; clear HH sU; (try clear HP); go_simp
  clear K6
  refine ltake (v := .int .i64 i) (w' := U) K7 rfl rfl (want_none rfl) (fun ev E => ?_) (fun a8 K8 => ?_)
  · have EC := E.const; have E13 := E.tmp 13 _ rfl; clear E; clear HH sU; (try clear HP); go_simp
  clear K7
  refine ltake (v := .int .i64 k) (w' := U) K8 rfl rfl (want_none rfl) (fun ev E => ?_) (fun a9 K9 => ?_)
  · have EC := E.const; have E14 := E.tmp 14 _ rfl; clear E; clear HH sU; (try clear HP); go_simp
  clear K8
  refine wpList_nil ?_
  show Code.wp _ _ _ _ _
  have K10 : Kb _ 51 [(0, .pointer (some ⟨q, 0, none⟩)), (4, .pointer (some ⟨w.heap.size, 0, none⟩)), (5, .int .i64 i)] := K9.less ⟨rfl, rfl, rfl, trivial⟩
  clear K9
  rcases pos_facts (unhide HH).nd (unhide HP) with ⟨f1, v, ii, kk, rfl, rfl, rfl, hi, hs1, hk, f2, f3, f4⟩ | ⟨f1, rfl, rfl⟩
  · have e1 : ¬ (ii : Int) < 0 := by omega
    have hll : (A.seqI (v : Int)).length ≤ 4194304 := by rw [← hs1]; exact (unhide HH).lenl _ (getD_mem hi)
    have hmem : A.seqI (v : Int) ∈ A.L := by rw [← hs1]; exact getD_mem hi
    clear HP f1 f2 f3 f4
    refine wp_seq (seqN ?_)
    refine wp_region_lit ?_
    refine ltake (v := .int .i64 (ii : Int)) (w' := U) K10 rfl rfl (want_none rfl) (fun ev E => ?_) (fun a11 K11 => ?_)
    · have EC := E.const; have E5 := E.tmp 5 _ rfl; clear E; clear HH sU; (try clear FB); go_simp
    clear K10
    refine ltake (v := .bool false) (w' := U) K11 rfl rfl (want_none rfl) (fun ev E => ?_) (fun a12 K12 => ?_)
    · have EC := E.const; have E15 := E.tmp 15 _ rfl; clear E; clear HH sU; (try clear FB); go_simp
    clear K11
    refine wpList_nil ?_
    show Code.wp _ _ _ _ _
    refine knCond (b := false) K12 rfl (wp_skip ?_)
    show Code.wp _ _ _ _ _
    have K13 : Kb _ 51 [(0, .pointer (some ⟨q, 0, none⟩)), (4, .pointer (some ⟨w.heap.size, 0, none⟩)), (5, .int .i64 (ii : Int))] := K12.less ⟨rfl, rfl, rfl, trivial⟩
    clear K12
    have hA := (unhide HH).below bU
    obtain ⟨c0, c1, c2, _⟩ := hA.rin.cells
    obtain ⟨xo, cap, hvL, k1, k2, k3⟩ := hA.rin.outer
    obtain ⟨gg, hxo, hg, hc⟩ := k3 (by omega)
    obtain ⟨b, cap', hu, m1, m2, m3, m4⟩ := hA.rin.hd ii hi
    have d1 := hc ii hi
    rw [hu] at d1
    rw [hs1] at d1 m1 m4
    obtain ⟨M, hM⟩ : ∃ M, (A.seqI (v : Int)).length = M + 1 := ⟨(A.seqI (v : Int)).length - 1, by omega⟩
    have hrg := all_range hA.nd hmem (by omega)
    rw [hM, Nat.add_sub_cancel] at hrg
    rw [hM] at d1 m4
    have d2 := m4 0 (by omega)
    have d3 := m4 M (by omega)
    refine seqN (rg40_4 (g := gg) (LN := A.L.length) (cap := cap) (b := b) (M := M) (cap' := cap') (u4 := w.heap.size) K13 hA ⟨by rw [c1, hvL, hxo], d1, d2, d3⟩ ⟨blk_lt hA.rin.blk, hg, m3⟩ (by omega) (by omega) (by omega) (fun a7 b7 W7 K7 hb7 s7 => ?_))
    rw [hrg] at s7
    have s4 := hide ((unhide sU).below hb7 lU)
    have bel7 : Below w.heap.size w W7 := bU.trans (hb7.mono bU.size)
    obtain ⟨R, hR⟩ : ∃ R, ofR ((A.seqI (v : Int)).map A.W) = R := ⟨_, rfl⟩
    rw [hR] at s7
    have FB : Hid (A.allI (v : Int) = R) := hR
    obtain ⟨rc, rs, ra, rb⟩ := R
    obtain ⟨⟨q0, q1, q2, q3⟩, _⟩ := s7
    dsimp only at q0 q1 q2 q3
    clear hA c0 c1 c2 hc d1 d2 d3 m4 hrg sU hR
    show Code.wp _ _ _ _ _
    refine seqN ?_
    refine wp_region_lit ?_
    obtain ⟨⟨p0, p1, p2, p3⟩, g0, g1, g2, g3⟩ := unhide s4
    dsimp only [zero] at p0 p1 p2 p3
    refine ltake (v := .agg #[.int .i64 rc, .int .i64 rs, .int .i64 ra, .int .i64 rb]) (w' := W7) K7 rfl rfl (want_none rfl) (fun ev E => ?_) (fun a17 K17 => ?_)
    · have EC := E.const; have E7 := E.tmp 7 _ rfl; clear E; clear HH s4; go_simp
    clear K7
    refine lstore (w' := putSum W7 w.heap.size ⟨rc, rs, ra, rb⟩) K17 rfl (want_none rfl) (fun ev E => ?_) ?_
    · have EC := E.const; have E4 := E.tmp 4 _ rfl; have E50 := E.tmp 50 _ rfl; clear E; clear HH s4; unfold putSum; go_simp
    refine wpList_nil ?_
    refine wp_ret ?_
    have hp := SumAt.put (x := ⟨rc, rs, ra, rb⟩) (unhide s4)
    refine bodyPost_ret (v := .agg #[.int .i64 rc, .int .i64 rs, .int .i64 ra, .int .i64 rb]) ?_ K17.defers ⟨by rw [unhide FB]; rfl, below_put bel7 (Nat.le_refl _)⟩
    have e4 := K17.has 4 _ rfl
    obtain ⟨⟨p0, p1, p2, p3⟩, g0, g1, g2, g3⟩ := hp
    dsimp only at p0 p1 p2 p3
    generalize putSum W7 w.heap.size ⟨rc, rs, ra, rb⟩ = W9 at *
    simp [results, Try.results40, go_sem, e4, p0, p1, p2, p3]
  · have FB : Hid (A.allI x = zero) := by show _ = _; rw [Se.allI, Se.seqI, f1]; rfl
    clear f1 HP
    refine wp_seq (seqN ?_)
    refine wp_region_lit ?_
    refine ltake (v := .int .i64 (-1)) (w' := U) K10 rfl rfl (want_none rfl) (fun ev E => ?_) (fun a11 K11 => ?_)
    · have EC := E.const; have E5 := E.tmp 5 _ rfl; clear E; clear HH sU; (try clear FB); go_simp
    clear K10
    refine ltake (v := .bool true) (w' := U) K11 rfl rfl (want_none rfl) (fun ev E => ?_) (fun a12 K12 => ?_)
    · have EC := E.const; have E15 := E.tmp 15 _ rfl; clear E; clear HH sU; (try clear FB); go_simp
    clear K11
    refine wpList_nil ?_
    show Code.wp _ _ _ _ _
    refine knCond (b := true) K12 rfl ?_
    refine seqN ?_
    refine wp_region_lit ?_
    obtain ⟨⟨p0, p1, p2, p3⟩, g0, g1, g2, g3⟩ := unhide sU
    dsimp only [zero] at p0 p1 p2 p3
    refine ltake (v := .agg #[.int .i64 0, .int .i64 0, .int .i64 0, .int .i64 0]) (w' := U) K12 rfl rfl (want_none rfl) (fun ev E => ?_) (fun a13 K13 => ?_)
    · have EC := E.const; clear E; clear HH sU; go_simp
    clear K12
    refine lstore (w' := putSum U w.heap.size ⟨0, 0, 0, 0⟩) K13 rfl (want_none rfl) (fun ev E => ?_) ?_
    · have EC := E.const; have E4 := E.tmp 4 _ rfl; have E17 := E.tmp 17 _ rfl; clear E; clear HH sU; unfold putSum; go_simp
    refine wpList_nil ?_
    refine wp_ret ?_
    refine thenRet ?_
    have hp := SumAt.put (x := ⟨0, 0, 0, 0⟩) (unhide sU)
    refine bodyPost_ret (v := .agg #[.int .i64 0, .int .i64 0, .int .i64 0, .int .i64 0]) ?_ K13.defers ⟨by rw [unhide FB]; rfl, below_put bU (Nat.le_refl _)⟩
    have e4 := K13.has 4 _ rfl
    obtain ⟨⟨p0, p1, p2, p3⟩, g0, g1, g2, g3⟩ := hp
    dsimp only at p0 p1 p2 p3
    generalize putSum U w.heap.size ⟨0, 0, 0, 0⟩ = W9 at *
    simp [results, Try.results40, go_sem, e4, p0, p1, p2, p3]
end
end Go.Proofs.Ytbkneonbpcmepaa
/- The document's pool: a sequence is cut. -/

namespace Go.Proofs.Ytbkneonbpcmepaa
open Go.RowKit Go.Arb
set_option linter.unusedVariables false
set_option linter.unusedSimpArgs false
set_option maxRecDepth 100000

theorem Hd.rc {w : World} {u : Value} {l : List Nat} (h : Hd w u l) : Rc w u l.length (ivs l) := by
  obtain ⟨b, cap, rfl, h1, h2, h3, h4⟩ := h
  refine .inr ⟨b, cap, rfl, h1, h2, by simp [ivs], fun j x hj => ?_⟩
  have hj' := (List.getElem?_eq_some_iff.1 hj).1
  simp only [ivs, List.length_map] at hj'
  rw [h4 j hj', ← hj]
  simp [ivs, hj', List.getD_eq_getElem?_getD]
theorem ivs_take (l : List Nat) (k : Nat) : (ivs l).take k = ivs (l.take k) := by simp [ivs, List.map_take]
theorem ivs_drop (l : List Nat) (k : Nat) : (ivs l).drop k = ivs (l.drop k) := by simp [ivs, List.map_drop]
theorem cut_perm {L : List (List Nat)} {l : List Nat} (hl : l ∈ L) (k : Nat) : (L.erase l ++ [l.take k, l.drop k]).flatten.Perm L.flatten := by
  have h1 := (List.perm_cons_erase hl).flatten
  refine List.Perm.trans ?_ h1.symm
  simp only [List.flatten_append, List.flatten_cons, List.flatten_nil, List.append_nil, List.take_append_drop]
  exact List.perm_append_comm
def OPS18_0 : List Oper := [({ dst := (some 4), op := (Op.assign (Operand.const (Value.bool false))), type := 4, pos := "ref.go:99", after := #[], guard := none } : Oper)]
def OPS18_1 : List Oper := [({ dst := (some 9), op := (Op.move (Operand.tmp 0)), type := 25, pos := "ref.go:100", after := #[], guard := none } : Oper), ({ dst := (some 10), op := (Op.move (Operand.tmp 1)), type := 3, pos := "ref.go:100", after := #[], guard := none } : Oper), ({ dst := (some 11), op := (Op.call { callee := (Callee.value (Operand.func 48)), args := #[(Operand.tmp 9), (Operand.tmp 10)], argTypes := #[25, 3] }), type := 69, pos := "ref.go:100", after := #[{ on := 0, ground := Ground.data }, { on := 1, ground := Ground.data }], guard := none } : Oper), ({ dst := (some 8), op := (Op.move (Operand.tmp 11)), type := 69, pos := "ref.go:100", after := #[{ on := 2, ground := Ground.data }], guard := none } : Oper), ({ dst := (some 12), op := (Op.extract (Operand.tmp 8) 0), type := 3, pos := "ref.go:100", after := #[{ on := 3, ground := Ground.data }], guard := none } : Oper), ({ dst := (some 13), op := (Op.extract (Operand.tmp 8) 1), type := 3, pos := "ref.go:100", after := #[{ on := 3, ground := Ground.data }, { on := 6, ground := (Ground.gcOnly Departure.lateStores) }], guard := none } : Oper), ({ dst := (some 5), op := (Op.assign (Operand.tmp 12)), type := 3, pos := "ref.go:100", after := #[{ on := 4, ground := Ground.data }, { on := 2, ground := Ground.chain }, { on := 0, ground := Ground.phase }, { on := 1, ground := Ground.phase }, { on := 2, ground := Ground.phase }, { on := 3, ground := Ground.phase }, { on := 4, ground := Ground.phase }, { on := 5, ground := (Ground.textOnly Departure.lateStores) }], guard := none } : Oper), ({ dst := (some 6), op := (Op.assign (Operand.tmp 13)), type := 3, pos := "ref.go:100", after := #[{ on := 5, ground := Ground.data }, { on := 6, ground := Ground.chain }, { on := 0, ground := Ground.phase }, { on := 1, ground := Ground.phase }, { on := 2, ground := Ground.phase }, { on := 3, ground := Ground.phase }, { on := 4, ground := Ground.phase }, { on := 5, ground := Ground.phase }, { on := 6, ground := Ground.phase }], guard := none } : Oper)]
def OPS18_2 : List Oper := [({ dst := (some 14), op := (Op.move (Operand.tmp 6)), type := 3, pos := "ref.go:101", after := #[], guard := none } : Oper), ({ dst := (some 15), op := (Op.binOp BinOp.leq 3 (Operand.tmp 14) (Operand.const (Value.int IntKind.i64 0)) 3), type := 4, pos := "ref.go:101", after := #[{ on := 0, ground := Ground.data }], guard := none } : Oper)]
def OPS18_3 : List Oper := [({ dst := (some 4), op := (Op.assign (Operand.const (Value.bool false))), type := 4, pos := "ref.go:102", after := #[], guard := none } : Oper)]
def OPS18_4 : List Oper := [({ dst := (some 16), op := (Op.move (Operand.tmp 0)), type := 25, pos := "ref.go:104", after := #[], guard := none } : Oper), ({ dst := (some 17), op := (Op.nilCheck (Operand.tmp 16)), type := 0, pos := "ref.go:104", after := #[{ on := 0, ground := Ground.data }], guard := none } : Oper), ({ dst := (some 18), op := (Op.fieldAddr 64 (Operand.tmp 17) 1), type := 0, pos := "ref.go:104", after := #[{ on := 1, ground := Ground.data }], guard := none } : Oper), ({ dst := (some 19), op := (Op.load 62 (Operand.tmp 18)), type := 62, pos := "ref.go:104", after := #[{ on := 2, ground := Ground.data }], guard := none } : Oper), ({ dst := (some 20), op := (Op.move (Operand.tmp 5)), type := 3, pos := "ref.go:104", after := #[], guard := none } : Oper), ({ dst := (some 21), op := (Op.indexAddr 62 (Operand.tmp 19) (Operand.tmp 20)), type := 0, pos := "ref.go:104", after := #[{ on := 3, ground := Ground.data }, { on := 4, ground := Ground.data }], guard := none } : Oper), ({ dst := (some 22), op := (Op.load 61 (Operand.tmp 21)), type := 61, pos := "ref.go:104", after := #[{ on := 5, ground := Ground.data }], guard := none } : Oper), ({ dst := (some 7), op := (Op.assign (Operand.tmp 22)), type := 61, pos := "ref.go:104", after := #[{ on := 6, ground := Ground.data }, { on := 0, ground := Ground.phase }, { on := 1, ground := Ground.phase }, { on := 2, ground := Ground.phase }, { on := 3, ground := Ground.phase }, { on := 4, ground := Ground.phase }, { on := 5, ground := Ground.phase }, { on := 6, ground := Ground.phase }], guard := none } : Oper)]
def OPS18_5 : List Oper := [({ dst := (some 23), op := (Op.move (Operand.tmp 0)), type := 25, pos := "ref.go:105", after := #[], guard := none } : Oper), ({ dst := (some 24), op := (Op.move (Operand.tmp 5)), type := 3, pos := "ref.go:105", after := #[], guard := none } : Oper), ({ dst := (some 25), op := (Op.call { callee := (Callee.value (Operand.func 49)), args := #[(Operand.tmp 23), (Operand.tmp 24)], argTypes := #[25, 3] }), type := 0, pos := "ref.go:105", after := #[{ on := 0, ground := Ground.data }, { on := 1, ground := Ground.data }], guard := none } : Oper)]
def OPS18_6 : List Oper := [({ dst := (some 26), op := (Op.move (Operand.tmp 0)), type := 25, pos := "ref.go:106", after := #[], guard := none } : Oper), ({ dst := (some 27), op := (Op.move (Operand.tmp 0)), type := 25, pos := "ref.go:106", after := #[], guard := none } : Oper), ({ dst := (some 28), op := (Op.nilCheck (Operand.tmp 27)), type := 0, pos := "ref.go:106", after := #[{ on := 1, ground := Ground.data }], guard := none } : Oper), ({ dst := (some 29), op := (Op.fieldAddr 64 (Operand.tmp 28) 1), type := 0, pos := "ref.go:106", after := #[{ on := 2, ground := Ground.data }], guard := none } : Oper), ({ dst := (some 30), op := (Op.load 62 (Operand.tmp 29)), type := 62, pos := "ref.go:106", after := #[{ on := 3, ground := Ground.data }], guard := none } : Oper), ({ dst := (some 31), op := (Op.buildSlice 61 0 #[]), type := 61, pos := "ref.go:106", after := #[], guard := none } : Oper), ({ dst := (some 32), op := (Op.move (Operand.tmp 7)), type := 61, pos := "ref.go:106", after := #[], guard := none } : Oper), ({ dst := (some 33), op := (Op.move (Operand.tmp 6)), type := 3, pos := "ref.go:106", after := #[], guard := none } : Oper), ({ dst := (some 34), op := (Op.slice 61 (Operand.tmp 32) none (some (Operand.tmp 33)) none), type := 61, pos := "ref.go:106", after := #[{ on := 6, ground := Ground.data }, { on := 7, ground := Ground.data }], guard := none } : Oper), ({ dst := (some 35), op := (Op.call { callee := (Callee.builtin Builtin.append), args := #[(Operand.tmp 31), (Operand.tmp 34)], argTypes := #[61, 61] }), type := 61, pos := "ref.go:106", after := #[{ on := 5, ground := Ground.data }, { on := 8, ground := Ground.data }], guard := none } : Oper), ({ dst := (some 36), op := (Op.buildSlice 61 0 #[]), type := 61, pos := "ref.go:106", after := #[], guard := none } : Oper), ({ dst := (some 37), op := (Op.move (Operand.tmp 7)), type := 61, pos := "ref.go:106", after := #[], guard := none } : Oper), ({ dst := (some 38), op := (Op.move (Operand.tmp 6)), type := 3, pos := "ref.go:106", after := #[], guard := none } : Oper), ({ dst := (some 39), op := (Op.slice 61 (Operand.tmp 37) (some (Operand.tmp 38)) none none), type := 61, pos := "ref.go:106", after := #[{ on := 11, ground := Ground.data }, { on := 12, ground := Ground.data }], guard := none } : Oper), ({ dst := (some 40), op := (Op.call { callee := (Callee.builtin Builtin.append), args := #[(Operand.tmp 36), (Operand.tmp 39)], argTypes := #[61, 61] }), type := 61, pos := "ref.go:106", after := #[{ on := 10, ground := Ground.data }, { on := 13, ground := Ground.data }, { on := 9, ground := Ground.chain }], guard := none } : Oper), ({ dst := (some 41), op := (Op.buildSlice 62 2 #[(0, (Operand.tmp 35)), (1, (Operand.tmp 40))]), type := 62, pos := "ref.go:106", after := #[{ on := 9, ground := Ground.data }, { on := 14, ground := Ground.data }], guard := none } : Oper), ({ dst := (some 42), op := (Op.call { callee := (Callee.builtin Builtin.append), args := #[(Operand.tmp 30), (Operand.tmp 41)], argTypes := #[62, 62] }), type := 62, pos := "ref.go:106", after := #[{ on := 4, ground := Ground.data }, { on := 15, ground := Ground.data }, { on := 14, ground := Ground.chain }], guard := none } : Oper), ({ dst := (some 43), op := (Op.nilCheck (Operand.tmp 26)), type := 0, pos := "ref.go:106", after := #[{ on := 0, ground := Ground.data }, { on := 0, ground := Ground.phase }, { on := 1, ground := Ground.phase }, { on := 2, ground := Ground.phase }, { on := 3, ground := Ground.phase }, { on := 4, ground := Ground.phase }, { on := 5, ground := Ground.phase }, { on := 6, ground := Ground.phase }, { on := 7, ground := Ground.phase }, { on := 8, ground := Ground.phase }, { on := 9, ground := Ground.phase }, { on := 10, ground := Ground.phase }, { on := 11, ground := Ground.phase }, { on := 12, ground := Ground.phase }, { on := 13, ground := Ground.phase }, { on := 14, ground := Ground.phase }, { on := 15, ground := Ground.phase }, { on := 16, ground := Ground.phase }], guard := none } : Oper), ({ dst := (some 44), op := (Op.fieldAddr 64 (Operand.tmp 43) 1), type := 0, pos := "ref.go:106", after := #[{ on := 17, ground := Ground.data }, { on := 0, ground := Ground.phase }, { on := 1, ground := Ground.phase }, { on := 2, ground := Ground.phase }, { on := 3, ground := Ground.phase }, { on := 4, ground := Ground.phase }, { on := 5, ground := Ground.phase }, { on := 6, ground := Ground.phase }, { on := 7, ground := Ground.phase }, { on := 8, ground := Ground.phase }, { on := 9, ground := Ground.phase }, { on := 10, ground := Ground.phase }, { on := 11, ground := Ground.phase }, { on := 12, ground := Ground.phase }, { on := 13, ground := Ground.phase }, { on := 14, ground := Ground.phase }, { on := 15, ground := Ground.phase }, { on := 16, ground := Ground.phase }], guard := none } : Oper), ({ dst := none, op := (Op.store 62 (Operand.tmp 44) (Operand.tmp 42)), type := 0, pos := "ref.go:106", after := #[{ on := 18, ground := Ground.data }, { on := 16, ground := Ground.data }, { on := 16, ground := Ground.chain }, { on := 0, ground := Ground.phase }, { on := 1, ground := Ground.phase }, { on := 2, ground := Ground.phase }, { on := 3, ground := Ground.phase }, { on := 4, ground := Ground.phase }, { on := 5, ground := Ground.phase }, { on := 6, ground := Ground.phase }, { on := 7, ground := Ground.phase }, { on := 8, ground := Ground.phase }, { on := 9, ground := Ground.phase }, { on := 10, ground := Ground.phase }, { on := 11, ground := Ground.phase }, { on := 12, ground := Ground.phase }, { on := 13, ground := Ground.phase }, { on := 14, ground := Ground.phase }, { on := 15, ground := Ground.phase }, { on := 16, ground := Ground.phase }], guard := none } : Oper)]
theorem NS18_6 : Region.noSelect OPS18_6.toArray = true := by kernel_rfl
def OPS18_7 : List Oper := [({ dst := (some 4), op := (Op.assign (Operand.const (Value.bool true))), type := 4, pos := "ref.go:107", after := #[], guard := none } : Oper)]
def CODE18 : Code := (Code.seq (Code.region 0 OPS18_0.toArray false) (Code.seq (Code.region 1 OPS18_1.toArray false) (Code.seq (Code.seq (Code.region 2 OPS18_2.toArray false) (Code.cond (Operand.tmp 15) (Code.seq (Code.region 3 OPS18_3.toArray false) Code.ret) Code.skip)) (Code.seq (Code.region 4 OPS18_4.toArray false) (Code.seq (Code.region 5 OPS18_5.toArray false) (Code.seq (Code.region 6 OPS18_6.toArray true) (Code.seq (Code.region 7 OPS18_7.toArray false) Code.ret)))))))
set_option maxHeartbeats 4000000 in
theorem rg18_t {q bw n : Nat} {vL v9 v14 : Value} {hs : List Value} {L : List (List Nat)} {l1 l2 : List Nat} {fw : Nat → Int} {NX : Act → World → Prop} {a0 : Act} {w W : World} (K0 : Kb a0 45 [(26, .pointer (some ⟨q, 0, none⟩)), (30, vL), (35, v9), (40, v14)]) (h : RIn w q vL bw n hs L fw) (b4 : Below w.heap.size w W) (hd9 : Hd W v9 l1) (hd14 : Hd W v14 l2) (hg9 : ∀ b ∈ own v9, w.heap.size ≤ b) (hg14 : ∀ b ∈ own v14, w.heap.size ≤ b) (hl : L.length ≤ 4194303)
    (hN : ∀ a' v' w', Kb a' 45 [] → Pu w w' q bw n vL v' (hs ++ [v9, v14]) (L ++ [l1, l2]) fw → NX a' w') :
    wpTill Try.prog OPS18_6.toArray (Norm NX) 19 (fun w' : World => w'.cell? ⟨q, 1, none⟩ = some vL) 5 ([true, true, true, true, true, true, true, true, true, true, true, true, true, true, true, false, false, false, false, false] : List Bool).toArray a0 W := by
  obtain ⟨i0, hi0, hz0, hz1, hz2⟩ := info61
  obtain ⟨c0, c1, c2, c3⟩ := h.cells
  have hq := (Array.getElem?_eq_some_iff.1 h.blk).1
  have HH := hide (And.intro h (And.intro hd9 (And.intro hd14 (And.intro hg9 hg14))))
  have b5 : Below w.heap.size w (W.alloc (.cells #[v9, v14] 61)) := b4.alloc b4.size _
  have HB := hide b5
  have bW : Below W.heap.size W (W.alloc (.cells #[v9, v14] 61)) := (Below.refl _ _).alloc (Nat.le_refl _) _
  have HD : Hid (Hd (W.alloc (.cells #[v9, v14] 61)) v9 l1 ∧ Hd (W.alloc (.cells #[v9, v14] 61)) v14 l2) := ⟨hd9.keep (Keep.ofBelow bW []) (fun _ _ => by simp), hd14.keep (Keep.ofBelow bW []) (fun _ _ => by simp)⟩
  have HSRC : Hid (Src (W.alloc (.cells #[v9, v14] 61)) (.slice (some ⟨W.heap.size, 0, none⟩) 2 2) 2 [v9, v14]) := by
    refine .inr ⟨⟨W.heap.size, 0, none⟩, 2, rfl, rfl, fun j x hj => ?_⟩
    have e := heap_alloc_new W (.cells #[v9, v14] 61)
    rw [add_none]
    have hj2 : j < 2 := by have := (List.getElem?_eq_some_iff.1 hj).1; simpa using this
    rcases (by omega : j = 0 ∨ j = 1) with rfl | rfl
    · simp at hj; subst hj; simp only [World.cell?, e]; rfl
    · simp at hj; subst hj; simp only [World.cell?, e]; rfl
  have HOWN := hide (row_keep h.rl (Keep.ofBelow b5 []) (fun _ _ => by simp))
  have HL : Hid (L.length ≤ 4194303) := hl
  have hone : v9.oneCell' = true ∧ v14.oneCell' = true := ⟨by obtain ⟨b, cap, rfl, _⟩ := hd9; rfl, by obtain ⟨b, cap, rfl, _⟩ := hd14; rfl⟩
  have hS5 : (fun w' : World => w'.cell? ⟨q, 1, none⟩ = some vL) (W.alloc (.cells #[v9, v14] 61)) := by
    show _ = _
    rw [b5.cell (p := ⟨q, 1, none⟩) hq]; exact c1
  clear h hd9 hd14 hg9 hg14 hl
  refine uone (i := 15) (o := { dst := (some 41), op := (Op.buildSlice 62 2 #[(0, (Operand.tmp 35)), (1, (Operand.tmp 40))]), type := 62, pos := "ref.go:106", after := #[{ on := 9, ground := Ground.data }, { on := 14, ground := Ground.data }], guard := none }) (l2 := ([true, true, true, true, true, true, true, true, true, true, true, true, true, true, true, true, false, false, false, false] : List Bool).toArray) K0 rfl (by kernel_rfl) (by kernel_rfl) rfl rfl (want_none rfl) (leaves_value (v := .slice (some ⟨W.heap.size, 0, none⟩) 2 2) (w' := W.alloc (.cells #[v9, v14] 61)) K0 (fun ev E => ?k15)) (fun v5 W5 hR => ?_)
  case k15 =>
    obtain ⟨_, ⟨x1, x2, hx, _⟩, ⟨y1, y2, hy, _⟩, _⟩ := unhide HH
    subst hx
    subst hy
    have E35 := E.tmp 35 _ rfl
    have E40 := E.tmp 40 _ rfl
    clear E HH HB HD HSRC HOWN hN
    go_simp
  obtain ⟨rfl, rfl⟩ := hR
  refine ⟨fun _ => hS5, fun a1 K1 => ?_⟩
  refine uone (i := 16) (o := { dst := (some 42), op := (Op.call { callee := (Callee.builtin Builtin.append), args := #[(Operand.tmp 30), (Operand.tmp 41)], argTypes := #[62, 62] }), type := 62, pos := "ref.go:106", after := #[{ on := 4, ground := Ground.data }, { on := 15, ground := Ground.data }, { on := 14, ground := Ground.chain }], guard := none }) (l2 := ([true, true, true, true, true, true, true, true, true, true, true, true, true, true, true, true, true, false, false, false] : List Bool).toArray) K1 rfl (by kernel_rfl) (by kernel_rfl) rfl rfl (want_none rfl) (leaves_append K1 30 41 62 rfl 0 61 i0 (.slice none 0 0) 24 und62 hi0 hz0 hz1 hz2 rfl rfl (unhide HOWN) rfl (unhide HSRC) (fun u hu => by simp at hu; rcases hu with rfl | rfl; exact hone.1; exact hone.2) (by have := unhide HL; unfold maxLen; omega) (by have := unhide HL; omega) (Nat.zero_le _)) (fun v6 W6 hR => ?_)
  obtain ⟨hown, hgrow, hat⟩ := hR
  have hP := hide (RIn.push (us := [v9, v14]) (ls := [l1, l2]) (unhide HH).1 (unhide HB) rfl (fun j hj => by
    rcases (by simp at hj; omega : j = 0 ∨ j = 1) with rfl | rfl
    · exact (unhide HD).1
    · exact (unhide HD).2) (fun u hu b hb => by
    simp at hu
    rcases hu with rfl | rfl
    · exact (unhide HH).2.2.2.1 b hb
    · exact (unhide HH).2.2.2.2 b hb) hgrow (by simpa using hown) hat)
  have KK : Keep (own vL) w W6 := (Keep.ofBelow (unhide HB) (own vL)).grown hgrow (fun k hk => .inl (mem_own.2 hk))
  have fz : W6.frozen? ⟨q, 1, none⟩ = false := by rw [KK.frozen (p := ⟨q, 1, none⟩) hq (unhide HH).1.n2]; exact c3
  have cz : W6.cell? ⟨q, 1, none⟩ = some vL := by rw [KK.cell (p := ⟨q, 1, none⟩) hq (unhide HH).1.n2]; exact c1
  obtain ⟨x7, cap7, hv7⟩ := row_shape hown
  clear hown hgrow hat KK b5
  subst hv7
  refine ⟨fun _ => cz, fun a2 K2 => ?_⟩
  clear K1
  refine uone (i := 17) (o := { dst := (some 43), op := (Op.nilCheck (Operand.tmp 26)), type := 0, pos := "ref.go:106", after := #[{ on := 0, ground := Ground.data }, { on := 0, ground := Ground.phase }, { on := 1, ground := Ground.phase }, { on := 2, ground := Ground.phase }, { on := 3, ground := Ground.phase }, { on := 4, ground := Ground.phase }, { on := 5, ground := Ground.phase }, { on := 6, ground := Ground.phase }, { on := 7, ground := Ground.phase }, { on := 8, ground := Ground.phase }, { on := 9, ground := Ground.phase }, { on := 10, ground := Ground.phase }, { on := 11, ground := Ground.phase }, { on := 12, ground := Ground.phase }, { on := 13, ground := Ground.phase }, { on := 14, ground := Ground.phase }, { on := 15, ground := Ground.phase }, { on := 16, ground := Ground.phase }], guard := none }) (l2 := ([true, true, true, true, true, true, true, true, true, true, true, true, true, true, true, true, true, true, false, false] : List Bool).toArray) K2 rfl (by kernel_rfl) (by kernel_rfl) rfl rfl (want_none rfl) (leaves_value (v := .pointer (some ⟨q, 0, none⟩)) (w' := W6) K2 (fun ev E => by clear HH HB HD HSRC HOWN hN hP; have E26 := E.tmp 26 _ rfl; clear E; go_simp)) (fun v9' W9 hR => ?_)
  obtain ⟨rfl, hWW⟩ := hR
  rw [hWW]
  clear hWW
  refine ⟨fun _ => cz, fun a3 K3 => ?_⟩
  clear K2
  refine uone (i := 18) (o := { dst := (some 44), op := (Op.fieldAddr 64 (Operand.tmp 43) 1), type := 0, pos := "ref.go:106", after := #[{ on := 17, ground := Ground.data }, { on := 0, ground := Ground.phase }, { on := 1, ground := Ground.phase }, { on := 2, ground := Ground.phase }, { on := 3, ground := Ground.phase }, { on := 4, ground := Ground.phase }, { on := 5, ground := Ground.phase }, { on := 6, ground := Ground.phase }, { on := 7, ground := Ground.phase }, { on := 8, ground := Ground.phase }, { on := 9, ground := Ground.phase }, { on := 10, ground := Ground.phase }, { on := 11, ground := Ground.phase }, { on := 12, ground := Ground.phase }, { on := 13, ground := Ground.phase }, { on := 14, ground := Ground.phase }, { on := 15, ground := Ground.phase }, { on := 16, ground := Ground.phase }], guard := none }) (l2 := ([true, true, true, true, true, true, true, true, true, true, true, true, true, true, true, true, true, true, true, false] : List Bool).toArray) K3 rfl (by kernel_rfl) (by kernel_rfl) rfl rfl (want_none rfl) (leaves_value (v := .pointer (some ⟨q, 1, none⟩)) (w' := W6) K3 (fun ev E => by clear HH HB HD HSRC HOWN hN hP; have E43 := E.tmp 43 _ rfl; clear E; go_simp)) (fun v9' W9 hR => ?_)
  obtain ⟨rfl, hWW⟩ := hR
  rw [hWW]
  clear hWW
  refine ⟨fun _ => cz, fun a4 K4 => ?_⟩
  clear K3
  refine ustore (R := fun _ _ => True) (i := 19) (o := { dst := none, op := (Op.store 62 (Operand.tmp 44) (Operand.tmp 42)), type := 0, pos := "ref.go:106", after := #[{ on := 18, ground := Ground.data }, { on := 16, ground := Ground.data }, { on := 16, ground := Ground.chain }, { on := 0, ground := Ground.phase }, { on := 1, ground := Ground.phase }, { on := 2, ground := Ground.phase }, { on := 3, ground := Ground.phase }, { on := 4, ground := Ground.phase }, { on := 5, ground := Ground.phase }, { on := 6, ground := Ground.phase }, { on := 7, ground := Ground.phase }, { on := 8, ground := Ground.phase }, { on := 9, ground := Ground.phase }, { on := 10, ground := Ground.phase }, { on := 11, ground := Ground.phase }, { on := 12, ground := Ground.phase }, { on := 13, ground := Ground.phase }, { on := 14, ground := Ground.phase }, { on := 15, ground := Ground.phase }, { on := 16, ground := Ground.phase }], guard := none }) (w' := W6.setCell ⟨q, 1, none⟩ (.slice x7 (L.length + 2) cap7)) (l2 := ([true, true, true, true, true, true, true, true, true, true, true, true, true, true, true, true, true, true, true, true] : List Bool).toArray) K4 rfl (by kernel_rfl) (by kernel_rfl) rfl (want_none rfl) (fun ev E => ?_) (fun hx => absurd hx (by decide)) ?_
  · clear HH HB HD HSRC HOWN hN hP; have EC := E.const; have E42 := E.tmp 42 _ rfl; have E44 := E.tmp 44 _ rfl; clear E; go_simp
  refine till_done (by kernel_rfl) ?_ _
  exact hN _ _ _ (K4.less trivial) (unhide hP)
set_option maxHeartbeats 4000000 in
theorem rg18_6 {q bw n kk : Nat} {vL u : Value} {hs : List Value} {L : List (List Nat)} {l : List Nat} {fw : Nat → Int} {NX : Act → World → Prop} {a0 : Act} {w : World} (K0 : Kb a0 45 [(0, .pointer (some ⟨q, 0, none⟩)), (6, .int .i64 (kk : Int)), (7, u)]) (h : RIn w q vL bw n hs L fw) (hu : Hd w u l) (hk0 : 0 < kk) (hkl : kk < l.length) (hll : l.length ≤ 4194304) (hl : L.length ≤ 4194303)
    (hN : ∀ a' v9 v14 v' w', Kb a' 45 [] → Pu w w' q bw n vL v' (hs ++ [v9, v14]) (L ++ [l.take kk, l.drop kk]) fw → (∀ b ∈ own v9, w.heap.size ≤ b) → (∀ b ∈ own v14, w.heap.size ≤ b) → NX a' w') :
    (Code.region 6 OPS18_6.toArray true).wp Try.prog (Norm NX) a0 w := by
  obtain ⟨i3, hi3, hz3, hy3, hb3⟩ := info3
  have hq := @norm_q NX
  obtain ⟨_, c1, _, _⟩ := h.cells
  have hq0 := (Array.getElem?_eq_some_iff.1 h.blk).1
  obtain ⟨u1, r1, s1, t1⟩ := rc_lo elem61 size61 hu.rc (k := kk) (by omega)
  obtain ⟨u2, r2, s2, t2⟩ := rc_hi elem61 size61 hu.rc (k := kk) (by omega) (kk : Int) rfl
  rw [ivs_take] at s1
  rw [ivs_drop] at s2
  have hn1 : l.take kk ≠ [] := fun hx => by have := congrArg List.length hx; rw [List.length_take, List.length_nil] at this; omega
  have hn2 : l.drop kk ≠ [] := fun hx => by have := congrArg List.length hx; rw [List.length_drop, List.length_nil] at this; omega
  have hul := hu.lt
  have keep : ∀ W, Below w.heap.size w W → (fun w' : World => w'.cell? ⟨q, 1, none⟩ = some vL) W := fun W hb => by
    show _ = _
    rw [hb.cell (p := ⟨q, 1, none⟩) hq0]; exact c1
  have b0 : Below w.heap.size w w.drew := (Below.refl _ _).drew
  have hS : (fun w' : World => w'.cell? ⟨q, 1, none⟩ = some vL) w.drew := keep _ b0
  have KP := hide (And.intro keep (And.intro (fun W (hb : Below w.heap.size w W) => (Src.keep s1 (Keep.ofBelow hb []) (fun k hk => ⟨hul k (t1 k hk), by simp⟩) : Src W u1 kk (ivs (l.take kk)))) (fun W (hb : Below w.heap.size w W) => (Src.keep s2 (Keep.ofBelow hb []) (fun k hk => ⟨hul k (t2 k hk), by simp⟩) : Src W u2 (l.length - kk) (ivs (l.drop kk))))))
  have HF := hide (And.intro h (And.intro hn1 hn2))
  clear keep h hu s1 s2 t1 t2 hul c1
  refine wp_region_till (t := 19) (S := (fun w' : World => w'.cell? ⟨q, 1, none⟩ = some vL)) (by kernel_rfl) ?_
  rw [show (OPS18_6.toArray).size = 20 from by kernel_rfl, show Array.replicate 20 false = ([false, false, false, false, false, false, false, false, false, false, false, false, false, false, false, false, false, false, false, false] : List Bool).toArray from by kernel_rfl]
  refine utake (i := 0) (o := { dst := (some 26), op := (Op.move (Operand.tmp 0)), type := 25, pos := "ref.go:106", after := #[], guard := none }) (v := .pointer (some ⟨q, 0, none⟩)) (l2 := ([true, false, false, false, false, false, false, false, false, false, false, false, false, false, false, false, false, false, false, false] : List Bool).toArray) K0 hq rfl NS18_6 (by kernel_rfl) (by kernel_rfl) (by kernel_rfl) (by kernel_rfl) (by kernel_rfl) rfl rfl (want_none rfl) (fun ev E w9 hSw => ?_) hS (fun a1 K1 => ?_)
  · clear hSw; clear KP HF hN hq hS; have EC := E.const; have E0 := E.tmp 0 _ rfl; clear E; go_simp
  refine utake (i := 1) (o := { dst := (some 27), op := (Op.move (Operand.tmp 0)), type := 25, pos := "ref.go:106", after := #[], guard := none }) (v := .pointer (some ⟨q, 0, none⟩)) (l2 := ([true, true, false, false, false, false, false, false, false, false, false, false, false, false, false, false, false, false, false, false] : List Bool).toArray) K1 hq rfl NS18_6 (by kernel_rfl) (by kernel_rfl) (by kernel_rfl) (by kernel_rfl) (by kernel_rfl) rfl rfl (want_none rfl) (fun ev E w9 hSw => ?_) hS (fun a2 K2 => ?_)
  · clear hSw; clear KP HF hN hq hS; have EC := E.const; have E0 := E.tmp 0 _ rfl; clear E; go_simp
  clear K1
  refine utake (i := 2) (o := { dst := (some 28), op := (Op.nilCheck (Operand.tmp 27)), type := 0, pos := "ref.go:106", after := #[{ on := 1, ground := Ground.data }], guard := none }) (v := .pointer (some ⟨q, 0, none⟩)) (l2 := ([true, true, true, false, false, false, false, false, false, false, false, false, false, false, false, false, false, false, false, false] : List Bool).toArray) K2 hq rfl NS18_6 (by kernel_rfl) (by kernel_rfl) (by kernel_rfl) (by kernel_rfl) (by kernel_rfl) rfl rfl (want_none rfl) (fun ev E w9 hSw => ?_) hS (fun a3 K3 => ?_)
  · clear hSw; clear KP HF hN hq hS; have EC := E.const; have E27 := E.tmp 27 _ rfl; clear E; go_simp
  clear K2
  refine utake (i := 3) (o := { dst := (some 29), op := (Op.fieldAddr 64 (Operand.tmp 28) 1), type := 0, pos := "ref.go:106", after := #[{ on := 2, ground := Ground.data }], guard := none }) (v := .pointer (some ⟨q, 1, none⟩)) (l2 := ([true, true, true, true, false, false, false, false, false, false, false, false, false, false, false, false, false, false, false, false] : List Bool).toArray) K3 hq rfl NS18_6 (by kernel_rfl) (by kernel_rfl) (by kernel_rfl) (by kernel_rfl) (by kernel_rfl) rfl rfl (want_none rfl) (fun ev E w9 hSw => ?_) hS (fun a4 K4 => ?_)
  · clear hSw; clear KP HF hN hq hS; have EC := E.const; have E28 := E.tmp 28 _ rfl; clear E; go_simp
  clear K3
  refine utake (i := 4) (o := { dst := (some 30), op := (Op.load 62 (Operand.tmp 29)), type := 62, pos := "ref.go:106", after := #[{ on := 3, ground := Ground.data }], guard := none }) (v := vL) (l2 := ([true, true, true, true, true, false, false, false, false, false, false, false, false, false, false, false, false, false, false, false] : List Bool).toArray) K4 hq rfl NS18_6 (by kernel_rfl) (by kernel_rfl) (by kernel_rfl) (by kernel_rfl) (by kernel_rfl) rfl rfl (want_none rfl) (fun ev E w9 hSw => ?_) hS (fun a5 K5 => ?_)
  · obtain y1 := hSw; clear KP HF hN hq hS; have EC := E.const; have E29 := E.tmp 29 _ rfl; clear E; go_simp
  clear K4
  refine utake (i := 6) (o := { dst := (some 32), op := (Op.move (Operand.tmp 7)), type := 61, pos := "ref.go:106", after := #[], guard := none }) (v := u) (l2 := ([true, true, true, true, true, false, true, false, false, false, false, false, false, false, false, false, false, false, false, false] : List Bool).toArray) K5 hq rfl NS18_6 (by kernel_rfl) (by kernel_rfl) (by kernel_rfl) (by kernel_rfl) (by kernel_rfl) rfl rfl (want_none rfl) (fun ev E w9 hSw => ?_) hS (fun a6 K6 => ?_)
  · clear hSw; clear KP HF hN hq hS; have EC := E.const; have E7 := E.tmp 7 _ rfl; clear E; go_simp
  clear K5
  refine utake (i := 7) (o := { dst := (some 33), op := (Op.move (Operand.tmp 6)), type := 3, pos := "ref.go:106", after := #[], guard := none }) (v := .int .i64 (kk : Int)) (l2 := ([true, true, true, true, true, false, true, true, false, false, false, false, false, false, false, false, false, false, false, false] : List Bool).toArray) K6 hq rfl NS18_6 (by kernel_rfl) (by kernel_rfl) (by kernel_rfl) (by kernel_rfl) (by kernel_rfl) rfl rfl (want_none rfl) (fun ev E w9 hSw => ?_) hS (fun a7 K7 => ?_)
  · clear hSw; clear KP HF hN hq hS; have EC := E.const; have E6 := E.tmp 6 _ rfl; clear E; go_simp
  clear K6
  refine utake (i := 8) (o := { dst := (some 34), op := (Op.slice 61 (Operand.tmp 32) none (some (Operand.tmp 33)) none), type := 61, pos := "ref.go:106", after := #[{ on := 6, ground := Ground.data }, { on := 7, ground := Ground.data }], guard := none }) (v := u1) (l2 := ([true, true, true, true, true, false, true, true, true, false, false, false, false, false, false, false, false, false, false, false] : List Bool).toArray) K7 hq rfl NS18_6 (by kernel_rfl) (by kernel_rfl) (by kernel_rfl) (by kernel_rfl) (by kernel_rfl) rfl rfl (want_none rfl) (fun ev E w9 hSw => ?_) hS (fun a8 K8 => ?_)
  · clear hSw; clear KP HF hN hq hS; have EC := E.const; have E32 := E.tmp 32 _ rfl; have E33 := E.tmp 33 _ rfl; clear E; go_simp
  clear K7
  refine utake (i := 11) (o := { dst := (some 37), op := (Op.move (Operand.tmp 7)), type := 61, pos := "ref.go:106", after := #[], guard := none }) (v := u) (l2 := ([true, true, true, true, true, false, true, true, true, false, false, true, false, false, false, false, false, false, false, false] : List Bool).toArray) K8 hq rfl NS18_6 (by kernel_rfl) (by kernel_rfl) (by kernel_rfl) (by kernel_rfl) (by kernel_rfl) rfl rfl (want_none rfl) (fun ev E w9 hSw => ?_) hS (fun a9 K9 => ?_)
  · clear hSw; clear KP HF hN hq hS; have EC := E.const; have E7 := E.tmp 7 _ rfl; clear E; go_simp
  clear K8
  refine utake (i := 12) (o := { dst := (some 38), op := (Op.move (Operand.tmp 6)), type := 3, pos := "ref.go:106", after := #[], guard := none }) (v := .int .i64 (kk : Int)) (l2 := ([true, true, true, true, true, false, true, true, true, false, false, true, true, false, false, false, false, false, false, false] : List Bool).toArray) K9 hq rfl NS18_6 (by kernel_rfl) (by kernel_rfl) (by kernel_rfl) (by kernel_rfl) (by kernel_rfl) rfl rfl (want_none rfl) (fun ev E w9 hSw => ?_) hS (fun a10 K10 => ?_)
  · clear hSw; clear KP HF hN hq hS; have EC := E.const; have E6 := E.tmp 6 _ rfl; clear E; go_simp
  clear K9
  refine utake (i := 13) (o := { dst := (some 39), op := (Op.slice 61 (Operand.tmp 37) (some (Operand.tmp 38)) none none), type := 61, pos := "ref.go:106", after := #[{ on := 11, ground := Ground.data }, { on := 12, ground := Ground.data }], guard := none }) (v := u2) (l2 := ([true, true, true, true, true, false, true, true, true, false, false, true, true, true, false, false, false, false, false, false] : List Bool).toArray) K10 hq rfl NS18_6 (by kernel_rfl) (by kernel_rfl) (by kernel_rfl) (by kernel_rfl) (by kernel_rfl) rfl rfl (want_none rfl) (fun ev E w9 hSw => ?_) hS (fun a11 K11 => ?_)
  · clear hSw; clear KP HF hN hq hS; have EC := E.const; have E37 := E.tmp 37 _ rfl; have E38 := E.tmp 38 _ rfl; clear E; go_simp
  clear K10
  refine utwo (i := 5) (j := 10) (o := { dst := (some 31), op := (Op.buildSlice 61 0 #[]), type := 61, pos := "ref.go:106", after := #[], guard := none }) (o' := { dst := (some 36), op := (Op.buildSlice 61 0 #[]), type := 61, pos := "ref.go:106", after := #[], guard := none }) (l2 := ([true, true, true, true, true, true, true, true, true, false, false, true, true, true, false, false, false, false, false, false] : List Bool).toArray) (l3 := ([true, true, true, true, true, false, true, true, true, false, true, true, true, true, false, false, false, false, false, false] : List Bool).toArray) K11 rfl rfl (by kernel_rfl) (by kernel_rfl) (by kernel_rfl) rfl rfl rfl rfl (want_none rfl) (want_none rfl) (leaves_value (v := .slice (some ⟨w.drew.heap.size, 0, none⟩) 0 0) (w' := w.drew.alloc (.cells #[] 3)) K11 (fun ev E => by clear KP HF hN hq hS; have EC := E.const; clear E; go_simp)) (leaves_value (v := .slice (some ⟨w.drew.heap.size, 0, none⟩) 0 0) (w' := w.drew.alloc (.cells #[] 3)) K11 (fun ev E => by clear KP HF hN hq hS; have EC := E.const; clear E; go_simp)) (fun vA WA hR => ?_) (fun vA WA hR => ?_)
  · obtain ⟨rfl, hW⟩ := hR
    have b1 : Below w.heap.size w WA := by rw [hW]; exact b0.alloc (Nat.le_refl _) _
    have o5 : WA.ownsRow w.heap.size 3 1 (.slice (some ⟨w.heap.size, 0, none⟩) 0 0) 0 [] := by rw [hW]; exact empty_row w.drew 3
    have sz1 : WA.heap.size = w.heap.size + 1 := by rw [hW]; simp
    clear hW
    generalize WA = W1 at *
    have hS : (fun w' : World => w'.cell? ⟨q, 1, none⟩ = some vL) W1 := (unhide KP).1 _ b1
    refine ⟨fun _ => hS, fun a12 K12 => ?_⟩
    refine utwo (i := 9) (j := 10) (o := { dst := (some 35), op := (Op.call { callee := (Callee.builtin Builtin.append), args := #[(Operand.tmp 31), (Operand.tmp 34)], argTypes := #[61, 61] }), type := 61, pos := "ref.go:106", after := #[{ on := 5, ground := Ground.data }, { on := 8, ground := Ground.data }], guard := none }) (o' := { dst := (some 36), op := (Op.buildSlice 61 0 #[]), type := 61, pos := "ref.go:106", after := #[], guard := none }) (l2 := ([true, true, true, true, true, true, true, true, true, true, false, true, true, true, false, false, false, false, false, false] : List Bool).toArray) (l3 := ([true, true, true, true, true, true, true, true, true, false, true, true, true, true, false, false, false, false, false, false] : List Bool).toArray) K12 rfl rfl (by kernel_rfl) (by kernel_rfl) (by kernel_rfl) rfl rfl rfl rfl (want_none rfl) (want_none rfl) (leaves_append K12 31 34 61 rfl w.heap.size 3 i3 (.int .i64 0) 8 und61 hi3 hz3 hy3 hb3 rfl rfl o5 rfl ((unhide KP).2.1 _ b1) (ivs_one _) (by unfold maxLen; omega) (by omega) b1.size) (leaves_value (v := .slice (some ⟨W1.heap.size, 0, none⟩) 0 0) (w' := W1.alloc (.cells #[] 3)) K12 (fun ev E => by clear KP HF hN hq hS; have EC := E.const; clear E; go_simp)) (fun vA WA hR => ?_) (fun vA WA hR => ?_)
    · obtain ⟨o9, g9, _⟩ := hR
      have b2 := next_below b1 o5 g9
      generalize WA = W2 at *
      generalize vA = v9 at *
      have n9 := row_lt o9
      have ge9 := row_ge o9
      clear o5 g9
      have hS : (fun w' : World => w'.cell? ⟨q, 1, none⟩ = some vL) W2 := (unhide KP).1 _ b2
      refine ⟨fun _ => hS, fun a13 K13 => ?_⟩
      refine uone (i := 10) (o := { dst := (some 36), op := (Op.buildSlice 61 0 #[]), type := 61, pos := "ref.go:106", after := #[], guard := none }) (l2 := ([true, true, true, true, true, true, true, true, true, true, true, true, true, true, false, false, false, false, false, false] : List Bool).toArray) K13 rfl (by kernel_rfl) (by kernel_rfl) rfl rfl (want_none rfl) (leaves_value (v := .slice (some ⟨W2.heap.size, 0, none⟩) 0 0) (w' := W2.alloc (.cells #[] 3)) K13 (fun ev E => by clear KP HF hN hq hS; have EC := E.const; clear E; go_simp)) (fun v14 W3 hR => ?_)
      obtain ⟨rfl, hW⟩ := hR
      have b3 : Below w.heap.size w W3 := by rw [hW]; exact b2.alloc b2.size _
      have o10 : W3.ownsRow W2.heap.size 3 1 (.slice (some ⟨W2.heap.size, 0, none⟩) 0 0) 0 [] := by rw [hW]; exact empty_row W2 3
      have k3 : Keep [] W2 W3 := by rw [hW]; exact (Keep.refl [] W2).alloc _
      have o9 := row_keep o9 k3 (fun _ _ => by simp)
      have sz3 : W2.heap.size ≤ W3.heap.size := k3.size
      clear hW k3 hS
      have hS : (fun w' : World => w'.cell? ⟨q, 1, none⟩ = some vL) W3 := (unhide KP).1 _ b3
      refine ⟨fun _ => hS, fun a14 K14 => ?_⟩
      clear K13
      refine uone (i := 14) (o := { dst := (some 40), op := (Op.call { callee := (Callee.builtin Builtin.append), args := #[(Operand.tmp 36), (Operand.tmp 39)], argTypes := #[61, 61] }), type := 61, pos := "ref.go:106", after := #[{ on := 10, ground := Ground.data }, { on := 13, ground := Ground.data }, { on := 9, ground := Ground.chain }], guard := none }) (l2 := ([true, true, true, true, true, true, true, true, true, true, true, true, true, true, true, false, false, false, false, false] : List Bool).toArray) K14 rfl (by kernel_rfl) (by kernel_rfl) rfl rfl (want_none rfl) (leaves_append K14 36 39 61 rfl W2.heap.size 3 i3 (.int .i64 0) 8 und61 hi3 hz3 hy3 hb3 rfl rfl o10 rfl ((unhide KP).2.2 _ b3) (ivs_one _) (by unfold maxLen; omega) (by omega) sz3) (fun v15 W4 hR => ?_)
      obtain ⟨o14, g14, _⟩ := hR
      have b4 : Below w.heap.size w W4 := b3.grown g14 b3.size (fun k hk => by have := (o10.lt k hk).1; have := b2.size; omega)
      have o9 := row_keep o9 ((Keep.refl (own (.slice (some ⟨W2.heap.size, 0, none⟩) 0 0)) W3).grown g14 (fun k hk => .inl (mem_own.2 hk))) (fun k hk hm => by simp [own, Value.ownBlock] at hm; subst hm; have := n9 _ hk; omega)
      have ge14 : ∀ b ∈ own v15, w.heap.size ≤ b := fun b hb => by have := row_ge o14 b hb; have := b2.size; omega
      clear hS g14
      have hS : (fun w' : World => w'.cell? ⟨q, 1, none⟩ = some vL) W4 := (unhide KP).1 _ b4
      refine ⟨fun _ => hS, fun a15 K15 => ?_⟩
      clear K14
      exact rg18_t (K15.less ⟨rfl, rfl, rfl, rfl, trivial⟩) (unhide HF).1 b4 (hd_row (l := l.take kk) (by simpa using o9) (unhide HF).2.1) (hd_row (l := l.drop kk) (by simpa using o14) (unhide HF).2.2) ge9 ge14 hl (fun a' v' w' k1 k2 => hN a' _ _ v' w' k1 k2 ge9 ge14)
    · obtain ⟨rfl, hW⟩ := hR
      have b2 : Below w.heap.size w WA := by rw [hW]; exact b1.alloc b1.size _
      have k2 : Keep [] W1 WA := by rw [hW]; exact (Keep.refl [] W1).alloc _
      have o5 := row_keep o5 k2 (fun _ _ => by simp)
      have o10 : WA.ownsRow w.heap.size 3 1 (.slice (some ⟨W1.heap.size, 0, none⟩) 0 0) 0 [] := by
        have := empty_row W1 3
        rw [← hW] at this
        exact ⟨this.1, this.2.imp id (fun ⟨g, cap, cur, a, b, c⟩ => ⟨g, cap, cur, a, by have := b1.size; omega, c⟩)⟩
      have sz2 : WA.heap.size = W1.heap.size + 1 := by rw [hW]; simp
      clear hW k2
      generalize WA = W2 at *
      have hS : (fun w' : World => w'.cell? ⟨q, 1, none⟩ = some vL) W2 := (unhide KP).1 _ b2
      refine ⟨fun _ => hS, fun a13 K13 => ?_⟩
      refine uone (i := 9) (o := { dst := (some 35), op := (Op.call { callee := (Callee.builtin Builtin.append), args := #[(Operand.tmp 31), (Operand.tmp 34)], argTypes := #[61, 61] }), type := 61, pos := "ref.go:106", after := #[{ on := 5, ground := Ground.data }, { on := 8, ground := Ground.data }], guard := none }) (l2 := ([true, true, true, true, true, true, true, true, true, true, true, true, true, true, false, false, false, false, false, false] : List Bool).toArray) K13 rfl (by kernel_rfl) (by kernel_rfl) rfl rfl (want_none rfl) (leaves_append K13 31 34 61 rfl w.heap.size 3 i3 (.int .i64 0) 8 und61 hi3 hz3 hy3 hb3 rfl rfl o5 rfl ((unhide KP).2.1 _ b2) (ivs_one _) (by unfold maxLen; omega) (by omega) b2.size) (fun v14 W3 hR => ?_)
      obtain ⟨o9, g9, hat⟩ := hR
      have b3 := next_below b2 o5 g9
      have o10 := row_keep o10 ((Keep.refl (own (.slice (some ⟨w.heap.size, 0, none⟩) 0 0)) W2).grown g9 (fun k hk => .inl (mem_own.2 hk))) (fun k hk hm => by simp [own, Value.ownBlock] at hm hk; omega)
      have ge9 := row_ge o9
      have n9 : W1.heap.size ∉ own v14 := fun hm => by
        rw [mem_own] at hm
        rcases hat with e | e
        · rw [e] at hm; simp [Value.ownBlock] at hm; omega
        · rw [e] at hm; injection hm with hm; omega
      clear hS g9 hat
      have hS : (fun w' : World => w'.cell? ⟨q, 1, none⟩ = some vL) W3 := (unhide KP).1 _ b3
      refine ⟨fun _ => hS, fun a14 K14 => ?_⟩
      clear K13
      refine uone (i := 14) (o := { dst := (some 40), op := (Op.call { callee := (Callee.builtin Builtin.append), args := #[(Operand.tmp 36), (Operand.tmp 39)], argTypes := #[61, 61] }), type := 61, pos := "ref.go:106", after := #[{ on := 10, ground := Ground.data }, { on := 13, ground := Ground.data }, { on := 9, ground := Ground.chain }], guard := none }) (l2 := ([true, true, true, true, true, true, true, true, true, true, true, true, true, true, true, false, false, false, false, false] : List Bool).toArray) K14 rfl (by kernel_rfl) (by kernel_rfl) rfl rfl (want_none rfl) (leaves_append K14 36 39 61 rfl w.heap.size 3 i3 (.int .i64 0) 8 und61 hi3 hz3 hy3 hb3 rfl rfl o10 rfl ((unhide KP).2.2 _ b3) (ivs_one _) (by unfold maxLen; omega) (by omega) b3.size) (fun v15 W4 hR => ?_)
      obtain ⟨o14, g14, _⟩ := hR
      have b4 := next_below b3 o10 g14
      have o9 := row_keep o9 ((Keep.refl (own (.slice (some ⟨W1.heap.size, 0, none⟩) 0 0)) W3).grown g14 (fun k hk => .inl (mem_own.2 hk))) (fun k hk hm => by simp [own, Value.ownBlock] at hm; subst hm; exact n9 hk)
      have ge14 := row_ge o14
      clear hS g14
      have hS : (fun w' : World => w'.cell? ⟨q, 1, none⟩ = some vL) W4 := (unhide KP).1 _ b4
      refine ⟨fun _ => hS, fun a15 K15 => ?_⟩
      clear K14
      exact rg18_t (K15.less ⟨rfl, rfl, rfl, rfl, trivial⟩) (unhide HF).1 b4 (hd_row (l := l.take kk) (by simpa using o9) (unhide HF).2.1) (hd_row (l := l.drop kk) (by simpa using o14) (unhide HF).2.2) ge9 ge14 hl (fun a' v' w' k1 k2 => hN a' _ _ v' w' k1 k2 ge9 ge14)
  · obtain ⟨rfl, hW⟩ := hR
    have b1 : Below w.heap.size w WA := by rw [hW]; exact b0.alloc (Nat.le_refl _) _
    have o10 : WA.ownsRow w.heap.size 3 1 (.slice (some ⟨w.heap.size, 0, none⟩) 0 0) 0 [] := by rw [hW]; exact empty_row w.drew 3
    have sz1 : WA.heap.size = w.heap.size + 1 := by rw [hW]; simp
    clear hW
    generalize WA = W1 at *
    have hS : (fun w' : World => w'.cell? ⟨q, 1, none⟩ = some vL) W1 := (unhide KP).1 _ b1
    refine ⟨fun _ => hS, fun a12 K12 => ?_⟩
    refine uone (i := 5) (o := { dst := (some 31), op := (Op.buildSlice 61 0 #[]), type := 61, pos := "ref.go:106", after := #[], guard := none }) (l2 := ([true, true, true, true, true, true, true, true, true, false, true, true, true, true, false, false, false, false, false, false] : List Bool).toArray) K12 rfl (by kernel_rfl) (by kernel_rfl) rfl rfl (want_none rfl) (leaves_value (v := .slice (some ⟨W1.heap.size, 0, none⟩) 0 0) (w' := W1.alloc (.cells #[] 3)) K12 (fun ev E => by clear KP HF hN hq hS; have EC := E.const; clear E; go_simp)) (fun v13 W2 hR => ?_)
    obtain ⟨rfl, hW⟩ := hR
    have b2 : Below w.heap.size w W2 := by rw [hW]; exact b1.alloc b1.size _
    have k2 : Keep [] W1 W2 := by rw [hW]; exact (Keep.refl [] W1).alloc _
    have o10 := row_keep o10 k2 (fun _ _ => by simp)
    have o5 : W2.ownsRow w.heap.size 3 1 (.slice (some ⟨W1.heap.size, 0, none⟩) 0 0) 0 [] := by
      have := empty_row W1 3
      rw [← hW] at this
      exact ⟨this.1, this.2.imp id (fun ⟨g, cap, cur, a, b, c⟩ => ⟨g, cap, cur, a, by have := b1.size; omega, c⟩)⟩
    have sz2 : W2.heap.size = W1.heap.size + 1 := by rw [hW]; simp
    clear hW k2 hS
    have hS : (fun w' : World => w'.cell? ⟨q, 1, none⟩ = some vL) W2 := (unhide KP).1 _ b2
    refine ⟨fun _ => hS, fun a13 K13 => ?_⟩
    clear K12
    refine uone (i := 9) (o := { dst := (some 35), op := (Op.call { callee := (Callee.builtin Builtin.append), args := #[(Operand.tmp 31), (Operand.tmp 34)], argTypes := #[61, 61] }), type := 61, pos := "ref.go:106", after := #[{ on := 5, ground := Ground.data }, { on := 8, ground := Ground.data }], guard := none }) (l2 := ([true, true, true, true, true, true, true, true, true, true, true, true, true, true, false, false, false, false, false, false] : List Bool).toArray) K13 rfl (by kernel_rfl) (by kernel_rfl) rfl rfl (want_none rfl) (leaves_append K13 31 34 61 rfl w.heap.size 3 i3 (.int .i64 0) 8 und61 hi3 hz3 hy3 hb3 rfl rfl o5 rfl ((unhide KP).2.1 _ b2) (ivs_one _) (by unfold maxLen; omega) (by omega) b2.size) (fun v14 W3 hR => ?_)
    obtain ⟨o9, g9, hat⟩ := hR
    have b3 := next_below b2 o5 g9
    have o10 := row_keep o10 ((Keep.refl (own (.slice (some ⟨W1.heap.size, 0, none⟩) 0 0)) W2).grown g9 (fun k hk => .inl (mem_own.2 hk))) (fun k hk hm => by simp [own, Value.ownBlock] at hm hk; omega)
    have ge9 := row_ge o9
    have n9 : w.heap.size ∉ own v14 := fun hm => by
      rw [mem_own] at hm
      rcases hat with e | e
      · rw [e] at hm; simp [Value.ownBlock] at hm; omega
      · rw [e] at hm; injection hm with hm; omega
    clear hS g9 hat
    have hS : (fun w' : World => w'.cell? ⟨q, 1, none⟩ = some vL) W3 := (unhide KP).1 _ b3
    refine ⟨fun _ => hS, fun a14 K14 => ?_⟩
    clear K13
    refine uone (i := 14) (o := { dst := (some 40), op := (Op.call { callee := (Callee.builtin Builtin.append), args := #[(Operand.tmp 36), (Operand.tmp 39)], argTypes := #[61, 61] }), type := 61, pos := "ref.go:106", after := #[{ on := 10, ground := Ground.data }, { on := 13, ground := Ground.data }, { on := 9, ground := Ground.chain }], guard := none }) (l2 := ([true, true, true, true, true, true, true, true, true, true, true, true, true, true, true, false, false, false, false, false] : List Bool).toArray) K14 rfl (by kernel_rfl) (by kernel_rfl) rfl rfl (want_none rfl) (leaves_append K14 36 39 61 rfl w.heap.size 3 i3 (.int .i64 0) 8 und61 hi3 hz3 hy3 hb3 rfl rfl o10 rfl ((unhide KP).2.2 _ b3) (ivs_one _) (by unfold maxLen; omega) (by omega) b3.size) (fun v15 W4 hR => ?_)
    obtain ⟨o14, g14, _⟩ := hR
    have b4 := next_below b3 o10 g14
    have o9 := row_keep o9 ((Keep.refl (own (.slice (some ⟨w.heap.size, 0, none⟩) 0 0)) W3).grown g14 (fun k hk => .inl (mem_own.2 hk))) (fun k hk hm => by simp [own, Value.ownBlock] at hm; subst hm; exact n9 hk)
    have ge14 := row_ge o14
    clear hS g14
    have hS : (fun w' : World => w'.cell? ⟨q, 1, none⟩ = some vL) W4 := (unhide KP).1 _ b4
    refine ⟨fun _ => hS, fun a15 K15 => ?_⟩
    clear K14
    exact rg18_t (K15.less ⟨rfl, rfl, rfl, rfl, trivial⟩) (unhide HF).1 b4 (hd_row (l := l.take kk) (by simpa using o9) (unhide HF).2.1) (hd_row (l := l.drop kk) (by simpa using o14) (unhide HF).2.2) ge9 ge14 hl (fun a' v' w' k1 k2 => hN a' _ _ v' w' k1 k2 ge9 ge14)
section
variable {w w' : World} {q bw : Nat} {vL : Value} {hs : List Value} {fw : Nat → Int} {A : Se}
set_option maxHeartbeats 4000000 in
theorem rbefore_any (x : Int) (h : RA w q vL bw hs fw A) : Calls Try.prog 18 #[.pointer (some ⟨q, 0, none⟩), .int .i64 x] w fun e w' => e = .returned (.bool (A.beforeB x)) ∧ Ch w w' q bw vL hs (A.beforeA x) := by
  have h1 := hide (rpos_any x h)
  have HH := hide h
  have hLn := h.len
  clear h
  refine calls_of_wp Try.func18 rfl ?_
  have K0 : Kb { tmps := #[.pointer (some ⟨q, 0, none⟩), .int .i64 x] ++ Array.replicate (Try.f18.ntmps - (#[.pointer (some ⟨q, 0, none⟩), .int .i64 x] : Array Value).size) undef, defers := [] } 45 [(0, .pointer (some ⟨q, 0, none⟩)), (1, .int .i64 x)] :=
    Kb.of (by simp [Try.ntmps18]) rfl (by simp)
  generalize ({ tmps := #[.pointer (some ⟨q, 0, none⟩), .int .i64 x] ++ Array.replicate (Try.f18.ntmps - (#[.pointer (some ⟨q, 0, none⟩), .int .i64 x] : Array Value).size) undef, defers := [] } : Act) = a0 at K0 ⊢
  show CODE18.wp _ _ _ _
  refine seqN ?_
  refine wp_region_lit ?_
  refine ltake (v := Value.bool false) (w' := w) K0 rfl rfl (want_none rfl) (fun ev E => ?_) (fun a1 K1 => ?_)
  · have EC := E.const; clear E; clear HH; (try clear h1); go_simp
  refine wpList_nil ?_
  show Code.wp _ _ _ _ _
  refine seqN ?_
  refine wp_region_lit ?_
  refine ltake (v := .pointer (some ⟨q, 0, none⟩)) (w' := w) K1 rfl rfl (want_none rfl) (fun ev E => ?_) (fun a2 K2 => ?_)
  · have EC := E.const; have E0 := E.tmp 0 _ rfl; clear E; clear HH; (try clear h1); go_simp
  clear K1
  refine ltake (v := .int .i64 x) (w' := w) K2 rfl rfl (want_none rfl) (fun ev E => ?_) (fun a3 K3 => ?_)
  · have EC := E.const; have E1 := E.tmp 1 _ rfl; clear E; clear HH; (try clear h1); go_simp
  clear K2
  refine lcall (f := 48) (args := #[.pointer (some ⟨q, 0, none⟩), .int .i64 x]) K3 rfl rfl (want_none rfl) (fun ev E => ?_) (unhide h1) (fun e w1 hR => ?_)
  · have EC := E.const; have EF := E.func; have E9 := E.tmp 9 _ rfl; have E10 := E.tmp 10 _ rfl; clear E; clear HH; (try clear h1); go_simp
  obtain ⟨⟨i, k, hp, rfl⟩, hw1⟩ := hR
  rw [← hw1]
  clear hw1
  have HP := hide hp
  clear hp h1
  refine ⟨_, rfl, fun a4 K4 => ?_⟩
  clear K3
  refine ltake (v := .tuple #[.int .i64 i, .int .i64 k]) (w' := w) K4 rfl rfl (want_none rfl) (fun ev E => ?_) (fun a5 K5 => ?_)
  · have EC := E.const; have E11 := E.tmp 11 _ rfl; clear E; clear HH; (try clear HP); go_simp
  clear K4
  refine ltake (v := .int .i64 i) (w' := w) K5 rfl rfl (want_none rfl) (fun ev E => ?_) (fun a6 K6 => ?_)
  · have EC := E.const; have E8 := E.tmp 8 _ rfl; clear E; clear HH; (try clear HP); go_simp
  clear K5
  refine ltake (v := .int .i64 k) (w' := w) K6 rfl rfl (want_none rfl) (fun ev E => ?_) (fun a7 K7 => ?_)
  · have EC := E.const; have E8 := E.tmp 8 _ rfl; clear E; clear HH; (try clear HP); go_simp
  clear K6
  refine ltake (v := .int .i64 i) (w' := w) K7 rfl rfl (want_none rfl) (fun ev E => ?_) (fun a8 K8 => ?_)
  · have EC := E.const; have E12 := E.tmp 12 _ rfl; clear E; clear HH; (try clear HP); go_simp
  clear K7
  refine ltake (v := .int .i64 k) (w' := w) K8 rfl rfl (want_none rfl) (fun ev E => ?_) (fun a9 K9 => ?_)
  · have EC := E.const; have E13 := E.tmp 13 _ rfl; clear E; clear HH; (try clear HP); go_simp
  clear K8
  refine wpList_nil ?_
  show Code.wp _ _ _ _ _
  have K10 : Kb _ 45 [(0, .pointer (some ⟨q, 0, none⟩)), (5, .int .i64 i), (6, .int .i64 k)] := K9.less ⟨rfl, rfl, rfl, trivial⟩
  clear K9
  rcases pos_facts (unhide HH).nd (unhide HP) with ⟨f1, v, ii, kk, rfl, rfl, rfl, hi, hs1, hk, f2, f3, f4⟩ | ⟨f1, rfl, rfl⟩
  · by_cases hk0 : kk = 0
    · subst hk0
      have FB : Hid (A.beforeB (v : Int) = false) := by show _ = _; rw [Se.beforeB, f2]; simp
      clear f1 f2 f3 f4 hs1 hk HP hi
      refine wp_seq (seqN ?_)
      refine wp_region_lit ?_
      refine ltake (v := .int .i64 ((0 : Nat) : Int)) (w' := w) K10 rfl rfl (want_none rfl) (fun ev E => ?_) (fun a11 K11 => ?_)
      · have EC := E.const; have E6 := E.tmp 6 _ rfl; clear E; clear HH; (try clear FB); go_simp
      clear K10
      refine ltake (v := .bool true) (w' := w) K11 rfl rfl (want_none rfl) (fun ev E => ?_) (fun a12 K12 => ?_)
      · have EC := E.const; have E14 := E.tmp 14 _ rfl; clear E; clear HH; (try clear FB); go_simp
      clear K11
      refine wpList_nil ?_
      show Code.wp _ _ _ _ _
      refine knCond (b := true) K12 rfl ?_
      refine seqN ?_
      refine wp_region_lit ?_
      refine ltake (v := Value.bool false) (w' := w) K12 rfl rfl (want_none rfl) (fun ev E => ?_) (fun a13 K13 => ?_)
      · have EC := E.const; clear E; clear HH; (try clear FB); go_simp
      clear K12
      refine wpList_nil ?_
      refine wp_ret ?_
      refine thenRet ?_
      refine bodyPost_ret (v := .bool false) ?_ K13.defers ⟨?_, ?_⟩
      · have e4 := K13.has 4 _ rfl
        simp [results, Try.results18, go_sem, e4]
      · rw [unhide FB]
      · have := unhide FB; rw [Se.beforeA, this]; exact (unhide HH).ch
    · have e1 : ¬ (kk : Int) ≤ 0 := by omega
      have FB : Hid (A.beforeB (v : Int) = true ∧ A.beforeA (v : Int) = { A with L := A.L.erase (A.L.getD ii []) ++ [(A.L.getD ii []).take kk, (A.L.getD ii []).drop kk] }) := by
        have hb : A.beforeB (v : Int) = true := by rw [Se.beforeB, f2]; simp; omega
        exact ⟨hb, by rw [Se.beforeA, if_pos hb, hs1, f2, Int.toNat_natCast]⟩
      rw [← hs1] at hk
      clear f1 f2 f3 f4 hs1 HP
      refine wp_seq (seqN ?_)
      refine wp_region_lit ?_
      refine ltake (v := .int .i64 (kk : Int)) (w' := w) K10 rfl rfl (want_none rfl) (fun ev E => ?_) (fun a11 K11 => ?_)
      · have EC := E.const; have E6 := E.tmp 6 _ rfl; clear E; clear HH; (try clear FB); go_simp
      clear K10
      refine ltake (v := .bool false) (w' := w) K11 rfl rfl (want_none rfl) (fun ev E => ?_) (fun a12 K12 => ?_)
      · have EC := E.const; have E14 := E.tmp 14 _ rfl; clear E; clear HH; (try clear FB); go_simp
      clear K11
      refine wpList_nil ?_
      show Code.wp _ _ _ _ _
      refine knCond (b := false) K12 rfl (wp_skip ?_)
      show Code.wp _ _ _ _ _
      have hA := unhide HH
      obtain ⟨c0, c1, c2, _⟩ := hA.rin.cells
      obtain ⟨xo, cap, hvL, k1, k2, k3⟩ := hA.rin.outer
      obtain ⟨gg, hxo, hg, hc⟩ := k3 (by omega)
      have hu := hA.rin.hd ii hi
      have d1 := hc ii hi
      have hul := hu.lt
      have hq0 : q < w.heap.size := blk_lt hA.rin.blk
      have hbw0 : bw < w.heap.size := hA.rin.rw.lt
      have hapart := fun b hb => hA.rin.n4 (hs.getD ii undef) (by
        have hi' : ii < hs.length := by rw [hA.rin.hl]; exact hi
        rw [List.getD_eq_getElem?_getD, List.getElem?_eq_getElem hi']; exact List.getElem_mem hi') b hb
      rw [hvL, hxo] at c1
      generalize hs.getD ii undef = u at *
      clear hc k3
      have e2 : (0 : Int) ≤ (ii : Int) := by omega
      have e3 : (ii : Int) < (A.L.length : Int) := by omega
      unfold maxLen at k2
      refine seqN ?_
      refine wp_region_lit ?_
      refine ltake (v := .pointer (some ⟨q, 0, none⟩)) (w' := w) K12 rfl rfl (want_none rfl) (fun ev E => ?_) (fun a13 K13 => ?_)
      · have EC := E.const; have E0 := E.tmp 0 _ rfl; clear E; clear HH FB hA hu hapart; go_simp
      clear K12
      refine ltake (v := .pointer (some ⟨q, 0, none⟩)) (w' := w) K13 rfl rfl (want_none rfl) (fun ev E => ?_) (fun a14 K14 => ?_)
      · have EC := E.const; have E16 := E.tmp 16 _ rfl; clear E; clear HH FB hA hu hapart; go_simp
      clear K13
      refine ltake (v := .pointer (some ⟨q, 1, none⟩)) (w' := w) K14 rfl rfl (want_none rfl) (fun ev E => ?_) (fun a15 K15 => ?_)
      · have EC := E.const; have E17 := E.tmp 17 _ rfl; clear E; clear HH FB hA hu hapart; go_simp
      clear K14
      refine ltake (v := .slice (some ⟨gg, 0, none⟩) A.L.length cap) (w' := w) K15 rfl rfl (want_none rfl) (fun ev E => ?_) (fun a16 K16 => ?_)
      · have EC := E.const; have E18 := E.tmp 18 _ rfl; clear E; clear HH FB hA hu hapart; go_simp
      clear K15
      refine ltake (v := .int .i64 (ii : Int)) (w' := w) K16 rfl rfl (want_none rfl) (fun ev E => ?_) (fun a17 K17 => ?_)
      · have EC := E.const; have E5 := E.tmp 5 _ rfl; clear E; clear HH FB hA hu hapart; go_simp
      clear K16
      refine ltake (v := .pointer (some ⟨gg, ii, none⟩)) (w' := w) K17 rfl rfl (want_none rfl) (fun ev E => ?_) (fun a18 K18 => ?_)
      · have EC := E.const; have E19 := E.tmp 19 _ rfl; have E20 := E.tmp 20 _ rfl; clear E; clear HH FB hA hu hapart; go_simp
      clear K17
      refine ltake (v := u) (w' := w) K18 rfl rfl (want_none rfl) (fun ev E => ?_) (fun a19 K19 => ?_)
      · have EC := E.const; have E21 := E.tmp 21 _ rfl; clear E; clear HH FB hA hu hapart; go_simp
      clear K18
      refine ltake (v := u) (w' := w) K19 rfl rfl (want_none rfl) (fun ev E => ?_) (fun a20 K20 => ?_)
      · have EC := E.const; have E22 := E.tmp 22 _ rfl; clear E; clear HH FB hA hu hapart; go_simp
      clear K19
      refine wpList_nil ?_
      show Code.wp _ _ _ _ _
      refine seqN ?_
      refine wp_region_lit ?_
      refine ltake (v := .pointer (some ⟨q, 0, none⟩)) (w' := w) K20 rfl rfl (want_none rfl) (fun ev E => ?_) (fun a21 K21 => ?_)
      · have EC := E.const; have E0 := E.tmp 0 _ rfl; clear E; clear HH FB hA hu hapart; go_simp
      clear K20
      refine ltake (v := .int .i64 (ii : Int)) (w' := w) K21 rfl rfl (want_none rfl) (fun ev E => ?_) (fun a22 K22 => ?_)
      · have EC := E.const; have E5 := E.tmp 5 _ rfl; clear E; clear HH FB hA hu hapart; go_simp
      clear K21
      refine lcall (f := 49) (args := #[.pointer (some ⟨q, 0, none⟩), .int .i64 (ii : Int)]) K22 rfl rfl (want_none rfl) (fun ev E => ?_) (rwithout_any ii w q bw A.n vL hs A.L fw hA.rin hi hLn) (fun e W5 hR => ?_)
      · have EC := E.const; have EF := E.func; have E23 := E.tmp 23 _ rfl; have E24 := E.tmp 24 _ rfl; clear E; clear HH FB hA hu hapart; go_simp
      obtain ⟨rfl, vL5, r5, k5, n5⟩ := hR
      have hu5 := hu.keep k5 (fun k hk hm => by simp at hm; subst hm; exact (hapart k hk).1 rfl)
      have s5 := k5.size
      refine ⟨_, rfl, fun a23 K23 => ?_⟩
      clear K22
      refine wpList_nil ?_
      show Code.wp _ _ _ _ _
      have K24 : Kb _ 45 [(0, .pointer (some ⟨q, 0, none⟩)), (6, .int .i64 (kk : Int)), (7, u)] := K23.less ⟨rfl, rfl, rfl, trivial⟩
      clear K23
      have hll := hA.lenl _ (getD_mem hi)
      refine seqN (rg18_6 K24 r5 hu5 (by omega) (by omega) hll (by simp; omega) (fun a6 v9 v14 v6 W6 K6 hP h9 h14 => ?_))
      have e7 := hA.erase hi
      refine seqN ?_
      refine wp_region_lit ?_
      refine ltake (v := Value.bool true) (w' := W6) K6 rfl rfl (want_none rfl) (fun ev E => ?_) (fun a25 K25 => ?_)
      · have EC := E.const; clear E; go_simp
      clear K6
      refine wpList_nil ?_
      refine wp_ret ?_
      refine bodyPost_ret (v := .bool true) ?_ K25.defers ⟨?_, ?_⟩
      · have e4 := K25.has 4 _ rfl
        simp [results, Try.results18, go_sem, e4]
      · rw [(unhide FB).1]
      · rw [(unhide FB).2]
        have hr := hP.rin
        rw [← e7] at hr
        refine ⟨⟨v6, _, fw, hA.perm hr (cut_perm (getD_mem hi) kk) (fun l hl => ?_), fun k hk => ?_, fun u hu => ?_⟩, ?_⟩
        · rcases List.mem_append.1 hl with hl | hl
          · exact hA.ne l (List.mem_of_mem_erase hl)
          · simp only [List.mem_cons, List.not_mem_nil, or_false] at hl
            rcases hl with rfl | rfl
            · intro hx; have := congrArg List.length hx; rw [List.length_take, List.length_nil] at this; omega
            · intro hx; have := congrArg List.length hx; rw [List.length_drop, List.length_nil] at this; omega
        · right
          rcases hP.gr k hk with h8 | h8
          · exact n5 k h8
          · omega
        · rcases List.mem_append.1 hu with hu | hu
          · exact .inl (mem_cut hu)
          · simp only [List.mem_cons, List.not_mem_nil, or_false] at hu
            rcases hu with rfl | rfl
            · exact .inr (fun b hb => by have := h9 b hb; omega)
            · exact .inr (fun b hb => by have := h14 b hb; omega)
        · have K3 : Keep (q :: bw :: own vL) w W5 := k5.mono (fun k hk => .inl (by simp at hk; simp [hk]))
          refine K3.trans hP.kp (fun i hi => ?_)
          rcases List.mem_cons.1 hi with rfl | hi
          · exact .inl (by simp)
          · exact .inr (n5 i hi)
  · have FB : Hid (A.beforeB x = false) := by show _ = _; rw [Se.beforeB, Se.rankI, f1]; rfl
    clear f1 HP
    refine wp_seq (seqN ?_)
    refine wp_region_lit ?_
    refine ltake (v := .int .i64 (-1)) (w' := w) K10 rfl rfl (want_none rfl) (fun ev E => ?_) (fun a11 K11 => ?_)
    · have EC := E.const; have E6 := E.tmp 6 _ rfl; clear E; clear HH; (try clear FB); go_simp
    clear K10
    refine ltake (v := .bool true) (w' := w) K11 rfl rfl (want_none rfl) (fun ev E => ?_) (fun a12 K12 => ?_)
    · have EC := E.const; have E14 := E.tmp 14 _ rfl; clear E; clear HH; (try clear FB); go_simp
    clear K11
    refine wpList_nil ?_
    show Code.wp _ _ _ _ _
    refine knCond (b := true) K12 rfl ?_
    refine seqN ?_
    refine wp_region_lit ?_
    refine ltake (v := Value.bool false) (w' := w) K12 rfl rfl (want_none rfl) (fun ev E => ?_) (fun a13 K13 => ?_)
    · have EC := E.const; clear E; clear HH; (try clear FB); go_simp
    clear K12
    refine wpList_nil ?_
    refine wp_ret ?_
    refine thenRet ?_
    refine bodyPost_ret (v := .bool false) ?_ K13.defers ⟨?_, ?_⟩
    · have e4 := K13.has 4 _ rfl
      simp [results, Try.results18, go_sem, e4]
    · rw [unhide FB]
    · have := unhide FB; rw [Se.beforeA, this]; exact (unhide HH).ch
end
end Go.Proofs.Ytbkneonbpcmepaa
/- One pool of a law's own, beside blocks that it does not touch; the document's examples. -/

namespace Go.Proofs.Ytbkneonbpcmepaa
open Go.RowKit Go.Arb
set_option linter.unusedVariables false
set_option linter.unusedSimpArgs false

structure Ob (w W : World) (p : Nat) (T : Se) (js : List Nat) : Prop where
  bel : Below w.heap.size w W
  ex : ∃ ks, At W p T ks ∧ (∀ k ∈ ks, w.heap.size ≤ k) ∧ ∀ j ∈ js, j ∉ ks
  jl : ∀ j ∈ js, j < W.heap.size
def Kept (js : List Nat) (W W' : World) : Prop := ∀ j ∈ js, W'.heap[j]? = W.heap[j]?

section
variable {w W W' : World} {p : Nat} {T T' : Se} {js : List Nat}
theorem Kept.refl (js : List Nat) (W : World) : Kept js W W := fun _ _ => rfl
theorem Kept.trans {W'' : World} (h : Kept js W W') (k : Kept js W' W'') : Kept js W W'' := fun j hj => (k j hj).trans (h j hj)
theorem Ob.nd (h : Ob w W p T js) : T.L.flatten.Nodup := by obtain ⟨ks, h1, _⟩ := h.ex; exact h1.nd
theorem Ob.fit (h : Ob w W p T js) : ∀ v ∈ T.L.flatten, -1099511627776 ≤ T.W v ∧ T.W v ≤ 1099511627776 := by obtain ⟨ks, h1, _⟩ := h.ex; exact h1.fit
theorem Ob.call {f : Nat} {args : Array Value} {r : Value} (h : Ob w W p T js)
    (hc : ∀ ks, At W p T ks → Calls Try.prog f args W fun e W' => e = .returned r ∧ ∃ ks', At W' p T' ks' ∧ Keep ks W W' ∧ Grew W ks ks') :
    Calls Try.prog f args W fun e W' => e = .returned r ∧ Ob w W' p T' js ∧ Kept js W W' := by
  obtain ⟨ks, h1, h2, h3⟩ := h.ex
  refine (hc ks h1).mono ?_
  rintro e W' ⟨rfl, ks', q1, q2, q3⟩
  refine ⟨rfl, ⟨q2.below h.bel h.bel.size h2, ⟨ks', q1, ge_grew h2 h.bel.size q3, fun j hj hm => ?_⟩, fun j hj => Nat.lt_of_lt_of_le (h.jl j hj) q2.size⟩, fun j hj => q2.block j (h.jl j hj) (h3 j hj)⟩
  rcases q3 j hm with h4 | h4
  · exact h3 j hj h4
  · have := h.jl j hj; omega
theorem Ob.below (h : Ob w W p T js) (hb : Below W.heap.size W W') : Ob w W' p T js ∧ Kept js W W' := by
  obtain ⟨ks, h1, h2, h3⟩ := h.ex
  exact ⟨⟨h.bel.trans (hb.mono h.bel.size), ⟨ks, h1.below hb, h2, h3⟩, fun j hj => Nat.lt_of_lt_of_le (h.jl j hj) hb.size⟩, fun j hj => hb.block j (h.jl j hj)⟩
theorem Ob.alloc (h : Ob w W p T js) (o : Obj) : Ob w (W.alloc o) p T js := (h.below ((Below.refl _ _).alloc (Nat.le_refl _) o)).1
theorem kept_alloc (h : Ob w W p T js) (o : Obj) : Kept js W (W.alloc o) := (h.below ((Below.refl _ _).alloc (Nat.le_refl _) o)).2
theorem Ob.drewN (h : Ob w W p T js) (m : Nat) : Ob w (W.drewN m) p T js := (h.below (below_drewN (Below.refl _ _) m)).1
theorem Ob.drew (h : Ob w W p T js) : Ob w W.drew p T js := (h.below (Below.refl _ _).drew).1
/-- A block that is laid now stands beside. -/
theorem Ob.push (h : Ob w W p T js) (o : Obj) : Ob w (W.alloc o) p T (W.heap.size :: js) := by
  have h' := h.alloc o
  obtain ⟨ks, h1, h2, h3⟩ := h.ex
  have hb := (Below.refl W.heap.size W).alloc (Nat.le_refl _) o
  refine ⟨h'.bel, ⟨ks, h1.below hb, h2, fun j hj => ?_⟩, fun j hj => ?_⟩
  · rcases List.mem_cons.1 hj with rfl | hj
    · exact fun hm => by have := h1.lt _ hm; omega
    · exact h3 j hj
  · rcases List.mem_cons.1 hj with rfl | hj
    · simp
    · exact h'.jl j hj
theorem Ob.less {is : List Nat} (h : Ob w W p T js) (hs : ∀ j ∈ is, j ∈ js) : Ob w W p T is := by
  obtain ⟨ks, h1, h2, h3⟩ := h.ex
  exact ⟨h.bel, ⟨ks, h1, h2, fun j hj => h3 j (hs j hj)⟩, fun j hj => h.jl j (hs j hj)⟩
/-- A store into one that stands beside. -/
theorem Ob.store (h : Ob w W p T js) {b : Nat} (hb : b ∈ js) (hw : w.heap.size ≤ b) (o : Nat) (u : Value) : Ob w (W.setCell ⟨b, o, none⟩ u) p T js := by
  obtain ⟨ks, h1, h2, h3⟩ := h.ex
  exact ⟨h.bel.setCell (p := ⟨b, o, none⟩) hw u, ⟨ks, h1.keep (keep_cell _ _ _ _) (off_one (h3 b hb)), h2, h3⟩, fun j hj => by simpa [World.setCell] using h.jl j hj⟩
theorem oNew (n : Nat) (W : World) (hb : Below w.heap.size w W) (hj : ∀ j ∈ js, j < W.heap.size) (h1 : n ≤ 4194304) :
    Calls Try.prog 11 #[.int .i64 (n : Int)] W fun e W' => ∃ p, e = .returned (.pointer (some ⟨p, 0, none⟩)) ∧ Ob w W' p (Se.new n) js ∧ Kept js W W' := by
  refine (aNew n W h1).mono ?_
  rintro e W' ⟨p, ks, rfl, q1, q2, q3⟩
  refine ⟨p, rfl, ⟨hb.trans (q2.mono hb.size), ⟨ks, q1, fun k hk => Nat.le_trans hb.size (q3 k hk), fun j h1 h2 => ?_⟩, fun j h1 => Nat.lt_of_lt_of_le (hj j h1) q2.size⟩, fun j h1 => q2.block j (hj j h1)⟩
  have := hj j h1
  have := q3 j h2
  omega
theorem SumAt.kept {b : Nat} {x : Sm} (h : SumAt W b x) (hk : Kept js W W') (hb : b ∈ js) : SumAt W' b x := by
  have e := hk b hb
  have c : ∀ o, W'.cell? ⟨b, o, none⟩ = W.cell? ⟨b, o, none⟩ := fun o => World.cell?_of_block (w := W) (a := ⟨b, o, none⟩) e
  have f : ∀ o, W'.frozen? ⟨b, o, none⟩ = W.frozen? ⟨b, o, none⟩ := fun o => World.frozen?_of_block (w := W) (a := ⟨b, o, none⟩) e
  simpa only [SumAt, c, f] using h
theorem SumAt.new (W : World) (t : TypeId) (c s a b : Int) : SumAt (W.alloc (.cells #[.int .i64 c, .int .i64 s, .int .i64 a, .int .i64 b] t)) W.heap.size ⟨c, s, a, b⟩ := by simp [SumAt, go_sem]
end

/-- A block that stands beside, whole. -/
def BoxAt (W : World) (b : Nat) (cs : Array Value) (t : TypeId) : Prop := W.heap[b]? = some (.cells cs t)
theorem BoxAt.kept {W W' : World} {js : List Nat} {b : Nat} {cs : Array Value} {t : TypeId} (h : BoxAt W b cs t) (hk : Kept js W W') (hb : b ∈ js) : BoxAt W' b cs t := (hk b hb).trans h
theorem BoxAt.cell {W : World} {b : Nat} {cs : Array Value} {t : TypeId} (h : BoxAt W b cs t) {o : Nat} {v : Value} (hv : cs[o]? = some v) : W.cell? ⟨b, o, none⟩ = some v ∧ W.frozen? ⟨b, o, none⟩ = false := by
  unfold BoxAt at h
  simp [World.cell?, World.frozen?, h, hv]
theorem BoxAt.new (W : World) (cs : Array Value) (t : TypeId) : BoxAt (W.alloc (.cells cs t)) W.heap.size cs t := heap_alloc_new W _

section
variable (c s a b : Int)
theorem fl0 : ∀ w : World, (Instr.field 33 (.agg #[.int .i64 c, .int .i64 s, .int .i64 a, .int .i64 b]) 0).run Try.prog w = .ok (.int .i64 c) w := fun _ => by kernel_rfl
theorem fl1 : ∀ w : World, (Instr.field 33 (.agg #[.int .i64 c, .int .i64 s, .int .i64 a, .int .i64 b]) 1).run Try.prog w = .ok (.int .i64 s) w := fun _ => by kernel_rfl
theorem fl2 : ∀ w : World, (Instr.field 33 (.agg #[.int .i64 c, .int .i64 s, .int .i64 a, .int .i64 b]) 2).run Try.prog w = .ok (.int .i64 a) w := fun _ => by kernel_rfl
theorem fl3 : ∀ w : World, (Instr.field 33 (.agg #[.int .i64 c, .int .i64 s, .int .i64 a, .int .i64 b]) 3).run Try.prog w = .ok (.int .i64 b) w := fun _ => by kernel_rfl
end
abbrev aw1 : Se := (Se.new 3).addA 0 5
abbrev aw2 : Se := aw1.addA 1 7
abbrev aw3 : Se := aw2.addA 2 (-1)
abbrev aw4 : Se := aw3.joinA 0 1
abbrev aw5 : Se := aw4.joinA 0 2
abbrev aw6 : Se := aw5.liftA 1 2 10
abbrev aw7 : Se := aw6.beforeA 1
theorem aw_range : aw5.rangeI 0 2 = ⟨3, 11, -1, 7⟩ := Sm.same (by decide) (by decide) (by decide) (by decide)
theorem aw_no : aw5.joinA 1 2 = aw5 := by rw [Se.joinA, show aw5.joinB 1 2 = false by decide]; rfl

set_option maxRecDepth 100000 in
set_option maxHeartbeats 4000000 in
theorem awake_any (w : World) : Calls Try.prog 42 #[] w fun e w' => e = .returned (.bool true) ∧ Below w.heap.size w w' := by
  have f1 : (Se.new 3).addOk 0 5 = true := by decide
  have f2 : aw1.addOk 1 7 = true := by decide
  have f3 : aw2.addOk 2 (-1) = true := by decide
  have f4 : aw3.joinB 0 1 = true := by decide
  have f5 : aw4.joinB 0 2 = true := by decide
  have f6 : aw5.joinB 1 2 = false := by decide
  have f7 : aw5.okR 0 2 = true := by decide
  have f8 : aw5.liftB 1 2 10 = true := by decide
  have f9 : aw6.beforeB 1 = true := by decide
  have f10 : aw7.sameI 0 1 = false := by decide
  have f11 : aw7.rankI 2 = 1 := by decide
  have f12 : aw7.atI 1 1 = 2 := by decide
  have f13 : aw7.getI 2 = 9 := by decide
  have f14 : aw7.hasI 2 = true := by decide
  have f15 : aw7.lenI 1 = 2 := by decide
  obtain ⟨xa, xb, f16⟩ : ∃ x y, aw7.allI 1 = ⟨2, 26, x, y⟩ := ⟨(aw7.allI 1).a, (aw7.allI 1).b, Sm.same (by decide) (by decide) rfl rfl⟩
  go_enter Try.func42, Try.ntmps42
  go_wp2_with fail
  refine (oNew (js := []) 3 w (Below.refl _ _) (by simp) (by decide)).mono ?_
  rintro e W0 ⟨p, rfl, h, _⟩
  have H0 := hide h
  clear h
  go_wp2_with fail
  refine ((unhide H0).call fun _ ha => aAdd _ _ ha).mono ?_
  rw [f1]
  rintro e W1 ⟨rfl, h, k⟩
  have H1 := hide h
  clear h k H0
  go_wp2_with fail
  refine ((unhide H1).call fun _ ha => aAdd _ _ ha).mono ?_
  rw [f2]
  rintro e W2 ⟨rfl, h, k⟩
  have H2 := hide h
  clear h k H1
  go_wp2_with fail
  refine ((unhide H2).call fun _ ha => aAdd _ _ ha).mono ?_
  rw [f3]
  rintro e W3 ⟨rfl, h, k⟩
  have H3 := hide h
  clear h k H2
  go_wp2_with fail
  refine ((unhide H3).call fun _ ha => aJoin _ _ ha).mono ?_
  rw [f4]
  rintro e W4 ⟨rfl, h, k⟩
  have H4 := hide h
  clear h k H3
  go_wp2_with fail
  refine ((unhide H4).call fun _ ha => aJoin _ _ ha).mono ?_
  rw [f5]
  rintro e W5 ⟨rfl, h, k⟩
  have H5 := hide h
  clear h k H4
  go_wp2_with fail
  refine ((unhide H5).call fun _ ha => aJoin _ _ ha).mono ?_
  rw [f6]
  rintro e W6 ⟨rfl, h, k⟩
  have H6 := hide h
  clear h k H5
  go_wp2_with fail
  refine ((unhide H6).call fun _ ha => aRange _ _ ha).mono ?_
  rw [aw_no, aw_range, f7]
  unfold smV
  dsimp only
  rintro e W7 ⟨rfl, h, k⟩
  have H7 := hide h
  clear h k H6
  have S1 := hide (SumAt.new W7 33 3 11 (-1) 7)
  replace H7 := hide ((unhide H7).push (.cells #[.int .i64 3, .int .i64 11, .int .i64 (-1), .int .i64 7] 33))
  go_wp2_with fail
  generalize W7.alloc (.cells #[.int .i64 3, .int .i64 11, .int .i64 (-1), .int .i64 7] 33) = WW7 at *
  generalize W7.heap.size = b at *
  refine ((unhide H7).call fun _ ha => aLift _ _ _ ha).mono ?_
  rw [f8]
  rintro e W8 ⟨rfl, h, k⟩
  have H8 := hide h
  replace S1 := hide ((unhide S1).kept k (by simp))
  clear h k H7
  go_wp2_with fail
  refine ((unhide H8).call fun _ ha => aBefore _ ha).mono ?_
  rw [f9]
  rintro e W9 ⟨rfl, h, k⟩
  have H9 := hide h
  replace S1 := hide ((unhide S1).kept k (by simp))
  clear h k H8
  go_wp2_with fail
  refine ((unhide H9).call fun _ ha => aSame _ _ ha).mono ?_
  rw [f10]
  rintro e W10 ⟨rfl, h, k⟩
  have H10 := hide h
  replace S1 := hide ((unhide S1).kept k (by simp))
  clear h k H9
  go_wp2_with fail
  refine ((unhide H10).call fun _ ha => aRank _ ha).mono ?_
  rw [f11]
  rintro e W11 ⟨rfl, h, k⟩
  have H11 := hide h
  replace S1 := hide ((unhide S1).kept k (by simp))
  clear h k H10
  go_wp2_with fail
  refine ((unhide H11).call fun _ ha => aAt _ _ ha).mono ?_
  rw [f12]
  rintro e W12 ⟨rfl, h, k⟩
  have H12 := hide h
  replace S1 := hide ((unhide S1).kept k (by simp))
  clear h k H11
  go_wp2_with fail
  refine ((unhide H12).call fun _ ha => aGet _ ha).mono ?_
  rw [f13, f14]
  rintro e W13 ⟨rfl, h, k⟩
  have H13 := hide h
  replace S1 := hide ((unhide S1).kept k (by simp))
  clear h k H12
  obtain ⟨⟨q0, q1, q2, q3⟩, _⟩ := unhide S1
  dsimp only at q0 q1 q2 q3
  clear S1
  go_wp2_with fail
  refine ((unhide H13).call fun _ ha => aLen _ ha).mono ?_
  rw [f15]
  rintro e W14 ⟨rfl, h, k⟩
  have H14 := hide h
  clear h k H13
  clear q0 q1 q2 q3
  go_wp2_with fail
  refine ((unhide H14).call fun _ ha => aAll _ ha).mono ?_
  rw [f16]
  unfold smV
  dsimp only
  rintro e W15 ⟨rfl, h, k⟩
  have H15 := hide h
  clear h k H14
  have FL := fl1 2 26 xa xb
  go_wp2_with fail
  refine ((unhide H15).call fun _ ha => aCheck ha).mono ?_
  rintro e W16 ⟨rfl, h, k⟩
  have H16 := hide h
  clear h k H15
  go_wp2
  go_ret
  exact ⟨rfl, (unhide H16).bel⟩
end Go.Proofs.Ytbkneonbpcmepaa
/- Two objects of a law's own: the program's pool, and another one, beside blocks that neither touches. -/

namespace Go.Proofs.Ytbkneonbpcmepaa
open Go.RowKit Go.Arb
set_option linter.unusedVariables false
set_option linter.unusedSimpArgs false

structure Lies (R : World → Nat → Se → List Nat → Prop) : Prop where
  lt : ∀ {W : World} {q : Nat} {T : Se} {ks : List Nat}, R W q T ks → ∀ k ∈ ks, k < W.heap.size
  keep : ∀ {W W' : World} {q : Nat} {T : Se} {ks js : List Nat}, R W q T ks → Keep js W W' → Off ks js → R W' q T ks
theorem At.lies : Lies At := ⟨fun h => h.lt, fun h hk ho => h.keep hk ho⟩

structure Ob2 (R : World → Nat → Se → List Nat → Prop) (w W : World) (p q : Nat) (T T' : Se) (js : List Nat) : Prop where
  bel : Below w.heap.size w W
  ex : ∃ ks ls, At W p T ks ∧ R W q T' ls ∧ (∀ k ∈ ks, w.heap.size ≤ k) ∧ (∀ k ∈ ls, w.heap.size ≤ k) ∧ Off ks ls ∧ ∀ j ∈ js, j ∉ ks ∧ j ∉ ls
  jl : ∀ j ∈ js, j < W.heap.size

section
variable {R : World → Nat → Se → List Nat → Prop} {w W W' : World} {p q : Nat} {T T' T2 : Se} {js : List Nat}
theorem Ob2.fst (hR : Lies R) {f : Nat} {args : Array Value} {r : Value} (h : Ob2 R w W p q T T' js)
    (hc : ∀ ks, At W p T ks → Calls Try.prog f args W fun e W' => e = .returned r ∧ ∃ ks', At W' p T2 ks' ∧ Keep ks W W' ∧ Grew W ks ks') :
    Calls Try.prog f args W fun e W' => e = .returned r ∧ Ob2 R w W' p q T2 T' js ∧ Kept js W W' := by
  obtain ⟨ks, ls, h1, h2, h3, h4, h5, h6⟩ := h.ex
  refine (hc ks h1).mono ?_
  rintro e W' ⟨rfl, ks', q1, q2, q3⟩
  refine ⟨rfl, ⟨q2.below h.bel h.bel.size h3, ⟨ks', ls, q1, hR.keep h2 q2 h5.symm, ge_grew h3 h.bel.size q3, h4, ((h5.symm).grew (fun k hk => hR.lt h2 k hk) q3).symm, fun j hj => ⟨fun hm => ?_, (h6 j hj).2⟩⟩, fun j hj => Nat.lt_of_lt_of_le (h.jl j hj) q2.size⟩, fun j hj => q2.block j (h.jl j hj) (h6 j hj).1⟩
  rcases q3 j hm with h7 | h7
  · exact (h6 j hj).1 h7
  · have := h.jl j hj; omega
theorem Ob2.snd (hR : Lies R) {f : Nat} {args : Array Value} {r : Value} (h : Ob2 R w W p q T T' js)
    (hc : ∀ ks, R W q T' ks → Calls Try.prog f args W fun e W' => e = .returned r ∧ ∃ ks', R W' q T2 ks' ∧ Keep ks W W' ∧ Grew W ks ks') :
    Calls Try.prog f args W fun e W' => e = .returned r ∧ Ob2 R w W' p q T T2 js ∧ Kept js W W' := by
  obtain ⟨ks, ls, h1, h2, h3, h4, h5, h6⟩ := h.ex
  refine (hc ls h2).mono ?_
  rintro e W' ⟨rfl, ls', q1, q2, q3⟩
  refine ⟨rfl, ⟨q2.below h.bel h.bel.size h4, ⟨ks, ls', h1.keep q2 h5, q1, h3, ge_grew h4 h.bel.size q3, h5.grew (fun k hk => h1.lt k hk) q3, fun j hj => ⟨(h6 j hj).1, fun hm => ?_⟩⟩, fun j hj => Nat.lt_of_lt_of_le (h.jl j hj) q2.size⟩, fun j hj => q2.block j (h.jl j hj) (h6 j hj).2⟩
  rcases q3 j hm with h7 | h7
  · exact (h6 j hj).2 h7
  · have := h.jl j hj; omega
theorem Ob2.below (hR : Lies R) (h : Ob2 R w W p q T T' js) (hb : Below W.heap.size W W') : Ob2 R w W' p q T T' js ∧ Kept js W W' := by
  obtain ⟨ks, ls, h1, h2, h3, h4, h5, h6⟩ := h.ex
  exact ⟨⟨h.bel.trans (hb.mono h.bel.size), ⟨ks, ls, h1.below hb, hR.keep h2 (Keep.ofBelow hb []) (fun _ _ => by simp), h3, h4, h5, h6⟩, fun j hj => Nat.lt_of_lt_of_le (h.jl j hj) hb.size⟩, fun j hj => hb.block j (h.jl j hj)⟩
theorem Ob2.drewN (hR : Lies R) (h : Ob2 R w W p q T T' js) (m : Nat) : Ob2 R w (W.drewN m) p q T T' js := (h.below hR (below_drewN (Below.refl _ _) m)).1
theorem Ob2.alloc (hR : Lies R) (h : Ob2 R w W p q T T' js) (o : Obj) : Ob2 R w (W.alloc o) p q T T' js ∧ Kept js W (W.alloc o) := h.below hR ((Below.refl _ _).alloc (Nat.le_refl _) o)
theorem Ob2.push (hR : Lies R) (h : Ob2 R w W p q T T' js) (o : Obj) : Ob2 R w (W.alloc o) p q T T' (W.heap.size :: js) := by
  have h' := (h.alloc hR o).1
  obtain ⟨ks, ls, h1, h2, h3, h4, h5, h6⟩ := h.ex
  have hb := (Below.refl W.heap.size W).alloc (Nat.le_refl _) o
  refine ⟨h'.bel, ⟨ks, ls, h1.below hb, hR.keep h2 (Keep.ofBelow hb []) (fun _ _ => by simp), h3, h4, h5, fun j hj => ?_⟩, fun j hj => ?_⟩
  · rcases List.mem_cons.1 hj with rfl | hj
    · exact ⟨fun hm => by have := h1.lt _ hm; omega, fun hm => by have := hR.lt h2 _ hm; omega⟩
    · exact h6 j hj
  · rcases List.mem_cons.1 hj with rfl | hj
    · simp
    · exact h'.jl j hj
theorem Ob2.less {is : List Nat} (h : Ob2 R w W p q T T' js) (hs : ∀ j ∈ is, j ∈ js) : Ob2 R w W p q T T' is := by
  obtain ⟨ks, ls, h1, h2, h3, h4, h5, h6⟩ := h.ex
  exact ⟨h.bel, ⟨ks, ls, h1, h2, h3, h4, h5, fun j hj => h6 j (hs j hj)⟩, fun j hj => h.jl j (hs j hj)⟩
/-- A second object is made. -/
theorem Ob.pair (h : Ob w W p T js) {ls : List Nat} (hb : Below W.heap.size W W') (hr : R W' q T' ls) (hl : ∀ k ∈ ls, W.heap.size ≤ k) : Ob2 R w W' p q T T' js ∧ Kept js W W' := by
  obtain ⟨h', hk⟩ := h.below hb
  obtain ⟨ks, h1, h2, h3⟩ := h.ex
  refine ⟨⟨h'.bel, ⟨ks, ls, h1.below hb, hr, h2, fun k hk => Nat.le_trans h.bel.size (hl k hk), fun k hk hm => ?_, fun j hj => ⟨h3 j hj, fun hm => ?_⟩⟩, h'.jl⟩, hk⟩
  · have := h1.lt k hk
    have := hl k hm
    omega
  · have := h.jl j hj
    have := hl j hm
    omega
theorem o2New (h : Ob w W p T js) (n : Nat) (h1 : n ≤ 4194304) :
    Calls Try.prog 11 #[.int .i64 (n : Int)] W fun e W' => ∃ q, e = .returned (.pointer (some ⟨q, 0, none⟩)) ∧ Ob2 At w W' p q T (Se.new n) js ∧ Kept js W W' := by
  refine (aNew n W h1).mono ?_
  rintro e W' ⟨q, ls, rfl, q1, q2, q3⟩
  exact ⟨q, rfl, h.pair q2 q1 q3⟩
end
end Go.Proofs.Ytbkneonbpcmepaa

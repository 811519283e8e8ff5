/- Part 19 of the texts. -/
import Derived.Test.YtjnkgakajenoaaaS1
import Derived.Test.YtjnkgakajenoaaaS18
namespace Go.Proofs.Ytjnkgakajenoaaa
open Go.RowKit Go.Arb
set_option linter.unusedVariables false
set_option linter.unusedSimpArgs false
set_option maxRecDepth 100000
theorem few_any (a : Nat) (w : World) (h : a <= 255) : Calls Try.prog 15 #[.int .u8 (a : Int)] w fun e w' => e = .returned (zi ((a % 41 : Nat) : Int)) /\ w = w' := by
 go_enter Try.func15, Try.ntmps15
 go_wp2
 go_ret
 exact ⟨rfl, rfl⟩
def OPS0 : List Oper := [⟨some 4, .assign (.const (.bool false)), 4, "law.go:27", #[], none⟩]
def OPS1 : List Oper := [⟨some 25, .move (.tmp 0), 5, "law.go:28", #[], none⟩, ⟨some 26, .call { callee := (.value (.func 15)), args := #[(.tmp 25)], argTypes := #[5] }, 3, "law.go:28", #[⟨0, .data⟩], none⟩, ⟨some 27, .call { callee := (.value (.func 14)), args := #[(.tmp 26)], argTypes := #[3] }, 23, "law.go:28", #[⟨1, .data⟩, ⟨1, .chain⟩], none⟩, ⟨some 5, .assign (.tmp 27), 23, "law.go:28", #[⟨2, .data⟩, ⟨2, .chain⟩, ⟨0, .phase⟩, ⟨1, .phase⟩, ⟨2, .phase⟩], none⟩]
def OPS2 : List Oper := [⟨some 28, .move (.tmp 0), 5, "law.go:29", #[], none⟩, ⟨some 29, .call { callee := (.value (.func 15)), args := #[(.tmp 28)], argTypes := #[5] }, 3, "law.go:29", #[⟨0, .data⟩], none⟩, ⟨some 30, .call { callee := (.value (.func 16)), args := #[(.tmp 29)], argTypes := #[3] }, 26, "law.go:29", #[⟨1, .data⟩, ⟨1, .chain⟩], none⟩, ⟨some 6, .assign (.tmp 30), 26, "law.go:29", #[⟨2, .data⟩, ⟨2, .chain⟩, ⟨0, .phase⟩, ⟨1, .phase⟩, ⟨2, .phase⟩], none⟩]
def OPS3 : List Oper := [⟨some 31, .move (.tmp 5), 23, "law.go:30", #[], none⟩, ⟨some 32, .binOp .eql 23 (.tmp 31) (.const (.pointer none)) 23, 4, "law.go:30", #[⟨0, .data⟩], none⟩]
def OPS4 : List Oper := [⟨some 4, .assign (.const (.bool false)), 4, "law.go:31", #[], none⟩]
def OPS5 : List Oper := [⟨some 7, .assign (.const (zi 0)), 3, "law.go:33", #[], none⟩]
def OPS6 : List Oper := [⟨some 33, .move (.tmp 7), 3, "law.go:33", #[], none⟩, ⟨some 34, .move (.tmp 1), 22, "law.go:33", #[], none⟩, ⟨some 35, .call { callee := (.builtin .len), args := #[(.tmp 34)], argTypes := #[22] }, 3, "law.go:33", #[⟨1, .data⟩], none⟩, ⟨some 36, .binOp .lss 3 (.tmp 33) (.tmp 35) 3, 4, "law.go:33", #[⟨0, .data⟩, ⟨2, .data⟩], none⟩, ⟨some 37, .move (.tmp 36), 4, "law.go:33", #[⟨3, .data⟩], none⟩, ⟨some 38, .move (.tmp 7), 3, "law.go:33", #[⟨4, .guard⟩], some (4, true)⟩, ⟨some 39, .binOp .lss 3 (.tmp 38) (.const (zi 150)) 3, 4, "law.go:33", #[⟨5, .data⟩, ⟨4, .guard⟩], some (4, true)⟩, ⟨some 40, .pick (.tmp 37) (.tmp 39) (.const (.bool false)), 4, "law.go:33", #[⟨4, .data⟩, ⟨6, .data⟩], none⟩]
def OPS7 : List Oper := [⟨some 41, .move (.tmp 7), 3, "law.go:33", #[], none⟩, ⟨some 42, .binOp .add 3 (.tmp 41) (.const (zi 1)) 3, 3, "law.go:33", #[⟨0, .data⟩], none⟩, ⟨some 7, .assign (.tmp 42), 3, "law.go:33", #[⟨1, .data⟩, ⟨0, .phase⟩, ⟨1, .phase⟩], none⟩]
def OPS8 : List Oper := [⟨some 43, .move (.tmp 1), 22, "law.go:34", #[], none⟩, ⟨some 44, .move (.tmp 7), 3, "law.go:34", #[], none⟩, ⟨some 45, .indexAddr 22 (.tmp 43) (.tmp 44), 0, "law.go:34", #[⟨0, .data⟩, ⟨1, .data⟩], none⟩, ⟨some 46, .load 29 (.tmp 45), 29, "law.go:34", #[⟨2, .data⟩], none⟩, ⟨some 8, .alloc 29, 0, "law.go:34", #[], none⟩, ⟨none, .store 29 (.tmp 8) (.tmp 46), 0, "law.go:34", #[⟨4, .data⟩, ⟨3, .data⟩, ⟨0, .phase⟩, ⟨1, .phase⟩, ⟨2, .phase⟩, ⟨3, .phase⟩, ⟨4, .phase⟩], none⟩]
def OPS9 : List Oper := [⟨some 9, .assign (.const (.bool false)), 4, "law.go:35", #[], none⟩, ⟨some 10, .assign (.const (.bool false)), 4, "law.go:35", #[⟨0, .chain⟩, ⟨0, .phase⟩], none⟩]
def OPS10 : List Oper := [⟨some 47, .fieldAddr 29 (.tmp 8) 0, 0, "law.go:36", #[], none⟩, ⟨some 48, .load 3 (.tmp 47), 3, "law.go:36", #[⟨0, .data⟩], none⟩]
def OPS11 : List Oper := [⟨some 50, .binOp .eql 3 (.tmp 48) (.const (zi 0)) 3, 4, "law.go:37", #[], none⟩, ⟨some 49, .assign (.tmp 50), 4, "law.go:37", #[⟨0, .data⟩], none⟩]
def O12_0 : Oper := ⟨some 51, .move (.tmp 5), 23, "law.go:38", #[], none⟩
def O12_1 : Oper := ⟨some 52, .fieldAddr 29 (.tmp 8) 1, 0, "law.go:38", #[], none⟩
def O12_2 : Oper := ⟨some 53, .load 3 (.tmp 52), 3, "law.go:38", #[⟨1, .data⟩], none⟩
def O12_3 : Oper := ⟨some 54, .fieldAddr 29 (.tmp 8) 3, 0, "law.go:38", #[], none⟩
def O12_4 : Oper := ⟨some 55, .load 3 (.tmp 54), 3, "law.go:38", #[⟨3, .data⟩], none⟩
def O12_5 : Oper := ⟨some 56, .call { callee := (.value (.func 17)), args := #[(.tmp 51), (.tmp 53), (.tmp 55)], argTypes := #[23, 3, 3] }, 4, "law.go:38", #[⟨0, .data⟩, ⟨2, .data⟩, ⟨4, .data⟩], none⟩
def O12_6 : Oper := ⟨some 57, .move (.tmp 6), 26, "law.go:38", #[], none⟩
def O12_7 : Oper := ⟨some 58, .fieldAddr 29 (.tmp 8) 1, 0, "law.go:38", #[], none⟩
def O12_8 : Oper := ⟨some 59, .load 3 (.tmp 58), 3, "law.go:38", #[⟨7, .data⟩], none⟩
def O12_9 : Oper := ⟨some 60, .fieldAddr 29 (.tmp 8) 3, 0, "law.go:38", #[], none⟩
def O12_10 : Oper := ⟨some 61, .load 3 (.tmp 60), 3, "law.go:38", #[⟨9, .data⟩], none⟩
def O12_11 : Oper := ⟨some 62, .call { callee := (.value (.func 18)), args := #[(.tmp 57), (.tmp 59), (.tmp 61)], argTypes := #[26, 3, 3] }, 4, "law.go:38", #[⟨6, .data⟩, ⟨8, .data⟩, ⟨10, .data⟩, ⟨5, .chain⟩], none⟩
def O12_12 : Oper := ⟨some 9, .assign (.tmp 56), 4, "law.go:38", #[⟨5, .data⟩, ⟨11, .chain⟩, ⟨0, .phase⟩, ⟨1, .phase⟩, ⟨2, .phase⟩, ⟨3, .phase⟩, ⟨4, .phase⟩, ⟨5, .phase⟩, ⟨6, (Ground.textOnly Departure.lateStores)⟩, ⟨7, (Ground.textOnly Departure.lateStores)⟩, ⟨8, (Ground.textOnly Departure.lateStores)⟩, ⟨9, (Ground.textOnly Departure.lateStores)⟩, ⟨10, (Ground.textOnly Departure.lateStores)⟩, ⟨11, (Ground.textOnly Departure.lateStoresUnsure)⟩], none⟩
def O12_13 : Oper := ⟨some 10, .assign (.tmp 62), 4, "law.go:38", #[⟨11, .data⟩, ⟨12, .chain⟩, ⟨0, .phase⟩, ⟨1, .phase⟩, ⟨2, .phase⟩, ⟨3, .phase⟩, ⟨4, .phase⟩, ⟨5, .phase⟩, ⟨6, .phase⟩, ⟨7, .phase⟩, ⟨8, .phase⟩, ⟨9, .phase⟩, ⟨10, .phase⟩, ⟨11, .phase⟩, ⟨12, .phase⟩], none⟩
def OPS12 : List Oper := [O12_0, O12_1, O12_2, O12_3, O12_4, O12_5, O12_6, O12_7, O12_8, O12_9, O12_10, O12_11, O12_12, O12_13]
def OPS13 : List Oper := [⟨some 64, .binOp .eql 3 (.tmp 48) (.const (zi 1)) 3, 4, "law.go:39", #[], none⟩, ⟨some 63, .assign (.tmp 64), 4, "law.go:39", #[⟨0, .data⟩], none⟩]
def O14_0 : Oper := ⟨some 65, .move (.tmp 5), 23, "law.go:40", #[], none⟩
def O14_1 : Oper := ⟨some 66, .fieldAddr 29 (.tmp 8) 1, 0, "law.go:40", #[], none⟩
def O14_2 : Oper := ⟨some 67, .load 3 (.tmp 66), 3, "law.go:40", #[⟨1, .data⟩], none⟩
def O14_3 : Oper := ⟨some 68, .call { callee := (.value (.func 19)), args := #[(.tmp 65), (.tmp 67)], argTypes := #[23, 3] }, 4, "law.go:40", #[⟨0, .data⟩, ⟨2, .data⟩], none⟩
def O14_4 : Oper := ⟨some 69, .move (.tmp 6), 26, "law.go:40", #[], none⟩
def O14_5 : Oper := ⟨some 70, .fieldAddr 29 (.tmp 8) 1, 0, "law.go:40", #[], none⟩
def O14_6 : Oper := ⟨some 71, .load 3 (.tmp 70), 3, "law.go:40", #[⟨5, .data⟩], none⟩
def O14_7 : Oper := ⟨some 72, .call { callee := (.value (.func 20)), args := #[(.tmp 69), (.tmp 71)], argTypes := #[26, 3] }, 4, "law.go:40", #[⟨4, .data⟩, ⟨6, .data⟩, ⟨3, .chain⟩], none⟩
def O14_8 : Oper := ⟨some 9, .assign (.tmp 68), 4, "law.go:40", #[⟨3, .data⟩, ⟨7, .chain⟩, ⟨0, .phase⟩, ⟨1, .phase⟩, ⟨2, .phase⟩, ⟨3, .phase⟩, ⟨4, (Ground.textOnly Departure.lateStores)⟩, ⟨5, (Ground.textOnly Departure.lateStores)⟩, ⟨6, (Ground.textOnly Departure.lateStores)⟩, ⟨7, (Ground.textOnly Departure.lateStoresUnsure)⟩], none⟩
def O14_9 : Oper := ⟨some 10, .assign (.tmp 72), 4, "law.go:40", #[⟨7, .data⟩, ⟨8, .chain⟩, ⟨0, .phase⟩, ⟨1, .phase⟩, ⟨2, .phase⟩, ⟨3, .phase⟩, ⟨4, .phase⟩, ⟨5, .phase⟩, ⟨6, .phase⟩, ⟨7, .phase⟩, ⟨8, .phase⟩], none⟩
def OPS14 : List Oper := [O14_0, O14_1, O14_2, O14_3, O14_4, O14_5, O14_6, O14_7, O14_8, O14_9]
def OPS15 : List Oper := [⟨some 74, .binOp .eql 3 (.tmp 48) (.const (zi 2)) 3, 4, "law.go:41", #[], none⟩, ⟨some 73, .assign (.tmp 74), 4, "law.go:41", #[⟨0, .data⟩], none⟩]
def O16_0 : Oper := ⟨some 75, .move (.tmp 5), 23, "law.go:42", #[], none⟩
def O16_1 : Oper := ⟨some 76, .fieldAddr 29 (.tmp 8) 1, 0, "law.go:42", #[], none⟩
def O16_2 : Oper := ⟨some 77, .load 3 (.tmp 76), 3, "law.go:42", #[⟨1, .data⟩], none⟩
def O16_3 : Oper := ⟨some 78, .fieldAddr 29 (.tmp 8) 2, 0, "law.go:42", #[], none⟩
def O16_4 : Oper := ⟨some 79, .load 3 (.tmp 78), 3, "law.go:42", #[⟨3, .data⟩], none⟩
def O16_5 : Oper := ⟨some 80, .call { callee := (.value (.func 21)), args := #[(.tmp 75), (.tmp 77), (.tmp 79)], argTypes := #[23, 3, 3] }, 4, "law.go:42", #[⟨0, .data⟩, ⟨2, .data⟩, ⟨4, .data⟩], none⟩
def O16_6 : Oper := ⟨some 81, .move (.tmp 6), 26, "law.go:42", #[], none⟩
def O16_7 : Oper := ⟨some 82, .fieldAddr 29 (.tmp 8) 1, 0, "law.go:42", #[], none⟩
def O16_8 : Oper := ⟨some 83, .load 3 (.tmp 82), 3, "law.go:42", #[⟨7, .data⟩], none⟩
def O16_9 : Oper := ⟨some 84, .fieldAddr 29 (.tmp 8) 2, 0, "law.go:42", #[], none⟩
def O16_10 : Oper := ⟨some 85, .load 3 (.tmp 84), 3, "law.go:42", #[⟨9, .data⟩], none⟩
def O16_11 : Oper := ⟨some 86, .call { callee := (.value (.func 22)), args := #[(.tmp 81), (.tmp 83), (.tmp 85)], argTypes := #[26, 3, 3] }, 4, "law.go:42", #[⟨6, .data⟩, ⟨8, .data⟩, ⟨10, .data⟩, ⟨5, .chain⟩], none⟩
def O16_12 : Oper := ⟨some 9, .assign (.tmp 80), 4, "law.go:42", #[⟨5, .data⟩, ⟨11, .chain⟩, ⟨0, .phase⟩, ⟨1, .phase⟩, ⟨2, .phase⟩, ⟨3, .phase⟩, ⟨4, .phase⟩, ⟨5, .phase⟩, ⟨6, (Ground.textOnly Departure.lateStores)⟩, ⟨7, (Ground.textOnly Departure.lateStores)⟩, ⟨8, (Ground.textOnly Departure.lateStores)⟩, ⟨9, (Ground.textOnly Departure.lateStores)⟩, ⟨10, (Ground.textOnly Departure.lateStores)⟩, ⟨11, (Ground.textOnly Departure.lateStoresUnsure)⟩], none⟩
def O16_13 : Oper := ⟨some 10, .assign (.tmp 86), 4, "law.go:42", #[⟨11, .data⟩, ⟨12, .chain⟩, ⟨0, .phase⟩, ⟨1, .phase⟩, ⟨2, .phase⟩, ⟨3, .phase⟩, ⟨4, .phase⟩, ⟨5, .phase⟩, ⟨6, .phase⟩, ⟨7, .phase⟩, ⟨8, .phase⟩, ⟨9, .phase⟩, ⟨10, .phase⟩, ⟨11, .phase⟩, ⟨12, .phase⟩], none⟩
def OPS16 : List Oper := [O16_0, O16_1, O16_2, O16_3, O16_4, O16_5, O16_6, O16_7, O16_8, O16_9, O16_10, O16_11, O16_12, O16_13]
def OPS17 : List Oper := [⟨some 88, .binOp .eql 3 (.tmp 48) (.const (zi 3)) 3, 4, "law.go:43", #[], none⟩, ⟨some 87, .assign (.tmp 88), 4, "law.go:43", #[⟨0, .data⟩], none⟩]
def O18_0 : Oper := ⟨some 89, .move (.tmp 5), 23, "law.go:44", #[], none⟩
def O18_1 : Oper := ⟨some 90, .fieldAddr 29 (.tmp 8) 1, 0, "law.go:44", #[], none⟩
def O18_2 : Oper := ⟨some 91, .load 3 (.tmp 90), 3, "law.go:44", #[⟨1, .data⟩], none⟩
def O18_3 : Oper := ⟨some 92, .call { callee := (.value (.func 23)), args := #[(.tmp 89), (.tmp 91)], argTypes := #[23, 3] }, 4, "law.go:44", #[⟨0, .data⟩, ⟨2, .data⟩], none⟩
def O18_4 : Oper := ⟨some 93, .move (.tmp 6), 26, "law.go:44", #[], none⟩
def O18_5 : Oper := ⟨some 94, .fieldAddr 29 (.tmp 8) 1, 0, "law.go:44", #[], none⟩
def O18_6 : Oper := ⟨some 95, .load 3 (.tmp 94), 3, "law.go:44", #[⟨5, .data⟩], none⟩
def O18_7 : Oper := ⟨some 96, .call { callee := (.value (.func 24)), args := #[(.tmp 93), (.tmp 95)], argTypes := #[26, 3] }, 4, "law.go:44", #[⟨4, .data⟩, ⟨6, .data⟩, ⟨3, .chain⟩], none⟩
def O18_8 : Oper := ⟨some 9, .assign (.tmp 92), 4, "law.go:44", #[⟨3, .data⟩, ⟨7, .chain⟩, ⟨0, .phase⟩, ⟨1, .phase⟩, ⟨2, .phase⟩, ⟨3, .phase⟩, ⟨4, (Ground.textOnly Departure.lateStores)⟩, ⟨5, (Ground.textOnly Departure.lateStores)⟩, ⟨6, (Ground.textOnly Departure.lateStores)⟩, ⟨7, (Ground.textOnly Departure.lateStoresUnsure)⟩], none⟩
def O18_9 : Oper := ⟨some 10, .assign (.tmp 96), 4, "law.go:44", #[⟨7, .data⟩, ⟨8, .chain⟩, ⟨0, .phase⟩, ⟨1, .phase⟩, ⟨2, .phase⟩, ⟨3, .phase⟩, ⟨4, .phase⟩, ⟨5, .phase⟩, ⟨6, .phase⟩, ⟨7, .phase⟩, ⟨8, .phase⟩], none⟩
def OPS18 : List Oper := [O18_0, O18_1, O18_2, O18_3, O18_4, O18_5, O18_6, O18_7, O18_8, O18_9]
def OPS19 : List Oper := [⟨some 98, .binOp .eql 3 (.tmp 48) (.const (zi 4)) 3, 4, "law.go:45", #[], none⟩, ⟨some 97, .assign (.tmp 98), 4, "law.go:45", #[⟨0, .data⟩], none⟩]
def O20_0 : Oper := ⟨some 99, .move (.tmp 5), 23, "law.go:46", #[], none⟩
def O20_1 : Oper := ⟨some 100, .fieldAddr 29 (.tmp 8) 1, 0, "law.go:46", #[], none⟩
def O20_2 : Oper := ⟨some 101, .load 3 (.tmp 100), 3, "law.go:46", #[⟨1, .data⟩], none⟩
def O20_3 : Oper := ⟨some 102, .call { callee := (.value (.func 25)), args := #[(.tmp 99), (.tmp 101)], argTypes := #[23, 3] }, 4, "law.go:46", #[⟨0, .data⟩, ⟨2, .data⟩], none⟩
def O20_4 : Oper := ⟨some 103, .move (.tmp 6), 26, "law.go:46", #[], none⟩
def O20_5 : Oper := ⟨some 104, .fieldAddr 29 (.tmp 8) 1, 0, "law.go:46", #[], none⟩
def O20_6 : Oper := ⟨some 105, .load 3 (.tmp 104), 3, "law.go:46", #[⟨5, .data⟩], none⟩
def O20_7 : Oper := ⟨some 106, .call { callee := (.value (.func 26)), args := #[(.tmp 103), (.tmp 105)], argTypes := #[26, 3] }, 4, "law.go:46", #[⟨4, .data⟩, ⟨6, .data⟩, ⟨3, .chain⟩], none⟩
def O20_8 : Oper := ⟨some 9, .assign (.tmp 102), 4, "law.go:46", #[⟨3, .data⟩, ⟨7, .chain⟩, ⟨0, .phase⟩, ⟨1, .phase⟩, ⟨2, .phase⟩, ⟨3, .phase⟩, ⟨4, (Ground.textOnly Departure.lateStores)⟩, ⟨5, (Ground.textOnly Departure.lateStores)⟩, ⟨6, (Ground.textOnly Departure.lateStores)⟩, ⟨7, (Ground.textOnly Departure.lateStoresUnsure)⟩], none⟩
def O20_9 : Oper := ⟨some 10, .assign (.tmp 106), 4, "law.go:46", #[⟨7, .data⟩, ⟨8, .chain⟩, ⟨0, .phase⟩, ⟨1, .phase⟩, ⟨2, .phase⟩, ⟨3, .phase⟩, ⟨4, .phase⟩, ⟨5, .phase⟩, ⟨6, .phase⟩, ⟨7, .phase⟩, ⟨8, .phase⟩], none⟩
def OPS20 : List Oper := [O20_0, O20_1, O20_2, O20_3, O20_4, O20_5, O20_6, O20_7, O20_8, O20_9]
def OPS21 : List Oper := [⟨some 108, .binOp .eql 3 (.tmp 48) (.const (zi 5)) 3, 4, "law.go:47", #[], none⟩, ⟨some 107, .assign (.tmp 108), 4, "law.go:47", #[⟨0, .data⟩], none⟩]
def O22_0 : Oper := ⟨some 109, .move (.tmp 5), 23, "law.go:48", #[], none⟩
def O22_1 : Oper := ⟨some 110, .fieldAddr 29 (.tmp 8) 1, 0, "law.go:48", #[], none⟩
def O22_2 : Oper := ⟨some 111, .load 3 (.tmp 110), 3, "law.go:48", #[⟨1, .data⟩], none⟩
def O22_3 : Oper := ⟨some 112, .fieldAddr 29 (.tmp 8) 3, 0, "law.go:48", #[], none⟩
def O22_4 : Oper := ⟨some 113, .load 3 (.tmp 112), 3, "law.go:48", #[⟨3, .data⟩], none⟩
def O22_5 : Oper := ⟨some 114, .call { callee := (.value (.func 27)), args := #[(.tmp 109), (.tmp 111), (.tmp 113)], argTypes := #[23, 3, 3] }, 4, "law.go:48", #[⟨0, .data⟩, ⟨2, .data⟩, ⟨4, .data⟩], none⟩
def O22_6 : Oper := ⟨some 115, .move (.tmp 6), 26, "law.go:48", #[], none⟩
def O22_7 : Oper := ⟨some 116, .fieldAddr 29 (.tmp 8) 1, 0, "law.go:48", #[], none⟩
def O22_8 : Oper := ⟨some 117, .load 3 (.tmp 116), 3, "law.go:48", #[⟨7, .data⟩], none⟩
def O22_9 : Oper := ⟨some 118, .fieldAddr 29 (.tmp 8) 3, 0, "law.go:48", #[], none⟩
def O22_10 : Oper := ⟨some 119, .load 3 (.tmp 118), 3, "law.go:48", #[⟨9, .data⟩], none⟩
def O22_11 : Oper := ⟨some 120, .call { callee := (.value (.func 28)), args := #[(.tmp 115), (.tmp 117), (.tmp 119)], argTypes := #[26, 3, 3] }, 4, "law.go:48", #[⟨6, .data⟩, ⟨8, .data⟩, ⟨10, .data⟩, ⟨5, .chain⟩], none⟩
def O22_12 : Oper := ⟨some 9, .assign (.tmp 114), 4, "law.go:48", #[⟨5, .data⟩, ⟨11, .chain⟩, ⟨0, .phase⟩, ⟨1, .phase⟩, ⟨2, .phase⟩, ⟨3, .phase⟩, ⟨4, .phase⟩, ⟨5, .phase⟩, ⟨6, (Ground.textOnly Departure.lateStores)⟩, ⟨7, (Ground.textOnly Departure.lateStores)⟩, ⟨8, (Ground.textOnly Departure.lateStores)⟩, ⟨9, (Ground.textOnly Departure.lateStores)⟩, ⟨10, (Ground.textOnly Departure.lateStores)⟩, ⟨11, (Ground.textOnly Departure.lateStoresUnsure)⟩], none⟩
def O22_13 : Oper := ⟨some 10, .assign (.tmp 120), 4, "law.go:48", #[⟨11, .data⟩, ⟨12, .chain⟩, ⟨0, .phase⟩, ⟨1, .phase⟩, ⟨2, .phase⟩, ⟨3, .phase⟩, ⟨4, .phase⟩, ⟨5, .phase⟩, ⟨6, .phase⟩, ⟨7, .phase⟩, ⟨8, .phase⟩, ⟨9, .phase⟩, ⟨10, .phase⟩, ⟨11, .phase⟩, ⟨12, .phase⟩], none⟩
def OPS22 : List Oper := [O22_0, O22_1, O22_2, O22_3, O22_4, O22_5, O22_6, O22_7, O22_8, O22_9, O22_10, O22_11, O22_12, O22_13]
def OPS23 : List Oper := [⟨some 122, .binOp .eql 3 (.tmp 48) (.const (zi 6)) 3, 4, "law.go:49", #[], none⟩, ⟨some 121, .assign (.tmp 122), 4, "law.go:49", #[⟨0, .data⟩], none⟩]
def O24_0 : Oper := ⟨some 123, .move (.tmp 5), 23, "law.go:50", #[], none⟩
def O24_1 : Oper := ⟨some 124, .fieldAddr 29 (.tmp 8) 1, 0, "law.go:50", #[], none⟩
def O24_2 : Oper := ⟨some 125, .load 3 (.tmp 124), 3, "law.go:50", #[⟨1, .data⟩], none⟩
def O24_3 : Oper := ⟨some 126, .fieldAddr 29 (.tmp 8) 2, 0, "law.go:50", #[], none⟩
def O24_4 : Oper := ⟨some 127, .load 3 (.tmp 126), 3, "law.go:50", #[⟨3, .data⟩], none⟩
def O24_5 : Oper := ⟨some 128, .fieldAddr 29 (.tmp 8) 3, 0, "law.go:50", #[], none⟩
def O24_6 : Oper := ⟨some 129, .load 3 (.tmp 128), 3, "law.go:50", #[⟨5, .data⟩], none⟩
def O24_7 : Oper := ⟨some 130, .call { callee := (.value (.func 29)), args := #[(.tmp 123), (.tmp 125), (.tmp 127), (.tmp 129)], argTypes := #[23, 3, 3, 3] }, 4, "law.go:50", #[⟨0, .data⟩, ⟨2, .data⟩, ⟨4, .data⟩, ⟨6, .data⟩], none⟩
def O24_8 : Oper := ⟨some 131, .move (.tmp 6), 26, "law.go:50", #[], none⟩
def O24_9 : Oper := ⟨some 132, .fieldAddr 29 (.tmp 8) 1, 0, "law.go:50", #[], none⟩
def O24_10 : Oper := ⟨some 133, .load 3 (.tmp 132), 3, "law.go:50", #[⟨9, .data⟩], none⟩
def O24_11 : Oper := ⟨some 134, .fieldAddr 29 (.tmp 8) 2, 0, "law.go:50", #[], none⟩
def O24_12 : Oper := ⟨some 135, .load 3 (.tmp 134), 3, "law.go:50", #[⟨11, .data⟩], none⟩
def O24_13 : Oper := ⟨some 136, .fieldAddr 29 (.tmp 8) 3, 0, "law.go:50", #[], none⟩
def O24_14 : Oper := ⟨some 137, .load 3 (.tmp 136), 3, "law.go:50", #[⟨13, .data⟩], none⟩
def O24_15 : Oper := ⟨some 138, .call { callee := (.value (.func 30)), args := #[(.tmp 131), (.tmp 133), (.tmp 135), (.tmp 137)], argTypes := #[26, 3, 3, 3] }, 4, "law.go:50", #[⟨8, .data⟩, ⟨10, .data⟩, ⟨12, .data⟩, ⟨14, .data⟩, ⟨7, .chain⟩], none⟩
def O24_16 : Oper := ⟨some 9, .assign (.tmp 130), 4, "law.go:50", #[⟨7, .data⟩, ⟨15, .chain⟩, ⟨0, .phase⟩, ⟨1, .phase⟩, ⟨2, .phase⟩, ⟨3, .phase⟩, ⟨4, .phase⟩, ⟨5, .phase⟩, ⟨6, .phase⟩, ⟨7, .phase⟩, ⟨8, (Ground.textOnly Departure.lateStores)⟩, ⟨9, (Ground.textOnly Departure.lateStores)⟩, ⟨10, (Ground.textOnly Departure.lateStores)⟩, ⟨11, (Ground.textOnly Departure.lateStores)⟩, ⟨12, (Ground.textOnly Departure.lateStores)⟩, ⟨13, (Ground.textOnly Departure.lateStores)⟩, ⟨14, (Ground.textOnly Departure.lateStores)⟩, ⟨15, (Ground.textOnly Departure.lateStoresUnsure)⟩], none⟩
def O24_17 : Oper := ⟨some 10, .assign (.tmp 138), 4, "law.go:50", #[⟨15, .data⟩, ⟨16, .chain⟩, ⟨0, .phase⟩, ⟨1, .phase⟩, ⟨2, .phase⟩, ⟨3, .phase⟩, ⟨4, .phase⟩, ⟨5, .phase⟩, ⟨6, .phase⟩, ⟨7, .phase⟩, ⟨8, .phase⟩, ⟨9, .phase⟩, ⟨10, .phase⟩, ⟨11, .phase⟩, ⟨12, .phase⟩, ⟨13, .phase⟩, ⟨14, .phase⟩, ⟨15, .phase⟩, ⟨16, .phase⟩], none⟩
def OPS24 : List Oper := [O24_0, O24_1, O24_2, O24_3, O24_4, O24_5, O24_6, O24_7, O24_8, O24_9, O24_10, O24_11, O24_12, O24_13, O24_14, O24_15, O24_16, O24_17]
def OPS25 : List Oper := [⟨some 139, .move (.tmp 9), 4, "law.go:52", #[], none⟩, ⟨some 140, .move (.tmp 10), 4, "law.go:52", #[], none⟩, ⟨some 141, .binOp .neq 4 (.tmp 139) (.tmp 140) 4, 4, "law.go:52", #[⟨0, .data⟩, ⟨1, .data⟩], none⟩]
def OPS26 : List Oper := [⟨some 4, .assign (.const (.bool false)), 4, "law.go:53", #[], none⟩]
def OPS27 : List Oper := [⟨some 143, .move (.tmp 5), 23, "law.go:55", #[], none⟩, ⟨some 144, .fieldAddr 29 (.tmp 8) 1, 0, "law.go:55", #[], none⟩, ⟨some 145, .load 3 (.tmp 144), 3, "law.go:55", #[⟨1, .data⟩], none⟩, ⟨some 146, .fieldAddr 29 (.tmp 8) 2, 0, "law.go:55", #[], none⟩, ⟨some 147, .load 3 (.tmp 146), 3, "law.go:55", #[⟨3, .data⟩], none⟩, ⟨some 148, .call { callee := (.value (.func 31)), args := #[(.tmp 143), (.tmp 145), (.tmp 147)], argTypes := #[23, 3, 3] }, 35, "law.go:55", #[⟨0, .data⟩, ⟨2, .data⟩, ⟨4, .data⟩], none⟩, ⟨some 142, .move (.tmp 148), 35, "law.go:55", #[⟨5, .data⟩], none⟩, ⟨some 149, .extract (.tmp 142) 0, 34, "law.go:55", #[⟨6, .data⟩], none⟩, ⟨some 150, .extract (.tmp 142) 1, 4, "law.go:55", #[⟨6, .data⟩, ⟨10, (Ground.gcOnly Departure.lateStores)⟩], none⟩, ⟨some 11, .alloc 34, 0, "law.go:55", #[], none⟩, ⟨none, .store 34 (.tmp 11) (.tmp 149), 0, "law.go:55", #[⟨9, .data⟩, ⟨7, .data⟩, ⟨5, .chain⟩, ⟨0, .phase⟩, ⟨1, .phase⟩, ⟨2, .phase⟩, ⟨3, .phase⟩, ⟨4, .phase⟩, ⟨5, .phase⟩, ⟨6, .phase⟩, ⟨7, .phase⟩, ⟨8, (Ground.textOnly Departure.lateStores)⟩, ⟨9, .phase⟩], none⟩, ⟨some 12, .assign (.tmp 150), 4, "law.go:55", #[⟨8, .data⟩, ⟨10, .chain⟩, ⟨0, .phase⟩, ⟨1, .phase⟩, ⟨2, .phase⟩, ⟨3, .phase⟩, ⟨4, .phase⟩, ⟨5, .phase⟩, ⟨6, .phase⟩, ⟨7, .phase⟩, ⟨8, .phase⟩, ⟨9, .phase⟩, ⟨10, .phase⟩], none⟩]
def OPS28 : List Oper := [⟨some 152, .move (.tmp 6), 26, "law.go:56", #[], none⟩, ⟨some 153, .fieldAddr 29 (.tmp 8) 1, 0, "law.go:56", #[], none⟩, ⟨some 154, .load 3 (.tmp 153), 3, "law.go:56", #[⟨1, .data⟩], none⟩, ⟨some 155, .fieldAddr 29 (.tmp 8) 2, 0, "law.go:56", #[], none⟩, ⟨some 156, .load 3 (.tmp 155), 3, "law.go:56", #[⟨3, .data⟩], none⟩, ⟨some 157, .call { callee := (.value (.func 32)), args := #[(.tmp 152), (.tmp 154), (.tmp 156)], argTypes := #[26, 3, 3] }, 35, "law.go:56", #[⟨0, .data⟩, ⟨2, .data⟩, ⟨4, .data⟩], none⟩, ⟨some 151, .move (.tmp 157), 35, "law.go:56", #[⟨5, .data⟩], none⟩, ⟨some 158, .extract (.tmp 151) 0, 34, "law.go:56", #[⟨6, .data⟩], none⟩, ⟨some 159, .extract (.tmp 151) 1, 4, "law.go:56", #[⟨6, .data⟩, ⟨10, (Ground.gcOnly Departure.lateStores)⟩], none⟩, ⟨some 13, .alloc 34, 0, "law.go:56", #[], none⟩, ⟨none, .store 34 (.tmp 13) (.tmp 158), 0, "law.go:56", #[⟨9, .data⟩, ⟨7, .data⟩, ⟨5, .chain⟩, ⟨0, .phase⟩, ⟨1, .phase⟩, ⟨2, .phase⟩, ⟨3, .phase⟩, ⟨4, .phase⟩, ⟨5, .phase⟩, ⟨6, .phase⟩, ⟨7, .phase⟩, ⟨8, (Ground.textOnly Departure.lateStores)⟩, ⟨9, .phase⟩], none⟩, ⟨some 14, .assign (.tmp 159), 4, "law.go:56", #[⟨8, .data⟩, ⟨10, .chain⟩, ⟨0, .phase⟩, ⟨1, .phase⟩, ⟨2, .phase⟩, ⟨3, .phase⟩, ⟨4, .phase⟩, ⟨5, .phase⟩, ⟨6, .phase⟩, ⟨7, .phase⟩, ⟨8, .phase⟩, ⟨9, .phase⟩, ⟨10, .phase⟩], none⟩]
def OPS29 : List Oper := [⟨some 161, .move (.tmp 5), 23, "law.go:57", #[], none⟩, ⟨some 162, .fieldAddr 29 (.tmp 8) 1, 0, "law.go:57", #[], none⟩, ⟨some 163, .load 3 (.tmp 162), 3, "law.go:57", #[⟨1, .data⟩], none⟩, ⟨some 164, .call { callee := (.value (.func 33)), args := #[(.tmp 161), (.tmp 163)], argTypes := #[23, 3] }, 37, "law.go:57", #[⟨0, .data⟩, ⟨2, .data⟩], none⟩, ⟨some 160, .move (.tmp 164), 37, "law.go:57", #[⟨3, .data⟩], none⟩, ⟨some 165, .extract (.tmp 160) 0, 3, "law.go:57", #[⟨4, .data⟩], none⟩, ⟨some 166, .extract (.tmp 160) 1, 3, "law.go:57", #[⟨4, .data⟩, ⟨8, (Ground.gcOnly Departure.lateStores)⟩], none⟩, ⟨some 167, .extract (.tmp 160) 2, 4, "law.go:57", #[⟨4, .data⟩, ⟨9, (Ground.gcOnly Departure.lateStores)⟩], none⟩, ⟨some 15, .assign (.tmp 165), 3, "law.go:57", #[⟨5, .data⟩, ⟨3, .chain⟩, ⟨0, .phase⟩, ⟨1, .phase⟩, ⟨2, .phase⟩, ⟨3, .phase⟩, ⟨4, .phase⟩, ⟨5, .phase⟩, ⟨6, (Ground.textOnly Departure.lateStores)⟩, ⟨7, (Ground.textOnly Departure.lateStores)⟩], none⟩, ⟨some 16, .assign (.tmp 166), 3, "law.go:57", #[⟨6, .data⟩, ⟨8, .chain⟩, ⟨0, .phase⟩, ⟨1, .phase⟩, ⟨2, .phase⟩, ⟨3, .phase⟩, ⟨4, .phase⟩, ⟨5, .phase⟩, ⟨6, .phase⟩, ⟨7, (Ground.textOnly Departure.lateStores)⟩, ⟨8, .phase⟩], none⟩, ⟨some 17, .assign (.tmp 167), 4, "law.go:57", #[⟨7, .data⟩, ⟨9, .chain⟩, ⟨0, .phase⟩, ⟨1, .phase⟩, ⟨2, .phase⟩, ⟨3, .phase⟩, ⟨4, .phase⟩, ⟨5, .phase⟩, ⟨6, .phase⟩, ⟨7, .phase⟩, ⟨8, .phase⟩, ⟨9, .phase⟩], none⟩]
def OPS30 : List Oper := [⟨some 169, .move (.tmp 6), 26, "law.go:58", #[], none⟩, ⟨some 170, .fieldAddr 29 (.tmp 8) 1, 0, "law.go:58", #[], none⟩, ⟨some 171, .load 3 (.tmp 170), 3, "law.go:58", #[⟨1, .data⟩], none⟩, ⟨some 172, .call { callee := (.value (.func 34)), args := #[(.tmp 169), (.tmp 171)], argTypes := #[26, 3] }, 37, "law.go:58", #[⟨0, .data⟩, ⟨2, .data⟩], none⟩, ⟨some 168, .move (.tmp 172), 37, "law.go:58", #[⟨3, .data⟩], none⟩, ⟨some 173, .extract (.tmp 168) 0, 3, "law.go:58", #[⟨4, .data⟩], none⟩, ⟨some 174, .extract (.tmp 168) 1, 3, "law.go:58", #[⟨4, .data⟩, ⟨8, (Ground.gcOnly Departure.lateStores)⟩], none⟩, ⟨some 175, .extract (.tmp 168) 2, 4, "law.go:58", #[⟨4, .data⟩, ⟨9, (Ground.gcOnly Departure.lateStores)⟩], none⟩, ⟨some 18, .assign (.tmp 173), 3, "law.go:58", #[⟨5, .data⟩, ⟨3, .chain⟩, ⟨0, .phase⟩, ⟨1, .phase⟩, ⟨2, .phase⟩, ⟨3, .phase⟩, ⟨4, .phase⟩, ⟨5, .phase⟩, ⟨6, (Ground.textOnly Departure.lateStores)⟩, ⟨7, (Ground.textOnly Departure.lateStores)⟩], none⟩, ⟨some 19, .assign (.tmp 174), 3, "law.go:58", #[⟨6, .data⟩, ⟨8, .chain⟩, ⟨0, .phase⟩, ⟨1, .phase⟩, ⟨2, .phase⟩, ⟨3, .phase⟩, ⟨4, .phase⟩, ⟨5, .phase⟩, ⟨6, .phase⟩, ⟨7, (Ground.textOnly Departure.lateStores)⟩, ⟨8, .phase⟩], none⟩, ⟨some 20, .assign (.tmp 175), 4, "law.go:58", #[⟨7, .data⟩, ⟨9, .chain⟩, ⟨0, .phase⟩, ⟨1, .phase⟩, ⟨2, .phase⟩, ⟨3, .phase⟩, ⟨4, .phase⟩, ⟨5, .phase⟩, ⟨6, .phase⟩, ⟨7, .phase⟩, ⟨8, .phase⟩, ⟨9, .phase⟩], none⟩]
def OPS31 : List Oper := [⟨some 177, .move (.tmp 5), 23, "law.go:59", #[], none⟩, ⟨some 178, .fieldAddr 29 (.tmp 8) 1, 0, "law.go:59", #[], none⟩, ⟨some 179, .load 3 (.tmp 178), 3, "law.go:59", #[⟨1, .data⟩], none⟩, ⟨some 180, .call { callee := (.value (.func 35)), args := #[(.tmp 177), (.tmp 179)], argTypes := #[23, 3] }, 39, "law.go:59", #[⟨0, .data⟩, ⟨2, .data⟩], none⟩, ⟨some 176, .move (.tmp 180), 39, "law.go:59", #[⟨3, .data⟩], none⟩, ⟨some 181, .extract (.tmp 176) 0, 3, "law.go:59", #[⟨4, .data⟩], none⟩, ⟨some 182, .extract (.tmp 176) 1, 4, "law.go:59", #[⟨4, .data⟩, ⟨7, (Ground.gcOnly Departure.lateStores)⟩], none⟩, ⟨some 21, .assign (.tmp 181), 3, "law.go:59", #[⟨5, .data⟩, ⟨3, .chain⟩, ⟨0, .phase⟩, ⟨1, .phase⟩, ⟨2, .phase⟩, ⟨3, .phase⟩, ⟨4, .phase⟩, ⟨5, .phase⟩, ⟨6, (Ground.textOnly Departure.lateStores)⟩], none⟩, ⟨some 22, .assign (.tmp 182), 4, "law.go:59", #[⟨6, .data⟩, ⟨7, .chain⟩, ⟨0, .phase⟩, ⟨1, .phase⟩, ⟨2, .phase⟩, ⟨3, .phase⟩, ⟨4, .phase⟩, ⟨5, .phase⟩, ⟨6, .phase⟩, ⟨7, .phase⟩], none⟩]
def OPS32 : List Oper := [⟨some 184, .move (.tmp 6), 26, "law.go:60", #[], none⟩, ⟨some 185, .fieldAddr 29 (.tmp 8) 1, 0, "law.go:60", #[], none⟩, ⟨some 186, .load 3 (.tmp 185), 3, "law.go:60", #[⟨1, .data⟩], none⟩, ⟨some 187, .call { callee := (.value (.func 36)), args := #[(.tmp 184), (.tmp 186)], argTypes := #[26, 3] }, 39, "law.go:60", #[⟨0, .data⟩, ⟨2, .data⟩], none⟩, ⟨some 183, .move (.tmp 187), 39, "law.go:60", #[⟨3, .data⟩], none⟩, ⟨some 188, .extract (.tmp 183) 0, 3, "law.go:60", #[⟨4, .data⟩], none⟩, ⟨some 189, .extract (.tmp 183) 1, 4, "law.go:60", #[⟨4, .data⟩, ⟨7, (Ground.gcOnly Departure.lateStores)⟩], none⟩, ⟨some 23, .assign (.tmp 188), 3, "law.go:60", #[⟨5, .data⟩, ⟨3, .chain⟩, ⟨0, .phase⟩, ⟨1, .phase⟩, ⟨2, .phase⟩, ⟨3, .phase⟩, ⟨4, .phase⟩, ⟨5, .phase⟩, ⟨6, (Ground.textOnly Departure.lateStores)⟩], none⟩, ⟨some 24, .assign (.tmp 189), 4, "law.go:60", #[⟨6, .data⟩, ⟨7, .chain⟩, ⟨0, .phase⟩, ⟨1, .phase⟩, ⟨2, .phase⟩, ⟨3, .phase⟩, ⟨4, .phase⟩, ⟨5, .phase⟩, ⟨6, .phase⟩, ⟨7, .phase⟩], none⟩]
def OPS34 : List Oper := [⟨some 4, .assign (.const (.bool false)), 4, "law.go:62", #[], none⟩]
def OPS35 : List Oper := [⟨some 302, .call { callee := (.value (.func 50)), args := #[], argTypes := #[] }, 4, "law.go:65", #[], none⟩, ⟨some 4, .assign (.tmp 302), 4, "law.go:65", #[⟨0, .data⟩, ⟨0, .chain⟩, ⟨0, .phase⟩], none⟩]
theorem rg6t {x : Option Addr} {len cap m p q : Nat} {NX : Act -> World -> Prop} {a0 : Act} {V : World} (K0 : Kn a0 303 [(1, .slice x len cap), (5, zp p 0), (6, zp q 0), (7, zi m)]) (e1 : (m : Int) < (len : Int)) (e2 : (m : Int) < 150) (hN : ∀ a' w', Kn a' 303 [(1, .slice x len cap), (5, zp p 0), (6, zp q 0), (7, zi m), (40, .bool true)] -> w' = V ->  NX a' w') :
  (Code.region 6 OPS6.toArray false).wp Try.prog (Norm NX) a0 V := by
 refine wp_region_lit ?_
 refine lT (zi m) V K0 (want_none rfl) (fun ev E => ?_) fun a1 K1 => ?_
 ·have EC := E.const; have E7 := E.tmp 7 _ rfl; clear E K0; go_simp
 refine lT (.slice x len cap) V K1 (want_none rfl) (fun ev E => ?_) fun a2 K2 => ?_
 ·have EC := E.const; have E1 := E.tmp 1 _ rfl; clear E K1; go_simp
 clear K1
 refine lT (zi len) V K2 (want_none rfl) (fun ev E => ?_) fun a3 K3 => ?_
 ·have EC := E.const; have E34 := E.tmp 34 _ rfl; clear E K2; go_simp
 clear K2
 refine lT (.bool true) V K3 (want_none rfl) (fun ev E => ?_) fun a4 K4 => ?_
 ·have EC := E.const; have E33 := E.tmp 33 _ rfl; have E35 := E.tmp 35 _ rfl; clear E K3; go_simp
 clear K3
 refine lT (.bool true) V K4 (want_none rfl) (fun ev E => ?_) fun a5 K5 => ?_
 ·have EC := E.const; have E36 := E.tmp 36 _ rfl; clear E K4; go_simp
 clear K4
 refine lT (zi m) V K5 (want_some K5 rfl rfl rfl) (fun ev E => ?_) fun a6 K6 => ?_
 ·have EC := E.const; have E7 := E.tmp 7 _ rfl; clear E K5; go_simp
 clear K5
 refine lT (.bool true) V K6 (want_some K6 rfl rfl rfl) (fun ev E => ?_) fun a7 K7 => ?_
 ·have EC := E.const; have E38 := E.tmp 38 _ rfl; clear E K6; go_simp
 clear K6
 refine lT (.bool true) V K7 (want_none rfl) (fun ev E => ?_) fun a8 K8 => ?_
 ·have EC := E.const; have E37 := E.tmp 37 _ rfl; have E39 := E.tmp 39 _ rfl; clear E K7; go_simp
 clear K7
 exact wpList_nil (hN _ _ (K8.less ⟨rfl, rfl, rfl, rfl, rfl, trivial⟩) rfl)
theorem rg6a {x : Option Addr} {len cap m p q : Nat} {NX : Act -> World -> Prop} {a0 : Act} {V : World} (K0 : Kn a0 303 [(1, .slice x len cap), (5, zp p 0), (6, zp q 0), (7, zi m)]) (e1 : ¬ (m : Int) < (len : Int)) (hN : ∀ a' w', Kn a' 303 [(1, .slice x len cap), (5, zp p 0), (6, zp q 0), (7, zi m), (40, .bool false)] -> w' = V ->  NX a' w') :
  (Code.region 6 OPS6.toArray false).wp Try.prog (Norm NX) a0 V := by
 refine wp_region_lit ?_
 refine lT (zi m) V K0 (want_none rfl) (fun ev E => ?_) fun a1 K1 => ?_
 ·have EC := E.const; have E7 := E.tmp 7 _ rfl; clear E K0; go_simp
 refine lT (.slice x len cap) V K1 (want_none rfl) (fun ev E => ?_) fun a2 K2 => ?_
 ·have EC := E.const; have E1 := E.tmp 1 _ rfl; clear E K1; go_simp
 clear K1
 refine lT (zi len) V K2 (want_none rfl) (fun ev E => ?_) fun a3 K3 => ?_
 ·have EC := E.const; have E34 := E.tmp 34 _ rfl; clear E K2; go_simp
 clear K2
 refine lT (.bool false) V K3 (want_none rfl) (fun ev E => ?_) fun a4 K4 => ?_
 ·have EC := E.const; have E33 := E.tmp 33 _ rfl; have E35 := E.tmp 35 _ rfl; clear E K3; go_simp
 clear K3
 refine lT (.bool false) V K4 (want_none rfl) (fun ev E => ?_) fun a5 K5 => ?_
 ·have EC := E.const; have E36 := E.tmp 36 _ rfl; clear E K4; go_simp
 clear K4
 refine lskip K5 rfl rfl (want_not K5 rfl rfl rfl (by decide)) (fun a6 K6 => ?_)
 clear K5
 refine lskip K6 rfl rfl (want_not K6 rfl rfl rfl (by decide)) (fun a7 K7 => ?_)
 clear K6
 refine lT (.bool false) V K7 (want_none rfl) (fun ev E => ?_) fun a8 K8 => ?_
 ·have EC := E.const; have E37 := E.tmp 37 _ rfl; have E39 := E.tmp 39 _ rfl; clear E K7; go_simp
 clear K7
 exact wpList_nil (hN _ _ (K8.less ⟨rfl, rfl, rfl, rfl, rfl, trivial⟩) rfl)
theorem rg6b {x : Option Addr} {len cap m p q : Nat} {NX : Act -> World -> Prop} {a0 : Act} {V : World} (K0 : Kn a0 303 [(1, .slice x len cap), (5, zp p 0), (6, zp q 0), (7, zi m)]) (e1 : (m : Int) < (len : Int)) (e2 : ¬ (m : Int) < 150) (hN : ∀ a' w', Kn a' 303 [(1, .slice x len cap), (5, zp p 0), (6, zp q 0), (7, zi m), (40, .bool false)] -> w' = V ->  NX a' w') :
  (Code.region 6 OPS6.toArray false).wp Try.prog (Norm NX) a0 V := by
 refine wp_region_lit ?_
 refine lT (zi m) V K0 (want_none rfl) (fun ev E => ?_) fun a1 K1 => ?_
 ·have EC := E.const; have E7 := E.tmp 7 _ rfl; clear E K0; go_simp
 refine lT (.slice x len cap) V K1 (want_none rfl) (fun ev E => ?_) fun a2 K2 => ?_
 ·have EC := E.const; have E1 := E.tmp 1 _ rfl; clear E K1; go_simp
 clear K1
 refine lT (zi len) V K2 (want_none rfl) (fun ev E => ?_) fun a3 K3 => ?_
 ·have EC := E.const; have E34 := E.tmp 34 _ rfl; clear E K2; go_simp
 clear K2
 refine lT (.bool true) V K3 (want_none rfl) (fun ev E => ?_) fun a4 K4 => ?_
 ·have EC := E.const; have E33 := E.tmp 33 _ rfl; have E35 := E.tmp 35 _ rfl; clear E K3; go_simp
 clear K3
 refine lT (.bool true) V K4 (want_none rfl) (fun ev E => ?_) fun a5 K5 => ?_
 ·have EC := E.const; have E36 := E.tmp 36 _ rfl; clear E K4; go_simp
 clear K4
 refine lT (zi m) V K5 (want_some K5 rfl rfl rfl) (fun ev E => ?_) fun a6 K6 => ?_
 ·have EC := E.const; have E7 := E.tmp 7 _ rfl; clear E K5; go_simp
 clear K5
 refine lT (.bool false) V K6 (want_some K6 rfl rfl rfl) (fun ev E => ?_) fun a7 K7 => ?_
 ·have EC := E.const; have E38 := E.tmp 38 _ rfl; clear E K6; go_simp
 clear K6
 refine lT (.bool false) V K7 (want_none rfl) (fun ev E => ?_) fun a8 K8 => ?_
 ·have EC := E.const; have E37 := E.tmp 37 _ rfl; have E39 := E.tmp 39 _ rfl; clear E K7; go_simp
 clear K7
 exact wpList_nil (hN _ _ (K8.less ⟨rfl, rfl, rfl, rfl, rfl, trivial⟩) rfl)
theorem rg8 {bx ox : Nat} {len cap m p q : Nat} {kd a b c : Int} {NX : Act -> World -> Prop} {a0 : Act} {V : World} (K0 : Kn a0 303 [(1, .slice (some ⟨bx, ox, none⟩) len cap), (5, zp p 0), (6, zp q 0), (7, zi m)]) (e1 : (m : Int) < (len : Int)) (e3 : (0 : Int) <= (m : Int)) (y0 : V.cell? ⟨bx, ox + m * 4, none⟩ = some (zi kd)) (y1 : V.cell? ⟨bx, ox + m * 4 + 1, none⟩ = some (zi a)) (y2 : V.cell? ⟨bx, ox + m * 4 + 2, none⟩ = some (zi b)) (y3 : V.cell? ⟨bx, ox + m * 4 + 3, none⟩ = some (zi c)) (hN : ∀ a' w', Kn a' 303 [(1, .slice (some ⟨bx, ox, none⟩) len cap), (5, zp p 0), (6, zp q 0), (7, zi m), (8, zp V.heap.size 0)] -> w' = V.alloc (.cells #[zi kd, zi a, zi b, zi c] 29) ->  NX a' w') :
  (Code.region 8 OPS8.toArray false).wp Try.prog (Norm NX) a0 V := by
 refine wp_region_lit ?_
 refine lT (.slice (some ⟨bx, ox, none⟩) len cap) V K0 (want_none rfl) (fun ev E => ?_) fun a1 K1 => ?_
 ·have EC := E.const; have E1 := E.tmp 1 _ rfl; clear E K0; go_simp
 refine lT (zi m) V K1 (want_none rfl) (fun ev E => ?_) fun a2 K2 => ?_
 ·have EC := E.const; have E7 := E.tmp 7 _ rfl; clear E K1; go_simp
 clear K1
 refine lT (zp bx (ox + m * 4)) V K2 (want_none rfl) (fun ev E => ?_) fun a3 K3 => ?_
 ·have EC := E.const; have E43 := E.tmp 43 _ rfl; have E44 := E.tmp 44 _ rfl; clear E K2; go_simp
 clear K2
 refine lT (.agg #[zi kd, zi a, zi b, zi c]) V K3 (want_none rfl) (fun ev E => ?_) fun a4 K4 => ?_
 ·have EC := E.const; have E45 := E.tmp 45 _ rfl; clear E K3; go_simp
 clear K3
 refine lT (zp V.heap.size 0) (V.alloc (.cells #[zi 0, zi 0, zi 0, zi 0] 29)) K4 (want_none rfl) (fun ev E => ?_) fun a5 K5 => ?_
 ·have EC := E.const; clear E K4; go_simp
 clear K4
 refine lstore (w' := V.alloc (.cells #[zi kd, zi a, zi b, zi c] 29)) K5 rfl (want_none rfl) (fun ev E => ?_) ?_
 ·have EC := E.const; have E8 := E.tmp 8 _ rfl; have E46 := E.tmp 46 _ rfl; clear E K5; go_simp
 have K6 := K5
 clear K5
 exact wpList_nil (hN _ _ (K6.less ⟨rfl, rfl, rfl, rfl, rfl, trivial⟩) rfl)
theorem rg9 {w : World} {p q b8 : Nat} {T : Tr} {x : Option Addr} {len cap m : Nat} {kd a b c : Int} {NX : Act -> World -> Prop} {a0 : Act} {V : World} (K0 : Kn a0 303 [(1, .slice x len cap), (5, zp p 0), (6, zp q 0), (7, zi m), (8, zp b8 0)]) (hN : ∀ a' w', Kn a' 303 [(1, .slice x len cap), (5, zp p 0), (6, zp q 0), (7, zi m), (8, zp b8 0), (9, .bool false), (10, .bool false)] -> w' = V ->  NX a' w') :
  (Code.region 9 OPS9.toArray false).wp Try.prog (Norm NX) a0 V := by
 refine wp_region_lit ?_
 refine lT (.bool false) V K0 (want_none rfl) (fun ev E => ?_) fun a1 K1 => ?_
 ·have EC := E.const; clear E K0; go_simp
 refine lT (.bool false) V K1 (want_none rfl) (fun ev E => ?_) fun a2 K2 => ?_
 ·have EC := E.const; clear E K1; go_simp
 clear K1
 exact wpList_nil (hN _ _ (K2.less ⟨rfl, rfl, rfl, rfl, rfl, rfl, rfl, trivial⟩) rfl)
theorem rg10 {w : World} {p q b8 : Nat} {T : Tr} {x : Option Addr} {len cap m : Nat} {kd a b c : Int} {NX : Act -> World -> Prop} {a0 : Act} {V : World} (K0 : Kn a0 303 [(1, .slice x len cap), (5, zp p 0), (6, zp q 0), (7, zi m), (8, zp b8 0), (9, .bool false), (10, .bool false)]) (X : BoxAt V b8 #[zi kd, zi a, zi b, zi c] 29) (hN : ∀ a' w', Kn a' 303 [(1, .slice x len cap), (5, zp p 0), (6, zp q 0), (7, zi m), (8, zp b8 0), (9, .bool false), (10, .bool false), (48, zi kd)] -> w' = V ->  NX a' w') :
  (Code.region 10 OPS10.toArray false).wp Try.prog (Norm NX) a0 V := by
 refine wp_region_lit ?_
 refine lT (zp b8 0) V K0 (want_none rfl) (fun ev E => ?_) fun a1 K1 => ?_
 ·have EC := E.const; have E8 := E.tmp 8 _ rfl; clear E K0; go_simp
 refine lT (zi kd) V K1 (want_none rfl) (fun ev E => ?_) fun a2 K2 => ?_
 ·have z0 : V.cell? ⟨b8, 0, none⟩ = some (zi kd) := (X.cell (o := 0) rfl).1; have EC := E.const; have E47 := E.tmp 47 _ rfl; clear E K1; go_simp
 clear K1
 exact wpList_nil (hN _ _ (K2.less ⟨rfl, rfl, rfl, rfl, rfl, rfl, rfl, rfl, trivial⟩) rfl)
theorem rg11t {w : World} {p q b8 : Nat} {T : Tr} {x : Option Addr} {len cap m : Nat} {kd a b c : Int} {NX : Act -> World -> Prop} {a0 : Act} {V : World} (K0 : Kn a0 303 [(1, .slice x len cap), (5, zp p 0), (6, zp q 0), (7, zi m), (8, zp b8 0), (9, .bool false), (10, .bool false), (48, zi 0)]) (hN : ∀ a' w', Kn a' 303 [(1, .slice x len cap), (5, zp p 0), (6, zp q 0), (7, zi m), (8, zp b8 0), (9, .bool false), (10, .bool false), (48, zi 0), (49, .bool true)] -> w' = V ->  NX a' w') :
  (Code.region 11 OPS11.toArray false).wp Try.prog (Norm NX) a0 V := by
 refine wp_region_lit ?_
 refine lT (.bool true) V K0 (want_none rfl) (fun ev E => ?_) fun a1 K1 => ?_
 ·have EC := E.const; have E48 := E.tmp 48 _ rfl; clear E K0; go_simp
 refine lT (.bool true) V K1 (want_none rfl) (fun ev E => ?_) fun a2 K2 => ?_
 ·have EC := E.const; have E50 := E.tmp 50 _ rfl; clear E K1; go_simp
 clear K1
 exact wpList_nil (hN _ _ (K2.less ⟨rfl, rfl, rfl, rfl, rfl, rfl, rfl, rfl, rfl, trivial⟩) rfl)
theorem rg11f {w : World} {p q b8 : Nat} {T : Tr} {x : Option Addr} {len cap m : Nat} {kd a b c : Int} {NX : Act -> World -> Prop} {a0 : Act} {V : World} (K0 : Kn a0 303 [(1, .slice x len cap), (5, zp p 0), (6, zp q 0), (7, zi m), (8, zp b8 0), (9, .bool false), (10, .bool false), (48, zi kd)]) (hq : (kd == 0) = false) (hN : ∀ a' w', Kn a' 303 [(1, .slice x len cap), (5, zp p 0), (6, zp q 0), (7, zi m), (8, zp b8 0), (9, .bool false), (10, .bool false), (48, zi kd), (49, .bool false)] -> w' = V ->  NX a' w') :
  (Code.region 11 OPS11.toArray false).wp Try.prog (Norm NX) a0 V := by
 refine wp_region_lit ?_
 refine lT (.bool false) V K0 (want_none rfl) (fun ev E => ?_) fun a1 K1 => ?_
 ·have EC := E.const; have E48 := E.tmp 48 _ rfl; clear E K0; go_simp
 refine lT (.bool false) V K1 (want_none rfl) (fun ev E => ?_) fun a2 K2 => ?_
 ·have EC := E.const; have E50 := E.tmp 50 _ rfl; clear E K1; go_simp
 clear K1
 exact wpList_nil (hN _ _ (K2.less ⟨rfl, rfl, rfl, rfl, rfl, rfl, rfl, rfl, rfl, trivial⟩) rfl)
theorem rg13t {w : World} {p q b8 : Nat} {T : Tr} {x : Option Addr} {len cap m : Nat} {kd a b c : Int} {NX : Act -> World -> Prop} {a0 : Act} {V : World} (K0 : Kn a0 303 [(1, .slice x len cap), (5, zp p 0), (6, zp q 0), (7, zi m), (8, zp b8 0), (9, .bool false), (10, .bool false), (48, zi 1)]) (hN : ∀ a' w', Kn a' 303 [(1, .slice x len cap), (5, zp p 0), (6, zp q 0), (7, zi m), (8, zp b8 0), (9, .bool false), (10, .bool false), (48, zi 1), (63, .bool true)] -> w' = V ->  NX a' w') :
  (Code.region 13 OPS13.toArray false).wp Try.prog (Norm NX) a0 V := by
 refine wp_region_lit ?_
 refine lT (.bool true) V K0 (want_none rfl) (fun ev E => ?_) fun a1 K1 => ?_
 ·have EC := E.const; have E48 := E.tmp 48 _ rfl; clear E K0; go_simp
 refine lT (.bool true) V K1 (want_none rfl) (fun ev E => ?_) fun a2 K2 => ?_
 ·have EC := E.const; have E64 := E.tmp 64 _ rfl; clear E K1; go_simp
 clear K1
 exact wpList_nil (hN _ _ (K2.less ⟨rfl, rfl, rfl, rfl, rfl, rfl, rfl, rfl, rfl, trivial⟩) rfl)
theorem rg13f {w : World} {p q b8 : Nat} {T : Tr} {x : Option Addr} {len cap m : Nat} {kd a b c : Int} {NX : Act -> World -> Prop} {a0 : Act} {V : World} (K0 : Kn a0 303 [(1, .slice x len cap), (5, zp p 0), (6, zp q 0), (7, zi m), (8, zp b8 0), (9, .bool false), (10, .bool false), (48, zi kd)]) (hq : (kd == 1) = false) (hN : ∀ a' w', Kn a' 303 [(1, .slice x len cap), (5, zp p 0), (6, zp q 0), (7, zi m), (8, zp b8 0), (9, .bool false), (10, .bool false), (48, zi kd), (63, .bool false)] -> w' = V ->  NX a' w') :
  (Code.region 13 OPS13.toArray false).wp Try.prog (Norm NX) a0 V := by
 refine wp_region_lit ?_
 refine lT (.bool false) V K0 (want_none rfl) (fun ev E => ?_) fun a1 K1 => ?_
 ·have EC := E.const; have E48 := E.tmp 48 _ rfl; clear E K0; go_simp
 refine lT (.bool false) V K1 (want_none rfl) (fun ev E => ?_) fun a2 K2 => ?_
 ·have EC := E.const; have E64 := E.tmp 64 _ rfl; clear E K1; go_simp
 clear K1
 exact wpList_nil (hN _ _ (K2.less ⟨rfl, rfl, rfl, rfl, rfl, rfl, rfl, rfl, rfl, trivial⟩) rfl)
theorem rg15t {w : World} {p q b8 : Nat} {T : Tr} {x : Option Addr} {len cap m : Nat} {kd a b c : Int} {NX : Act -> World -> Prop} {a0 : Act} {V : World} (K0 : Kn a0 303 [(1, .slice x len cap), (5, zp p 0), (6, zp q 0), (7, zi m), (8, zp b8 0), (9, .bool false), (10, .bool false), (48, zi 2)]) (hN : ∀ a' w', Kn a' 303 [(1, .slice x len cap), (5, zp p 0), (6, zp q 0), (7, zi m), (8, zp b8 0), (9, .bool false), (10, .bool false), (48, zi 2), (73, .bool true)] -> w' = V ->  NX a' w') :
  (Code.region 15 OPS15.toArray false).wp Try.prog (Norm NX) a0 V := by
 refine wp_region_lit ?_
 refine lT (.bool true) V K0 (want_none rfl) (fun ev E => ?_) fun a1 K1 => ?_
 ·have EC := E.const; have E48 := E.tmp 48 _ rfl; clear E K0; go_simp
 refine lT (.bool true) V K1 (want_none rfl) (fun ev E => ?_) fun a2 K2 => ?_
 ·have EC := E.const; have E74 := E.tmp 74 _ rfl; clear E K1; go_simp
 clear K1
 exact wpList_nil (hN _ _ (K2.less ⟨rfl, rfl, rfl, rfl, rfl, rfl, rfl, rfl, rfl, trivial⟩) rfl)
theorem rg15f {w : World} {p q b8 : Nat} {T : Tr} {x : Option Addr} {len cap m : Nat} {kd a b c : Int} {NX : Act -> World -> Prop} {a0 : Act} {V : World} (K0 : Kn a0 303 [(1, .slice x len cap), (5, zp p 0), (6, zp q 0), (7, zi m), (8, zp b8 0), (9, .bool false), (10, .bool false), (48, zi kd)]) (hq : (kd == 2) = false) (hN : ∀ a' w', Kn a' 303 [(1, .slice x len cap), (5, zp p 0), (6, zp q 0), (7, zi m), (8, zp b8 0), (9, .bool false), (10, .bool false), (48, zi kd), (73, .bool false)] -> w' = V ->  NX a' w') :
  (Code.region 15 OPS15.toArray false).wp Try.prog (Norm NX) a0 V := by
 refine wp_region_lit ?_
 refine lT (.bool false) V K0 (want_none rfl) (fun ev E => ?_) fun a1 K1 => ?_
 ·have EC := E.const; have E48 := E.tmp 48 _ rfl; clear E K0; go_simp
 refine lT (.bool false) V K1 (want_none rfl) (fun ev E => ?_) fun a2 K2 => ?_
 ·have EC := E.const; have E74 := E.tmp 74 _ rfl; clear E K1; go_simp
 clear K1
 exact wpList_nil (hN _ _ (K2.less ⟨rfl, rfl, rfl, rfl, rfl, rfl, rfl, rfl, rfl, trivial⟩) rfl)
theorem rg17t {w : World} {p q b8 : Nat} {T : Tr} {x : Option Addr} {len cap m : Nat} {kd a b c : Int} {NX : Act -> World -> Prop} {a0 : Act} {V : World} (K0 : Kn a0 303 [(1, .slice x len cap), (5, zp p 0), (6, zp q 0), (7, zi m), (8, zp b8 0), (9, .bool false), (10, .bool false), (48, zi 3)]) (hN : ∀ a' w', Kn a' 303 [(1, .slice x len cap), (5, zp p 0), (6, zp q 0), (7, zi m), (8, zp b8 0), (9, .bool false), (10, .bool false), (48, zi 3), (87, .bool true)] -> w' = V ->  NX a' w') :
  (Code.region 17 OPS17.toArray false).wp Try.prog (Norm NX) a0 V := by
 refine wp_region_lit ?_
 refine lT (.bool true) V K0 (want_none rfl) (fun ev E => ?_) fun a1 K1 => ?_
 ·have EC := E.const; have E48 := E.tmp 48 _ rfl; clear E K0; go_simp
 refine lT (.bool true) V K1 (want_none rfl) (fun ev E => ?_) fun a2 K2 => ?_
 ·have EC := E.const; have E88 := E.tmp 88 _ rfl; clear E K1; go_simp
 clear K1
 exact wpList_nil (hN _ _ (K2.less ⟨rfl, rfl, rfl, rfl, rfl, rfl, rfl, rfl, rfl, trivial⟩) rfl)
theorem rg17f {w : World} {p q b8 : Nat} {T : Tr} {x : Option Addr} {len cap m : Nat} {kd a b c : Int} {NX : Act -> World -> Prop} {a0 : Act} {V : World} (K0 : Kn a0 303 [(1, .slice x len cap), (5, zp p 0), (6, zp q 0), (7, zi m), (8, zp b8 0), (9, .bool false), (10, .bool false), (48, zi kd)]) (hq : (kd == 3) = false) (hN : ∀ a' w', Kn a' 303 [(1, .slice x len cap), (5, zp p 0), (6, zp q 0), (7, zi m), (8, zp b8 0), (9, .bool false), (10, .bool false), (48, zi kd), (87, .bool false)] -> w' = V ->  NX a' w') :
  (Code.region 17 OPS17.toArray false).wp Try.prog (Norm NX) a0 V := by
 refine wp_region_lit ?_
 refine lT (.bool false) V K0 (want_none rfl) (fun ev E => ?_) fun a1 K1 => ?_
 ·have EC := E.const; have E48 := E.tmp 48 _ rfl; clear E K0; go_simp
 refine lT (.bool false) V K1 (want_none rfl) (fun ev E => ?_) fun a2 K2 => ?_
 ·have EC := E.const; have E88 := E.tmp 88 _ rfl; clear E K1; go_simp
 clear K1
 exact wpList_nil (hN _ _ (K2.less ⟨rfl, rfl, rfl, rfl, rfl, rfl, rfl, rfl, rfl, trivial⟩) rfl)
theorem rg19t {w : World} {p q b8 : Nat} {T : Tr} {x : Option Addr} {len cap m : Nat} {kd a b c : Int} {NX : Act -> World -> Prop} {a0 : Act} {V : World} (K0 : Kn a0 303 [(1, .slice x len cap), (5, zp p 0), (6, zp q 0), (7, zi m), (8, zp b8 0), (9, .bool false), (10, .bool false), (48, zi 4)]) (hN : ∀ a' w', Kn a' 303 [(1, .slice x len cap), (5, zp p 0), (6, zp q 0), (7, zi m), (8, zp b8 0), (9, .bool false), (10, .bool false), (48, zi 4), (97, .bool true)] -> w' = V ->  NX a' w') :
  (Code.region 19 OPS19.toArray false).wp Try.prog (Norm NX) a0 V := by
 refine wp_region_lit ?_
 refine lT (.bool true) V K0 (want_none rfl) (fun ev E => ?_) fun a1 K1 => ?_
 ·have EC := E.const; have E48 := E.tmp 48 _ rfl; clear E K0; go_simp
 refine lT (.bool true) V K1 (want_none rfl) (fun ev E => ?_) fun a2 K2 => ?_
 ·have EC := E.const; have E98 := E.tmp 98 _ rfl; clear E K1; go_simp
 clear K1
 exact wpList_nil (hN _ _ (K2.less ⟨rfl, rfl, rfl, rfl, rfl, rfl, rfl, rfl, rfl, trivial⟩) rfl)
theorem rg19f {w : World} {p q b8 : Nat} {T : Tr} {x : Option Addr} {len cap m : Nat} {kd a b c : Int} {NX : Act -> World -> Prop} {a0 : Act} {V : World} (K0 : Kn a0 303 [(1, .slice x len cap), (5, zp p 0), (6, zp q 0), (7, zi m), (8, zp b8 0), (9, .bool false), (10, .bool false), (48, zi kd)]) (hq : (kd == 4) = false) (hN : ∀ a' w', Kn a' 303 [(1, .slice x len cap), (5, zp p 0), (6, zp q 0), (7, zi m), (8, zp b8 0), (9, .bool false), (10, .bool false), (48, zi kd), (97, .bool false)] -> w' = V ->  NX a' w') :
  (Code.region 19 OPS19.toArray false).wp Try.prog (Norm NX) a0 V := by
 refine wp_region_lit ?_
 refine lT (.bool false) V K0 (want_none rfl) (fun ev E => ?_) fun a1 K1 => ?_
 ·have EC := E.const; have E48 := E.tmp 48 _ rfl; clear E K0; go_simp
 refine lT (.bool false) V K1 (want_none rfl) (fun ev E => ?_) fun a2 K2 => ?_
 ·have EC := E.const; have E98 := E.tmp 98 _ rfl; clear E K1; go_simp
 clear K1
 exact wpList_nil (hN _ _ (K2.less ⟨rfl, rfl, rfl, rfl, rfl, rfl, rfl, rfl, rfl, trivial⟩) rfl)
theorem rg21t {w : World} {p q b8 : Nat} {T : Tr} {x : Option Addr} {len cap m : Nat} {kd a b c : Int} {NX : Act -> World -> Prop} {a0 : Act} {V : World} (K0 : Kn a0 303 [(1, .slice x len cap), (5, zp p 0), (6, zp q 0), (7, zi m), (8, zp b8 0), (9, .bool false), (10, .bool false), (48, zi 5)]) (hN : ∀ a' w', Kn a' 303 [(1, .slice x len cap), (5, zp p 0), (6, zp q 0), (7, zi m), (8, zp b8 0), (9, .bool false), (10, .bool false), (48, zi 5), (107, .bool true)] -> w' = V ->  NX a' w') :
  (Code.region 21 OPS21.toArray false).wp Try.prog (Norm NX) a0 V := by
 refine wp_region_lit ?_
 refine lT (.bool true) V K0 (want_none rfl) (fun ev E => ?_) fun a1 K1 => ?_
 ·have EC := E.const; have E48 := E.tmp 48 _ rfl; clear E K0; go_simp
 refine lT (.bool true) V K1 (want_none rfl) (fun ev E => ?_) fun a2 K2 => ?_
 ·have EC := E.const; have E108 := E.tmp 108 _ rfl; clear E K1; go_simp
 clear K1
 exact wpList_nil (hN _ _ (K2.less ⟨rfl, rfl, rfl, rfl, rfl, rfl, rfl, rfl, rfl, trivial⟩) rfl)
theorem rg21f {w : World} {p q b8 : Nat} {T : Tr} {x : Option Addr} {len cap m : Nat} {kd a b c : Int} {NX : Act -> World -> Prop} {a0 : Act} {V : World} (K0 : Kn a0 303 [(1, .slice x len cap), (5, zp p 0), (6, zp q 0), (7, zi m), (8, zp b8 0), (9, .bool false), (10, .bool false), (48, zi kd)]) (hq : (kd == 5) = false) (hN : ∀ a' w', Kn a' 303 [(1, .slice x len cap), (5, zp p 0), (6, zp q 0), (7, zi m), (8, zp b8 0), (9, .bool false), (10, .bool false), (48, zi kd), (107, .bool false)] -> w' = V ->  NX a' w') :
  (Code.region 21 OPS21.toArray false).wp Try.prog (Norm NX) a0 V := by
 refine wp_region_lit ?_
 refine lT (.bool false) V K0 (want_none rfl) (fun ev E => ?_) fun a1 K1 => ?_
 ·have EC := E.const; have E48 := E.tmp 48 _ rfl; clear E K0; go_simp
 refine lT (.bool false) V K1 (want_none rfl) (fun ev E => ?_) fun a2 K2 => ?_
 ·have EC := E.const; have E108 := E.tmp 108 _ rfl; clear E K1; go_simp
 clear K1
 exact wpList_nil (hN _ _ (K2.less ⟨rfl, rfl, rfl, rfl, rfl, rfl, rfl, rfl, rfl, trivial⟩) rfl)
theorem rg23t {w : World} {p q b8 : Nat} {T : Tr} {x : Option Addr} {len cap m : Nat} {kd a b c : Int} {NX : Act -> World -> Prop} {a0 : Act} {V : World} (K0 : Kn a0 303 [(1, .slice x len cap), (5, zp p 0), (6, zp q 0), (7, zi m), (8, zp b8 0), (9, .bool false), (10, .bool false), (48, zi 6)]) (hN : ∀ a' w', Kn a' 303 [(1, .slice x len cap), (5, zp p 0), (6, zp q 0), (7, zi m), (8, zp b8 0), (9, .bool false), (10, .bool false), (48, zi 6), (121, .bool true)] -> w' = V ->  NX a' w') :
  (Code.region 23 OPS23.toArray false).wp Try.prog (Norm NX) a0 V := by
 refine wp_region_lit ?_
 refine lT (.bool true) V K0 (want_none rfl) (fun ev E => ?_) fun a1 K1 => ?_
 ·have EC := E.const; have E48 := E.tmp 48 _ rfl; clear E K0; go_simp
 refine lT (.bool true) V K1 (want_none rfl) (fun ev E => ?_) fun a2 K2 => ?_
 ·have EC := E.const; have E122 := E.tmp 122 _ rfl; clear E K1; go_simp
 clear K1
 exact wpList_nil (hN _ _ (K2.less ⟨rfl, rfl, rfl, rfl, rfl, rfl, rfl, rfl, rfl, trivial⟩) rfl)
theorem rg23f {w : World} {p q b8 : Nat} {T : Tr} {x : Option Addr} {len cap m : Nat} {kd a b c : Int} {NX : Act -> World -> Prop} {a0 : Act} {V : World} (K0 : Kn a0 303 [(1, .slice x len cap), (5, zp p 0), (6, zp q 0), (7, zi m), (8, zp b8 0), (9, .bool false), (10, .bool false), (48, zi kd)]) (hq : (kd == 6) = false) (hN : ∀ a' w', Kn a' 303 [(1, .slice x len cap), (5, zp p 0), (6, zp q 0), (7, zi m), (8, zp b8 0), (9, .bool false), (10, .bool false), (48, zi kd), (121, .bool false)] -> w' = V ->  NX a' w') :
  (Code.region 23 OPS23.toArray false).wp Try.prog (Norm NX) a0 V := by
 refine wp_region_lit ?_
 refine lT (.bool false) V K0 (want_none rfl) (fun ev E => ?_) fun a1 K1 => ?_
 ·have EC := E.const; have E48 := E.tmp 48 _ rfl; clear E K0; go_simp
 refine lT (.bool false) V K1 (want_none rfl) (fun ev E => ?_) fun a2 K2 => ?_
 ·have EC := E.const; have E122 := E.tmp 122 _ rfl; clear E K1; go_simp
 clear K1
 exact wpList_nil (hN _ _ (K2.less ⟨rfl, rfl, rfl, rfl, rfl, rfl, rfl, rfl, rfl, trivial⟩) rfl)
theorem rg25 {w : World} {p q b8 : Nat} {T : Tr} {x : Option Addr} {len cap m : Nat} {kd a b c : Int} {r : Bool} {NX : Act -> World -> Prop} {a0 : Act} {V : World} (K0 : Kn a0 303 [(1, .slice x len cap), (5, zp p 0), (6, zp q 0), (7, zi m), (8, zp b8 0), (9, .bool r), (10, .bool r)]) (hN : ∀ a' w', Kn a' 303 [(1, .slice x len cap), (5, zp p 0), (6, zp q 0), (7, zi m), (8, zp b8 0), (141, .bool false)] -> w' = V ->  NX a' w') :
  (Code.region 25 OPS25.toArray false).wp Try.prog (Norm NX) a0 V := by
 refine wp_region_lit ?_
 refine lT (.bool r) V K0 (want_none rfl) (fun ev E => ?_) fun a1 K1 => ?_
 ·have EC := E.const; have E9 := E.tmp 9 _ rfl; clear E K0; go_simp
 refine lT (.bool r) V K1 (want_none rfl) (fun ev E => ?_) fun a2 K2 => ?_
 ·have EC := E.const; have E10 := E.tmp 10 _ rfl; clear E K1; go_simp
 clear K1
 refine lT (.bool false) V K2 (want_none rfl) (fun ev E => ?_) fun a3 K3 => ?_
 ·have EC := E.const; have E139 := E.tmp 139 _ rfl; have E140 := E.tmp 140 _ rfl; clear E K2; go_simp
 clear K2
 exact wpList_nil (hN _ _ (K3.less ⟨rfl, rfl, rfl, rfl, rfl, rfl, trivial⟩) rfl)
theorem rg27 {w : World} {p q b8 : Nat} {T : Tr} {x : Option Addr} {len cap m : Nat} {kd a b c : Int} {NX : Act -> World -> Prop} {a0 : Act} {V : World} (K0 : Kn a0 303 [(1, .slice x len cap), (5, zp p 0), (6, zp q 0), (7, zi m), (8, zp b8 0)]) (H : Ob2 RfAt w V p q T T [b8]) (X : BoxAt V b8 #[zi kd, zi a, zi b, zi c] 29) (hN : ∀ a' (bs1 : Nat) w', Kn a' 303 [(1, .slice x len cap), (5, zp p 0), (6, zp q 0), (7, zi m), (8, zp b8 0), (11, zp bs1 0), (12, .bool (T.sameI a b))] -> Ob2 RfAt w w' p q T T [bs1, b8] -> BoxAt w' b8 #[zi kd, zi a, zi b, zi c] 29 -> SumAt w' bs1 (T.pathI a b) ->  NX a' w') :
  (Code.region 27 OPS27.toArray false).wp Try.prog (Norm NX) a0 V := by
 refine wp_region_lit ?_
 refine lT (zp p 0) V K0 (want_none rfl) (fun ev E => ?_) fun a1 K1 => ?_
 ·have EC := E.const; have E5 := E.tmp 5 _ rfl; clear E K0; go_simp
 refine lT (zp b8 1) V K1 (want_none rfl) (fun ev E => ?_) fun a2 K2 => ?_
 ·have EC := E.const; have E8 := E.tmp 8 _ rfl; clear E K1; go_simp
 clear K1
 refine lT (zi a) V K2 (want_none rfl) (fun ev E => ?_) fun a3 K3 => ?_
 ·have z1 : V.cell? ⟨b8, 1, none⟩ = some (zi a) := (X.cell (o := 1) rfl).1; have EC := E.const; have E144 := E.tmp 144 _ rfl; clear E K2; go_simp
 clear K2
 refine lT (zp b8 2) V K3 (want_none rfl) (fun ev E => ?_) fun a4 K4 => ?_
 ·have EC := E.const; have E8 := E.tmp 8 _ rfl; clear E K3; go_simp
 clear K3
 refine lT (zi b) V K4 (want_none rfl) (fun ev E => ?_) fun a5 K5 => ?_
 ·have z2 : V.cell? ⟨b8, 2, none⟩ = some (zi b) := (X.cell (o := 2) rfl).1; have EC := E.const; have E146 := E.tmp 146 _ rfl; clear E K4; go_simp
 clear K4
 refine lcall (f := 31) (args := #[zp p 0, zi a, zi b]) K5 rfl rfl (want_none rfl) (fun ev E => ?_) (H.fst Rf.lies fun _ ha => aPath _ _ ha) (fun e V1 hR => ?_)
 ·have EC := E.const; have EF := E.func; have E143 := E.tmp 143 _ rfl; have E145 := E.tmp 145 _ rfl; have E147 := E.tmp 147 _ rfl; clear E K5; go_simp
 obtain ⟨rfl, h6, k6⟩ := hR
 replace X := X.kept k6 (by simp)
 replace H := h6
 clear h6 k6
 refine ⟨_, rfl, fun a6 K6 => ?_⟩
 clear K5
 refine lT (.tuple #[smV (T.pathI a b), .bool (T.sameI a b)]) V1 K6 (want_none rfl) (fun ev E => ?_) fun a7 K7 => ?_
 ·have EC := E.const; have E148 := E.tmp 148 _ rfl; clear E K6; go_simp
 clear K6
 refine lT (.agg #[zi (T.pathI a b).c, zi (T.pathI a b).s, zi (T.pathI a b).a, zi (T.pathI a b).b]) V1 K7 (want_none rfl) (fun ev E => ?_) fun a8 K8 => ?_
 ·have EC := E.const; have E142 := E.tmp 142 _ rfl; clear E K7; simp [smV, go_sem, *]
 clear K7
 refine lT (.bool (T.sameI a b)) V1 K8 (want_none rfl) (fun ev E => ?_) fun a9 K9 => ?_
 ·have EC := E.const; have E142 := E.tmp 142 _ rfl; clear E K8; go_simp
 clear K8
 refine lT (zp V1.heap.size 0) (V1.alloc (.cells #[zi 0, zi 0, zi 0, zi 0] 34)) K9 (want_none rfl) (fun ev E => ?_) fun a10 K10 => ?_
 ·have EC := E.const; clear E K9; go_simp
 clear K9
 refine lstore (w' := V1.alloc (.cells #[zi (T.pathI a b).c, zi (T.pathI a b).s, zi (T.pathI a b).a, zi (T.pathI a b).b] 34)) K10 rfl (want_none rfl) (fun ev E => ?_) ?_
 ·have EC := E.const; have E11 := E.tmp 11 _ rfl; have E149 := E.tmp 149 _ rfl; clear E K10; go_simp
 have K11 := K10
 clear K10
 refine lT (.bool (T.sameI a b)) (V1.alloc (.cells #[zi (T.pathI a b).c, zi (T.pathI a b).s, zi (T.pathI a b).a, zi (T.pathI a b).b] 34)) K11 (want_none rfl) (fun ev E => ?_) fun a12 K12 => ?_
 ·have EC := E.const; have E150 := E.tmp 150 _ rfl; clear E K11; go_simp
 clear K11
 exact wpList_nil (hN _ V1.heap.size _ (K12.less ⟨rfl, rfl, rfl, rfl, rfl, rfl, rfl, trivial⟩) (H.push Rf.lies (.cells #[zi (T.pathI a b).c, zi (T.pathI a b).s, zi (T.pathI a b).a, zi (T.pathI a b).b] 34)) (X.kept (H.alloc Rf.lies (.cells #[zi (T.pathI a b).c, zi (T.pathI a b).s, zi (T.pathI a b).a, zi (T.pathI a b).b] 34)).2 (by simp)) (SumAt.new V1 34 _ _ _ _))
theorem rg28 {w : World} {p q b8 : Nat} {T : Tr} {x : Option Addr} {len cap m : Nat} {kd a b c : Int} {bs1 : Nat} {NX : Act -> World -> Prop} {a0 : Act} {V : World} (K0 : Kn a0 303 [(1, .slice x len cap), (5, zp p 0), (6, zp q 0), (7, zi m), (8, zp b8 0), (11, zp bs1 0), (12, .bool (T.sameI a b))]) (H : Ob2 RfAt w V p q T T [bs1, b8]) (X : BoxAt V b8 #[zi kd, zi a, zi b, zi c] 29) (S1 : SumAt V bs1 (T.pathI a b)) (hN : ∀ a' (bs2 : Nat) w', Kn a' 303 [(1, .slice x len cap), (5, zp p 0), (6, zp q 0), (7, zi m), (8, zp b8 0), (11, zp bs1 0), (12, .bool (T.sameI a b)), (13, zp bs2 0), (14, .bool (T.sameI a b))] -> Ob2 RfAt w w' p q T T [bs2, bs1, b8] -> BoxAt w' b8 #[zi kd, zi a, zi b, zi c] 29 -> SumAt w' bs1 (T.pathI a b) -> SumAt w' bs2 (T.pathI a b) ->  NX a' w') :
  (Code.region 28 OPS28.toArray false).wp Try.prog (Norm NX) a0 V := by
 refine wp_region_lit ?_
 refine lT (zp q 0) V K0 (want_none rfl) (fun ev E => ?_) fun a1 K1 => ?_
 ·have EC := E.const; have E6 := E.tmp 6 _ rfl; clear E K0; go_simp
 refine lT (zp b8 1) V K1 (want_none rfl) (fun ev E => ?_) fun a2 K2 => ?_
 ·have EC := E.const; have E8 := E.tmp 8 _ rfl; clear E K1; go_simp
 clear K1
 refine lT (zi a) V K2 (want_none rfl) (fun ev E => ?_) fun a3 K3 => ?_
 ·have z1 : V.cell? ⟨b8, 1, none⟩ = some (zi a) := (X.cell (o := 1) rfl).1; have EC := E.const; have E153 := E.tmp 153 _ rfl; clear E K2; go_simp
 clear K2
 refine lT (zp b8 2) V K3 (want_none rfl) (fun ev E => ?_) fun a4 K4 => ?_
 ·have EC := E.const; have E8 := E.tmp 8 _ rfl; clear E K3; go_simp
 clear K3
 refine lT (zi b) V K4 (want_none rfl) (fun ev E => ?_) fun a5 K5 => ?_
 ·have z2 : V.cell? ⟨b8, 2, none⟩ = some (zi b) := (X.cell (o := 2) rfl).1; have EC := E.const; have E155 := E.tmp 155 _ rfl; clear E K4; go_simp
 clear K4
 refine lcall (f := 32) (args := #[zp q 0, zi a, zi b]) K5 rfl rfl (want_none rfl) (fun ev E => ?_) (H.snd Rf.lies fun _ ha => xPath _ _ ha) (fun e V1 hR => ?_)
 ·have EC := E.const; have EF := E.func; have E152 := E.tmp 152 _ rfl; have E154 := E.tmp 154 _ rfl; have E156 := E.tmp 156 _ rfl; clear E K5; go_simp
 obtain ⟨rfl, h6, k6⟩ := hR
 replace X := X.kept k6 (by simp)
 replace S1 := S1.kept k6 (by simp)
 replace H := h6
 clear h6 k6
 refine ⟨_, rfl, fun a6 K6 => ?_⟩
 clear K5
 refine lT (.tuple #[smV (T.pathI a b), .bool (T.sameI a b)]) V1 K6 (want_none rfl) (fun ev E => ?_) fun a7 K7 => ?_
 ·have EC := E.const; have E157 := E.tmp 157 _ rfl; clear E K6; go_simp
 clear K6
 refine lT (.agg #[zi (T.pathI a b).c, zi (T.pathI a b).s, zi (T.pathI a b).a, zi (T.pathI a b).b]) V1 K7 (want_none rfl) (fun ev E => ?_) fun a8 K8 => ?_
 ·have EC := E.const; have E151 := E.tmp 151 _ rfl; clear E K7; simp [smV, go_sem, *]
 clear K7
 refine lT (.bool (T.sameI a b)) V1 K8 (want_none rfl) (fun ev E => ?_) fun a9 K9 => ?_
 ·have EC := E.const; have E151 := E.tmp 151 _ rfl; clear E K8; go_simp
 clear K8
 refine lT (zp V1.heap.size 0) (V1.alloc (.cells #[zi 0, zi 0, zi 0, zi 0] 34)) K9 (want_none rfl) (fun ev E => ?_) fun a10 K10 => ?_
 ·have EC := E.const; clear E K9; go_simp
 clear K9
 refine lstore (w' := V1.alloc (.cells #[zi (T.pathI a b).c, zi (T.pathI a b).s, zi (T.pathI a b).a, zi (T.pathI a b).b] 34)) K10 rfl (want_none rfl) (fun ev E => ?_) ?_
 ·have EC := E.const; have E13 := E.tmp 13 _ rfl; have E158 := E.tmp 158 _ rfl; clear E K10; go_simp
 have K11 := K10
 clear K10
 refine lT (.bool (T.sameI a b)) (V1.alloc (.cells #[zi (T.pathI a b).c, zi (T.pathI a b).s, zi (T.pathI a b).a, zi (T.pathI a b).b] 34)) K11 (want_none rfl) (fun ev E => ?_) fun a12 K12 => ?_
 ·have EC := E.const; have E159 := E.tmp 159 _ rfl; clear E K11; go_simp
 clear K11
 exact wpList_nil (hN _ V1.heap.size _ (K12.less ⟨rfl, rfl, rfl, rfl, rfl, rfl, rfl, rfl, rfl, trivial⟩) (H.push Rf.lies (.cells #[zi (T.pathI a b).c, zi (T.pathI a b).s, zi (T.pathI a b).a, zi (T.pathI a b).b] 34)) (X.kept (H.alloc Rf.lies (.cells #[zi (T.pathI a b).c, zi (T.pathI a b).s, zi (T.pathI a b).a, zi (T.pathI a b).b] 34)).2 (by simp)) (S1.kept (H.alloc Rf.lies (.cells #[zi (T.pathI a b).c, zi (T.pathI a b).s, zi (T.pathI a b).a, zi (T.pathI a b).b] 34)).2 (by simp)) (SumAt.new V1 34 _ _ _ _))
theorem rg29 {w : World} {p q b8 : Nat} {T : Tr} {x : Option Addr} {len cap m : Nat} {kd a b c : Int} {bs1 bs2 : Nat} {NX : Act -> World -> Prop} {a0 : Act} {V : World} (K0 : Kn a0 303 [(1, .slice x len cap), (5, zp p 0), (6, zp q 0), (7, zi m), (8, zp b8 0), (11, zp bs1 0), (12, .bool (T.sameI a b)), (13, zp bs2 0), (14, .bool (T.sameI a b))]) (H : Ob2 RfAt w V p q T T [bs2, bs1, b8]) (X : BoxAt V b8 #[zi kd, zi a, zi b, zi c] 29) (S1 : SumAt V bs1 (T.pathI a b)) (S2 : SumAt V bs2 (T.pathI a b)) (hN : ∀ a' w', Kn a' 303 [(1, .slice x len cap), (5, zp p 0), (6, zp q 0), (7, zi m), (8, zp b8 0), (11, zp bs1 0), (12, .bool (T.sameI a b)), (13, zp bs2 0), (14, .bool (T.sameI a b)), (15, zi (T.subI a).c), (16, zi (T.subI a).s), (17, .bool (T.hasI a))] -> Ob2 RfAt w w' p q T T [bs2, bs1, b8] -> BoxAt w' b8 #[zi kd, zi a, zi b, zi c] 29 -> SumAt w' bs1 (T.pathI a b) -> SumAt w' bs2 (T.pathI a b) ->  NX a' w') :
  (Code.region 29 OPS29.toArray false).wp Try.prog (Norm NX) a0 V := by
 refine wp_region_lit ?_
 refine lT (zp p 0) V K0 (want_none rfl) (fun ev E => ?_) fun a1 K1 => ?_
 ·have EC := E.const; have E5 := E.tmp 5 _ rfl; clear E K0; go_simp
 refine lT (zp b8 1) V K1 (want_none rfl) (fun ev E => ?_) fun a2 K2 => ?_
 ·have EC := E.const; have E8 := E.tmp 8 _ rfl; clear E K1; go_simp
 clear K1
 refine lT (zi a) V K2 (want_none rfl) (fun ev E => ?_) fun a3 K3 => ?_
 ·have z1 : V.cell? ⟨b8, 1, none⟩ = some (zi a) := (X.cell (o := 1) rfl).1; have EC := E.const; have E162 := E.tmp 162 _ rfl; clear E K2; go_simp
 clear K2
 refine lcall (f := 33) (args := #[zp p 0, zi a]) K3 rfl rfl (want_none rfl) (fun ev E => ?_) (H.fst Rf.lies fun _ ha => aSub _ ha) (fun e V1 hR => ?_)
 ·have EC := E.const; have EF := E.func; have E161 := E.tmp 161 _ rfl; have E163 := E.tmp 163 _ rfl; clear E K3; go_simp
 obtain ⟨rfl, h6, k6⟩ := hR
 replace X := X.kept k6 (by simp)
 replace S1 := S1.kept k6 (by simp)
 replace S2 := S2.kept k6 (by simp)
 replace H := h6
 clear h6 k6
 refine ⟨_, rfl, fun a4 K4 => ?_⟩
 clear K3
 refine lT (.tuple #[zi (T.subI a).c, zi (T.subI a).s, .bool (T.hasI a)]) V1 K4 (want_none rfl) (fun ev E => ?_) fun a5 K5 => ?_
 ·have EC := E.const; have E164 := E.tmp 164 _ rfl; clear E K4; go_simp
 clear K4
 refine lT (zi (T.subI a).c) V1 K5 (want_none rfl) (fun ev E => ?_) fun a6 K6 => ?_
 ·have EC := E.const; have E160 := E.tmp 160 _ rfl; clear E K5; go_simp
 clear K5
 refine lT (zi (T.subI a).s) V1 K6 (want_none rfl) (fun ev E => ?_) fun a7 K7 => ?_
 ·have EC := E.const; have E160 := E.tmp 160 _ rfl; clear E K6; go_simp
 clear K6
 refine lT (.bool (T.hasI a)) V1 K7 (want_none rfl) (fun ev E => ?_) fun a8 K8 => ?_
 ·have EC := E.const; have E160 := E.tmp 160 _ rfl; clear E K7; go_simp
 clear K7
 refine lT (zi (T.subI a).c) V1 K8 (want_none rfl) (fun ev E => ?_) fun a9 K9 => ?_
 ·have EC := E.const; have E165 := E.tmp 165 _ rfl; clear E K8; go_simp
 clear K8
 refine lT (zi (T.subI a).s) V1 K9 (want_none rfl) (fun ev E => ?_) fun a10 K10 => ?_
 ·have EC := E.const; have E166 := E.tmp 166 _ rfl; clear E K9; go_simp
 clear K9
 refine lT (.bool (T.hasI a)) V1 K10 (want_none rfl) (fun ev E => ?_) fun a11 K11 => ?_
 ·have EC := E.const; have E167 := E.tmp 167 _ rfl; clear E K10; go_simp
 clear K10
 exact wpList_nil (hN _ _ (K11.less ⟨rfl, rfl, rfl, rfl, rfl, rfl, rfl, rfl, rfl, rfl, rfl, rfl, trivial⟩) H X S1 S2)
theorem rg30 {w : World} {p q b8 : Nat} {T : Tr} {x : Option Addr} {len cap m : Nat} {kd a b c : Int} {bs1 bs2 : Nat} {NX : Act -> World -> Prop} {a0 : Act} {V : World} (K0 : Kn a0 303 [(1, .slice x len cap), (5, zp p 0), (6, zp q 0), (7, zi m), (8, zp b8 0), (11, zp bs1 0), (12, .bool (T.sameI a b)), (13, zp bs2 0), (14, .bool (T.sameI a b)), (15, zi (T.subI a).c), (16, zi (T.subI a).s), (17, .bool (T.hasI a))]) (H : Ob2 RfAt w V p q T T [bs2, bs1, b8]) (X : BoxAt V b8 #[zi kd, zi a, zi b, zi c] 29) (S1 : SumAt V bs1 (T.pathI a b)) (S2 : SumAt V bs2 (T.pathI a b)) (hN : ∀ a' w', Kn a' 303 [(1, .slice x len cap), (5, zp p 0), (6, zp q 0), (7, zi m), (8, zp b8 0), (11, zp bs1 0), (12, .bool (T.sameI a b)), (13, zp bs2 0), (14, .bool (T.sameI a b)), (15, zi (T.subI a).c), (16, zi (T.subI a).s), (17, .bool (T.hasI a)), (18, zi (T.subI a).c), (19, zi (T.subI a).s), (20, .bool (T.hasI a))] -> Ob2 RfAt w w' p q T T [bs2, bs1, b8] -> BoxAt w' b8 #[zi kd, zi a, zi b, zi c] 29 -> SumAt w' bs1 (T.pathI a b) -> SumAt w' bs2 (T.pathI a b) ->  NX a' w') :
  (Code.region 30 OPS30.toArray false).wp Try.prog (Norm NX) a0 V := by
 refine wp_region_lit ?_
 refine lT (zp q 0) V K0 (want_none rfl) (fun ev E => ?_) fun a1 K1 => ?_
 ·have EC := E.const; have E6 := E.tmp 6 _ rfl; clear E K0; go_simp
 refine lT (zp b8 1) V K1 (want_none rfl) (fun ev E => ?_) fun a2 K2 => ?_
 ·have EC := E.const; have E8 := E.tmp 8 _ rfl; clear E K1; go_simp
 clear K1
 refine lT (zi a) V K2 (want_none rfl) (fun ev E => ?_) fun a3 K3 => ?_
 ·have z1 : V.cell? ⟨b8, 1, none⟩ = some (zi a) := (X.cell (o := 1) rfl).1; have EC := E.const; have E170 := E.tmp 170 _ rfl; clear E K2; go_simp
 clear K2
 refine lcall (f := 34) (args := #[zp q 0, zi a]) K3 rfl rfl (want_none rfl) (fun ev E => ?_) (H.snd Rf.lies fun _ ha => xSub _ ha) (fun e V1 hR => ?_)
 ·have EC := E.const; have EF := E.func; have E169 := E.tmp 169 _ rfl; have E171 := E.tmp 171 _ rfl; clear E K3; go_simp
 obtain ⟨rfl, h6, k6⟩ := hR
 replace X := X.kept k6 (by simp)
 replace S1 := S1.kept k6 (by simp)
 replace S2 := S2.kept k6 (by simp)
 replace H := h6
 clear h6 k6
 refine ⟨_, rfl, fun a4 K4 => ?_⟩
 clear K3
 refine lT (.tuple #[zi (T.subI a).c, zi (T.subI a).s, .bool (T.hasI a)]) V1 K4 (want_none rfl) (fun ev E => ?_) fun a5 K5 => ?_
 ·have EC := E.const; have E172 := E.tmp 172 _ rfl; clear E K4; go_simp
 clear K4
 refine lT (zi (T.subI a).c) V1 K5 (want_none rfl) (fun ev E => ?_) fun a6 K6 => ?_
 ·have EC := E.const; have E168 := E.tmp 168 _ rfl; clear E K5; go_simp
 clear K5
 refine lT (zi (T.subI a).s) V1 K6 (want_none rfl) (fun ev E => ?_) fun a7 K7 => ?_
 ·have EC := E.const; have E168 := E.tmp 168 _ rfl; clear E K6; go_simp
 clear K6
 refine lT (.bool (T.hasI a)) V1 K7 (want_none rfl) (fun ev E => ?_) fun a8 K8 => ?_
 ·have EC := E.const; have E168 := E.tmp 168 _ rfl; clear E K7; go_simp
 clear K7
 refine lT (zi (T.subI a).c) V1 K8 (want_none rfl) (fun ev E => ?_) fun a9 K9 => ?_
 ·have EC := E.const; have E173 := E.tmp 173 _ rfl; clear E K8; go_simp
 clear K8
 refine lT (zi (T.subI a).s) V1 K9 (want_none rfl) (fun ev E => ?_) fun a10 K10 => ?_
 ·have EC := E.const; have E174 := E.tmp 174 _ rfl; clear E K9; go_simp
 clear K9
 refine lT (.bool (T.hasI a)) V1 K10 (want_none rfl) (fun ev E => ?_) fun a11 K11 => ?_
 ·have EC := E.const; have E175 := E.tmp 175 _ rfl; clear E K10; go_simp
 clear K10
 exact wpList_nil (hN _ _ (K11.less ⟨rfl, rfl, rfl, rfl, rfl, rfl, rfl, rfl, rfl, rfl, rfl, rfl, rfl, rfl, rfl, trivial⟩) H X S1 S2)
theorem rg31 {w : World} {p q b8 : Nat} {T : Tr} {x : Option Addr} {len cap m : Nat} {kd a b c : Int} {bs1 bs2 : Nat} {NX : Act -> World -> Prop} {a0 : Act} {V : World} (K0 : Kn a0 303 [(1, .slice x len cap), (5, zp p 0), (6, zp q 0), (7, zi m), (8, zp b8 0), (11, zp bs1 0), (12, .bool (T.sameI a b)), (13, zp bs2 0), (14, .bool (T.sameI a b)), (15, zi (T.subI a).c), (16, zi (T.subI a).s), (17, .bool (T.hasI a)), (18, zi (T.subI a).c), (19, zi (T.subI a).s), (20, .bool (T.hasI a))]) (H : Ob2 RfAt w V p q T T [bs2, bs1, b8]) (X : BoxAt V b8 #[zi kd, zi a, zi b, zi c] 29) (S1 : SumAt V bs1 (T.pathI a b)) (S2 : SumAt V bs2 (T.pathI a b)) (hN : ∀ a' w', Kn a' 303 [(1, .slice x len cap), (5, zp p 0), (6, zp q 0), (7, zi m), (8, zp b8 0), (11, zp bs1 0), (12, .bool (T.sameI a b)), (13, zp bs2 0), (14, .bool (T.sameI a b)), (15, zi (T.subI a).c), (16, zi (T.subI a).s), (17, .bool (T.hasI a)), (18, zi (T.subI a).c), (19, zi (T.subI a).s), (20, .bool (T.hasI a)), (21, zi (T.getI a)), (22, .bool (T.hasI a))] -> Ob2 RfAt w w' p q T T [bs2, bs1, b8] -> BoxAt w' b8 #[zi kd, zi a, zi b, zi c] 29 -> SumAt w' bs1 (T.pathI a b) -> SumAt w' bs2 (T.pathI a b) ->  NX a' w') :
  (Code.region 31 OPS31.toArray false).wp Try.prog (Norm NX) a0 V := by
 refine wp_region_lit ?_
 refine lT (zp p 0) V K0 (want_none rfl) (fun ev E => ?_) fun a1 K1 => ?_
 ·have EC := E.const; have E5 := E.tmp 5 _ rfl; clear E K0; go_simp
 refine lT (zp b8 1) V K1 (want_none rfl) (fun ev E => ?_) fun a2 K2 => ?_
 ·have EC := E.const; have E8 := E.tmp 8 _ rfl; clear E K1; go_simp
 clear K1
 refine lT (zi a) V K2 (want_none rfl) (fun ev E => ?_) fun a3 K3 => ?_
 ·have z1 : V.cell? ⟨b8, 1, none⟩ = some (zi a) := (X.cell (o := 1) rfl).1; have EC := E.const; have E178 := E.tmp 178 _ rfl; clear E K2; go_simp
 clear K2
 refine lcall (f := 35) (args := #[zp p 0, zi a]) K3 rfl rfl (want_none rfl) (fun ev E => ?_) (H.fst Rf.lies fun _ ha => aGet _ ha) (fun e V1 hR => ?_)
 ·have EC := E.const; have EF := E.func; have E177 := E.tmp 177 _ rfl; have E179 := E.tmp 179 _ rfl; clear E K3; go_simp
 obtain ⟨rfl, h6, k6⟩ := hR
 replace X := X.kept k6 (by simp)
 replace S1 := S1.kept k6 (by simp)
 replace S2 := S2.kept k6 (by simp)
 replace H := h6
 clear h6 k6
 refine ⟨_, rfl, fun a4 K4 => ?_⟩
 clear K3
 refine lT (.tuple #[zi (T.getI a), .bool (T.hasI a)]) V1 K4 (want_none rfl) (fun ev E => ?_) fun a5 K5 => ?_
 ·have EC := E.const; have E180 := E.tmp 180 _ rfl; clear E K4; go_simp
 clear K4
 refine lT (zi (T.getI a)) V1 K5 (want_none rfl) (fun ev E => ?_) fun a6 K6 => ?_
 ·have EC := E.const; have E176 := E.tmp 176 _ rfl; clear E K5; go_simp
 clear K5
 refine lT (.bool (T.hasI a)) V1 K6 (want_none rfl) (fun ev E => ?_) fun a7 K7 => ?_
 ·have EC := E.const; have E176 := E.tmp 176 _ rfl; clear E K6; go_simp
 clear K6
 refine lT (zi (T.getI a)) V1 K7 (want_none rfl) (fun ev E => ?_) fun a8 K8 => ?_
 ·have EC := E.const; have E181 := E.tmp 181 _ rfl; clear E K7; go_simp
 clear K7
 refine lT (.bool (T.hasI a)) V1 K8 (want_none rfl) (fun ev E => ?_) fun a9 K9 => ?_
 ·have EC := E.const; have E182 := E.tmp 182 _ rfl; clear E K8; go_simp
 clear K8
 exact wpList_nil (hN _ _ (K9.less ⟨rfl, rfl, rfl, rfl, rfl, rfl, rfl, rfl, rfl, rfl, rfl, rfl, rfl, rfl, rfl, rfl, rfl, trivial⟩) H X S1 S2)
theorem rg32 {w : World} {p q b8 : Nat} {T : Tr} {x : Option Addr} {len cap m : Nat} {kd a b c : Int} {bs1 bs2 : Nat} {NX : Act -> World -> Prop} {a0 : Act} {V : World} (K0 : Kn a0 303 [(1, .slice x len cap), (5, zp p 0), (6, zp q 0), (7, zi m), (8, zp b8 0), (11, zp bs1 0), (12, .bool (T.sameI a b)), (13, zp bs2 0), (14, .bool (T.sameI a b)), (15, zi (T.subI a).c), (16, zi (T.subI a).s), (17, .bool (T.hasI a)), (18, zi (T.subI a).c), (19, zi (T.subI a).s), (20, .bool (T.hasI a)), (21, zi (T.getI a)), (22, .bool (T.hasI a))]) (H : Ob2 RfAt w V p q T T [bs2, bs1, b8]) (X : BoxAt V b8 #[zi kd, zi a, zi b, zi c] 29) (S1 : SumAt V bs1 (T.pathI a b)) (S2 : SumAt V bs2 (T.pathI a b)) (hN : ∀ a' w', Kn a' 303 [(1, .slice x len cap), (5, zp p 0), (6, zp q 0), (7, zi m), (8, zp b8 0), (11, zp bs1 0), (12, .bool (T.sameI a b)), (13, zp bs2 0), (14, .bool (T.sameI a b)), (15, zi (T.subI a).c), (16, zi (T.subI a).s), (17, .bool (T.hasI a)), (18, zi (T.subI a).c), (19, zi (T.subI a).s), (20, .bool (T.hasI a)), (21, zi (T.getI a)), (22, .bool (T.hasI a)), (23, zi (T.getI a)), (24, .bool (T.hasI a))] -> Ob2 RfAt w w' p q T T [bs2, bs1, b8] -> BoxAt w' b8 #[zi kd, zi a, zi b, zi c] 29 -> SumAt w' bs1 (T.pathI a b) -> SumAt w' bs2 (T.pathI a b) ->  NX a' w') :
  (Code.region 32 OPS32.toArray false).wp Try.prog (Norm NX) a0 V := by
 refine wp_region_lit ?_
 refine lT (zp q 0) V K0 (want_none rfl) (fun ev E => ?_) fun a1 K1 => ?_
 ·have EC := E.const; have E6 := E.tmp 6 _ rfl; clear E K0; go_simp
 refine lT (zp b8 1) V K1 (want_none rfl) (fun ev E => ?_) fun a2 K2 => ?_
 ·have EC := E.const; have E8 := E.tmp 8 _ rfl; clear E K1; go_simp
 clear K1
 refine lT (zi a) V K2 (want_none rfl) (fun ev E => ?_) fun a3 K3 => ?_
 ·have z1 : V.cell? ⟨b8, 1, none⟩ = some (zi a) := (X.cell (o := 1) rfl).1; have EC := E.const; have E185 := E.tmp 185 _ rfl; clear E K2; go_simp
 clear K2
 refine lcall (f := 36) (args := #[zp q 0, zi a]) K3 rfl rfl (want_none rfl) (fun ev E => ?_) (H.snd Rf.lies fun _ ha => xGet _ ha) (fun e V1 hR => ?_)
 ·have EC := E.const; have EF := E.func; have E184 := E.tmp 184 _ rfl; have E186 := E.tmp 186 _ rfl; clear E K3; go_simp
 obtain ⟨rfl, h6, k6⟩ := hR
 replace X := X.kept k6 (by simp)
 replace S1 := S1.kept k6 (by simp)
 replace S2 := S2.kept k6 (by simp)
 replace H := h6
 clear h6 k6
 refine ⟨_, rfl, fun a4 K4 => ?_⟩
 clear K3
 refine lT (.tuple #[zi (T.getI a), .bool (T.hasI a)]) V1 K4 (want_none rfl) (fun ev E => ?_) fun a5 K5 => ?_
 ·have EC := E.const; have E187 := E.tmp 187 _ rfl; clear E K4; go_simp
 clear K4
 refine lT (zi (T.getI a)) V1 K5 (want_none rfl) (fun ev E => ?_) fun a6 K6 => ?_
 ·have EC := E.const; have E183 := E.tmp 183 _ rfl; clear E K5; go_simp
 clear K5
 refine lT (.bool (T.hasI a)) V1 K6 (want_none rfl) (fun ev E => ?_) fun a7 K7 => ?_
 ·have EC := E.const; have E183 := E.tmp 183 _ rfl; clear E K6; go_simp
 clear K6
 refine lT (zi (T.getI a)) V1 K7 (want_none rfl) (fun ev E => ?_) fun a8 K8 => ?_
 ·have EC := E.const; have E188 := E.tmp 188 _ rfl; clear E K7; go_simp
 clear K7
 refine lT (.bool (T.hasI a)) V1 K8 (want_none rfl) (fun ev E => ?_) fun a9 K9 => ?_
 ·have EC := E.const; have E189 := E.tmp 189 _ rfl; clear E K8; go_simp
 clear K8
 exact wpList_nil (hN _ _ (K9.less ⟨rfl, rfl, rfl, rfl, rfl, rfl, rfl, rfl, rfl, rfl, rfl, rfl, rfl, rfl, rfl, rfl, rfl, rfl, rfl, trivial⟩) H X S1 S2)
theorem rg7 {x : Option Addr} {len cap m p q : Nat} {NX : Act -> World -> Prop} {a0 : Act} {V : World} (K0 : Kn a0 303 [(1, .slice x len cap), (5, zp p 0), (6, zp q 0), (7, zi m)]) (hm : m < 150) (hN : ∀ a' w', Kn a' 303 [(1, .slice x len cap), (5, zp p 0), (6, zp q 0), (7, zi ((m + 1 : Nat) : Int))] -> w' = V ->  NX a' w') :
  (Code.region 7 OPS7.toArray false).wp Try.prog (Norm NX) a0 V := by
 refine wp_region_lit ?_
 refine lT (zi m) V K0 (want_none rfl) (fun ev E => ?_) fun a1 K1 => ?_
 ·have EC := E.const; have E7 := E.tmp 7 _ rfl; clear E K0; go_simp
 refine lT (zi ((m + 1 : Nat) : Int)) V K1 (want_none rfl) (fun ev E => ?_) fun a2 K2 => ?_
 ·have hw := IntWalk.i64_in ((m : Int) + 1) (by omega); have EC := E.const; have E41 := E.tmp 41 _ rfl; clear E K1; simp [go_sem, *]
 clear K1
 refine lT (zi ((m + 1 : Nat) : Int)) V K2 (want_none rfl) (fun ev E => ?_) fun a3 K3 => ?_
 ·have EC := E.const; have E42 := E.tmp 42 _ rfl; clear E K2; go_simp
 clear K2
 exact wpList_nil (hN _ _ (K3.less ⟨rfl, rfl, rfl, rfl, trivial⟩) rfl)
theorem rg0 {n : Nat} {x : Option Addr} {len cap : Nat} {w : World} {NX : Act -> World -> Prop} {a0 : Act} {V : World} (K0 : Kn a0 303 [(0, .int .u8 (n : Int)), (1, .slice x len cap)]) (hN : ∀ a' w', Kn a' 303 [(0, .int .u8 (n : Int)), (1, .slice x len cap)] -> w' = V ->  NX a' w') :
  (Code.region 0 OPS0.toArray false).wp Try.prog (Norm NX) a0 V := by
 refine wp_region_lit ?_
 refine lT (.bool false) V K0 (want_none rfl) (fun ev E => ?_) fun a1 K1 => ?_
 ·have EC := E.const; clear E K0; go_simp
 exact wpList_nil (hN _ _ (K1.less ⟨rfl, rfl, trivial⟩) rfl)
theorem rg1 {n : Nat} {x : Option Addr} {len cap : Nat} {w : World} {NX : Act -> World -> Prop} {a0 : Act} {V : World} (K0 : Kn a0 303 [(0, .int .u8 (n : Int)), (1, .slice x len cap)]) (hn : n <= 255) (hb : Below w.heap.size w V) (hN : ∀ a' (p : Nat) w', Kn a' 303 [(0, .int .u8 (n : Int)), (1, .slice x len cap), (5, zp p 0)] -> Ob w w' p (Tr.new (n % 41)) [] ->  NX a' w') :
  (Code.region 1 OPS1.toArray false).wp Try.prog (Norm NX) a0 V := by
 refine wp_region_lit ?_
 refine lT (.int .u8 (n : Int)) V K0 (want_none rfl) (fun ev E => ?_) fun a1 K1 => ?_
 ·have EC := E.const; have E0 := E.tmp 0 _ rfl; clear E K0; go_simp
 refine lcall (f := 15) (args := #[.int .u8 (n : Int)]) K1 rfl rfl (want_none rfl) (fun ev E => ?_) (few_any n _ hn) (fun e V1 hR => ?_)
 ·have EC := E.const; have EF := E.func; have E25 := E.tmp 25 _ rfl; clear E K1; go_simp
 obtain ⟨rfl, hV⟩ := hR
 rw [← hV]
 clear hV
 refine ⟨_, rfl, fun a2 K2 => ?_⟩
 clear K1
 refine lcall (f := 14) (args := #[zi ((n % 41 : Nat) : Int)]) K2 rfl rfl (want_none rfl) (fun ev E => ?_) (oNew (w := w) (js := []) (n % 41) _ hb (by simp) (by omega)) (fun e V2 hR => ?_)
 ·have EC := E.const; have EF := E.func; have E26 := E.tmp 26 _ rfl; clear E K2; go_simp
 obtain ⟨p, rfl, h, _⟩ := hR
 refine ⟨_, rfl, fun a3 K3 => ?_⟩
 clear K2
 refine lT (zp p 0) V2 K3 (want_none rfl) (fun ev E => ?_) fun a4 K4 => ?_
 ·have EC := E.const; have E27 := E.tmp 27 _ rfl; clear E K3; go_simp
 clear K3
 exact wpList_nil (hN _ p _ (K4.less ⟨rfl, rfl, rfl, trivial⟩) h)
theorem rg2 {n : Nat} {x : Option Addr} {len cap : Nat} {w : World} {p : Nat} {NX : Act -> World -> Prop} {a0 : Act} {V : World} (K0 : Kn a0 303 [(0, .int .u8 (n : Int)), (1, .slice x len cap), (5, zp p 0)]) (hn : n <= 255) (H : Ob w V p (Tr.new (n % 41)) []) (hN : ∀ a' (q : Nat) w', Kn a' 303 [(1, .slice x len cap), (5, zp p 0), (6, zp q 0)] -> Ob2 RfAt w w' p q (Tr.new (n % 41)) (Tr.new (n % 41)) [] ->  NX a' w') :
  (Code.region 2 OPS2.toArray false).wp Try.prog (Norm NX) a0 V := by
 refine wp_region_lit ?_
 refine lT (.int .u8 (n : Int)) V K0 (want_none rfl) (fun ev E => ?_) fun a1 K1 => ?_
 ·have EC := E.const; have E0 := E.tmp 0 _ rfl; clear E K0; go_simp
 refine lcall (f := 15) (args := #[.int .u8 (n : Int)]) K1 rfl rfl (want_none rfl) (fun ev E => ?_) (few_any n _ hn) (fun e V1 hR => ?_)
 ·have EC := E.const; have EF := E.func; have E28 := E.tmp 28 _ rfl; clear E K1; go_simp
 obtain ⟨rfl, hV⟩ := hR
 rw [← hV]
 clear hV
 refine ⟨_, rfl, fun a2 K2 => ?_⟩
 clear K1
 refine lcall (f := 16) (args := #[zi ((n % 41 : Nat) : Int)]) K2 rfl rfl (want_none rfl) (fun ev E => ?_) (x2New H (n % 41) (by omega)) (fun e V2 hR => ?_)
 ·have EC := E.const; have EF := E.func; have E29 := E.tmp 29 _ rfl; clear E K2; go_simp
 obtain ⟨q, rfl, h, _⟩ := hR
 refine ⟨_, rfl, fun a3 K3 => ?_⟩
 clear K2
 refine lT (zp q 0) V2 K3 (want_none rfl) (fun ev E => ?_) fun a4 K4 => ?_
 ·have EC := E.const; have E30 := E.tmp 30 _ rfl; clear E K3; go_simp
 clear K3
 exact wpList_nil (hN _ q _ (K4.less ⟨rfl, rfl, rfl, trivial⟩) h)
theorem rg3 {n : Nat} {x : Option Addr} {len cap : Nat} {w : World} {p q : Nat} {NX : Act -> World -> Prop} {a0 : Act} {V : World} (K0 : Kn a0 303 [(1, .slice x len cap), (5, zp p 0), (6, zp q 0)]) (hN : ∀ a' w', Kn a' 303 [(1, .slice x len cap), (5, zp p 0), (6, zp q 0), (32, .bool false)] -> w' = V ->  NX a' w') :
  (Code.region 3 OPS3.toArray false).wp Try.prog (Norm NX) a0 V := by
 refine wp_region_lit ?_
 refine lT (zp p 0) V K0 (want_none rfl) (fun ev E => ?_) fun a1 K1 => ?_
 ·have EC := E.const; have E5 := E.tmp 5 _ rfl; clear E K0; go_simp
 refine lT (.bool false) V K1 (want_none rfl) (fun ev E => ?_) fun a2 K2 => ?_
 ·have EC := E.const; have E31 := E.tmp 31 _ rfl; clear E K1; go_simp
 clear K1
 exact wpList_nil (hN _ _ (K2.less ⟨rfl, rfl, rfl, rfl, trivial⟩) rfl)
theorem rg5 {n : Nat} {x : Option Addr} {len cap : Nat} {w : World} {p q : Nat} {NX : Act -> World -> Prop} {a0 : Act} {V : World} (K0 : Kn a0 303 [(1, .slice x len cap), (5, zp p 0), (6, zp q 0)]) (hN : ∀ a' w', Kn a' 303 [(1, .slice x len cap), (5, zp p 0), (6, zp q 0), (7, zi ((0 : Nat) : Int))] -> w' = V ->  NX a' w') :
  (Code.region 5 OPS5.toArray false).wp Try.prog (Norm NX) a0 V := by
 refine wp_region_lit ?_
 refine lT (zi ((0 : Nat) : Int)) V K0 (want_none rfl) (fun ev E => ?_) fun a1 K1 => ?_
 ·have EC := E.const; clear E K0; go_simp
 exact wpList_nil (hN _ _ (K1.less ⟨rfl, rfl, rfl, rfl, trivial⟩) rfl)
theorem rg35 {n : Nat} {x : Option Addr} {len cap : Nat} {w : World} {p q : Nat} {T : Tr} {NX : Act -> World -> Prop} {a0 : Act} {V : World} (K0 : Kn a0 303 [(5, zp p 0)]) (H : Ob2 RfAt w V p q T T []) (hN : ∀ a' w', Kn a' 303 [(4, .bool true)] -> Below w.heap.size w w' ->  NX a' w') :
  (Code.region 35 OPS35.toArray false).wp Try.prog (Norm NX) a0 V := by
 refine wp_region_lit ?_
 refine lcall (f := 50) (args := #[]) K0 rfl rfl (want_none rfl) (fun ev E => ?_) (awake_any _) (fun e V1 hR => ?_)
 ·have EC := E.const; have EF := E.func; clear E K0; go_simp
 obtain ⟨rfl, hb⟩ := hR
 replace H := (H.below Rf.lies hb).1
 clear hb
 refine ⟨_, rfl, fun a1 K1 => ?_⟩
 refine lT (.bool true) V1 K1 (want_none rfl) (fun ev E => ?_) fun a2 K2 => ?_
 ·have EC := E.const; have E302 := E.tmp 302 _ rfl; clear E K1; go_simp
 clear K1
 exact wpList_nil (hN _ _ (K2.less ⟨rfl, trivial⟩) H.bel)
end Go.Proofs.Ytjnkgakajenoaaa

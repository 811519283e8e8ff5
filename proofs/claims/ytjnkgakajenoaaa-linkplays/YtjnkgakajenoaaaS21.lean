/- Part 21 of the texts. -/
import Derived.Test.YtjnkgakajenoaaaS1
import Derived.Test.YtjnkgakajenoaaaS18
import Derived.Test.YtjnkgakajenoaaaS19
namespace Go.Proofs.Ytjnkgakajenoaaa
open Go.RowKit Go.Arb
set_option linter.unusedVariables false
set_option linter.unusedSimpArgs false
set_option maxRecDepth 100000
def O33_0 : Oper := ⟨some 190, .load 34 (.tmp 11), 34, "law.go:61", #[], none⟩
def O33_1 : Oper := ⟨some 191, .load 34 (.tmp 13), 34, "law.go:61", #[], none⟩
def O33_2 : Oper := ⟨some 192, .binOp .neq 34 (.tmp 190) (.tmp 191) 34, 4, "law.go:61", #[⟨0, .data⟩, ⟨1, .data⟩], none⟩
def O33_3 : Oper := ⟨some 193, .move (.tmp 192), 4, "law.go:61", #[⟨2, .data⟩], none⟩
def O33_4 : Oper := ⟨some 194, .move (.tmp 12), 4, "law.go:61", #[⟨3, .guard⟩], some (3, false)⟩
def O33_5 : Oper := ⟨some 195, .move (.tmp 14), 4, "law.go:61", #[⟨3, .guard⟩], some (3, false)⟩
def O33_6 : Oper := ⟨some 196, .binOp .neq 4 (.tmp 194) (.tmp 195) 4, 4, "law.go:61", #[⟨4, .data⟩, ⟨5, .data⟩, ⟨3, .guard⟩], some (3, false)⟩
def O33_7 : Oper := ⟨some 197, .pick (.tmp 193) (.const (.bool true)) (.tmp 196), 4, "law.go:61", #[⟨3, .data⟩, ⟨6, .data⟩], none⟩
def O33_8 : Oper := ⟨some 198, .move (.tmp 197), 4, "law.go:61", #[⟨7, .data⟩, ⟨3, .chain⟩], none⟩
def O33_9 : Oper := ⟨some 199, .move (.tmp 15), 3, "law.go:61", #[⟨8, .guard⟩], some (8, false)⟩
def O33_10 : Oper := ⟨some 200, .move (.tmp 18), 3, "law.go:61", #[⟨8, .guard⟩], some (8, false)⟩
def O33_11 : Oper := ⟨some 201, .binOp .neq 3 (.tmp 199) (.tmp 200) 3, 4, "law.go:61", #[⟨9, .data⟩, ⟨10, .data⟩, ⟨8, .guard⟩], some (8, false)⟩
def O33_12 : Oper := ⟨some 202, .pick (.tmp 198) (.const (.bool true)) (.tmp 201), 4, "law.go:61", #[⟨8, .data⟩, ⟨11, .data⟩], none⟩
def O33_13 : Oper := ⟨some 203, .move (.tmp 202), 4, "law.go:61", #[⟨12, .data⟩, ⟨8, .chain⟩], none⟩
def O33_14 : Oper := ⟨some 204, .move (.tmp 16), 3, "law.go:61", #[⟨13, .guard⟩], some (13, false)⟩
def O33_15 : Oper := ⟨some 205, .move (.tmp 19), 3, "law.go:61", #[⟨13, .guard⟩], some (13, false)⟩
def O33_16 : Oper := ⟨some 206, .binOp .neq 3 (.tmp 204) (.tmp 205) 3, 4, "law.go:61", #[⟨14, .data⟩, ⟨15, .data⟩, ⟨13, .guard⟩], some (13, false)⟩
def O33_17 : Oper := ⟨some 207, .pick (.tmp 203) (.const (.bool true)) (.tmp 206), 4, "law.go:61", #[⟨13, .data⟩, ⟨16, .data⟩], none⟩
def O33_18 : Oper := ⟨some 208, .move (.tmp 207), 4, "law.go:61", #[⟨17, .data⟩, ⟨13, .chain⟩], none⟩
def O33_19 : Oper := ⟨some 209, .move (.tmp 17), 4, "law.go:61", #[⟨18, .guard⟩], some (18, false)⟩
def O33_20 : Oper := ⟨some 210, .move (.tmp 20), 4, "law.go:61", #[⟨18, .guard⟩], some (18, false)⟩
def O33_21 : Oper := ⟨some 211, .binOp .neq 4 (.tmp 209) (.tmp 210) 4, 4, "law.go:61", #[⟨19, .data⟩, ⟨20, .data⟩, ⟨18, .guard⟩], some (18, false)⟩
def O33_22 : Oper := ⟨some 212, .pick (.tmp 208) (.const (.bool true)) (.tmp 211), 4, "law.go:61", #[⟨18, .data⟩, ⟨21, .data⟩], none⟩
def O33_23 : Oper := ⟨some 213, .move (.tmp 212), 4, "law.go:61", #[⟨22, .data⟩, ⟨18, .chain⟩], none⟩
def O33_24 : Oper := ⟨some 214, .move (.tmp 21), 3, "law.go:61", #[⟨23, .guard⟩], some (23, false)⟩
def O33_25 : Oper := ⟨some 215, .move (.tmp 23), 3, "law.go:61", #[⟨23, .guard⟩], some (23, false)⟩
def O33_26 : Oper := ⟨some 216, .binOp .neq 3 (.tmp 214) (.tmp 215) 3, 4, "law.go:61", #[⟨24, .data⟩, ⟨25, .data⟩, ⟨23, .guard⟩], some (23, false)⟩
def O33_27 : Oper := ⟨some 217, .pick (.tmp 213) (.const (.bool true)) (.tmp 216), 4, "law.go:61", #[⟨23, .data⟩, ⟨26, .data⟩], none⟩
def O33_28 : Oper := ⟨some 218, .move (.tmp 217), 4, "law.go:61", #[⟨27, .data⟩, ⟨23, .chain⟩], none⟩
def O33_29 : Oper := ⟨some 219, .move (.tmp 22), 4, "law.go:61", #[⟨28, .guard⟩], some (28, false)⟩
def O33_30 : Oper := ⟨some 220, .move (.tmp 24), 4, "law.go:61", #[⟨28, .guard⟩], some (28, false)⟩
def O33_31 : Oper := ⟨some 221, .binOp .neq 4 (.tmp 219) (.tmp 220) 4, 4, "law.go:61", #[⟨29, .data⟩, ⟨30, .data⟩, ⟨28, .guard⟩], some (28, false)⟩
def O33_32 : Oper := ⟨some 222, .pick (.tmp 218) (.const (.bool true)) (.tmp 221), 4, "law.go:61", #[⟨28, .data⟩, ⟨31, .data⟩], none⟩
def O33_33 : Oper := ⟨some 223, .move (.tmp 222), 4, "law.go:61", #[⟨32, .data⟩, ⟨28, .chain⟩], none⟩
def O33_34 : Oper := ⟨some 224, .move (.tmp 5), 23, "law.go:61", #[⟨33, .guard⟩], some (33, false)⟩
def O33_35 : Oper := ⟨some 225, .fieldAddr 29 (.tmp 8) 1, 0, "law.go:61", #[⟨33, .guard⟩], some (33, false)⟩
def O33_36 : Oper := ⟨some 226, .load 3 (.tmp 225), 3, "law.go:61", #[⟨35, .data⟩, ⟨33, .guard⟩], some (33, false)⟩
def O33_37 : Oper := ⟨some 227, .call { callee := (.value (.func 37)), args := #[(.tmp 224), (.tmp 226)], argTypes := #[23, 3] }, 4, "law.go:61", #[⟨34, .data⟩, ⟨36, .data⟩, ⟨33, .chain⟩, ⟨33, .guard⟩], some (33, false)⟩
def O33_38 : Oper := ⟨some 228, .move (.tmp 6), 26, "law.go:61", #[⟨33, .guard⟩], some (33, false)⟩
def O33_39 : Oper := ⟨some 229, .fieldAddr 29 (.tmp 8) 1, 0, "law.go:61", #[⟨33, .guard⟩], some (33, false)⟩
def O33_40 : Oper := ⟨some 230, .load 3 (.tmp 229), 3, "law.go:61", #[⟨39, .data⟩, ⟨33, .guard⟩], some (33, false)⟩
def O33_41 : Oper := ⟨some 231, .call { callee := (.value (.func 38)), args := #[(.tmp 228), (.tmp 230)], argTypes := #[26, 3] }, 4, "law.go:61", #[⟨38, .data⟩, ⟨40, .data⟩, ⟨37, .chain⟩, ⟨33, .guard⟩], some (33, false)⟩
def O33_42 : Oper := ⟨some 232, .binOp .neq 4 (.tmp 227) (.tmp 231) 4, 4, "law.go:61", #[⟨37, .data⟩, ⟨41, .data⟩, ⟨33, .guard⟩], some (33, false)⟩
def O33_43 : Oper := ⟨some 233, .pick (.tmp 223) (.const (.bool true)) (.tmp 232), 4, "law.go:61", #[⟨33, .data⟩, ⟨42, .data⟩], none⟩
def O33_44 : Oper := ⟨some 234, .move (.tmp 233), 4, "law.go:61", #[⟨43, .data⟩, ⟨41, .chain⟩], none⟩
def O33_45 : Oper := ⟨some 235, .move (.tmp 5), 23, "law.go:61", #[⟨44, .guard⟩], some (44, false)⟩
def O33_46 : Oper := ⟨some 236, .fieldAddr 29 (.tmp 8) 1, 0, "law.go:61", #[⟨44, .guard⟩], some (44, false)⟩
def O33_47 : Oper := ⟨some 237, .load 3 (.tmp 236), 3, "law.go:61", #[⟨46, .data⟩, ⟨44, .guard⟩], some (44, false)⟩
def O33_48 : Oper := ⟨some 238, .call { callee := (.value (.func 39)), args := #[(.tmp 235), (.tmp 237)], argTypes := #[23, 3] }, 3, "law.go:61", #[⟨45, .data⟩, ⟨47, .data⟩, ⟨44, .chain⟩, ⟨44, .guard⟩], some (44, false)⟩
def O33_49 : Oper := ⟨some 239, .move (.tmp 6), 26, "law.go:61", #[⟨44, .guard⟩], some (44, false)⟩
def O33_50 : Oper := ⟨some 240, .fieldAddr 29 (.tmp 8) 1, 0, "law.go:61", #[⟨44, .guard⟩], some (44, false)⟩
def O33_51 : Oper := ⟨some 241, .load 3 (.tmp 240), 3, "law.go:61", #[⟨50, .data⟩, ⟨44, .guard⟩], some (44, false)⟩
def O33_52 : Oper := ⟨some 242, .call { callee := (.value (.func 40)), args := #[(.tmp 239), (.tmp 241)], argTypes := #[26, 3] }, 3, "law.go:61", #[⟨49, .data⟩, ⟨51, .data⟩, ⟨48, .chain⟩, ⟨44, .guard⟩], some (44, false)⟩
def O33_53 : Oper := ⟨some 243, .binOp .neq 3 (.tmp 238) (.tmp 242) 3, 4, "law.go:61", #[⟨48, .data⟩, ⟨52, .data⟩, ⟨44, .guard⟩], some (44, false)⟩
def O33_54 : Oper := ⟨some 244, .pick (.tmp 234) (.const (.bool true)) (.tmp 243), 4, "law.go:61", #[⟨44, .data⟩, ⟨53, .data⟩], none⟩
def O33_55 : Oper := ⟨some 245, .move (.tmp 244), 4, "law.go:61", #[⟨54, .data⟩, ⟨52, .chain⟩], none⟩
def O33_56 : Oper := ⟨some 246, .move (.tmp 5), 23, "law.go:61", #[⟨55, .guard⟩], some (55, false)⟩
def O33_57 : Oper := ⟨some 247, .fieldAddr 29 (.tmp 8) 1, 0, "law.go:61", #[⟨55, .guard⟩], some (55, false)⟩
def O33_58 : Oper := ⟨some 248, .load 3 (.tmp 247), 3, "law.go:61", #[⟨57, .data⟩, ⟨55, .guard⟩], some (55, false)⟩
def O33_59 : Oper := ⟨some 249, .call { callee := (.value (.func 41)), args := #[(.tmp 246), (.tmp 248)], argTypes := #[23, 3] }, 3, "law.go:61", #[⟨56, .data⟩, ⟨58, .data⟩, ⟨55, .chain⟩, ⟨55, .guard⟩], some (55, false)⟩
def O33_60 : Oper := ⟨some 250, .move (.tmp 6), 26, "law.go:61", #[⟨55, .guard⟩], some (55, false)⟩
def O33_61 : Oper := ⟨some 251, .fieldAddr 29 (.tmp 8) 1, 0, "law.go:61", #[⟨55, .guard⟩], some (55, false)⟩
def O33_62 : Oper := ⟨some 252, .load 3 (.tmp 251), 3, "law.go:61", #[⟨61, .data⟩, ⟨55, .guard⟩], some (55, false)⟩
def O33_63 : Oper := ⟨some 253, .call { callee := (.value (.func 42)), args := #[(.tmp 250), (.tmp 252)], argTypes := #[26, 3] }, 3, "law.go:61", #[⟨60, .data⟩, ⟨62, .data⟩, ⟨59, .chain⟩, ⟨55, .guard⟩], some (55, false)⟩
def O33_64 : Oper := ⟨some 254, .binOp .neq 3 (.tmp 249) (.tmp 253) 3, 4, "law.go:61", #[⟨59, .data⟩, ⟨63, .data⟩, ⟨55, .guard⟩], some (55, false)⟩
def O33_65 : Oper := ⟨some 255, .pick (.tmp 245) (.const (.bool true)) (.tmp 254), 4, "law.go:61", #[⟨55, .data⟩, ⟨64, .data⟩], none⟩
def O33_66 : Oper := ⟨some 256, .move (.tmp 255), 4, "law.go:61", #[⟨65, .data⟩, ⟨63, .chain⟩], none⟩
def O33_67 : Oper := ⟨some 257, .move (.tmp 5), 23, "law.go:61", #[⟨66, .guard⟩], some (66, false)⟩
def O33_68 : Oper := ⟨some 258, .fieldAddr 29 (.tmp 8) 1, 0, "law.go:61", #[⟨66, .guard⟩], some (66, false)⟩
def O33_69 : Oper := ⟨some 259, .load 3 (.tmp 258), 3, "law.go:61", #[⟨68, .data⟩, ⟨66, .guard⟩], some (66, false)⟩
def O33_70 : Oper := ⟨some 260, .fieldAddr 29 (.tmp 8) 2, 0, "law.go:61", #[⟨66, .guard⟩], some (66, false)⟩
def O33_71 : Oper := ⟨some 261, .load 3 (.tmp 260), 3, "law.go:61", #[⟨70, .data⟩, ⟨66, .guard⟩], some (66, false)⟩
def O33_72 : Oper := ⟨some 262, .call { callee := (.value (.func 43)), args := #[(.tmp 257), (.tmp 259), (.tmp 261)], argTypes := #[23, 3, 3] }, 4, "law.go:61", #[⟨67, .data⟩, ⟨69, .data⟩, ⟨71, .data⟩, ⟨66, .chain⟩, ⟨66, .guard⟩], some (66, false)⟩
def O33_73 : Oper := ⟨some 263, .move (.tmp 6), 26, "law.go:61", #[⟨66, .guard⟩], some (66, false)⟩
def O33_74 : Oper := ⟨some 264, .fieldAddr 29 (.tmp 8) 1, 0, "law.go:61", #[⟨66, .guard⟩], some (66, false)⟩
def O33_75 : Oper := ⟨some 265, .load 3 (.tmp 264), 3, "law.go:61", #[⟨74, .data⟩, ⟨66, .guard⟩], some (66, false)⟩
def O33_76 : Oper := ⟨some 266, .fieldAddr 29 (.tmp 8) 2, 0, "law.go:61", #[⟨66, .guard⟩], some (66, false)⟩
def O33_77 : Oper := ⟨some 267, .load 3 (.tmp 266), 3, "law.go:61", #[⟨76, .data⟩, ⟨66, .guard⟩], some (66, false)⟩
def O33_78 : Oper := ⟨some 268, .call { callee := (.value (.func 44)), args := #[(.tmp 263), (.tmp 265), (.tmp 267)], argTypes := #[26, 3, 3] }, 4, "law.go:61", #[⟨73, .data⟩, ⟨75, .data⟩, ⟨77, .data⟩, ⟨72, .chain⟩, ⟨66, .guard⟩], some (66, false)⟩
def O33_79 : Oper := ⟨some 269, .binOp .neq 4 (.tmp 262) (.tmp 268) 4, 4, "law.go:61", #[⟨72, .data⟩, ⟨78, .data⟩, ⟨66, .guard⟩], some (66, false)⟩
def O33_80 : Oper := ⟨some 270, .pick (.tmp 256) (.const (.bool true)) (.tmp 269), 4, "law.go:61", #[⟨66, .data⟩, ⟨79, .data⟩], none⟩
def O33_81 : Oper := ⟨some 271, .move (.tmp 270), 4, "law.go:61", #[⟨80, .data⟩, ⟨78, .chain⟩], none⟩
def O33_82 : Oper := ⟨some 272, .move (.tmp 5), 23, "law.go:61", #[⟨81, .guard⟩], some (81, false)⟩
def O33_83 : Oper := ⟨some 273, .fieldAddr 29 (.tmp 8) 1, 0, "law.go:61", #[⟨81, .guard⟩], some (81, false)⟩
def O33_84 : Oper := ⟨some 274, .load 3 (.tmp 273), 3, "law.go:61", #[⟨83, .data⟩, ⟨81, .guard⟩], some (81, false)⟩
def O33_85 : Oper := ⟨some 275, .fieldAddr 29 (.tmp 8) 2, 0, "law.go:61", #[⟨81, .guard⟩], some (81, false)⟩
def O33_86 : Oper := ⟨some 276, .load 3 (.tmp 275), 3, "law.go:61", #[⟨85, .data⟩, ⟨81, .guard⟩], some (81, false)⟩
def O33_87 : Oper := ⟨some 277, .call { callee := (.value (.func 45)), args := #[(.tmp 272), (.tmp 274), (.tmp 276)], argTypes := #[23, 3, 3] }, 3, "law.go:61", #[⟨82, .data⟩, ⟨84, .data⟩, ⟨86, .data⟩, ⟨81, .chain⟩, ⟨81, .guard⟩], some (81, false)⟩
def O33_88 : Oper := ⟨some 278, .move (.tmp 6), 26, "law.go:61", #[⟨81, .guard⟩], some (81, false)⟩
def O33_89 : Oper := ⟨some 279, .fieldAddr 29 (.tmp 8) 1, 0, "law.go:61", #[⟨81, .guard⟩], some (81, false)⟩
def O33_90 : Oper := ⟨some 280, .load 3 (.tmp 279), 3, "law.go:61", #[⟨89, .data⟩, ⟨81, .guard⟩], some (81, false)⟩
def O33_91 : Oper := ⟨some 281, .fieldAddr 29 (.tmp 8) 2, 0, "law.go:61", #[⟨81, .guard⟩], some (81, false)⟩
def O33_92 : Oper := ⟨some 282, .load 3 (.tmp 281), 3, "law.go:61", #[⟨91, .data⟩, ⟨81, .guard⟩], some (81, false)⟩
def O33_93 : Oper := ⟨some 283, .call { callee := (.value (.func 46)), args := #[(.tmp 278), (.tmp 280), (.tmp 282)], argTypes := #[26, 3, 3] }, 3, "law.go:61", #[⟨88, .data⟩, ⟨90, .data⟩, ⟨92, .data⟩, ⟨87, .chain⟩, ⟨81, .guard⟩], some (81, false)⟩
def O33_94 : Oper := ⟨some 284, .binOp .neq 3 (.tmp 277) (.tmp 283) 3, 4, "law.go:61", #[⟨87, .data⟩, ⟨93, .data⟩, ⟨81, .guard⟩], some (81, false)⟩
def O33_95 : Oper := ⟨some 285, .pick (.tmp 271) (.const (.bool true)) (.tmp 284), 4, "law.go:61", #[⟨81, .data⟩, ⟨94, .data⟩], none⟩
def O33_96 : Oper := ⟨some 286, .move (.tmp 285), 4, "law.go:61", #[⟨95, .data⟩, ⟨93, .chain⟩], none⟩
def O33_97 : Oper := ⟨some 287, .move (.tmp 5), 23, "law.go:61", #[⟨96, .guard⟩], some (96, false)⟩
def O33_98 : Oper := ⟨some 288, .fieldAddr 29 (.tmp 8) 1, 0, "law.go:61", #[⟨96, .guard⟩], some (96, false)⟩
def O33_99 : Oper := ⟨some 289, .load 3 (.tmp 288), 3, "law.go:61", #[⟨98, .data⟩, ⟨96, .guard⟩], some (96, false)⟩
def O33_100 : Oper := ⟨some 290, .call { callee := (.value (.func 47)), args := #[(.tmp 287), (.tmp 289)], argTypes := #[23, 3] }, 3, "law.go:61", #[⟨97, .data⟩, ⟨99, .data⟩, ⟨96, .chain⟩, ⟨96, .guard⟩], some (96, false)⟩
def O33_101 : Oper := ⟨some 291, .move (.tmp 6), 26, "law.go:61", #[⟨96, .guard⟩], some (96, false)⟩
def O33_102 : Oper := ⟨some 292, .fieldAddr 29 (.tmp 8) 1, 0, "law.go:61", #[⟨96, .guard⟩], some (96, false)⟩
def O33_103 : Oper := ⟨some 293, .load 3 (.tmp 292), 3, "law.go:61", #[⟨102, .data⟩, ⟨96, .guard⟩], some (96, false)⟩
def O33_104 : Oper := ⟨some 294, .call { callee := (.value (.func 48)), args := #[(.tmp 291), (.tmp 293)], argTypes := #[26, 3] }, 3, "law.go:61", #[⟨101, .data⟩, ⟨103, .data⟩, ⟨100, .chain⟩, ⟨96, .guard⟩], some (96, false)⟩
def O33_105 : Oper := ⟨some 295, .binOp .neq 3 (.tmp 290) (.tmp 294) 3, 4, "law.go:61", #[⟨100, .data⟩, ⟨104, .data⟩, ⟨96, .guard⟩], some (96, false)⟩
def O33_106 : Oper := ⟨some 296, .pick (.tmp 286) (.const (.bool true)) (.tmp 295), 4, "law.go:61", #[⟨96, .data⟩, ⟨105, .data⟩], none⟩
def O33_107 : Oper := ⟨some 297, .move (.tmp 296), 4, "law.go:61", #[⟨106, .data⟩, ⟨104, .chain⟩], none⟩
def O33_108 : Oper := ⟨some 298, .move (.tmp 5), 23, "law.go:61", #[⟨107, .guard⟩], some (107, false)⟩
def O33_109 : Oper := ⟨some 299, .call { callee := (.value (.func 49)), args := #[(.tmp 298)], argTypes := #[23] }, 4, "law.go:61", #[⟨108, .data⟩, ⟨107, .chain⟩, ⟨107, .guard⟩], some (107, false)⟩
def O33_110 : Oper := ⟨some 300, .unOp .not 4 (.tmp 299), 4, "law.go:61", #[⟨109, .data⟩, ⟨107, .guard⟩], some (107, false)⟩
def O33_111 : Oper := ⟨some 301, .pick (.tmp 297) (.const (.bool true)) (.tmp 300), 4, "law.go:61", #[⟨107, .data⟩, ⟨110, .data⟩], none⟩
def OPS33 : List Oper := [O33_0, O33_1, O33_2, O33_3, O33_4, O33_5, O33_6, O33_7, O33_8, O33_9, O33_10, O33_11, O33_12, O33_13, O33_14, O33_15, O33_16, O33_17, O33_18, O33_19, O33_20, O33_21, O33_22, O33_23, O33_24, O33_25, O33_26, O33_27, O33_28, O33_29, O33_30, O33_31, O33_32, O33_33, O33_34, O33_35, O33_36, O33_37, O33_38, O33_39, O33_40, O33_41, O33_42, O33_43, O33_44, O33_45, O33_46, O33_47, O33_48, O33_49, O33_50, O33_51, O33_52, O33_53, O33_54, O33_55, O33_56, O33_57, O33_58, O33_59, O33_60, O33_61, O33_62, O33_63, O33_64, O33_65, O33_66, O33_67, O33_68, O33_69, O33_70, O33_71, O33_72, O33_73, O33_74, O33_75, O33_76, O33_77, O33_78, O33_79, O33_80, O33_81, O33_82, O33_83, O33_84, O33_85, O33_86, O33_87, O33_88, O33_89, O33_90, O33_91, O33_92, O33_93, O33_94, O33_95, O33_96, O33_97, O33_98, O33_99, O33_100, O33_101, O33_102, O33_103, O33_104, O33_105, O33_106, O33_107, O33_108, O33_109, O33_110, O33_111]
theorem NS33 : Region.noSelect OPS33.toArray = true := by kernel_rfl
def LS33_0 : Array Bool := Array.replicate 112 false
def LS33_14 : Array Bool := ((((((((((((((LS33_0).setIfInBounds 0 true).setIfInBounds 1 true).setIfInBounds 2 true).setIfInBounds 3 true).setIfInBounds 4 true).setIfInBounds 5 true).setIfInBounds 6 true).setIfInBounds 7 true).setIfInBounds 8 true).setIfInBounds 9 true).setIfInBounds 10 true).setIfInBounds 11 true).setIfInBounds 12 true).setIfInBounds 13 true
def LS33_28 : Array Bool := ((((((((((((((LS33_14).setIfInBounds 14 true).setIfInBounds 15 true).setIfInBounds 16 true).setIfInBounds 17 true).setIfInBounds 18 true).setIfInBounds 19 true).setIfInBounds 20 true).setIfInBounds 21 true).setIfInBounds 22 true).setIfInBounds 23 true).setIfInBounds 24 true).setIfInBounds 25 true).setIfInBounds 26 true).setIfInBounds 27 true
def LS33_42 : Array Bool := ((((((((((((((LS33_28).setIfInBounds 28 true).setIfInBounds 29 true).setIfInBounds 30 true).setIfInBounds 31 true).setIfInBounds 32 true).setIfInBounds 33 true).setIfInBounds 34 true).setIfInBounds 35 true).setIfInBounds 36 true).setIfInBounds 38 true).setIfInBounds 39 true).setIfInBounds 40 true).setIfInBounds 37 true).setIfInBounds 41 true
def LS33_56 : Array Bool := ((((((((((((((LS33_42).setIfInBounds 42 true).setIfInBounds 43 true).setIfInBounds 44 true).setIfInBounds 45 true).setIfInBounds 46 true).setIfInBounds 47 true).setIfInBounds 49 true).setIfInBounds 50 true).setIfInBounds 51 true).setIfInBounds 48 true).setIfInBounds 52 true).setIfInBounds 53 true).setIfInBounds 54 true).setIfInBounds 55 true
def LS33_70 : Array Bool := ((((((((((((((LS33_56).setIfInBounds 56 true).setIfInBounds 57 true).setIfInBounds 58 true).setIfInBounds 60 true).setIfInBounds 61 true).setIfInBounds 62 true).setIfInBounds 59 true).setIfInBounds 63 true).setIfInBounds 64 true).setIfInBounds 65 true).setIfInBounds 66 true).setIfInBounds 67 true).setIfInBounds 68 true).setIfInBounds 69 true
def LS33_84 : Array Bool := ((((((((((((((LS33_70).setIfInBounds 70 true).setIfInBounds 71 true).setIfInBounds 73 true).setIfInBounds 74 true).setIfInBounds 75 true).setIfInBounds 76 true).setIfInBounds 77 true).setIfInBounds 72 true).setIfInBounds 78 true).setIfInBounds 79 true).setIfInBounds 80 true).setIfInBounds 81 true).setIfInBounds 82 true).setIfInBounds 83 true
def LS33_98 : Array Bool := ((((((((((((((LS33_84).setIfInBounds 84 true).setIfInBounds 85 true).setIfInBounds 86 true).setIfInBounds 88 true).setIfInBounds 89 true).setIfInBounds 90 true).setIfInBounds 91 true).setIfInBounds 92 true).setIfInBounds 87 true).setIfInBounds 93 true).setIfInBounds 94 true).setIfInBounds 95 true).setIfInBounds 96 true).setIfInBounds 97 true
set_option maxHeartbeats 4000000 in
theorem rg33_7 {w : World} {p q b8 : Nat} {T : Tr} {x : Option Addr} {len cap m : Nat} {kd a b c : Int} {bs1 bs2 : Nat} {NX : Act -> World -> Prop} {a0 : Act} {W : World} (K0 : Kn a0 303 [(287, zp p 0), (286, .bool false), (1, .slice x len cap), (5, zp p 0), (6, zp q 0), (7, zi m), (8, zp b8 0)]) (H : Ob2 RfAt w W p q T T [bs2, bs1, b8]) (X : BoxAt W b8 #[zi kd, zi a, zi b, zi c] 29) (S1 : SumAt W bs1 (T.pathI a b)) (S2 : SumAt W bs2 (T.pathI a b)) (hS : (fun w' : World => w'.cell? ⟨b8, 1, none⟩ = some (zi a) /\ w'.cell? ⟨b8, 2, none⟩ = some (zi b) /\ w'.cell? ⟨bs1, 0, none⟩ = some (zi (T.pathI a b).c) /\ w'.cell? ⟨bs1, 1, none⟩ = some (zi (T.pathI a b).s) /\ w'.cell? ⟨bs1, 2, none⟩ = some (zi (T.pathI a b).a) /\ w'.cell? ⟨bs1, 3, none⟩ = some (zi (T.pathI a b).b) /\ w'.cell? ⟨bs2, 0, none⟩ = some (zi (T.pathI a b).c) /\ w'.cell? ⟨bs2, 1, none⟩ = some (zi (T.pathI a b).s) /\ w'.cell? ⟨bs2, 2, none⟩ = some (zi (T.pathI a b).a) /\ w'.cell? ⟨bs2, 3, none⟩ = some (zi (T.pathI a b).b)) W) (hN : ∀ a' w', Kn a' 303 [(1, .slice x len cap), (5, zp p 0), (6, zp q 0), (7, zi m), (301, .bool false)] -> Ob2 RfAt w w' p q T T [bs2, bs1, b8] -> NX a' w') :
  wpAnyH Try.prog .any OPS33.toArray (Norm NX) (fun w' : World => w'.cell? ⟨b8, 1, none⟩ = some (zi a) /\ w'.cell? ⟨b8, 2, none⟩ = some (zi b) /\ w'.cell? ⟨bs1, 0, none⟩ = some (zi (T.pathI a b).c) /\ w'.cell? ⟨bs1, 1, none⟩ = some (zi (T.pathI a b).s) /\ w'.cell? ⟨bs1, 2, none⟩ = some (zi (T.pathI a b).a) /\ w'.cell? ⟨bs1, 3, none⟩ = some (zi (T.pathI a b).b) /\ w'.cell? ⟨bs2, 0, none⟩ = some (zi (T.pathI a b).c) /\ w'.cell? ⟨bs2, 1, none⟩ = some (zi (T.pathI a b).s) /\ w'.cell? ⟨bs2, 2, none⟩ = some (zi (T.pathI a b).a) /\ w'.cell? ⟨bs2, 3, none⟩ = some (zi (T.pathI a b).b)) 14 LS33_98 a0 W := by
 have hq : ∀ c a a' w', Norm NX (.panic c) a w' -> Norm NX (.panic c) a' w' := fun _ _ _ _ h => h
 refine dT 98 ⟨some 288, .fieldAddr 29 (.tmp 8) 1, 0, "law.go:61", #[⟨96, .guard⟩], some (96, false)⟩ (zp b8 1) K0 hq NS33 (want_some K0 rfl rfl rfl) (fun ev E w9 hSw => ?_) hS fun a99 K99 => ?_
 ·have EC := E.const; have E8 := E.tmp 8 _ rfl; clear E K0 hN hq; clear hSw; go_simp
 refine dT 99 ⟨some 289, .load 3 (.tmp 288), 3, "law.go:61", #[⟨98, .data⟩, ⟨96, .guard⟩], some (96, false)⟩ (zi a) K99 hq NS33 (want_some K99 rfl rfl rfl) (fun ev E w9 hSw => ?_) hS fun a100 K100 => ?_
 ·have EC := E.const; have E288 := E.tmp 288 _ rfl; clear E K99 hN hq; obtain ⟨z1, z2, s0, s1, s2, s3, r0, r1, r2, r3⟩ := hSw; go_simp
 clear K99
 refine dT 101 ⟨some 291, .move (.tmp 6), 26, "law.go:61", #[⟨96, .guard⟩], some (96, false)⟩ (zp q 0) K100 hq NS33 (want_some K100 rfl rfl rfl) (fun ev E w9 hSw => ?_) hS fun a101 K101 => ?_
 ·have EC := E.const; have E6 := E.tmp 6 _ rfl; clear E K100 hN hq; clear hSw; go_simp
 clear K100
 refine dT 102 ⟨some 292, .fieldAddr 29 (.tmp 8) 1, 0, "law.go:61", #[⟨96, .guard⟩], some (96, false)⟩ (zp b8 1) K101 hq NS33 (want_some K101 rfl rfl rfl) (fun ev E w9 hSw => ?_) hS fun a102 K102 => ?_
 ·have EC := E.const; have E8 := E.tmp 8 _ rfl; clear E K101 hN hq; clear hSw; go_simp
 clear K101
 refine dT 103 ⟨some 293, .load 3 (.tmp 292), 3, "law.go:61", #[⟨102, .data⟩, ⟨96, .guard⟩], some (96, false)⟩ (zi a) K102 hq NS33 (want_some K102 rfl rfl rfl) (fun ev E w9 hSw => ?_) hS fun a103 K103 => ?_
 ·have EC := E.const; have E292 := E.tmp 292 _ rfl; clear E K102 hN hq; obtain ⟨z1, z2, s0, s1, s2, s3, r0, r1, r2, r3⟩ := hSw; go_simp
 clear K102
 refine dcall (i := 100) (o := ⟨some 290, .call { callee := (.value (.func 47)), args := #[(.tmp 287), (.tmp 289)], argTypes := #[23, 3] }, 3, "law.go:61", #[⟨97, .data⟩, ⟨99, .data⟩, ⟨96, .chain⟩, ⟨96, .guard⟩], some (96, false)⟩) (f := 47) (args := #[zp p 0, zi a]) K103 rfl (by kernel_rfl) rfl rfl (want_some K103 rfl rfl rfl) (fun ev E => ?_) (H.fst Rf.lies fun _ ha => aSize _ ha) (fun e w104 hR => ?_)
 ·have EC := E.const; have EF := E.func; have E287 := E.tmp 287 _ rfl; have E289 := E.tmp 289 _ rfl; clear E K103 hN hq; go_simp
 obtain ⟨rfl, h6, k6⟩ := hR
 replace X := X.kept k6 (by simp)
 replace S1 := S1.kept k6 (by simp)
 replace S2 := S2.kept k6 (by simp)
 replace H := h6
 clear h6
 replace hS : (fun w' : World => w'.cell? ⟨b8, 1, none⟩ = some (zi a) /\ w'.cell? ⟨b8, 2, none⟩ = some (zi b) /\ w'.cell? ⟨bs1, 0, none⟩ = some (zi (T.pathI a b).c) /\ w'.cell? ⟨bs1, 1, none⟩ = some (zi (T.pathI a b).s) /\ w'.cell? ⟨bs1, 2, none⟩ = some (zi (T.pathI a b).a) /\ w'.cell? ⟨bs1, 3, none⟩ = some (zi (T.pathI a b).b) /\ w'.cell? ⟨bs2, 0, none⟩ = some (zi (T.pathI a b).c) /\ w'.cell? ⟨bs2, 1, none⟩ = some (zi (T.pathI a b).s) /\ w'.cell? ⟨bs2, 2, none⟩ = some (zi (T.pathI a b).a) /\ w'.cell? ⟨bs2, 3, none⟩ = some (zi (T.pathI a b).b)) w104 := ⟨(X.cell (o := 1) rfl).1, (X.cell (o := 2) rfl).1, S1.1.1, S1.1.2.1, S1.1.2.2.1, S1.1.2.2.2, S2.1.1, S2.1.2.1, S2.1.2.2.1, S2.1.2.2.2⟩
 refine ⟨_, rfl, hS, fun a104 K104 => ?_⟩
 clear k6
 clear K103
 refine dcall (i := 104) (o := ⟨some 294, .call { callee := (.value (.func 48)), args := #[(.tmp 291), (.tmp 293)], argTypes := #[26, 3] }, 3, "law.go:61", #[⟨101, .data⟩, ⟨103, .data⟩, ⟨100, .chain⟩, ⟨96, .guard⟩], some (96, false)⟩) (f := 48) (args := #[zp q 0, zi a]) K104 rfl (by kernel_rfl) rfl rfl (want_some K104 rfl rfl rfl) (fun ev E => ?_) (H.snd Rf.lies fun _ ha => xSize _ ha) (fun e w105 hR => ?_)
 ·have EC := E.const; have EF := E.func; have E291 := E.tmp 291 _ rfl; have E293 := E.tmp 293 _ rfl; clear E K104 hN hq; go_simp
 obtain ⟨rfl, h6, k6⟩ := hR
 replace X := X.kept k6 (by simp)
 replace S1 := S1.kept k6 (by simp)
 replace S2 := S2.kept k6 (by simp)
 replace H := h6
 clear h6
 replace hS : (fun w' : World => w'.cell? ⟨b8, 1, none⟩ = some (zi a) /\ w'.cell? ⟨b8, 2, none⟩ = some (zi b) /\ w'.cell? ⟨bs1, 0, none⟩ = some (zi (T.pathI a b).c) /\ w'.cell? ⟨bs1, 1, none⟩ = some (zi (T.pathI a b).s) /\ w'.cell? ⟨bs1, 2, none⟩ = some (zi (T.pathI a b).a) /\ w'.cell? ⟨bs1, 3, none⟩ = some (zi (T.pathI a b).b) /\ w'.cell? ⟨bs2, 0, none⟩ = some (zi (T.pathI a b).c) /\ w'.cell? ⟨bs2, 1, none⟩ = some (zi (T.pathI a b).s) /\ w'.cell? ⟨bs2, 2, none⟩ = some (zi (T.pathI a b).a) /\ w'.cell? ⟨bs2, 3, none⟩ = some (zi (T.pathI a b).b)) w105 := ⟨(X.cell (o := 1) rfl).1, (X.cell (o := 2) rfl).1, S1.1.1, S1.1.2.1, S1.1.2.2.1, S1.1.2.2.2, S2.1.1, S2.1.2.1, S2.1.2.2.1, S2.1.2.2.2⟩
 refine ⟨_, rfl, hS, fun a105 K105 => ?_⟩
 clear k6
 clear K104
 refine dT 105 ⟨some 295, .binOp .neq 3 (.tmp 290) (.tmp 294) 3, 4, "law.go:61", #[⟨100, .data⟩, ⟨104, .data⟩, ⟨96, .guard⟩], some (96, false)⟩ (.bool false) K105 hq NS33 (want_some K105 rfl rfl rfl) (fun ev E w9 hSw => ?_) hS fun a106 K106 => ?_
 ·have EC := E.const; have E290 := E.tmp 290 _ rfl; have E294 := E.tmp 294 _ rfl; clear E K105 hN hq; clear hSw; go_simp
 clear K105
 refine dT 106 ⟨some 296, .pick (.tmp 286) (.const (.bool true)) (.tmp 295), 4, "law.go:61", #[⟨96, .data⟩, ⟨105, .data⟩], none⟩ (.bool false) K106 hq NS33 (want_none rfl) (fun ev E w9 hSw => ?_) hS fun a107 K107 => ?_
 ·have EC := E.const; have E286 := E.tmp 286 _ rfl; have E295 := E.tmp 295 _ rfl; clear E K106 hN hq; clear hSw; go_simp
 clear K106
 refine dT 107 ⟨some 297, .move (.tmp 296), 4, "law.go:61", #[⟨106, .data⟩, ⟨104, .chain⟩], none⟩ (.bool false) K107 hq NS33 (want_none rfl) (fun ev E w9 hSw => ?_) hS fun a108 K108 => ?_
 ·have EC := E.const; have E296 := E.tmp 296 _ rfl; clear E K107 hN hq; clear hSw; go_simp
 clear K107
 refine dT 108 ⟨some 298, .move (.tmp 5), 23, "law.go:61", #[⟨107, .guard⟩], some (107, false)⟩ (zp p 0) K108 hq NS33 (want_some K108 rfl rfl rfl) (fun ev E w9 hSw => ?_) hS fun a109 K109 => ?_
 ·have EC := E.const; have E5 := E.tmp 5 _ rfl; clear E K108 hN hq; clear hSw; go_simp
 clear K108
 refine dcall (i := 109) (o := ⟨some 299, .call { callee := (.value (.func 49)), args := #[(.tmp 298)], argTypes := #[23] }, 4, "law.go:61", #[⟨108, .data⟩, ⟨107, .chain⟩, ⟨107, .guard⟩], some (107, false)⟩) (f := 49) (args := #[zp p 0]) K109 rfl (by kernel_rfl) rfl rfl (want_some K109 rfl rfl rfl) (fun ev E => ?_) (H.fst Rf.lies fun _ ha => aCheck ha) (fun e w110 hR => ?_)
 ·have EC := E.const; have EF := E.func; have E298 := E.tmp 298 _ rfl; clear E K109 hN hq; go_simp
 obtain ⟨rfl, h6, k6⟩ := hR
 replace X := X.kept k6 (by simp)
 replace S1 := S1.kept k6 (by simp)
 replace S2 := S2.kept k6 (by simp)
 replace H := h6
 clear h6
 replace hS : (fun w' : World => w'.cell? ⟨b8, 1, none⟩ = some (zi a) /\ w'.cell? ⟨b8, 2, none⟩ = some (zi b) /\ w'.cell? ⟨bs1, 0, none⟩ = some (zi (T.pathI a b).c) /\ w'.cell? ⟨bs1, 1, none⟩ = some (zi (T.pathI a b).s) /\ w'.cell? ⟨bs1, 2, none⟩ = some (zi (T.pathI a b).a) /\ w'.cell? ⟨bs1, 3, none⟩ = some (zi (T.pathI a b).b) /\ w'.cell? ⟨bs2, 0, none⟩ = some (zi (T.pathI a b).c) /\ w'.cell? ⟨bs2, 1, none⟩ = some (zi (T.pathI a b).s) /\ w'.cell? ⟨bs2, 2, none⟩ = some (zi (T.pathI a b).a) /\ w'.cell? ⟨bs2, 3, none⟩ = some (zi (T.pathI a b).b)) w110 := ⟨(X.cell (o := 1) rfl).1, (X.cell (o := 2) rfl).1, S1.1.1, S1.1.2.1, S1.1.2.2.1, S1.1.2.2.2, S2.1.1, S2.1.2.1, S2.1.2.2.1, S2.1.2.2.2⟩
 refine ⟨_, rfl, hS, fun a110 K110 => ?_⟩
 clear k6
 clear K109
 refine dT 110 ⟨some 300, .unOp .not 4 (.tmp 299), 4, "law.go:61", #[⟨109, .data⟩, ⟨107, .guard⟩], some (107, false)⟩ (.bool false) K110 hq NS33 (want_some K110 rfl rfl rfl) (fun ev E w9 hSw => ?_) hS fun a111 K111 => ?_
 ·have EC := E.const; have E299 := E.tmp 299 _ rfl; clear E K110 hN hq; clear hSw; go_simp
 clear K110
 refine dT 111 ⟨some 301, .pick (.tmp 297) (.const (.bool true)) (.tmp 300), 4, "law.go:61", #[⟨107, .data⟩, ⟨110, .data⟩], none⟩ (.bool false) K111 hq NS33 (want_none rfl) (fun ev E w9 hSw => ?_) hS fun a112 K112 => ?_
 ·have EC := E.const; have E297 := E.tmp 297 _ rfl; have E300 := E.tmp 300 _ rfl; clear E K111 hN hq; clear hSw; go_simp
 clear K111
 refine wpAnyH_done (by kernel_rfl) ?_ _
 exact hN _ _ (K112.less ⟨rfl, rfl, rfl, rfl, rfl, trivial⟩) H
set_option maxHeartbeats 4000000 in
theorem rg33_6 {w : World} {p q b8 : Nat} {T : Tr} {x : Option Addr} {len cap m : Nat} {kd a b c : Int} {bs1 bs2 : Nat} {NX : Act -> World -> Prop} {a0 : Act} {W : World} (K0 : Kn a0 303 [(273, zp b8 1), (272, zp p 0), (271, .bool false), (1, .slice x len cap), (5, zp p 0), (6, zp q 0), (7, zi m), (8, zp b8 0)]) (H : Ob2 RfAt w W p q T T [bs2, bs1, b8]) (X : BoxAt W b8 #[zi kd, zi a, zi b, zi c] 29) (S1 : SumAt W bs1 (T.pathI a b)) (S2 : SumAt W bs2 (T.pathI a b)) (hS : (fun w' : World => w'.cell? ⟨b8, 1, none⟩ = some (zi a) /\ w'.cell? ⟨b8, 2, none⟩ = some (zi b) /\ w'.cell? ⟨bs1, 0, none⟩ = some (zi (T.pathI a b).c) /\ w'.cell? ⟨bs1, 1, none⟩ = some (zi (T.pathI a b).s) /\ w'.cell? ⟨bs1, 2, none⟩ = some (zi (T.pathI a b).a) /\ w'.cell? ⟨bs1, 3, none⟩ = some (zi (T.pathI a b).b) /\ w'.cell? ⟨bs2, 0, none⟩ = some (zi (T.pathI a b).c) /\ w'.cell? ⟨bs2, 1, none⟩ = some (zi (T.pathI a b).s) /\ w'.cell? ⟨bs2, 2, none⟩ = some (zi (T.pathI a b).a) /\ w'.cell? ⟨bs2, 3, none⟩ = some (zi (T.pathI a b).b)) W) (hN : ∀ a' w', Kn a' 303 [(1, .slice x len cap), (5, zp p 0), (6, zp q 0), (7, zi m), (301, .bool false)] -> Ob2 RfAt w w' p q T T [bs2, bs1, b8] -> NX a' w') :
  wpAnyH Try.prog .any OPS33.toArray (Norm NX) (fun w' : World => w'.cell? ⟨b8, 1, none⟩ = some (zi a) /\ w'.cell? ⟨b8, 2, none⟩ = some (zi b) /\ w'.cell? ⟨bs1, 0, none⟩ = some (zi (T.pathI a b).c) /\ w'.cell? ⟨bs1, 1, none⟩ = some (zi (T.pathI a b).s) /\ w'.cell? ⟨bs1, 2, none⟩ = some (zi (T.pathI a b).a) /\ w'.cell? ⟨bs1, 3, none⟩ = some (zi (T.pathI a b).b) /\ w'.cell? ⟨bs2, 0, none⟩ = some (zi (T.pathI a b).c) /\ w'.cell? ⟨bs2, 1, none⟩ = some (zi (T.pathI a b).s) /\ w'.cell? ⟨bs2, 2, none⟩ = some (zi (T.pathI a b).a) /\ w'.cell? ⟨bs2, 3, none⟩ = some (zi (T.pathI a b).b)) 28 LS33_84 a0 W := by
 have hq : ∀ c a a' w', Norm NX (.panic c) a w' -> Norm NX (.panic c) a' w' := fun _ _ _ _ h => h
 refine dT 84 ⟨some 274, .load 3 (.tmp 273), 3, "law.go:61", #[⟨83, .data⟩, ⟨81, .guard⟩], some (81, false)⟩ (zi a) K0 hq NS33 (want_some K0 rfl rfl rfl) (fun ev E w9 hSw => ?_) hS fun a85 K85 => ?_
 ·have EC := E.const; have E273 := E.tmp 273 _ rfl; clear E K0 hN hq; obtain ⟨z1, z2, s0, s1, s2, s3, r0, r1, r2, r3⟩ := hSw; go_simp
 refine dT 85 ⟨some 275, .fieldAddr 29 (.tmp 8) 2, 0, "law.go:61", #[⟨81, .guard⟩], some (81, false)⟩ (zp b8 2) K85 hq NS33 (want_some K85 rfl rfl rfl) (fun ev E w9 hSw => ?_) hS fun a86 K86 => ?_
 ·have EC := E.const; have E8 := E.tmp 8 _ rfl; clear E K85 hN hq; clear hSw; go_simp
 clear K85
 refine dT 86 ⟨some 276, .load 3 (.tmp 275), 3, "law.go:61", #[⟨85, .data⟩, ⟨81, .guard⟩], some (81, false)⟩ (zi b) K86 hq NS33 (want_some K86 rfl rfl rfl) (fun ev E w9 hSw => ?_) hS fun a87 K87 => ?_
 ·have EC := E.const; have E275 := E.tmp 275 _ rfl; clear E K86 hN hq; obtain ⟨z1, z2, s0, s1, s2, s3, r0, r1, r2, r3⟩ := hSw; go_simp
 clear K86
 refine dT 88 ⟨some 278, .move (.tmp 6), 26, "law.go:61", #[⟨81, .guard⟩], some (81, false)⟩ (zp q 0) K87 hq NS33 (want_some K87 rfl rfl rfl) (fun ev E w9 hSw => ?_) hS fun a88 K88 => ?_
 ·have EC := E.const; have E6 := E.tmp 6 _ rfl; clear E K87 hN hq; clear hSw; go_simp
 clear K87
 refine dT 89 ⟨some 279, .fieldAddr 29 (.tmp 8) 1, 0, "law.go:61", #[⟨81, .guard⟩], some (81, false)⟩ (zp b8 1) K88 hq NS33 (want_some K88 rfl rfl rfl) (fun ev E w9 hSw => ?_) hS fun a89 K89 => ?_
 ·have EC := E.const; have E8 := E.tmp 8 _ rfl; clear E K88 hN hq; clear hSw; go_simp
 clear K88
 refine dT 90 ⟨some 280, .load 3 (.tmp 279), 3, "law.go:61", #[⟨89, .data⟩, ⟨81, .guard⟩], some (81, false)⟩ (zi a) K89 hq NS33 (want_some K89 rfl rfl rfl) (fun ev E w9 hSw => ?_) hS fun a90 K90 => ?_
 ·have EC := E.const; have E279 := E.tmp 279 _ rfl; clear E K89 hN hq; obtain ⟨z1, z2, s0, s1, s2, s3, r0, r1, r2, r3⟩ := hSw; go_simp
 clear K89
 refine dT 91 ⟨some 281, .fieldAddr 29 (.tmp 8) 2, 0, "law.go:61", #[⟨81, .guard⟩], some (81, false)⟩ (zp b8 2) K90 hq NS33 (want_some K90 rfl rfl rfl) (fun ev E w9 hSw => ?_) hS fun a91 K91 => ?_
 ·have EC := E.const; have E8 := E.tmp 8 _ rfl; clear E K90 hN hq; clear hSw; go_simp
 clear K90
 refine dT 92 ⟨some 282, .load 3 (.tmp 281), 3, "law.go:61", #[⟨91, .data⟩, ⟨81, .guard⟩], some (81, false)⟩ (zi b) K91 hq NS33 (want_some K91 rfl rfl rfl) (fun ev E w9 hSw => ?_) hS fun a92 K92 => ?_
 ·have EC := E.const; have E281 := E.tmp 281 _ rfl; clear E K91 hN hq; obtain ⟨z1, z2, s0, s1, s2, s3, r0, r1, r2, r3⟩ := hSw; go_simp
 clear K91
 refine dcall (i := 87) (o := ⟨some 277, .call { callee := (.value (.func 45)), args := #[(.tmp 272), (.tmp 274), (.tmp 276)], argTypes := #[23, 3, 3] }, 3, "law.go:61", #[⟨82, .data⟩, ⟨84, .data⟩, ⟨86, .data⟩, ⟨81, .chain⟩, ⟨81, .guard⟩], some (81, false)⟩) (f := 45) (args := #[zp p 0, zi a, zi b]) K92 rfl (by kernel_rfl) rfl rfl (want_some K92 rfl rfl rfl) (fun ev E => ?_) (H.fst Rf.lies fun _ ha => aLca _ _ ha) (fun e w93 hR => ?_)
 ·have EC := E.const; have EF := E.func; have E272 := E.tmp 272 _ rfl; have E274 := E.tmp 274 _ rfl; have E276 := E.tmp 276 _ rfl; clear E K92 hN hq; go_simp
 obtain ⟨rfl, h6, k6⟩ := hR
 replace X := X.kept k6 (by simp)
 replace S1 := S1.kept k6 (by simp)
 replace S2 := S2.kept k6 (by simp)
 replace H := h6
 clear h6
 replace hS : (fun w' : World => w'.cell? ⟨b8, 1, none⟩ = some (zi a) /\ w'.cell? ⟨b8, 2, none⟩ = some (zi b) /\ w'.cell? ⟨bs1, 0, none⟩ = some (zi (T.pathI a b).c) /\ w'.cell? ⟨bs1, 1, none⟩ = some (zi (T.pathI a b).s) /\ w'.cell? ⟨bs1, 2, none⟩ = some (zi (T.pathI a b).a) /\ w'.cell? ⟨bs1, 3, none⟩ = some (zi (T.pathI a b).b) /\ w'.cell? ⟨bs2, 0, none⟩ = some (zi (T.pathI a b).c) /\ w'.cell? ⟨bs2, 1, none⟩ = some (zi (T.pathI a b).s) /\ w'.cell? ⟨bs2, 2, none⟩ = some (zi (T.pathI a b).a) /\ w'.cell? ⟨bs2, 3, none⟩ = some (zi (T.pathI a b).b)) w93 := ⟨(X.cell (o := 1) rfl).1, (X.cell (o := 2) rfl).1, S1.1.1, S1.1.2.1, S1.1.2.2.1, S1.1.2.2.2, S2.1.1, S2.1.2.1, S2.1.2.2.1, S2.1.2.2.2⟩
 refine ⟨_, rfl, hS, fun a93 K93 => ?_⟩
 clear k6
 clear K92
 refine dcall (i := 93) (o := ⟨some 283, .call { callee := (.value (.func 46)), args := #[(.tmp 278), (.tmp 280), (.tmp 282)], argTypes := #[26, 3, 3] }, 3, "law.go:61", #[⟨88, .data⟩, ⟨90, .data⟩, ⟨92, .data⟩, ⟨87, .chain⟩, ⟨81, .guard⟩], some (81, false)⟩) (f := 46) (args := #[zp q 0, zi a, zi b]) K93 rfl (by kernel_rfl) rfl rfl (want_some K93 rfl rfl rfl) (fun ev E => ?_) (H.snd Rf.lies fun _ ha => xLca _ _ ha) (fun e w94 hR => ?_)
 ·have EC := E.const; have EF := E.func; have E278 := E.tmp 278 _ rfl; have E280 := E.tmp 280 _ rfl; have E282 := E.tmp 282 _ rfl; clear E K93 hN hq; go_simp
 obtain ⟨rfl, h6, k6⟩ := hR
 replace X := X.kept k6 (by simp)
 replace S1 := S1.kept k6 (by simp)
 replace S2 := S2.kept k6 (by simp)
 replace H := h6
 clear h6
 replace hS : (fun w' : World => w'.cell? ⟨b8, 1, none⟩ = some (zi a) /\ w'.cell? ⟨b8, 2, none⟩ = some (zi b) /\ w'.cell? ⟨bs1, 0, none⟩ = some (zi (T.pathI a b).c) /\ w'.cell? ⟨bs1, 1, none⟩ = some (zi (T.pathI a b).s) /\ w'.cell? ⟨bs1, 2, none⟩ = some (zi (T.pathI a b).a) /\ w'.cell? ⟨bs1, 3, none⟩ = some (zi (T.pathI a b).b) /\ w'.cell? ⟨bs2, 0, none⟩ = some (zi (T.pathI a b).c) /\ w'.cell? ⟨bs2, 1, none⟩ = some (zi (T.pathI a b).s) /\ w'.cell? ⟨bs2, 2, none⟩ = some (zi (T.pathI a b).a) /\ w'.cell? ⟨bs2, 3, none⟩ = some (zi (T.pathI a b).b)) w94 := ⟨(X.cell (o := 1) rfl).1, (X.cell (o := 2) rfl).1, S1.1.1, S1.1.2.1, S1.1.2.2.1, S1.1.2.2.2, S2.1.1, S2.1.2.1, S2.1.2.2.1, S2.1.2.2.2⟩
 refine ⟨_, rfl, hS, fun a94 K94 => ?_⟩
 clear k6
 clear K93
 refine dT 94 ⟨some 284, .binOp .neq 3 (.tmp 277) (.tmp 283) 3, 4, "law.go:61", #[⟨87, .data⟩, ⟨93, .data⟩, ⟨81, .guard⟩], some (81, false)⟩ (.bool false) K94 hq NS33 (want_some K94 rfl rfl rfl) (fun ev E w9 hSw => ?_) hS fun a95 K95 => ?_
 ·have EC := E.const; have E277 := E.tmp 277 _ rfl; have E283 := E.tmp 283 _ rfl; clear E K94 hN hq; clear hSw; go_simp
 clear K94
 refine dT 95 ⟨some 285, .pick (.tmp 271) (.const (.bool true)) (.tmp 284), 4, "law.go:61", #[⟨81, .data⟩, ⟨94, .data⟩], none⟩ (.bool false) K95 hq NS33 (want_none rfl) (fun ev E w9 hSw => ?_) hS fun a96 K96 => ?_
 ·have EC := E.const; have E271 := E.tmp 271 _ rfl; have E284 := E.tmp 284 _ rfl; clear E K95 hN hq; clear hSw; go_simp
 clear K95
 refine dT 96 ⟨some 286, .move (.tmp 285), 4, "law.go:61", #[⟨95, .data⟩, ⟨93, .chain⟩], none⟩ (.bool false) K96 hq NS33 (want_none rfl) (fun ev E w9 hSw => ?_) hS fun a97 K97 => ?_
 ·have EC := E.const; have E285 := E.tmp 285 _ rfl; clear E K96 hN hq; clear hSw; go_simp
 clear K96
 refine dT 97 ⟨some 287, .move (.tmp 5), 23, "law.go:61", #[⟨96, .guard⟩], some (96, false)⟩ (zp p 0) K97 hq NS33 (want_some K97 rfl rfl rfl) (fun ev E w9 hSw => ?_) hS fun a98 K98 => ?_
 ·have EC := E.const; have E5 := E.tmp 5 _ rfl; clear E K97 hN hq; clear hSw; go_simp
 clear K97
 exact rg33_7 (K98.less ⟨rfl, rfl, rfl, rfl, rfl, rfl, rfl, trivial⟩) H X S1 S2 hS hN
set_option maxHeartbeats 4000000 in
theorem rg33_5 {w : World} {p q b8 : Nat} {T : Tr} {x : Option Addr} {len cap m : Nat} {kd a b c : Int} {bs1 bs2 : Nat} {NX : Act -> World -> Prop} {a0 : Act} {W : World} (K0 : Kn a0 303 [(259, zi a), (257, zp p 0), (256, .bool false), (1, .slice x len cap), (5, zp p 0), (6, zp q 0), (7, zi m), (8, zp b8 0)]) (H : Ob2 RfAt w W p q T T [bs2, bs1, b8]) (X : BoxAt W b8 #[zi kd, zi a, zi b, zi c] 29) (S1 : SumAt W bs1 (T.pathI a b)) (S2 : SumAt W bs2 (T.pathI a b)) (hS : (fun w' : World => w'.cell? ⟨b8, 1, none⟩ = some (zi a) /\ w'.cell? ⟨b8, 2, none⟩ = some (zi b) /\ w'.cell? ⟨bs1, 0, none⟩ = some (zi (T.pathI a b).c) /\ w'.cell? ⟨bs1, 1, none⟩ = some (zi (T.pathI a b).s) /\ w'.cell? ⟨bs1, 2, none⟩ = some (zi (T.pathI a b).a) /\ w'.cell? ⟨bs1, 3, none⟩ = some (zi (T.pathI a b).b) /\ w'.cell? ⟨bs2, 0, none⟩ = some (zi (T.pathI a b).c) /\ w'.cell? ⟨bs2, 1, none⟩ = some (zi (T.pathI a b).s) /\ w'.cell? ⟨bs2, 2, none⟩ = some (zi (T.pathI a b).a) /\ w'.cell? ⟨bs2, 3, none⟩ = some (zi (T.pathI a b).b)) W) (hN : ∀ a' w', Kn a' 303 [(1, .slice x len cap), (5, zp p 0), (6, zp q 0), (7, zi m), (301, .bool false)] -> Ob2 RfAt w w' p q T T [bs2, bs1, b8] -> NX a' w') :
  wpAnyH Try.prog .any OPS33.toArray (Norm NX) (fun w' : World => w'.cell? ⟨b8, 1, none⟩ = some (zi a) /\ w'.cell? ⟨b8, 2, none⟩ = some (zi b) /\ w'.cell? ⟨bs1, 0, none⟩ = some (zi (T.pathI a b).c) /\ w'.cell? ⟨bs1, 1, none⟩ = some (zi (T.pathI a b).s) /\ w'.cell? ⟨bs1, 2, none⟩ = some (zi (T.pathI a b).a) /\ w'.cell? ⟨bs1, 3, none⟩ = some (zi (T.pathI a b).b) /\ w'.cell? ⟨bs2, 0, none⟩ = some (zi (T.pathI a b).c) /\ w'.cell? ⟨bs2, 1, none⟩ = some (zi (T.pathI a b).s) /\ w'.cell? ⟨bs2, 2, none⟩ = some (zi (T.pathI a b).a) /\ w'.cell? ⟨bs2, 3, none⟩ = some (zi (T.pathI a b).b)) 42 LS33_70 a0 W := by
 have hq : ∀ c a a' w', Norm NX (.panic c) a w' -> Norm NX (.panic c) a' w' := fun _ _ _ _ h => h
 refine dT 70 ⟨some 260, .fieldAddr 29 (.tmp 8) 2, 0, "law.go:61", #[⟨66, .guard⟩], some (66, false)⟩ (zp b8 2) K0 hq NS33 (want_some K0 rfl rfl rfl) (fun ev E w9 hSw => ?_) hS fun a71 K71 => ?_
 ·have EC := E.const; have E8 := E.tmp 8 _ rfl; clear E K0 hN hq; clear hSw; go_simp
 refine dT 71 ⟨some 261, .load 3 (.tmp 260), 3, "law.go:61", #[⟨70, .data⟩, ⟨66, .guard⟩], some (66, false)⟩ (zi b) K71 hq NS33 (want_some K71 rfl rfl rfl) (fun ev E w9 hSw => ?_) hS fun a72 K72 => ?_
 ·have EC := E.const; have E260 := E.tmp 260 _ rfl; clear E K71 hN hq; obtain ⟨z1, z2, s0, s1, s2, s3, r0, r1, r2, r3⟩ := hSw; go_simp
 clear K71
 refine dT 73 ⟨some 263, .move (.tmp 6), 26, "law.go:61", #[⟨66, .guard⟩], some (66, false)⟩ (zp q 0) K72 hq NS33 (want_some K72 rfl rfl rfl) (fun ev E w9 hSw => ?_) hS fun a73 K73 => ?_
 ·have EC := E.const; have E6 := E.tmp 6 _ rfl; clear E K72 hN hq; clear hSw; go_simp
 clear K72
 refine dT 74 ⟨some 264, .fieldAddr 29 (.tmp 8) 1, 0, "law.go:61", #[⟨66, .guard⟩], some (66, false)⟩ (zp b8 1) K73 hq NS33 (want_some K73 rfl rfl rfl) (fun ev E w9 hSw => ?_) hS fun a74 K74 => ?_
 ·have EC := E.const; have E8 := E.tmp 8 _ rfl; clear E K73 hN hq; clear hSw; go_simp
 clear K73
 refine dT 75 ⟨some 265, .load 3 (.tmp 264), 3, "law.go:61", #[⟨74, .data⟩, ⟨66, .guard⟩], some (66, false)⟩ (zi a) K74 hq NS33 (want_some K74 rfl rfl rfl) (fun ev E w9 hSw => ?_) hS fun a75 K75 => ?_
 ·have EC := E.const; have E264 := E.tmp 264 _ rfl; clear E K74 hN hq; obtain ⟨z1, z2, s0, s1, s2, s3, r0, r1, r2, r3⟩ := hSw; go_simp
 clear K74
 refine dT 76 ⟨some 266, .fieldAddr 29 (.tmp 8) 2, 0, "law.go:61", #[⟨66, .guard⟩], some (66, false)⟩ (zp b8 2) K75 hq NS33 (want_some K75 rfl rfl rfl) (fun ev E w9 hSw => ?_) hS fun a76 K76 => ?_
 ·have EC := E.const; have E8 := E.tmp 8 _ rfl; clear E K75 hN hq; clear hSw; go_simp
 clear K75
 refine dT 77 ⟨some 267, .load 3 (.tmp 266), 3, "law.go:61", #[⟨76, .data⟩, ⟨66, .guard⟩], some (66, false)⟩ (zi b) K76 hq NS33 (want_some K76 rfl rfl rfl) (fun ev E w9 hSw => ?_) hS fun a77 K77 => ?_
 ·have EC := E.const; have E266 := E.tmp 266 _ rfl; clear E K76 hN hq; obtain ⟨z1, z2, s0, s1, s2, s3, r0, r1, r2, r3⟩ := hSw; go_simp
 clear K76
 refine dcall (i := 72) (o := ⟨some 262, .call { callee := (.value (.func 43)), args := #[(.tmp 257), (.tmp 259), (.tmp 261)], argTypes := #[23, 3, 3] }, 4, "law.go:61", #[⟨67, .data⟩, ⟨69, .data⟩, ⟨71, .data⟩, ⟨66, .chain⟩, ⟨66, .guard⟩], some (66, false)⟩) (f := 43) (args := #[zp p 0, zi a, zi b]) K77 rfl (by kernel_rfl) rfl rfl (want_some K77 rfl rfl rfl) (fun ev E => ?_) (H.fst Rf.lies fun _ ha => aSame _ _ ha) (fun e w78 hR => ?_)
 ·have EC := E.const; have EF := E.func; have E257 := E.tmp 257 _ rfl; have E259 := E.tmp 259 _ rfl; have E261 := E.tmp 261 _ rfl; clear E K77 hN hq; go_simp
 obtain ⟨rfl, h6, k6⟩ := hR
 replace X := X.kept k6 (by simp)
 replace S1 := S1.kept k6 (by simp)
 replace S2 := S2.kept k6 (by simp)
 replace H := h6
 clear h6
 replace hS : (fun w' : World => w'.cell? ⟨b8, 1, none⟩ = some (zi a) /\ w'.cell? ⟨b8, 2, none⟩ = some (zi b) /\ w'.cell? ⟨bs1, 0, none⟩ = some (zi (T.pathI a b).c) /\ w'.cell? ⟨bs1, 1, none⟩ = some (zi (T.pathI a b).s) /\ w'.cell? ⟨bs1, 2, none⟩ = some (zi (T.pathI a b).a) /\ w'.cell? ⟨bs1, 3, none⟩ = some (zi (T.pathI a b).b) /\ w'.cell? ⟨bs2, 0, none⟩ = some (zi (T.pathI a b).c) /\ w'.cell? ⟨bs2, 1, none⟩ = some (zi (T.pathI a b).s) /\ w'.cell? ⟨bs2, 2, none⟩ = some (zi (T.pathI a b).a) /\ w'.cell? ⟨bs2, 3, none⟩ = some (zi (T.pathI a b).b)) w78 := ⟨(X.cell (o := 1) rfl).1, (X.cell (o := 2) rfl).1, S1.1.1, S1.1.2.1, S1.1.2.2.1, S1.1.2.2.2, S2.1.1, S2.1.2.1, S2.1.2.2.1, S2.1.2.2.2⟩
 refine ⟨_, rfl, hS, fun a78 K78 => ?_⟩
 clear k6
 clear K77
 refine dcall (i := 78) (o := ⟨some 268, .call { callee := (.value (.func 44)), args := #[(.tmp 263), (.tmp 265), (.tmp 267)], argTypes := #[26, 3, 3] }, 4, "law.go:61", #[⟨73, .data⟩, ⟨75, .data⟩, ⟨77, .data⟩, ⟨72, .chain⟩, ⟨66, .guard⟩], some (66, false)⟩) (f := 44) (args := #[zp q 0, zi a, zi b]) K78 rfl (by kernel_rfl) rfl rfl (want_some K78 rfl rfl rfl) (fun ev E => ?_) (H.snd Rf.lies fun _ ha => xSame _ _ ha) (fun e w79 hR => ?_)
 ·have EC := E.const; have EF := E.func; have E263 := E.tmp 263 _ rfl; have E265 := E.tmp 265 _ rfl; have E267 := E.tmp 267 _ rfl; clear E K78 hN hq; go_simp
 obtain ⟨rfl, h6, k6⟩ := hR
 replace X := X.kept k6 (by simp)
 replace S1 := S1.kept k6 (by simp)
 replace S2 := S2.kept k6 (by simp)
 replace H := h6
 clear h6
 replace hS : (fun w' : World => w'.cell? ⟨b8, 1, none⟩ = some (zi a) /\ w'.cell? ⟨b8, 2, none⟩ = some (zi b) /\ w'.cell? ⟨bs1, 0, none⟩ = some (zi (T.pathI a b).c) /\ w'.cell? ⟨bs1, 1, none⟩ = some (zi (T.pathI a b).s) /\ w'.cell? ⟨bs1, 2, none⟩ = some (zi (T.pathI a b).a) /\ w'.cell? ⟨bs1, 3, none⟩ = some (zi (T.pathI a b).b) /\ w'.cell? ⟨bs2, 0, none⟩ = some (zi (T.pathI a b).c) /\ w'.cell? ⟨bs2, 1, none⟩ = some (zi (T.pathI a b).s) /\ w'.cell? ⟨bs2, 2, none⟩ = some (zi (T.pathI a b).a) /\ w'.cell? ⟨bs2, 3, none⟩ = some (zi (T.pathI a b).b)) w79 := ⟨(X.cell (o := 1) rfl).1, (X.cell (o := 2) rfl).1, S1.1.1, S1.1.2.1, S1.1.2.2.1, S1.1.2.2.2, S2.1.1, S2.1.2.1, S2.1.2.2.1, S2.1.2.2.2⟩
 refine ⟨_, rfl, hS, fun a79 K79 => ?_⟩
 clear k6
 clear K78
 refine dT 79 ⟨some 269, .binOp .neq 4 (.tmp 262) (.tmp 268) 4, 4, "law.go:61", #[⟨72, .data⟩, ⟨78, .data⟩, ⟨66, .guard⟩], some (66, false)⟩ (.bool false) K79 hq NS33 (want_some K79 rfl rfl rfl) (fun ev E w9 hSw => ?_) hS fun a80 K80 => ?_
 ·have EC := E.const; have E262 := E.tmp 262 _ rfl; have E268 := E.tmp 268 _ rfl; clear E K79 hN hq; clear hSw; go_simp
 clear K79
 refine dT 80 ⟨some 270, .pick (.tmp 256) (.const (.bool true)) (.tmp 269), 4, "law.go:61", #[⟨66, .data⟩, ⟨79, .data⟩], none⟩ (.bool false) K80 hq NS33 (want_none rfl) (fun ev E w9 hSw => ?_) hS fun a81 K81 => ?_
 ·have EC := E.const; have E256 := E.tmp 256 _ rfl; have E269 := E.tmp 269 _ rfl; clear E K80 hN hq; clear hSw; go_simp
 clear K80
 refine dT 81 ⟨some 271, .move (.tmp 270), 4, "law.go:61", #[⟨80, .data⟩, ⟨78, .chain⟩], none⟩ (.bool false) K81 hq NS33 (want_none rfl) (fun ev E w9 hSw => ?_) hS fun a82 K82 => ?_
 ·have EC := E.const; have E270 := E.tmp 270 _ rfl; clear E K81 hN hq; clear hSw; go_simp
 clear K81
 refine dT 82 ⟨some 272, .move (.tmp 5), 23, "law.go:61", #[⟨81, .guard⟩], some (81, false)⟩ (zp p 0) K82 hq NS33 (want_some K82 rfl rfl rfl) (fun ev E w9 hSw => ?_) hS fun a83 K83 => ?_
 ·have EC := E.const; have E5 := E.tmp 5 _ rfl; clear E K82 hN hq; clear hSw; go_simp
 clear K82
 refine dT 83 ⟨some 273, .fieldAddr 29 (.tmp 8) 1, 0, "law.go:61", #[⟨81, .guard⟩], some (81, false)⟩ (zp b8 1) K83 hq NS33 (want_some K83 rfl rfl rfl) (fun ev E w9 hSw => ?_) hS fun a84 K84 => ?_
 ·have EC := E.const; have E8 := E.tmp 8 _ rfl; clear E K83 hN hq; clear hSw; go_simp
 clear K83
 exact rg33_6 (K84.less ⟨rfl, rfl, rfl, rfl, rfl, rfl, rfl, rfl, trivial⟩) H X S1 S2 hS hN
set_option maxHeartbeats 4000000 in
theorem rg33_4 {w : World} {p q b8 : Nat} {T : Tr} {x : Option Addr} {len cap m : Nat} {kd a b c : Int} {bs1 bs2 : Nat} {NX : Act -> World -> Prop} {a0 : Act} {W : World} (K0 : Kn a0 303 [(245, .bool false), (1, .slice x len cap), (5, zp p 0), (6, zp q 0), (7, zi m), (8, zp b8 0)]) (H : Ob2 RfAt w W p q T T [bs2, bs1, b8]) (X : BoxAt W b8 #[zi kd, zi a, zi b, zi c] 29) (S1 : SumAt W bs1 (T.pathI a b)) (S2 : SumAt W bs2 (T.pathI a b)) (hS : (fun w' : World => w'.cell? ⟨b8, 1, none⟩ = some (zi a) /\ w'.cell? ⟨b8, 2, none⟩ = some (zi b) /\ w'.cell? ⟨bs1, 0, none⟩ = some (zi (T.pathI a b).c) /\ w'.cell? ⟨bs1, 1, none⟩ = some (zi (T.pathI a b).s) /\ w'.cell? ⟨bs1, 2, none⟩ = some (zi (T.pathI a b).a) /\ w'.cell? ⟨bs1, 3, none⟩ = some (zi (T.pathI a b).b) /\ w'.cell? ⟨bs2, 0, none⟩ = some (zi (T.pathI a b).c) /\ w'.cell? ⟨bs2, 1, none⟩ = some (zi (T.pathI a b).s) /\ w'.cell? ⟨bs2, 2, none⟩ = some (zi (T.pathI a b).a) /\ w'.cell? ⟨bs2, 3, none⟩ = some (zi (T.pathI a b).b)) W) (hN : ∀ a' w', Kn a' 303 [(1, .slice x len cap), (5, zp p 0), (6, zp q 0), (7, zi m), (301, .bool false)] -> Ob2 RfAt w w' p q T T [bs2, bs1, b8] -> NX a' w') :
  wpAnyH Try.prog .any OPS33.toArray (Norm NX) (fun w' : World => w'.cell? ⟨b8, 1, none⟩ = some (zi a) /\ w'.cell? ⟨b8, 2, none⟩ = some (zi b) /\ w'.cell? ⟨bs1, 0, none⟩ = some (zi (T.pathI a b).c) /\ w'.cell? ⟨bs1, 1, none⟩ = some (zi (T.pathI a b).s) /\ w'.cell? ⟨bs1, 2, none⟩ = some (zi (T.pathI a b).a) /\ w'.cell? ⟨bs1, 3, none⟩ = some (zi (T.pathI a b).b) /\ w'.cell? ⟨bs2, 0, none⟩ = some (zi (T.pathI a b).c) /\ w'.cell? ⟨bs2, 1, none⟩ = some (zi (T.pathI a b).s) /\ w'.cell? ⟨bs2, 2, none⟩ = some (zi (T.pathI a b).a) /\ w'.cell? ⟨bs2, 3, none⟩ = some (zi (T.pathI a b).b)) 56 LS33_56 a0 W := by
 have hq : ∀ c a a' w', Norm NX (.panic c) a w' -> Norm NX (.panic c) a' w' := fun _ _ _ _ h => h
 refine dT 56 ⟨some 246, .move (.tmp 5), 23, "law.go:61", #[⟨55, .guard⟩], some (55, false)⟩ (zp p 0) K0 hq NS33 (want_some K0 rfl rfl rfl) (fun ev E w9 hSw => ?_) hS fun a57 K57 => ?_
 ·have EC := E.const; have E5 := E.tmp 5 _ rfl; clear E K0 hN hq; clear hSw; go_simp
 refine dT 57 ⟨some 247, .fieldAddr 29 (.tmp 8) 1, 0, "law.go:61", #[⟨55, .guard⟩], some (55, false)⟩ (zp b8 1) K57 hq NS33 (want_some K57 rfl rfl rfl) (fun ev E w9 hSw => ?_) hS fun a58 K58 => ?_
 ·have EC := E.const; have E8 := E.tmp 8 _ rfl; clear E K57 hN hq; clear hSw; go_simp
 clear K57
 refine dT 58 ⟨some 248, .load 3 (.tmp 247), 3, "law.go:61", #[⟨57, .data⟩, ⟨55, .guard⟩], some (55, false)⟩ (zi a) K58 hq NS33 (want_some K58 rfl rfl rfl) (fun ev E w9 hSw => ?_) hS fun a59 K59 => ?_
 ·have EC := E.const; have E247 := E.tmp 247 _ rfl; clear E K58 hN hq; obtain ⟨z1, z2, s0, s1, s2, s3, r0, r1, r2, r3⟩ := hSw; go_simp
 clear K58
 refine dT 60 ⟨some 250, .move (.tmp 6), 26, "law.go:61", #[⟨55, .guard⟩], some (55, false)⟩ (zp q 0) K59 hq NS33 (want_some K59 rfl rfl rfl) (fun ev E w9 hSw => ?_) hS fun a60 K60 => ?_
 ·have EC := E.const; have E6 := E.tmp 6 _ rfl; clear E K59 hN hq; clear hSw; go_simp
 clear K59
 refine dT 61 ⟨some 251, .fieldAddr 29 (.tmp 8) 1, 0, "law.go:61", #[⟨55, .guard⟩], some (55, false)⟩ (zp b8 1) K60 hq NS33 (want_some K60 rfl rfl rfl) (fun ev E w9 hSw => ?_) hS fun a61 K61 => ?_
 ·have EC := E.const; have E8 := E.tmp 8 _ rfl; clear E K60 hN hq; clear hSw; go_simp
 clear K60
 refine dT 62 ⟨some 252, .load 3 (.tmp 251), 3, "law.go:61", #[⟨61, .data⟩, ⟨55, .guard⟩], some (55, false)⟩ (zi a) K61 hq NS33 (want_some K61 rfl rfl rfl) (fun ev E w9 hSw => ?_) hS fun a62 K62 => ?_
 ·have EC := E.const; have E251 := E.tmp 251 _ rfl; clear E K61 hN hq; obtain ⟨z1, z2, s0, s1, s2, s3, r0, r1, r2, r3⟩ := hSw; go_simp
 clear K61
 refine dcall (i := 59) (o := ⟨some 249, .call { callee := (.value (.func 41)), args := #[(.tmp 246), (.tmp 248)], argTypes := #[23, 3] }, 3, "law.go:61", #[⟨56, .data⟩, ⟨58, .data⟩, ⟨55, .chain⟩, ⟨55, .guard⟩], some (55, false)⟩) (f := 41) (args := #[zp p 0, zi a]) K62 rfl (by kernel_rfl) rfl rfl (want_some K62 rfl rfl rfl) (fun ev E => ?_) (H.fst Rf.lies fun _ ha => aParent _ ha) (fun e w63 hR => ?_)
 ·have EC := E.const; have EF := E.func; have E246 := E.tmp 246 _ rfl; have E248 := E.tmp 248 _ rfl; clear E K62 hN hq; go_simp
 obtain ⟨rfl, h6, k6⟩ := hR
 replace X := X.kept k6 (by simp)
 replace S1 := S1.kept k6 (by simp)
 replace S2 := S2.kept k6 (by simp)
 replace H := h6
 clear h6
 replace hS : (fun w' : World => w'.cell? ⟨b8, 1, none⟩ = some (zi a) /\ w'.cell? ⟨b8, 2, none⟩ = some (zi b) /\ w'.cell? ⟨bs1, 0, none⟩ = some (zi (T.pathI a b).c) /\ w'.cell? ⟨bs1, 1, none⟩ = some (zi (T.pathI a b).s) /\ w'.cell? ⟨bs1, 2, none⟩ = some (zi (T.pathI a b).a) /\ w'.cell? ⟨bs1, 3, none⟩ = some (zi (T.pathI a b).b) /\ w'.cell? ⟨bs2, 0, none⟩ = some (zi (T.pathI a b).c) /\ w'.cell? ⟨bs2, 1, none⟩ = some (zi (T.pathI a b).s) /\ w'.cell? ⟨bs2, 2, none⟩ = some (zi (T.pathI a b).a) /\ w'.cell? ⟨bs2, 3, none⟩ = some (zi (T.pathI a b).b)) w63 := ⟨(X.cell (o := 1) rfl).1, (X.cell (o := 2) rfl).1, S1.1.1, S1.1.2.1, S1.1.2.2.1, S1.1.2.2.2, S2.1.1, S2.1.2.1, S2.1.2.2.1, S2.1.2.2.2⟩
 refine ⟨_, rfl, hS, fun a63 K63 => ?_⟩
 clear k6
 clear K62
 refine dcall (i := 63) (o := ⟨some 253, .call { callee := (.value (.func 42)), args := #[(.tmp 250), (.tmp 252)], argTypes := #[26, 3] }, 3, "law.go:61", #[⟨60, .data⟩, ⟨62, .data⟩, ⟨59, .chain⟩, ⟨55, .guard⟩], some (55, false)⟩) (f := 42) (args := #[zp q 0, zi a]) K63 rfl (by kernel_rfl) rfl rfl (want_some K63 rfl rfl rfl) (fun ev E => ?_) (H.snd Rf.lies fun _ ha => xParent _ ha) (fun e w64 hR => ?_)
 ·have EC := E.const; have EF := E.func; have E250 := E.tmp 250 _ rfl; have E252 := E.tmp 252 _ rfl; clear E K63 hN hq; go_simp
 obtain ⟨rfl, h6, k6⟩ := hR
 replace X := X.kept k6 (by simp)
 replace S1 := S1.kept k6 (by simp)
 replace S2 := S2.kept k6 (by simp)
 replace H := h6
 clear h6
 replace hS : (fun w' : World => w'.cell? ⟨b8, 1, none⟩ = some (zi a) /\ w'.cell? ⟨b8, 2, none⟩ = some (zi b) /\ w'.cell? ⟨bs1, 0, none⟩ = some (zi (T.pathI a b).c) /\ w'.cell? ⟨bs1, 1, none⟩ = some (zi (T.pathI a b).s) /\ w'.cell? ⟨bs1, 2, none⟩ = some (zi (T.pathI a b).a) /\ w'.cell? ⟨bs1, 3, none⟩ = some (zi (T.pathI a b).b) /\ w'.cell? ⟨bs2, 0, none⟩ = some (zi (T.pathI a b).c) /\ w'.cell? ⟨bs2, 1, none⟩ = some (zi (T.pathI a b).s) /\ w'.cell? ⟨bs2, 2, none⟩ = some (zi (T.pathI a b).a) /\ w'.cell? ⟨bs2, 3, none⟩ = some (zi (T.pathI a b).b)) w64 := ⟨(X.cell (o := 1) rfl).1, (X.cell (o := 2) rfl).1, S1.1.1, S1.1.2.1, S1.1.2.2.1, S1.1.2.2.2, S2.1.1, S2.1.2.1, S2.1.2.2.1, S2.1.2.2.2⟩
 refine ⟨_, rfl, hS, fun a64 K64 => ?_⟩
 clear k6
 clear K63
 refine dT 64 ⟨some 254, .binOp .neq 3 (.tmp 249) (.tmp 253) 3, 4, "law.go:61", #[⟨59, .data⟩, ⟨63, .data⟩, ⟨55, .guard⟩], some (55, false)⟩ (.bool false) K64 hq NS33 (want_some K64 rfl rfl rfl) (fun ev E w9 hSw => ?_) hS fun a65 K65 => ?_
 ·have EC := E.const; have E249 := E.tmp 249 _ rfl; have E253 := E.tmp 253 _ rfl; clear E K64 hN hq; clear hSw; go_simp
 clear K64
 refine dT 65 ⟨some 255, .pick (.tmp 245) (.const (.bool true)) (.tmp 254), 4, "law.go:61", #[⟨55, .data⟩, ⟨64, .data⟩], none⟩ (.bool false) K65 hq NS33 (want_none rfl) (fun ev E w9 hSw => ?_) hS fun a66 K66 => ?_
 ·have EC := E.const; have E245 := E.tmp 245 _ rfl; have E254 := E.tmp 254 _ rfl; clear E K65 hN hq; clear hSw; go_simp
 clear K65
 refine dT 66 ⟨some 256, .move (.tmp 255), 4, "law.go:61", #[⟨65, .data⟩, ⟨63, .chain⟩], none⟩ (.bool false) K66 hq NS33 (want_none rfl) (fun ev E w9 hSw => ?_) hS fun a67 K67 => ?_
 ·have EC := E.const; have E255 := E.tmp 255 _ rfl; clear E K66 hN hq; clear hSw; go_simp
 clear K66
 refine dT 67 ⟨some 257, .move (.tmp 5), 23, "law.go:61", #[⟨66, .guard⟩], some (66, false)⟩ (zp p 0) K67 hq NS33 (want_some K67 rfl rfl rfl) (fun ev E w9 hSw => ?_) hS fun a68 K68 => ?_
 ·have EC := E.const; have E5 := E.tmp 5 _ rfl; clear E K67 hN hq; clear hSw; go_simp
 clear K67
 refine dT 68 ⟨some 258, .fieldAddr 29 (.tmp 8) 1, 0, "law.go:61", #[⟨66, .guard⟩], some (66, false)⟩ (zp b8 1) K68 hq NS33 (want_some K68 rfl rfl rfl) (fun ev E w9 hSw => ?_) hS fun a69 K69 => ?_
 ·have EC := E.const; have E8 := E.tmp 8 _ rfl; clear E K68 hN hq; clear hSw; go_simp
 clear K68
 refine dT 69 ⟨some 259, .load 3 (.tmp 258), 3, "law.go:61", #[⟨68, .data⟩, ⟨66, .guard⟩], some (66, false)⟩ (zi a) K69 hq NS33 (want_some K69 rfl rfl rfl) (fun ev E w9 hSw => ?_) hS fun a70 K70 => ?_
 ·have EC := E.const; have E258 := E.tmp 258 _ rfl; clear E K69 hN hq; obtain ⟨z1, z2, s0, s1, s2, s3, r0, r1, r2, r3⟩ := hSw; go_simp
 clear K69
 exact rg33_5 (K70.less ⟨rfl, rfl, rfl, rfl, rfl, rfl, rfl, rfl, trivial⟩) H X S1 S2 hS hN
set_option maxHeartbeats 4000000 in
theorem rg33_3 {w : World} {p q b8 : Nat} {T : Tr} {x : Option Addr} {len cap m : Nat} {kd a b c : Int} {bs1 bs2 : Nat} {NX : Act -> World -> Prop} {a0 : Act} {W : World} (K0 : Kn a0 303 [(231, .bool (T.hasI a)), (227, .bool (T.hasI a)), (223, .bool false), (1, .slice x len cap), (5, zp p 0), (6, zp q 0), (7, zi m), (8, zp b8 0)]) (H : Ob2 RfAt w W p q T T [bs2, bs1, b8]) (X : BoxAt W b8 #[zi kd, zi a, zi b, zi c] 29) (S1 : SumAt W bs1 (T.pathI a b)) (S2 : SumAt W bs2 (T.pathI a b)) (hS : (fun w' : World => w'.cell? ⟨b8, 1, none⟩ = some (zi a) /\ w'.cell? ⟨b8, 2, none⟩ = some (zi b) /\ w'.cell? ⟨bs1, 0, none⟩ = some (zi (T.pathI a b).c) /\ w'.cell? ⟨bs1, 1, none⟩ = some (zi (T.pathI a b).s) /\ w'.cell? ⟨bs1, 2, none⟩ = some (zi (T.pathI a b).a) /\ w'.cell? ⟨bs1, 3, none⟩ = some (zi (T.pathI a b).b) /\ w'.cell? ⟨bs2, 0, none⟩ = some (zi (T.pathI a b).c) /\ w'.cell? ⟨bs2, 1, none⟩ = some (zi (T.pathI a b).s) /\ w'.cell? ⟨bs2, 2, none⟩ = some (zi (T.pathI a b).a) /\ w'.cell? ⟨bs2, 3, none⟩ = some (zi (T.pathI a b).b)) W) (hN : ∀ a' w', Kn a' 303 [(1, .slice x len cap), (5, zp p 0), (6, zp q 0), (7, zi m), (301, .bool false)] -> Ob2 RfAt w w' p q T T [bs2, bs1, b8] -> NX a' w') :
  wpAnyH Try.prog .any OPS33.toArray (Norm NX) (fun w' : World => w'.cell? ⟨b8, 1, none⟩ = some (zi a) /\ w'.cell? ⟨b8, 2, none⟩ = some (zi b) /\ w'.cell? ⟨bs1, 0, none⟩ = some (zi (T.pathI a b).c) /\ w'.cell? ⟨bs1, 1, none⟩ = some (zi (T.pathI a b).s) /\ w'.cell? ⟨bs1, 2, none⟩ = some (zi (T.pathI a b).a) /\ w'.cell? ⟨bs1, 3, none⟩ = some (zi (T.pathI a b).b) /\ w'.cell? ⟨bs2, 0, none⟩ = some (zi (T.pathI a b).c) /\ w'.cell? ⟨bs2, 1, none⟩ = some (zi (T.pathI a b).s) /\ w'.cell? ⟨bs2, 2, none⟩ = some (zi (T.pathI a b).a) /\ w'.cell? ⟨bs2, 3, none⟩ = some (zi (T.pathI a b).b)) 70 LS33_42 a0 W := by
 have hq : ∀ c a a' w', Norm NX (.panic c) a w' -> Norm NX (.panic c) a' w' := fun _ _ _ _ h => h
 refine dT 42 ⟨some 232, .binOp .neq 4 (.tmp 227) (.tmp 231) 4, 4, "law.go:61", #[⟨37, .data⟩, ⟨41, .data⟩, ⟨33, .guard⟩], some (33, false)⟩ (.bool false) K0 hq NS33 (want_some K0 rfl rfl rfl) (fun ev E w9 hSw => ?_) hS fun a43 K43 => ?_
 ·have EC := E.const; have E227 := E.tmp 227 _ rfl; have E231 := E.tmp 231 _ rfl; clear E K0 hN hq; clear hSw; go_simp
 refine dT 43 ⟨some 233, .pick (.tmp 223) (.const (.bool true)) (.tmp 232), 4, "law.go:61", #[⟨33, .data⟩, ⟨42, .data⟩], none⟩ (.bool false) K43 hq NS33 (want_none rfl) (fun ev E w9 hSw => ?_) hS fun a44 K44 => ?_
 ·have EC := E.const; have E223 := E.tmp 223 _ rfl; have E232 := E.tmp 232 _ rfl; clear E K43 hN hq; clear hSw; go_simp
 clear K43
 refine dT 44 ⟨some 234, .move (.tmp 233), 4, "law.go:61", #[⟨43, .data⟩, ⟨41, .chain⟩], none⟩ (.bool false) K44 hq NS33 (want_none rfl) (fun ev E w9 hSw => ?_) hS fun a45 K45 => ?_
 ·have EC := E.const; have E233 := E.tmp 233 _ rfl; clear E K44 hN hq; clear hSw; go_simp
 clear K44
 refine dT 45 ⟨some 235, .move (.tmp 5), 23, "law.go:61", #[⟨44, .guard⟩], some (44, false)⟩ (zp p 0) K45 hq NS33 (want_some K45 rfl rfl rfl) (fun ev E w9 hSw => ?_) hS fun a46 K46 => ?_
 ·have EC := E.const; have E5 := E.tmp 5 _ rfl; clear E K45 hN hq; clear hSw; go_simp
 clear K45
 refine dT 46 ⟨some 236, .fieldAddr 29 (.tmp 8) 1, 0, "law.go:61", #[⟨44, .guard⟩], some (44, false)⟩ (zp b8 1) K46 hq NS33 (want_some K46 rfl rfl rfl) (fun ev E w9 hSw => ?_) hS fun a47 K47 => ?_
 ·have EC := E.const; have E8 := E.tmp 8 _ rfl; clear E K46 hN hq; clear hSw; go_simp
 clear K46
 refine dT 47 ⟨some 237, .load 3 (.tmp 236), 3, "law.go:61", #[⟨46, .data⟩, ⟨44, .guard⟩], some (44, false)⟩ (zi a) K47 hq NS33 (want_some K47 rfl rfl rfl) (fun ev E w9 hSw => ?_) hS fun a48 K48 => ?_
 ·have EC := E.const; have E236 := E.tmp 236 _ rfl; clear E K47 hN hq; obtain ⟨z1, z2, s0, s1, s2, s3, r0, r1, r2, r3⟩ := hSw; go_simp
 clear K47
 refine dT 49 ⟨some 239, .move (.tmp 6), 26, "law.go:61", #[⟨44, .guard⟩], some (44, false)⟩ (zp q 0) K48 hq NS33 (want_some K48 rfl rfl rfl) (fun ev E w9 hSw => ?_) hS fun a49 K49 => ?_
 ·have EC := E.const; have E6 := E.tmp 6 _ rfl; clear E K48 hN hq; clear hSw; go_simp
 clear K48
 refine dT 50 ⟨some 240, .fieldAddr 29 (.tmp 8) 1, 0, "law.go:61", #[⟨44, .guard⟩], some (44, false)⟩ (zp b8 1) K49 hq NS33 (want_some K49 rfl rfl rfl) (fun ev E w9 hSw => ?_) hS fun a50 K50 => ?_
 ·have EC := E.const; have E8 := E.tmp 8 _ rfl; clear E K49 hN hq; clear hSw; go_simp
 clear K49
 refine dT 51 ⟨some 241, .load 3 (.tmp 240), 3, "law.go:61", #[⟨50, .data⟩, ⟨44, .guard⟩], some (44, false)⟩ (zi a) K50 hq NS33 (want_some K50 rfl rfl rfl) (fun ev E w9 hSw => ?_) hS fun a51 K51 => ?_
 ·have EC := E.const; have E240 := E.tmp 240 _ rfl; clear E K50 hN hq; obtain ⟨z1, z2, s0, s1, s2, s3, r0, r1, r2, r3⟩ := hSw; go_simp
 clear K50
 refine dcall (i := 48) (o := ⟨some 238, .call { callee := (.value (.func 39)), args := #[(.tmp 235), (.tmp 237)], argTypes := #[23, 3] }, 3, "law.go:61", #[⟨45, .data⟩, ⟨47, .data⟩, ⟨44, .chain⟩, ⟨44, .guard⟩], some (44, false)⟩) (f := 39) (args := #[zp p 0, zi a]) K51 rfl (by kernel_rfl) rfl rfl (want_some K51 rfl rfl rfl) (fun ev E => ?_) (H.fst Rf.lies fun _ ha => aRoot _ ha) (fun e w52 hR => ?_)
 ·have EC := E.const; have EF := E.func; have E235 := E.tmp 235 _ rfl; have E237 := E.tmp 237 _ rfl; clear E K51 hN hq; go_simp
 obtain ⟨rfl, h6, k6⟩ := hR
 replace X := X.kept k6 (by simp)
 replace S1 := S1.kept k6 (by simp)
 replace S2 := S2.kept k6 (by simp)
 replace H := h6
 clear h6
 replace hS : (fun w' : World => w'.cell? ⟨b8, 1, none⟩ = some (zi a) /\ w'.cell? ⟨b8, 2, none⟩ = some (zi b) /\ w'.cell? ⟨bs1, 0, none⟩ = some (zi (T.pathI a b).c) /\ w'.cell? ⟨bs1, 1, none⟩ = some (zi (T.pathI a b).s) /\ w'.cell? ⟨bs1, 2, none⟩ = some (zi (T.pathI a b).a) /\ w'.cell? ⟨bs1, 3, none⟩ = some (zi (T.pathI a b).b) /\ w'.cell? ⟨bs2, 0, none⟩ = some (zi (T.pathI a b).c) /\ w'.cell? ⟨bs2, 1, none⟩ = some (zi (T.pathI a b).s) /\ w'.cell? ⟨bs2, 2, none⟩ = some (zi (T.pathI a b).a) /\ w'.cell? ⟨bs2, 3, none⟩ = some (zi (T.pathI a b).b)) w52 := ⟨(X.cell (o := 1) rfl).1, (X.cell (o := 2) rfl).1, S1.1.1, S1.1.2.1, S1.1.2.2.1, S1.1.2.2.2, S2.1.1, S2.1.2.1, S2.1.2.2.1, S2.1.2.2.2⟩
 refine ⟨_, rfl, hS, fun a52 K52 => ?_⟩
 clear k6
 clear K51
 refine dcall (i := 52) (o := ⟨some 242, .call { callee := (.value (.func 40)), args := #[(.tmp 239), (.tmp 241)], argTypes := #[26, 3] }, 3, "law.go:61", #[⟨49, .data⟩, ⟨51, .data⟩, ⟨48, .chain⟩, ⟨44, .guard⟩], some (44, false)⟩) (f := 40) (args := #[zp q 0, zi a]) K52 rfl (by kernel_rfl) rfl rfl (want_some K52 rfl rfl rfl) (fun ev E => ?_) (H.snd Rf.lies fun _ ha => xRoot _ ha) (fun e w53 hR => ?_)
 ·have EC := E.const; have EF := E.func; have E239 := E.tmp 239 _ rfl; have E241 := E.tmp 241 _ rfl; clear E K52 hN hq; go_simp
 obtain ⟨rfl, h6, k6⟩ := hR
 replace X := X.kept k6 (by simp)
 replace S1 := S1.kept k6 (by simp)
 replace S2 := S2.kept k6 (by simp)
 replace H := h6
 clear h6
 replace hS : (fun w' : World => w'.cell? ⟨b8, 1, none⟩ = some (zi a) /\ w'.cell? ⟨b8, 2, none⟩ = some (zi b) /\ w'.cell? ⟨bs1, 0, none⟩ = some (zi (T.pathI a b).c) /\ w'.cell? ⟨bs1, 1, none⟩ = some (zi (T.pathI a b).s) /\ w'.cell? ⟨bs1, 2, none⟩ = some (zi (T.pathI a b).a) /\ w'.cell? ⟨bs1, 3, none⟩ = some (zi (T.pathI a b).b) /\ w'.cell? ⟨bs2, 0, none⟩ = some (zi (T.pathI a b).c) /\ w'.cell? ⟨bs2, 1, none⟩ = some (zi (T.pathI a b).s) /\ w'.cell? ⟨bs2, 2, none⟩ = some (zi (T.pathI a b).a) /\ w'.cell? ⟨bs2, 3, none⟩ = some (zi (T.pathI a b).b)) w53 := ⟨(X.cell (o := 1) rfl).1, (X.cell (o := 2) rfl).1, S1.1.1, S1.1.2.1, S1.1.2.2.1, S1.1.2.2.2, S2.1.1, S2.1.2.1, S2.1.2.2.1, S2.1.2.2.2⟩
 refine ⟨_, rfl, hS, fun a53 K53 => ?_⟩
 clear k6
 clear K52
 refine dT 53 ⟨some 243, .binOp .neq 3 (.tmp 238) (.tmp 242) 3, 4, "law.go:61", #[⟨48, .data⟩, ⟨52, .data⟩, ⟨44, .guard⟩], some (44, false)⟩ (.bool false) K53 hq NS33 (want_some K53 rfl rfl rfl) (fun ev E w9 hSw => ?_) hS fun a54 K54 => ?_
 ·have EC := E.const; have E238 := E.tmp 238 _ rfl; have E242 := E.tmp 242 _ rfl; clear E K53 hN hq; clear hSw; go_simp
 clear K53
 refine dT 54 ⟨some 244, .pick (.tmp 234) (.const (.bool true)) (.tmp 243), 4, "law.go:61", #[⟨44, .data⟩, ⟨53, .data⟩], none⟩ (.bool false) K54 hq NS33 (want_none rfl) (fun ev E w9 hSw => ?_) hS fun a55 K55 => ?_
 ·have EC := E.const; have E234 := E.tmp 234 _ rfl; have E243 := E.tmp 243 _ rfl; clear E K54 hN hq; clear hSw; go_simp
 clear K54
 refine dT 55 ⟨some 245, .move (.tmp 244), 4, "law.go:61", #[⟨54, .data⟩, ⟨52, .chain⟩], none⟩ (.bool false) K55 hq NS33 (want_none rfl) (fun ev E w9 hSw => ?_) hS fun a56 K56 => ?_
 ·have EC := E.const; have E244 := E.tmp 244 _ rfl; clear E K55 hN hq; clear hSw; go_simp
 clear K55
 exact rg33_4 (K56.less ⟨rfl, rfl, rfl, rfl, rfl, rfl, trivial⟩) H X S1 S2 hS hN
set_option maxHeartbeats 4000000 in
theorem rg33_2 {w : World} {p q b8 : Nat} {T : Tr} {x : Option Addr} {len cap m : Nat} {kd a b c : Int} {bs1 bs2 : Nat} {NX : Act -> World -> Prop} {a0 : Act} {W : World} (K0 : Kn a0 303 [(217, .bool false), (1, .slice x len cap), (5, zp p 0), (6, zp q 0), (7, zi m), (8, zp b8 0), (22, .bool (T.hasI a)), (24, .bool (T.hasI a))]) (H : Ob2 RfAt w W p q T T [bs2, bs1, b8]) (X : BoxAt W b8 #[zi kd, zi a, zi b, zi c] 29) (S1 : SumAt W bs1 (T.pathI a b)) (S2 : SumAt W bs2 (T.pathI a b)) (hS : (fun w' : World => w'.cell? ⟨b8, 1, none⟩ = some (zi a) /\ w'.cell? ⟨b8, 2, none⟩ = some (zi b) /\ w'.cell? ⟨bs1, 0, none⟩ = some (zi (T.pathI a b).c) /\ w'.cell? ⟨bs1, 1, none⟩ = some (zi (T.pathI a b).s) /\ w'.cell? ⟨bs1, 2, none⟩ = some (zi (T.pathI a b).a) /\ w'.cell? ⟨bs1, 3, none⟩ = some (zi (T.pathI a b).b) /\ w'.cell? ⟨bs2, 0, none⟩ = some (zi (T.pathI a b).c) /\ w'.cell? ⟨bs2, 1, none⟩ = some (zi (T.pathI a b).s) /\ w'.cell? ⟨bs2, 2, none⟩ = some (zi (T.pathI a b).a) /\ w'.cell? ⟨bs2, 3, none⟩ = some (zi (T.pathI a b).b)) W) (hN : ∀ a' w', Kn a' 303 [(1, .slice x len cap), (5, zp p 0), (6, zp q 0), (7, zi m), (301, .bool false)] -> Ob2 RfAt w w' p q T T [bs2, bs1, b8] -> NX a' w') :
  wpAnyH Try.prog .any OPS33.toArray (Norm NX) (fun w' : World => w'.cell? ⟨b8, 1, none⟩ = some (zi a) /\ w'.cell? ⟨b8, 2, none⟩ = some (zi b) /\ w'.cell? ⟨bs1, 0, none⟩ = some (zi (T.pathI a b).c) /\ w'.cell? ⟨bs1, 1, none⟩ = some (zi (T.pathI a b).s) /\ w'.cell? ⟨bs1, 2, none⟩ = some (zi (T.pathI a b).a) /\ w'.cell? ⟨bs1, 3, none⟩ = some (zi (T.pathI a b).b) /\ w'.cell? ⟨bs2, 0, none⟩ = some (zi (T.pathI a b).c) /\ w'.cell? ⟨bs2, 1, none⟩ = some (zi (T.pathI a b).s) /\ w'.cell? ⟨bs2, 2, none⟩ = some (zi (T.pathI a b).a) /\ w'.cell? ⟨bs2, 3, none⟩ = some (zi (T.pathI a b).b)) 84 LS33_28 a0 W := by
 have hq : ∀ c a a' w', Norm NX (.panic c) a w' -> Norm NX (.panic c) a' w' := fun _ _ _ _ h => h
 refine dT 28 ⟨some 218, .move (.tmp 217), 4, "law.go:61", #[⟨27, .data⟩, ⟨23, .chain⟩], none⟩ (.bool false) K0 hq NS33 (want_none rfl) (fun ev E w9 hSw => ?_) hS fun a29 K29 => ?_
 ·have EC := E.const; have E217 := E.tmp 217 _ rfl; clear E K0 hN hq; clear hSw; go_simp
 refine dT 29 ⟨some 219, .move (.tmp 22), 4, "law.go:61", #[⟨28, .guard⟩], some (28, false)⟩ (.bool (T.hasI a)) K29 hq NS33 (want_some K29 rfl rfl rfl) (fun ev E w9 hSw => ?_) hS fun a30 K30 => ?_
 ·have EC := E.const; have E22 := E.tmp 22 _ rfl; clear E K29 hN hq; clear hSw; go_simp
 clear K29
 refine dT 30 ⟨some 220, .move (.tmp 24), 4, "law.go:61", #[⟨28, .guard⟩], some (28, false)⟩ (.bool (T.hasI a)) K30 hq NS33 (want_some K30 rfl rfl rfl) (fun ev E w9 hSw => ?_) hS fun a31 K31 => ?_
 ·have EC := E.const; have E24 := E.tmp 24 _ rfl; clear E K30 hN hq; clear hSw; go_simp
 clear K30
 refine dT 31 ⟨some 221, .binOp .neq 4 (.tmp 219) (.tmp 220) 4, 4, "law.go:61", #[⟨29, .data⟩, ⟨30, .data⟩, ⟨28, .guard⟩], some (28, false)⟩ (.bool false) K31 hq NS33 (want_some K31 rfl rfl rfl) (fun ev E w9 hSw => ?_) hS fun a32 K32 => ?_
 ·have EC := E.const; have E219 := E.tmp 219 _ rfl; have E220 := E.tmp 220 _ rfl; clear E K31 hN hq; clear hSw; go_simp
 clear K31
 refine dT 32 ⟨some 222, .pick (.tmp 218) (.const (.bool true)) (.tmp 221), 4, "law.go:61", #[⟨28, .data⟩, ⟨31, .data⟩], none⟩ (.bool false) K32 hq NS33 (want_none rfl) (fun ev E w9 hSw => ?_) hS fun a33 K33 => ?_
 ·have EC := E.const; have E218 := E.tmp 218 _ rfl; have E221 := E.tmp 221 _ rfl; clear E K32 hN hq; clear hSw; go_simp
 clear K32
 refine dT 33 ⟨some 223, .move (.tmp 222), 4, "law.go:61", #[⟨32, .data⟩, ⟨28, .chain⟩], none⟩ (.bool false) K33 hq NS33 (want_none rfl) (fun ev E w9 hSw => ?_) hS fun a34 K34 => ?_
 ·have EC := E.const; have E222 := E.tmp 222 _ rfl; clear E K33 hN hq; clear hSw; go_simp
 clear K33
 refine dT 34 ⟨some 224, .move (.tmp 5), 23, "law.go:61", #[⟨33, .guard⟩], some (33, false)⟩ (zp p 0) K34 hq NS33 (want_some K34 rfl rfl rfl) (fun ev E w9 hSw => ?_) hS fun a35 K35 => ?_
 ·have EC := E.const; have E5 := E.tmp 5 _ rfl; clear E K34 hN hq; clear hSw; go_simp
 clear K34
 refine dT 35 ⟨some 225, .fieldAddr 29 (.tmp 8) 1, 0, "law.go:61", #[⟨33, .guard⟩], some (33, false)⟩ (zp b8 1) K35 hq NS33 (want_some K35 rfl rfl rfl) (fun ev E w9 hSw => ?_) hS fun a36 K36 => ?_
 ·have EC := E.const; have E8 := E.tmp 8 _ rfl; clear E K35 hN hq; clear hSw; go_simp
 clear K35
 refine dT 36 ⟨some 226, .load 3 (.tmp 225), 3, "law.go:61", #[⟨35, .data⟩, ⟨33, .guard⟩], some (33, false)⟩ (zi a) K36 hq NS33 (want_some K36 rfl rfl rfl) (fun ev E w9 hSw => ?_) hS fun a37 K37 => ?_
 ·have EC := E.const; have E225 := E.tmp 225 _ rfl; clear E K36 hN hq; obtain ⟨z1, z2, s0, s1, s2, s3, r0, r1, r2, r3⟩ := hSw; go_simp
 clear K36
 refine dT 38 ⟨some 228, .move (.tmp 6), 26, "law.go:61", #[⟨33, .guard⟩], some (33, false)⟩ (zp q 0) K37 hq NS33 (want_some K37 rfl rfl rfl) (fun ev E w9 hSw => ?_) hS fun a38 K38 => ?_
 ·have EC := E.const; have E6 := E.tmp 6 _ rfl; clear E K37 hN hq; clear hSw; go_simp
 clear K37
 refine dT 39 ⟨some 229, .fieldAddr 29 (.tmp 8) 1, 0, "law.go:61", #[⟨33, .guard⟩], some (33, false)⟩ (zp b8 1) K38 hq NS33 (want_some K38 rfl rfl rfl) (fun ev E w9 hSw => ?_) hS fun a39 K39 => ?_
 ·have EC := E.const; have E8 := E.tmp 8 _ rfl; clear E K38 hN hq; clear hSw; go_simp
 clear K38
 refine dT 40 ⟨some 230, .load 3 (.tmp 229), 3, "law.go:61", #[⟨39, .data⟩, ⟨33, .guard⟩], some (33, false)⟩ (zi a) K39 hq NS33 (want_some K39 rfl rfl rfl) (fun ev E w9 hSw => ?_) hS fun a40 K40 => ?_
 ·have EC := E.const; have E229 := E.tmp 229 _ rfl; clear E K39 hN hq; obtain ⟨z1, z2, s0, s1, s2, s3, r0, r1, r2, r3⟩ := hSw; go_simp
 clear K39
 refine dcall (i := 37) (o := ⟨some 227, .call { callee := (.value (.func 37)), args := #[(.tmp 224), (.tmp 226)], argTypes := #[23, 3] }, 4, "law.go:61", #[⟨34, .data⟩, ⟨36, .data⟩, ⟨33, .chain⟩, ⟨33, .guard⟩], some (33, false)⟩) (f := 37) (args := #[zp p 0, zi a]) K40 rfl (by kernel_rfl) rfl rfl (want_some K40 rfl rfl rfl) (fun ev E => ?_) (H.fst Rf.lies fun _ ha => aHas _ ha) (fun e w41 hR => ?_)
 ·have EC := E.const; have EF := E.func; have E224 := E.tmp 224 _ rfl; have E226 := E.tmp 226 _ rfl; clear E K40 hN hq; go_simp
 obtain ⟨rfl, h6, k6⟩ := hR
 replace X := X.kept k6 (by simp)
 replace S1 := S1.kept k6 (by simp)
 replace S2 := S2.kept k6 (by simp)
 replace H := h6
 clear h6
 replace hS : (fun w' : World => w'.cell? ⟨b8, 1, none⟩ = some (zi a) /\ w'.cell? ⟨b8, 2, none⟩ = some (zi b) /\ w'.cell? ⟨bs1, 0, none⟩ = some (zi (T.pathI a b).c) /\ w'.cell? ⟨bs1, 1, none⟩ = some (zi (T.pathI a b).s) /\ w'.cell? ⟨bs1, 2, none⟩ = some (zi (T.pathI a b).a) /\ w'.cell? ⟨bs1, 3, none⟩ = some (zi (T.pathI a b).b) /\ w'.cell? ⟨bs2, 0, none⟩ = some (zi (T.pathI a b).c) /\ w'.cell? ⟨bs2, 1, none⟩ = some (zi (T.pathI a b).s) /\ w'.cell? ⟨bs2, 2, none⟩ = some (zi (T.pathI a b).a) /\ w'.cell? ⟨bs2, 3, none⟩ = some (zi (T.pathI a b).b)) w41 := ⟨(X.cell (o := 1) rfl).1, (X.cell (o := 2) rfl).1, S1.1.1, S1.1.2.1, S1.1.2.2.1, S1.1.2.2.2, S2.1.1, S2.1.2.1, S2.1.2.2.1, S2.1.2.2.2⟩
 refine ⟨_, rfl, hS, fun a41 K41 => ?_⟩
 clear k6
 clear K40
 refine dcall (i := 41) (o := ⟨some 231, .call { callee := (.value (.func 38)), args := #[(.tmp 228), (.tmp 230)], argTypes := #[26, 3] }, 4, "law.go:61", #[⟨38, .data⟩, ⟨40, .data⟩, ⟨37, .chain⟩, ⟨33, .guard⟩], some (33, false)⟩) (f := 38) (args := #[zp q 0, zi a]) K41 rfl (by kernel_rfl) rfl rfl (want_some K41 rfl rfl rfl) (fun ev E => ?_) (H.snd Rf.lies fun _ ha => xHas _ ha) (fun e w42 hR => ?_)
 ·have EC := E.const; have EF := E.func; have E228 := E.tmp 228 _ rfl; have E230 := E.tmp 230 _ rfl; clear E K41 hN hq; go_simp
 obtain ⟨rfl, h6, k6⟩ := hR
 replace X := X.kept k6 (by simp)
 replace S1 := S1.kept k6 (by simp)
 replace S2 := S2.kept k6 (by simp)
 replace H := h6
 clear h6
 replace hS : (fun w' : World => w'.cell? ⟨b8, 1, none⟩ = some (zi a) /\ w'.cell? ⟨b8, 2, none⟩ = some (zi b) /\ w'.cell? ⟨bs1, 0, none⟩ = some (zi (T.pathI a b).c) /\ w'.cell? ⟨bs1, 1, none⟩ = some (zi (T.pathI a b).s) /\ w'.cell? ⟨bs1, 2, none⟩ = some (zi (T.pathI a b).a) /\ w'.cell? ⟨bs1, 3, none⟩ = some (zi (T.pathI a b).b) /\ w'.cell? ⟨bs2, 0, none⟩ = some (zi (T.pathI a b).c) /\ w'.cell? ⟨bs2, 1, none⟩ = some (zi (T.pathI a b).s) /\ w'.cell? ⟨bs2, 2, none⟩ = some (zi (T.pathI a b).a) /\ w'.cell? ⟨bs2, 3, none⟩ = some (zi (T.pathI a b).b)) w42 := ⟨(X.cell (o := 1) rfl).1, (X.cell (o := 2) rfl).1, S1.1.1, S1.1.2.1, S1.1.2.2.1, S1.1.2.2.2, S2.1.1, S2.1.2.1, S2.1.2.2.1, S2.1.2.2.2⟩
 refine ⟨_, rfl, hS, fun a42 K42 => ?_⟩
 clear k6
 clear K41
 exact rg33_3 (K42.less ⟨rfl, rfl, rfl, rfl, rfl, rfl, rfl, rfl, trivial⟩) H X S1 S2 hS hN
set_option maxHeartbeats 4000000 in
theorem rg33_1 {w : World} {p q b8 : Nat} {T : Tr} {x : Option Addr} {len cap m : Nat} {kd a b c : Int} {bs1 bs2 : Nat} {NX : Act -> World -> Prop} {a0 : Act} {W : World} (K0 : Kn a0 303 [(203, .bool false), (1, .slice x len cap), (5, zp p 0), (6, zp q 0), (7, zi m), (8, zp b8 0), (16, zi (T.subI a).s), (17, .bool (T.hasI a)), (19, zi (T.subI a).s), (20, .bool (T.hasI a)), (21, zi (T.getI a)), (22, .bool (T.hasI a)), (23, zi (T.getI a)), (24, .bool (T.hasI a))]) (H : Ob2 RfAt w W p q T T [bs2, bs1, b8]) (X : BoxAt W b8 #[zi kd, zi a, zi b, zi c] 29) (S1 : SumAt W bs1 (T.pathI a b)) (S2 : SumAt W bs2 (T.pathI a b)) (hS : (fun w' : World => w'.cell? ⟨b8, 1, none⟩ = some (zi a) /\ w'.cell? ⟨b8, 2, none⟩ = some (zi b) /\ w'.cell? ⟨bs1, 0, none⟩ = some (zi (T.pathI a b).c) /\ w'.cell? ⟨bs1, 1, none⟩ = some (zi (T.pathI a b).s) /\ w'.cell? ⟨bs1, 2, none⟩ = some (zi (T.pathI a b).a) /\ w'.cell? ⟨bs1, 3, none⟩ = some (zi (T.pathI a b).b) /\ w'.cell? ⟨bs2, 0, none⟩ = some (zi (T.pathI a b).c) /\ w'.cell? ⟨bs2, 1, none⟩ = some (zi (T.pathI a b).s) /\ w'.cell? ⟨bs2, 2, none⟩ = some (zi (T.pathI a b).a) /\ w'.cell? ⟨bs2, 3, none⟩ = some (zi (T.pathI a b).b)) W) (hN : ∀ a' w', Kn a' 303 [(1, .slice x len cap), (5, zp p 0), (6, zp q 0), (7, zi m), (301, .bool false)] -> Ob2 RfAt w w' p q T T [bs2, bs1, b8] -> NX a' w') :
  wpAnyH Try.prog .any OPS33.toArray (Norm NX) (fun w' : World => w'.cell? ⟨b8, 1, none⟩ = some (zi a) /\ w'.cell? ⟨b8, 2, none⟩ = some (zi b) /\ w'.cell? ⟨bs1, 0, none⟩ = some (zi (T.pathI a b).c) /\ w'.cell? ⟨bs1, 1, none⟩ = some (zi (T.pathI a b).s) /\ w'.cell? ⟨bs1, 2, none⟩ = some (zi (T.pathI a b).a) /\ w'.cell? ⟨bs1, 3, none⟩ = some (zi (T.pathI a b).b) /\ w'.cell? ⟨bs2, 0, none⟩ = some (zi (T.pathI a b).c) /\ w'.cell? ⟨bs2, 1, none⟩ = some (zi (T.pathI a b).s) /\ w'.cell? ⟨bs2, 2, none⟩ = some (zi (T.pathI a b).a) /\ w'.cell? ⟨bs2, 3, none⟩ = some (zi (T.pathI a b).b)) 98 LS33_14 a0 W := by
 have hq : ∀ c a a' w', Norm NX (.panic c) a w' -> Norm NX (.panic c) a' w' := fun _ _ _ _ h => h
 refine dT 14 ⟨some 204, .move (.tmp 16), 3, "law.go:61", #[⟨13, .guard⟩], some (13, false)⟩ (zi (T.subI a).s) K0 hq NS33 (want_some K0 rfl rfl rfl) (fun ev E w9 hSw => ?_) hS fun a15 K15 => ?_
 ·have EC := E.const; have E16 := E.tmp 16 _ rfl; clear E K0 hN hq; clear hSw; go_simp
 refine dT 15 ⟨some 205, .move (.tmp 19), 3, "law.go:61", #[⟨13, .guard⟩], some (13, false)⟩ (zi (T.subI a).s) K15 hq NS33 (want_some K15 rfl rfl rfl) (fun ev E w9 hSw => ?_) hS fun a16 K16 => ?_
 ·have EC := E.const; have E19 := E.tmp 19 _ rfl; clear E K15 hN hq; clear hSw; go_simp
 clear K15
 refine dT 16 ⟨some 206, .binOp .neq 3 (.tmp 204) (.tmp 205) 3, 4, "law.go:61", #[⟨14, .data⟩, ⟨15, .data⟩, ⟨13, .guard⟩], some (13, false)⟩ (.bool false) K16 hq NS33 (want_some K16 rfl rfl rfl) (fun ev E w9 hSw => ?_) hS fun a17 K17 => ?_
 ·have EC := E.const; have E204 := E.tmp 204 _ rfl; have E205 := E.tmp 205 _ rfl; clear E K16 hN hq; clear hSw; go_simp
 clear K16
 refine dT 17 ⟨some 207, .pick (.tmp 203) (.const (.bool true)) (.tmp 206), 4, "law.go:61", #[⟨13, .data⟩, ⟨16, .data⟩], none⟩ (.bool false) K17 hq NS33 (want_none rfl) (fun ev E w9 hSw => ?_) hS fun a18 K18 => ?_
 ·have EC := E.const; have E203 := E.tmp 203 _ rfl; have E206 := E.tmp 206 _ rfl; clear E K17 hN hq; clear hSw; go_simp
 clear K17
 refine dT 18 ⟨some 208, .move (.tmp 207), 4, "law.go:61", #[⟨17, .data⟩, ⟨13, .chain⟩], none⟩ (.bool false) K18 hq NS33 (want_none rfl) (fun ev E w9 hSw => ?_) hS fun a19 K19 => ?_
 ·have EC := E.const; have E207 := E.tmp 207 _ rfl; clear E K18 hN hq; clear hSw; go_simp
 clear K18
 refine dT 19 ⟨some 209, .move (.tmp 17), 4, "law.go:61", #[⟨18, .guard⟩], some (18, false)⟩ (.bool (T.hasI a)) K19 hq NS33 (want_some K19 rfl rfl rfl) (fun ev E w9 hSw => ?_) hS fun a20 K20 => ?_
 ·have EC := E.const; have E17 := E.tmp 17 _ rfl; clear E K19 hN hq; clear hSw; go_simp
 clear K19
 refine dT 20 ⟨some 210, .move (.tmp 20), 4, "law.go:61", #[⟨18, .guard⟩], some (18, false)⟩ (.bool (T.hasI a)) K20 hq NS33 (want_some K20 rfl rfl rfl) (fun ev E w9 hSw => ?_) hS fun a21 K21 => ?_
 ·have EC := E.const; have E20 := E.tmp 20 _ rfl; clear E K20 hN hq; clear hSw; go_simp
 clear K20
 refine dT 21 ⟨some 211, .binOp .neq 4 (.tmp 209) (.tmp 210) 4, 4, "law.go:61", #[⟨19, .data⟩, ⟨20, .data⟩, ⟨18, .guard⟩], some (18, false)⟩ (.bool false) K21 hq NS33 (want_some K21 rfl rfl rfl) (fun ev E w9 hSw => ?_) hS fun a22 K22 => ?_
 ·have EC := E.const; have E209 := E.tmp 209 _ rfl; have E210 := E.tmp 210 _ rfl; clear E K21 hN hq; clear hSw; go_simp
 clear K21
 refine dT 22 ⟨some 212, .pick (.tmp 208) (.const (.bool true)) (.tmp 211), 4, "law.go:61", #[⟨18, .data⟩, ⟨21, .data⟩], none⟩ (.bool false) K22 hq NS33 (want_none rfl) (fun ev E w9 hSw => ?_) hS fun a23 K23 => ?_
 ·have EC := E.const; have E208 := E.tmp 208 _ rfl; have E211 := E.tmp 211 _ rfl; clear E K22 hN hq; clear hSw; go_simp
 clear K22
 refine dT 23 ⟨some 213, .move (.tmp 212), 4, "law.go:61", #[⟨22, .data⟩, ⟨18, .chain⟩], none⟩ (.bool false) K23 hq NS33 (want_none rfl) (fun ev E w9 hSw => ?_) hS fun a24 K24 => ?_
 ·have EC := E.const; have E212 := E.tmp 212 _ rfl; clear E K23 hN hq; clear hSw; go_simp
 clear K23
 refine dT 24 ⟨some 214, .move (.tmp 21), 3, "law.go:61", #[⟨23, .guard⟩], some (23, false)⟩ (zi (T.getI a)) K24 hq NS33 (want_some K24 rfl rfl rfl) (fun ev E w9 hSw => ?_) hS fun a25 K25 => ?_
 ·have EC := E.const; have E21 := E.tmp 21 _ rfl; clear E K24 hN hq; clear hSw; go_simp
 clear K24
 refine dT 25 ⟨some 215, .move (.tmp 23), 3, "law.go:61", #[⟨23, .guard⟩], some (23, false)⟩ (zi (T.getI a)) K25 hq NS33 (want_some K25 rfl rfl rfl) (fun ev E w9 hSw => ?_) hS fun a26 K26 => ?_
 ·have EC := E.const; have E23 := E.tmp 23 _ rfl; clear E K25 hN hq; clear hSw; go_simp
 clear K25
 refine dT 26 ⟨some 216, .binOp .neq 3 (.tmp 214) (.tmp 215) 3, 4, "law.go:61", #[⟨24, .data⟩, ⟨25, .data⟩, ⟨23, .guard⟩], some (23, false)⟩ (.bool false) K26 hq NS33 (want_some K26 rfl rfl rfl) (fun ev E w9 hSw => ?_) hS fun a27 K27 => ?_
 ·have EC := E.const; have E214 := E.tmp 214 _ rfl; have E215 := E.tmp 215 _ rfl; clear E K26 hN hq; clear hSw; go_simp
 clear K26
 refine dT 27 ⟨some 217, .pick (.tmp 213) (.const (.bool true)) (.tmp 216), 4, "law.go:61", #[⟨23, .data⟩, ⟨26, .data⟩], none⟩ (.bool false) K27 hq NS33 (want_none rfl) (fun ev E w9 hSw => ?_) hS fun a28 K28 => ?_
 ·have EC := E.const; have E213 := E.tmp 213 _ rfl; have E216 := E.tmp 216 _ rfl; clear E K27 hN hq; clear hSw; go_simp
 clear K27
 exact rg33_2 (K28.less ⟨rfl, rfl, rfl, rfl, rfl, rfl, rfl, rfl, trivial⟩) H X S1 S2 hS hN
set_option maxHeartbeats 4000000 in
theorem rg33_0 {w : World} {p q b8 : Nat} {T : Tr} {x : Option Addr} {len cap m : Nat} {kd a b c : Int} {bs1 bs2 : Nat} {NX : Act -> World -> Prop} {a0 : Act} {W : World} (K0 : Kn a0 303 [(1, .slice x len cap), (5, zp p 0), (6, zp q 0), (7, zi m), (8, zp b8 0), (11, zp bs1 0), (12, .bool (T.sameI a b)), (13, zp bs2 0), (14, .bool (T.sameI a b)), (15, zi (T.subI a).c), (16, zi (T.subI a).s), (17, .bool (T.hasI a)), (18, zi (T.subI a).c), (19, zi (T.subI a).s), (20, .bool (T.hasI a)), (21, zi (T.getI a)), (22, .bool (T.hasI a)), (23, zi (T.getI a)), (24, .bool (T.hasI a))]) (H : Ob2 RfAt w W p q T T [bs2, bs1, b8]) (X : BoxAt W b8 #[zi kd, zi a, zi b, zi c] 29) (S1 : SumAt W bs1 (T.pathI a b)) (S2 : SumAt W bs2 (T.pathI a b)) (hS : (fun w' : World => w'.cell? ⟨b8, 1, none⟩ = some (zi a) /\ w'.cell? ⟨b8, 2, none⟩ = some (zi b) /\ w'.cell? ⟨bs1, 0, none⟩ = some (zi (T.pathI a b).c) /\ w'.cell? ⟨bs1, 1, none⟩ = some (zi (T.pathI a b).s) /\ w'.cell? ⟨bs1, 2, none⟩ = some (zi (T.pathI a b).a) /\ w'.cell? ⟨bs1, 3, none⟩ = some (zi (T.pathI a b).b) /\ w'.cell? ⟨bs2, 0, none⟩ = some (zi (T.pathI a b).c) /\ w'.cell? ⟨bs2, 1, none⟩ = some (zi (T.pathI a b).s) /\ w'.cell? ⟨bs2, 2, none⟩ = some (zi (T.pathI a b).a) /\ w'.cell? ⟨bs2, 3, none⟩ = some (zi (T.pathI a b).b)) W) (hN : ∀ a' w', Kn a' 303 [(1, .slice x len cap), (5, zp p 0), (6, zp q 0), (7, zi m), (301, .bool false)] -> Ob2 RfAt w w' p q T T [bs2, bs1, b8] -> NX a' w') :
  wpAnyH Try.prog .any OPS33.toArray (Norm NX) (fun w' : World => w'.cell? ⟨b8, 1, none⟩ = some (zi a) /\ w'.cell? ⟨b8, 2, none⟩ = some (zi b) /\ w'.cell? ⟨bs1, 0, none⟩ = some (zi (T.pathI a b).c) /\ w'.cell? ⟨bs1, 1, none⟩ = some (zi (T.pathI a b).s) /\ w'.cell? ⟨bs1, 2, none⟩ = some (zi (T.pathI a b).a) /\ w'.cell? ⟨bs1, 3, none⟩ = some (zi (T.pathI a b).b) /\ w'.cell? ⟨bs2, 0, none⟩ = some (zi (T.pathI a b).c) /\ w'.cell? ⟨bs2, 1, none⟩ = some (zi (T.pathI a b).s) /\ w'.cell? ⟨bs2, 2, none⟩ = some (zi (T.pathI a b).a) /\ w'.cell? ⟨bs2, 3, none⟩ = some (zi (T.pathI a b).b)) 112 LS33_0 a0 W := by
 have hq : ∀ c a a' w', Norm NX (.panic c) a w' -> Norm NX (.panic c) a' w' := fun _ _ _ _ h => h
 refine dT 0 ⟨some 190, .load 34 (.tmp 11), 34, "law.go:61", #[], none⟩ (.agg #[zi (T.pathI a b).c, zi (T.pathI a b).s, zi (T.pathI a b).a, zi (T.pathI a b).b]) K0 hq NS33 (want_none rfl) (fun ev E w9 hSw => ?_) hS fun a1 K1 => ?_
 ·have EC := E.const; have E11 := E.tmp 11 _ rfl; clear E K0 hN hq; obtain ⟨z1, z2, s0, s1, s2, s3, r0, r1, r2, r3⟩ := hSw; go_simp
 refine dT 1 ⟨some 191, .load 34 (.tmp 13), 34, "law.go:61", #[], none⟩ (.agg #[zi (T.pathI a b).c, zi (T.pathI a b).s, zi (T.pathI a b).a, zi (T.pathI a b).b]) K1 hq NS33 (want_none rfl) (fun ev E w9 hSw => ?_) hS fun a2 K2 => ?_
 ·have EC := E.const; have E13 := E.tmp 13 _ rfl; clear E K1 hN hq; obtain ⟨z1, z2, s0, s1, s2, s3, r0, r1, r2, r3⟩ := hSw; go_simp
 clear K1
 refine dT 2 ⟨some 192, .binOp .neq 34 (.tmp 190) (.tmp 191) 34, 4, "law.go:61", #[⟨0, .data⟩, ⟨1, .data⟩], none⟩ (.bool false) K2 hq NS33 (want_none rfl) (fun ev E w9 hSw => ?_) hS fun a3 K3 => ?_
 ·have EC := E.const; have E190 := E.tmp 190 _ rfl; have E191 := E.tmp 191 _ rfl; clear E K2 hN hq; clear hSw; go_simp
 clear K2
 refine dT 3 ⟨some 193, .move (.tmp 192), 4, "law.go:61", #[⟨2, .data⟩], none⟩ (.bool false) K3 hq NS33 (want_none rfl) (fun ev E w9 hSw => ?_) hS fun a4 K4 => ?_
 ·have EC := E.const; have E192 := E.tmp 192 _ rfl; clear E K3 hN hq; clear hSw; go_simp
 clear K3
 refine dT 4 ⟨some 194, .move (.tmp 12), 4, "law.go:61", #[⟨3, .guard⟩], some (3, false)⟩ (.bool (T.sameI a b)) K4 hq NS33 (want_some K4 rfl rfl rfl) (fun ev E w9 hSw => ?_) hS fun a5 K5 => ?_
 ·have EC := E.const; have E12 := E.tmp 12 _ rfl; clear E K4 hN hq; clear hSw; go_simp
 clear K4
 refine dT 5 ⟨some 195, .move (.tmp 14), 4, "law.go:61", #[⟨3, .guard⟩], some (3, false)⟩ (.bool (T.sameI a b)) K5 hq NS33 (want_some K5 rfl rfl rfl) (fun ev E w9 hSw => ?_) hS fun a6 K6 => ?_
 ·have EC := E.const; have E14 := E.tmp 14 _ rfl; clear E K5 hN hq; clear hSw; go_simp
 clear K5
 refine dT 6 ⟨some 196, .binOp .neq 4 (.tmp 194) (.tmp 195) 4, 4, "law.go:61", #[⟨4, .data⟩, ⟨5, .data⟩, ⟨3, .guard⟩], some (3, false)⟩ (.bool false) K6 hq NS33 (want_some K6 rfl rfl rfl) (fun ev E w9 hSw => ?_) hS fun a7 K7 => ?_
 ·have EC := E.const; have E194 := E.tmp 194 _ rfl; have E195 := E.tmp 195 _ rfl; clear E K6 hN hq; clear hSw; go_simp
 clear K6
 refine dT 7 ⟨some 197, .pick (.tmp 193) (.const (.bool true)) (.tmp 196), 4, "law.go:61", #[⟨3, .data⟩, ⟨6, .data⟩], none⟩ (.bool false) K7 hq NS33 (want_none rfl) (fun ev E w9 hSw => ?_) hS fun a8 K8 => ?_
 ·have EC := E.const; have E193 := E.tmp 193 _ rfl; have E196 := E.tmp 196 _ rfl; clear E K7 hN hq; clear hSw; go_simp
 clear K7
 refine dT 8 ⟨some 198, .move (.tmp 197), 4, "law.go:61", #[⟨7, .data⟩, ⟨3, .chain⟩], none⟩ (.bool false) K8 hq NS33 (want_none rfl) (fun ev E w9 hSw => ?_) hS fun a9 K9 => ?_
 ·have EC := E.const; have E197 := E.tmp 197 _ rfl; clear E K8 hN hq; clear hSw; go_simp
 clear K8
 refine dT 9 ⟨some 199, .move (.tmp 15), 3, "law.go:61", #[⟨8, .guard⟩], some (8, false)⟩ (zi (T.subI a).c) K9 hq NS33 (want_some K9 rfl rfl rfl) (fun ev E w9 hSw => ?_) hS fun a10 K10 => ?_
 ·have EC := E.const; have E15 := E.tmp 15 _ rfl; clear E K9 hN hq; clear hSw; go_simp
 clear K9
 refine dT 10 ⟨some 200, .move (.tmp 18), 3, "law.go:61", #[⟨8, .guard⟩], some (8, false)⟩ (zi (T.subI a).c) K10 hq NS33 (want_some K10 rfl rfl rfl) (fun ev E w9 hSw => ?_) hS fun a11 K11 => ?_
 ·have EC := E.const; have E18 := E.tmp 18 _ rfl; clear E K10 hN hq; clear hSw; go_simp
 clear K10
 refine dT 11 ⟨some 201, .binOp .neq 3 (.tmp 199) (.tmp 200) 3, 4, "law.go:61", #[⟨9, .data⟩, ⟨10, .data⟩, ⟨8, .guard⟩], some (8, false)⟩ (.bool false) K11 hq NS33 (want_some K11 rfl rfl rfl) (fun ev E w9 hSw => ?_) hS fun a12 K12 => ?_
 ·have EC := E.const; have E199 := E.tmp 199 _ rfl; have E200 := E.tmp 200 _ rfl; clear E K11 hN hq; clear hSw; go_simp
 clear K11
 refine dT 12 ⟨some 202, .pick (.tmp 198) (.const (.bool true)) (.tmp 201), 4, "law.go:61", #[⟨8, .data⟩, ⟨11, .data⟩], none⟩ (.bool false) K12 hq NS33 (want_none rfl) (fun ev E w9 hSw => ?_) hS fun a13 K13 => ?_
 ·have EC := E.const; have E198 := E.tmp 198 _ rfl; have E201 := E.tmp 201 _ rfl; clear E K12 hN hq; clear hSw; go_simp
 clear K12
 refine dT 13 ⟨some 203, .move (.tmp 202), 4, "law.go:61", #[⟨12, .data⟩, ⟨8, .chain⟩], none⟩ (.bool false) K13 hq NS33 (want_none rfl) (fun ev E w9 hSw => ?_) hS fun a14 K14 => ?_
 ·have EC := E.const; have E202 := E.tmp 202 _ rfl; clear E K13 hN hq; clear hSw; go_simp
 clear K13
 exact rg33_1 (K14.less ⟨rfl, rfl, rfl, rfl, rfl, rfl, rfl, rfl, rfl, rfl, rfl, rfl, rfl, rfl, trivial⟩) H X S1 S2 hS hN
set_option maxHeartbeats 4000000 in
theorem rg33 {w : World} {p q b8 : Nat} {T : Tr} {x : Option Addr} {len cap m : Nat} {kd a b c : Int} {bs1 bs2 : Nat} {NX : Act -> World -> Prop} {a0 : Act} {V : World} (K0 : Kn a0 303 [(1, .slice x len cap), (5, zp p 0), (6, zp q 0), (7, zi m), (8, zp b8 0), (11, zp bs1 0), (12, .bool (T.sameI a b)), (13, zp bs2 0), (14, .bool (T.sameI a b)), (15, zi (T.subI a).c), (16, zi (T.subI a).s), (17, .bool (T.hasI a)), (18, zi (T.subI a).c), (19, zi (T.subI a).s), (20, .bool (T.hasI a)), (21, zi (T.getI a)), (22, .bool (T.hasI a)), (23, zi (T.getI a)), (24, .bool (T.hasI a))]) (H : Ob2 RfAt w V p q T T [bs2, bs1, b8]) (X : BoxAt V b8 #[zi kd, zi a, zi b, zi c] 29) (S1 : SumAt V bs1 (T.pathI a b)) (S2 : SumAt V bs2 (T.pathI a b)) (hN : ∀ a' w', Kn a' 303 [(1, .slice x len cap), (5, zp p 0), (6, zp q 0), (7, zi m), (301, .bool false)] -> Ob2 RfAt w w' p q T T [bs2, bs1, b8] -> NX a' w') :
  (Code.region 33 OPS33.toArray true).wp Try.prog (Norm NX) a0 V := by
 replace X := X.kept (H.below Rf.lies ((Below.refl _ _).drew)).2 (by simp)
 replace S1 := S1.kept (H.below Rf.lies ((Below.refl _ _).drew)).2 (by simp)
 replace S2 := S2.kept (H.below Rf.lies ((Below.refl _ _).drew)).2 (by simp)
 replace H := (H.below Rf.lies ((Below.refl _ _).drew)).1
 have hS : (fun w' : World => w'.cell? ⟨b8, 1, none⟩ = some (zi a) /\ w'.cell? ⟨b8, 2, none⟩ = some (zi b) /\ w'.cell? ⟨bs1, 0, none⟩ = some (zi (T.pathI a b).c) /\ w'.cell? ⟨bs1, 1, none⟩ = some (zi (T.pathI a b).s) /\ w'.cell? ⟨bs1, 2, none⟩ = some (zi (T.pathI a b).a) /\ w'.cell? ⟨bs1, 3, none⟩ = some (zi (T.pathI a b).b) /\ w'.cell? ⟨bs2, 0, none⟩ = some (zi (T.pathI a b).c) /\ w'.cell? ⟨bs2, 1, none⟩ = some (zi (T.pathI a b).s) /\ w'.cell? ⟨bs2, 2, none⟩ = some (zi (T.pathI a b).a) /\ w'.cell? ⟨bs2, 3, none⟩ = some (zi (T.pathI a b).b)) V.drew := ⟨(X.cell (o := 1) rfl).1, (X.cell (o := 2) rfl).1, S1.1.1, S1.1.2.1, S1.1.2.2.1, S1.1.2.2.2, S2.1.1, S2.1.2.1, S2.1.2.2.1, S2.1.2.2.2⟩
 refine wp_region_held_drew (S := (fun w' : World => w'.cell? ⟨b8, 1, none⟩ = some (zi a) /\ w'.cell? ⟨b8, 2, none⟩ = some (zi b) /\ w'.cell? ⟨bs1, 0, none⟩ = some (zi (T.pathI a b).c) /\ w'.cell? ⟨bs1, 1, none⟩ = some (zi (T.pathI a b).s) /\ w'.cell? ⟨bs1, 2, none⟩ = some (zi (T.pathI a b).a) /\ w'.cell? ⟨bs1, 3, none⟩ = some (zi (T.pathI a b).b) /\ w'.cell? ⟨bs2, 0, none⟩ = some (zi (T.pathI a b).c) /\ w'.cell? ⟨bs2, 1, none⟩ = some (zi (T.pathI a b).s) /\ w'.cell? ⟨bs2, 2, none⟩ = some (zi (T.pathI a b).a) /\ w'.cell? ⟨bs2, 3, none⟩ = some (zi (T.pathI a b).b))) (by kernel_rfl) hS (fun hS => ?_)
 rw [show OPS33.toArray.size = 112 from by kernel_rfl, show Array.replicate 112 false = LS33_0 from rfl]
 exact rg33_0 K0 H X S1 S2 hS hN
end Go.Proofs.Ytjnkgakajenoaaa

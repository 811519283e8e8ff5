/- CrcParts: the walk. -/
import Derived.Below
import Derived.WalkSmall
import Derived.Deep.RegionHeld3
import Derived.Laws.Strings3
import Derived.Laws.Concat
import Derived.Laws.Cover1
import Derived.Deep.QuietTactic
import Derived.BigQuiet
import Derived.Test.YtofindmbkgalbaaC
namespace Go.Proofs.Ytofindmbkgalbaa
open Go.RowKit
theorem hide {p : Prop} (h : p) : Hid p := h
theorem unhide {p : Prop} (h : Hid p) : p := h
theorem bs_append (x y : ByteArray) : bs (x ++ y) = bs x ++ bs y := by
  obtain ⟨⟨x⟩⟩ := x
  obtain ⟨⟨y⟩⟩ := y
  rw [ByteArray.mk_append_mk]
  show (x ++ y).map _ = x.map _ ++ y.map _
  rw [List.map_append]

set_option maxRecDepth 100000 in
theorem parts_walk (a b c : ByteArray) (ha : a.size ≤ 9223372036854775807) (hb : b.size ≤ 9223372036854775807) (hc : c.size ≤ 9223372036854775807) (w : World) :
    Calls Try.prog 6 #[.string a, .string b, .string c] w fun e w' => e = .returned (.bool true) ∧ Below w.heap.size w w' := by
  have hmin : ∀ (w : World), (Builtin.min_ #[3, 3, 3] 3 #[.int .i64 a.size, .int .i64 b.size, .int .i64 1000]).run Try.prog w = .ok (.int .i64 ((min (min a.size b.size) 1000 : Nat) : Int)) w := fun w => by
    rw [run_min_int3]
    congr 2
    split <;> split <;> omega
  have hn1 : min (min a.size b.size) 1000 ≤ a.size := by omega
  have hn2 : min (min a.size b.size) 1000 ≤ b.size := by omega
  have hn3 : min (min a.size b.size) 1000 ≤ 1000 := by omega
  generalize min (min a.size b.size) 1000 = n at *
  go_enter Try.func6, Try.ntmps6
  by_cases h : c.size ≤ 1000
  · go_wp2_with fail
    go_quiet (fail)
    have hx : (a.extract 0 n).size = n := by rw [ByteArray.size_extract]; omega
    have hy : (b.extract 0 n).size = n := by rw [ByteArray.size_extract]; omega
    generalize a.extract 0 n = x at *
    generalize b.extract 0 n = y at *
    have hxc : (x ++ c).size ≤ 9223372036854775807 := by rw [ByteArray.size_append]; omega
    have hyc : (y ++ c).size ≤ 9223372036854775807 := by rw [ByteArray.size_append]; omega
    have key := crc_parts (bs x) (bs y) (bs c) (bs_lt x) (bs_lt y) (bs_lt c)
    rw [← bs_append, ← bs_append] at key
    have KEY := hide key
    clear key
    go_wp2_with fail
    refine (awake_any _).mono ?_
    rintro e w2 ⟨rfl, rfl⟩
    go_wp2_with fail
    refine (sum_any x (by omega) _).mono ?_
    rintro e w2 ⟨rfl, rfl⟩
    go_wp2_with fail
    refine (sum_any y (by omega) _).mono ?_
    rintro e w2 ⟨rfl, rfl⟩
    go_wp2_with fail
    go_wp2_with fail
    refine (sum_any (x ++ c) hxc _).mono ?_
    rintro e w2 ⟨rfl, rfl⟩
    go_wp2_with fail
    refine (sum_any (y ++ c) hyc _).mono ?_
    rintro e w2 ⟨rfl, rfl⟩
    have hkey := unhide KEY
    generalize crcOf (bs x) = X at *
    generalize crcOf (bs y) = Y at *
    generalize crcOf (bs (x ++ c)) = X' at *
    generalize crcOf (bs (y ++ c)) = Y' at *
    have hbeq : ((X : Int) == (Y : Int)) = ((X' : Int) == (Y' : Int)) := by
      rw [Bool.eq_iff_iff, beq_iff_eq, beq_iff_eq]
      omega
    clear hkey
    go_wp2_with fail
    go_wp2_with fail
    refine (sum_any _ (by decide) _).mono ?_
    rintro e w2 ⟨rfl, rfl⟩
    go_wp2_with fail
    refine (sum_any _ (by decide) _).mono ?_
    rintro e w2 ⟨rfl, rfl⟩
    rw [crc_one, show crcOf (bs { data := #[] }) = 0 from crc_none]
    go_wp2
    go_ret
    exact ⟨rfl, below_drewN (Below.refl _ _) _⟩
  · go_wp2_with fail
    refine (awake_any _).mono ?_
    rintro e w2 ⟨rfl, rfl⟩
    go_wp2
    go_ret
    exact ⟨rfl, Below.refl _ _⟩
end Go.Proofs.Ytofindmbkgalbaa

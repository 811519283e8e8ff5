/- ReadFour, the program's and the document's. -/
import Derived.Test.YtgdiglkbeijomaaRows
import Derived.WalkKit
import Derived.WalkSmall
import Derived.WalkSpells
import Derived.Below
import Derived.RowKit3
import Derived.Laws.BitsAll
import Derived.Laws.Strings3
import Derived.Laws.Concat
import Derived.Laws.Cover1
import Derived.Deep.LoopGhost
import Derived.Deep.RegionHeld3
import Derived.Deep.QuietTactic
import Derived.BigQuiet
import Derived.Test.YtgdiglkbeijomaaM
namespace Go.Proofs.Ytgdiglkbeijomaa
open Go.RowKit
theorem hide {p : Prop} (h : p) : Hid p := h
theorem unhide {p : Prop} (h : Hid p) : p := h

theorem or_mul (a b i m : Nat) (hm : m = 2 ^ i) (h : a < m) : (b * m) ||| a = b * m + a := by
  subst hm
  rw [← Nat.shiftLeft_eq, Nat.shiftLeft_add_eq_or_of_lt h]
theorem sum4 {a b c d : Nat} (ha : a < 256) (hb : b < 256) (hc : c < 256) (hd : d < 256) :
    bits .or .u32 (bits .or .u32 (bits .or .u32 ((a : Int) * 16777216) ((b : Int) * 65536)) ((c : Int) * 256)) (d : Int) = ((a * 16777216 + b * 65536 + c * 256 + d : Nat) : Int) := by
  have e1 : (a : Int) * 16777216 = ((a * 16777216 : Nat) : Int) := by omega
  have e2 : (b : Int) * 65536 = ((b * 65536 : Nat) : Int) := by omega
  have e3 : (c : Int) * 256 = ((c * 256 : Nat) : Int) := by omega
  rw [e1, e2, e3, u32_or_nat (a * 16777216) (b * 65536) (by omega) (by omega), or_mul (b * 65536) a 24 16777216 (by decide) (by omega),
    u32_or_nat _ (c * 256) (by omega) (by omega), show a * 16777216 + b * 65536 = (a * 256 + b) * 65536 by omega, or_mul (c * 256) _ 16 65536 (by decide) (by omega),
    u32_or_nat _ d (by omega) (by omega), show (a * 256 + b) * 65536 + c * 256 = ((a * 256 + b) * 256 + c) * 256 by omega, or_mul d _ 8 256 (by decide) (by omega)]

set_option maxRecDepth 100000 in
theorem read_any (s : ByteArray) (hs : s.size ≤ 9223372036854775807) (w : World) :
    Calls Try.prog 14 #[.string s] w fun e w' => e = .returned (.int .u32 (rd (bs s) : Nat)) ∧ ∃ q, w' = w.drewN q := by
  have hlen := bs_length s
  by_cases h : s.size < 4
  · have hr : rd (bs s) = 0 := by
      unfold rd
      rw [if_pos (by omega)]
    rw [hr]
    go_enter Try.func14, Try.ntmps14
    go_wp2
    go_ret
    exact ⟨rfl, 0, rfl⟩
  · have hr : rd (bs s) = (bs s).getD 0 0 * 16777216 + (bs s).getD 1 0 * 65536 + (bs s).getD 2 0 * 256 + (bs s).getD 3 0 := by
      unfold rd
      rw [if_neg (by omega)]
    have a0 := bs_at s 0 (by omega)
    have a1 := bs_at s 1 (by omega)
    have a2 := bs_at s 2 (by omega)
    have a3 := bs_at s 3 (by omega)
    have b0 := getD_lt (bs_lt s) 0
    have b1 := getD_lt (bs_lt s) 1
    have b2 := getD_lt (bs_lt s) 2
    have b3 := getD_lt (bs_lt s) 3
    rw [hr]
    clear hr
    generalize (bs s).getD 0 0 = x0 at *
    generalize (bs s).getD 1 0 = x1 at *
    generalize (bs s).getD 2 0 = x2 at *
    generalize (bs s).getD 3 0 = x3 at *
    have h4 := sum4 b0 b1 b2 b3
    go_enter Try.func14, Try.ntmps14
    go_wp2_with fail
    go_quiet (fail)
    go_wp2
    go_ret
    exact ⟨rfl, _, rfl⟩

set_option maxRecDepth 100000 in
theorem readR_any (s : ByteArray) (hs : s.size ≤ 9223372036854775807) (w : World) :
    Calls Try.prog 15 #[.string s] w fun e w' => e = .returned (.int .u32 (rd (bs s) : Nat)) ∧ ∃ q, w' = w.drewN q := by
  have hlen := bs_length s
  by_cases h : s.size < 4
  · have hr : rd (bs s) = 0 := by
      unfold rd
      rw [if_pos (by omega)]
    rw [hr]
    go_enter Try.func15, Try.ntmps15
    go_wp2
    go_ret
    exact ⟨rfl, 0, rfl⟩
  · have hr : rd (bs s) = (bs s).getD 0 0 * 16777216 + (bs s).getD 1 0 * 65536 + (bs s).getD 2 0 * 256 + (bs s).getD 3 0 := by
      unfold rd
      rw [if_neg (by omega)]
    have a0 := bs_at s 0 (by omega)
    have a1 := bs_at s 1 (by omega)
    have a2 := bs_at s 2 (by omega)
    have a3 := bs_at s 3 (by omega)
    have b0 := getD_lt (bs_lt s) 0
    have b1 := getD_lt (bs_lt s) 1
    have b2 := getD_lt (bs_lt s) 2
    have b3 := getD_lt (bs_lt s) 3
    rw [hr]
    clear hr
    generalize (bs s).getD 0 0 = x0 at *
    generalize (bs s).getD 1 0 = x1 at *
    generalize (bs s).getD 2 0 = x2 at *
    generalize (bs s).getD 3 0 = x3 at *
    have h4 := sum4 b0 b1 b2 b3
    go_enter Try.func15, Try.ntmps15
    go_wp2_with fail
    go_quiet (fail)
    go_wp2
    go_ret
    exact ⟨rfl, _, rfl⟩
end Go.Proofs.Ytgdiglkbeijomaa

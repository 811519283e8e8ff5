/- The numbers of a record's bytes: signed, eight; whether a node has a record. -/
import Derived.Test.YtgdiglkbeijomaaC
namespace Go.Proofs.Ytgdiglkbeijomaa
open Go.RowKit

theorem wrap32_sg {n : Nat} (h : n < 4294967296) : IntKind.i32.wrap (n : Int) = sg n := by
  unfold sg
  simp [IntKind.wrap, IntKind.bits, IntKind.signed]
  split <;> split <;> omega

theorem wrap_sg {n : Nat} (h : n < 4294967296) : IntKind.i64.wrap (sg n) = sg n := IntWalk.i64_in _ (by unfold sg; split <;> omega)

set_option maxRecDepth 100000 in
theorem signed_any (s : ByteArray) (hs : s.size ≤ 9223372036854775807) (w : World) :
    Calls Try.prog 18 #[.string s] w fun e w' => e = .returned (.int .i64 (sg (rd (bs s)))) ∧ ∃ q, w' = w.drewN q := by
  have hl := rd_lt (bs_lt s)
  have hw := wrap32_sg hl
  have R1 := hide (read_any s hs)
  generalize rd (bs s) = R at *
  have hw2 : IntKind.i64.wrap (sg R) = sg R := wrap_sg hl
  go_enter Try.func18, Try.ntmps18
  go_wp2_with fail
  refine ((unhide R1) _).mono ?_
  rintro e w2 ⟨rfl, q, rfl⟩
  go_wp2
  go_ret
  exact ⟨rfl, _, rfl⟩

theorem ofInt64 (x : Int) : (BitVec.ofInt 64 x).toNat = (x % 18446744073709551616).toNat := by
  rw [BitVec.toNat_ofInt]
  rfl
theorem or64 {a b : Nat} (ha : a < 4294967296) (hb : b < 4294967296) : bits .or .i64 (IntKind.i64.wrap ((a : Int) * 4294967296)) (b : Int) = s64 a b := by
  show IntKind.i64.wrap ((BitVec.ofInt 64 (IntKind.i64.wrap ((a : Int) * 4294967296)) ||| BitVec.ofInt 64 (b : Int)).toNat : Int) = _
  rw [BitVec.toNat_or, ofInt64, ofInt64]
  have e1 : (IntKind.i64.wrap ((a : Int) * 4294967296) % 18446744073709551616).toNat = a * 4294967296 := by
    rw [IntKind.wrap_i64]
    omega
  have e2 : ((b : Int) % 18446744073709551616).toNat = b := by omega
  rw [e1, e2, or_mul b a 32 4294967296 (by decide) hb, IntKind.wrap_i64]
  unfold s64
  split <;> omega

set_option maxRecDepth 100000 in
theorem eight_any (s : ByteArray) (hs : s.size ≤ 9223372036854775807) (h8 : 4 ≤ s.size) (w : World) :
    Calls Try.prog 19 #[.string s] w fun e w' => e = .returned (.int .i64 (s64 (rd (bs s)) (rd ((bs s).drop 4)))) ∧ ∃ q, w' = w.drewN q := by
  have hl := rd_lt (bs_lt s)
  have hl' : rd ((bs s).drop 4) < 4294967296 := rd_lt (fun b hm => bs_lt s b (List.mem_of_mem_drop hm))
  have he := bs_extract s 4 s.size
  have hz : (s.extract 4 s.size).size ≤ 9223372036854775807 := by rw [ByteArray.size_extract]; omega
  rw [List.take_of_length_le (by rw [bs_length]; exact Nat.le_refl _)] at he
  have h4 : (4 : Int) ≤ (s.size : Int) := by omega
  generalize hx : s.extract 4 s.size = t at *
  rw [← he] at hl' ⊢
  clear he
  have ho := or64 hl hl'
  have wA : IntKind.i64.wrap (rd (bs s) : Int) = (rd (bs s) : Int) := IntWalk.i64_in _ (by omega)
  have wB : IntKind.i64.wrap (rd (bs t) : Int) = (rd (bs t) : Int) := IntWalk.i64_in _ (by omega)
  have R1 := hide (read_any s hs)
  have R2 := hide (read_any t hz)
  generalize rd (bs s) = A at *
  generalize rd (bs t) = B at *
  go_enter Try.func19, Try.ntmps19
  go_wp2_with fail
  go_region_held3 (fun _ => True) (simp [go_sem, *])
    (first
      | (go_at_call_of 14 (Value.string s); refine ((unhide R1) _).mono ?_; rintro e w2 ⟨rfl, q1, rfl⟩)
      | (go_at_call_of 14 (Value.string t); refine ((unhide R2) _).mono ?_; rintro e w2 ⟨rfl, q1, rfl⟩))
  all_goals
    go_wp2
    go_ret
    exact ⟨rfl, _, rfl⟩
end Go.Proofs.Ytgdiglkbeijomaa

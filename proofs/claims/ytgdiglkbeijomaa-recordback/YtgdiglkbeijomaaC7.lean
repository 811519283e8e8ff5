/- Print, the document's. -/
import Derived.Test.YtgdiglkbeijomaaC5
namespace Go.Proofs.Ytgdiglkbeijomaa
open Go.RowKit
set_option maxRecDepth 100000 in
set_option maxHeartbeats 4000000 in
theorem printR_no (i u x : Int) (h : okN i u x = false) (w : World) :
    Calls Try.prog 8 #[nd i u x] w fun e w' => e = .returned (.tuple #[.string ⟨#[]⟩, .bool false]) ∧ Below w.heap.size w w' := by
  have hn : ¬ (0 ≤ i ∧ i ≤ 2147483647 ∧ -1 ≤ u ∧ u ≤ 2147483647 ∧ u ≠ i ∧ -1099511627776 ≤ x ∧ x ≤ 1099511627776) := by
    rw [← okN_iff, h]
    decide
  have HN := hide hn
  clear hn h
  go_enter Try.func8, Try.ntmps8
  by_cases h1 : 0 ≤ i
  rotate_left
  · go_wp2
    exact bodyPost_ret (v := .tuple #[.string ⟨#[]⟩, .bool false]) (by simp [results, Try.results8, go_sem]) rfl ⟨rfl, (Below.refl _ _).alloc (Nat.le_refl _) _⟩
  by_cases h2 : i ≤ 2147483647
  rotate_left
  · go_wp2
    exact bodyPost_ret (v := .tuple #[.string ⟨#[]⟩, .bool false]) (by simp [results, Try.results8, go_sem]) rfl ⟨rfl, (Below.refl _ _).alloc (Nat.le_refl _) _⟩
  by_cases h3 : -1 ≤ u
  rotate_left
  · go_wp2
    exact bodyPost_ret (v := .tuple #[.string ⟨#[]⟩, .bool false]) (by simp [results, Try.results8, go_sem]) rfl ⟨rfl, (Below.refl _ _).alloc (Nat.le_refl _) _⟩
  by_cases h4 : u ≤ 2147483647
  rotate_left
  · go_wp2
    exact bodyPost_ret (v := .tuple #[.string ⟨#[]⟩, .bool false]) (by simp [results, Try.results8, go_sem]) rfl ⟨rfl, (Below.refl _ _).alloc (Nat.le_refl _) _⟩
  by_cases h5 : ¬ u = i
  rotate_left
  · go_wp2
    exact bodyPost_ret (v := .tuple #[.string ⟨#[]⟩, .bool false]) (by simp [results, Try.results8, go_sem]) rfl ⟨rfl, (Below.refl _ _).alloc (Nat.le_refl _) _⟩
  by_cases h6 : x ≤ 1099511627776
  rotate_left
  · go_wp2
    exact bodyPost_ret (v := .tuple #[.string ⟨#[]⟩, .bool false]) (by simp [results, Try.results8, go_sem]) rfl ⟨rfl, (Below.refl _ _).alloc (Nat.le_refl _) _⟩
  by_cases h7 : -1099511627776 ≤ x
  rotate_left
  · go_wp2
    exact bodyPost_ret (v := .tuple #[.string ⟨#[]⟩, .bool false]) (by simp [results, Try.results8, go_sem]) rfl ⟨rfl, (Below.refl _ _).alloc (Nat.le_refl _) _⟩
  exact absurd ⟨h1, h2, h3, h4, h5, h7, h6⟩ (unhide HN)

theorem lo_nat {n : Nat} (h : n ≤ 2147483647) : lo (n : Int) = n := by unfold lo; omega
theorem lo_neg : lo (-1) = 4294967295 := by decide
theorem hi_u64 (x : Int) : IntKind.u32.wrap (IntKind.u64.wrap x / 4294967296) = ((lo (x / 4294967296) : Nat) : Int) := by
  rw [IntKind.wrap_u32', IntKind.wrap_u64]
  unfold lo
  omega
theorem lo_u64 (x : Int) : IntKind.u32.wrap (IntKind.u64.wrap x) = ((lo x : Nat) : Int) := by
  rw [IntKind.wrap_u32', IntKind.wrap_u64]
  unfold lo
  omega

set_option maxRecDepth 100000 in
set_option maxHeartbeats 4000000 in
theorem printR_yes (i u : Nat) (x : Int) (h1 : i ≤ 2147483647) (h2 : u ≤ 2147483647) (h3 : ¬ u = i) (h4 : -1099511627776 ≤ x) (h5 : x ≤ 1099511627776) (w : World) :
    Calls Try.prog 8 #[nd i u x] w fun e w' => e = .returned (.tuple #[.string (st (recL i u x)), .bool true]) ∧ Below w.heap.size w w' := by
  have hr : recL i u x = ((four i ++ four u) ++ four (lo (x / 4294967296))) ++ four (lo x) := by
    unfold recL
    rw [lo_nat h1, lo_nat h2]
  rw [hr]
  have l3 := hi_u64 x
  have l4 := lo_u64 x
  have b3 := lo_lt (x / 4294967296)
  have b4 := lo_lt x
  generalize lo (x / 4294967296) = n3 at *
  generalize lo x = n4 at *
  clear hr
  have F1 := hide (fourR_any i (by omega))
  have F2 := hide (fourR_any u (by omega))
  have F3 := hide (fourR_any n3 b3)
  have F4 := hide (fourR_any n4 b4)
  have z1 := st_size
  have z2 := st_append
  have z3 := four_length
  have h1' : (i : Int) ≤ 2147483647 := by omega
  have h2' : (u : Int) ≤ 2147483647 := by omega
  have h3' : ¬ (u : Int) = (i : Int) := by omega
  have h3b : ((u : Int) == (i : Int)) = false := by simpa using h3'
  go_enter Try.func8, Try.ntmps8
  go_wp2_with fail
  refine ((unhide F1) _).mono ?_
  rintro e w2 ⟨rfl, hb⟩
  have B2 : Hid (Below w.heap.size w w2) := hide (((Below.refl _ _).alloc (Nat.le_refl _) _).trans (hb.mono (by simp)))
  clear hb
  go_wp2_with fail
  refine ((unhide F2) _).mono ?_
  rintro e w3 ⟨rfl, hb⟩
  have B3 : Hid (Below w.heap.size w w3) := hide ((unhide B2).trans (hb.mono (unhide B2).size))
  clear hb
  go_wp2_with fail
  refine ((unhide F3) _).mono ?_
  rintro e w4 ⟨rfl, hb⟩
  have B4 : Hid (Below w.heap.size w w4) := hide ((unhide B3).trans (hb.mono (unhide B3).size))
  clear hb
  go_wp2_with fail
  refine ((unhide F4) _).mono ?_
  rintro e w5 ⟨rfl, hb⟩
  have B5 : Hid (Below w.heap.size w w5) := hide ((unhide B4).trans (hb.mono (unhide B4).size))
  clear hb
  go_wp2
  exact bodyPost_ret (v := .tuple #[.string (st (((four i ++ four u) ++ four n3) ++ four n4)), .bool true]) (by simp [results, Try.results8, go_sem]) rfl ⟨rfl, unhide B5⟩

set_option maxRecDepth 100000 in
set_option maxHeartbeats 4000000 in
theorem printR_root (i : Nat) (x : Int) (h1 : i ≤ 2147483647) (h4 : -1099511627776 ≤ x) (h5 : x ≤ 1099511627776) (w : World) :
    Calls Try.prog 8 #[nd i (-1) x] w fun e w' => e = .returned (.tuple #[.string (st (recL i (-1) x)), .bool true]) ∧ Below w.heap.size w w' := by
  have hr : recL i (-1) x = ((four i ++ four 4294967295) ++ four (lo (x / 4294967296))) ++ four (lo x) := by
    unfold recL
    rw [lo_nat h1, lo_neg]
  rw [hr]
  have l3 := hi_u64 x
  have l4 := lo_u64 x
  have b3 := lo_lt (x / 4294967296)
  have b4 := lo_lt x
  generalize lo (x / 4294967296) = n3 at *
  generalize lo x = n4 at *
  clear hr
  have F1 := hide (fourR_any i (by omega))
  have F2 : Hid (∀ w, Calls Try.prog 11 #[.int .u32 4294967295] w fun e w' => e = .returned (.string (st (four 4294967295))) ∧ Below w.heap.size w w') := hide (fourR_any 4294967295 (by decide))
  have F3 := hide (fourR_any n3 b3)
  have F4 := hide (fourR_any n4 b4)
  have z1 := st_size
  have z2 := st_append
  have z3 := four_length
  have h1' : (i : Int) ≤ 2147483647 := by omega
  have h3' : ¬ (-1 : Int) = (i : Int) := by omega
  have h3b : ((-1 : Int) == (i : Int)) = false := by simp
  go_enter Try.func8, Try.ntmps8
  go_wp2_with fail
  refine ((unhide F1) _).mono ?_
  rintro e w2 ⟨rfl, hb⟩
  have B2 : Hid (Below w.heap.size w w2) := hide (((Below.refl _ _).alloc (Nat.le_refl _) _).trans (hb.mono (by simp)))
  clear hb
  go_wp2_with fail
  refine ((unhide F2) _).mono ?_
  rintro e w3 ⟨rfl, hb⟩
  have B3 : Hid (Below w.heap.size w w3) := hide ((unhide B2).trans (hb.mono (unhide B2).size))
  clear hb
  go_wp2_with fail
  refine ((unhide F3) _).mono ?_
  rintro e w4 ⟨rfl, hb⟩
  have B4 : Hid (Below w.heap.size w w4) := hide ((unhide B3).trans (hb.mono (unhide B3).size))
  clear hb
  go_wp2_with fail
  refine ((unhide F4) _).mono ?_
  rintro e w5 ⟨rfl, hb⟩
  have B5 : Hid (Below w.heap.size w w5) := hide ((unhide B4).trans (hb.mono (unhide B4).size))
  clear hb
  go_wp2
  exact bodyPost_ret (v := .tuple #[.string (st (((four i ++ four 4294967295) ++ four n3) ++ four n4)), .bool true]) (by simp [results, Try.results8, go_sem]) rfl ⟨rfl, unhide B5⟩

theorem printR_any (i u x : Int) (w : World) :
    Calls Try.prog 8 #[nd i u x] w fun e w' => e = .returned (.tuple #[.string (prS i u x), .bool (okN i u x)]) ∧ Below w.heap.size w w' := by
  unfold prS
  cases h : okN i u x
  · exact printR_no i u x h w
  · obtain ⟨h1, h2, h3, h4, h5, h6, h7⟩ := okN_iff.1 h
    obtain ⟨n, rfl⟩ := Int.eq_ofNat_of_zero_le h1
    by_cases h8 : 0 ≤ u
    · obtain ⟨m, rfl⟩ := Int.eq_ofNat_of_zero_le h8
      exact printR_yes n m x (by omega) (by omega) (by omega) h6 h7 w
    · have : u = -1 := by omega
      subst this
      exact printR_root n x (by omega) h6 h7 w
end Go.Proofs.Ytgdiglkbeijomaa

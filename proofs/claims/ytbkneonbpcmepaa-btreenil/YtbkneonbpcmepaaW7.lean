/- ..Nil: of a nil pool. -/
import Derived.Test.YtbkneonbpcmepaaH
namespace Go.Proofs.Ytbkneonbpcmepaa
open Go.RowKit Go.Arb
set_option linter.unusedVariables false
set_option linter.unusedSimpArgs false

set_option maxRecDepth 100000 in
set_option maxHeartbeats 4000000 in
theorem nil_walk (v x : Int) (w : World) : Calls Try.prog 7 #[.int .i64 v, .int .i64 x] w fun e w' => e = .returned (.bool true) ∧ Below w.heap.size w w' := by
  go_enter Try.func7, Try.ntmps7
  go_wp2_with fail
  refine (nRange _ _ _).mono ?_
  unfold smV
  dsimp only [zero]
  rintro e W0 ⟨rfl, hb⟩
  have H0 := hide (hb.alloc hb.size (.cells #[.int .i64 0, .int .i64 0, .int .i64 0, .int .i64 0] 33))
  have S0 := hide (SumAt.new W0 33 0 0 0 0)
  have l0 : W0.heap.size < (W0.alloc (.cells #[.int .i64 0, .int .i64 0, .int .i64 0, .int .i64 0] 33)).heap.size := by simp
  have LT0 := hide l0
  clear hb l0
  go_wp2_with fail
  generalize W0.alloc (.cells #[.int .i64 0, .int .i64 0, .int .i64 0, .int .i64 0] 33) = V0 at *
  generalize W0.heap.size = b at *
  refine (nGet _ _).mono ?_
  rintro e W1 ⟨rfl, hb⟩
  have H1 := hide ((unhide H0).trans (hb.mono (unhide H0).size))
  have S1 := hide ((unhide S0).below hb (unhide LT0))
  have LT1 := hide (Nat.lt_of_lt_of_le (unhide LT0) hb.size)
  clear hb H0 S0 LT0
  go_wp2_with fail
  refine (awake_any _).mono ?_
  rintro e W2 ⟨rfl, hb⟩
  have H2 := hide ((unhide H1).trans (hb.mono (unhide H1).size))
  have S2 := hide ((unhide S1).below hb (unhide LT1))
  have LT2 := hide (Nat.lt_of_lt_of_le (unhide LT1) hb.size)
  clear hb H1 S1 LT1
  go_wp2_with fail
  refine (nHas _ _).mono ?_
  rintro e W3 ⟨rfl, hb⟩
  have H3 := hide ((unhide H2).trans (hb.mono (unhide H2).size))
  have S3 := hide ((unhide S2).below hb (unhide LT2))
  have LT3 := hide (Nat.lt_of_lt_of_le (unhide LT2) hb.size)
  clear hb H2 S2 LT2
  go_wp2_with fail
  refine (nAdd _ _ _).mono ?_
  rintro e W4 ⟨rfl, hb⟩
  have H4 := hide ((unhide H3).trans (hb.mono (unhide H3).size))
  have S4 := hide ((unhide S3).below hb (unhide LT3))
  have LT4 := hide (Nat.lt_of_lt_of_le (unhide LT3) hb.size)
  clear hb H3 S3 LT3
  go_wp2_with fail
  refine (nDrop _ _).mono ?_
  rintro e W5 ⟨rfl, hb⟩
  have H5 := hide ((unhide H4).trans (hb.mono (unhide H4).size))
  have S5 := hide ((unhide S4).below hb (unhide LT4))
  have LT5 := hide (Nat.lt_of_lt_of_le (unhide LT4) hb.size)
  clear hb H4 S4 LT4
  go_wp2_with fail
  refine (nLen _ _).mono ?_
  rintro e W6 ⟨rfl, hb⟩
  have H6 := hide ((unhide H5).trans (hb.mono (unhide H5).size))
  have S6 := hide ((unhide S5).below hb (unhide LT5))
  have LT6 := hide (Nat.lt_of_lt_of_le (unhide LT5) hb.size)
  clear hb H5 S5 LT5
  go_wp2_with fail
  refine (nRank _ _).mono ?_
  rintro e W7 ⟨rfl, hb⟩
  have H7 := hide ((unhide H6).trans (hb.mono (unhide H6).size))
  have S7 := hide ((unhide S6).below hb (unhide LT6))
  have LT7 := hide (Nat.lt_of_lt_of_le (unhide LT6) hb.size)
  clear hb H6 S6 LT6
  go_wp2_with fail
  refine (nAt _ _ _).mono ?_
  rintro e W8 ⟨rfl, hb⟩
  have H8 := hide ((unhide H7).trans (hb.mono (unhide H7).size))
  have S8 := hide ((unhide S7).below hb (unhide LT7))
  have LT8 := hide (Nat.lt_of_lt_of_le (unhide LT7) hb.size)
  clear hb H7 S7 LT7
  go_wp2_with fail
  refine (nSame _ _ _).mono ?_
  rintro e W9 ⟨rfl, hb⟩
  have H9 := hide ((unhide H8).trans (hb.mono (unhide H8).size))
  have S9 := hide ((unhide S8).below hb (unhide LT8))
  have LT9 := hide (Nat.lt_of_lt_of_le (unhide LT8) hb.size)
  clear hb H8 S8 LT8
  go_wp2_with fail
  refine (nBefore _ _).mono ?_
  rintro e W10 ⟨rfl, hb⟩
  have H10 := hide ((unhide H9).trans (hb.mono (unhide H9).size))
  have S10 := hide ((unhide S9).below hb (unhide LT9))
  have LT10 := hide (Nat.lt_of_lt_of_le (unhide LT9) hb.size)
  clear hb H9 S9 LT9
  go_wp2_with fail
  refine (nJoin _ _ _).mono ?_
  rintro e W11 ⟨rfl, hb⟩
  have H11 := hide ((unhide H10).trans (hb.mono (unhide H10).size))
  have S11 := hide ((unhide S10).below hb (unhide LT10))
  have LT11 := hide (Nat.lt_of_lt_of_le (unhide LT10) hb.size)
  clear hb H10 S10 LT10
  go_wp2_with fail
  refine (nSet _ _ _).mono ?_
  rintro e W12 ⟨rfl, hb⟩
  have H12 := hide ((unhide H11).trans (hb.mono (unhide H11).size))
  have S12 := hide ((unhide S11).below hb (unhide LT11))
  have LT12 := hide (Nat.lt_of_lt_of_le (unhide LT11) hb.size)
  clear hb H11 S11 LT11
  go_wp2_with fail
  refine (nLift _ _ _ _).mono ?_
  rintro e W13 ⟨rfl, hb⟩
  have H13 := hide ((unhide H12).trans (hb.mono (unhide H12).size))
  have S13 := hide ((unhide S12).below hb (unhide LT12))
  have LT13 := hide (Nat.lt_of_lt_of_le (unhide LT12) hb.size)
  clear hb H12 S12 LT12
  obtain ⟨⟨q0, q1, q2, q3⟩, _⟩ := unhide S13
  dsimp only at q0 q1 q2 q3
  go_wp2_with fail
  refine (nCheck _).mono ?_
  rintro e W14 ⟨rfl, hb⟩
  have H14 := hide ((unhide H13).trans (hb.mono (unhide H13).size))
  have S14 := hide ((unhide S13).below hb (unhide LT13))
  have LT14 := hide (Nat.lt_of_lt_of_le (unhide LT13) hb.size)
  clear hb H13 S13 LT13
  clear q0 q1 q2 q3
  go_wp2_with fail
  refine (nNew _ _ (by omega)).mono ?_
  rintro e W15 ⟨rfl, hb⟩
  have H15 := hide ((unhide H14).trans (hb.mono (unhide H14).size))
  have S15 := hide ((unhide S14).below hb (unhide LT14))
  have LT15 := hide (Nat.lt_of_lt_of_le (unhide LT14) hb.size)
  clear hb H14 S14 LT14
  go_wp2_with fail
  refine (nNew _ _ (by omega)).mono ?_
  rintro e W16 ⟨rfl, hb⟩
  have H16 := hide ((unhide H15).trans (hb.mono (unhide H15).size))
  have S16 := hide ((unhide S15).below hb (unhide LT15))
  have LT16 := hide (Nat.lt_of_lt_of_le (unhide LT15) hb.size)
  clear hb H15 S15 LT15
  go_wp2
  go_ret
  exact ⟨rfl, unhide H16⟩
end Go.Proofs.Ytbkneonbpcmepaa

/- ..Order: items keep their order. -/
import Derived.Test.YtbkneonbpcmepaaL
namespace Go.Proofs.Ytbkneonbpcmepaa
open Go.RowKit Go.Arb
set_option linter.unusedVariables false
set_option linter.unusedSimpArgs false

set_option maxRecDepth 100000 in
set_option maxHeartbeats 4000000 in
theorem order_walk (a b : Nat) (ha : a ≤ 65535) (hb : b ≤ 65535) (w : World) : Calls Try.prog 4 #[.int .u16 (a : Int), .int .u16 (b : Int)] w fun e w' => e = .returned (.bool true) ∧ Below w.heap.size w w' := by
  obtain ⟨k, hk⟩ : ∃ k : Nat, k = 2 + a % 300 := ⟨_, rfl⟩
  obtain ⟨c, hc⟩ : ∃ c : Nat, c = 1 + b % (k - 1) := ⟨_, rfl⟩
  have hcb : b % (k - 1) < k - 1 := Nat.mod_lt _ (by omega)
  have hc0 : 0 < c := by omega
  have hck : c < k := by omega
  have hk2 : k ≤ 301 := by omega
  have e1 : (2 + (a : Int) % 300) = (k : Int) := by omega
  have e2 : (1 + (b : Int) % ((k : Int) - 1)) = (c : Int) := by rw [hc, show ((k : Int) - 1) = ((k - 1 : Nat) : Int) by omega]; rfl
  have E1 := hide e1
  have E2 := hide e2
  have hnz : ((2 + (a : Int) % 300 - 1) == 0) = false := by rw [beq_eq_false_iff_ne]; omega
  clear e1 e2 hk hc hcb
  go_enter Try.func4, Try.ntmps4
  go_wp2_with fail
  rw [unhide E1, unhide E2, IntWalk.wrap64_in (c : Int) (by omega)]
  clear E1 E2 hnz
  refine (laid_any (w := w) (js := []) k none 0 0 [] w (Below.refl _ _) (by simp) (by omega) (IRow.none _ _) (by decide)).mono ?_
  rintro e W0 ⟨p, rfl, h, _⟩
  rw [ln, ln_pos (by omega)] at h
  generalize gW k (wF []) = g at *
  have H0 := hide h
  clear h
  have f1 : (st k [rg 0 k] g).lenI 0 = (k : Int) := one_len (i := 0) (by omega)
  obtain ⟨f2, t2⟩ := one_cut (g := g) hc0 hck
  have f3 : (st k [rg 0 c, rg c (k - c)] g).lenI 0 = (c : Int) := two_len (i := 0) (by omega) hc0
  have f4 : (st k [rg 0 c, rg c (k - c)] g).lenI (c : Int) = (k : Int) - (c : Int) := (two_len' (by omega) (Nat.le_refl c) hck).trans (by omega)
  have f5 := two_apart (g := g) hc0 (show c ≤ k by omega)
  go_wp2_with fail
  refine ((unhide H0).call fun _ ha => aLen _ ha).mono ?_
  rw [f1]
  rintro e W1 ⟨rfl, h, k⟩
  have H1 := hide h
  clear h k H0
  go_wp2_with fail
  refine ((unhide H1).call fun _ ha => aBefore _ ha).mono ?_
  rw [f2, t2]
  rintro e W2 ⟨rfl, h, k⟩
  have H2 := hide h
  clear h k H1
  go_wp2_with fail
  refine ((unhide H2).call fun _ ha => aLen _ ha).mono ?_
  rw [f3]
  rintro e W3 ⟨rfl, h, k⟩
  have H3 := hide h
  clear h k H2
  go_wp2_with fail
  refine ((unhide H3).call fun _ ha => aLen _ ha).mono ?_
  rw [f4]
  rintro e W4 ⟨rfl, h, k⟩
  have H4 := hide h
  clear h k H3
  go_wp2_with fail
  refine ((unhide H4).call fun _ ha => aSame _ _ ha).mono ?_
  rw [f5]
  rintro e W5 ⟨rfl, h, k⟩
  have H5 := hide h
  clear h k H4
  clear f1 f2 t2 f3 f4 f5
  go_wp2
  go_loopw [8] (fun i w' => ∃ m : Nat, m ≤ k ∧ i = .int .i64 (m : Int) ∧ Hid (Ob w w' p (st k [rg 0 c, rg c (k - c)] g) [])) (fun i _ => k - (intOf i).toNat)
  case atStart => exact ⟨0, by omega, rfl, H5⟩
  case round =>
    clear H5
    obtain ⟨m, hm, rfl, H0⟩ := hrel
    by_cases hlt : m < k
    · have q1 : (m : Int) < (k : Int) := by omega
      by_cases hmc : m < c
      · have q2 : ¬ (c : Int) ≤ (m : Int) := by omega
        have f1 := two_rank (g := g) (show c ≤ k by omega) hmc
        have f2 := two_at (g := g) (show c ≤ k by omega) hmc
        go_wp2_with fail
        refine ((unhide H0).call fun _ ha => aRank _ ha).mono ?_
        rw [f1]
        rintro e W1 ⟨rfl, h, k⟩
        have H1 := hide h
        clear h k H0
        go_wp2_with fail
        refine ((unhide H1).call fun _ ha => aAt _ _ ha).mono ?_
        rw [f2]
        rintro e W2 ⟨rfl, h, k⟩
        have H2 := hide h
        clear h k H1
        go_wp2
        go_roundw
        case rel => exact ⟨m + 1, by omega, by go_num, H2⟩
        case measure => simp [intOf]; omega
      · have q2 : (c : Int) ≤ (m : Int) := by omega
        have f1 : (st k [rg 0 c, rg c (k - c)] g).rankI (m : Int) = (m : Int) - (c : Int) := (two_rank' (show c ≤ k by omega) (by omega) hlt).trans (by omega)
        have f2 : (st k [rg 0 c, rg c (k - c)] g).atI (m : Int) ((m : Int) - (c : Int)) = (m : Int) := by rw [show (m : Int) - (c : Int) = ((m - c : Nat) : Int) by omega]; exact two_at' (show c ≤ k by omega) (by omega) hlt
        go_wp2_with fail
        refine ((unhide H0).call fun _ ha => aRank _ ha).mono ?_
        rw [f1]
        rintro e W1 ⟨rfl, h, k⟩
        have H1 := hide h
        clear h k H0
        go_wp2_with fail
        refine ((unhide H1).call fun _ ha => aAt _ _ ha).mono ?_
        rw [f2]
        rintro e W2 ⟨rfl, h, k⟩
        have H2 := hide h
        clear h k H1
        go_wp2
        go_roundw
        case rel => exact ⟨m + 1, by omega, by go_num, H2⟩
        case measure => simp [intOf]; omega
    · obtain rfl : m = k := by omega
      have q1 : ¬ (m : Int) < (m : Int) := by omega
      obtain ⟨f1, t1⟩ := two_turn (g := g) hc0 hck
      go_wp2_with fail
      refine ((unhide H0).call fun _ ha => aJoin _ _ ha).mono ?_
      rw [f1, t1]
      rintro e W1 ⟨rfl, h, k⟩
      have H1 := hide h
      clear h k H0
      clear f1 t1 q1
      go_wp2
      go_loopw [10] (fun i w' => ∃ j : Nat, j ≤ m ∧ i = .int .i64 (j : Int) ∧ Hid (Ob w w' p (st m [rg c (m - c) ++ rg 0 c] g) [])) (fun i _ => m - (intOf i).toNat)
      case atStart => exact ⟨0, by omega, rfl, H1⟩
      case round =>
        clear H1
        obtain ⟨j, hj, rfl, H0⟩ := hrel
        by_cases hlt : j < m
        · have q1 : (j : Int) < (m : Int) := by omega
          have q3 : ((m : Int) == 0) = false := by rw [beq_eq_false_iff_ne]; omega
          have q4 : (0 : Int) ≤ (j : Int) + (m : Int) - (c : Int) := by omega
          have f1 : (st m [rg c (m - c) ++ rg 0 c] g).rankI (j : Int) = ((j : Int) + (m : Int) - (c : Int)) % (m : Int) := (turn_rank hc0 hck hlt).trans (by rw [show (j : Int) + (m : Int) - (c : Int) = ((j + m - c : Nat) : Int) by omega]; rfl)
          go_wp2
          go_region_with (go_at_call 33; refine ((unhide H0).drew.call fun _ ha => aRank _ ha).mono ?_; rw [f1]; rintro e W1 ⟨rfl, h, kk⟩; have H1 := hide h; clear h kk)
          all_goals go_wp2
          all_goals go_roundw
          all_goals first | exact ⟨j + 1, by omega, by go_num, H1⟩ | (simp [intOf]; omega)
        · obtain rfl : j = m := by omega
          have q1 : ¬ (j : Int) < (j : Int) := by omega
          obtain ⟨f1, t1⟩ := turn_cut (g := g) hc0 hck
          obtain ⟨f2, t2⟩ := back_join (g := g) hc0 hck
          have f3 : (st j [rg 0 j] g).rankI ((j : Int) - 1) = (j : Int) - 1 := by rw [show (j : Int) - 1 = ((j - 1 : Nat) : Int) by omega]; exact one_rank (by omega)
          have f4 : (st j [rg 0 j] g).atI 0 0 = 0 := one_at (i := 0) (j := 0) (by omega) (by omega)
          go_wp2_with fail
          refine (awake_any _).mono ?_
          rintro e W1 ⟨rfl, hb⟩
          obtain ⟨h, k⟩ := (unhide H0).below hb
          have H1 := hide h
          clear h k hb H0
          go_wp2_with fail
          refine ((unhide H1).call fun _ ha => aBefore _ ha).mono ?_
          rw [f1, t1]
          rintro e W2 ⟨rfl, h, k⟩
          have H2 := hide h
          clear h k H1
          go_wp2_with fail
          refine ((unhide H2).call fun _ ha => aJoin _ _ ha).mono ?_
          rw [f2, t2]
          rintro e W3 ⟨rfl, h, k⟩
          have H3 := hide h
          clear h k H2
          go_wp2_with fail
          refine ((unhide H3).call fun _ ha => aRank _ ha).mono ?_
          rw [f3]
          rintro e W4 ⟨rfl, h, k⟩
          have H4 := hide h
          clear h k H3
          go_wp2_with fail
          refine ((unhide H4).call fun _ ha => aAt _ _ ha).mono ?_
          rw [f4]
          rintro e W5 ⟨rfl, h, k⟩
          have H5 := hide h
          clear h k H4
          go_wp2_with fail
          refine ((unhide H5).call fun _ ha => aCheck ha).mono ?_
          rintro e W6 ⟨rfl, h, k⟩
          have H6 := hide h
          clear h k H5
          go_wp2
          go_ret
          exact ⟨rfl, (unhide H6).bel⟩
theorem order_int (a b : Int) (ha0 : 0 ≤ a) (ha : a ≤ 65535) (hb0 : 0 ≤ b) (hb : b ≤ 65535) (w : World) : Calls Try.prog 4 #[.int .u16 a, .int .u16 b] w fun e w' => e = .returned (.bool true) ∧ Below w.heap.size w w' := by
  obtain ⟨a, rfl⟩ := Int.eq_ofNat_of_zero_le ha0
  obtain ⟨b, rfl⟩ := Int.eq_ofNat_of_zero_le hb0
  exact order_walk a b (by omega) (by omega) w
end Go.Proofs.Ytbkneonbpcmepaa

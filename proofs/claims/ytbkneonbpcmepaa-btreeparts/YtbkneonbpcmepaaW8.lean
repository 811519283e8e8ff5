/- ..Parts: cut into its items, and joined the other way round. -/
import Derived.Test.YtbkneonbpcmepaaL
import Derived.Test.YtbkneonbpcmepaaA2
namespace Go.Proofs.Ytbkneonbpcmepaa
open Go.RowKit Go.Arb
set_option linter.unusedVariables false
set_option linter.unusedSimpArgs false

set_option maxRecDepth 100000 in
set_option maxHeartbeats 4000000 in
theorem parts_walk (a : Nat) (ha : a ≤ 255) (w : World) : Calls Try.prog 8 #[.int .u8 (a : Int)] w fun e w' => e = .returned (.bool true) ∧ Below w.heap.size w w' := by
  obtain ⟨k, hk⟩ : ∃ k : Nat, k = 1 + a % 150 := ⟨_, rfl⟩
  have hk0 : 0 < k := by omega
  have hk2 : k ≤ 150 := by omega
  have e1 : (1 + (a : Int) % 150) = (k : Int) := by omega
  have E1 := hide e1
  clear e1 hk
  go_enter Try.func8, Try.ntmps8
  go_wp2_with fail
  rw [unhide E1]
  clear E1
  refine (laid_any (w := w) (js := []) k none 0 0 [] w (Below.refl _ _) (by simp) (by omega) (IRow.none _ _) (by decide)).mono ?_
  rintro e W0 ⟨p, rfl, h, _⟩
  rw [ln, ln_pos (by omega)] at h
  generalize gW k (wF []) = g at *
  have H0 := hide h
  clear h
  go_wp2
  go_loopw [5] (fun i w' => ∃ m : Nat, 0 < m ∧ m ≤ k ∧ i = .int .i64 (m : Int) ∧ Hid (∃ L, L.Perm (rg (m - 1) (k - (m - 1)) :: sg 0 (m - 1)) ∧ Ob w w' p (st k L g) [])) (fun i _ => k - (intOf i).toNat)
  case atStart => exact ⟨1, by omega, by omega, rfl, [rg 0 k], List.Perm.refl _, unhide H0⟩
  case round =>
    clear H0
    obtain ⟨m, hm0, hm, rfl, HH⟩ := hrel
    obtain ⟨L, hL, h⟩ := HH.out
    have HL := hide hL
    have H0 := hide h
    clear hL h HH
    by_cases hlt : m < k
    · have q1 : (m : Int) < (k : Int) := by omega
      obtain ⟨f1, L2, t1, p1⟩ := parts_cut (g := g) (unhide H0).nd hm0 hlt (unhide HL)
      have P1 := hide p1
      clear p1 HL
      go_wp2_with fail
      refine ((unhide H0).call fun _ ha => aBefore _ ha).mono ?_
      rw [f1, t1]
      rintro e W1 ⟨rfl, h, k⟩
      have H1 := hide h
      clear h k H0
      clear f1 t1
      obtain ⟨f2, f3⟩ := parts_len (g := g) (unhide H1).nd hm0 hlt (unhide P1)
      go_wp2_with fail
      refine ((unhide H1).call fun _ ha => aLen _ ha).mono ?_
      rw [f2]
      rintro e W2 ⟨rfl, h, k⟩
      have H2 := hide h
      clear h k H1
      go_wp2_with fail
      refine ((unhide H2).call fun _ ha => aLen _ ha).mono ?_
      rw [f3]
      rintro e W3 ⟨rfl, h, k⟩
      have H3 := hide h
      clear h k H2
      clear f2 f3
      go_wp2
      go_roundw
      case rel => exact ⟨m + 1, by omega, by omega, by go_num, L2, by rw [show m + 1 - 1 = m by omega]; exact unhide P1, unhide H3⟩
      case measure => simp [intOf]; omega
    · obtain rfl : m = k := by omega
      have q1 : ¬ (m : Int) < (m : Int) := by omega
      have HQ := hide (parts_all hk0 (unhide HL))
      clear HL
      go_wp2
      go_loopw [6] (fun i w' => ∃ j : Nat, 0 < j ∧ j ≤ m ∧ i = .int .i64 (j : Int) ∧ Hid (∃ L, L.Perm ((rg 0 j).reverse :: sg j (m - j)) ∧ Ob w w' p (st m L g) [])) (fun i _ => m - (intOf i).toNat)
      case atStart => exact ⟨1, by omega, by omega, rfl, L, unhide HQ, unhide H0⟩
      case round =>
        clear H0 HQ
        obtain ⟨j, hj0, hj, rfl, HH⟩ := hrel
        obtain ⟨L, hL, h⟩ := HH.out
        have HL := hide hL
        have H0 := hide h
        clear hL h HH
        by_cases hlt : j < m
        · have q1 : (j : Int) < (m : Int) := by omega
          obtain ⟨f1, L2, t1, p1⟩ := parts_join (g := g) (unhide H0).nd hj0 hlt (unhide HL)
          have P1 := hide p1
          clear p1 HL
          go_wp2_with fail
          refine ((unhide H0).call fun _ ha => aJoin _ _ ha).mono ?_
          rw [f1, t1]
          rintro e W1 ⟨rfl, h, k⟩
          have H1 := hide h
          clear h k H0
          clear f1 t1
          go_wp2
          go_roundw
          case rel => exact ⟨j + 1, by omega, by omega, by go_num, L2, unhide P1, unhide H1⟩
          case measure => simp [intOf]; omega
        · obtain rfl : j = m := by omega
          have q1 : ¬ (j : Int) < (j : Int) := by omega
          go_wp2
          go_loopw [7] (fun i w' => ∃ c : Nat, c ≤ j ∧ i = .int .i64 (c : Int) ∧ Hid (Ob w w' p (st j L g) [])) (fun i _ => j - (intOf i).toNat)
          case atStart => exact ⟨0, by omega, rfl, H0⟩
          case round =>
            clear H0
            obtain ⟨c, hc, rfl, H0⟩ := hrel
            by_cases hlt : c < j
            · have q1 : (c : Int) < (j : Int) := by omega
              obtain ⟨f1, f2, _⟩ := rev_facts (g := g) (unhide H0).nd hlt (unhide HL)
              go_wp2_with fail
              refine ((unhide H0).call fun _ ha => aRank _ ha).mono ?_
              rw [f1]
              rintro e W1 ⟨rfl, h, k⟩
              have H1 := hide h
              clear h k H0
              go_wp2_with fail
              refine ((unhide H1).call fun _ ha => aAt _ _ ha).mono ?_
              rw [f2]
              rintro e W2 ⟨rfl, h, k⟩
              have H2 := hide h
              clear h k H1
              clear f1 f2
              go_wp2
              go_roundw
              case rel => exact ⟨c + 1, by omega, by go_num, H2⟩
              case measure => simp [intOf]; omega
            · obtain rfl : c = j := by omega
              have q1 : ¬ (c : Int) < (c : Int) := by omega
              obtain ⟨_, _, f1⟩ := rev_facts (g := g) (j := 0) (unhide H0).nd (by omega) (unhide HL)
              go_wp2_with fail
              refine (awake_any _).mono ?_
              rintro e W1 ⟨rfl, hb⟩
              obtain ⟨h, k⟩ := (unhide H0).below hb
              have H1 := hide h
              clear h k hb H0
              go_wp2_with fail
              refine ((unhide H1).call fun _ ha => aLen _ ha).mono ?_
              rw [f1]
              rintro e W2 ⟨rfl, h, k⟩
              have H2 := hide h
              clear h k H1
              go_wp2_with fail
              refine ((unhide H2).call fun _ ha => aCheck ha).mono ?_
              rintro e W3 ⟨rfl, h, k⟩
              have H3 := hide h
              clear h k H2
              go_wp2
              go_ret
              exact ⟨rfl, (unhide H3).bel⟩
theorem parts_int (a : Int) (ha0 : 0 ≤ a) (ha : a ≤ 255) (w : World) : Calls Try.prog 8 #[.int .u8 a] w fun e w' => e = .returned (.bool true) ∧ Below w.heap.size w w' := by
  obtain ⟨a, rfl⟩ := Int.eq_ofNat_of_zero_le ha0
  exact parts_walk a (by omega) w
end Go.Proofs.Ytbkneonbpcmepaa

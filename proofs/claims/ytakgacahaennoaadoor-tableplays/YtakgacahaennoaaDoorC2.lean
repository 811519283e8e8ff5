import Derived.Test.YtakgacahaennoaaDoorC
namespace Go.Proofs.YtakgacahaennoaaDoor
open Go.RowKit Go.Arb

set_option maxHeartbeats 400000 in
theorem home_any (w : World) (p : Nat) (x : Option Addr) (N cap s id : Nat) (hc : w.cell? ⟨p, 0, none⟩ = some (.slice x N cap)) (hs : s ≤ 22) (hN : N = 2 ^ s) (hT : Tab w) (hid : id ≤ 2147483647) :
    Calls Tryd.prog 27 #[.pointer (some ⟨p, 0, none⟩), .int .i64 (id : Int)] w fun e w' => e = .returned (.int .i64 (homeN N id : Int)) ∧ w = w' := by
  have hle : 2 ^ s ≤ 2 ^ 22 := Nat.pow_le_pow_right (by omega) hs
  have hh := shr_home id s hs
  have hlt := homeN_lt (id := id) hs
  rw [← hN] at hh hlt
  have htz := tz_any N s hs hN w hT
  generalize homeN N id = r at *
  have hk : wrap64 (IntKind.u64.wrap ((id : Int) * 11400714819323198485) / 2 ^ (64 - s)) = (r : Int) := by
    have e1 : IntKind.u64.wrap ((id : Int) * 11400714819323198485) = ((id * 11400714819323198485 % 18446744073709551616 : Nat) : Int) := by rw [IntKind.wrap_u64]; omega
    rw [e1, ← show ((64 : Int) - (s : Int)).toNat = 64 - s from by omega, hh]
    rw [← IntWalk.i64_left]
    exact IntWalk.i64_in (r : Int) (by omega)
  have hb1 : (r : Int) ≤ 4194304 := by omega
  have hb2 : (N : Int) ≤ 4194304 := by omega
  have hb3 : (s : Int) ≤ 22 := by omega
  have hu : IntKind.u64.wrap (N : Int) = (N : Int) := by rw [IntKind.wrap_u64]; omega
  clear hN hle hlt hT
  have HT := hide htz
  clear htz
  go_enter Tryd.func27, Tryd.ntmps27
  go_wp2_with (first
    | (go_at_call 31; refine (unhide HT).mono ?_; rintro e w' ⟨rfl, rfl⟩))
  go_ret
  exact ⟨by rw [← hk]; rfl, rfl⟩

set_option maxHeartbeats 400000 in
theorem find_nil (id : Int) (w : World) : Calls Tryd.prog 22 #[.pointer none, .int .i64 id] w fun e w' => e = .returned (.int .i64 (-1)) ∧ w = w' := by
  go_enter Tryd.func22, Tryd.ntmps22
  go_wp2
  go_ret
  exact ⟨rfl, rfl⟩
set_option maxHeartbeats 400000 in
theorem find_empty (id : Int) (w : World) (p : Nat) (x : Option Addr) (cap : Nat) (hc : w.cell? ⟨p, 0, none⟩ = some (.slice x 0 cap)) : Calls Tryd.prog 22 #[.pointer (some ⟨p, 0, none⟩), .int .i64 id] w fun e w' => e = .returned (.int .i64 (-1)) ∧ w = w' := by
  go_enter Tryd.func22, Tryd.ntmps22
  go_wp2
  go_ret
  exact ⟨rfl, rfl⟩
set_option maxHeartbeats 400000 in
theorem find_not (id : Int) (w : World) (p : Nat) (x : Option Addr) (N cap : Nat) (hc : w.cell? ⟨p, 0, none⟩ = some (.slice x N cap)) (hN : 0 < N) (h : id < 0 ∨ 2147483647 < id) : Calls Tryd.prog 22 #[.pointer (some ⟨p, 0, none⟩), .int .i64 id] w fun e w' => e = .returned (.int .i64 (-1)) ∧ w = w' := by
  have h1 : ((N : Int) == 0) = false := by rw [beq_eq_false_iff_ne]; omega
  have h2 : (decide (0 ≤ id) && decide (id ≤ 2147483647)) = false := by
    rcases h with h | h
    · simp; omega
    · simp; omega
  go_enter Tryd.func22, Tryd.ntmps22
  go_wp2_with (go_at_call 21; refine (isId_any _ _).mono ?_; rw [h2]; rintro e w' ⟨rfl, rfl⟩)
  go_ret
  exact ⟨rfl, rfl⟩

set_option maxHeartbeats 1000000 in
theorem find_core (id : Nat) (w : World) (p : Nat) (v : Value) (C : Tc) (h : TcIn w p v C) (s t0 : Nat) (hs : s ≤ 22) (hN : C.cells.length = 2 ^ s) (hid : id ≤ 2147483647) (r : Int)
    (hlt : ∀ t, t < t0 → keyAt C.cells (pos C.cells.length (homeN C.cells.length id) t) ≠ id + 1 ∧ keyAt C.cells (pos C.cells.length (homeN C.cells.length id) t) ≠ 0)
    (hat : (keyAt C.cells (pos C.cells.length (homeN C.cells.length id) t0) = id + 1 ∧ r = (pos C.cells.length (homeN C.cells.length id) t0 : Int)) ∨ (keyAt C.cells (pos C.cells.length (homeN C.cells.length id) t0) = 0 ∧ r = -1)) :
    Calls Tryd.prog 22 #[.pointer (some ⟨p, 0, none⟩), .int .i64 (id : Int)] w fun e w' => e = .returned (.int .i64 r) ∧ w = w' := by
  obtain ⟨c0, _⟩ := h.cells3
  have hp := blk_lt h.blk
  have hle : 2 ^ s ≤ 4194304 := Nat.pow_le_pow_right (n := 2) (by omega) hs
  have hgt : 0 < 2 ^ s := Nat.pow_pos (by omega)
  have hho := homeN_lt (id := id) hs
  rw [← hN] at hho hle hgt
  obtain ⟨g, cap, hv, hcap, hmax, hrest⟩ := h.at 0 (by omega)
  clear hrest
  have hcell : ∀ q, q < C.cells.length → w.cell? ⟨g, q * 2, none⟩ = some (.int .i64 (keyAt C.cells q)) := by
    intro q hq
    obtain ⟨g', cap', hv', _, _, _, _, d, _⟩ := h.at q hq
    rw [hv] at hv'
    simp only [Value.slice.injEq, Option.some.injEq, Addr.mk.injEq, and_true, true_and] at hv'
    obtain ⟨rfl, rfl⟩ := hv'
    rw [keyAt_get hq]; exact d
  have HT := hide h.tab
  have HC := hide hcell
  have HL := hide hlt
  have HA := hide hat
  have HN := hide hN
  have h1 : ((C.cells.length : Int) == 0) = false := by rw [beq_eq_false_iff_ne]; omega
  have h2 : (decide (0 ≤ (id : Int)) && decide ((id : Int) ≤ 2147483647)) = true := by simp; omega
  clear h hcell hlt hat hN
  subst hv
  generalize C.cells.length = N at *
  have HH := hide hho
  generalize hH : homeN N id = H at *
  have HHH := hide hH
  clear hH hho
  have hb2 : (N : Int) ≤ 4194304 := by omega
  unfold maxLen at hmax
  go_enter Tryd.func22, Tryd.ntmps22
  go_wp2_with (first
    | (go_at_call 21; refine (isId_any _ _).mono ?_; rw [h2]; rintro e w' ⟨rfl, rfl⟩)
    | (go_at_call 27; refine (home_any _ _ _ N cap s id c0 hs (unhide HN) (unhide HT) hid).mono ?_; rw [unhide HHH]; rintro e w' ⟨rfl, rfl⟩))
  go_loopg [5] t0 (fun gk a w' => ∃ t : Nat, t + gk = t0 ∧ a = .int .i64 (pos N H t : Int) ∧ w' = w)
  case atStart => exact ⟨0, by omega, by rw [pos_zero (unhide HH)], rfl⟩
  case round =>
    obtain ⟨t, ht, rfl, rfl⟩ := hrel
    have hq := pos_lt (h := H) (t := t) hgt
    have hc := unhide HC _ hq
    have hsucc := pos_succ N H t
    have HS := hide hsucc
    clear hsucc
    generalize hqq : pos N H t = q at *
    have HQ := hide hqq
    clear hqq
    have e1 : (0 : Int) ≤ (q : Int) := by omega
    have e2 : (q : Int) < (N : Int) := by omega
    by_cases htt : t < t0
    · obtain ⟨k1, k2⟩ := unhide HL t htt
      rw [unhide HQ] at k1 k2
      generalize keyAt C.cells q = k at *
      have k1' : (k == (id : Int) + 1) = false := by rw [beq_eq_false_iff_ne]; exact k1
      have k2' : (k == 0) = false := by rw [beq_eq_false_iff_ne]; exact k2
      have hnx := next_any _ _ _ N cap s q c0 hs (unhide HN) hq
      generalize (q + 1) % N = q' at *
      have HX := hide hnx
      clear hnx
      go_wp2_with (first
        | (go_at_call 28; refine (unhide HX).mono ?_; rintro e w' ⟨rfl, rfl⟩))
      go_roundg (gk - 1)
      case rel => exact ⟨t + 1, by omega, by rw [unhide HS], rfl⟩
      all_goals omega
    · have : t = t0 := by omega
      subst this
      have ha := unhide HA
      rw [unhide HQ] at ha
      generalize keyAt C.cells q = k at *
      rcases ha with ⟨ha, hr⟩ | ⟨ha, hr⟩
      · subst hr
        subst ha
        go_wp2
        go_ret
        exact ⟨rfl, rfl⟩
      · subst hr
        subst ha
        have k1' : ((0 : Int) == (id : Int) + 1) = false := by rw [beq_eq_false_iff_ne]; omega
        go_wp2
        go_ret
        exact ⟨rfl, rfl⟩
end Go.Proofs.YtakgacahaennoaaDoor

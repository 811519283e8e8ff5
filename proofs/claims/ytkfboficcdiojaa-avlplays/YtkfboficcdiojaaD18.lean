import Derived.Test.YtkfboficcdiojaaD15
namespace Go.Proofs.Ytkfboficcdiojaa
open Go.RowKit Go.Arb
set_option linter.unusedVariables false
set_option linter.unusedSimpArgs false

section
variable {w w' : World} {p g n cap room : Nat} {S S' : Ss} {A : Se}
/-- What looking at one slot is for the walk over all. -/
structure Looks (p g n cap room : Nat) (S : Ss) : Prop where
  lk : ∀ W t, Pool W p g n cap room S → t < n → (S t).h ≠ 0 → Calls Try.prog 77 #[.pointer (some ⟨p, 0, none⟩), .int .i64 (t : Int)] W fun e w' => e = .returned (.bool true) ∧ Pool w' p g n cap room S ∧ Keep [g] W w'
  tf : ∀ W t, Pool W p g n cap room S → t < n → (S t).h ≠ 0 → Calls Try.prog 78 #[.pointer (some ⟨p, 0, none⟩), .int .i64 (t : Int)] W fun e w' => e = .returned (.bool true) ∧ Pool w' p g n cap room S ∧ Keep [g] W w'
  sf : ∀ W t, Pool W p g n cap room S → t < n → (S t).h ≠ 0 → Calls Try.prog 79 #[.pointer (some ⟨p, 0, none⟩), .int .i64 (t : Int)] W fun e w' => e = .returned (.bool true) ∧ Pool w' p g n cap room S ∧ Keep [g] W w'
  zz : ∀ t, (S t).h = 0 → S t = Sl.zero

set_option maxRecDepth 100000 in
set_option maxHeartbeats 4000000 in
theorem slotsFit_any (h : Pool w p g n cap room S) (lo : Looks p g n cap room S) (hn4 : n ≤ 4194305) : Calls Try.prog 66 #[.pointer (some ⟨p, 0, none⟩)] w fun e w' => e = .returned (.bool true) ∧ Pool w' p g n cap room S ∧ Keep [g] w w' := by
  obtain ⟨_, c1, _, _, k1, k2⟩ := h.head
  have HP := hide h
  have LO := hide lo
  have hn : (n : Int) ≤ 4194305 := by omega
  clear h lo
  go_enter Try.func66, Try.ntmps66
  go_wp2
  go_loopg [10] n (fun gk a w' => ∃ t : Nat, t + gk = n ∧ a = .int .i64 (t : Int) ∧ Hid (Pool w' p g n cap room S ∧ Keep [g] w w'))
  case atStart => exact ⟨0, by omega, rfl, unhide HP, Keep.refl _ _⟩
  case round =>
    obtain ⟨t, ht, rfl, HK⟩ := hrel
    by_cases htn : t < n
    · have i1 : (0 : Int) ≤ (t : Int) := by omega
      have i2 : (t : Int) < (n : Int) := by omega
      obtain ⟨v0, v1, v2, v3, v4, v5, v6, v7, v8, v9⟩ := (unhide HK).1.slot htn
      have G0 := hide (Gs.new (unhide HK).1 (S t))
      have K0 := hide (unhide HK).2
      by_cases h0 : (S t).h = 0
      · have hz := (unhide LO).zz t h0
        rw [hz] at v0 v1 v2 v3 v4 v5 v6 v7 v8 v9 G0
        simp only [Sl.zero, zero] at v0 v1 v2 v3 v4 v5 v6 v7 v8 v9
        clear h0 hz
        go_wp2
        go_roundg (gk - 1)
        case rel => exact ⟨t + 1, by omega, by go_num, (unhide G0).po, (unhide K0).tr (unhide G0).kp⟩
        all_goals omega
      · have L1 := hide (fun W hW => (unhide LO).lk W t hW htn h0)
        have L2 := hide (fun W hW => (unhide LO).tf W t hW htn h0)
        have L3 := hide (fun W hW => (unhide LO).sf W t hW htn h0)
        generalize S t = yt at *
        obtain ⟨tu, tl, tr, th, tw, ta, ts⟩ := yt
        dsimp only at *
        have h1 : ((th : Int) == 0) = false := by rw [beq_eq_false_iff_ne]; omega
        go_wp2_with fail
        refine (unhide L1 _ (unhide G0).po).mono ?_
        rintro e w1 ⟨rfl, hP, hK⟩
        have P1 := hide (And.intro hP (((unhide K0).tr (unhide G0).kp).tr hK))
        clear hP hK L1 G0 K0
        go_wp2_with fail
        refine (unhide L2 _ (unhide P1).1).mono ?_
        rintro e w2 ⟨rfl, hP, hK⟩
        have P2 := hide (And.intro hP ((unhide P1).2.tr hK))
        clear hP hK L2 P1
        go_wp2_with fail
        refine (unhide L3 _ (unhide P2).1).mono ?_
        rintro e w3 ⟨rfl, hP, hK⟩
        have P3 := hide (And.intro hP ((unhide P2).2.tr hK))
        clear hP hK L3 P2
        go_wp2
        go_roundg (gk - 1)
        case rel => exact ⟨t + 1, by omega, by go_num, unhide P3⟩
        all_goals omega
    · have hnt : t = n := by omega
      subst hnt
      have R := hide (unhide HK)
      clear HK ht
      go_wp2
      go_ret
      exact ⟨rfl, unhide R⟩
end
end Go.Proofs.Ytkfboficcdiojaa

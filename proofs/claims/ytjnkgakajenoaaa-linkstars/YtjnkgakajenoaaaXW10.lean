/- PlainStars: a star, a ray of it made the root, cut off, and gone. -/
import Derived.Test.YtjnkgakajenoaaaL11
import Derived.Test.YtjnkgakajenoaaaL12
namespace Go.Proofs.Ytjnkgakajenoaaa
open Go.RowKit Go.Arb
set_option linter.unusedVariables false
set_option linter.unusedSimpArgs false

theorem star_add {k m : Nat} (hm : m < k) : (gr k m starF (fun _ => 1)).addB m 1 = true ∧ (gr k m starF (fun _ => 1)).addI m 1 = gr k (m + 1) (updF starF m (-1)) (fun _ => 1) := by
  have h1 := gr_addB (g := fun _ => 1) starF_low hm (by decide)
  exact ⟨h1, by rw [addI_yes h1]; exact gr_add⟩
theorem star_link {k m : Nat} (hm : m < k) (h0 : 0 < m) : (gr k (m + 1) (updF starF m (-1)) (fun _ => 1)).linkB m 0 = true ∧ (gr k (m + 1) (updF starF m (-1)) (fun _ => 1)).linkI m 0 = gr k (m + 1) starF (fun _ => 1) := by
  have h1 := gr_linkB (g := fun _ => 1) (j := 0) starF_low hm h0
  exact ⟨h1, by rw [show ((0 : Int)) = ((0 : Nat) : Int) from rfl, linkI_yes h1]; exact gr_link (by simp [starF]; omega)⟩

set_option maxRecDepth 100000 in
set_option maxHeartbeats 4000000 in
theorem stars_walk (at0 at1 : Int) (w : World) (hat0 : 0 ≤ at0) (hat1 : at0 ≤ 255) (hbt0 : 0 ≤ at1) (hbt1 : at1 ≤ 255) :
    Calls Try.prog 10 #[.int .u8 at0, .int .u8 at1] w fun e w' => e = .returned (.bool true) ∧ Below w.heap.size w w' := by
  obtain ⟨x, rfl⟩ := Int.eq_ofNat_of_zero_le hat0
  obtain ⟨y, rfl⟩ := Int.eq_ofNat_of_zero_le hbt0
  go_enter Try.func10, Try.ntmps10
  go_wp2_with fail
  rw [show (3 + (x : Int) % 50) = ((3 + x % 50 : Nat) : Int) from by omega]
  have hk : 3 ≤ 3 + x % 50 := by omega
  have hk1 : 3 + x % 50 ≤ 52 := by omega
  generalize 3 + x % 50 = k at *
  refine (oNew (js := []) k w (Below.refl _ _) (by simp) (by omega)).mono ?_
  rintro e W0 ⟨p, rfl, h, kk⟩
  rw [← gr_new (f := starF) (g := fun _ => 1)] at h
  have H0 := hide h
  clear h kk
  go_wp2
  go_loopw [7] (fun i w' => ∃ m : Nat, m ≤ k ∧ i = .int .i64 (m : Int) ∧ Hid (Ob w w' p (gr k m starF (fun _ => 1)) [])) (fun i _ => k - (intOf i).toNat)
  case atStart => exact ⟨0, by omega, rfl, H0⟩
  case round =>
    clear H0
    obtain ⟨m, hm, rfl, H0⟩ := hrel
    by_cases hlt : m < k
    · have e1 : (m : Int) < (k : Int) := by omega
      obtain ⟨f1, t1⟩ := star_add hlt
      by_cases hm0 : m = 0
      · have e2 : ¬ (0 : Int) < (m : Int) := by omega
        have e3 : (m : Int) = 0 := by omega
        have HM := hide hm0
        clear hm0
        clear e3
        go_wp2_with fail
        refine ((unhide H0).call fun _ ha => aAdd _ _ ha).mono ?_
        rw [f1, t1]
        rintro e W1 ⟨rfl, h, k⟩
        have H1 := hide h
        clear h k H0
        go_wp2
        go_roundw
        case rel => exact ⟨m + 1, by omega, by go_num, by rw [← gr_root (show starF m = -1 by rw [unhide HM]; rfl)]; exact H1⟩
        case measure => simp [intOf]; omega
      · have e2 : (0 : Int) < (m : Int) := by omega
        obtain ⟨f2, t2⟩ := star_link hlt (by omega)
        go_wp2_with fail
        refine ((unhide H0).call fun _ ha => aAdd _ _ ha).mono ?_
        rw [f1, t1]
        rintro e W1 ⟨rfl, h, k⟩
        have H1 := hide h
        clear h k H0
        go_wp2_with fail
        refine ((unhide H1).call fun _ ha => aLink _ _ ha).mono ?_
        rw [f2, t2]
        rintro e W2 ⟨rfl, h, k⟩
        have H2 := hide h
        clear h k H1
        go_wp2
        go_roundw
        case rel => exact ⟨m + 1, by omega, by go_num, H2⟩
        case measure => simp [intOf]; omega
    · have e1 : ¬ (m : Int) < (k : Int) := by omega
      obtain rfl : m = k := by omega
      have ha : 0 < 1 + y % (m - 1) := by omega
      have hy1 : y % (m - 1) < m - 1 := Nat.mod_lt _ (by omega)
      have hak : 1 + y % (m - 1) < m := by omega
      have hz1 : (1 + y % (m - 1)) % (m - 1) < m - 1 := Nat.mod_lt _ (by omega)
      have hne : 1 + y % (m - 1) ≠ 1 + (1 + y % (m - 1)) % (m - 1) := by
        intro e
        by_cases hc : 1 + y % (m - 1) < m - 1
        · rw [Nat.mod_eq_of_lt hc] at e; omega
        · have h2 : 1 + y % (m - 1) = m - 1 := by omega
          rw [h2, Nat.mod_self] at e; omega
      have hms : ((m : Int) - 1 == 0) = false := by rw [beq_eq_false_iff_ne]; omega
      go_wp2_with fail
      rw [show ((m : Int) - 1) = ((m - 1 : Nat) : Int) from by omega, show ((y : Int) % ((m - 1 : Nat) : Int)) = ((y % (m - 1) : Nat) : Int) from rfl, show (1 + ((y % (m - 1) : Nat) : Int)) = ((1 + y % (m - 1) : Nat) : Int) from by omega,
        IntWalk.wrap64_in ((1 + y % (m - 1) : Nat) : Int) (by omega), show (((1 + y % (m - 1) : Nat) : Int)).tmod ((m - 1 : Nat) : Int) = (((1 + y % (m - 1)) % (m - 1) : Nat) : Int) from rfl, show (1 + (((1 + y % (m - 1)) % (m - 1) : Nat) : Int)) = ((1 + (1 + y % (m - 1)) % (m - 1) : Nat) : Int) from by omega,
        IntWalk.wrap64_in ((1 + (1 + y % (m - 1)) % (m - 1) : Nat) : Int) (by omega)]
      have hb : 0 < 1 + (1 + y % (m - 1)) % (m - 1) := by omega
      have hbk : 1 + (1 + y % (m - 1)) % (m - 1) < m := by omega
      clear hz1 hy1 hms
      generalize 1 + (1 + y % (m - 1)) % (m - 1) = b at *
      generalize 1 + y % (m - 1) = a at *
      generalize y % (m - 1) = yy at *
      have hm1 : ((m - 1 : Nat) : Int) = (m : Int) - 1 := by omega
      generalize hmm : m - 1 = m1 at *
      clear hmm
      obtain ⟨⟨s1, s2, s3, s4, s5⟩, u1, u2, u3, u4, u5⟩ := star_facts hk ha hak hb hbk hne
      have u6 := turned_sub hk ha hak
      obtain ⟨⟨v1, v2, v3, v4, v5⟩, x1, x2, x3, x4, x5⟩ := star_cut hk ha hak hb hbk hne
      have HEX : Hid (∃ s, (star m).pathI a b = s) := ⟨_, rfl⟩
      obtain ⟨s, hs⟩ := HEX.out
      rw [hs] at s1
      obtain ⟨sc, ss, sa, sb⟩ := s
      dsimp only at s1
      subst s1
      have HEX2 : Hid (∃ s, ((star m).evert a).subI (0 : Nat) = s) := ⟨_, rfl⟩
      obtain ⟨z, hz⟩ := HEX2.out
      have hz' := hz.symm.trans u6
      rw [hz'] at hz
      generalize (((star m).evert a).subI (0 : Nat)).a = za at *
      generalize (((star m).evert a).subI (0 : Nat)).b = zb at *
      replace hz : ((star m).evert a).subI 0 = ⟨(m : Int) - 1, (m : Int) - 1, za, zb⟩ := hz
      clear u6 hz' HEX HEX2 z
      have hu0 : ((star m).evert a).hasI 0 = true := u4
      replace H0 : Hid (Ob w wr p (star m) []) := H0
      generalize hS : star m = S at *
      generalize S.evert a = S1 at *
      generalize S.cut a = S2 at *
      generalize S2.drop a = S3 at *
      refine ((unhide H0).call fun _ ha => aPath _ _ ha).mono ?_
      rw [hs, s2]
      unfold smV
      dsimp only
      rintro e W1 ⟨rfl, h, k⟩
      have H1 := hide h
      clear h k H0
      have S9 := hide (SumAt.new W1 34 3 ss sa sb)
      replace H1 := hide ((unhide H1).push (.cells #[.int .i64 3, .int .i64 ss, .int .i64 sa, .int .i64 sb] 34))
      go_wp2_with fail
      generalize W1.alloc (.cells #[.int .i64 3, .int .i64 ss, .int .i64 sa, .int .i64 sb] 34) = WW1 at *
      generalize W1.heap.size = bb at *
      obtain ⟨⟨q0, q1, q2, q3⟩, _⟩ := unhide S9
      dsimp only at q0 q1 q2 q3
      clear q0 q1 q2 q3
      refine ((unhide H1).call fun _ ha => aLca _ _ ha).mono ?_
      rw [s3]
      rintro e W2 ⟨rfl, h, k⟩
      have H2 := hide h
      replace S9 := hide ((unhide S9).kept k (by simp))
      clear h k H1
      obtain ⟨⟨q0, q1, q2, q3⟩, _⟩ := unhide S9
      dsimp only at q0 q1 q2 q3
      go_wp2_with fail
      refine ((unhide H2).call fun _ ha => aEvert _ ha).mono ?_
      rw [s4, s5]
      rintro e W3 ⟨rfl, h, k⟩
      have H3 := hide h
      replace S9 := hide ((unhide S9).kept k (by simp))
      clear h k H2
      clear q0 q1 q2 q3
      go_wp2_with fail
      refine ((unhide H3).call fun _ ha => aParent _ ha).mono ?_
      rw [u1]
      rintro e W4 ⟨rfl, h, k⟩
      have H4 := hide h
      replace S9 := hide ((unhide S9).kept k (by simp))
      clear h k H3
      go_wp2_with fail
      refine ((unhide H4).call fun _ ha => aParent _ ha).mono ?_
      rw [u2]
      rintro e W5 ⟨rfl, h, k⟩
      have H5 := hide h
      replace S9 := hide ((unhide S9).kept k (by simp))
      clear h k H4
      go_wp2_with fail
      refine ((unhide H5).call fun _ ha => aLca _ _ ha).mono ?_
      rw [u3]
      rintro e W6 ⟨rfl, h, k⟩
      have H6 := hide h
      replace S9 := hide ((unhide S9).kept k (by simp))
      clear h k H5
      go_wp2_with fail
      refine ((unhide H6).call fun _ ha => aSub _ ha).mono ?_
      rw [hz, hu0]
      dsimp only
      rintro e W7 ⟨rfl, h, k⟩
      have H7 := hide h
      replace S9 := hide ((unhide S9).kept k (by simp))
      clear h k H6
      go_wp2_with fail
      refine ((unhide H7).call fun _ ha => aEvert _ ha).mono ?_
      rw [u4, u5]
      rintro e W8 ⟨rfl, h, k⟩
      have H8 := hide h
      replace S9 := hide ((unhide S9).kept k (by simp))
      clear h k H7
      go_wp2_with fail
      refine ((unhide H8).call fun _ ha => aCut _ ha).mono ?_
      rw [v1, v2]
      rintro e W9 ⟨rfl, h, k⟩
      have H9 := hide h
      replace S9 := hide ((unhide S9).kept k (by simp))
      clear h k H8
      go_wp2_with fail
      refine ((unhide H9).call fun _ ha => aSize _ ha).mono ?_
      rw [v3]
      rintro e W10 ⟨rfl, h, k⟩
      have H10 := hide h
      replace S9 := hide ((unhide S9).kept k (by simp))
      clear h k H9
      go_wp2_with fail
      refine ((unhide H10).call fun _ ha => aSize _ ha).mono ?_
      rw [v4]
      rintro e W11 ⟨rfl, h, k⟩
      have H11 := hide h
      replace S9 := hide ((unhide S9).kept k (by simp))
      clear h k H10
      go_wp2_with fail
      refine ((unhide H11).call fun _ ha => aSame _ _ ha).mono ?_
      rw [v5]
      rintro e W12 ⟨rfl, h, k⟩
      have H12 := hide h
      replace S9 := hide ((unhide S9).kept k (by simp))
      clear h k H11
      go_wp2_with fail
      refine ((unhide H12).call fun _ ha => aDrop _ ha).mono ?_
      rw [x1, x2]
      rintro e W13 ⟨rfl, h, k⟩
      have H13 := hide h
      replace S9 := hide ((unhide S9).kept k (by simp))
      clear h k H12
      go_wp2_with fail
      refine ((unhide H13).call fun _ ha => aHas _ ha).mono ?_
      rw [x3]
      rintro e W14 ⟨rfl, h, k⟩
      have H14 := hide h
      replace S9 := hide ((unhide S9).kept k (by simp))
      clear h k H13
      go_wp2_with fail
      refine ((unhide H14).call fun _ ha => aDrop _ ha).mono ?_
      rw [x4, x5]
      rintro e W15 ⟨rfl, h, k⟩
      have H15 := hide h
      replace S9 := hide ((unhide S9).kept k (by simp))
      clear h k H14
      go_wp2_with fail
      refine (awake_any _).mono ?_
      rintro e W16 ⟨rfl, hb⟩
      obtain ⟨h, k⟩ := (unhide H15).below hb
      have H16 := hide h
      replace S9 := hide ((unhide S9).kept k (by simp))
      clear h k hb H15
      go_wp2_with fail
      refine ((unhide H16).call fun _ ha => aCheck ha).mono ?_
      rintro e W17 ⟨rfl, h, k⟩
      have H17 := hide h
      replace S9 := hide ((unhide S9).kept k (by simp))
      clear h k H16
      go_wp2
      go_ret
      exact ⟨rfl, (unhide H17).bel⟩
end Go.Proofs.Ytjnkgakajenoaaa

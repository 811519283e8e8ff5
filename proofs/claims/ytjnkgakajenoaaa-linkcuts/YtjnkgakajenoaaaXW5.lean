/- PlainCuts: a node is cut off, and linked where it was. -/
import Derived.Test.YtjnkgakajenoaaaL11
namespace Go.Proofs.Ytjnkgakajenoaaa
open Go.RowKit Go.Arb
set_option linter.unusedVariables false
set_option linter.unusedSimpArgs false

set_option maxRecDepth 100000 in
set_option maxHeartbeats 4000000 in
theorem cuts_walk (x y : Option Addr) (lx cx ly cy : Nat) (us ws : List Int) (at0 : Int) (hat0 : 0 ≤ at0) (hat1 : at0 ≤ 255) (w : World) (hx : IRow .u8 w x lx us) (hy : IRow .i16 w y ly ws) (hlx : lx ≤ maxLen) (hly : ly ≤ maxLen) :
    Calls Try.prog 5 #[.slice x lx cx, .slice y ly cy, .int .u8 at0] w fun e w' => e = .returned (.bool true) ∧ Below w.heap.size w w' := by
  have LF := hide (upF_low (us := us) fun z hz => (bounds_u8 (hx.2.2 z hz)).1)
  have WF := hide (wF_fit (ws := ws) fun z hz => bounds_i16 (hy.2.2 z hz))
  have HX := hide hx
  have HY := hide hy
  have HLL := hide (And.intro hlx hly)
  have hlx' := hlx
  unfold maxLen at hlx'
  clear hx hy hlx hly
  have HEN : Hid (∃ n, min lx 30 = n) := ⟨_, rfl⟩
  obtain ⟨n, hnn⟩ := HEN.out
  have hn : n ≤ 30 := by omega
  have hnl : n ≤ lx := by omega
  have hmn : (lx ≤ 30 ∧ n = lx) ∨ (30 < lx ∧ n = 30) := by omega
  have HNN := hide (And.intro hnn hmn)
  clear hnn hmn HEN
  go_enter Try.func5, Try.ntmps5
  go_upto_region 1 with fail
  go_cut [7] (fun a w' => a = .int .i64 (n : Int) ∧ w' = w)
  case first =>
    rcases (unhide HNN).2 with ⟨h1, h2⟩ | ⟨h1, h2⟩
    · have h3 : (lx : Int) ≤ 30 := by omega
      have h4 : ¬ (30 : Int) < (lx : Int) := by omega
      have H2 := hide h2
      clear h2
      go_wp2
      go_meet
      exact ⟨by rw [unhide H2], rfl⟩
    · have h3 : ¬ (lx : Int) ≤ 30 := by omega
      have h4 : (30 : Int) < (lx : Int) := by omega
      have H2 := hide h2
      clear h2
      go_wp2
      go_meet
      exact ⟨by rw [unhide H2]; rfl, rfl⟩
  obtain ⟨rfl, hwc⟩ := hcut
  obtain rfl : w = wc := hwc.symm
  clear hwc
  go_wp2_with fail
  refine (grown_any (w := w) (js := []) n x y lx cx ly cy us ws w (Below.refl _ _) (by simp) (by omega) hnl (unhide HX) (unhide HY) (unhide HLL).2 (unhide HLL).1).mono ?_
  rintro e W0 ⟨p, rfl, h, kk⟩
  have hW := h.wf
  have hth : ∀ i, i < n → (gr n n (upF us) (wF ws)).par i ≠ -2 := fun i hi => gr_there (unhide LF) hi
  have hTn : (gr n n (upF us) (wF ws)).n = n := rfl
  have H0 := hide h
  clear h kk LF WF HX HY HLL HNN
  generalize gr n n (upF us) (wF ws) = T at *
  by_cases hn0 : n = 0
  · subst hn0
    go_wp2_with fail
    refine (awake_any _).mono ?_
    rintro e W1 ⟨rfl, hb⟩
    obtain ⟨h, k⟩ := (unhide H0).below hb
    have H1 := hide h
    clear h k hb H0
    go_wp2
    go_ret
    exact ⟨rfl, (unhide H1).bel⟩
  · obtain ⟨a, rfl⟩ := Int.eq_ofNat_of_zero_le hat0
    have hnz : ((n : Int) == 0) = false := by rw [beq_eq_false_iff_ne]; omega
    have hca : a % n < n := Nat.mod_lt _ (by omega)
    have hct := hth (a % n) hca
    go_wp2_with fail
    rw [show ((a : Int) % (n : Int)) = ((a % n : Nat) : Int) from rfl]
    generalize a % n = c at *
    have hsz := hW.size_le hct
    have hsb := Tr.sub_le hct
    rw [hTn] at hsz hsb
    obtain ⟨hsz0, hsz1⟩ := hsz
    obtain ⟨hsb0, hsb1⟩ := hsb
    rcases hW.par_cases hct with hr | ⟨q, hq, _⟩
    · obtain ⟨f1, f2, f3, t3, f5, f6⟩ := hW.root_facts hr
      rw [f6] at hsz0 hsz1
      have HWF := hide (And.intro hW (And.intro hth (And.intro hct hr)))
      clear hW hth hct hr hTn
      have HEX : Hid (∃ s, T.subI c = s) := ⟨_, rfl⟩
      obtain ⟨s, hs⟩ := HEX.out
      rw [hs] at hsb0 hsb1 f6 hsz0 hsz1
      obtain ⟨sc, ss, sa, sb⟩ := s
      clear HEX
      dsimp only at *
      refine ((unhide H0).call fun _ ha => aParent _ ha).mono ?_
      rw [f1]
      rintro e W1 ⟨rfl, h, k⟩
      have H1 := hide h
      clear h k H0
      go_wp2_with fail
      refine ((unhide H1).call fun _ ha => aSub _ ha).mono ?_
      rw [hs, f2]
      dsimp only
      rintro e W2 ⟨rfl, h, k⟩
      have H2 := hide h
      clear h k H1
      go_wp2_with fail
      refine ((unhide H2).call fun _ ha => aSize _ ha).mono ?_
      rw [f6]
      rintro e W3 ⟨rfl, h, k⟩
      have H3 := hide h
      clear h k H2
      go_wp2_with fail
      refine ((unhide H3).call fun _ ha => aCut _ ha).mono ?_
      rw [f3, t3]
      rintro e W4 ⟨rfl, h, k⟩
      have H4 := hide h
      clear h k H3
      go_wp2_with fail
      refine (awake_any _).mono ?_
      rintro e W5 ⟨rfl, hb⟩
      obtain ⟨h, k⟩ := (unhide H4).below hb
      have H5 := hide h
      clear h k hb H4
      go_wp2_with fail
      refine ((unhide H5).call fun _ ha => aRoot _ ha).mono ?_
      rw [f5]
      rintro e W6 ⟨rfl, h, k⟩
      have H6 := hide h
      clear h k H5
      go_wp2
      go_ret
      exact ⟨rfl, (unhide H6).bel⟩
    · obtain ⟨⟨f1, f2, f3, t3⟩, ⟨g1, g2, g3, g4, g5, g6, g7⟩, l1, l2, l3, l4, l5⟩ := hW.cut_facts hq
      have HWF := hide (And.intro hW (And.intro hth (And.intro hct hq)))
      clear hW hth hct hq hTn
      have HEX : Hid (∃ s, T.subI c = s) := ⟨_, rfl⟩
      obtain ⟨s, hs⟩ := HEX.out
      rw [hs] at hsb0 hsb1 g1 g5 g6
      obtain ⟨sc, ss, sa, sb⟩ := s
      clear HEX
      dsimp only at *
      have HEX : Hid (∃ z, T.sizeI c = z) := ⟨_, rfl⟩
      obtain ⟨sz, hz⟩ := HEX.out
      rw [hz] at hsz0 hsz1 g6 l5
      clear HEX
      generalize T.cut c = T1 at *
      have hq0 : (0 : Int) ≤ (q : Int) := by omega
      have hq1 : ¬ (q : Int) < 0 := by omega
      refine ((unhide H0).call fun _ ha => aParent _ ha).mono ?_
      rw [f1]
      rintro e W1 ⟨rfl, h, k⟩
      have H1 := hide h
      clear h k H0
      go_wp2_with fail
      refine ((unhide H1).call fun _ ha => aSub _ ha).mono ?_
      rw [hs, f2]
      dsimp only
      rintro e W2 ⟨rfl, h, k⟩
      have H2 := hide h
      clear h k H1
      go_wp2_with fail
      refine ((unhide H2).call fun _ ha => aSize _ ha).mono ?_
      rw [hz]
      rintro e W3 ⟨rfl, h, k⟩
      have H3 := hide h
      clear h k H2
      go_wp2_with fail
      refine ((unhide H3).call fun _ ha => aCut _ ha).mono ?_
      rw [f3, t3]
      rintro e W4 ⟨rfl, h, k⟩
      have H4 := hide h
      clear h k H3
      go_wp2_with fail
      refine ((unhide H4).call fun _ ha => aSub _ ha).mono ?_
      rw [g1, g2]
      dsimp only
      rintro e W5 ⟨rfl, h, k⟩
      have H5 := hide h
      clear h k H4
      go_wp2_with fail
      refine ((unhide H5).call fun _ ha => aRoot _ ha).mono ?_
      rw [g3]
      rintro e W6 ⟨rfl, h, k⟩
      have H6 := hide h
      clear h k H5
      go_wp2_with fail
      refine ((unhide H6).call fun _ ha => aSame _ _ ha).mono ?_
      rw [g4]
      rintro e W7 ⟨rfl, h, k⟩
      have H7 := hide h
      clear h k H6
      go_wp2_with fail
      refine ((unhide H7).call fun _ ha => aSize _ ha).mono ?_
      rw [g5]
      rintro e W8 ⟨rfl, h, k⟩
      have H8 := hide h
      clear h k H7
      go_wp2_with fail
      refine ((unhide H8).call fun _ ha => aSize _ ha).mono ?_
      rw [g6]
      rintro e W9 ⟨rfl, h, k⟩
      have H9 := hide h
      clear h k H8
      go_wp2_with fail
      refine ((unhide H9).call fun _ ha => aParent _ ha).mono ?_
      rw [g7]
      rintro e W10 ⟨rfl, h, k⟩
      have H10 := hide h
      clear h k H9
      go_wp2_with fail
      refine ((unhide H10).call fun _ ha => aLink _ _ ha).mono ?_
      rw [l1, l2]
      rintro e W11 ⟨rfl, h, k⟩
      have H11 := hide h
      clear h k H10
      go_wp2_with fail
      refine ((unhide H11).call fun _ ha => aLink _ _ ha).mono ?_
      rw [l3, l4]
      rintro e W12 ⟨rfl, h, k⟩
      have H12 := hide h
      clear h k H11
      go_wp2_with fail
      refine ((unhide H12).call fun _ ha => aSub _ ha).mono ?_
      rw [hs, f2]
      dsimp only
      rintro e W13 ⟨rfl, h, k⟩
      have H13 := hide h
      clear h k H12
      go_wp2_with fail
      refine (awake_any _).mono ?_
      rintro e W14 ⟨rfl, hb⟩
      obtain ⟨h, k⟩ := (unhide H13).below hb
      have H14 := hide h
      clear h k hb H13
      go_wp2_with fail
      refine ((unhide H14).call fun _ ha => aParent _ ha).mono ?_
      rw [f1]
      rintro e W15 ⟨rfl, h, k⟩
      have H15 := hide h
      clear h k H14
      go_wp2_with fail
      refine ((unhide H15).call fun _ ha => aSize _ ha).mono ?_
      rw [l5]
      rintro e W16 ⟨rfl, h, k⟩
      have H16 := hide h
      clear h k H15
      go_wp2_with fail
      refine ((unhide H16).call fun _ ha => aCheck ha).mono ?_
      rintro e W17 ⟨rfl, h, k⟩
      have H17 := hide h
      clear h k H16
      go_wp2
      go_ret
      exact ⟨rfl, (unhide H17).bel⟩
end Go.Proofs.Ytjnkgakajenoaaa

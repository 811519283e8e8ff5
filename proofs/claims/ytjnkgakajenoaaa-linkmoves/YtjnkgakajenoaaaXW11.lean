/- PlainMoves: a node goes from one parent to another. -/
import Derived.Test.YtjnkgakajenoaaaL11
namespace Go.Proofs.Ytjnkgakajenoaaa
open Go.RowKit Go.Arb
set_option linter.unusedVariables false
set_option linter.unusedSimpArgs false

set_option maxRecDepth 100000 in
set_option maxHeartbeats 4000000 in
theorem moves_walk (x y : Option Addr) (lx cx ly cy : Nat) (us ws : List Int) (at0 at1 : Int) (hat0 : 0 ≤ at0) (hat1 : at0 ≤ 255) (hbt0 : 0 ≤ at1) (hbt1 : at1 ≤ 255) (w : World) (hx : IRow .u8 w x lx us) (hy : IRow .i16 w y ly ws) (hlx : lx ≤ maxLen) (hly : ly ≤ maxLen) :
    Calls Try.prog 11 #[.slice x lx cx, .slice y ly cy, .agg #[.int .u8 at0, .int .u8 at1]] w fun e w' => e = .returned (.bool true) ∧ Below w.heap.size w w' := by
  have hbx := hide ((Below.refl w.heap.size w).alloc (Nat.le_refl _) (.cells #[.int .u8 at0, .int .u8 at1] 58))
  have X := hide (BoxAt.new w #[.int .u8 at0, .int .u8 at1] 58)
  have hbsz : w.heap.size < (w.alloc (.cells #[.int .u8 at0, .int .u8 at1] 58)).heap.size := by simp
  have LF := hide (upF_low (us := us) fun z hz => (bounds_u8 (hx.2.2 z hz)).1)
  have WF := hide (wF_fit (ws := ws) fun z hz => bounds_i16 (hy.2.2 z hz))
  have HX := hide hx
  have HY := hide hy
  have HLL := hide (And.intro hlx hly)
  have hlx' := hlx
  unfold maxLen at hlx'
  clear hx hy hlx hly
  have HEN : Hid (∃ n, min lx 25 = n) := ⟨_, rfl⟩
  obtain ⟨n, hnn⟩ := HEN.out
  have hn : n ≤ 25 := by omega
  have hnl : n ≤ lx := by omega
  have hmn : (lx ≤ 25 ∧ n = lx) ∨ (25 < lx ∧ n = 25) := by omega
  have HNN := hide (And.intro hnn hmn)
  clear hnn hmn HEN
  go_enter Try.func11, Try.ntmps11
  go_upto_region 1 with fail
  go_cut [7] (fun a w' => a = .int .i64 (n : Int) ∧ w' = w.alloc (.cells #[.int .u8 at0, .int .u8 at1] 58))
  case first =>
    rcases (unhide HNN).2 with ⟨h1, h2⟩ | ⟨h1, h2⟩
    · have h3 : (lx : Int) ≤ 25 := by omega
      have h4 : ¬ (25 : Int) < (lx : Int) := by omega
      have H2 := hide h2
      clear h2
      go_wp2
      go_meet
      exact ⟨by rw [unhide H2], rfl⟩
    · have h3 : ¬ (lx : Int) ≤ 25 := by omega
      have h4 : (25 : Int) < (lx : Int) := by omega
      have H2 := hide h2
      clear h2
      go_wp2
      go_meet
      exact ⟨by rw [unhide H2]; rfl, rfl⟩
  obtain ⟨rfl, hwc⟩ := hcut
  subst hwc
  go_wp2_with fail
  refine (grown_any (w := w) (js := [w.heap.size]) n x y lx cx ly cy us ws (w.alloc (.cells #[.int .u8 at0, .int .u8 at1] 58)) (unhide hbx) (by simp) (by omega) hnl (unhide HX) (unhide HY) (unhide HLL).2 (unhide HLL).1).mono ?_
  rintro e W0 ⟨p, rfl, h, kk⟩
  replace X := hide ((unhide X).kept kk (by simp))
  have hW := h.wf
  have hth : ∀ i, i < n → (gr n n (upF us) (wF ws)).par i ≠ -2 := fun i hi => gr_there (unhide LF) hi
  have hTn : (gr n n (upF us) (wF ws)).n = n := rfl
  have H0 := hide h
  clear h kk LF WF HX HY HLL HNN hbx hbsz
  generalize gr n n (upF us) (wF ws) = T at *
  by_cases hn0 : n = 0
  · subst hn0
    go_wp2_with fail
    refine (awake_any _).mono ?_
    rintro e W1 ⟨rfl, hb⟩
    obtain ⟨h, k⟩ := (unhide H0).below hb
    have H1 := hide h
    clear h k hb H0
    go_wp2
    go_ret
    exact ⟨rfl, (unhide H1).bel⟩
  · obtain ⟨a, rfl⟩ := Int.eq_ofNat_of_zero_le hat0
    obtain ⟨b, rfl⟩ := Int.eq_ofNat_of_zero_le hbt0
    have hnz : ((n : Int) == 0) = false := by rw [beq_eq_false_iff_ne]; omega
    have hca : a % n < n := Nat.mod_lt _ (by omega)
    have hcb : b % n < n := Nat.mod_lt _ (by omega)
    have hct := hth (a % n) hca
    have hpt := hth (b % n) hcb
    obtain ⟨d0, _⟩ := (unhide X).cell (o := 0) rfl
    obtain ⟨d1, _⟩ := (unhide X).cell (o := 1) rfl
    go_wp2
    go_quiet (fail)
    go_wp2_with fail
    clear d0 d1 X
    rw [show ((a : Int) % (n : Int)) = ((a % n : Nat) : Int) from rfl, show ((b : Int) % (n : Int)) = ((b % n : Nat) : Int) from rfl]
    generalize a % n = c at *
    generalize b % n = q at *
    replace H0 := hide ((unhide H0).drewN nq)
    have hsb := Tr.sub_le hct
    rw [hTn] at hsb
    obtain ⟨hsb0, hsb1⟩ := hsb
    have fh := Tr.hasI_there hct
    obtain ⟨w1, p1, s1, n1, th1⟩ := hW.cutI_facts hct
    have hqt := th1 q hpt
    have hbool := w1.linkB_iff p1 hqt
    have hszr := w1.size_root p1
    have hsz := w1.size_le hqt
    have hmv := hide (w1.move_facts p1 hqt)
    rw [n1, hTn] at hsz
    obtain ⟨hsz0, hsz1⟩ := hsz
    rw [s1] at hszr hmv
    clear hth hct hpt hTn th1 hqt n1 s1 hW
    have HWF := hide (And.intro w1 p1)
    clear w1 p1
    have HEX : Hid (∃ s, T.subI c = s) := ⟨_, rfl⟩
    obtain ⟨s, hs⟩ := HEX.out
    rw [hs] at hsb0 hsb1 hszr hmv
    obtain ⟨sc, ss, sa, sb⟩ := s
    clear HEX
    dsimp only at *
    generalize hT1 : T.cutI c = T1 at *
    have HEX : Hid (∃ z, T1.sizeI q = z) := ⟨_, rfl⟩
    obtain ⟨sz, hz⟩ := HEX.out
    rw [hz] at hsz0 hsz1 hmv
    clear HEX
    refine ((unhide H0).call fun _ ha => aSub _ ha).mono ?_
    rw [hs, fh]
    dsimp only
    rintro e W1 ⟨rfl, h, k⟩
    have H1 := hide h
    clear h k H0
    go_wp2_with fail
    refine ((unhide H1).call fun _ ha => aCut _ ha).mono ?_
    rw [hT1]
    rintro e W2 ⟨rfl, h, k⟩
    have H2 := hide h
    clear h k H1
    cases hb : T1.sameI c q
    · rw [hb] at hbool
      obtain ⟨m1, m2, m3, m4, m5, m6⟩ := unhide hmv hb
      have hbool' : T1.linkB c q = true := hbool
      clear hmv hbool
      generalize T1.link c q = T2 at *
      go_wp2_with fail
      refine ((unhide H2).call fun _ ha => aSame _ _ ha).mono ?_
      rw [hb]
      rintro e W3 ⟨rfl, h, k⟩
      have H3 := hide h
      clear h k H2
      go_wp2_with fail
      refine ((unhide H3).call fun _ ha => aSize _ ha).mono ?_
      rw [hz]
      rintro e W4 ⟨rfl, h, k⟩
      have H4 := hide h
      clear h k H3
      go_wp2_with fail
      refine ((unhide H4).call fun _ ha => aLink _ _ ha).mono ?_
      rw [hbool', m1]
      rintro e W5 ⟨rfl, h, k⟩
      have H5 := hide h
      clear h k H4
      go_wp2_with fail
      refine ((unhide H5).call fun _ ha => aSub _ ha).mono ?_
      rw [m2, m6]
      dsimp only
      rintro e W6 ⟨rfl, h, k⟩
      have H6 := hide h
      clear h k H5
      go_wp2_with fail
      refine (awake_any _).mono ?_
      rintro e W7 ⟨rfl, hb⟩
      obtain ⟨h, k⟩ := (unhide H6).below hb
      have H7 := hide h
      clear h k hb H6
      go_wp2_with fail
      refine ((unhide H7).call fun _ ha => aParent _ ha).mono ?_
      rw [m3]
      rintro e W8 ⟨rfl, h, k⟩
      have H8 := hide h
      clear h k H7
      go_wp2_with fail
      refine ((unhide H8).call fun _ ha => aSize _ ha).mono ?_
      rw [m4]
      rintro e W9 ⟨rfl, h, k⟩
      have H9 := hide h
      clear h k H8
      go_wp2_with fail
      refine ((unhide H9).call fun _ ha => aLca _ _ ha).mono ?_
      rw [m5]
      rintro e W10 ⟨rfl, h, k⟩
      have H10 := hide h
      clear h k H9
      go_wp2_with fail
      refine ((unhide H10).call fun _ ha => aCheck ha).mono ?_
      rintro e W11 ⟨rfl, h, k⟩
      have H11 := hide h
      clear h k H10
      go_wp2
      go_ret
      exact ⟨rfl, (unhide H11).bel⟩
    · rw [hb] at hbool
      have hbool' : T1.linkB c q = false := hbool
      have m1 : T1.linkI c q = T1 := linkI_no hbool'
      clear hmv hbool
      go_wp2_with fail
      refine ((unhide H2).call fun _ ha => aSame _ _ ha).mono ?_
      rw [hb]
      rintro e W3 ⟨rfl, h, k⟩
      have H3 := hide h
      clear h k H2
      go_wp2_with fail
      refine ((unhide H3).call fun _ ha => aSize _ ha).mono ?_
      rw [hz]
      rintro e W4 ⟨rfl, h, k⟩
      have H4 := hide h
      clear h k H3
      go_wp2_with fail
      refine ((unhide H4).call fun _ ha => aLink _ _ ha).mono ?_
      rw [hbool', m1]
      rintro e W5 ⟨rfl, h, k⟩
      have H5 := hide h
      clear h k H4
      go_wp2_with fail
      refine (awake_any _).mono ?_
      rintro e W6 ⟨rfl, hb⟩
      obtain ⟨h, k⟩ := (unhide H5).below hb
      have H6 := hide h
      clear h k hb H5
      go_wp2_with fail
      refine ((unhide H6).call fun _ ha => aSize _ ha).mono ?_
      rw [hszr]
      rintro e W7 ⟨rfl, h, k⟩
      have H7 := hide h
      clear h k H6
      go_wp2
      go_ret
      exact ⟨rfl, (unhide H7).bel⟩
end Go.Proofs.Ytjnkgakajenoaaa

/- PlainOrders: the links made from the last one on. -/
import Derived.Test.YtjnkgakajenoaaaL11
import Derived.Test.YtjnkgakajenoaaaL12
namespace Go.Proofs.Ytjnkgakajenoaaa
open Go.RowKit Go.Arb
set_option linter.unusedVariables false
set_option linter.unusedSimpArgs false

set_option maxRecDepth 100000 in
set_option maxHeartbeats 4000000 in
theorem orders_walk (x y : Option Addr) (lx cx ly cy : Nat) (us ws : List Int) (at0 at1 : Int) (hat0 : 0 ≤ at0) (hat1 : at0 ≤ 255) (hbt0 : 0 ≤ at1) (hbt1 : at1 ≤ 255) (w : World) (hx : IRow .u8 w x lx us) (hy : IRow .i16 w y ly ws) (hlx : lx ≤ maxLen) (hly : ly ≤ maxLen) :
    Calls Try.prog 13 #[.slice x lx cx, .slice y ly cy, .agg #[.int .u8 at0, .int .u8 at1]] w fun e w' => e = .returned (.bool true) ∧ Below w.heap.size w w' := by
  have hbx := hide ((Below.refl w.heap.size w).alloc (Nat.le_refl _) (.cells #[.int .u8 at0, .int .u8 at1] 58))
  have X := hide (BoxAt.new w #[.int .u8 at0, .int .u8 at1] 58)
  have hbsz : w.heap.size < (w.alloc (.cells #[.int .u8 at0, .int .u8 at1] 58)).heap.size := by simp
  have LF := hide (upF_low (us := us) fun z hz => (bounds_u8 (hx.2.2 z hz)).1)
  have WF := hide (wF_fit (ws := ws) fun z hz => bounds_i16 (hy.2.2 z hz))
  have HX := hide hx
  have HY := hide hy
  have HLL := hide (And.intro hlx hly)
  have hlx' := hlx
  unfold maxLen at hlx'
  clear hx hy hlx hly
  have HEN : Hid (∃ n, min lx 30 = n) := ⟨_, rfl⟩
  obtain ⟨n, hnn⟩ := HEN.out
  have hn : n ≤ 30 := by omega
  have hnl : n ≤ lx := by omega
  have hmn : (lx ≤ 30 ∧ n = lx) ∨ (30 < lx ∧ n = 30) := by omega
  have HNN := hide (And.intro hnn hmn)
  clear hnn hmn HEN
  go_enter Try.func13, Try.ntmps13
  go_upto_region 1 with fail
  go_cut [7] (fun a w' => a = .int .i64 (n : Int) ∧ w' = w.alloc (.cells #[.int .u8 at0, .int .u8 at1] 58))
  case first =>
    rcases (unhide HNN).2 with ⟨h1, h2⟩ | ⟨h1, h2⟩
    · have h3 : (lx : Int) ≤ 30 := by omega
      have h4 : ¬ (30 : Int) < (lx : Int) := by omega
      have H2 := hide h2
      clear h2
      go_wp2
      go_meet
      exact ⟨by rw [unhide H2], rfl⟩
    · have h3 : ¬ (lx : Int) ≤ 30 := by omega
      have h4 : (30 : Int) < (lx : Int) := by omega
      have H2 := hide h2
      clear h2
      go_wp2
      go_meet
      exact ⟨by rw [unhide H2]; rfl, rfl⟩
  obtain ⟨rfl, hwc⟩ := hcut
  subst hwc
  go_wp2_with fail
  refine (grown_any (w := w) (js := [w.heap.size]) n x y lx cx ly cy us ws (w.alloc (.cells #[.int .u8 at0, .int .u8 at1] 58)) (unhide hbx) (by simp) (by omega) hnl (unhide HX) (unhide HY) (unhide HLL).2 (unhide HLL).1).mono ?_
  rintro e W0 ⟨p, rfl, h, kk⟩
  replace X := hide ((unhide X).kept kk (by simp))
  have H0 := hide h
  clear h kk HLL HNN hbx hbsz
  go_wp2_with fail
  refine (o2New (unhide H0) n (by omega)).mono ?_
  rintro e W1 ⟨q, rfl, h, kk⟩
  replace X := hide ((unhide X).kept kk (by simp))
  have H1 := hide h
  clear h kk H0
  by_cases hn0 : n = 0
  · subst hn0
    go_wp2_with fail
    refine (awake_any _).mono ?_
    rintro e W2 ⟨rfl, hb⟩
    obtain ⟨h, k⟩ := (unhide H1).below At.lies hb
    have H2 := hide h
    clear h k hb H1
    go_wp2
    go_ret
    exact ⟨rfl, (unhide H2).bel⟩
  · obtain ⟨a, rfl⟩ := Int.eq_ofNat_of_zero_le hat0
    obtain ⟨b, rfl⟩ := Int.eq_ofNat_of_zero_le hbt0
    have hnz : ((n : Int) == 0) = false := by rw [beq_eq_false_iff_ne]; omega
    have hca : a % n < n := Nat.mod_lt _ (by omega)
    have hcb : b % n < n := Nat.mod_lt _ (by omega)
    have HF : Hid (∃ F, gr n n (upF us) (wF ws) = F) := ⟨_, rfl⟩
    obtain ⟨F, hF⟩ := HF.out
    clear HF
    rw [hF, ← gr_new (n := n) (f := fun _ => -1) (g := wF ws)] at H1
    have HF := hide hF
    clear hF
    go_wp2
    go_loopw [10] (fun i w' => ∃ m : Nat, m ≤ n ∧ i = .int .i64 (m : Int) ∧ Hid (Ob2 At w w' p q F (gr n m (fun _ => -1) (wF ws)) [w.heap.size]) ∧ Hid (BoxAt w' w.heap.size #[.int .u8 (a : Int), .int .u8 (b : Int)] 58)) (fun i _ => n - (intOf i).toNat)
    case atStart => exact ⟨0, by omega, rfl, H1, X⟩
    case round =>
      clear X H1
      obtain ⟨m, hm, rfl, H0, X⟩ := hrel
      by_cases hlt : m < n
      · have e1 : (m : Int) < (n : Int) := by omega
        have f1 : F.getI m = wF ws m := by rw [← unhide HF]; exact gr_getI (unhide LF) hlt
        have hfit : fitB (wF ws m) = true := by
          have := unhide WF m
          simp [fitB]; omega
        have f2 := gr_addB (n := n) (m := m) (f := fun _ => -1) (g := wF ws) all_low hlt hfit
        have t2 : (gr n m (fun _ => -1) (wF ws)).addI m (wF ws m) = gr n (m + 1) (fun _ => -1) (wF ws) := by rw [addI_yes f2]; exact gr_add.trans all_root
        generalize wF ws m = z at *
        generalize F.hasI m = hb at *
        go_wp2_with fail
        refine ((unhide H0).fst At.lies fun _ ha => aGet _ ha).mono ?_
        rw [f1]
        rintro e W1 ⟨rfl, h, k⟩
        have H1 := hide h
        replace X := hide ((unhide X).kept k (by simp))
        clear h k H0
        go_wp2_with fail
        refine ((unhide H1).snd At.lies fun _ ha => aAdd _ _ ha).mono ?_
        rw [f2, t2]
        rintro e W2 ⟨rfl, h, k⟩
        have H2 := hide h
        replace X := hide ((unhide X).kept k (by simp))
        clear h k H1
        go_wp2
        go_roundw
        case rel => exact ⟨m + 1, by omega, by go_num, H2, X⟩
        case measure => simp [intOf]; omega
      · obtain rfl : m = n := by omega
        have hge : ¬ (m : Int) < (m : Int) := by omega
        rw [hiF_top (upF us) (wF ws)] at H0
        go_wp2
        go_loopw [13] (fun i w' => ∃ j : Nat, j < m ∧ i = .int .i64 (j : Int) ∧ Hid (Ob2 At w w' p q F (gr m m (hiF (upF us) j) (wF ws)) [w.heap.size]) ∧ Hid (BoxAt w' w.heap.size #[.int .u8 (a : Int), .int .u8 (b : Int)] 58)) (fun i _ => (intOf i).toNat)
        case atStart => exact ⟨m - 1, by omega, by go_num, H0, X⟩
        case round =>
          clear X H0
          obtain ⟨j, hj, rfl, H0, X⟩ := hrel
          by_cases hj0 : j = 0
          · subst hj0
            rw [show (((0 : Nat) : Int)) = (0 : Int) from rfl]
            have hF2 : gr m m (hiF (upF us) 0) (wF ws) = F := by rw [hiF_zero (show upF us 0 = -1 by simp [upF])]; exact unhide HF
            rw [hF2] at H0
            obtain ⟨d0, _⟩ := (unhide X).cell (o := 0) rfl
            obtain ⟨d1, _⟩ := (unhide X).cell (o := 1) rfl
            clear hF2
            go_wp2
            go_quiet (fail)
            clear d0 d1 X
            replace H0 := hide (((unhide H0).drewN At.lies nq).less (is := []) (by simp))
            go_wp2
            rw [show ((a : Int) % (m : Int)) = ((a % m : Nat) : Int) from rfl, show ((b : Int) % (m : Int)) = ((b % m : Nat) : Int) from rfl]
            generalize a % m = a' at *
            generalize b % m = b' at *
            go_loopw [16] (fun i w' => ∃ c : Nat, c ≤ m ∧ i = .int .i64 (c : Int) ∧ Hid (Ob2 At w w' p q F F [])) (fun i _ => m - (intOf i).toNat)
            case atStart => exact ⟨0, by omega, rfl, H0⟩
            case round =>
              clear H0
              obtain ⟨c, hc, rfl, H0⟩ := hrel
              by_cases hlt' : c < m
              · have e1 : (c : Int) < (m : Int) := by omega
                have HEX : Hid (∃ s, F.subI c = s) := ⟨_, rfl⟩
                obtain ⟨s, hs⟩ := HEX.out
                obtain ⟨sc, ss, sa, sb⟩ := s
                have HEX2 : Hid (∃ z, F.sizeI c = z) := ⟨_, rfl⟩
                obtain ⟨sz, hz⟩ := HEX2.out
                have HEX3 : Hid (∃ z, F.parI c = z) := ⟨_, rfl⟩
                obtain ⟨pz, hp⟩ := HEX3.out
                have HEX4 : Hid (∃ z, F.rootI c = z) := ⟨_, rfl⟩
                obtain ⟨rz, hr⟩ := HEX4.out
                have HEX5 : Hid (∃ z, F.hasI c = z) := ⟨_, rfl⟩
                obtain ⟨hz2, hh⟩ := HEX5.out
                clear HEX HEX2 HEX3 HEX4 HEX5
                go_wp2_with fail
                refine ((unhide H0).fst At.lies fun _ ha => aSub _ ha).mono ?_
                rw [hs, hh]
                dsimp only
                rintro e W1 ⟨rfl, h, k⟩
                have H1 := hide h
                clear h k H0
                go_wp2_with fail
                refine ((unhide H1).snd At.lies fun _ ha => aSub _ ha).mono ?_
                rw [hs, hh]
                dsimp only
                rintro e W2 ⟨rfl, h, k⟩
                have H2 := hide h
                clear h k H1
                go_wp2_with fail
                refine ((unhide H2).fst At.lies fun _ ha => aParent _ ha).mono ?_
                rw [hp]
                rintro e W3 ⟨rfl, h, k⟩
                have H3 := hide h
                clear h k H2
                go_wp2_with fail
                refine ((unhide H3).snd At.lies fun _ ha => aParent _ ha).mono ?_
                rw [hp]
                rintro e W4 ⟨rfl, h, k⟩
                have H4 := hide h
                clear h k H3
                go_wp2_with fail
                refine ((unhide H4).fst At.lies fun _ ha => aRoot _ ha).mono ?_
                rw [hr]
                rintro e W5 ⟨rfl, h, k⟩
                have H5 := hide h
                clear h k H4
                go_wp2_with fail
                refine ((unhide H5).snd At.lies fun _ ha => aRoot _ ha).mono ?_
                rw [hr]
                rintro e W6 ⟨rfl, h, k⟩
                have H6 := hide h
                clear h k H5
                go_wp2_with fail
                refine ((unhide H6).fst At.lies fun _ ha => aSize _ ha).mono ?_
                rw [hz]
                rintro e W7 ⟨rfl, h, k⟩
                have H7 := hide h
                clear h k H6
                go_wp2_with fail
                refine ((unhide H7).snd At.lies fun _ ha => aSize _ ha).mono ?_
                rw [hz]
                rintro e W8 ⟨rfl, h, k⟩
                have H8 := hide h
                clear h k H7
                clear hs hh hp hr hz
                go_wp2
                go_roundw
                case rel => exact ⟨c + 1, by omega, by go_num, H8⟩
                case measure => simp [intOf]; omega
              · have hge2 : ¬ (c : Int) < (m : Int) := by omega
                have HEX : Hid (∃ s, F.pathI a' b' = s) := ⟨_, rfl⟩
                obtain ⟨s, hs⟩ := HEX.out
                obtain ⟨sc, ss, sa, sb⟩ := s
                have HEX2 : Hid (∃ z, F.lcaI a' b' = z) := ⟨_, rfl⟩
                obtain ⟨lz, hz⟩ := HEX2.out
                have HEX5 : Hid (∃ z, F.sameI a' b' = z) := ⟨_, rfl⟩
                obtain ⟨bz, hh⟩ := HEX5.out
                clear HEX HEX2 HEX5
                go_wp2_with fail
                refine ((unhide H0).fst At.lies fun _ ha => aPath _ _ ha).mono ?_
                rw [hs, hh]
                unfold smV
                dsimp only
                rintro e W1 ⟨rfl, h, k⟩
                have H1 := hide h
                clear h k H0
                have S1 := hide (SumAt.new W1 34 sc ss sa sb)
                replace H1 := hide ((unhide H1).push At.lies (.cells #[.int .i64 sc, .int .i64 ss, .int .i64 sa, .int .i64 sb] 34))
                go_wp2_with fail
                generalize W1.alloc (.cells #[.int .i64 sc, .int .i64 ss, .int .i64 sa, .int .i64 sb] 34) = WW1 at *
                generalize W1.heap.size = b1 at *
                refine ((unhide H1).snd At.lies fun _ ha => aPath _ _ ha).mono ?_
                rw [hs, hh]
                unfold smV
                dsimp only
                rintro e W2 ⟨rfl, h, k⟩
                have H2 := hide h
                replace S1 := hide ((unhide S1).kept k (by simp))
                clear h k H1
                have S2 := hide (SumAt.new W2 34 sc ss sa sb)
                replace S1 := hide ((unhide S1).kept ((unhide H2).alloc At.lies (.cells #[.int .i64 sc, .int .i64 ss, .int .i64 sa, .int .i64 sb] 34)).2 (by simp))
                replace H2 := hide ((unhide H2).push At.lies (.cells #[.int .i64 sc, .int .i64 ss, .int .i64 sa, .int .i64 sb] 34))
                go_wp2_with fail
                generalize W2.alloc (.cells #[.int .i64 sc, .int .i64 ss, .int .i64 sa, .int .i64 sb] 34) = WW2 at *
                generalize W2.heap.size = b2 at *
                refine (awake_any _).mono ?_
                rintro e W20 ⟨rfl, hb⟩
                obtain ⟨h, k⟩ := (unhide H2).below At.lies hb
                have H20 := hide h
                obtain ⟨⟨q0, q1, q2, q3⟩, _⟩ := (unhide S1).kept k (by simp)
                obtain ⟨⟨r0, r1, r2, r3⟩, _⟩ := (unhide S2).kept k (by simp)
                dsimp only at q0 q1 q2 q3 r0 r1 r2 r3
                clear h k hb H2 S1 S2
                go_wp2_with fail
                refine ((unhide H20).fst At.lies fun _ ha => aLca _ _ ha).mono ?_
                rw [hz]
                rintro e W21 ⟨rfl, h, k⟩
                have H21 := hide h
                clear h k H20
                clear q0 q1 q2 q3 r0 r1 r2 r3
                go_wp2_with fail
                refine ((unhide H21).snd At.lies fun _ ha => aLca _ _ ha).mono ?_
                rw [hz]
                rintro e W22 ⟨rfl, h, k⟩
                have H22 := hide h
                clear h k H21
                go_wp2_with fail
                refine ((unhide H22).snd At.lies fun _ ha => aCheck ha).mono ?_
                rintro e W23 ⟨rfl, h, k⟩
                have H23 := hide h
                clear h k H22
                go_wp2
                go_ret
                exact ⟨by simp, (unhide H23).bel⟩
          · have e1 : (0 : Int) < (j : Int) := by omega
            obtain ⟨bx, ox, rfl, hbx, dx⟩ := (unhide HX).get (unhide H0).bel (i := j) (by omega)
            have hbu := bounds_u8 (getD_wf (unhide HX) (i := j) (show j < lx by omega))
            have hub : Hid (upF us j = if 0 < j ∧ us.getD j 0 % 8 ≠ 0 then us.getD j 0 % (j : Int) else -1) := rfl
            obtain ⟨hb0, hb1⟩ := hbu
            have HEX : Hid (∃ bn : Nat, us.getD j 0 = (bn : Int)) := ⟨(us.getD j 0).toNat, by omega⟩
            obtain ⟨bn, hbn⟩ := HEX.out
            rw [hbn] at dx hub hb1
            clear hb0 hbn HEX
            have e2 : (j : Int) < (lx : Int) := by omega
            have e3 : (0 : Int) ≤ (j : Int) := by omega
            by_cases h8 : bn % 8 = 0
            · have h8' : ((bn : Int) % 8 == 0) = true := by rw [beq_iff_eq]; omega
              have hf : Hid (upF us j = -1) := by show upF us j = -1; rw [unhide hub, if_neg (by omega)]
              clear hub
              go_wp2
              go_roundw
              case rel => exact ⟨j - 1, by omega, by go_num, by rw [← hi_root (by omega) (unhide hf)]; exact H0, X⟩
              case measure => simp [intOf]; omega
            · have h8' : ((bn : Int) % 8 == 0) = false := by rw [beq_eq_false_iff_ne]; omega
              have hf : Hid (upF us j = ((bn % j : Nat) : Int)) := by show upF us j = ((bn % j : Nat) : Int); rw [unhide hub, if_pos (by omega)]; rfl
              have hjm : bn % j < j := Nat.mod_lt _ (by omega)
              have hmz : ((j : Int) == 0) = false := by rw [beq_eq_false_iff_ne]; omega
              have f1 := hi_linkB (g := wF ws) (unhide LF) hj hjm
              have t1 : (gr m m (hiF (upF us) j) (wF ws)).linkI j ((bn % j : Nat) : Int) = gr m m (hiF (upF us) (j - 1)) (wF ws) := by rw [linkI_yes f1]; exact hi_link (by omega) hj (unhide hf)
              clear hub
              go_wp2_with fail
              rw [show ((bn : Int) % (j : Int)) = ((bn % j : Nat) : Int) from rfl]
              refine ((unhide H0).snd At.lies fun _ ha => aLink _ _ ha).mono ?_
              rw [f1, t1]
              rintro e W1 ⟨rfl, h, k⟩
              have H1 := hide h
              replace X := hide ((unhide X).kept k (by simp))
              clear h k H0
              go_wp2
              go_roundw
              case rel => exact ⟨j - 1, by omega, by go_num, H1, X⟩
              case measure => simp [intOf]; omega
end Go.Proofs.Ytjnkgakajenoaaa

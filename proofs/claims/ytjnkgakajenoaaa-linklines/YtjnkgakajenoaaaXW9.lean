/- PlainLines: a line of nodes, and the line turned round. -/
import Derived.Test.YtjnkgakajenoaaaL11
import Derived.Test.YtjnkgakajenoaaaXA8
import Derived.BigRegion
namespace Go.Proofs.Ytjnkgakajenoaaa
open Go.RowKit Go.Arb
set_option linter.unusedVariables false
set_option linter.unusedSimpArgs false

theorem line_add {k m : Nat} (hm : m < k) (hk : k ≤ 60) : (gr k m lineF idI).addB m m = true ∧ (gr k m lineF idI).addI m m = gr k (m + 1) (updF lineF m (-1)) idI := by
  have h1 := gr_addB (g := idI) lineF_low hm (by simp [fitB, idI]; omega)
  exact ⟨h1, by show (gr k m lineF idI).addI m (idI m) = _; rw [addI_yes h1]; exact gr_add⟩
theorem line_link {k m : Nat} (hm : m < k) (h0 : 0 < m) : (gr k (m + 1) (updF lineF m (-1)) idI).linkB m ((m : Int) - 1) = true ∧ (gr k (m + 1) (updF lineF m (-1)) idI).linkI m ((m : Int) - 1) = gr k (m + 1) lineF idI := by
  have h1 := gr_linkB (g := idI) (j := m - 1) lineF_low hm (by omega)
  rw [show ((m : Int) - 1) = ((m - 1 : Nat) : Int) from by omega]
  exact ⟨h1, by rw [linkI_yes h1]; exact gr_link (by unfold lineF; omega)⟩
theorem mul_bd {p q P Q : Int} (h1 : 0 ≤ p) (h2 : p ≤ P) (h3 : 0 ≤ q) (h4 : q ≤ Q) : 0 ≤ p * q ∧ p * q ≤ P * Q :=
  ⟨Int.mul_nonneg h1 h3, Int.mul_le_mul h2 h4 h3 (by omega)⟩
def lnT (k t : Nat) : Tr := if t = 0 then line k else if t = 1 then enil k else (enil k).evertI ((k : Int) - 1)

set_option maxRecDepth 100000 in
set_option maxHeartbeats 4000000 in
theorem lines_walk (n0 at0 at1 : Int) (w : World) (hn0 : 0 ≤ n0) (hn1 : n0 ≤ 255) (hat0 : 0 ≤ at0) (hat1 : at0 ≤ 255) (hbt0 : 0 ≤ at1) (hbt1 : at1 ≤ 255) :
    Calls Try.prog 9 #[.int .u8 n0, .agg #[.int .u8 at0, .int .u8 at1]] w fun e w' => e = .returned (.bool true) ∧ Below w.heap.size w w' := by
  obtain ⟨z, rfl⟩ := Int.eq_ofNat_of_zero_le hn0
  obtain ⟨x, rfl⟩ := Int.eq_ofNat_of_zero_le hat0
  obtain ⟨y, rfl⟩ := Int.eq_ofNat_of_zero_le hbt0
  have hbx := hide ((Below.refl w.heap.size w).alloc (Nat.le_refl _) (.cells #[.int .u8 (x : Int), .int .u8 (y : Int)] 58))
  have X := hide (BoxAt.new w #[.int .u8 (x : Int), .int .u8 (y : Int)] 58)
  have hsz : w.heap.size < (w.alloc (.cells #[.int .u8 (x : Int), .int .u8 (y : Int)] 58)).heap.size := by simp
  go_enter Try.func9, Try.ntmps9
  go_wp2_with fail
  rw [show (1 + (z : Int) % 60) = ((1 + z % 60 : Nat) : Int) from by omega]
  have hk : 0 < 1 + z % 60 := by omega
  have hk1 : 1 + z % 60 ≤ 60 := by omega
  generalize 1 + z % 60 = k at *
  generalize w.alloc (.cells #[.int .u8 (x : Int), .int .u8 (y : Int)] 58) = WB at *
  refine (oNew (js := [w.heap.size]) k WB (unhide hbx) (by simpa using hsz) (by omega)).mono ?_
  rintro e W0 ⟨p, rfl, h, kk⟩
  rw [← gr_new (f := lineF) (g := idI)] at h
  replace X := hide ((unhide X).kept kk (by simp))
  have H0 := hide h
  clear h kk hbx hsz
  go_wp2
  go_loopw [7] (fun i w' => ∃ m : Nat, m ≤ k ∧ i = .int .i64 (m : Int) ∧ Hid (Ob w w' p (gr k m lineF idI) [w.heap.size]) ∧ Hid (BoxAt w' w.heap.size #[.int .u8 (x : Int), .int .u8 (y : Int)] 58)) (fun i _ => k - (intOf i).toNat)
  case atStart => exact ⟨0, by omega, rfl, H0, X⟩
  case round =>
    clear H0 X
    obtain ⟨m, hm, rfl, H0, X⟩ := hrel
    by_cases hlt : m < k
    · have e1 : (m : Int) < (k : Int) := by omega
      obtain ⟨f1, t1⟩ := line_add hlt hk1
      by_cases hm0 : m = 0
      · have e2 : ¬ (0 : Int) < (m : Int) := by omega
        have HM := hide hm0
        clear hm0
        go_wp2_with fail
        refine ((unhide H0).call fun _ ha => aAdd _ _ ha).mono ?_
        rw [f1, t1]
        rintro e W1 ⟨rfl, h, k⟩
        have H1 := hide h
        replace X := hide ((unhide X).kept k (by simp))
        clear h k H0
        go_wp2
        go_roundw
        case rel => exact ⟨m + 1, by omega, by go_num, by rw [← gr_root (show lineF m = -1 by rw [unhide HM]; rfl)]; exact H1, X⟩
        case measure => simp [intOf]; omega
      · have e2 : (0 : Int) < (m : Int) := by omega
        obtain ⟨f2, t2⟩ := line_link hlt (by omega)
        go_wp2_with fail
        refine ((unhide H0).call fun _ ha => aAdd _ _ ha).mono ?_
        rw [f1, t1]
        rintro e W1 ⟨rfl, h, k⟩
        have H1 := hide h
        replace X := hide ((unhide X).kept k (by simp))
        clear h k H0
        go_wp2_with fail
        refine ((unhide H1).call fun _ ha => aLink _ _ ha).mono ?_
        rw [f2, t2]
        rintro e W2 ⟨rfl, h, k⟩
        have H2 := hide h
        replace X := hide ((unhide X).kept k (by simp))
        clear h k H1
        go_wp2
        go_roundw
        case rel => exact ⟨m + 1, by omega, by go_num, H2, X⟩
        case measure => simp [intOf]; omega
    · have e1 : ¬ (m : Int) < (k : Int) := by omega
      obtain rfl : m = k := by omega
      have hu : x % m < m := Nat.mod_lt _ hk
      have hv : y % m < m := Nat.mod_lt _ hk
      obtain ⟨d0, _⟩ := (unhide X).cell (o := 0) rfl
      obtain ⟨d1, _⟩ := (unhide X).cell (o := 1) rfl
      have hmz : ((m : Int) == 0) = false := by rw [beq_eq_false_iff_ne]; omega
      have HUX := hide (show ((x : Int) % (m : Int)) = ((x % m : Nat) : Int) ∧ ((y : Int) % (m : Int)) = ((y % m : Nat) : Int) from ⟨rfl, rfl⟩)
      generalize x % m = u at *
      generalize y % m = v at *
      have HEX : Hid (∃ a b, a = min u v ∧ b = max u v) := ⟨_, _, rfl, rfl⟩
      obtain ⟨a, b, hamin, hbmax⟩ := HEX.out
      clear HEX
      have hab : a ≤ b := by omega
      have hbm : b < m := by omega
      have HAB := hide (And.intro hamin hbmax)
      clear hamin hbmax
      go_upto_region 10 with fail
      go_cut [8, 9] (fun s t w' => s = .int .i64 (a : Int) ∧ t = .int .i64 (b : Int) ∧ ∃ n, w' = wr.drewN n)
      case first =>
        go_quiet (fail)
        go_wp2
        all_goals
          go_meet
          obtain ⟨hamin, hbmax⟩ := unhide HAB
          obtain ⟨hx9, hy9⟩ := unhide HUX
          refine ⟨?_, ?_, nq, rfl⟩
          · congr 1
            omega
          · congr 1
            omega
      obtain ⟨rfl, rfl, nn, hwc⟩ := hcut
      have S0 := line_path hab hbm
      have S1 := enil_path hab hbm
      have s1 := line_root (k := m) (a := a) (by omega)
      have s2 := line_size hbm
      have s3 := line_sub hbm
      have s4 := enil_root (k := m) (a := a) (by omega)
      have s5 := enil_size hbm
      have s6 := enil_sub (k := m) (a := a) (by omega)
      have s7 := Tr.hasI_there (line_all hbm)
      have s8 := Tr.hasI_there (enil_all (k := m) (u := a) hk (by omega))
      have s9 : (line m).hasI ((m : Int) - 1) = true := by rw [show ((m : Int) - 1) = ((m - 1 : Nat) : Int) from by omega]; exact Tr.hasI_there (line_all (by omega))
      have s10 : (enil m).hasI ((m : Int) - 1) = true := by rw [show ((m : Int) - 1) = ((m - 1 : Nat) : Int) from by omega]; exact Tr.hasI_there (enil_all hk (by omega))
      have s11 : (line m).evertI ((m : Int) - 1) = enil m := by
        rw [evertI_yes s9]
        congr 1
        omega
      obtain ⟨⟨g1, g2, g3, g4⟩, g5, g6⟩ := S0
      obtain ⟨⟨i1, i2, i3, i4⟩, i5, i6⟩ := S1
      have HEX : Hid (∃ s, (line m).pathI b a = s) := ⟨_, rfl⟩
      obtain ⟨⟨pc, S, pa, pb⟩, hp⟩ := HEX.out
      rw [hp] at g1 g2 g3 g4
      clear HEX
      have HEX : Hid (∃ s, (enil m).pathI b a = s) := ⟨_, rfl⟩
      obtain ⟨⟨qc, S', qa, qb⟩, hq⟩ := HEX.out
      rw [hq] at i1 i2 i3 i4
      clear HEX
      dsimp only at g1 g2 g3 g4 i1 i2 i3 i4
      have hSS : S' = S := by omega
      subst hSS
      subst g1 g3 g4 i1 i3 i4
      clear i2
      have HEX : Hid (∃ s, (line m).subI b = s) := ⟨_, rfl⟩
      obtain ⟨⟨tc, Y, ta, tb⟩, ht⟩ := HEX.out
      rw [ht] at s3
      clear HEX
      have HEX : Hid (∃ s, (enil m).subI a = s) := ⟨_, rfl⟩
      obtain ⟨⟨vc, Z, va, vb⟩, hv2⟩ := HEX.out
      rw [hv2] at s6
      clear HEX
      dsimp only at s3 s6
      obtain ⟨j1, j2⟩ := s3
      obtain ⟨j3, j4⟩ := s6
      subst j1 j3
      have b1 := mul_bd (p := (a : Int) + b) (q := (b : Int) - a + 1) (P := 120) (Q := 60) (by omega) (by omega) (by omega) (by omega)
      have b2 := mul_bd (p := (b : Int) + m - 1) (q := (m : Int) - b) (P := 120) (Q := 60) (by omega) (by omega) (by omega) (by omega)
      have b3 := mul_bd (p := (a : Int)) (q := (a : Int) + 1) (P := 60) (Q := 61) (by omega) (by omega) (by omega) (by omega)
      have bS0 : 0 ≤ S' := by omega
      have bS1 : S' ≤ 4000 := by omega
      have bY0 : 0 ≤ Y := by omega
      have bY1 : Y ≤ 4000 := by omega
      have bZ0 : 0 ≤ Z := by omega
      have bZ1 : Z ≤ 4000 := by omega
      have P1 := hide g2.symm
      have P2 := hide j2.symm
      have P3 := hide j4.symm
      clear g2 j2 j4 b1 b2 b3 HAB HUX hu hv d0 d1 hmz
      replace H0 := hide ((unhide H0).drewN nn)
      clear X
      subst hwc
      generalize wr.drewN nn = W at *
      replace H0 : Hid (Ob w W p (lnT m 0) []) := (unhide H0).less (by simp)
      go_upto_region 11 with fail
      go_cut [10] (fun q w' => q = .pointer (some ⟨W.heap.size, 0, none⟩) ∧ w' = W.alloc (.cells #[.int .i64 ((b : Int) - a + 1), .int .i64 S', .int .i64 (a : Int), .int .i64 (b : Int)] 34))
      case first =>
        have P1' := unhide P1
        go_wp2
        go_meet
        exact ⟨rfl, rfl⟩
      obtain ⟨rfl, hwc⟩ := hcut
      have SW := hide (SumAt.new W 34 ((b : Int) - a + 1) S' (a : Int) (b : Int))
      replace H0 := hide ((unhide H0).push (.cells #[.int .i64 ((b : Int) - a + 1), .int .i64 S', .int .i64 (a : Int), .int .i64 (b : Int)] 34))
      subst hwc
      generalize W.alloc (.cells #[.int .i64 ((b : Int) - a + 1), .int .i64 S', .int .i64 (a : Int), .int .i64 (b : Int)] 34) = WW at *
      generalize W.heap.size = bw at *
      clear P1
      have F1 := hide (And.intro hp (And.intro g5 (And.intro g6 (And.intro ht (And.intro s7 (And.intro s1 (And.intro s2 (And.intro s9 s11))))))))
      have F2 := hide (And.intro hq (And.intro i5 (And.intro i6 (And.intro hv2 (And.intro s8 (And.intro s4 (And.intro s5 s10)))))))
      clear hp g5 g6 ht s7 s1 s2 s9 s11 hq i5 i6 hv2 s8 s4 s5 s10
      go_wp2
      go_loopw [11] (fun i w' => ∃ t : Nat, t ≤ 2 ∧ i = .int .i64 (t : Int) ∧ Hid (Ob w w' p (lnT m t) [bw]) ∧ Hid (SumAt w' bw ⟨(b : Int) - a + 1, S', a, b⟩)) (fun i _ => 2 - (intOf i).toNat)
      case atStart => exact ⟨0, by omega, rfl, H0, SW⟩
      case round =>
        clear H0 SW
        obtain ⟨t, ht2, rfl, H0, SW⟩ := hrel
        by_cases hlt2 : t < 2
        · have e3 : (t : Int) < 2 := by omega
          by_cases ht0 : t = 0
          · have e4 : ((t : Int) == 1) = false := by rw [beq_eq_false_iff_ne]; omega
            have HT := hide ht0
            replace H0 : Hid (Ob w wr p (line m) [bw]) := by rw [ht0] at H0; exact H0
            clear ht0
            obtain ⟨hp, g5, g6, ht, s7, s1, s2, s9, s11⟩ := unhide F1
            clear F1 F2
            generalize hL : line m = L at *
            generalize hE : enil m = E at *
            have HLE := hide (And.intro hL hE)
            clear hL hE
            go_wp2_with fail
            refine ((unhide H0).call fun _ ha => aPath _ _ ha).mono ?_
            rw [hp, g5]
            unfold smV
            dsimp only
            rintro e W1 ⟨rfl, h, k⟩
            have H1 := hide h
            replace SW := hide ((unhide SW).kept k (by simp))
            clear h k H0
            have P2' := unhide P2
            have SV := hide (SumAt.new W1 34 ((b : Int) - a + 1) S' (a : Int) (b : Int))
            replace SW := hide ((unhide SW).kept (kept_alloc (unhide H1) (.cells #[.int .i64 ((b : Int) - a + 1), .int .i64 S', .int .i64 (a : Int), .int .i64 (b : Int)] 34)) (by simp))
            replace H1 := hide ((unhide H1).push (.cells #[.int .i64 ((b : Int) - a + 1), .int .i64 S', .int .i64 (a : Int), .int .i64 (b : Int)] 34))
            go_wp2_with fail
            generalize W1.alloc (.cells #[.int .i64 ((b : Int) - a + 1), .int .i64 S', .int .i64 (a : Int), .int .i64 (b : Int)] 34) = WW1 at *
            generalize W1.heap.size = bv at *
            try rw [show ((a : Int) + b - a) = b from by omega]
            clear P2'
            refine ((unhide H1).call fun _ ha => aSub _ ha).mono ?_
            rw [ht, s7]
            dsimp only
            rintro e W2 ⟨rfl, h, k⟩
            have H2 := hide h
            replace SW := hide ((unhide SW).kept k (by simp))
            replace SV := hide ((unhide SV).kept k (by simp))
            clear h k H1
            obtain ⟨⟨q0, q1, q2, q3⟩, _⟩ := unhide SV
            obtain ⟨⟨r0, r1, r2, r3⟩, _⟩ := unhide SW
            dsimp only at q0 q1 q2 q3 r0 r1 r2 r3
            go_wp2_with fail
            refine ((unhide H2).call fun _ ha => aLca _ _ ha).mono ?_
            rw [g6]
            rintro e W3 ⟨rfl, h, k⟩
            have H3 := hide h
            replace SW := hide ((unhide SW).kept k (by simp))
            replace SV := hide ((unhide SV).kept k (by simp))
            clear h k H2
            clear q0 q1 q2 q3 r0 r1 r2 r3
            go_wp2_with fail
            refine ((unhide H3).call fun _ ha => aRoot _ ha).mono ?_
            rw [s1]
            rintro e W4 ⟨rfl, h, k⟩
            have H4 := hide h
            replace SW := hide ((unhide SW).kept k (by simp))
            replace SV := hide ((unhide SV).kept k (by simp))
            clear h k H3
            go_wp2_with fail
            refine ((unhide H4).call fun _ ha => aSize _ ha).mono ?_
            rw [s2]
            rintro e W5 ⟨rfl, h, k⟩
            have H5 := hide h
            replace SW := hide ((unhide SW).kept k (by simp))
            replace SV := hide ((unhide SV).kept k (by simp))
            clear h k H4
            go_wp2_with fail
            refine ((unhide H5).call fun _ ha => aEvert _ ha).mono ?_
            rw [s9, s11]
            rintro e W6 ⟨rfl, h, k⟩
            have H6 := hide h
            replace SW := hide ((unhide SW).kept k (by simp))
            replace SV := hide ((unhide SV).kept k (by simp))
            clear h k H5
            clear hp g5 g6 ht s7 s1 s2 s9 s11
            go_wp2
            go_roundw
            case rel =>
              refine ⟨t + 1, by omega, by go_num, hide ?_, SW⟩
              have := (unhide H6).less (is := [bw]) (by simp)
              rw [← (unhide HLE).2] at this
              rw [unhide HT]
              exact this
            case measure => simp [intOf]; omega
          · have ht1 : t = 1 := by omega
            have e4 : ((t : Int) == 1) = true := by rw [beq_iff_eq]; omega
            have HT := hide ht1
            replace H0 : Hid (Ob w wr p (enil m) [bw]) := by rw [ht1] at H0; exact H0
            clear ht1 ht0
            obtain ⟨hq, i5, i6, hv2, s8, s4, s5, s10⟩ := unhide F2
            clear F1 F2
            have t10 : Hid ((enil m).evertI ((m : Int) - 1) = lnT m 2) := rfl
            generalize hT2 : (enil m).evertI ((m : Int) - 1) = L at *
            generalize enil m = E at *
            go_wp2_with fail
            refine ((unhide H0).call fun _ ha => aPath _ _ ha).mono ?_
            rw [hq, i5]
            unfold smV
            dsimp only
            rintro e W1 ⟨rfl, h, k⟩
            have H1 := hide h
            replace SW := hide ((unhide SW).kept k (by simp))
            clear h k H0
            have P2' := unhide P2
            have P3' := unhide P3
            have SV := hide (SumAt.new W1 34 ((b : Int) - a + 1) S' (a : Int) (b : Int))
            replace SW := hide ((unhide SW).kept (kept_alloc (unhide H1) (.cells #[.int .i64 ((b : Int) - a + 1), .int .i64 S', .int .i64 (a : Int), .int .i64 (b : Int)] 34)) (by simp))
            replace H1 := hide ((unhide H1).push (.cells #[.int .i64 ((b : Int) - a + 1), .int .i64 S', .int .i64 (a : Int), .int .i64 (b : Int)] 34))
            go_wp2_with fail
            generalize W1.alloc (.cells #[.int .i64 ((b : Int) - a + 1), .int .i64 S', .int .i64 (a : Int), .int .i64 (b : Int)] 34) = WW1 at *
            generalize W1.heap.size = bv at *
            try rw [show ((a : Int) + b - b) = a from by omega]
            clear P2' P3'
            refine ((unhide H1).call fun _ ha => aSub _ ha).mono ?_
            rw [hv2, s8]
            dsimp only
            rintro e W2 ⟨rfl, h, k⟩
            have H2 := hide h
            replace SW := hide ((unhide SW).kept k (by simp))
            replace SV := hide ((unhide SV).kept k (by simp))
            clear h k H1
            obtain ⟨⟨q0, q1, q2, q3⟩, _⟩ := unhide SV
            obtain ⟨⟨r0, r1, r2, r3⟩, _⟩ := unhide SW
            dsimp only at q0 q1 q2 q3 r0 r1 r2 r3
            go_wp2_with fail
            refine ((unhide H2).call fun _ ha => aLca _ _ ha).mono ?_
            rw [i6]
            rintro e W3 ⟨rfl, h, k⟩
            have H3 := hide h
            replace SW := hide ((unhide SW).kept k (by simp))
            replace SV := hide ((unhide SV).kept k (by simp))
            clear h k H2
            clear q0 q1 q2 q3 r0 r1 r2 r3
            go_wp2_with fail
            refine ((unhide H3).call fun _ ha => aRoot _ ha).mono ?_
            rw [s4]
            rintro e W4 ⟨rfl, h, k⟩
            have H4 := hide h
            replace SW := hide ((unhide SW).kept k (by simp))
            replace SV := hide ((unhide SV).kept k (by simp))
            clear h k H3
            go_wp2_with fail
            refine ((unhide H4).call fun _ ha => aSize _ ha).mono ?_
            rw [s5]
            rintro e W5 ⟨rfl, h, k⟩
            have H5 := hide h
            replace SW := hide ((unhide SW).kept k (by simp))
            replace SV := hide ((unhide SV).kept k (by simp))
            clear h k H4
            go_wp2_with fail
            refine ((unhide H5).call fun _ ha => aEvert _ ha).mono ?_
            rw [s10, hT2]
            rintro e W6 ⟨rfl, h, k⟩
            have H6 := hide h
            replace SW := hide ((unhide SW).kept k (by simp))
            replace SV := hide ((unhide SV).kept k (by simp))
            clear h k H5
            clear hq i5 i6 hv2 s8 s4 s5 s10 hT2
            go_wp2
            go_roundw
            case rel =>
              refine ⟨t + 1, by omega, by go_num, hide ?_, SW⟩
              have := (unhide H6).less (is := [bw]) (by simp)
              rw [unhide t10] at this
              rw [unhide HT]
              exact this
            case measure => simp [intOf]; omega
        · have e3 : ¬ (t : Int) < 2 := by omega
          go_wp2_with fail
          refine (awake_any _).mono ?_
          rintro e W1 ⟨rfl, hb⟩
          obtain ⟨h, k⟩ := (unhide H0).below hb
          have H1 := hide h
          clear h k hb H0
          go_wp2_with fail
          refine ((unhide H1).call fun _ ha => aCheck ha).mono ?_
          rintro e W2 ⟨rfl, h, k⟩
          have H2 := hide h
          clear h k H1
          go_wp2
          go_ret
          exact ⟨rfl, (unhide H2).bel⟩
end Go.Proofs.Ytjnkgakajenoaaa

/- ..Raises: the order of raising is of no account. -/
import Derived.Test.YtbkneonbpcmepaaL2
import Derived.Test.YtbkneonbpcmepaaA5
import Derived.BigRegion
namespace Go.Proofs.Ytbkneonbpcmepaa
open Go.RowKit Go.Arb
set_option linter.unusedVariables false
set_option linter.unusedSimpArgs false

set_option maxRecDepth 100000 in
set_option maxHeartbeats 4000000 in
theorem raises_walk (v : Option Addr) (ly cy : Nat) (ws : List Int) (x y x2 y2 : Nat) (d d2 : Int) (hx : x ≤ 65535) (hy : y ≤ 65535) (hx2 : x2 ≤ 65535) (hy2 : y2 ≤ 65535) (hd0 : -32768 ≤ d) (hd1 : d ≤ 32767) (he0 : -32768 ≤ d2) (he1 : d2 ≤ 32767) (w : World) (hv : IRow .i16 w v ly ws) (hly : ly ≤ maxLen) :
    Calls Try.prog 9 #[.slice v ly cy, .agg #[.int .u16 (x : Int), .int .u16 (y : Int), .int .u16 (x2 : Int), .int .u16 (y2 : Int)], .agg #[.int .i16 d, .int .i16 d2]] w fun e w' => e = .returned (.bool true) ∧ Below w.heap.size w w' := by
  have WF := hide (wF_fit (ws := ws) fun z hz => bounds_i16 (hv.2.2 z hz))
  have HY := hide hv
  have HLL := hide hly
  have hly' := hly
  unfold maxLen at hly'
  clear hv hly
  obtain ⟨n, hnn⟩ : ∃ n, min ly 100 = n := ⟨_, rfl⟩
  have hn : n ≤ 100 := by omega
  have hnl : n ≤ ly := by omega
  have hmn : (ly ≤ 100 ∧ n = ly) ∨ (100 < ly ∧ n = 100) := by omega
  have HNN := hide hmn
  have hbx := hide (((Below.refl w.heap.size w).alloc (Nat.le_refl _) (.cells #[.int .u16 (x : Int), .int .u16 (y : Int), .int .u16 (x2 : Int), .int .u16 (y2 : Int)] 54)).alloc (by simp) (.cells #[.int .i16 d, .int .i16 d2] 55))
  have ez : (w.alloc (.cells #[.int .u16 (x : Int), .int .u16 (y : Int), .int .u16 (x2 : Int), .int .u16 (y2 : Int)] 54)).heap.size = w.heap.size + 1 := by simp
  have X := hide (BoxAt.new w #[.int .u16 (x : Int), .int .u16 (y : Int), .int .u16 (x2 : Int), .int .u16 (y2 : Int)] 54)
  have Y := hide (BoxAt.new (w.alloc (.cells #[.int .u16 (x : Int), .int .u16 (y : Int), .int .u16 (x2 : Int), .int .u16 (y2 : Int)] 54)) #[.int .i16 d, .int .i16 d2] 55)
  rw [ez] at Y
  have X' : Hid (BoxAt ((w.alloc (.cells #[.int .u16 (x : Int), .int .u16 (y : Int), .int .u16 (x2 : Int), .int .u16 (y2 : Int)] 54)).alloc (.cells #[.int .i16 d, .int .i16 d2] 55)) w.heap.size #[.int .u16 (x : Int), .int .u16 (y : Int), .int .u16 (x2 : Int), .int .u16 (y2 : Int)] 54) := by
    have hb2 := (Below.refl (w.alloc (.cells #[.int .u16 (x : Int), .int .u16 (y : Int), .int .u16 (x2 : Int), .int .u16 (y2 : Int)] 54)).heap.size (w.alloc (.cells #[.int .u16 (x : Int), .int .u16 (y : Int), .int .u16 (x2 : Int), .int .u16 (y2 : Int)] 54))).alloc (Nat.le_refl _) (.cells #[.int .i16 d, .int .i16 d2] 55)
    exact (hb2.block w.heap.size (by simp)).trans (unhide X)
  have HSZ : Hid (w.heap.size + 1 < ((w.alloc (.cells #[.int .u16 (x : Int), .int .u16 (y : Int), .int .u16 (x2 : Int), .int .u16 (y2 : Int)] 54)).alloc (.cells #[.int .i16 d, .int .i16 d2] 55)).heap.size) := by show _ < _; simp
  clear hnn hmn X ez
  go_enter Try.func9, Try.ntmps9
  go_upto_region 1 with fail
  go_cut [7] (fun a w' => a = .int .i64 (n : Int) ∧ w' = ((w.alloc (.cells #[.int .u16 (x : Int), .int .u16 (y : Int), .int .u16 (x2 : Int), .int .u16 (y2 : Int)] 54)).alloc (.cells #[.int .i16 d, .int .i16 d2] 55)))
  case first =>
    rcases (unhide HNN) with ⟨h1, h2⟩ | ⟨h1, h2⟩
    · have h3 : (ly : Int) ≤ 100 := by omega
      have h4 : ¬ (100 : Int) < (ly : Int) := by omega
      have H2 := hide h2
      clear h2
      go_wp2
      go_meet
      exact ⟨by rw [unhide H2], rfl⟩
    · have h3 : ¬ (ly : Int) ≤ 100 := by omega
      have h4 : (100 : Int) < (ly : Int) := by omega
      have H2 := hide h2
      clear h2
      go_wp2
      go_meet
      exact ⟨by rw [unhide H2]; rfl, rfl⟩
  obtain ⟨rfl, hwc⟩ := hcut
  subst hwc
  clear HNN
  by_cases hn0 : n = 0
  · subst hn0
    go_wp2_with fail
    refine (awake_any _).mono ?_
    rintro e W1 ⟨rfl, hb⟩
    have H1 := hide ((unhide hbx).trans (hb.mono (unhide hbx).size))
    clear hb
    go_wp2
    go_ret
    exact ⟨rfl, unhide H1⟩
  · have q1 : ((n : Int) == 0) = false := by rw [beq_eq_false_iff_ne]; omega
    go_wp2_with fail
    refine (laid_any (w := w) (js := [w.heap.size + 1, w.heap.size]) n v ly cy ws ((w.alloc (.cells #[.int .u16 (x : Int), .int .u16 (y : Int), .int .u16 (x2 : Int), .int .u16 (y2 : Int)] 54)).alloc (.cells #[.int .i16 d, .int .i16 d2] 55)) (unhide hbx) (fun j hj => by have := unhide HSZ; simp only [List.mem_cons, List.not_mem_nil, or_false] at hj; omega) (by omega) (unhide HY) (unhide HLL)).mono ?_
    rintro e W0 ⟨p, rfl, h, kk⟩
    replace X' := hide ((unhide X').kept kk (by simp))
    replace Y := hide ((unhide Y).kept kk (by simp))
    have H0 := hide h
    clear h kk hbx HSZ
    go_wp2_with fail
    refine (o2Laid (unhide H0) n v ly cy ws (by omega) (unhide HY) (unhide HLL)).mono ?_
    rintro e W1 ⟨q, rfl, h, kk⟩
    replace X' := hide ((unhide X').kept kk (by simp))
    replace Y := hide ((unhide Y).kept kk (by simp))
    rw [ln, ln_pos (by omega)] at h
    have H1 := hide h
    clear h kk H0 HLL
    have LM := hide (lim16 (n := n) (unhide WF))
    have HGW : Hid (∀ i, i < n → gW n (wF ws) i = ws.getD i 0) := fun i hi => by rw [gW_in hi]; rfl
    generalize gW n (wF ws) = g at *
    obtain ⟨d0, _⟩ := (unhide X').cell (o := 0) rfl
    obtain ⟨d1, _⟩ := (unhide X').cell (o := 1) rfl
    have hu : x % n < n := Nat.mod_lt _ (by omega)
    have hw' : y % n < n := Nat.mod_lt _ (by omega)
    have HUX := hide (show ((x : Int) % (n : Int)) = ((x % n : Nat) : Int) ∧ ((y : Int) % (n : Int)) = ((y % n : Nat) : Int) from ⟨rfl, rfl⟩)
    generalize x % n = u at *
    generalize y % n = u' at *
    obtain ⟨a, b, hamin, hbmax⟩ : ∃ a b, a = min u u' ∧ b = max u u' := ⟨_, _, rfl, rfl⟩
    have hab : a ≤ b := by omega
    have hbn : b < n := by omega
    have HAB := hide (And.intro hamin hbmax)
    clear hamin hbmax
    go_upto_region 7 with fail
    go_cut [10, 11] (fun s t w' => s = .int .i64 (a : Int) ∧ t = .int .i64 (b : Int) ∧ ∃ n, w' = W1.drewN n)
    case first =>
      go_quiet (fail)
      go_wp2
      all_goals
        go_meet
        obtain ⟨hamin, hbmax⟩ := unhide HAB
        obtain ⟨hx9, hy9⟩ := unhide HUX
        refine ⟨?_, ?_, nq, rfl⟩
        · congr 1
          omega
        · congr 1
          omega
    obtain ⟨rfl, rfl, nn, hwc⟩ := hcut
    obtain ⟨W2, hW2⟩ : ∃ W, wc = W := ⟨_, rfl⟩
    rw [hW2] at hwc ⊢
    clear hW2
    have H2 : Hid (Ob2 At w W2 p q (st n [rg 0 n] g) (st n [rg 0 n] g) [w.heap.size + 1, w.heap.size]) := by rw [hwc]; exact (unhide H1).drewN At.lies nn
    have X2 : Hid (BoxAt W2 w.heap.size #[.int .u16 (x : Int), .int .u16 (y : Int), .int .u16 (x2 : Int), .int .u16 (y2 : Int)] 54) := by rw [hwc]; exact unhide X'
    have Y2 : Hid (BoxAt W2 (w.heap.size + 1) #[.int .i16 d, .int .i16 d2] 55) := by rw [hwc]; exact unhide Y
    clear hwc H1 X' Y d0 d1 HAB HUX hu hw'
    obtain ⟨d0, _⟩ := (unhide X2).cell (o := 2) rfl
    obtain ⟨d1, _⟩ := (unhide X2).cell (o := 3) rfl
    have hu : x2 % n < n := Nat.mod_lt _ (by omega)
    have hw' : y2 % n < n := Nat.mod_lt _ (by omega)
    have HUX := hide (show ((x2 : Int) % (n : Int)) = ((x2 % n : Nat) : Int) ∧ ((y2 : Int) % (n : Int)) = ((y2 % n : Nat) : Int) from ⟨rfl, rfl⟩)
    generalize x2 % n = u at *
    generalize y2 % n = u' at *
    obtain ⟨c, e, hamin, hbmax⟩ : ∃ a b, a = min u u' ∧ b = max u u' := ⟨_, _, rfl, rfl⟩
    have hce : c ≤ e := by omega
    have hen : e < n := by omega
    have HAB := hide (And.intro hamin hbmax)
    clear hamin hbmax
    go_upto_region 8 with fail
    go_cut [12, 13] (fun s t w' => s = .int .i64 (c : Int) ∧ t = .int .i64 (e : Int) ∧ ∃ n, w' = W2.drewN n)
    case first =>
      go_quiet (fail)
      go_wp2
      all_goals
        go_meet
        obtain ⟨hamin, hbmax⟩ := unhide HAB
        obtain ⟨hx9, hy9⟩ := unhide HUX
        refine ⟨?_, ?_, nq, rfl⟩
        · congr 1
          omega
        · congr 1
          omega
    obtain ⟨rfl, rfl, nn, hwc⟩ := hcut
    obtain ⟨W3, hW3⟩ : ∃ W, wc = W := ⟨_, rfl⟩
    rw [hW3] at hwc ⊢
    clear hW3
    have H3 : Hid (Ob2 At w W3 p q (st n [rg 0 n] g) (st n [rg 0 n] g) [w.heap.size + 1, w.heap.size]) := by rw [hwc]; exact (unhide H2).drewN At.lies nn
    have Y3 : Hid (BoxAt W3 (w.heap.size + 1) #[.int .i16 d, .int .i16 d2] 55) := by rw [hwc]; exact unhide Y2
    clear hwc H2 X2 Y2 d0 d1 HAB HUX hu hw'
    obtain ⟨d0, _⟩ := (unhide Y3).cell (o := 0) rfl
    obtain ⟨d1, _⟩ := (unhide Y3).cell (o := 1) rfl
    have wr0 : IntKind.i64.wrap d = d := IntWalk.i64_in _ (by omega)
    have wr1 : IntKind.i64.wrap d2 = d2 := IntWalk.i64_in _ (by omega)
    go_upto_region 9 with fail
    go_cut [14, 15] (fun s t w' => s = .int .i64 d ∧ t = .int .i64 d2 ∧ ∃ n, w' = W3.drewN n)
    case first =>
      go_quiet (fail)
      go_wp2
      all_goals
        go_meet
        exact ⟨rfl, rfl, nq, rfl⟩
    obtain ⟨rfl, rfl, nn, hwc⟩ := hcut
    obtain ⟨W4, hW4⟩ : ∃ W, wc = W := ⟨_, rfl⟩
    rw [hW4] at hwc ⊢
    clear hW4
    have H4 : Hid (Ob2 At w W4 p q (st n [rg 0 n] g) (st n [rg 0 n] g) []) := by rw [hwc]; exact ((unhide H3).drewN At.lies nn).less (by simp)
    clear hwc H3 Y3 d0 d1 wr0 wr1
    obtain ⟨f1, t1⟩ := lift_one (d := d) hab hbn ((unhide LM).wide (by omega)) (by omega) (by omega)
    have L1 := hide (up_lim (d := d) (c' := 32768) hab (unhide LM) (by omega) (by omega) (by omega))
    obtain ⟨f2, t2⟩ := lift_one (d := d2) hce hen ((unhide L1).wide (by omega)) (by omega) (by omega)
    have L2 := hide (up_lim (d := d2) (c' := 32768) hce (unhide L1) (by omega) (by omega) (by omega))
    obtain ⟨f3, t3⟩ := lift_one (d := d2) hce hen ((unhide LM).wide (by omega)) (by omega) (by omega)
    have L3 := hide (up_lim (d := d2) (c' := 32768) hce (unhide LM) (by omega) (by omega) (by omega))
    obtain ⟨f4, t4⟩ := lift_one (d := d) hab hbn ((unhide L3).wide (by omega)) (by omega) (by omega)
    rw [up_comm (W := g) (d := d2) (e := d)] at t4
    obtain ⟨f5, t5⟩ := lift_one (d := -d) hab hbn ((unhide L2).wide (by omega)) (by omega) (by omega)
    rw [up_comm (d := d2) (e := -d), up_back] at t5
    obtain ⟨f6, t6⟩ := lift_one (d := -d2) hce hen ((unhide L3).wide (by omega)) (by omega) (by omega)
    rw [up_back] at t6
    have T5 := hide (And.intro f5 t5)
    have T6 := hide (And.intro f6 t6)
    clear f5 t5 f6 t6 L1 L2 L3
    generalize upW (upW g (rg a (b + 1 - a)) d) (rg c (e + 1 - c)) d2 = g2 at *
    obtain ⟨⟨sc, ss, sa, sb⟩, f7⟩ : ∃ z, (st n [rg 0 n] g2).allI 0 = z := ⟨_, rfl⟩
    go_wp2_with fail
    refine ((unhide H4).fst At.lies fun _ ha => aLift _ _ _ ha).mono ?_
    rw [f1, t1]
    rintro e W5 ⟨rfl, h, k⟩
    have H5 := hide h
    clear h k H4
    go_wp2_with fail
    refine ((unhide H5).fst At.lies fun _ ha => aLift _ _ _ ha).mono ?_
    rw [f2, t2]
    rintro e W6 ⟨rfl, h, k⟩
    have H6 := hide h
    clear h k H5
    go_wp2_with fail
    refine ((unhide H6).snd At.lies fun _ ha => aLift _ _ _ ha).mono ?_
    rw [f3, t3]
    rintro e W7 ⟨rfl, h, k⟩
    have H7 := hide h
    clear h k H6
    go_wp2_with fail
    refine ((unhide H7).snd At.lies fun _ ha => aLift _ _ _ ha).mono ?_
    rw [f4, t4]
    rintro e W8 ⟨rfl, h, k⟩
    have H8 := hide h
    clear h k H7
    clear f1 t1 f2 t2 f3 t3 f4 t4
    go_wp2_with fail
    refine ((unhide H8).fst At.lies fun _ ha => aAll _ ha).mono ?_
    rw [f7]
    unfold smV
    dsimp only
    rintro e W9 ⟨rfl, h, k⟩
    have H9 := hide h
    clear h k H8
    go_wp2_with fail
    refine ((unhide H9).snd At.lies fun _ ha => aAll _ ha).mono ?_
    rw [f7]
    unfold smV
    dsimp only
    rintro e W10 ⟨rfl, h, k⟩
    have H10 := hide h
    clear h k H9
    clear f7
    go_wp2
    go_loopw [16] (fun iv w' => ∃ m : Nat, m ≤ n ∧ iv = .int .i64 (m : Int) ∧ Hid (Ob2 At w w' p q (st n [rg 0 n] g2) (st n [rg 0 n] g2) [])) (fun iv _ => n - (intOf iv).toNat)
    case atStart => exact ⟨0, by omega, rfl, H10⟩
    case round =>
      clear H10
      obtain ⟨m, hm, rfl, H0⟩ := hrel
      by_cases hlt : m < n
      · have e1 : (m : Int) < (n : Int) := by omega
        have f1 := get_one (W := g2) hlt
        have f2 := has_one (W := g2) hlt
        generalize g2 m = z at f1
        go_wp2_with fail
        refine ((unhide H0).fst At.lies fun _ ha => aGet _ ha).mono ?_
        rw [f1, f2]
        rintro e W1 ⟨rfl, h, k⟩
        have H1 := hide h
        clear h k H0
        go_wp2_with fail
        refine ((unhide H1).snd At.lies fun _ ha => aGet _ ha).mono ?_
        rw [f1, f2]
        rintro e W2 ⟨rfl, h, k⟩
        have H2 := hide h
        clear h k H1
        clear f1 f2
        go_wp2
        go_roundw
        case rel => exact ⟨m + 1, by omega, by go_num, H2⟩
        case measure => simp [intOf]; omega
      · obtain rfl : m = n := by omega
        have e1 : ¬ (m : Int) < (m : Int) := by omega
        go_wp2_with fail
        refine ((unhide H0).fst At.lies fun _ ha => aLift _ _ _ ha).mono ?_
        rw [(unhide T5).1, (unhide T5).2]
        rintro e W1 ⟨rfl, h, k⟩
        have H1 := hide h
        clear h k H0
        go_wp2_with fail
        refine ((unhide H1).fst At.lies fun _ ha => aLift _ _ _ ha).mono ?_
        rw [(unhide T6).1, (unhide T6).2]
        rintro e W2 ⟨rfl, h, k⟩
        have H2 := hide h
        clear h k H1
        clear T5 T6 e1
        go_wp2
        go_loopw [21] (fun iv w' => ∃ j : Nat, j ≤ m ∧ iv = .int .i64 (j : Int) ∧ Hid (Ob2 At w w' p q (st m [rg 0 m] g) (st m [rg 0 m] g2) [])) (fun iv _ => m - (intOf iv).toNat)
        case atStart => exact ⟨0, by omega, rfl, H2⟩
        case round =>
          clear H2
          obtain ⟨j, hj, rfl, H0⟩ := hrel
          by_cases hlt : j < m
          · have e1 : (j : Int) < (m : Int) := by omega
            have e2 : (j : Int) < (ly : Int) := by omega
            have e3 : (0 : Int) ≤ (j : Int) := by omega
            have f1 := get_one (W := g) hlt
            have f2 := has_one (W := g) hlt
            rw [unhide HGW j hlt] at f1
            obtain ⟨hg0, hg1⟩ := bounds_i16 (getD_wf (unhide HY) (i := j) (by omega))
            obtain ⟨bx, ox, rfl, hbx, _⟩ := (unhide HY).get (unhide H0).bel (i := j) (by omega)
            have DX : Hid (∀ W, Below w.heap.size w W → W.cell? ⟨bx, ox + j, none⟩ = some (.int .i16 (ws.getD j 0))) := fun W hW => by
              obtain ⟨b', o', e, _, h2⟩ := (unhide HY).get hW (i := j) (by omega)
              injection e with e; injection e with e4 e5; subst e4 e5
              exact h2
            generalize ws.getD j 0 = gv at *
            go_wp2_with fail
            refine ((unhide H0).fst At.lies fun _ ha => aGet _ ha).mono ?_
            rw [f1, f2]
            rintro e W1 ⟨rfl, h, k⟩
            have H1 := hide h
            clear h k H0
            have dx := unhide DX _ (unhide H1).bel
            clear f1 f2 DX
            go_wp2
            go_roundw
            case rel => exact ⟨j + 1, by omega, by go_num, H1⟩
            case measure => simp [intOf]; omega
          · obtain rfl : j = m := by omega
            have e1 : ¬ (j : Int) < (j : Int) := by omega
            go_wp2_with fail
            refine (awake_any _).mono ?_
            rintro e W1 ⟨rfl, hb⟩
            obtain ⟨h, k⟩ := (unhide H0).below At.lies hb
            have H1 := hide h
            clear h k hb H0
            go_wp2_with fail
            refine ((unhide H1).fst At.lies fun _ ha => aCheck ha).mono ?_
            rintro e W2 ⟨rfl, h, k⟩
            have H2 := hide h
            clear h k H1
            go_wp2_with fail
            refine ((unhide H2).snd At.lies fun _ ha => aCheck ha).mono ?_
            rintro e W3 ⟨rfl, h, k⟩
            have H3 := hide h
            clear h k H2
            go_wp2
            go_ret
            exact ⟨rfl, (unhide H3).bel⟩
theorem raises_int (v : Option Addr) (ly cy : Nat) (ws : List Int) (x y x2 y2 d d2 : Int) (hx0 : 0 ≤ x) (hx : x ≤ 65535) (hy0 : 0 ≤ y) (hy : y ≤ 65535) (hz0 : 0 ≤ x2) (hx2 : x2 ≤ 65535) (hu0 : 0 ≤ y2) (hy2 : y2 ≤ 65535) (hd0 : -32768 ≤ d) (hd1 : d ≤ 32767) (he0 : -32768 ≤ d2) (he1 : d2 ≤ 32767) (w : World) (hv : IRow .i16 w v ly ws) (hly : ly ≤ maxLen) :
    Calls Try.prog 9 #[.slice v ly cy, .agg #[.int .u16 x, .int .u16 y, .int .u16 x2, .int .u16 y2], .agg #[.int .i16 d, .int .i16 d2]] w fun e w' => e = .returned (.bool true) ∧ Below w.heap.size w w' := by
  obtain ⟨x, rfl⟩ := Int.eq_ofNat_of_zero_le hx0
  obtain ⟨y, rfl⟩ := Int.eq_ofNat_of_zero_le hy0
  obtain ⟨x2, rfl⟩ := Int.eq_ofNat_of_zero_le hz0
  obtain ⟨y2, rfl⟩ := Int.eq_ofNat_of_zero_le hu0
  exact raises_walk v ly cy ws x y x2 y2 d d2 (by omega) (by omega) (by omega) (by omega) hd0 hd1 he0 he1 w hv hly
end Go.Proofs.Ytbkneonbpcmepaa

/- ..Sums: the sum from one item to another one. -/
import Derived.Test.YtbkneonbpcmepaaL
import Derived.Test.YtbkneonbpcmepaaA5
import Derived.BigRegion
namespace Go.Proofs.Ytbkneonbpcmepaa
open Go.RowKit Go.Arb
set_option linter.unusedVariables false
set_option linter.unusedSimpArgs false

set_option maxRecDepth 100000 in
set_option maxHeartbeats 4000000 in
theorem sums_walk (v : Option Addr) (ly cy : Nat) (ws : List Int) (x y : Nat) (d : Int) (hx : x ≤ 65535) (hy : y ≤ 65535) (hd0 : -32768 ≤ d) (hd1 : d ≤ 32767) (w : World) (hv : IRow .i16 w v ly ws) (hly : ly ≤ maxLen) :
    Calls Try.prog 5 #[.slice v ly cy, .agg #[.int .u16 (x : Int), .int .u16 (y : Int)], .int .i16 d] w fun e w' => e = .returned (.bool true) ∧ Below w.heap.size w w' := by
  have WF := hide (wF_fit (ws := ws) fun z hz => bounds_i16 (hv.2.2 z hz))
  have HY := hide hv
  have HLL := hide hly
  have hly' := hly
  unfold maxLen at hly'
  clear hv hly
  obtain ⟨n, hnn⟩ : ∃ n, min ly 150 = n := ⟨_, rfl⟩
  have hn : n ≤ 150 := by omega
  have hnl : n ≤ ly := by omega
  have hmn : (ly ≤ 150 ∧ n = ly) ∨ (150 < ly ∧ n = 150) := by omega
  have HNN := hide hmn
  have hbx := hide ((Below.refl w.heap.size w).alloc (Nat.le_refl _) (.cells #[.int .u16 (x : Int), .int .u16 (y : Int)] 47))
  have X := hide (BoxAt.new w #[.int .u16 (x : Int), .int .u16 (y : Int)] 47)
  have hbsz : w.heap.size < (w.alloc (.cells #[.int .u16 (x : Int), .int .u16 (y : Int)] 47)).heap.size := by simp
  have HSZ := hide hbsz
  clear hnn hmn hbsz
  go_enter Try.func5, Try.ntmps5
  go_upto_region 1 with fail
  go_cut [7] (fun a w' => a = .int .i64 (n : Int) ∧ w' = w.alloc (.cells #[.int .u16 (x : Int), .int .u16 (y : Int)] 47))
  case first =>
    rcases (unhide HNN) with ⟨h1, h2⟩ | ⟨h1, h2⟩
    · have h3 : (ly : Int) ≤ 150 := by omega
      have h4 : ¬ (150 : Int) < (ly : Int) := by omega
      have H2 := hide h2
      clear h2
      go_wp2
      go_meet
      exact ⟨by rw [unhide H2], rfl⟩
    · have h3 : ¬ (ly : Int) ≤ 150 := by omega
      have h4 : (150 : Int) < (ly : Int) := by omega
      have H2 := hide h2
      clear h2
      go_wp2
      go_meet
      exact ⟨by rw [unhide H2]; rfl, rfl⟩
  obtain ⟨rfl, hwc⟩ := hcut
  subst hwc
  clear HNN
  by_cases hn0 : n = 0
  · subst hn0
    go_wp2_with fail
    refine (awake_any _).mono ?_
    rintro e W1 ⟨rfl, hb⟩
    have H1 := hide ((unhide hbx).trans (hb.mono (unhide hbx).size))
    clear hb
    go_wp2
    go_ret
    exact ⟨rfl, unhide H1⟩
  · have q1 : ((n : Int) == 0) = false := by rw [beq_eq_false_iff_ne]; omega
    go_wp2_with fail
    refine (laid_any (w := w) (js := [w.heap.size]) n v ly cy ws (w.alloc (.cells #[.int .u16 (x : Int), .int .u16 (y : Int)] 47)) (unhide hbx) (fun j hj => by simp at hj; subst hj; exact unhide HSZ) (by omega) (unhide HY) (unhide HLL)).mono ?_
    rintro e W0 ⟨p, rfl, h, kk⟩
    replace X := hide ((unhide X).kept kk (by simp))
    rw [ln, ln_pos (by omega)] at h
    have H0 := hide h
    clear h kk HLL hbx HSZ
    have LM := hide (lim16 (n := n) (unhide WF))
    have HGW : Hid (∀ i, i < n → gW n (wF ws) i = ws.getD i 0) := fun i hi => by rw [gW_in hi]; rfl
    generalize gW n (wF ws) = g at *
    have hu : x % n < n := Nat.mod_lt _ (by omega)
    have hw' : y % n < n := Nat.mod_lt _ (by omega)
    obtain ⟨d0, _⟩ := (unhide X).cell (o := 0) rfl
    obtain ⟨d1, _⟩ := (unhide X).cell (o := 1) rfl
    have HUX := hide (show ((x : Int) % (n : Int)) = ((x % n : Nat) : Int) ∧ ((y : Int) % (n : Int)) = ((y % n : Nat) : Int) from ⟨rfl, rfl⟩)
    generalize x % n = u at *
    generalize y % n = u' at *
    obtain ⟨a, b, hamin, hbmax⟩ : ∃ a b, a = min u u' ∧ b = max u u' := ⟨_, _, rfl, rfl⟩
    have hab : a ≤ b := by omega
    have hbm : b < n := by omega
    have HAB := hide (And.intro hamin hbmax)
    clear hamin hbmax
    go_upto_region 7 with fail
    go_cut [9, 10] (fun s t w' => s = .int .i64 (a : Int) ∧ t = .int .i64 (b : Int) ∧ ∃ n, w' = W0.drewN n)
    case first =>
      go_quiet (fail)
      go_wp2
      all_goals
        go_meet
        obtain ⟨hamin, hbmax⟩ := unhide HAB
        obtain ⟨hx9, hy9⟩ := unhide HUX
        refine ⟨?_, ?_, nq, rfl⟩
        · congr 1
          omega
        · congr 1
          omega
    obtain ⟨rfl, rfl, nn, hwc⟩ := hcut
    have H1 : Hid (Ob w wc p (st n [rg 0 n] g) []) := by rw [hwc]; exact ((unhide H0).drewN nn).less (by simp)
    clear hwc H0 X d0 d1 HAB HUX hu hw'
    go_wp2
    go_loopw [11, 12, 13, 14, 15] (fun cv sv lv hv iv w' => ∃ (m : Nat) (c s lo hi : Int), a ≤ m ∧ m ≤ b + 1 ∧ cv = .int .i64 c ∧ sv = .int .i64 s ∧ lv = .int .i64 lo ∧ hv = .int .i64 hi ∧ iv = .int .i64 (m : Int) ∧ (0 ≤ c ∧ c ≤ 150) ∧ (-(c * 32768) ≤ s ∧ s ≤ c * 32768) ∧ Hid (c = (m : Int) - (a : Int) ∧ Acc ((rg a (m - a)).map g) c s lo hi) ∧ Hid (Ob w w' p (st n [rg 0 n] g) [])) (fun _ _ _ _ iv _ => b + 1 - (intOf iv).toNat)
    case atStart => exact ⟨a, 0, 0, 1048576, -1048576, by omega, by omega, rfl, rfl, rfl, rfl, rfl, by omega, by omega, hide ⟨by omega, by rw [Nat.sub_self]; exact Acc.nil⟩, H1⟩
    case round =>
      clear H1
      obtain ⟨m, c, s, lo, hi, hm1, hm2, rfl, rfl, rfl, rfl, rfl, hc, hs, HA, H0⟩ := hrel
      by_cases hlt : m ≤ b
      · have e1 : (m : Int) ≤ (b : Int) := by omega
        have e2 : (m : Int) < (ly : Int) := by omega
        have e3 : (0 : Int) ≤ (m : Int) := by omega
        obtain ⟨bx, ox, rfl, hbx, dx⟩ := (unhide HY).get (unhide H0).bel (i := m) (by omega)
        obtain ⟨hg0, hg1⟩ := bounds_i16 (getD_wf (unhide HY) (i := m) (by omega))
        have HG := hide (unhide HGW m (by omega))
        generalize ws.getD m 0 = gv at *
        have hc1 : c + 1 ≤ 150 := by have := (unhide HA).1; omega
        obtain ⟨lo', hlo⟩ : ∃ z, min lo gv = z := ⟨_, rfl⟩
        obtain ⟨hi', hhi⟩ : ∃ z, max hi gv = z := ⟨_, rfl⟩
        have HLH := hide (And.intro hlo hhi)
        clear hlo hhi
        have hlo' : (if gv < lo then gv else lo) = lo' := by have := (unhide HLH).1; split <;> omega
        have hhi' : (if hi < gv then gv else hi) = hi' := by have := (unhide HLH).2; split <;> omega
        have wr0 : IntKind.i64.wrap gv = gv := IntWalk.i64_in _ (by omega)
        have wr1 : IntKind.i64.wrap (c + 1) = c + 1 := IntWalk.i64_in _ (by omega)
        have wr2 : IntKind.i64.wrap (s + gv) = s + gv := IntWalk.i64_in _ (by omega)
        have HA1 : Hid ((c + 1 = ((m + 1 : Nat) : Int) - (a : Int)) ∧ Acc ((rg a (m + 1 - a)).map g) (c + 1) (s + gv) lo' hi') := by
          refine ⟨by have := (unhide HA).1; omega, ?_⟩
          have := (unhide HA).2.step hg0 hg1
          rw [(unhide HLH).1, (unhide HLH).2] at this
          rw [rg_succ hm1, List.map_append, List.map_cons, List.map_nil, unhide HG]
          exact this
        clear HA HLH HG
        go_wp2
        go_quiet (fail)
        all_goals go_wp2
        all_goals go_roundw
        all_goals first
          | exact ⟨m + 1, c + 1, s + gv, lo', hi', by omega, by omega, rfl, rfl, rfl, rfl, by go_num, by omega, by omega, HA1, hide ((unhide H0).drewN nq)⟩
          | (simp [intOf]; omega)
          | trace_state
      · obtain rfl : m = b + 1 := by omega
        have e1 : ¬ ((b + 1 : Nat) : Int) ≤ (b : Int) := by omega
        have SU := hide ((unhide HA).2.2 (map_ne (by omega)))
        clear HA
        have f1 : (st n [rg 0 n] g).okR (a : Int) (b : Int) = true := by rw [okR_one (by omega) hbm]; simpa using hab
        have r1 : (st n [rg 0 n] g).rangeI (a : Int) (b : Int) = ⟨c, s, lo, hi⟩ := (range_one hab hbm).trans (unhide SU)
        obtain ⟨f2, t2⟩ := lift_one (d := d) hab hbm ((unhide LM).wide (by omega)) (by omega) (by omega)
        have LM' := hide (up_lim (d := d) (c' := 32768) hab (unhide LM) (by omega) (by omega) (by omega))
        have UI : Hid (∀ i, a ≤ i → i ≤ b → upW g (rg a (b + 1 - a)) d i = g i + d) := fun i h1 h2 => up_in h1 h2
        have UO : Hid (∀ i, i < a ∨ b < i → upW g (rg a (b + 1 - a)) d i = g i) := fun i h => up_out h hab
        generalize upW g (rg a (b + 1 - a)) d = g' at *
        clear SU
        go_wp2_with fail
        refine ((unhide H0).call fun _ ha => aRange _ _ ha).mono ?_
        rw [r1, f1]
        unfold smV
        dsimp only
        rintro e W1 ⟨rfl, h, k⟩
        have H1 := hide h
        clear h k H0
        clear r1 f1
        have S1 := hide (SumAt.new W1 33 c s lo hi)
        replace H1 := hide ((unhide H1).push (.cells #[.int .i64 c, .int .i64 s, .int .i64 lo, .int .i64 hi] 33))
        go_wp2_with fail
        generalize W1.alloc (.cells #[.int .i64 c, .int .i64 s, .int .i64 lo, .int .i64 hi] 33) = WW1 at *
        generalize W1.heap.size = bs at *
        refine ((unhide H1).call fun _ ha => aLift _ _ _ ha).mono ?_
        rw [f2, t2]
        rintro e W2 ⟨rfl, h, k⟩
        have H2 := hide h
        clear h k H1
        clear f2 t2 S1
        replace H2 := hide ((unhide H2).less (is := []) (by simp))
        go_wp2
        go_loopw [18, 19] (fun sv iv w' => ∃ (m : Nat) (t : Int), m ≤ n ∧ sv = .int .i64 t ∧ iv = .int .i64 (m : Int) ∧ (-((m : Int) * 65536) ≤ t ∧ t ≤ (m : Int) * 65536) ∧ Hid (t = ((rg 0 m).map g').sum) ∧ Hid (Ob w w' p (st n [rg 0 n] g') [])) (fun _ iv _ => n - (intOf iv).toNat)
        case atStart => exact ⟨0, 0, by omega, rfl, rfl, by omega, hide rfl, H2⟩
        case round =>
          clear H2
          obtain ⟨m, t, hm, rfl, rfl, ht, HT, H0⟩ := hrel
          by_cases hlt : m < n
          · have e1 : (m : Int) < (n : Int) := by omega
            have e2 : (m : Int) < (ly : Int) := by omega
            have e3 : (0 : Int) ≤ (m : Int) := by omega
            obtain ⟨hg0, hg1⟩ := bounds_i16 (getD_wf (unhide HY) (i := m) (by omega))
            have HG := hide (unhide HGW m hlt)
            have f1 := get_one (W := g') hlt
            have f2 := has_one (W := g') hlt
            have LM1 := (unhide LM') m hlt
            have HT1 : Hid (t + g' m = ((rg 0 (m + 1)).map g').sum) := by show _ = _; rw [sum_last, unhide HT]
            by_cases h1 : a ≤ m
            · by_cases h2 : m ≤ b
              · have i1 : (a : Int) ≤ (m : Int) := by omega
                have i2 : (m : Int) ≤ (b : Int) := by omega
                have hv : g' m = ws.getD m 0 + d := by rw [unhide UI m h1 h2, unhide HG]
                obtain ⟨bx, ox, rfl, hbx, _⟩ := (unhide HY).get (unhide H0).bel (i := m) (by omega)
                have DX : Hid (∀ W, Below w.heap.size w W → W.cell? ⟨bx, ox + m, none⟩ = some (.int .i16 (ws.getD m 0))) := fun W hW => by
                  obtain ⟨b', o', e, _, h2⟩ := (unhide HY).get hW (i := m) (by omega)
                  injection e with e; injection e with e4 e5; subst e4 e5
                  exact h2
                generalize ws.getD m 0 = gv at *
                rw [hv] at f1 HT1 LM1
                clear HT HG hv
                go_wp2_with fail
                refine ((unhide H0).call fun _ ha => aGet _ ha).mono ?_
                rw [f1, f2]
                rintro e W1 ⟨rfl, h, k⟩
                have H1 := hide h
                clear h k H0
                have dx := unhide DX _ (unhide H1).bel
                clear f1 f2 DX
                go_wp2
                go_roundw
                case rel => exact ⟨m + 1, t + (gv + d), by omega, rfl, by go_num, by omega, HT1, H1⟩
                case measure => simp [intOf]; omega
              · have i1 : (a : Int) ≤ (m : Int) := by omega
                have i2 : ¬ (m : Int) ≤ (b : Int) := by omega
                have hv : g' m = ws.getD m 0 := by rw [unhide UO m (by omega), unhide HG]
                obtain ⟨bx, ox, rfl, hbx, _⟩ := (unhide HY).get (unhide H0).bel (i := m) (by omega)
                have DX : Hid (∀ W, Below w.heap.size w W → W.cell? ⟨bx, ox + m, none⟩ = some (.int .i16 (ws.getD m 0))) := fun W hW => by
                  obtain ⟨b', o', e, _, h2⟩ := (unhide HY).get hW (i := m) (by omega)
                  injection e with e; injection e with e4 e5; subst e4 e5
                  exact h2
                generalize ws.getD m 0 = gv at *
                rw [hv] at f1 HT1 LM1
                clear HT HG hv
                go_wp2_with fail
                refine ((unhide H0).call fun _ ha => aGet _ ha).mono ?_
                rw [f1, f2]
                rintro e W1 ⟨rfl, h, k⟩
                have H1 := hide h
                clear h k H0
                have dx := unhide DX _ (unhide H1).bel
                clear f1 f2 DX
                go_wp2
                go_roundw
                case rel => exact ⟨m + 1, t + gv, by omega, rfl, by go_num, by omega, HT1, H1⟩
                case measure => simp [intOf]; omega
            · have i1 : ¬ (a : Int) ≤ (m : Int) := by omega

              have hv : g' m = ws.getD m 0 := by rw [unhide UO m (by omega), unhide HG]
              obtain ⟨bx, ox, rfl, hbx, _⟩ := (unhide HY).get (unhide H0).bel (i := m) (by omega)
              have DX : Hid (∀ W, Below w.heap.size w W → W.cell? ⟨bx, ox + m, none⟩ = some (.int .i16 (ws.getD m 0))) := fun W hW => by
                obtain ⟨b', o', e, _, h2⟩ := (unhide HY).get hW (i := m) (by omega)
                injection e with e; injection e with e4 e5; subst e4 e5
                exact h2
              generalize ws.getD m 0 = gv at *
              rw [hv] at f1 HT1 LM1
              clear HT HG hv
              go_wp2_with fail
              refine ((unhide H0).call fun _ ha => aGet _ ha).mono ?_
              rw [f1, f2]
              rintro e W1 ⟨rfl, h, k⟩
              have H1 := hide h
              clear h k H0
              have dx := unhide DX _ (unhide H1).bel
              clear f1 f2 DX
              go_wp2
              go_roundw
              case rel => exact ⟨m + 1, t + gv, by omega, rfl, by go_num, by omega, HT1, H1⟩
              case measure => simp [intOf]; omega
          · obtain rfl : m = n := by omega
            have e1 : ¬ (m : Int) < (m : Int) := by omega
            obtain ⟨za, zb, f3⟩ : ∃ za zb, (st m [rg 0 m] g').allI 0 = ⟨(m : Int), t, za, zb⟩ := by
              refine ⟨(ofR ((rg 0 m).map g')).a, (ofR ((rg 0 m).map g')).b, one_all.trans (Sm.same ?_ ?_ rfl rfl)⟩
              · rw [ofR_c, List.length_map, rg_len]
              · rw [ofR_sum, unhide HT]
            have FL1 := fl1 (m : Int) t za zb
            have FL0 := fl0 (m : Int) t za zb
            have f4 := okR_one (W := g') (a := b) (b := a) hbm (show a < m by omega)
            obtain ⟨⟨rc, rs, ra, rb⟩, r4⟩ : ∃ z, (st m [rg 0 m] g').rangeI (b : Int) (a : Int) = z := ⟨_, rfl⟩
            clear HT LM LM' HGW WF UI UO HY
            by_cases hE : a = b
            · subst hE
              rw [show decide (a ≤ a) = true by simp] at f4
              go_wp2_with fail
              refine ((unhide H0).call fun _ ha => aRange _ _ ha).mono ?_
              rw [r4, f4]
              unfold smV
              dsimp only
              rintro e W1 ⟨rfl, h, k⟩
              have H1 := hide h
              clear h k H0
              clear r4 f4
              have S1 := hide (SumAt.new W1 33 rc rs ra rb)
              replace H1 := hide ((unhide H1).push (.cells #[.int .i64 rc, .int .i64 rs, .int .i64 ra, .int .i64 rb] 33))
              go_wp2_with fail
              generalize W1.alloc (.cells #[.int .i64 rc, .int .i64 rs, .int .i64 ra, .int .i64 rb] 33) = WW1 at *
              generalize W1.heap.size = bs2 at *
              clear S1
              refine (awake_any _).mono ?_
              rintro e W2 ⟨rfl, hb⟩
              obtain ⟨h, kk⟩ := (unhide H1).below hb
              have H2 := hide h
              clear h kk hb H1
              go_wp2_with fail
              refine ((unhide H2).call fun _ ha => aAll _ ha).mono ?_
              rw [f3]
              unfold smV
              dsimp only
              rintro e W3 ⟨rfl, h, k⟩
              have H3 := hide h
              clear h k H2
              go_wp2_with fail
              refine ((unhide H3).call fun _ ha => aAll _ ha).mono ?_
              rw [f3]
              unfold smV
              dsimp only
              rintro e W4 ⟨rfl, h, k⟩
              have H4 := hide h
              clear h k H3
              go_wp2_with fail
              refine ((unhide H4).call fun _ ha => aCheck ha).mono ?_
              rintro e W5 ⟨rfl, h, k⟩
              have H5 := hide h
              clear h k H4
              go_wp2
              go_ret
              exact ⟨by simp, (unhide H5).bel⟩
            · rw [show decide (b ≤ a) = false by simp; omega] at f4
              have e9 : ((a : Int) == (b : Int)) = false := by rw [beq_eq_false_iff_ne]; omega
              go_wp2_with fail
              refine ((unhide H0).call fun _ ha => aRange _ _ ha).mono ?_
              rw [r4, f4]
              unfold smV
              dsimp only
              rintro e W1 ⟨rfl, h, k⟩
              have H1 := hide h
              clear h k H0
              clear r4 f4
              have S1 := hide (SumAt.new W1 33 rc rs ra rb)
              replace H1 := hide ((unhide H1).push (.cells #[.int .i64 rc, .int .i64 rs, .int .i64 ra, .int .i64 rb] 33))
              go_wp2_with fail
              generalize W1.alloc (.cells #[.int .i64 rc, .int .i64 rs, .int .i64 ra, .int .i64 rb] 33) = WW1 at *
              generalize W1.heap.size = bs2 at *
              clear S1
              refine (awake_any _).mono ?_
              rintro e W2 ⟨rfl, hb⟩
              obtain ⟨h, kk⟩ := (unhide H1).below hb
              have H2 := hide h
              clear h kk hb H1
              go_wp2_with fail
              refine ((unhide H2).call fun _ ha => aAll _ ha).mono ?_
              rw [f3]
              unfold smV
              dsimp only
              rintro e W3 ⟨rfl, h, k⟩
              have H3 := hide h
              clear h k H2
              go_wp2_with fail
              refine ((unhide H3).call fun _ ha => aAll _ ha).mono ?_
              rw [f3]
              unfold smV
              dsimp only
              rintro e W4 ⟨rfl, h, k⟩
              have H4 := hide h
              clear h k H3
              go_wp2_with fail
              refine ((unhide H4).call fun _ ha => aCheck ha).mono ?_
              rintro e W5 ⟨rfl, h, k⟩
              have H5 := hide h
              clear h k H4
              go_wp2
              go_ret
              exact ⟨by simp, (unhide H5).bel⟩
theorem sums_int (v : Option Addr) (ly cy : Nat) (ws : List Int) (x y d : Int) (hx0 : 0 ≤ x) (hx : x ≤ 65535) (hy0 : 0 ≤ y) (hy : y ≤ 65535) (hd0 : -32768 ≤ d) (hd1 : d ≤ 32767) (w : World) (hv : IRow .i16 w v ly ws) (hly : ly ≤ maxLen) :
    Calls Try.prog 5 #[.slice v ly cy, .agg #[.int .u16 x, .int .u16 y], .int .i16 d] w fun e w' => e = .returned (.bool true) ∧ Below w.heap.size w w' := by
  obtain ⟨x, rfl⟩ := Int.eq_ofNat_of_zero_le hx0
  obtain ⟨y, rfl⟩ := Int.eq_ofNat_of_zero_le hy0
  exact sums_walk v ly cy ws x y d (by omega) (by omega) hd0 hd1 w hv hly
end Go.Proofs.Ytbkneonbpcmepaa

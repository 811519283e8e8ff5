/- ..Joins: of two sequences joined the sum is that of both. -/
import Derived.Test.YtbkneonbpcmepaaL
import Derived.Test.YtbkneonbpcmepaaA4
namespace Go.Proofs.Ytbkneonbpcmepaa
open Go.RowKit Go.Arb
set_option linter.unusedVariables false
set_option linter.unusedSimpArgs false

set_option maxRecDepth 100000 in
set_option maxHeartbeats 4000000 in
theorem joins_walk (y : Option Addr) (ly cy : Nat) (ws : List Int) (a : Nat) (x : Int) (ha : a ≤ 255) (hx0 : -32768 ≤ x) (hx1 : x ≤ 32767) (w : World) (hy : IRow .i16 w y ly ws) (hly : ly ≤ maxLen) :
    Calls Try.prog 10 #[.slice y ly cy, .int .u8 (a : Int), .int .i16 x] w fun e w' => e = .returned (.bool true) ∧ Below w.heap.size w w' := by
  have WF := hide (wF_fit (ws := ws) fun z hz => bounds_i16 (hy.2.2 z hz))
  have HY := hide hy
  have HLL := hide hly
  have hly' := hly
  unfold maxLen at hly'
  clear hy hly
  obtain ⟨n, hnn⟩ : ∃ n, min ly 100 = n := ⟨_, rfl⟩
  have hn : n ≤ 100 := by omega
  have hmn : (ly ≤ 100 ∧ n = ly) ∨ (100 < ly ∧ n = 100) := by omega
  have HNN := hide hmn
  clear hnn hmn
  go_enter Try.func10, Try.ntmps10
  go_upto_region 1 with fail
  go_cut [7] (fun a w' => a = .int .i64 (n : Int) ∧ w' = w)
  case first =>
    rcases (unhide HNN) with ⟨h1, h2⟩ | ⟨h1, h2⟩
    · have h3 : (ly : Int) ≤ 100 := by omega
      have h4 : ¬ (100 : Int) < (ly : Int) := by omega
      have H2 := hide h2
      clear h2
      go_wp2
      go_meet
      exact ⟨by rw [unhide H2], rfl⟩
    · have h3 : ¬ (ly : Int) ≤ 100 := by omega
      have h4 : (100 : Int) < (ly : Int) := by omega
      have H2 := hide h2
      clear h2
      go_wp2
      go_meet
      exact ⟨by rw [unhide H2]; rfl, rfl⟩
  obtain ⟨rfl, hwc⟩ := hcut
  obtain rfl : w = wc := hwc.symm
  clear hwc HNN
  by_cases hn2 : n < 2
  · have q1 : (n : Int) < 2 := by omega
    go_wp2_with fail
    refine (awake_any _).mono ?_
    rintro e W1 ⟨rfl, hb⟩
    have H1 := hide hb
    clear hb
    go_wp2
    go_ret
    exact ⟨rfl, unhide H1⟩
  · have q1 : ¬ (n : Int) < 2 := by omega
    obtain ⟨c, hc⟩ : ∃ c : Nat, c = 1 + a % (n - 1) := ⟨_, rfl⟩
    have hcb : a % (n - 1) < n - 1 := Nat.mod_lt _ (by omega)
    have hc0 : 0 < c := by omega
    have hck : c < n := by omega
    have E2 : Hid ((1 + (a : Int) % ((n : Int) - 1)) = (c : Int)) := by show _ = _; rw [hc, show ((n : Int) - 1) = ((n - 1 : Nat) : Int) by omega]; rfl
    have q2 : ((n : Int) - 1 == 0) = false := by rw [beq_eq_false_iff_ne]; omega
    clear hc hcb
    go_wp2_with fail
    refine (laid_any (w := w) (js := []) n y ly cy ws w (Below.refl _ _) (by simp) (by omega) (unhide HY) (unhide HLL)).mono ?_
    rintro e W0 ⟨p, rfl, h, _⟩
    rw [ln, ln_pos (by omega)] at h
    have WB : Hid (∀ v, v < n → -32768 ≤ gW n (wF ws) v ∧ gW n (wF ws) v ≤ 32767) := fun v hv => by rw [gW_in hv]; exact unhide WF v
    generalize gW n (wF ws) = g at *
    have H0 := hide h
    clear h HLL HY WF
    obtain ⟨f1, t1⟩ := one_cut (g := g) hc0 hck
    have f2 := two_all (W := g) hc0 hck
    obtain ⟨f3, t3⟩ := two_join (g := g) hc0 hck
    have SP := hide (all_split (W := g) (show c ≤ n by omega))
    obtain ⟨s1, a1, b1, z1⟩ := ofR_four ((rg 0 c).map g) (map_ne hc0)
    obtain ⟨s2, a2, b2, z2⟩ := ofR_four ((rg c (n - c)).map g) (map_ne (by omega))
    rw [List.length_map, rg_len] at z1 z2
    have B1 := sum_bd (W := g) (s := 0) (a := c) (fun v h1 h2 => unhide WB v (by omega)) (by omega)
    have B2 := sum_bd (W := g) (s := c) (a := n - c) (fun v h1 h2 => unhide WB v (by omega)) (by omega)
    have B3 := sum_bd (W := g) (s := 0) (a := n) (fun v h1 h2 => unhide WB v (by omega)) (by omega)
    have z3 : ofR ((rg 0 n).map g) = ⟨(c : Int) + ((n - c : Nat) : Int), s1 + s2, min a1 a2, max b1 b2⟩ := by
      rw [unhide SP, z1, z2, jn, if_neg (by simp; omega), if_neg (by simp; omega)]
    rw [z1] at B1
    rw [z2] at B2
    rw [z3] at B3
    dsimp only at B1 B2 B3
    rw [z1, z2] at f2
    obtain ⟨f2, f2'⟩ := f2
    have f4 : (st n [rg 0 n] g).allI 0 = ⟨(c : Int) + ((n - c : Nat) : Int), s1 + s2, min a1 a2, max b1 b2⟩ := one_all.trans z3
    have f5 : (st n [rg 0 n] g).getI (c : Int) = g c := st_get (l := rg 0 n) (by simp) (by rw [rg_mem]; omega)
    have f5' : (st n [rg 0 n] g).hasI (c : Int) = true := st_has (l := rg 0 n) (by simp) (by rw [rg_mem]; omega)
    obtain ⟨f6, t6⟩ := st_set (n := n) (W := g) (L := [rg 0 n]) (l := rg 0 n) (v := c) (x := x) (by simp) (by rw [rg_mem]; omega) (by simp [fitB]; omega)
    have hgc := unhide WB c hck
    obtain ⟨xc, xa, xb, f7⟩ : ∃ xc xa xb, (st n [rg 0 n] (fun u => if u = c then x else g u)).allI 0 = ⟨xc, s1 + s2 - g c + x, xa, xb⟩ := by
      have e1 := one_all (k := n) (W := fun u => if u = c then x else g u)
      have e2 := sum_upd (W := g) (x := x) hck
      rw [z3] at e2
      dsimp only at e2
      exact ⟨_, _, _, e1.trans (Sm.same rfl e2 rfl rfl)⟩
    have FL := fl1 xc (s1 + s2 - g c + x) xa xb
    obtain ⟨mn, hmn⟩ : ∃ m, min a1 a2 = m := ⟨_, rfl⟩
    obtain ⟨mx, hmx⟩ : ∃ m, max b1 b2 = m := ⟨_, rfl⟩
    have hmn' : (if a2 < a1 then a2 else a1) = mn := by split <;> omega
    have hmx' : (if b1 < b2 then b2 else b1) = mx := by split <;> omega
    rw [hmn, hmx] at f4
    have F7 := hide f7
    have T7 := hide (And.intro f6 t6)
    obtain ⟨gc, hgg⟩ : ∃ z, g c = z := ⟨_, rfl⟩
    rw [hgg] at f5 F7 FL hgc
    clear z1 z2 z3 SP hmn hmx f7 f6 t6 hgg B3 WB
    generalize hd : ((n - c : Nat) : Int) = dn at *
    have hd0 : 0 ≤ dn ∧ dn ≤ 100 := by omega
    clear hd
    go_wp2_with fail
    rw [unhide E2, IntWalk.wrap64_in (c : Int) (by omega)]
    clear E2 q2
    refine ((unhide H0).call fun _ ha => aBefore _ ha).mono ?_
    rw [f1, t1]
    rintro e W1 ⟨rfl, h, k⟩
    have H1 := hide h
    clear h k H0
    clear f1 t1
    go_wp2_with fail
    refine ((unhide H1).call fun _ ha => aAll _ ha).mono ?_
    rw [f2]
    unfold smV
    dsimp only
    rintro e W2 ⟨rfl, h, k⟩
    have H2 := hide h
    clear h k H1
    go_wp2_with fail
    refine ((unhide H2).call fun _ ha => aAll _ ha).mono ?_
    rw [f2']
    unfold smV
    dsimp only
    rintro e W3 ⟨rfl, h, k⟩
    have H3 := hide h
    clear h k H2
    clear f2 f2'
    have ez : Hid ((W3.alloc (.cells #[.int .i64 (c : Int), .int .i64 s1, .int .i64 a1, .int .i64 b1] 33)).heap.size = W3.heap.size + 1) := by show _ = _; simp
    have P1 := hide ((unhide H3).push (.cells #[.int .i64 (c : Int), .int .i64 s1, .int .i64 a1, .int .i64 b1] 33))
    have P2 := hide ((unhide P1).push (.cells #[.int .i64 dn, .int .i64 s2, .int .i64 a2, .int .i64 b2] 33))
    have S1 := hide ((SumAt.new W3 33 (c : Int) s1 a1 b1).kept (kept_alloc (unhide P1) (.cells #[.int .i64 dn, .int .i64 s2, .int .i64 a2, .int .i64 b2] 33)) (by simp))
    have S2 := hide (SumAt.new (W3.alloc (.cells #[.int .i64 (c : Int), .int .i64 s1, .int .i64 a1, .int .i64 b1] 33)) 33 dn s2 a2 b2)
    rw [unhide ez] at S2 P2
    clear ez P1 H3
    go_wp2_with fail
    generalize (W3.alloc (.cells #[.int .i64 (c : Int), .int .i64 s1, .int .i64 a1, .int .i64 b1] 33)).alloc (.cells #[.int .i64 dn, .int .i64 s2, .int .i64 a2, .int .i64 b2] 33) = WW at *
    generalize W3.heap.size + 1 = bb2 at *
    generalize W3.heap.size = bb1 at *
    have H3 := hide (unhide P2)
    clear P2
    refine ((unhide H3).call fun _ ha => aJoin _ _ ha).mono ?_
    rw [f3, t3]
    rintro e W4 ⟨rfl, h, k⟩
    have H4 := hide h
    replace S1 := hide ((unhide S1).kept k (by simp))
    replace S2 := hide ((unhide S2).kept k (by simp))
    clear h k H3
    clear f3 t3
    go_wp2_with fail
    refine ((unhide H4).call fun _ ha => aAll _ ha).mono ?_
    rw [f4]
    unfold smV
    dsimp only
    rintro e W5 ⟨rfl, h, k⟩
    have H5 := hide h
    replace S1 := hide ((unhide S1).kept k (by simp))
    replace S2 := hide ((unhide S2).kept k (by simp))
    clear h k H4
    clear f4
    have S3 := hide (SumAt.new W5 33 ((c : Int) + dn) (s1 + s2) mn mx)
    replace S1 := hide ((unhide S1).kept (kept_alloc (unhide H5) (.cells #[.int .i64 ((c : Int) + dn), .int .i64 (s1 + s2), .int .i64 mn, .int .i64 mx] 33)) (by simp))
    replace S2 := hide ((unhide S2).kept (kept_alloc (unhide H5) (.cells #[.int .i64 ((c : Int) + dn), .int .i64 (s1 + s2), .int .i64 mn, .int .i64 mx] 33)) (by simp))
    replace H5 := hide ((unhide H5).push (.cells #[.int .i64 ((c : Int) + dn), .int .i64 (s1 + s2), .int .i64 mn, .int .i64 mx] 33))
    go_wp2_with fail
    generalize W5.alloc (.cells #[.int .i64 ((c : Int) + dn), .int .i64 (s1 + s2), .int .i64 mn, .int .i64 mx] 33) = WW5 at *
    generalize W5.heap.size = bb3 at *
    refine ((unhide H5).call fun _ ha => aGet _ ha).mono ?_
    rw [f5, f5']
    rintro e W6 ⟨rfl, h, k⟩
    have H6 := hide h
    replace S1 := hide ((unhide S1).kept k (by simp))
    replace S2 := hide ((unhide S2).kept k (by simp))
    replace S3 := hide ((unhide S3).kept k (by simp))
    clear h k H5
    clear f5 f5'
    obtain ⟨⟨u0, u1, u2, u3⟩, _⟩ := unhide S1
    obtain ⟨⟨v0, v1, v2, v3⟩, _⟩ := unhide S2
    obtain ⟨⟨x0, x1, x2, x3⟩, _⟩ := unhide S3
    dsimp only at u0 u1 u2 u3 v0 v1 v2 v3 x0 x1 x2 x3
    go_wp2_with fail
    refine ((unhide H6).call fun _ ha => aSet _ _ ha).mono ?_
    rw [(unhide T7).1, (unhide T7).2]
    rintro e W7 ⟨rfl, h, k⟩
    have H7 := hide h
    replace S1 := hide ((unhide S1).kept k (by simp))
    replace S2 := hide ((unhide S2).kept k (by simp))
    replace S3 := hide ((unhide S3).kept k (by simp))
    clear h k H6
    clear u0 u1 u2 u3 v0 v1 v2 v3 x0 x1 x2 x3 S1 S2 T7 hmn' hmx'
    have wr0 : IntKind.i64.wrap x = x := IntWalk.i64_in _ (by omega)
    have wr1 : IntKind.i64.wrap (s1 + s2 - gc) = s1 + s2 - gc := IntWalk.i64_in _ (by omega)
    have wr2 : IntKind.i64.wrap (s1 + s2 - gc + x) = s1 + s2 - gc + x := IntWalk.i64_in _ (by omega)
    have HD := hide (unhide H7).drew
    have S3d := hide (((unhide S3).kept ((unhide H7).below (below_drew (Below.refl _ _))).2 (by simp)))
    obtain ⟨⟨_, y1, _⟩, _⟩ := unhide S3
    dsimp only at y1
    go_wp2
    go_region_held3 (fun w' => w'.cell? ⟨bb3, 1, none⟩ = some (.int .i64 (s1 + s2)))
      (first | go_keep | (simp [go_sem, *]))
      (first
        | (go_at_call 42; refine (awake_any _).mono ?_; rintro e wA ⟨rfl, hb⟩; (obtain ⟨h, kk⟩ := (unhide HD).below hb); have HA := hide h; have SA := hide ((unhide S3d).kept kk (by simp)); (obtain ⟨⟨_, y2, _⟩, _⟩ := unhide SA); dsimp only at y2; clear h kk hb)
        | (go_at_call 39; refine ((unhide HA).call fun _ ha => aAll _ ha).mono ?_; rw [unhide F7]; unfold smV; dsimp only; rintro e wB ⟨rfl, h, kk⟩; have HB := hide h; have SB := hide ((unhide SA).kept kk (by simp)); (obtain ⟨⟨_, y3, _⟩, _⟩ := unhide SB); dsimp only at y3; clear h kk)
        | (go_at_call 41; refine ((unhide HB).call fun _ ha => aCheck ha).mono ?_; rintro e wC ⟨rfl, h, kk⟩; have HC := hide h; have SC := hide ((unhide SB).kept kk (by simp)); (obtain ⟨⟨_, y4, _⟩, _⟩ := unhide SC); dsimp only at y4; clear h kk))
    all_goals go_wp2
    all_goals go_ret
    all_goals exact ⟨rfl, (unhide HC).bel⟩
theorem joins_int (y : Option Addr) (ly cy : Nat) (ws : List Int) (a x : Int) (ha0 : 0 ≤ a) (ha : a ≤ 255) (hx0 : -32768 ≤ x) (hx1 : x ≤ 32767) (w : World) (hy : IRow .i16 w y ly ws) (hly : ly ≤ maxLen) :
    Calls Try.prog 10 #[.slice y ly cy, .int .u8 a, .int .i16 x] w fun e w' => e = .returned (.bool true) ∧ Below w.heap.size w w' := by
  obtain ⟨a, rfl⟩ := Int.eq_ofNat_of_zero_le ha0
  exact joins_walk y ly cy ws a x (by omega) hx0 hx1 w hy hly
end Go.Proofs.Ytbkneonbpcmepaa

/- PlainWays: a way from either end, by its two parts, and raised. -/
import Derived.Test.YtjnkgakajenoaaaL11
import Derived.Test.YtjnkgakajenoaaaL12
namespace Go.Proofs.Ytjnkgakajenoaaa
open Go.RowKit Go.Arb
set_option linter.unusedVariables false
set_option linter.unusedSimpArgs false
theorem Try.info3 : (Try.prog.info? 3).map (fun i => (i.zero, i.size, i.bytes)) = some (some (.int .i64 0), 1, 8) := by kernel_rfl
theorem SumAt.keep {ks : List Nat} {w w' : World} {b : Nat} {x : Sm} (h : SumAt w b x) (hk : Keep ks w w') (hl : b < w.heap.size) (hn : b ∉ ks) : SumAt w' b x := by
  obtain ⟨⟨q0, q1, q2, q3⟩, f0, f1, f2, f3⟩ := h
  refine ⟨⟨?_, ?_, ?_, ?_⟩, ?_, ?_, ?_, ?_⟩
  · rw [hk.cell (p := ⟨b, 0, none⟩) hl hn]; exact q0
  · rw [hk.cell (p := ⟨b, 1, none⟩) hl hn]; exact q1
  · rw [hk.cell (p := ⟨b, 2, none⟩) hl hn]; exact q2
  · rw [hk.cell (p := ⟨b, 3, none⟩) hl hn]; exact q3
  · rw [hk.frozen (p := ⟨b, 0, none⟩) hl hn]; exact f0
  · rw [hk.frozen (p := ⟨b, 1, none⟩) hl hn]; exact f1
  · rw [hk.frozen (p := ⟨b, 2, none⟩) hl hn]; exact f2
  · rw [hk.frozen (p := ⟨b, 3, none⟩) hl hn]; exact f3
def inV (f : Nat → Int) : Nat → Value := fun x => .int .i64 (f x)
theorem inV_set (P : Nat → Int) (i : Nat) (k : Int) : (fun j => if j = i then Value.int .i64 k else inV P j) = inV (updF P i k) := by
  funext j
  by_cases e : j = i
  · simp [e, inV, updF]
  · simp [e, inV, updF]


def wasV (T : Tr) (m : Nat) (f : Nat → Int) : Prop := ∀ i, i < m → f i = T.wt i
def chF (T : Tr) (l : List Nat) (n : Int) : Nat → Int := fun i => if i ∈ l ∧ n ≠ 0 then 1 else 0
theorem getI_gr {n : Nat} {T : Tr} {i : Nat} (h : T.par i ≠ -2) : T.getI i = T.wt i := by simp [Tr.getI, Tr.hasI_there h]
theorem rowIs_kept {W W' : World} {js : List Nat} {b t n : Nat} {f : Nat → Value} (h : W.rowIs b t n f) (hk : Kept js W W') (hb : b ∈ js) : W'.rowIs b t n f := h.of_block (hk b hb)
theorem lf_parts {s : Sm} (h : 1 ≤ s.c) (n : Int) : (lf s n).s = s.s + n * s.c ∧ (lf s n).a = s.a + n ∧ (lf s n).b = s.b + n := by
  unfold lf
  rw [if_neg (by omega)]
  exact ⟨by dsimp only; rw [Int.mul_comm], rfl, rfl⟩
theorem prod_bd {p c : Int} (h1 : -200 ≤ p) (h2 : p ≤ 200) (h3 : 1 ≤ c) (h4 : c ≤ 25) : -5000 ≤ p * c ∧ p * c ≤ 5000 := by
  have a1 : p * c ≤ 200 * c := Int.mul_le_mul_of_nonneg_right h2 (by omega)
  have a2 : (-200) * c ≤ p * c := Int.mul_le_mul_of_nonneg_right h1 (by omega)
  omega

set_option maxRecDepth 100000 in
set_option maxHeartbeats 4000000 in
theorem ways_walk (x y : Option Addr) (lx cx ly cy : Nat) (us ws : List Int) (at0 at1 at2 : Int) (hat0 : 0 ≤ at0) (hat1 : at0 ≤ 255) (hbt0 : 0 ≤ at1) (hbt1 : at1 ≤ 255) (hct0 : 0 ≤ at2) (hct1 : at2 ≤ 255) (w : World) (hx : IRow .u8 w x lx us) (hy : IRow .i16 w y ly ws) (hlx : lx ≤ maxLen) (hly : ly ≤ maxLen) :
    Calls Try.prog 6 #[.slice x lx cx, .slice y ly cy, .agg #[.int .u8 at0, .int .u8 at1, .int .u8 at2]] w fun e w' => e = .returned (.bool true) ∧ Below w.heap.size w w' := by
  have hbx := hide ((Below.refl w.heap.size w).alloc (Nat.le_refl _) (.cells #[.int .u8 at0, .int .u8 at1, .int .u8 at2] 52))
  have X := hide (BoxAt.new w #[.int .u8 at0, .int .u8 at1, .int .u8 at2] 52)
  have hbsz : w.heap.size < (w.alloc (.cells #[.int .u8 at0, .int .u8 at1, .int .u8 at2] 52)).heap.size := by simp
  have LF := hide (upF_low (us := us) fun z hz => (bounds_u8 (hx.2.2 z hz)).1)
  have WF := hide (wF_fit (ws := ws) fun z hz => bounds_i16 (hy.2.2 z hz))
  have HX := hide hx
  have HY := hide hy
  have HLL := hide (And.intro hlx hly)
  have hlx' := hlx
  unfold maxLen at hlx'
  clear hx hy hlx hly
  have HEN : Hid (∃ n, min lx 25 = n) := ⟨_, rfl⟩
  obtain ⟨n, hnn⟩ := HEN.out
  have hn : n ≤ 25 := by omega
  have hnl : n ≤ lx := by omega
  have hmn : (lx ≤ 25 ∧ n = lx) ∨ (25 < lx ∧ n = 25) := by omega
  have HNN := hide (And.intro hnn hmn)
  clear hnn hmn HEN
  go_enter Try.func6, Try.ntmps6
  go_upto_region 1 with fail
  go_cut [7] (fun a w' => a = .int .i64 (n : Int) ∧ w' = w.alloc (.cells #[.int .u8 at0, .int .u8 at1, .int .u8 at2] 52))
  case first =>
    rcases (unhide HNN).2 with ⟨h1, h2⟩ | ⟨h1, h2⟩
    · have h3 : (lx : Int) ≤ 25 := by omega
      have h4 : ¬ (25 : Int) < (lx : Int) := by omega
      have H2 := hide h2
      clear h2
      go_wp2
      go_meet
      exact ⟨by rw [unhide H2], rfl⟩
    · have h3 : ¬ (lx : Int) ≤ 25 := by omega
      have h4 : (25 : Int) < (lx : Int) := by omega
      have H2 := hide h2
      clear h2
      go_wp2
      go_meet
      exact ⟨by rw [unhide H2]; rfl, rfl⟩
  obtain ⟨rfl, hwc⟩ := hcut
  subst hwc
  go_wp2_with fail
  refine (grown_any (w := w) (js := [w.heap.size]) n x y lx cx ly cy us ws (w.alloc (.cells #[.int .u8 at0, .int .u8 at1, .int .u8 at2] 52)) (unhide hbx) (by simp) (by omega) hnl (unhide HX) (unhide HY) (unhide HLL).2 (unhide HLL).1).mono ?_
  rintro e W0 ⟨p, rfl, h, kk⟩
  replace X := hide ((unhide X).kept kk (by simp))
  have hW := h.wf
  have hth : ∀ i, i < n → (gr n n (upF us) (wF ws)).par i ≠ -2 := fun i hi => gr_there (unhide LF) hi
  have hTn : (gr n n (upF us) (wF ws)).n = n := rfl
  have hwb : ∀ u, -32768 ≤ (gr n n (upF us) (wF ws)).wt u ∧ (gr n n (upF us) (wF ws)).wt u ≤ 32767 := fun u => by
    have := unhide WF u
    simp only [gr]; split <;> omega
  have H0 := hide h
  clear h kk LF WF HX HY HLL HNN hbx hbsz
  generalize gr n n (upF us) (wF ws) = T at *
  by_cases hn0 : n = 0
  · subst hn0
    go_wp2_with fail
    refine (awake_any _).mono ?_
    rintro e W1 ⟨rfl, hb⟩
    obtain ⟨h, k⟩ := (unhide H0).below hb
    have H1 := hide h
    clear h k hb H0
    go_wp2
    go_ret
    exact ⟨rfl, (unhide H1).bel⟩
  · obtain ⟨xa, rfl⟩ := Int.eq_ofNat_of_zero_le hat0
    obtain ⟨xb, rfl⟩ := Int.eq_ofNat_of_zero_le hbt0
    obtain ⟨xc, rfl⟩ := Int.eq_ofNat_of_zero_le hct0
    have hnz : ((n : Int) == 0) = false := by rw [beq_eq_false_iff_ne]; omega
    have hca : xa % n < n := Nat.mod_lt _ (by omega)
    have hcb : xb % n < n := Nat.mod_lt _ (by omega)
    have hct := hth (xa % n) hca
    have hpt := hth (xb % n) hcb
    obtain ⟨d0, _⟩ := (unhide X).cell (o := 0) rfl
    obtain ⟨d1, _⟩ := (unhide X).cell (o := 1) rfl
    obtain ⟨d2, _⟩ := (unhide X).cell (o := 2) rfl
    go_wp2
    go_quiet (fail)
    go_wp2_with fail
    clear d0 d1 d2 X
    rw [show ((xa : Int) % (n : Int)) = ((xa % n : Nat) : Int) from rfl, show ((xb : Int) % (n : Int)) = ((xb % n : Nat) : Int) from rfl]
    generalize xa % n = a at *
    generalize xb % n = b at *
    have hby : -200 ≤ (xc : Int) - 100 ∧ (xc : Int) - 100 ≤ 200 := by omega
    generalize (xc : Int) - 100 = d at *
    obtain ⟨hd0, hd1⟩ := hby
    replace H0 := hide (((unhide H0).drewN nq).less (is := []) (by simp))
    cases hsame : T.sameI a b
    · obtain ⟨f1, f2, f3, f4, t4, f5⟩ := hW.apart_facts hct hpt hsame d
      have f1' : T.pathI a b = ⟨0, 0, 0, 0⟩ := f1
      have f2' : T.pathI b a = ⟨0, 0, 0, 0⟩ := f2
      clear hW hth hTn hwb hct hpt f1 f2
      refine ((unhide H0).call fun _ ha => aPath _ _ ha).mono ?_
      rw [f1', hsame]
      unfold smV
      dsimp only
      rintro e W1 ⟨rfl, h, k⟩
      have H1 := hide h
      clear h k H0
      have S1 := hide (SumAt.new W1 34 0 0 0 0)
      replace H1 := hide ((unhide H1).push (.cells #[.int .i64 0, .int .i64 0, .int .i64 0, .int .i64 0] 34))
      go_wp2_with fail
      generalize W1.alloc (.cells #[.int .i64 0, .int .i64 0, .int .i64 0, .int .i64 0] 34) = WW1 at *
      generalize W1.heap.size = b1 at *
      refine ((unhide H1).call fun _ ha => aPath _ _ ha).mono ?_
      rw [f2', f3]
      unfold smV
      dsimp only
      rintro e W2 ⟨rfl, h, k⟩
      have H2 := hide h
      replace S1 := hide ((unhide S1).kept k (by simp))
      clear h k H1
      obtain ⟨⟨q0, q1, q2, q3⟩, _⟩ := unhide S1
      dsimp only at q0 q1 q2 q3
      have hb1lt : b1 < W2.heap.size := (unhide H2).jl b1 (by simp)
      replace S1 := hide ((unhide S1).kept (kept_alloc (unhide H2) (.cells #[.int .i64 0, .int .i64 0, .int .i64 0, .int .i64 0] 34)) (by simp))
      replace H2 := hide ((unhide H2).alloc (.cells #[.int .i64 0, .int .i64 0, .int .i64 0, .int .i64 0] 34))
      go_wp2_with fail
      generalize W2.alloc (.cells #[.int .i64 0, .int .i64 0, .int .i64 0, .int .i64 0] 34) = WW2 at *
      generalize W2.heap.size = b2 at *
      clear hb1lt q0 q1 q2 q3
      refine ((unhide H2).call fun _ ha => aSame _ _ ha).mono ?_
      rw [hsame]
      rintro e W3 ⟨rfl, h, k⟩
      have H3 := hide h
      replace S1 := hide ((unhide S1).kept k (by simp))
      clear h k H2
      go_wp2_with fail
      refine (awake_any _).mono ?_
      rintro e W4 ⟨rfl, hb⟩
      obtain ⟨h, k⟩ := (unhide H3).below hb
      have H4 := hide h
      replace S1 := hide ((unhide S1).kept k (by simp))
      clear h k hb H3
      go_wp2_with fail
      refine ((unhide H4).call fun _ ha => aPathAdd _ _ _ ha).mono ?_
      rw [f4, t4]
      rintro e W5 ⟨rfl, h, k⟩
      have H5 := hide h
      replace S1 := hide ((unhide S1).kept k (by simp))
      clear h k H4
      go_wp2_with fail
      refine ((unhide H5).call fun _ ha => aLca _ _ ha).mono ?_
      rw [f5]
      rintro e W6 ⟨rfl, h, k⟩
      have H6 := hide h
      replace S1 := hide ((unhide S1).kept k (by simp))
      clear h k H5
      go_wp2
      go_ret
      exact ⟨rfl, (unhide H6).bel⟩
    · obtain ⟨_, _, e1, e2, _, _, t, a0, b0, cc, hm⟩ := hW.same_true hsame
      rw [← Int.ofNat_inj.1 e1, ← Int.ofNat_inj.1 e2] at hm
      clear e1 e2
      obtain ⟨⟨f1, f2, f3, f4, f5⟩, ⟨g1, g2, g3, g4, g5, g6⟩, hway⟩ := hW.way_facts hm
      obtain ⟨r1, r2, r3, r4⟩ := hW.raise_facts hm hwb (n := d) ⟨hd0, hd1⟩
      obtain ⟨nd, hthw⟩ := Meet.way_nodup hW hm
      have hll : (t :: (a0 ++ b0)).length ≤ 25 := Nat.le_trans (nodup_len T.n _ nd (fun x hx => hW.lt x (hthw x hx))) (by omega)
      have hll' : a0.length + b0.length + 1 ≤ 25 := by simpa using hll
      obtain ⟨c1, c2, c3, c4⟩ := two_parts (T.wt t) (a0.map T.wt) (b0.map T.wt)
      obtain ⟨⟨p1, p2⟩, ⟨p3, p4⟩, ⟨p5, p6⟩, p7, p8⟩ := path_bd (l := t :: (a0 ++ b0)) hll (by simp) hwb
      obtain ⟨⟨o1, o2⟩, ⟨o3, o4⟩, ⟨o5, o6⟩, o7, o8⟩ := path_bd (l := t :: a0) (by simp; omega) (by simp) hwb
      obtain ⟨⟨y1, y2⟩, ⟨y3, y4⟩, ⟨y5, y6⟩, y7, y8⟩ := path_bd (l := t :: b0) (by simp; omega) (by simp) hwb
      have hcnt := count_mem nd (n := n) (fun x hx => by have := hW.lt x (hthw x hx); omega)
      have hlc : (ofL ((t :: (a0 ++ b0)).map T.wt)).c = ((t :: (a0 ++ b0)).length : Int) := by rw [ofL_c, List.length_map]
      have hwt := hwb t
      rw [← f1] at p1 p2 p3 p4 p5 p6 p7 p8 hlc
      rw [← g1] at o1 o2 o3 o4 o5 o6 o7 o8
      rw [← g2] at y1 y2 y3 y4 y5 y6 y7 y8
      rw [← List.map_append, ← List.map_cons, ← List.map_cons, ← List.map_cons, ← f1, ← g1, ← g2] at c1 c2 c3 c4
      rw [← f2] at f1
      clear f1 g1 g2 hll hll'
      have l1 := lf_parts p1 d
      obtain ⟨l1, l2, l3⟩ := l1
      rw [← r3] at l1 l2 l3
      have hpb := prod_bd hd0 hd1 p1 p2
      generalize hway2 : t :: (a0 ++ b0) = l at *
      clear hway2 hm a0 b0
      have HEX : Hid (∃ s, T.pathI a b = s) := ⟨_, rfl⟩
      obtain ⟨⟨sc, ss, sa, sb⟩, hs⟩ := HEX.out
      rw [hs] at f2 c1 c2 c3 c4 p1 p2 p3 p4 p5 p6 p7 p8 hlc l1 l2 l3 hpb
      clear HEX
      have HEX : Hid (∃ s, T.pathI a t = s) := ⟨_, rfl⟩
      obtain ⟨⟨xc', xs, xa', xb'⟩, hx⟩ := HEX.out
      rw [hx] at c1 c2 c3 c4 o1 o2 o3 o4 o5 o6 o7 o8
      clear HEX
      have HEX : Hid (∃ s, T.pathI t b = s) := ⟨_, rfl⟩
      obtain ⟨⟨yc, ys, ya, yb⟩, hy⟩ := HEX.out
      rw [hy] at c1 c2 c3 c4 y1 y2 y3 y4 y5 y6 y7 y8
      clear HEX
      have HEX : Hid (∃ s, (T.raise l d).pathI a b = s) := ⟨_, rfl⟩
      obtain ⟨⟨uc, us', ua, ub⟩, hu⟩ := HEX.out
      rw [hu] at l1 l2 l3
      clear HEX r3
      dsimp only at *
      have HEX : Hid (∃ P, d * sc = P) := ⟨_, rfl⟩
      obtain ⟨P, hP⟩ := HEX.out
      rw [hP] at l1 hpb
      clear HEX
      obtain ⟨hpb0, hpb1⟩ := hpb
      obtain ⟨hwt0, hwt1⟩ := hwt
      have HP := hide hP
      have HL := hide (And.intro l1 (And.intro l2 l3))
      have HC := hide (And.intro c1 (And.intro c2 (And.intro c3 c4)))
      have HN := hide (And.intro hcnt hlc)
      have HW := hide (And.intro hth (And.intro hTn (And.intro hwb hthw)))
      have HU := hide hu
      clear hP l1 l2 l3 c1 c2 c3 c4 hcnt hlc hW hth hTn hwb hct hpt nd hthw hway hu
      have HEX : Hid (∃ z, T.wt t = z) := ⟨_, rfl⟩
      obtain ⟨z, hz⟩ := HEX.out
      rw [hz] at g3 hwt0 hwt1 HC
      clear HEX hz
      refine ((unhide H0).call fun _ ha => aPath _ _ ha).mono ?_
      rw [hs, f3]
      unfold smV
      dsimp only
      rintro e W1 ⟨rfl, h, k⟩
      have H1 := hide h
      clear h k H0
      have S1 := hide (SumAt.new W1 34 sc ss sa sb)
      replace H1 := hide ((unhide H1).push (.cells #[.int .i64 sc, .int .i64 ss, .int .i64 sa, .int .i64 sb] 34))
      go_wp2_with fail
      generalize W1.alloc (.cells #[.int .i64 sc, .int .i64 ss, .int .i64 sa, .int .i64 sb] 34) = WW1 at *
      generalize W1.heap.size = b1 at *
      refine ((unhide H1).call fun _ ha => aPath _ _ ha).mono ?_
      rw [f2, f4]
      unfold smV
      dsimp only
      rintro e W2 ⟨rfl, h, k⟩
      have H2 := hide h
      replace S1 := hide ((unhide S1).kept k (by simp))
      clear h k H1
      obtain ⟨⟨q0, q1, q2, q3⟩, _⟩ := unhide S1
      dsimp only at q0 q1 q2 q3
      have hb1lt : b1 < W2.heap.size := (unhide H2).jl b1 (by simp)
      replace S1 := hide ((unhide S1).kept (kept_alloc (unhide H2) (.cells #[.int .i64 sc, .int .i64 ss, .int .i64 sa, .int .i64 sb] 34)) (by simp))
      replace H2 := hide ((unhide H2).alloc (.cells #[.int .i64 sc, .int .i64 ss, .int .i64 sa, .int .i64 sb] 34))
      go_wp2_with fail
      generalize W2.alloc (.cells #[.int .i64 sc, .int .i64 ss, .int .i64 sa, .int .i64 sb] 34) = WW2 at *
      generalize W2.heap.size = b2 at *
      clear hb1lt q0 q1 q2 q3
      refine ((unhide H2).call fun _ ha => aSame _ _ ha).mono ?_
      rw [f3]
      rintro e W3 ⟨rfl, h, k⟩
      have H3 := hide h
      replace S1 := hide ((unhide S1).kept k (by simp))
      clear h k H2
      replace H3 := hide ((unhide H3).less (is := [b1]) (by simp))
      go_wp2_with fail
      refine ((unhide H3).call fun _ ha => aLca _ _ ha).mono ?_
      rw [f5]
      rintro e W4 ⟨rfl, h, k⟩
      have H4 := hide h
      replace S1 := hide ((unhide S1).kept k (by simp))
      clear h k H3
      go_wp2_with fail
      refine ((unhide H4).call fun _ ha => aPath _ _ ha).mono ?_
      rw [hx, g5]
      unfold smV
      dsimp only
      rintro e W5 ⟨rfl, h, k⟩
      have H5 := hide h
      replace S1 := hide ((unhide S1).kept k (by simp))
      clear h k H4
      have S3 := hide (SumAt.new W5 34 xc' xs xa' xb')
      replace S1 := hide ((unhide S1).kept (kept_alloc (unhide H5) (.cells #[.int .i64 xc', .int .i64 xs, .int .i64 xa', .int .i64 xb'] 34)) (by simp))
      replace H5 := hide ((unhide H5).push (.cells #[.int .i64 xc', .int .i64 xs, .int .i64 xa', .int .i64 xb'] 34))
      go_wp2_with fail
      generalize W5.alloc (.cells #[.int .i64 xc', .int .i64 xs, .int .i64 xa', .int .i64 xb'] 34) = WW5 at *
      generalize W5.heap.size = b3 at *
      refine ((unhide H5).call fun _ ha => aPath _ _ ha).mono ?_
      rw [hy, g6]
      unfold smV
      dsimp only
      rintro e W6 ⟨rfl, h, k⟩
      have H6 := hide h
      replace S1 := hide ((unhide S1).kept k (by simp))
      replace S3 := hide ((unhide S3).kept k (by simp))
      clear h k H5
      have S4 := hide (SumAt.new W6 34 yc ys ya yb)
      replace S1 := hide ((unhide S1).kept (kept_alloc (unhide H6) (.cells #[.int .i64 yc, .int .i64 ys, .int .i64 ya, .int .i64 yb] 34)) (by simp))
      replace S3 := hide ((unhide S3).kept (kept_alloc (unhide H6) (.cells #[.int .i64 yc, .int .i64 ys, .int .i64 ya, .int .i64 yb] 34)) (by simp))
      replace H6 := hide ((unhide H6).push (.cells #[.int .i64 yc, .int .i64 ys, .int .i64 ya, .int .i64 yb] 34))
      go_wp2_with fail
      generalize W6.alloc (.cells #[.int .i64 yc, .int .i64 ys, .int .i64 ya, .int .i64 yb] 34) = WW6 at *
      generalize W6.heap.size = b4 at *
      refine ((unhide H6).call fun _ ha => aGet _ ha).mono ?_
      rw [g3, g4]
      rintro e W7 ⟨rfl, h, k⟩
      have H7 := hide h
      replace S1 := hide ((unhide S1).kept k (by simp))
      replace S3 := hide ((unhide S3).kept k (by simp))
      replace S4 := hide ((unhide S4).kept k (by simp))
      clear h k H6
      obtain ⟨⟨q0, q1, q2, q3⟩, _⟩ := unhide S1
      obtain ⟨⟨j0, j1, j2, j3⟩, _⟩ := unhide S3
      obtain ⟨⟨m0, m1, m2, m3⟩, _⟩ := unhide S4
      dsimp only at q0 q1 q2 q3 j0 j1 j2 j3 m0 m1 m2 m3
      obtain ⟨c1, c2, c3, c4⟩ := unhide HC
      have hmin : (if ya < xa' then ya else xa') = sa := by rw [← c3]; split <;> omega
      have hmax : (if xb' < yb then yb else xb') = sb := by rw [← c4]; split <;> omega
      have hmin2 : (if xa' ≤ ya then xa' else ya) = sa := by rw [← c3]; split <;> omega
      have hmax2 : (if yb ≤ xb' then xb' else yb) = sb := by rw [← c4]; split <;> omega
      clear c3 c4
      go_upto_region 18 with fail
      clear q0 q1 q2 q3 j0 j1 j2 j3 m0 m1 m2 m3 S3 S4 HC c1 c2 hmin hmax hmin2 hmax2
      replace H7 := hide ((unhide H7).less (is := [b1]) (by simp))
      clear hs f2 f3 f4 f5 g3 g4 g5 g6 hx hy
      clear y1 y2 y3 y4 y5 y6 y7 y8 o1 o2 o3 o4 o5 o6 o7 o8
      have hmk := run_make_row' (P := Try.prog) 53 3 (.int .i64 0) 8 Try.underlying53 Try.info3 rfl .i64 .i64 n (by omega) (by omega)
      have R := hide (World.rowIs_made W7 (.int .i64 0) n 3)
      have hwb9 := (unhide H7).bel.size
      have hb1w : b1 < W7.heap.size := (unhide H7).jl b1 (by simp)
      replace S1 := hide ((unhide S1).kept (kept_alloc (unhide H7) (.cells (madeCells #[.int .i64 0] n) 3)) (by simp))
      replace H7 := hide ((unhide H7).push (.cells (madeCells #[.int .i64 0] n) 3))
      go_wp2
      generalize W7.alloc (.cells (madeCells #[.int .i64 0] n) 3) = V at *
      generalize W7.heap.size = bw at *
      go_loopw [25] (fun i w' => ∃ (m : Nat) (f : Nat → Int), m ≤ n ∧ i = .int .i64 (m : Int) ∧ Hid (Ob w w' p T [bw, b1]) ∧ Hid (SumAt w' b1 ⟨sc, ss, sa, sb⟩) ∧ Hid (w'.rowIs bw 3 n (inV f) ∧ wasV T m f)) (fun i _ => n - (intOf i).toNat)
      case atStart => exact ⟨0, fun _ => 0, by omega, rfl, H7, S1, unhide R, fun i hi => by omega⟩
      case round =>
        clear H7 S1 R hmk
        obtain ⟨m, f, hm, rfl, H0, S1, R⟩ := hrel
        by_cases hlt : m < n
        · have e1 : (m : Int) < (n : Int) := by omega
          have e2 : (0 : Int) ≤ (m : Int) := by omega
          have hmt := (unhide HW).1 m hlt
          have f1 := getI_gr (n := n) hmt
          have f2 := Tr.hasI_there hmt
          have HMT := hide hmt
          clear hmt
          have HEX : Hid (∃ z, T.wt m = z) := ⟨_, rfl⟩
          obtain ⟨wm, hwm⟩ := HEX.out
          rw [hwm] at f1
          have HWM := hide hwm
          clear HEX hwm
          go_wp2_with fail
          refine ((unhide H0).call fun _ ha => aGet _ ha).mono ?_
          rw [f1, f2]
          rintro e W1 ⟨rfl, h, k⟩
          replace S1 := hide ((unhide S1).kept k (by simp))
          have hr := rowIs_kept (unhide R).1 k (by simp)
          have d9 := hr.cell hlt
          have f9 := hr.frozen m
          have H1 := hide (h.store (b := bw) (by simp) hwb9 m (.int .i64 wm))
          replace S1 := hide ((unhide S1).keep (keep_cell W1 bw m (.int .i64 wm)) (h.jl b1 (by simp)) (by simp; omega))
          have R1 := hide (And.intro (inV_set f m wm ▸ hr.set m (.int .i64 wm)) (show wasV T (m + 1) (updF f m wm) from fun i hi => by
            by_cases e : i = m
            · subst e; rw [updF_same]; exact (unhide HWM).symm
            · rw [updF_other _ _ e]; exact (unhide R).2 i (by omega)))
          clear h k H0 R hr f1 f2
          go_wp2
          go_roundw
          case rel => exact ⟨m + 1, updF f m wm, by omega, by go_num, H1, S1, R1⟩
          case measure => simp [intOf]; omega
        · have e1 : ¬ (m : Int) < (n : Int) := by omega
          have hmn : m = n := by omega
          have R2 : Hid (wr.rowIs bw 3 n (inV f) ∧ wasV T n f) := by rw [hmn] at R; exact R
          clear R hmn
          go_wp2_with fail
          refine ((unhide H0).call fun _ ha => aPathAdd _ _ _ ha).mono ?_
          rw [r1, r2]
          rintro e W1 ⟨rfl, h, k⟩
          have H1 := hide h
          replace S1 := hide ((unhide S1).kept k (by simp))
          have R3 := hide (And.intro (rowIs_kept (unhide R2).1 k (by simp)) (unhide R2).2)
          clear h k H0 R2 r1 r2
          go_wp2
          go_loopw [24, 26] (fun q i w' => ∃ (j : Nat) (A : Int), j ≤ n ∧ q = .int .i64 A ∧ i = .int .i64 (j : Int) ∧ 0 ≤ A ∧ A ≤ (j : Int) ∧ Hid (A = sumTo (chF T l d) j) ∧ Hid (Ob w w' p (T.raise l d) [bw, b1]) ∧ Hid (SumAt w' b1 ⟨sc, ss, sa, sb⟩) ∧ Hid (w'.rowIs bw 3 n (inV f))) (fun _ i _ => n - (intOf i).toNat)
          case atStart => exact ⟨0, 0, by omega, rfl, rfl, by omega, by omega, rfl, H1, S1, (unhide R3).1⟩
          case round =>
            have R4 := hide (unhide R3).2
            clear H1 S1 R3
            obtain ⟨j, A, hj, rfl, rfl, hA0, hA1, HA, H0, S1, R⟩ := hrel
            by_cases hlt : j < n
            · have e2 : (j : Int) < (n : Int) := by omega
              have e3 : (0 : Int) ≤ (j : Int) := by omega
              have hjt := (unhide HW).1 j hlt
              have hjw := (unhide HW).2.2.1 j
              have f1 : (T.raise l d).getI j = (T.raise l d).wt j := getI_gr (n := n) (T := T.raise l d) hjt
              have f2 : (T.raise l d).hasI j = true := Tr.hasI_there (T := T.raise l d) hjt
              have hfj := unhide R4 j hlt
              have hwj : (T.raise l d).wt j = if j ∈ l then T.wt j + d else T.wt j := rfl
              have hstep : Hid (sumTo (chF T l d) (j + 1) = A + chF T l d j) := by
                show sumTo (chF T l d) j + chF T l d j = _
                rw [← unhide HA]
              clear hjt
              have HEX : Hid (∃ z, T.wt j = z) := ⟨_, rfl⟩
              obtain ⟨wj, hz⟩ := HEX.out
              rw [hz] at hjw hfj hwj
              clear HEX hz
              obtain ⟨hw0, hw1⟩ := hjw
              by_cases hc : j ∈ l ∧ d ≠ 0
              · rw [if_pos hc.1] at hwj
                rw [hwj] at f1
                have hch : Hid (chF T l d j = 1) := by show (if j ∈ l ∧ d ≠ 0 then (1 : Int) else 0) = 1; rw [if_pos hc]
                have hne : (wj + d == wj) = false := by rw [beq_eq_false_iff_ne]; have := hc.2; omega
                clear hc hwj
                go_wp2_with fail
                refine ((unhide H0).call fun _ ha => aGet _ ha).mono ?_
                rw [f1, f2]
                rintro e W2 ⟨rfl, h, k⟩
                have H2 := hide h
                replace S1 := hide ((unhide S1).kept k (by simp))
                have hr := rowIs_kept (unhide R) k (by simp)
                have d9 := hr.cell hlt
                unfold inV at d9
                rw [hfj] at d9
                have R1 := hide hr
                clear h k H0 R hr f1 f2 hfj
                go_wp2
                go_roundw
                case rel => exact ⟨j + 1, A + 1, by omega, by go_num, by go_num, by omega, by omega, by show A + 1 = sumTo (chF T l d) (j + 1); rw [unhide hstep, unhide hch], H2, S1, R1⟩
                case measure => simp [intOf]; omega
              · have hwj2 : (T.raise l d).wt j = wj := by
                  rw [hwj]
                  by_cases hjl : j ∈ l
                  · rw [if_pos hjl]
                    have : d = 0 := Classical.byContradiction fun hd => hc ⟨hjl, hd⟩
                    omega
                  · rw [if_neg hjl]
                rw [hwj2] at f1
                have hch : Hid (chF T l d j = 0) := by show (if j ∈ l ∧ d ≠ 0 then (1 : Int) else 0) = 0; rw [if_neg hc]
                clear hc hwj hwj2
                go_wp2_with fail
                refine ((unhide H0).call fun _ ha => aGet _ ha).mono ?_
                rw [f1, f2]
                rintro e W2 ⟨rfl, h, k⟩
                have H2 := hide h
                replace S1 := hide ((unhide S1).kept k (by simp))
                have hr := rowIs_kept (unhide R) k (by simp)
                have d9 := hr.cell hlt
                unfold inV at d9
                rw [hfj] at d9
                have R1 := hide hr
                clear h k H0 R hr f1 f2 hfj
                go_wp2
                go_roundw
                case rel => exact ⟨j + 1, A, by omega, by go_num, by go_num, by omega, by omega, by show A = sumTo (chF T l d) (j + 1); rw [unhide hstep, unhide hch]; omega, H2, S1, R1⟩
                case measure => simp [intOf]; omega
            · have e2 : ¬ (j : Int) < (n : Int) := by omega
              have hjn : j = n := by omega
              have hAsc : d ≠ 0 → A = sc := fun hd => by
                obtain ⟨q1, q2⟩ := unhide HN
                rw [unhide HA, hjn, q2, ← q1]
                exact sumTo_congr fun i _ => by unfold chF; simp [hd]
              obtain ⟨l1, l2, l3⟩ := unhide HL
              have hu := unhide HU
              clear hjn R R4 HA
              subst l1 l2 l3
              replace H0 := hide ((unhide H0).less (is := [b1]) (by simp))
              have HAS := hide hAsc
              clear hAsc
              go_wp2_with fail
              refine ((unhide H0).call fun _ ha => aPath _ _ ha).mono ?_
              rw [hu, r4]
              unfold smV
              dsimp only
              rintro e W1 ⟨rfl, h, k⟩
              have H1 := hide h
              replace S1 := hide ((unhide S1).kept k (by simp))
              clear h k H0
              have S5 := hide (SumAt.new W1 34 uc (ss + P) (sa + d) (sb + d))
              replace S1 := hide ((unhide S1).kept (kept_alloc (unhide H1) (.cells #[.int .i64 uc, .int .i64 (ss + P), .int .i64 (sa + d), .int .i64 (sb + d)] 34)) (by simp))
              replace H1 := hide ((unhide H1).push (.cells #[.int .i64 uc, .int .i64 (ss + P), .int .i64 (sa + d), .int .i64 (sb + d)] 34))
              go_wp2_with fail
              generalize W1.alloc (.cells #[.int .i64 uc, .int .i64 (ss + P), .int .i64 (sa + d), .int .i64 (sb + d)] 34) = WW1 at *
              generalize W1.heap.size = b5 at *
              refine (awake_any _).mono ?_
              rintro e W20 ⟨rfl, hb⟩
              obtain ⟨h, k⟩ := (unhide H1).below hb
              have H20 := hide h
              obtain ⟨⟨q0, q1, q2, q3⟩, _⟩ := (unhide S1).kept k (by simp)
              obtain ⟨⟨j0, j1, j2, j3⟩, _⟩ := (unhide S5).kept k (by simp)
              dsimp only at q0 q1 q2 q3 j0 j1 j2 j3
              clear h k hb H1 S1 S5 hu r4
              have hP := unhide HP
              by_cases hd : d = 0
              · have hdb : (d == 0) = true := by rw [beq_iff_eq]; exact hd
                have HD := hide hd
                clear hd
                go_wp2_with fail
                refine ((unhide H20).call fun _ ha => aCheck ha).mono ?_
                rintro e W21 ⟨rfl, h, k⟩
                have H21 := hide h
                clear h k H20
                go_wp2
                go_ret
                exact ⟨rfl, (unhide H21).bel⟩
              · have hdb : (d == 0) = false := by rw [beq_eq_false_iff_ne]; exact hd
                have hA := unhide HAS hd
                subst hA
                clear hd
                go_wp2_with fail
                refine ((unhide H20).call fun _ ha => aCheck ha).mono ?_
                rintro e W21 ⟨rfl, h, k⟩
                have H21 := hide h
                clear h k H20
                go_wp2
                go_ret
                exact ⟨rfl, (unhide H21).bel⟩
end Go.Proofs.Ytjnkgakajenoaaa

import Derived.Test.YtkfboficcdiojaaC
namespace Go.Proofs.Ytkfboficcdiojaa
open Go.RowKit Go.Arb
set_option linter.unusedVariables false
set_option linter.unusedSimpArgs false

theorem mul_bd {c n : Int} (h0 : 0 ≤ c) (h1 : c ≤ 4194304) (h2 : -1099511627776 ≤ n) (h3 : n ≤ 1099511627776) : -4611686018427387904 ≤ c * n ∧ c * n ≤ 4611686018427387904 := by
  have a1 : c * n ≤ c * 1099511627776 := Int.mul_le_mul_of_nonneg_left h3 h0
  have a2 : c * (-1099511627776) ≤ c * n := Int.mul_le_mul_of_nonneg_left h2 h0
  omega

theorem lift_fit (xs : List It) (c s a b n c' s' a' b' : Int) (w : World) (hx : smL xs = ⟨c, s, a, b⟩) (hx' : smL (rz n xs) = ⟨c', s', a', b'⟩) (hl : xs.length ≤ 4194304) (hf : FitL xs) (hf' : FitL (rz n xs)) (h1 : -1099511627776 ≤ n) (h2 : n ≤ 1099511627776) :
    Calls Try.prog 83 #[.agg #[.int .i64 c, .int .i64 s, .int .i64 a, .int .i64 b], .int .i64 n] w fun r w' => r = .returned (.agg #[.int .i64 c', .int .i64 s', .int .i64 a', .int .i64 b']) ∧ Below w.heap.size w w' := by
  have hc := smL_c xs
  have hb := smL_bd hf hl
  have hb' := smL_bd hf' (by rw [rz_length]; exact hl)
  have hz := smL_rz n xs
  rw [hx'] at hz
  have he : xs = [] ∨ ((-1099511627776 ≤ (smL xs).a ∧ (smL xs).a ≤ (smL xs).b ∧ (smL xs).b ≤ 1099511627776)) := by
    by_cases e : xs = []
    · exact .inl e
    · exact .inr (smL_ends hf e)
  have he' : -1099511627776 ≤ (smL xs).a ∧ (smL xs).b ≤ 1099511627776 ∧ (smL xs).a ≤ 1099511627776 ∧ -1099511627776 ≤ (smL xs).b := by
    rcases he with e | e
    · subst e; rw [smL_nil]; simp [zero]
    · omega
  rw [hx'] at hb'
  rw [hx] at hc hb he' hz
  dsimp only at hc hb hb' he'
  obtain ⟨q1, q2⟩ := mul_bd (c := c) (n := n) (by omega) (by omega) h1 h2
  by_cases hc0 : c = 0
  · have e0 : xs = [] := List.length_eq_zero_iff.1 (by omega)
    subst e0
    rw [smL_nil] at hx
    obtain ⟨rfl, rfl, rfl, rfl⟩ : c = 0 ∧ s = 0 ∧ a = 0 ∧ b = 0 := by
      have := hx; simp only [zero, Sm.mk.injEq] at this; omega
    refine (lift_any 0 0 0 0 n 0 w (by omega) (by omega) (by omega) (by omega) (by omega) (by omega) (by omega) (by omega) (by omega)).mono ?_
    rintro e w' ⟨rfl, hb⟩
    refine ⟨?_, hb⟩
    rw [← hz]; rfl
  · have hz' := hz
    simp only [lf, hc0, if_false, Sm.mk.injEq] at hz'
    obtain ⟨z1, z2, z3, z4⟩ := hz'
    refine (lift_any c s a b n (c * n) w rfl q1 q2 (by omega) (by omega) (by omega) (by omega) (by omega) (by omega)).mono ?_
    rintro e w' ⟨rfl, hb⟩
    refine ⟨?_, hb⟩
    rw [← hz]; rfl

set_option maxHeartbeats 400000 in
theorem lifted_any (xs : List It) (c s a b n c' s' a' b' : Int) (w : World) (hx : smL xs = ⟨c, s, a, b⟩) (hx' : smL (rz n xs) = ⟨c', s', a', b'⟩) (hl : xs.length ≤ 4194304) (hf : FitL xs) (hf' : FitL (rz n xs)) (h1 : -2199023255552 ≤ n) (h2 : n ≤ 2199023255552) :
    Calls Try.prog 74 #[.agg #[.int .i64 c, .int .i64 s, .int .i64 a, .int .i64 b], .int .i64 n] w fun r w' => r = .returned (.agg #[.int .i64 c', .int .i64 s', .int .i64 a', .int .i64 b']) ∧ Below w.heap.size w w' := by
  have hh : Hid (∃ k : Int, n.tdiv 2 = k) := ⟨_, rfl⟩
  obtain ⟨k, hk⟩ := hh.out
  have hm : (0 ≤ k ∧ k ≤ n) ∨ (n ≤ k ∧ k ≤ 0) := by
    rcases Int.le_total 0 n with h | h
    · rw [Int.tdiv_eq_ediv_of_nonneg h] at hk; omega
    · have : n.tdiv 2 = -((-n).tdiv 2) := by rw [Int.neg_tdiv]; omega
      rw [this, Int.tdiv_eq_ediv_of_nonneg (by omega)] at hk; omega
  have hk1 : -1099511627776 ≤ k ∧ k ≤ 1099511627776 ∧ -1099511627776 ≤ n - k ∧ n - k ≤ 1099511627776 := by
    rcases Int.le_total 0 n with h | h
    · rw [Int.tdiv_eq_ediv_of_nonneg h] at hk; omega
    · have : n.tdiv 2 = -((-n).tdiv 2) := by rw [Int.neg_tdiv]; omega
      rw [this, Int.tdiv_eq_ediv_of_nonneg (by omega)] at hk; omega
  have fk := FitL.mid hf hf' hm
  have HY : Hid (∃ y, smL (rz k xs) = y) := ⟨_, rfl⟩
  obtain ⟨⟨d1, d2, d3, d4⟩, hy⟩ := HY.out
  have e1 : rz (n - k) (rz k xs) = rz n xs := by rw [rz_rz]; congr 1; omega
  have A1 := hide (fun W => lift_fit xs c s a b k d1 d2 d3 d4 W hx hy hl hf fk hk1.1 hk1.2.1)
  have A2 := hide (fun W => lift_fit (rz k xs) d1 d2 d3 d4 (n - k) c' s' a' b' W hy (by rw [e1]; exact hx') (by rw [rz_length]; exact hl) fk (by rw [e1]; exact hf') hk1.2.2.1 hk1.2.2.2)
  obtain ⟨k1, k2, k3, k4⟩ := hk1
  clear hx hx' hl hf hf' fk hy e1 HY hh hm
  have h0 : SumAt ((w.alloc (.cells #[.int .i64 c, .int .i64 s, .int .i64 a, .int .i64 b] 33)).alloc (.cells #[.int .i64 0, .int .i64 0, .int .i64 0, .int .i64 0] 33)) (w.heap.size + 1) zero := by simp [SumAt, zero, go_sem]
  have HS := hide h0
  clear h0
  go_enter Try.func74, Try.ntmps74
  go_wp2_with fail
  refine (unhide A1 _).mono ?_
  rintro e w1 ⟨rfl, hb1⟩
  have z1 : w.heap.size + 1 < w1.heap.size := by have := hb1.size; simp at this; omega
  have HS1 := hide ((unhide HS).below hb1 (by simp))
  have HB1 := hide ((b2 w _ _).trans (hb1.mono (by simp; omega)))
  clear HS hb1
  go_wp2_with fail
  refine (unhide A2 _).mono ?_
  rintro e w2 ⟨rfl, hb2⟩
  have h1 := (unhide HS1).below hb2 z1
  have HS2 := hide h1
  obtain ⟨⟨q0, q1, q2, q3⟩, f0, f1, f2, f3⟩ := h1
  have HB := hide ((unhide HB1).trans (hb2.mono (by omega)))
  clear HS1 HB1 hb2
  go_wp2
  obtain ⟨⟨p0, p1, p2, p3⟩, _⟩ := SumAt.put (x := ⟨c', s', a', b'⟩) (unhide HS2)
  refine bodyPost_ret (v := .agg #[.int .i64 c', .int .i64 s', .int .i64 a', .int .i64 b']) ?_ rfl ⟨rfl, below_put (x := ⟨c', s', a', b'⟩) (unhide HB) (by omega)⟩
  simp only [putSum] at p0 p1 p2 p3
  simp [results, Try.results74, go_sem, p0, p1, p2, p3]

/-- The four cells of a slot's sum, laid anew. -/
theorem Pool.putSm {w : World} {p g n cap room : Nat} {S : Ss} (h : Pool w p g n cap room S) {t : Nat} (ht : t < n) (x : Sm) :
    Pool ((((w.setCell ⟨g, t * 10 + 6, none⟩ (.int .i64 x.c)).setCell ⟨g, t * 10 + 7, none⟩ (.int .i64 x.s)).setCell ⟨g, t * 10 + 8, none⟩ (.int .i64 x.a)).setCell ⟨g, t * 10 + 9, none⟩ (.int .i64 x.b)) p g n cap room (upd S t { S t with sm := x }) := by
  have a1 := h.put ht 6 (by omega) { S t with sm := { (S t).sm with c := x.c } } (.int .i64 x.c) rfl
  have a2 := a1.put ht 7 (by omega) { S t with sm := { (S t).sm with c := x.c, s := x.s } } (.int .i64 x.s) (by rw [upd_same]; rfl)
  have a3 := a2.put ht 8 (by omega) { S t with sm := { (S t).sm with c := x.c, s := x.s, a := x.a } } (.int .i64 x.a) (by rw [upd_same]; rfl)
  have a4 := a3.put ht 9 (by omega) { S t with sm := x } (.int .i64 x.b) (by rw [upd_same]; rfl)
  have e : upd (upd (upd (upd S t { S t with sm := { (S t).sm with c := x.c } }) t { S t with sm := { (S t).sm with c := x.c, s := x.s } }) t { S t with sm := { (S t).sm with c := x.c, s := x.s, a := x.a } }) t { S t with sm := x } = upd S t { S t with sm := x } := by
    funext j; simp only [upd]; split <;> rfl
  rw [e] at a4
  exact a4
theorem upd_upd (S : Ss) (t : Nat) (x y : Sl) : upd (upd S t x) t y = upd S t y := by funext j; simp only [upd]; split <;> rfl

set_option maxHeartbeats 1000000 in
theorem raise_any (t : Nat) (d : Int) (ys : List It) (w : World) (p g n cap room : Nat) (S : Ss) (h : Pool w p g n cap room S) (z : Z S) (hp : Pt S t ys) (hf : FitL (rz d ys)) (hl : ys.length ≤ 4194304) (ht : t < n) (h1 : -2199023255552 ≤ d) (h2 : d ≤ 2199023255552) :
    Calls Try.prog 75 #[.pointer (some ⟨p, 0, none⟩), .int .i64 (t : Int), .int .i64 d] w fun e w' => e = .returned (.tuple #[]) ∧ Pool w' p g n cap room (raiseS S t d) ∧ Keep [g] w w' := by
  by_cases t0 : t = 0
  · subst t0
    rw [show raiseS S 0 d = S from by simp [raiseS]]
    clear hp hf hl z
    have HH := hide h
    clear h
    go_enter Try.func75, Try.ntmps75
    go_wp2
    refine bodyPost_ret (results_none rfl _ _ _) rfl ?_
    exact ⟨rfl, unhide HH, Keep.refl _ _⟩
  obtain ⟨xl, xr, p1, p2, h3⟩ := hp.node t0
  obtain ⟨fw1, fw2⟩ := h3.fitl.2.2
  obtain ⟨wa1, wa2⟩ := h3.wabd p1 p2
  have hm : ((t, (S t).wt) : It) ∈ ys := by rw [h3.eq]; simp
  have hm' := hf (t, (S t).wt + d) (List.mem_map.2 ⟨_, hm, rfl⟩)
  obtain ⟨fd1, fd2⟩ := hm'
  dsimp only at fd1 fd2
  have hadd : addV (S t).wt d = (S t).wt + d := by
    rw [addV, if_pos]; simp [addB, fitB, inB]; omega
  have HY : Hid (∃ y, smL ys = y) := ⟨_, rfl⟩
  obtain ⟨⟨c, s, a, b⟩, hy⟩ := HY.out
  have HY' : Hid (∃ y, smL (rz d ys) = y) := ⟨_, rfl⟩
  obtain ⟨⟨c', s', a', b'⟩, hy'⟩ := HY'.out
  have hsm : (S t).sm = ⟨c, s, a, b⟩ := by rw [h3.sm]; exact hy
  have hlf : lf (S t).sm d = ⟨c', s', a', b'⟩ := by rw [h3.sm, ← smL_rz]; exact hy'
  have A1 := hide (fun W => lifted_any ys c s a b d c' s' a' b' W hy hy' hl h3.fit hf h1 h2)
  have hr : raiseS S t d = upd S t { S t with wt := (S t).wt + d, sm := ⟨c', s', a', b'⟩, wa := if 1 < (S t).h then (S t).wa + d else (S t).wa } := by rw [raiseS, if_neg t0, hlf]
  rw [hr]
  have HP := hide h
  have HN := hide (And.intro h.ne h.lt)
  obtain ⟨_, c1, _, _, k1, k2⟩ := h.head
  obtain ⟨e0, e1, e2, e3, e4, e5, e6, e7, e8, e9⟩ := h.slot ht
  obtain ⟨f0, f1, f2, f3, f4, f5, f6, f7, f8, f9⟩ := h.soft ht
  rw [hsm] at e6 e7 e8 e9
  have b0 : ((t : Int) == 0) = false := by rw [beq_eq_false_iff_ne]; omega
  have b1 : (0 : Int) ≤ (t : Int) := by omega
  have b2' : (t : Int) < (n : Int) := by omega
  have hbt : t * 10 + 9 < n * 10 := by omega
  have HA := hide hadd
  clear h hp hf hl z hm hsm hlf hr p1 p2 h3 hy hy' HY HY' e0 e1 e2 f0 f1 f2 hadd
  generalize hx : S t = x at *
  obtain ⟨xu, xl', xr', xh, xw, xa, xs⟩ := x
  dsimp only at *
  have HX := hide hx
  clear hx
  go_enter Try.func75, Try.ntmps75
  go_wp2_with fail
  refine (heavier_any _ _ _).mono ?_
  rw [unhide HA]
  rintro e w' ⟨rfl, rfl⟩
  go_wp2_with fail
  refine (unhide A1 _).mono ?_
  rintro e w2 ⟨rfl, hb⟩
  have P1 := ((unhide HP).put ht 4 (by omega) ⟨xu, xl', xr', xh, xw + d, xa, xs⟩ (.int .i64 (xw + d)) (by rw [unhide HX]; rfl)).below hb
  have K1 : Keep [g] w w2 := (keep_cell w g (t * 10 + 4) (.int .i64 (xw + d))).belowB hb
  clear e3 e4 e5 e6 e7 e8 e9 f3 f4 f5 f6 f7 f8 f9 hb A1
  obtain ⟨_, c1', _, _, _, _⟩ := P1.head
  obtain ⟨e0, e1, e2, e3, e4, e5, e6, e7, e8, e9⟩ := P1.slot ht
  obtain ⟨f0, f1, f2, f3, f4, f5, f6, f7, f8, f9⟩ := P1.soft ht
  rw [upd_same] at e0 e1 e2 e3 e4 e5 e6 e7 e8 e9
  have PP := hide P1
  have KK := hide K1
  clear P1 K1 HP c1 e0 e1 e2 e4 f0 f1 f2 f4
  by_cases hh : 1 < xh
  · have hh' : 1 < (xh : Int) := by omega
    go_wp2
    go_end0
    refine ⟨rfl, ?_, ?_⟩
    · skip
      have Q1 := (unhide PP).putSm ht ⟨c', s', a', b'⟩
      have Q2 := Q1.put ht 5 (by omega) ⟨xu, xl', xr', xh, xw + d, xa + d, ⟨c', s', a', b'⟩⟩ (.int .i64 (xa + d)) (by simp only [upd_same]; rfl)
      simp only [upd_upd] at Q2
      exact Q2
    · exact (((((unhide KK).cellB _ _).cellB _ _).cellB _ _).cellB _ _).cellB _ _
  · have hh' : ¬ 1 < (xh : Int) := by omega
    go_wp2
    go_end0
    refine ⟨rfl, ?_, ?_⟩
    · skip
      have Q1 := (unhide PP).putSm ht ⟨c', s', a', b'⟩
      simp only [upd_upd, upd_same] at Q1
      exact Q1
    · exact ((((unhide KK).cellB _ _).cellB _ _).cellB _ _).cellB _ _

/-- How far a part reaches: its slots are in the list. -/
theorem Pt.ltn {w : World} {p g n cap room : Nat} {S : Ss} {t : Nat} {xs : List It} (h : Pool w p g n cap room S) (hp : Pt S t xs) (z : Z S) : ∀ u ∈ ids xs, u < n := by
  refine Pt.rec' (P := fun _ xs => ∀ u ∈ ids xs, u < n) (by simp [ids]) ?_ hp
  intro t xl xr xs _ _ h3 h4 h5 u hu
  rw [h3.idl] at hu
  rcases List.mem_append.1 hu with h' | h'
  · exact h4 u h'
  · rcases List.mem_cons.1 h' with rfl | h'
    · refine Classical.byContradiction fun hn => ?_
      have := h3.h
      rw [h.out (by omega)] at this
      simp [Sl.zero] at this
      omega
    · exact h5 u h'
theorem Pool.n0 {w : World} {p g n cap room : Nat} {S : Ss} (h : Pool w p g n cap room S) : n ≤ cap := h.head.2.2.2.2.1
theorem Pt.lt {w : World} {p g n cap room : Nat} {S : Ss} {t : Nat} {xs : List It} (h : Pool w p g n cap room S) (hp : Pt S t xs) (z : Z S) (hn : 0 < n) : t < n := by
  by_cases e : t = 0
  · omega
  · exact hp.ltn h z t (hp.mem e)

set_option maxHeartbeats 1000000 in
theorem settle_any (t : Nat) (xs : List It) (w : World) (p g n cap room : Nat) (S : Ss) (h : Pool w p g n cap room S) (z : Z S) (hp : Pt S t xs) (nd : (ids xs).Nodup) (hl : xs.length ≤ 4194304) (ht : t ≠ 0) :
    Calls Try.prog 69 #[.pointer (some ⟨p, 0, none⟩), .int .i64 (t : Int)] w fun e w' => e = .returned (.tuple #[]) ∧ Pool w' p g n cap room (settleS S t) ∧ Keep [g] w w' := by
  obtain ⟨xl, xr, p1, p2, h3⟩ := hp.node ht
  have htn := hp.ltn h z t h3.mem
  have b1 : (0 : Int) ≤ (t : Int) := by omega
  have b2' : (t : Int) < (n : Int) := by omega
  have ap := h3.ap nd
  have hlen := h3.length
  obtain ⟨wa1, wa2⟩ := h3.wabd p1 p2
  have el := p1.top_ne ht ap.tl
  have er := p2.top_ne ht ap.tr
  obtain ⟨_, c1, _, _, k1, k2⟩ := h.head
  obtain ⟨e0, e1, e2, e3, e4, e5, e6, e7, e8, e9⟩ := h.slot htn
  obtain ⟨f0, f1, f2, f3, f4, f5, f6, f7, f8, f9⟩ := h.soft htn
  by_cases hw : (S t).wa = 0
  · rw [show settleS S t = S from by simp [settleS, hw]]
    have HH := hide h
    rw [hw] at e5
    clear h hp h3 p1 p2 ap z nd
    go_enter Try.func69, Try.ntmps69
    go_wp2
    refine bodyPost_ret (results_none rfl _ _ _) rfl ?_
    exact ⟨rfl, unhide HH, Keep.refl _ _⟩
  · have e : settleS S t = raiseS (raiseS (upd S t { S t with wa := 0 }) (S t).l (S t).wa) (S t).r (S t).wa := by simp [settleS, hw]
    rw [e]
    have hw' : ((S t).wa == 0) = false := by rw [beq_eq_false_iff_ne]; exact hw
    have P0 := h.put htn 5 (by omega) { S t with wa := 0 } (.int .i64 0) rfl
    generalize hS1 : upd S t { S t with wa := 0 } = S1 at *
    have s1t : S1 t = { S t with wa := 0 } := by rw [← hS1, upd_same]
    have s1n : ∀ u, u ≠ t → S1 u = S u := fun u hu => by rw [← hS1, upd_ne _ _ hu]
    have z1 : Z S1 := by unfold Z; rw [s1n 0 (fun e => ht e.symm)]; exact z
    have a1 : Pt S1 (S t).l xl := p1.frame (s1n 0 (fun e => ht e.symm)) ap.nl (fun u hu => s1n u (fun e => ap.tl (e ▸ hu)))
    have a2 : Pt S1 (S t).r xr := p2.frame (s1n 0 (fun e => ht e.symm)) ap.nr (fun u hu => s1n u (fun e => ap.tr (e ▸ hu)))
    have f := h3.fitl
    have nel : ∀ u ∈ ids xr, u ≠ (S t).l := fun u hu e => by
      by_cases e0 : (S t).l = 0
      · exact p2.ne0 u hu (e.trans e0)
      · exact ap.lr _ (p1.mem e0) (e ▸ hu)
    have zz := raiseS_z (t := (S t).l) (d := (S t).wa) z1
    have b2 : Pt (raiseS S1 (S t).l (S t).wa) (S t).r xr := a2.frame (by rw [zz, z1]) ap.nr (fun u hu => raiseS_ne (nel u hu))
    have lln := p1.lt h z (by omega)
    have lrn := p2.lt h z (by omega)
    have s2t : raiseS S1 (S t).l (S t).wa t = { S t with wa := 0 } := by rw [raiseS_ne el.symm, s1t]
    have A1 := hide (raise_any (S t).l (S t).wa xl _ p g n cap room S1 P0 z1 a1 f.1 (by omega) lln wa1 wa2)
    have A2 := hide (fun W hW => raise_any (S t).r (S t).wa xr W p g n cap room (raiseS S1 (S t).l (S t).wa) hW zz b2 f.2.1 (by omega) lrn wa1 wa2)
    have HN := hide (And.intro h.ne h.lt)
    have HS := hide s2t
    clear h hp h3 p1 p2 ap z nd P0 hS1 s1n z1 a1 a2 f nel zz b2 e s2t s1t
    generalize raiseS (raiseS S1 (S t).l (S t).wa) (S t).r (S t).wa = S3 at *
    generalize raiseS S1 (S t).l (S t).wa = S2 at *
    generalize hx : S t = x at *
    obtain ⟨xu, xl', xr', xh, xw, xa, xs⟩ := x
    dsimp only at *
    clear hx
    clear e0 e3 e4 e6 e7 e8 e9 f0 f1 f2 f3 f4 f6 f7 f8 f9
    go_enter Try.func69, Try.ntmps69
    go_wp2_with fail
    refine (unhide A1).mono ?_
    rintro e w1 ⟨rfl, hP, hK⟩
    have A3 := hide (unhide A2 w1 hP)
    obtain ⟨e0, e1', e2', _⟩ := hP.slot htn
    rw [unhide HS] at e1' e2'
    dsimp only at e1' e2'
    have KK := hide ((keep_cell w g (t * 10 + 5) (.int .i64 0)).tr hK)
    clear A1 A2 e0 hP hK c1 e1 e2 e5 f5
    go_wp2_with fail
    refine (unhide A3).mono ?_
    rintro e w2 ⟨rfl, hP, hK⟩
    have R := hide (And.intro hP ((unhide KK).tr hK))
    clear hP hK KK A3
    go_wp2
    go_end0
    exact ⟨rfl, unhide R⟩
end Go.Proofs.Ytkfboficcdiojaa

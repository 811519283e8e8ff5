import Derived.Test.YtkfboficcdiojaaD15
namespace Go.Proofs.Ytkfboficcdiojaa
open Go.RowKit Go.Arb
set_option linter.unusedVariables false
set_option linter.unusedSimpArgs false

section
variable {w w' : World} {p g n cap room : Nat} {S S' : Ss} {A : Se}
theorem SumAt.new33 (W : World) (c s a b : Int) : SumAt (W.alloc (.cells #[.int .i64 c, .int .i64 s, .int .i64 a, .int .i64 b] 33)) W.heap.size ⟨c, s, a, b⟩ := by simp [SumAt, go_sem]
/-- A pool, a slot's copy, and perhaps a sum, of the call's own. -/
structure Fb (w W : World) (p g n cap room : Nat) (S : Ss) (B : Nat) (x : Sl) : Prop where
  po : Pool W p g n cap room S
  b : SlAt W B x
  lb : B < W.heap.size
  bel : Below w.heap.size w W
  ge : w.heap.size ≤ B
theorem Fb.below {w W W' : World} {B : Nat} {x : Sl} (h : Fb w W p g n cap room S B x) (hb : Below W.heap.size W W') : Fb w W' p g n cap room S B x :=
  ⟨h.po.below hb, h.b.keep (Keep.ofBelow hb []) h.lb (by simp), Nat.lt_of_lt_of_le h.lb hb.size, h.bel.trans (hb.mono h.bel.size), h.ge⟩

/-- So, with a sum. -/
structure Fc (w W : World) (p g n cap room : Nat) (S : Ss) (B : Nat) (x : Sl) (C : Nat) (q : Sm) : Prop where
  fb : Fb w W p g n cap room S B x
  s : SumAt W C q
  lc : C < W.heap.size
/-- So, with two. -/
structure Fz (w W : World) (p g n cap room : Nat) (S : Ss) (B : Nat) (x : Sl) (C : Nat) (q : Sm) (U : Nat) (y : Sm) : Prop where
  fc : Fc w W p g n cap room S B x C q
  u : SumAt W U y
  lu : U < W.heap.size
  n1 : C ≠ U
  n2 : B ≠ U
  n3 : p ≠ U
  n4 : g ≠ U
  n5 : w.heap.size ≤ U
section
variable {w W W' : World} {B C U : Nat} {x : Sl} {q y : Sm}
theorem Fc.below (h : Fc w W p g n cap room S B x C q) (hb : Below W.heap.size W W') : Fc w W' p g n cap room S B x C q := ⟨h.fb.below hb, h.s.below hb h.lc, Nat.lt_of_lt_of_le h.lc hb.size⟩
theorem Fz.below (h : Fz w W p g n cap room S B x C q U y) (hb : Below W.heap.size W W') : Fz w W' p g n cap room S B x C q U y :=
  ⟨h.fc.below hb, h.u.below hb h.lu, Nat.lt_of_lt_of_le h.lu hb.size, h.n1, h.n2, h.n3, h.n4, h.n5⟩
theorem Fc.drew (h : Fc w W p g n cap room S B x C q) : Fc w W.drew p g n cap room S B x C q := h.below (below_drew (Below.refl _ _))
theorem Fz.drew (h : Fz w W p g n cap room S B x C q U y) : Fz w W.drew p g n cap room S B x C q U y := h.below (below_drew (Below.refl _ _))
theorem Fc.alloc (h : Fc w W p g n cap room S B x C q) (c s a b : Int) : Fz w (W.alloc (.cells #[.int .i64 c, .int .i64 s, .int .i64 a, .int .i64 b] 33)) p g n cap room S B x C q W.heap.size ⟨c, s, a, b⟩ := by
  have h1 := h.fb.po.lt
  have h2 := h.fb.lb
  have h3 := h.lc
  have h4 := h.fb.bel.size
  exact ⟨h.below ((Below.refl _ _).alloc (Nat.le_refl _) _), SumAt.new33 W c s a b, by simp, by omega, by omega, by omega, by omega, by omega⟩
theorem Fz.put (h : Fz w W p g n cap room S B x C q U y) (c s a b : Int) : Fz w (putSum W U ⟨c, s, a, b⟩) p g n cap room S B x C q U ⟨c, s, a, b⟩ := by
  have k := keep_putSum W U ⟨c, s, a, b⟩
  refine ⟨⟨⟨h.fc.fb.po.keep k (by simpa using h.n3) (by simpa using h.n4), h.fc.fb.b.keep k h.fc.fb.lb (by simpa using h.n2), ?_, below_put h.fc.fb.bel h.n5, h.fc.fb.ge⟩, h.fc.s.put_other h.n1, ?_⟩, h.u.put, ?_, h.n1, h.n2, h.n3, h.n4, h.n5⟩
  · rw [putSum_size]; exact h.fc.fb.lb
  · rw [putSum_size]; exact h.fc.lc
  · rw [putSum_size]; exact h.lu
end

set_option maxRecDepth 100000 in
set_option maxHeartbeats 4000000 in
theorem sumFits_any (t : Nat) (xl xr xs : List It) (h : Pool w p g n cap room S) (nb : Nb S n t xl xr xs) (htn : t < n) : Calls Try.prog 79 #[.pointer (some ⟨p, 0, none⟩), .int .i64 (t : Int)] w fun e w' => e = .returned (.bool true) ∧ Below w.heap.size w w' := by
  have m1 := nb.pl.sm nb.z
  have m2 := nb.pr.sm nb.z
  have m3 := nb.nd.sm
  have ft := nb.nd.fitl
  have wab := nb.nd.wabd nb.pl nb.pr
  have hlen := nb.nd.length
  have hl4 := nb.len
  have F0 : Hid (Fb w (w.alloc (.cells #[.int .i64 ((S t).up : Int), .int .i64 ((S t).l : Int), .int .i64 ((S t).r : Int), .int .i64 ((S t).h : Int), .int .i64 (S t).wt, .int .i64 (S t).wa, .int .i64 (S t).sm.c, .int .i64 (S t).sm.s, .int .i64 (S t).sm.a, .int .i64 (S t).sm.b] 67)) p g n cap room S w.heap.size (S t)) := by
    have hb := (Below.refl w.heap.size w).alloc (Nat.le_refl _) (.cells #[.int .i64 ((S t).up : Int), .int .i64 ((S t).l : Int), .int .i64 ((S t).r : Int), .int .i64 ((S t).h : Int), .int .i64 (S t).wt, .int .i64 (S t).wa, .int .i64 (S t).sm.c, .int .i64 (S t).sm.s, .int .i64 (S t).sm.a, .int .i64 (S t).sm.b] 67)
    exact ⟨h.below hb, SlAt.new w (S t), by simp, hb, Nat.le_refl _⟩
  -- the sums
  have J1 := hide (show ∀ W : World, Calls Try.prog 73 #[.agg #[.int .i64 (smL xl).c, .int .i64 (smL xl).s, .int .i64 (smL xl).a, .int .i64 (smL xl).b], .agg #[.int .i64 (smL xr).c, .int .i64 (smL xr).s, .int .i64 (smL xr).a, .int .i64 (smL xr).b]] W fun r w' => r = .returned (.agg #[.int .i64 (smL (xl ++ xr)).c, .int .i64 (smL (xl ++ xr)).s, .int .i64 (smL (xl ++ xr)).a, .int .i64 (smL (xl ++ xr)).b]) ∧ Below W.heap.size W w' from fun W => by
    have g1 := smL_bd (xs := xl ++ xr) (by rw [FitL.append]; exact ⟨nb.pl.fit, nb.pr.fit⟩) (by simp; omega)
    rw [smL_s] at g1
    have g2 := smL_c xl
    have g3 := smL_c xr
    have := join_any (smL xl).c (smL xl).s (smL xl).a (smL xl).b (smL xr).c (smL xr).s (smL xr).a (smL xr).b W (by omega) (by omega) (by omega) (by omega)
    rw [smL_append]
    exact this)
  have LF := hide (fun W => lifted_any (xl ++ xr) (smL (xl ++ xr)).c (smL (xl ++ xr)).s (smL (xl ++ xr)).a (smL (xl ++ xr)).b (S t).wa (smL (rz (S t).wa (xl ++ xr))).c (smL (rz (S t).wa (xl ++ xr))).s (smL (rz (S t).wa (xl ++ xr))).a (smL (rz (S t).wa (xl ++ xr))).b W rfl rfl (by simp; omega) (by rw [FitL.append]; exact ⟨nb.pl.fit, nb.pr.fit⟩) (by rw [rz_append, FitL.append]; exact ⟨ft.1, ft.2.1⟩) wab.1 wab.2)
  have e4 : jn (smL (rz (S t).wa (xl ++ xr))) (one (S t).wt) = (S t).sm := by
    rw [m3, nb.nd.eq, show (t, (S t).wt) :: rz (S t).wa xr = [(t, (S t).wt)] ++ rz (S t).wa xr from rfl, jn_swap, smL_one, ← rz_append]
  have J2 := hide (show ∀ W : World, Calls Try.prog 73 #[.agg #[.int .i64 (smL (rz (S t).wa (xl ++ xr))).c, .int .i64 (smL (rz (S t).wa (xl ++ xr))).s, .int .i64 (smL (rz (S t).wa (xl ++ xr))).a, .int .i64 (smL (rz (S t).wa (xl ++ xr))).b], .agg #[.int .i64 1, .int .i64 (S t).wt, .int .i64 (S t).wt, .int .i64 (S t).wt]] W fun r w' => r = .returned (.agg #[.int .i64 (S t).sm.c, .int .i64 (S t).sm.s, .int .i64 (S t).sm.a, .int .i64 (S t).sm.b]) ∧ Below W.heap.size W w' from fun W => by
    have g1 := smL_bd (xs := rz (S t).wa (xl ++ xr) ++ [(t, (S t).wt)]) (by rw [FitL.append, rz_append, FitL.append, FitL.cons]; exact ⟨⟨ft.1, ft.2.1⟩, ft.2.2, FitL.nil⟩) (by simp [rz]; omega)
    rw [smL_s, smL_one] at g1
    simp only [one] at g1
    have g2 := smL_c (rz (S t).wa (xl ++ xr))
    rw [rz_length, List.length_append] at g2
    have := join_any (smL (rz (S t).wa (xl ++ xr))).c (smL (rz (S t).wa (xl ++ xr))).s (smL (rz (S t).wa (xl ++ xr))).a (smL (rz (S t).wa (xl ++ xr))).b 1 (S t).wt (S t).wt (S t).wt W (by omega) (by omega) (by omega) (by omega)
    rw [show jn ⟨(smL (rz (S t).wa (xl ++ xr))).c, (smL (rz (S t).wa (xl ++ xr))).s, (smL (rz (S t).wa (xl ++ xr))).a, (smL (rz (S t).wa (xl ++ xr))).b⟩ ⟨1, (S t).wt, (S t).wt, (S t).wt⟩ = (S t).sm from e4] at this
    exact this)
  have ends := smL_ends nb.nd.fit (fun e => by rw [e] at hlen; simp at hlen; omega)
  rw [← m3] at ends
  have fa := hide (show fitB (S t).sm.a = true from by simp only [fitB, decide_eq_true_eq]; omega)
  have fb := hide (show fitB (S t).sm.b = true from by simp only [fitB, decide_eq_true_eq]; omega)
  have hwc : Hid ((S t).wa = 0 ∨ (((S t).wa == 0) = false ∧ 0 < (smL (xl ++ xr)).c)) := by
    by_cases h0 : (S t).wa = 0
    · exact .inl h0
    · refine .inr ⟨by rw [beq_eq_false_iff_ne]; exact h0, ?_⟩
      rw [smL_c, List.length_append]
      by_cases l0 : (S t).l = 0
      · by_cases r0 : (S t).r = 0
        · exact absurd (nb.nd.wa l0 r0) h0
        · have := List.length_pos_iff.2 (nb.pr.ne_nil r0); omega
      · have := List.length_pos_iff.2 (nb.pl.ne_nil l0); omega
  have hln := nb.ln
  have hrn := nb.rn
  have SM := hide (And.intro m1 m2)
  obtain ⟨_, c1, _, _, k1, k2⟩ := h.head
  obtain ⟨e0, e1, e2, e3, e4', e5, e6, e7, e8, e9⟩ := h.slot htn
  have i1 : (0 : Int) ≤ (t : Int) := by omega
  have i2 : (t : Int) < (n : Int) := by omega
  have i3 : (0 : Int) ≤ ((S t).l : Int) := by omega
  have i4 : ((S t).l : Int) < (n : Int) := by omega
  have i5 : (0 : Int) ≤ ((S t).r : Int) := by omega
  have i6 : ((S t).r : Int) < (n : Int) := by omega
  clear h nb m1 m2 m3 ft wab hlen hl4 e4 ends
  generalize hq1 : smL xl = q1 at *
  generalize hq2 : smL xr = q2 at *
  generalize hq3 : smL (xl ++ xr) = q3 at *
  generalize hq4 : smL (rz (S t).wa (xl ++ xr)) = q4 at *
  clear hq1 hq2 hq3 hq4
  generalize hyt : S t = yt at *
  have HYT := hide hyt
  clear hyt
  obtain ⟨tu, tl, tr, th, tw, ta, ⟨tc, ts, tm, tM⟩⟩ := yt
  obtain ⟨q1c, q1s, q1a, q1b⟩ := q1
  obtain ⟨q2c, q2s, q2a, q2b⟩ := q2
  obtain ⟨q3c, q3s, q3a, q3b⟩ := q3
  obtain ⟨q4c, q4s, q4a, q4b⟩ := q4
  dsimp only at *
  go_enter Try.func79, Try.ntmps79
  go_upto_region 2 with fail
  clear c1 e0 e1 e2 e3 e4' e5 e6 e7 e8 e9
  generalize w.alloc (.cells #[.int .i64 (tu : Int), .int .i64 (tl : Int), .int .i64 (tr : Int), .int .i64 (th : Int), .int .i64 tw, .int .i64 ta, .int .i64 tc, .int .i64 ts, .int .i64 tm, .int .i64 tM] 67) = W0 at *
  generalize hB : w.heap.size = B at *
  have HBB := hide hB
  clear hB
  go_cut [6] (fun a w' => ∃ C : Nat, a = .pointer (some ⟨C, 0, none⟩) ∧ Hid (Fb w w' p g n cap room S B ⟨tu, tl, tr, th, tw, ta, ⟨tc, ts, tm, tM⟩⟩ ∧ SumAt w' C ⟨q3c, q3s, q3a, q3b⟩ ∧ C < w'.heap.size))
  case first =>
    clear J2 LF fa fb hwc HYT HBB
    have F0d : Hid (Fb w W0.drew p g n cap room S B ⟨tu, tl, tr, th, tw, ta, ⟨tc, ts, tm, tM⟩⟩) := (unhide F0).below (below_drew (Below.refl _ _))
    have F0z : Hid (Fb w (W0.alloc (.cells #[.int .i64 0, .int .i64 0, .int .i64 0, .int .i64 0] 33)).drew p g n cap room S B ⟨tu, tl, tr, th, tw, ta, ⟨tc, ts, tm, tM⟩⟩) := (unhide F0).below (below_drew ((Below.refl _ _).alloc (Nat.le_refl _) _))
    have Z0 : Hid (SumAt (W0.alloc (.cells #[.int .i64 0, .int .i64 0, .int .i64 0, .int .i64 0] 33)).drew W0.heap.size zero) := SumAt.zero0 W0 33
    have hL0 : p < W0.heap.size ∧ g < W0.heap.size := (unhide F0).po.lt
    have hL1 : B < W0.heap.size := (unhide F0).lb
    obtain ⟨_, s1, s2, _⟩ := (unhide F0).b
    dsimp only at s1 s2
    obtain ⟨_, c1, _⟩ := (unhide F0).po.head
    obtain ⟨_, _, _, _, _, _, a6, a7, a8, a9⟩ := (unhide F0).po.slot hln
    obtain ⟨_, _, _, _, _, _, b6, b7, b8, b9⟩ := (unhide F0).po.slot hrn
    rw [(unhide SM).1] at a6 a7 a8 a9
    rw [(unhide SM).2] at b6 b7 b8 b9
    dsimp only at a6 a7 a8 a9 b6 b7 b8 b9
    have n1 : ¬ p = W0.heap.size := by omega
    have n2 : ¬ g = W0.heap.size := by omega
    have n3 : ¬ B = W0.heap.size := by omega
    have n4 : ¬ W0.heap.size = p := by omega
    have n5 : ¬ W0.heap.size = g := by omega
    have n6 : ¬ W0.heap.size = B := by omega
    go_wp2
    go_region_held3 (fun w' => w'.cell? ⟨p, 1, none⟩ = some (.slice (some ⟨g, 0, none⟩) n cap) ∧ w'.cell? ⟨B, 1, none⟩ = some (.int .i64 (tl : Int)) ∧ w'.cell? ⟨B, 2, none⟩ = some (.int .i64 (tr : Int)) ∧ w'.cell? ⟨g, tl * 10 + 6, none⟩ = some (.int .i64 q1c) ∧ w'.cell? ⟨g, tl * 10 + 7, none⟩ = some (.int .i64 q1s) ∧ w'.cell? ⟨g, tl * 10 + 8, none⟩ = some (.int .i64 q1a) ∧ w'.cell? ⟨g, tl * 10 + 9, none⟩ = some (.int .i64 q1b) ∧ w'.cell? ⟨g, tr * 10 + 6, none⟩ = some (.int .i64 q2c) ∧ w'.cell? ⟨g, tr * 10 + 7, none⟩ = some (.int .i64 q2s) ∧ w'.cell? ⟨g, tr * 10 + 8, none⟩ = some (.int .i64 q2a) ∧ w'.cell? ⟨g, tr * 10 + 9, none⟩ = some (.int .i64 q2b))
      (first | go_keep | (simp [go_sem, *]))
      (first
        | (go_at_call 73; refine (unhide J1 _).mono ?_; rintro e w1 ⟨rfl, hb⟩; have lt1 := hb.size; (first | (have hz : Below (W0.alloc (.cells #[.int .i64 0, .int .i64 0, .int .i64 0, .int .i64 0] 33)).drew.heap.size (W0.alloc (.cells #[.int .i64 0, .int .i64 0, .int .i64 0, .int .i64 0] 33)).drew w1 := (by with_reducible exact hb); have F1 := hide ((unhide F0z).below hz); have Z1 := hide ((unhide Z0).below hz (by simp)); (obtain ⟨⟨x0, x1, x2, x3⟩, y0, y1, y2, y3⟩ := (unhide Z1)); dsimp only [zero] at x0 x1 x2 x3) | (have hz : Below W0.drew.heap.size W0.drew w1 := (by with_reducible exact hb); have F1 := hide ((unhide F0d).below hz); have Q1 := hide ((unhide F1).po.lt); have Q2 := hide ((unhide F1).lb); have m1 : ¬ p = w1.heap.size := (by have := (unhide Q1).1; omega); have m2 : ¬ g = w1.heap.size := (by have := (unhide Q1).2; omega); have m3 : ¬ B = w1.heap.size := (by have := (unhide Q2); omega); have m4 : ¬ w1.heap.size = p := (by have := (unhide Q1).1; omega); have m5 : ¬ w1.heap.size = g := (by have := (unhide Q1).2; omega); have m6 : ¬ w1.heap.size = B := (by have := (unhide Q2); omega))); (obtain ⟨_, d1, _⟩ := (unhide F1).po.head); (obtain ⟨_, t1, t2, _⟩ := (unhide F1).b); (obtain ⟨_, _, _, _, _, _, u6, u7, u8, u9⟩ := (unhide F1).po.slot hln); (obtain ⟨_, _, _, _, _, _, v6, v7, v8, v9⟩ := (unhide F1).po.slot hrn); rw [(unhide SM).1] at u6 u7 u8 u9; rw [(unhide SM).2] at v6 v7 v8 v9; dsimp only at t1 t2 u6 u7 u8 u9 v6 v7 v8 v9; clear hb hz))
    all_goals go_wp2
    all_goals go_meet
    all_goals first
      | (have Z2 := unhide Z1; have F2 := unhide F1; have P0 := (unhide F0).bel.size; have P1 := (unhide F0).ge; clear Z1 F1 F0 F0d F0z Z0 J1; exact ⟨_, rfl, hide ⟨⟨F2.po.keep (keep_putSum w1 W0.heap.size ⟨q3c, q3s, q3a, q3b⟩) (by simp; omega) (by simp; omega), F2.b.keep (keep_putSum w1 W0.heap.size ⟨q3c, q3s, q3a, q3b⟩) F2.lb (by simp; omega), by have := F2.lb; simpa using this, below_put (x := ⟨q3c, q3s, q3a, q3b⟩) F2.bel (by omega), F2.ge⟩, Z2.put (x := ⟨q3c, q3s, q3a, q3b⟩), by simp at lt1 ⊢; omega⟩⟩)
      | (have F2 := unhide F1; have F3 := F2.below ((Below.refl _ _).alloc (Nat.le_refl _) (.cells #[.int .i64 q3c, .int .i64 q3s, .int .i64 q3a, .int .i64 q3b] 33)); clear F1 F0 F0d F0z Z0 J1; exact ⟨_, rfl, hide ⟨F3, SumAt.new33 w1 q3c q3s q3a q3b, by simp⟩⟩)
      | trace_state
  case rest =>
  obtain ⟨C, rfl, HC⟩ := hcut
  clear J1 SM F0
  have H0 : Hid (Fc w wc p g n cap room S B ⟨tu, tl, tr, th, tw, ta, ⟨tc, ts, tm, tM⟩⟩ C ⟨q3c, q3s, q3a, q3b⟩) := ⟨(unhide HC).1, (unhide HC).2.1, (unhide HC).2.2⟩
  clear HC
  go_upto_region 3 with fail
  go_cut [7] (fun a w' => ∃ D : Nat, a = .pointer (some ⟨D, 0, none⟩) ∧ Hid (Fz w w' p g n cap room S B ⟨tu, tl, tr, th, tw, ta, ⟨tc, ts, tm, tM⟩⟩ C ⟨q3c, q3s, q3a, q3b⟩ D ⟨tc, ts, tm, tM⟩))
  case first =>
    clear fa fb hwc
    have F0d := hide (unhide H0).drew
    have Z0d := hide ((unhide H0).alloc 0 0 0 0).drew
    obtain ⟨⟨k0, k1, k2, k3⟩, _⟩ := (unhide H0).s
    obtain ⟨_, _, _, _, k4, k5, _⟩ := (unhide H0).fb.b
    dsimp only at k0 k1 k2 k3 k4 k5
    have m1 : ¬ C = wc.heap.size := (by have := (unhide H0).lc; omega)
    have m2 : ¬ B = wc.heap.size := (by have := (unhide H0).fb.lb; omega)
    have m3 : ¬ wc.heap.size = C := (by have := (unhide H0).lc; omega)
    have m4 : ¬ wc.heap.size = B := (by have := (unhide H0).fb.lb; omega)
    clear i1 i2 i3 i4 i5 i6 HYT HBB hln hrn htn
    go_wp2
    go_region_held3 (fun w' => w'.cell? ⟨C, 0, none⟩ = some (.int .i64 q3c) ∧ w'.cell? ⟨C, 1, none⟩ = some (.int .i64 q3s) ∧ w'.cell? ⟨C, 2, none⟩ = some (.int .i64 q3a) ∧ w'.cell? ⟨C, 3, none⟩ = some (.int .i64 q3b) ∧ w'.cell? ⟨B, 4, none⟩ = some (.int .i64 tw) ∧ w'.cell? ⟨B, 5, none⟩ = some (.int .i64 ta))
      (first | go_keep | (simp [go_sem, *]))
      (first
        | (go_at_call 74; refine (unhide LF _).mono ?_; rintro e wL ⟨rfl, hb⟩; (first | (have FL := hide ((unhide F0d).below (by with_reducible exact hb))) | (have ZL := hide ((unhide Z0d).below (by with_reducible exact hb))) | (have FL := hide ((unhide FO).below (by with_reducible exact hb))) | (have ZL := hide ((unhide ZO).below (by with_reducible exact hb))) | (have ZL := hide (((unhide FO).alloc 0 0 0 0).below (by with_reducible exact hb)))); (first | (have TL := hide (unhide FL)) | (have TL := hide (unhide ZL).fc)); (obtain ⟨⟨k0, k1, k2, k3⟩, _⟩ := (unhide TL).s); (obtain ⟨_, _, _, _, k4, k5, _⟩ := (unhide TL).fb.b); dsimp only at k0 k1 k2 k3 k4 k5; have m1 : ¬ C = wL.heap.size := (by have := (unhide TL).lc; omega); have m2 : ¬ B = wL.heap.size := (by have := (unhide TL).fb.lb; omega); have m3 : ¬ wL.heap.size = C := (by have := (unhide TL).lc; omega); have m4 : ¬ wL.heap.size = B := (by have := (unhide TL).fb.lb; omega); clear hb)
        | (go_at_call 46; refine (one_any tw _).mono ?_; rintro e wO ⟨rfl, hb⟩; (first | (have FO := hide ((unhide F0d).below (by with_reducible exact hb))) | (have ZO := hide ((unhide Z0d).below (by with_reducible exact hb))) | (have FO := hide ((unhide FL).below (by with_reducible exact hb))) | (have ZO := hide ((unhide ZL).below (by with_reducible exact hb))) | (have ZO := hide (((unhide FL).alloc 0 0 0 0).below (by with_reducible exact hb)))); (first | (have TO := hide (unhide FO)) | (have TO := hide (unhide ZO).fc)); (obtain ⟨⟨k0, k1, k2, k3⟩, _⟩ := (unhide TO).s); (obtain ⟨_, _, _, _, k4, k5, _⟩ := (unhide TO).fb.b); dsimp only at k0 k1 k2 k3 k4 k5; have m1 : ¬ C = wO.heap.size := (by have := (unhide TO).lc; omega); have m2 : ¬ B = wO.heap.size := (by have := (unhide TO).fb.lb; omega); have m3 : ¬ wO.heap.size = C := (by have := (unhide TO).lc; omega); have m4 : ¬ wO.heap.size = B := (by have := (unhide TO).fb.lb; omega); clear hb)
        | (go_at_call 73; refine (unhide J2 _).mono ?_; rintro e wJ ⟨rfl, hb⟩; (first | (have FJ := hide ((unhide F0d).below (by with_reducible exact hb))) | (have ZJ := hide ((unhide Z0d).below (by with_reducible exact hb))) | (have FJ := hide ((unhide FL).below (by with_reducible exact hb))) | (have ZJ := hide ((unhide ZL).below (by with_reducible exact hb))) | (have ZJ := hide (((unhide FL).alloc 0 0 0 0).below (by with_reducible exact hb))) | (have FJ := hide ((unhide FO).below (by with_reducible exact hb))) | (have ZJ := hide ((unhide ZO).below (by with_reducible exact hb))) | (have ZJ := hide (((unhide FO).alloc 0 0 0 0).below (by with_reducible exact hb)))); (first | (have TJ := hide (unhide FJ)) | (have TJ := hide (unhide ZJ).fc)); (obtain ⟨⟨k0, k1, k2, k3⟩, _⟩ := (unhide TJ).s); (obtain ⟨_, _, _, _, k4, k5, _⟩ := (unhide TJ).fb.b); dsimp only at k0 k1 k2 k3 k4 k5; have m1 : ¬ C = wJ.heap.size := (by have := (unhide TJ).lc; omega); have m2 : ¬ B = wJ.heap.size := (by have := (unhide TJ).fb.lb; omega); have m3 : ¬ wJ.heap.size = C := (by have := (unhide TJ).lc; omega); have m4 : ¬ wJ.heap.size = B := (by have := (unhide TJ).fb.lb; omega); (first | (have YJ := hide (unhide ZJ); (obtain ⟨⟨x0, x1, x2, x3⟩, y0, y1, y2, y3⟩ := (unhide YJ).u); have r1 := (unhide YJ).n1; have r2 := (unhide YJ).n2; have r3 := (unhide YJ).n1.symm; have r4 := (unhide YJ).n2.symm; dsimp only at x0 x1 x2 x3) | skip); clear hb))
    all_goals go_wp2
    all_goals go_meet
    all_goals first
      | (have Y := (unhide ZJ).put tc ts tm tM; exact ⟨_, rfl, hide Y⟩)
      | (have Y := (unhide FJ).alloc tc ts tm tM; exact ⟨_, rfl, hide Y⟩)
      | trace_state
  case rest =>
  obtain ⟨D, rfl, HD⟩ := hcut
  clear H0 J2 LF
  obtain ⟨⟨k0, k1, k2, k3⟩, _⟩ := (unhide HD).fc.s
  obtain ⟨⟨x0, x1, x2, x3⟩, _⟩ := (unhide HD).u
  obtain ⟨_, _, _, _, _, k5, k6, k7, k8, k9⟩ := (unhide HD).fc.fb.b
  have HB9 := hide (unhide HD).fc.fb.bel
  dsimp only at k0 k1 k2 k3 k5 k6 k7 k8 k9 x0 x1 x2 x3
  clear HD HYT HBB i1 i2 i3 i4 i5 i6
  go_wp2_with fail
  refine (fits_any _ _).mono ?_
  rw [unhide fa]
  rintro e w' ⟨rfl, rfl⟩
  go_wp2_with fail
  refine (fits_any _ _).mono ?_
  rw [unhide fb]
  rintro e w' ⟨rfl, rfl⟩
  rcases unhide hwc with h0 | ⟨h0, h1⟩
  · subst h0
    go_wp2
    go_ret
    exact ⟨rfl, unhide HB9⟩
  · go_wp2
    go_ret
    exact ⟨rfl, unhide HB9⟩
end
end Go.Proofs.Ytkfboficcdiojaa

import Derived.Test.YtbcibdofcjehcaaC9
namespace Go.Proofs.Ytbcibdofcjehcaa
open Go.RowKit Go.Arb
set_option linter.unusedVariables false
set_option linter.unusedSimpArgs false

def smV (x : Sm) : Value := .agg #[.int .i64 x.c, .int .i64 x.s, .int .i64 x.a, .int .i64 x.b]

theorem keep_put {ks : List Nat} {a w : World} {b : Nat} (h : Keep ks a w) (hb : b ∈ ks ∨ a.heap.size ≤ b) (x : Sm) : Keep ks a (putSum w b x) :=
  (((h.setCell (p := ⟨b, 0, none⟩) hb _).setCell (p := ⟨b, 1, none⟩) hb _).setCell (p := ⟨b, 2, none⟩) hb _).setCell (p := ⟨b, 3, none⟩) hb _
theorem SumAt.keep {ks : List Nat} {w w' : World} {b : Nat} {x : Sm} (h : SumAt w b x) (hk : Keep ks w w') (hl : b < w.heap.size) (hn : b ∉ ks) : SumAt w' b x := by
  obtain ⟨⟨q0, q1, q2, q3⟩, f0, f1, f2, f3⟩ := h
  refine ⟨⟨?_, ?_, ?_, ?_⟩, ?_, ?_, ?_, ?_⟩
  · rw [hk.cell (p := ⟨b, 0, none⟩) hl hn]; exact q0
  · rw [hk.cell (p := ⟨b, 1, none⟩) hl hn]; exact q1
  · rw [hk.cell (p := ⟨b, 2, none⟩) hl hn]; exact q2
  · rw [hk.cell (p := ⟨b, 3, none⟩) hl hn]; exact q3
  · rw [hk.frozen (p := ⟨b, 0, none⟩) hl hn]; exact f0
  · rw [hk.frozen (p := ⟨b, 1, none⟩) hl hn]; exact f1
  · rw [hk.frozen (p := ⟨b, 2, none⟩) hl hn]; exact f2
  · rw [hk.frozen (p := ⟨b, 3, none⟩) hl hn]; exact f3
theorem SumAt.two (w : World) (t : TypeId) : SumAt ((w.alloc (.cells #[.int .i64 0, .int .i64 0, .int .i64 0, .int .i64 0] t)).alloc (.cells #[.int .i64 0, .int .i64 0, .int .i64 0, .int .i64 0] t)) (w.heap.size + 1) zero ∧ SumAt ((w.alloc (.cells #[.int .i64 0, .int .i64 0, .int .i64 0, .int .i64 0] t)).alloc (.cells #[.int .i64 0, .int .i64 0, .int .i64 0, .int .i64 0] t)) w.heap.size zero := by
  constructor <;> simp [SumAt, zero, go_sem]

/-- What the walk reads of a forest's weights. -/
theorem FoIn.wts {w : World} {p : Nat} {u v : Value} {F : Fo} (h : FoIn w p u v F) (ho : Ok F) {l : List Nat} (hl : l ≠ []) (hth : ∀ x ∈ l, F.tr.par x ≠ -2) :
    ∃ g cap, v = .slice (some ⟨g, 0, none⟩) F.ws.length cap ∧ F.ws.length ≤ cap ∧ cap ≤ maxLen ∧ g < w.heap.size ∧ g ≠ p ∧ own v = [g] ∧ ∀ x ∈ l, x < F.ws.length ∧ w.cell? ⟨g, x, none⟩ = some (.int .i64 (F.tr.wt x)) ∧ w.frozen? ⟨g, x, none⟩ = false ∧ -1099511627776 ≤ F.tr.wt x ∧ F.tr.wt x ≤ 1099511627776 := by
  obtain ⟨y, hy⟩ := List.exists_mem_of_ne_nil l hl
  have lt : ∀ x ∈ l, x < F.ws.length := fun x hx => by rw [ho.wl]; exact Fo.par_lt (hth x hx)
  obtain ⟨g, cap, h1, h2, h3, h4, h5, h6, h7⟩ := h.wt y (lt y hy)
  exact ⟨g, cap, h1, h2, h3, h4, h5, h6, fun x hx => ⟨lt x hx, (h7 x (lt x hx)).1, (h7 x (lt x hx)).2, (ho.fit.wt x).1, (ho.fit.wt x).2⟩⟩

set_option maxHeartbeats 2000000 in
theorem path_yes (i j t : Nat) (a0 b0 c : List Nat) (w : World) (p : Nat) (u v : Value) (F : Fo) (h : FoIn w p u v F) (ho : Ok F) (hi : F.tr.par i ≠ -2) (hj : F.tr.par j ≠ -2) (hm : Meet (F.tr.up i) (F.tr.up j) t a0 b0 c) :
    Calls Try.prog 31 #[.pointer (some ⟨p, 0, none⟩), .int .i64 (i : Int), .int .i64 (j : Int)] w fun e w' => e = .returned (.tuple #[smV (ofL ((t :: (a0 ++ b0)).map F.tr.wt)), .bool true]) ∧ Below w.heap.size w w' := by
  obtain ⟨hnd, hth⟩ := Meet.way_nodup ho.wf hm
  have h1 := hide (fun w1 (hb : Below w.heap.size w w1) => way_yes i j t a0 b0 c w1 p u v F (h.below hb) ho hi hj hm)
  have hlen : (t :: (a0 ++ b0)).length ≤ 1048576 := Nat.le_trans (nodup_len F.tr.n _ hnd (fun x hx => ho.wf.lt x (hth x hx))) ho.fit.n
  obtain ⟨_, _, c2, _⟩ := h.cells
  obtain ⟨g, cap, rfl, k1, k2, k3, k4, _, k5⟩ := h.wts ho (l := t :: (a0 ++ b0)) (by simp) hth
  have hp : p < w.heap.size := blk_lt h.blk
  have hpos : 0 < (t :: (a0 ++ b0)).length := by simp
  clear h ho hm hnd hth hi hj
  generalize t :: (a0 ++ b0) = l at *
  have HC := hide k5
  clear k5
  generalize F.tr.wt = wt at *
  generalize F.ws.length = n at *
  unfold maxLen at k2
  go_enter Try.func31, Try.ntmps31
  go_wp2_with fail
  refine (unhide h1 _ (b2 _ _ _)).mono ?_
  rintro e w1 ⟨⟨s, rfl, hrow⟩, hb1⟩
  obtain ⟨g', cap', rfl, r1, r2, r3, r4, _, r5⟩ := hrow.at hpos
  obtain ⟨z1, z0⟩ := SumAt.two w 34
  have hbb := hb1.mono (show w.heap.size ≤ _ from by simp; omega)
  have HS := hide (And.intro (z1.below hb1 (by simp)) (And.intro (z0.below hb1 (by simp; omega)) ((b2 w (.cells #[.int .i64 0, .int .i64 0, .int .i64 0, .int .i64 0] 34) (.cells #[.int .i64 0, .int .i64 0, .int .i64 0, .int .i64 0] 34)).trans hbb)))
  have HW := hide r5
  have hsz : w.heap.size + 2 ≤ w1.heap.size := by have := hb1.size; simp at this; omega
  have hg' : w.heap.size + 2 ≤ g' := by simpa using r4
  clear hrow r5 z1 z0 hbb hb1 h1 r4
  have HL : Hid (∃ m, l.length = m) := ⟨_, rfl⟩
  obtain ⟨m, hm⟩ := HL.out
  rw [hm] at r1 hlen hpos ⊢
  have HM := hide hm
  clear hm HL
  unfold maxLen at r2
  go_wp2
  go_loopw [16] (fun i w' => ∃ k : Nat, k ≤ m ∧ i = .int .i64 k ∧ Hid (Keep [w.heap.size + 1] w1 w' ∧ SumAt w' (w.heap.size + 1) (ofL ((l.map wt).take k)))) (fun i _ => m - (intOf i).toNat)
  case atStart => exact ⟨0, Nat.zero_le _, rfl, Keep.refl _ _, (unhide HS).1⟩
  case round =>
    obtain ⟨k, hk, rfl, HK⟩ := hrel
    obtain ⟨hkp, hs1⟩ := unhide HK
    by_cases hlt : k < m
    · have hkl : k < l.length := by rw [unhide HM]; exact hlt
      have d := unhide HW k hkl
      obtain ⟨x0, d2, _, hn1, hn2⟩ := unhide HC l[k] (List.getElem_mem hkl)
      have hsucc := hide (ofL_take_succ (l.map wt) k (by simpa using hkl))
      rw [show (l.map wt).getD k 0 = wt l[k] from by simp [List.getD_eq_getElem?_getD, hkl]] at hsucc
      obtain ⟨⟨hc1, hc2⟩, hr1, hr2⟩ := ofL_take_bd (l.map wt) k (by omega) (fun n hn => by
        obtain ⟨y, hy, rfl⟩ := List.mem_map.1 hn
        exact (unhide HC y hy).2.2.2)
      generalize l[k] = x at *
      generalize wt x = nw at *
      generalize ofL ((l.map wt).take k) = y at *
      rw [← hkp.cell (p := ⟨g', k, none⟩) r3 (by simp; omega)] at d
      have c2' := c2
      have hbw := (unhide HS).2.2
      rw [← hbw.cell (p := ⟨p, 2, none⟩) hp, ← hkp.cell (p := ⟨p, 2, none⟩) (by show p < _; omega) (by simp; omega)] at c2'
      rw [← hbw.cell (p := ⟨g, x, none⟩) k3, ← hkp.cell (p := ⟨g, x, none⟩) (by show g < _; omega) (by simp; omega)] at d2
      obtain ⟨yc, ys, ya, yb⟩ := y
      have HQ : Hid (SumAt wr.drew (w.heap.size + 1) ⟨yc, ys, ya, yb⟩) := hs1
      obtain ⟨⟨q0, q1, q2, q3⟩, f0, f1, f2, f3⟩ := hs1
      have hz1 : w.heap.size + 1 < wr.heap.size := by have := hkp.size; omega
      have e0 : (0 : Int) ≤ (k : Int) := by omega
      have e1 : (k : Int) < (m : Int) := by omega
      have e2 : (0 : Int) ≤ (x : Int) := by omega
      have e3 : (x : Int) < (n : Int) := by omega
      have HX := hide hkp
      clear hkp HK hbw
      dsimp only at *
      go_wp2
      go_region_with (first | (go_at_call 63; refine (one_any nw _).mono ?_; rintro e w2 ⟨rfl, hb1⟩; have hz2 : w.heap.size + 1 < w2.heap.size := Nat.lt_of_lt_of_le hz1 hb1.size; have HQ1 : Hid (SumAt w2 (w.heap.size + 1) ⟨yc, ys, ya, yb⟩) := SumAt.below (W := wr.drew) HQ.out hb1 hz1; obtain ⟨⟨r0, r1, r2, r3⟩, i0, i1, i2, i3⟩ := HQ1.out) | (go_at_call 62; refine (join_any _ _ _ _ _ _ _ _ _ (by omega) (by omega) (by omega) (by omega)).mono ?_; rintro e w3 ⟨rfl, hb2⟩; have hz3 : w.heap.size + 1 < w3.heap.size := Nat.lt_of_lt_of_le hz2 hb2.size; obtain ⟨⟨t0, t1, t2, t3⟩, j0, j1, j2, j3⟩ := SumAt.below HQ1.out hb2 hz2))
      all_goals
        go_wp2
        go_roundw
        case rel =>
          have hB : Keep [w.heap.size + 1] w1 w3 := ((unhide HX).drew.trans (Keep.ofBelow hb1 []) (by simp)).trans (Keep.ofBelow hb2 []) (by simp)
          refine ⟨k + 1, by omega, by go_num, keep_put (b := w.heap.size + 1) (x := jn ⟨yc, ys, ya, yb⟩ ⟨1, nw, nw, nw⟩) hB (.inl (by simp)), ?_⟩
          rw [unhide hsucc]
          exact SumAt.put (y := ⟨yc, ys, ya, yb⟩) (SumAt.below HQ1.out hb2 hz2)
        case measure => simp [intOf]; omega
    · have hkl : k = m := by omega
      subst hkl
      rw [show (l.map wt).take k = l.map wt from List.take_of_length_le (by simp [unhide HM])] at hs1
      have hcc : 0 < (ofL (l.map wt)).c := by rw [ofL_eq, ofR_c]; simp [unhide HM]; omega
      have HP := hide (And.intro ((unhide HS).2.1.keep hkp (by omega) (by simp)) (Keep.below (unhide HS).2.2 hkp (by omega) (by simp)))
      have HY : Hid (∃ y, ofL (l.map wt) = y) := ⟨_, rfl⟩
      obtain ⟨y, hy⟩ := HY.out
      rw [hy] at hs1 hcc
      clear HY
      have HY := hide hy
      clear hy
      obtain ⟨⟨q0, q1, q2, q3⟩, f0, f1, f2, f3⟩ := hs1
      obtain ⟨⟨p0, p1, p2, p3⟩, g0, g1, g2, g3⟩ := (unhide HP).1
      obtain ⟨yc, ys, ya, yb⟩ := y
      dsimp only [zero] at q0 q1 q2 q3 p0 p1 p2 p3 hcc
      clear hkp HK
      go_wp2
      go_region
      all_goals
        go_wp2
        obtain ⟨hs0, hbel⟩ := unhide HP
        rw [unhide HY]
        have hp := SumAt.put (x := ⟨yc, ys, ya, yb⟩) hs0
        obtain ⟨⟨p0, p1, p2, p3⟩, g0, g1, g2, g3⟩ := hp
        refine bodyPost_ret (v := .tuple #[.agg #[.int .i64 yc, .int .i64 ys, .int .i64 ya, .int .i64 yb], .bool true]) ?_ rfl ⟨rfl, ?_⟩
        · simp only [putSum] at p0 p1 p2 p3
          simp [results, Try.results31, go_sem, p0, p1, p2, p3]
        · exact below_drewN (below_put (x := ⟨yc, ys, ya, yb⟩) hbel (Nat.le_refl _)) _

theorem path_any (x y : Int) (w : World) (p : Nat) (u v : Value) (F : Fo) (h : FoIn w p u v F) (ho : Ok F) :
    Calls Try.prog 31 #[.pointer (some ⟨p, 0, none⟩), .int .i64 x, .int .i64 y] w fun e w' => e = .returned (.tuple #[smV (F.tr.pathI x y), .bool (F.tr.sameI x y)]) ∧ Below w.heap.size w w' := by
  cases hs : F.tr.sameI x y
  · refine (path_no x y w p u v F h ho hs).mono ?_
    rintro e w' ⟨rfl, hb⟩
    refine ⟨?_, hb⟩
    rw [Tr.pathI, Tr.wayI, way_none (ho.wf.same_false hs)]
    rfl
  · obtain ⟨i, j, rfl, rfl, hi, hj, t, a, b, c, hm⟩ := ho.wf.same_true hs
    refine (path_yes i j t a b c w p u v F h ho hi hj hm).mono ?_
    rintro e w' ⟨rfl, hb⟩
    refine ⟨?_, hb⟩
    rw [Tr.pathI, Tr.wayI, F.tr.upI_nat, F.tr.upI_nat, hm.way]
theorem lca_any (x y : Int) (w : World) (p : Nat) (u v : Value) (F : Fo) (h : FoIn w p u v F) (ho : Ok F) :
    Calls Try.prog 45 #[.pointer (some ⟨p, 0, none⟩), .int .i64 x, .int .i64 y] w fun e w' => e = .returned (.int .i64 (F.tr.lcaI x y)) ∧ Below w.heap.size w w' := by
  cases hs : F.tr.sameI x y
  · refine (lca_no x y w p u v F h ho hs).mono ?_
    rintro e w' ⟨rfl, rfl⟩
    exact ⟨by rw [Tr.lcaI, lca_none (ho.wf.same_false hs)], Below.refl _ _⟩
  · obtain ⟨i, j, rfl, rfl, hi, hj, t, a, b, c, hm⟩ := ho.wf.same_true hs
    refine (lca_yes i j t a b c w p u v F h ho hi hj hm).mono ?_
    rintro e w' ⟨rfl, hb⟩
    exact ⟨by rw [Tr.lcaI, F.tr.upI_nat, F.tr.upI_nat, hm.lca], hb⟩
end Go.Proofs.Ytbcibdofcjehcaa

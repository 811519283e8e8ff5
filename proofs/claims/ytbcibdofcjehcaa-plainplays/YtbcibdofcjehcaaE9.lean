import Derived.Test.YtbcibdofcjehcaaE8
namespace Go.Proofs.Ytbcibdofcjehcaa
open Go.RowKit Go.Arb
set_option linter.unusedVariables false
set_option linter.unusedSimpArgs false

theorem Tr.Wf.way_facts {T : Tr} (h : T.Wf) (x y : Int) : (T.wayI x y).Nodup ∧ (∀ z ∈ T.wayI x y, T.par z ≠ -2) ∧ decide (0 < (T.wayI x y).length) = T.sameI x y ∧ (T.wayI x y).length ≤ T.n := by
  rcases h.way_cases x y with ⟨e1, e2⟩ | ⟨i, j, t, a, b, c, rfl, rfl, hi, hj, hm⟩
  · rw [e2]
    refine ⟨List.nodup_nil, by simp, ?_, by simp⟩
    cases hs : T.sameI x y
    · rfl
    · obtain ⟨i, j, rfl, rfl, hi, hj, t, a, b, c, hm⟩ := h.same_true hs
      rw [Tr.wayI, T.upI_nat, T.upI_nat, hm.way] at e2
      simp at e2
  · have hw : T.wayI i j = t :: (a ++ b) := by rw [Tr.wayI, T.upI_nat, T.upI_nat, hm.way]
    obtain ⟨n1, n2⟩ := Meet.way_nodup h hm
    rw [hw]
    exact ⟨n1, n2, by rw [h.same_nat hm]; simp, nodup_len T.n _ n1 (fun x hx => h.lt x (n2 x hx))⟩

set_option maxHeartbeats 4000000 in
theorem rpath_any (x y : Int) (w : World) (q bt bu bw n : Nat) (ft : Nat → Bool) (fu fw : Nat → Int) (T : Tr) (h : RIn w q bt bu bw n ft fu fw) (hs : Says T n ft fu fw) :
    Calls Try.prog 32 #[.pointer (some ⟨q, 0, none⟩), .int .i64 x, .int .i64 y] w fun e w' => e = .returned (.tuple #[smV (T.pathI x y), .bool (T.sameI x y)]) ∧ Below w.heap.size w w' := by
  obtain ⟨f1, f2, f3, f4⟩ := hs.wf.way_facts x y
  have h1 := hide (fun w1 (hb : Below w.heap.size w w1) => rway_any x y w1 q bt bu bw n ft fu fw T (h.below hb) hs)
  have hn := hs.le
  have f5 : (T.wayI x y).length ≤ 1048576 := Nat.le_trans f4 hs.fit.n
  obtain ⟨_, _, c2⟩ := h.cells
  have hp : q < w.heap.size := blk_lt h.blk
  have hbw0 : bw < w.heap.size := h.rw.lt
  have HC : Hid (∀ z, T.par z ≠ -2 → z < n ∧ w.cell? ⟨bw, z, none⟩ = some (.int .i64 (T.wt z)) ∧ -1099511627776 ≤ T.wt z ∧ T.wt z ≤ 1099511627776) := fun z hz => ⟨hs.lt hz, by rw [h.rw.cell (hs.lt hz), inV, hs.wt z hz], hs.fit.wt z⟩
  have HF : Hid (∀ l : List Nat, l.Perm (T.wayI x y) → (∀ z ∈ l, T.par z ≠ -2) ∧ ofL (l.map T.wt) = T.pathI x y ∧ l.length ≤ 1048576 ∧ decide (0 < l.length) = T.sameI x y) := fun l hp => ⟨fun z hz => f2 z (hp.mem_iff.1 hz), ofL_perm (hp.map _), by rw [hp.length_eq]; exact f5, by rw [hp.length_eq]; exact f3⟩
  generalize T.pathI x y = PS at *
  generalize T.sameI x y = sm at *
  generalize T.wt = wt at *
  clear h hs f1 f2 f3 f4 f5
  go_enter Try.func32, Try.ntmps32
  go_wp2_with fail
  refine (unhide h1 _ (b2 _ _ _)).mono ?_
  rintro e w1 ⟨⟨s, l, rfl, hrow, hperm⟩, hb1⟩
  obtain ⟨hth, hps, hll, hsm⟩ := unhide HF l hperm
  have HTH := hide hth
  have HPS := hide (And.intro hps hsm)
  obtain ⟨xs, cap', rfl, r1, r2, r3⟩ := hrow.form
  obtain ⟨z1, z0⟩ := SumAt.two w 34
  have hbb := hb1.mono (show w.heap.size ≤ _ from by simp; omega)
  have HS := hide (And.intro (z1.below hb1 (by simp)) (And.intro (z0.below hb1 (by simp; omega)) ((b2 w (.cells #[.int .i64 0, .int .i64 0, .int .i64 0, .int .i64 0] 34) (.cells #[.int .i64 0, .int .i64 0, .int .i64 0, .int .i64 0] 34)).trans hbb)))
  have HW := hide r3
  have hsz : w.heap.size + 2 ≤ w1.heap.size := by have := hb1.size; simp at this; omega
  clear hrow r3 z1 z0 hbb hb1 h1 HF hperm hth hps hsm
  have HL : Hid (∃ m, l.length = m) := ⟨_, rfl⟩
  obtain ⟨m, hm⟩ := HL.out
  rw [hm] at r1 hll ⊢
  have HM := hide hm
  clear hm HL
  unfold maxLen at r2
  go_wp2
  go_loopw [10] (fun i w' => ∃ k : Nat, k ≤ m ∧ i = .int .i64 k ∧ Hid (Keep [w.heap.size + 1] w1 w' ∧ SumAt w' (w.heap.size + 1) (ofL ((l.map wt).take k)))) (fun i _ => m - (intOf i).toNat)
  case atStart => exact ⟨0, Nat.zero_le _, rfl, Keep.refl _ _, (unhide HS).1⟩
  case round =>
    obtain ⟨k, hk, rfl, HK⟩ := hrel
    obtain ⟨hkp, hs1⟩ := unhide HK
    by_cases hlt : k < m
    · have hkl : k < l.length := by rw [unhide HM]; exact hlt
      obtain ⟨g', rfl, hg3, hg', r5⟩ := unhide HW (by omega)
      have hg4 : w.heap.size + 2 ≤ g' := by simpa using hg'
      have d := r5 k hkl
      clear r5
      obtain ⟨x0, d2, hn1, hn2⟩ := unhide HC l[k] (unhide HTH _ (List.getElem_mem hkl))
      have hsucc := hide (ofL_take_succ (l.map wt) k (by simpa using hkl))
      rw [show (l.map wt).getD k 0 = wt l[k] from by simp [List.getD_eq_getElem?_getD, hkl]] at hsucc
      obtain ⟨⟨hc1, hc2⟩, hr1, hr2⟩ := ofL_take_bd (l.map wt) k (by omega) (fun n hn => by
        obtain ⟨y, hy, rfl⟩ := List.mem_map.1 hn
        exact (unhide HC y (unhide HTH y hy)).2.2)
      generalize l[k] = x at *
      generalize wt x = nw at *
      generalize ofL ((l.map wt).take k) = y at *
      rw [← hkp.cell (p := ⟨g', k, none⟩) hg3 (by simp; omega)] at d
      have c2' := c2
      have hbw := (unhide HS).2.2
      rw [← hbw.cell (p := ⟨q, 2, none⟩) hp, ← hkp.cell (p := ⟨q, 2, none⟩) (by show q < _; omega) (by simp; omega)] at c2'
      rw [← hbw.cell (p := ⟨bw, x, none⟩) hbw0, ← hkp.cell (p := ⟨bw, x, none⟩) (by show bw < _; omega) (by simp; omega)] at d2
      obtain ⟨yc, ys, ya, yb⟩ := y
      have HQ : Hid (SumAt wr.drew (w.heap.size + 1) ⟨yc, ys, ya, yb⟩) := hs1
      obtain ⟨⟨q0, q1, q2, q3⟩, f0, f1, f2, f3⟩ := hs1
      have hz1 : w.heap.size + 1 < wr.heap.size := by have := hkp.size; omega
      have e0 : (0 : Int) ≤ (k : Int) := by omega
      have e1 : (k : Int) < (m : Int) := by omega
      have e2 : (0 : Int) ≤ (x : Int) := by omega
      have e3 : (x : Int) < (n : Int) := by omega
      have HX := hide hkp
      clear hkp HK hbw
      dsimp only at *
      go_wp2
      go_region_with (first | (go_at_call 65; refine (rone_any nw _).mono ?_; rintro e w2 ⟨rfl, hb1⟩; have hz2 : w.heap.size + 1 < w2.heap.size := Nat.lt_of_lt_of_le hz1 hb1.size; have HQ1 : Hid (SumAt w2 (w.heap.size + 1) ⟨yc, ys, ya, yb⟩) := SumAt.below (W := wr.drew) HQ.out hb1 hz1; obtain ⟨⟨r0, r1, r2, r3⟩, i0, i1, i2, i3⟩ := HQ1.out) | (go_at_call 64; refine (rjoin_any _ _ _ _ _ _ _ _ _ (by omega) (by omega) (by omega) (by omega)).mono ?_; rintro e w3 ⟨rfl, hb2⟩; have hz3 : w.heap.size + 1 < w3.heap.size := Nat.lt_of_lt_of_le hz2 hb2.size; obtain ⟨⟨t0, t1, t2, t3⟩, j0, j1, j2, j3⟩ := SumAt.below HQ1.out hb2 hz2))
      all_goals
        go_wp2
        go_roundw
        case rel =>
          have hB : Keep [w.heap.size + 1] w1 w3 := ((unhide HX).drew.trans (Keep.ofBelow hb1 []) (by simp)).trans (Keep.ofBelow hb2 []) (by simp)
          refine ⟨k + 1, by omega, by go_num, keep_put (b := w.heap.size + 1) (x := jn ⟨yc, ys, ya, yb⟩ ⟨1, nw, nw, nw⟩) hB (.inl (by simp)), ?_⟩
          rw [unhide hsucc]
          exact SumAt.put (y := ⟨yc, ys, ya, yb⟩) (SumAt.below HQ1.out hb2 hz2)
        case measure => simp [intOf]; omega
    · have hkl : k = m := by omega
      subst hkl
      rw [show (l.map wt).take k = l.map wt from List.take_of_length_le (by simp [unhide HM])] at hs1
      have HP := hide (And.intro ((unhide HS).2.1.keep hkp (by omega) (by simp)) (Keep.below (unhide HS).2.2 hkp (by omega) (by simp)))
      have HY : Hid (∃ y, ofL (l.map wt) = y) := ⟨_, rfl⟩
      obtain ⟨y, hy⟩ := HY.out
      rw [hy] at hs1
      clear HY
      have HY := hide hy
      clear hy
      obtain ⟨⟨q0, q1, q2, q3⟩, f0, f1, f2, f3⟩ := hs1
      obtain ⟨⟨p0, p1, p2, p3⟩, g0, g1, g2, g3⟩ := (unhide HP).1
      obtain ⟨yc, ys, ya, yb⟩ := y
      dsimp only [zero] at q0 q1 q2 q3 p0 p1 p2 p3
      clear hkp HK
      go_wp2
      all_goals
        obtain ⟨hs0, hbel⟩ := unhide HP
        have hp := SumAt.put (x := ⟨yc, ys, ya, yb⟩) hs0
        obtain ⟨⟨p0, p1, p2, p3⟩, g0, g1, g2, g3⟩ := hp
        refine bodyPost_ret (v := .tuple #[.agg #[.int .i64 yc, .int .i64 ys, .int .i64 ya, .int .i64 yb], .bool (decide (0 < k))]) ?_ rfl ⟨by rw [← (unhide HPS).1, ← (unhide HPS).2, unhide HY, unhide HM]; rfl, ?_⟩
        · simp only [putSum] at p0 p1 p2 p3
          simp [results, Try.results32, go_sem, p0, p1, p2, p3]
        · exact below_put (x := ⟨yc, ys, ya, yb⟩) hbel (Nat.le_refl _)
end Go.Proofs.Ytbcibdofcjehcaa

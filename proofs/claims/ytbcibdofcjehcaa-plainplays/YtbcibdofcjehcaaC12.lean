import Derived.Test.YtbcibdofcjehcaaC10
import Derived.Test.YtbcibdofcjehcaaC11
namespace Go.Proofs.Ytbcibdofcjehcaa
open Go.RowKit Go.Arb
set_option linter.unusedVariables false
set_option linter.unusedSimpArgs false

theorem filter_range_le (p : Nat → Bool) {n : Nat} : ∀ {m : Nat}, n ≤ m → (∀ x, n ≤ x → p x = false) → (List.range m).filter p = (List.range n).filter p := by
  intro m h hp
  induction m with
  | zero => have : n = 0 := by omega
            subst this; rfl
  | succ m ih =>
    by_cases e : n = m + 1
    · subst e; rfl
    · rw [List.range_succ, List.filter_append, ih (by omega)]
      simp [hp m (by omega)]
theorem filter_succ (p : Nat → Bool) (k : Nat) : (List.range (k + 1)).filter p = (List.range k).filter p ++ (if p k then [k] else []) := by
  rw [List.range_succ, List.filter_append]
  congr 1
  by_cases h : p k = true <;> simp [h]
theorem Ok.sub {F : Fo} (ho : Ok F) (i : Nat) : F.tr.sub i = (List.range F.ps.length).filter (fun u => decide (i ∈ F.tr.up u)) := by
  refine filter_range_le _ (show F.ps.length ≤ F.tr.n from ho.len) fun x hx => ?_
  rw [F.tr.up_gone (Fo.par_ge hx)]
  simp
theorem ofL_bd (zs : List Int) (hl : zs.length ≤ 1048576) (hb : ∀ n ∈ zs, -1099511627776 ≤ n ∧ n ≤ 1099511627776) :
    (0 ≤ (ofL zs).c ∧ (ofL zs).c ≤ 1048576) ∧ (-1152921504606846976 ≤ (ofL zs).s ∧ (ofL zs).s ≤ 1152921504606846976) := by
  have := ofL_take_bd zs zs.length hl hb
  rwa [List.take_length] at this
theorem ofL_snoc (zs : List Int) (n : Int) : ofL (zs ++ [n]) = jn (ofL zs) (one n) := by rw [ofL_append, ofL_one]
theorem SumAt.one (w : World) (t : TypeId) : SumAt (w.alloc (.cells #[.int .i64 0, .int .i64 0, .int .i64 0, .int .i64 0] t)) w.heap.size zero := by simp [SumAt, zero, go_sem]

set_option maxHeartbeats 2000000 in
theorem sub_no (x : Int) (w : World) (p : Nat) (u v : Value) (F : Fo) (h : FoIn w p u v F) (hl : F.tr.hasI x = false) :
    Calls Try.prog 33 #[.pointer (some ⟨p, 0, none⟩), .int .i64 x] w fun e w' => e = .returned (.tuple #[.int .i64 0, .int .i64 0, .bool false]) ∧ w = w' := by
  have h1 := hide (has_any x w p u v F h)
  rw [hl] at h1
  clear h hl
  go_enter Try.func33, Try.ntmps33
  go_wp2_with fail
  refine (unhide h1).mono ?_
  rintro e w' ⟨rfl, rfl⟩
  go_wp2
  exact bodyPost_ret (v := .tuple #[.int .i64 0, .int .i64 0, .bool false]) (by simp [results, Try.results33, go_sem]) rfl ⟨rfl, rfl⟩
set_option maxHeartbeats 2000000 in
theorem sub_nil (x : Int) (w : World) : Calls Try.prog 33 #[.pointer none, .int .i64 x] w fun e w' => e = .returned (.tuple #[.int .i64 0, .int .i64 0, .bool false]) ∧ w = w' := by
  go_enter Try.func33, Try.ntmps33
  go_wp2_with fail
  refine (has_nil _ _).mono ?_
  rintro e w' ⟨rfl, rfl⟩
  go_wp2
  exact bodyPost_ret (v := .tuple #[.int .i64 0, .int .i64 0, .bool false]) (by simp [results, Try.results33, go_sem]) rfl ⟨rfl, rfl⟩

set_option maxHeartbeats 2000000 in
theorem sub_yes (i : Nat) (w : World) (p : Nat) (u v : Value) (F : Fo) (h : FoIn w p u v F) (ho : Ok F) (hi : F.tr.par i ≠ -2) :
    Calls Try.prog 33 #[.pointer (some ⟨p, 0, none⟩), .int .i64 (i : Int)] w fun e w' => e = .returned (.tuple #[.int .i64 (ofL ((F.tr.sub i).map F.tr.wt)).c, .int .i64 (ofL ((F.tr.sub i).map F.tr.wt)).s, .bool true]) ∧ Below w.heap.size w w' := by
  have h1 := hide (has_any i w p u v F h)
  rw [F.tr.hasI_nat, show (F.tr.par i != -2) = true from by simpa using hi] at h1
  have h2 := hide (fun w1 (hb : Below w.heap.size w w1) => below_any i w1 p u v F (h.below hb) ho hi)
  rw [ho.sub i]
  obtain ⟨_, _, c2, _⟩ := h.cells
  have hlt := Fo.par_lt hi
  obtain ⟨g, cap, rfl, k1, k2, k3, k4, _, k5⟩ := h.wt i (by rw [ho.wl]; exact hlt)
  have hp : p < w.heap.size := blk_lt h.blk
  have HC : Hid (∀ x, x < F.ps.length → w.cell? ⟨g, x, none⟩ = some (.int .i64 (F.tr.wt x)) ∧ -1099511627776 ≤ F.tr.wt x ∧ F.tr.wt x ≤ 1099511627776) := fun x hx => ⟨(k5 x (by rw [ho.wl]; exact hx)).1, ho.fit.wt x⟩
  have hn : F.ps.length ≤ 1048576 := Nat.le_trans ho.len ho.fit.n
  have hwl := ho.wl
  rw [hwl] at c2 k1
  clear h ho hi k5 hwl
  generalize hT : F.tr = T at *
  clear hT
  generalize F.ps.length = n at *
  unfold maxLen at k2
  have hB0 := (Below.refl w.heap.size w).alloc (Nat.le_refl _) (.cells #[.int .i64 0, .int .i64 0, .int .i64 0, .int .i64 0] 34)
  have HB0 := hide hB0
  clear hB0
  go_enter Try.func33, Try.ntmps33
  go_wp2_with fail
  refine (unhide h1).mono ?_
  rintro e w' ⟨rfl, rfl⟩
  go_wp2_with fail
  refine (unhide h2 _ (unhide HB0)).mono ?_
  rintro e w1 ⟨⟨g', P, rfl, r4, r5, r6⟩, hb1⟩
  have HS := hide (And.intro ((SumAt.one w 34).below hb1 (by simp)) ((unhide HB0).trans (hb1.mono (show w.heap.size ≤ _ from by simp))))
  have HW := hide (And.intro r5 r6)
  have hsz : w.heap.size + 1 ≤ w1.heap.size := by have := hb1.size; simp at this; omega
  have hg' : w.heap.size + 1 ≤ g' := by simpa using r4
  have r3 : g' < w1.heap.size := r5.lt
  clear r5 r6 hb1 h1 h2 r4
  go_wp2
  go_loopw [18] (fun a w' => ∃ k : Nat, k ≤ n ∧ a = .int .i64 k ∧ Hid (Keep [w.heap.size] w1 w' ∧ SumAt w' w.heap.size (ofL (((List.range k).filter (fun u => decide (i ∈ T.up u))).map T.wt)))) (fun i _ => n - (intOf i).toNat)
  case atStart => exact ⟨0, Nat.zero_le _, rfl, Keep.refl _ _, (unhide HS).1⟩
  case round =>
    obtain ⟨k, hk, rfl, HK⟩ := hrel
    obtain ⟨hkp, hs1⟩ := unhide HK
    by_cases hlt' : k < n
    · have d := (unhide HW).1.cell hlt'
      unfold plV at d
      have h6 := (unhide HW).2 k hlt'
      obtain ⟨d2, hn1, hn2⟩ := unhide HC k hlt'
      rw [← hkp.cell (p := ⟨g', k, none⟩) r3 (by simp; omega)] at d
      have c2' := c2
      have hbw := (unhide HS).2
      rw [← hbw.cell (p := ⟨p, 2, none⟩) hp, ← hkp.cell (p := ⟨p, 2, none⟩) (by show p < _; omega) (by simp; omega)] at c2'
      rw [← hbw.cell (p := ⟨g, k, none⟩) k3, ← hkp.cell (p := ⟨g, k, none⟩) (by show g < _; omega) (by simp; omega)] at d2
      have e0 : (0 : Int) ≤ (k : Int) := by omega
      have e1 : (k : Int) < (n : Int) := by omega
      by_cases hin : P k = 1
      · have hsucc : Hid (ofL (((List.range (k + 1)).filter (fun u => decide (i ∈ T.up u))).map T.wt) = jn (ofL (((List.range k).filter (fun u => decide (i ∈ T.up u))).map T.wt)) (one (T.wt k))) := by
          rw [filter_succ, if_pos (by simpa using h6.1 hin), List.map_append, List.map_singleton]
          exact ofL_snoc _ _
        obtain ⟨⟨hc1, hc2⟩, hr1, hr2⟩ := ofL_bd (((List.range k).filter (fun u => decide (i ∈ T.up u))).map T.wt) (by
          rw [List.length_map]; exact Nat.le_trans (List.length_filter_le _ _) (by simp; omega)) (fun z hz => by
          obtain ⟨y, hy, rfl⟩ := List.mem_map.1 hz
          have := List.mem_range.1 (List.mem_filter.1 hy).1
          exact (unhide HC y (by omega)).2)
        rw [hin] at d
        generalize ofL (((List.range k).filter (fun u => decide (i ∈ T.up u))).map T.wt) = y at *
        generalize T.wt k = nw at *
        obtain ⟨yc, ys, ya, yb⟩ := y
        have HQ : Hid (SumAt wr.drew w.heap.size ⟨yc, ys, ya, yb⟩) := hs1
        obtain ⟨⟨q0, q1, q2, q3⟩, f0, f1, f2, f3⟩ := hs1
        have hz1 : w.heap.size < wr.heap.size := by have := hkp.size; omega
        have HX := hide hkp
        clear hkp HK hbw h6 hin
        dsimp only at *
        go_wp2
        go_region_with (first | (go_at_call 63; refine (one_any nw _).mono ?_; rintro e w2 ⟨rfl, hb1⟩; have hz2 : w.heap.size < w2.heap.size := Nat.lt_of_lt_of_le hz1 hb1.size; have HQ1 : Hid (SumAt w2 w.heap.size ⟨yc, ys, ya, yb⟩) := SumAt.below (W := wr.drew) HQ.out hb1 hz1; obtain ⟨⟨r0, r1, r2, r3⟩, i0, i1, i2, i3⟩ := HQ1.out) | (go_at_call 62; refine (join_any _ _ _ _ _ _ _ _ _ (by omega) (by omega) (by omega) (by omega)).mono ?_; rintro e w3 ⟨rfl, hb2⟩; have hz3 : w.heap.size < w3.heap.size := Nat.lt_of_lt_of_le hz2 hb2.size; obtain ⟨⟨t0, t1, t2, t3⟩, j0, j1, j2, j3⟩ := SumAt.below HQ1.out hb2 hz2))
        all_goals
          go_wp2
          go_roundw
          case rel =>
            have hB : Keep [w.heap.size] w1 w3 := ((unhide HX).drew.trans (Keep.ofBelow hb1 []) (by simp)).trans (Keep.ofBelow hb2 []) (by simp)
            refine ⟨k + 1, by omega, by go_num, keep_put (b := w.heap.size) (x := jn ⟨yc, ys, ya, yb⟩ ⟨1, nw, nw, nw⟩) hB (.inl (by simp)), ?_⟩
            rw [unhide hsucc]
            exact SumAt.put (y := ⟨yc, ys, ya, yb⟩) (SumAt.below HQ1.out hb2 hz2)
          case measure => simp [intOf]; omega
      · have hin' : ((P k : Int) == 1) = false := by rw [beq_eq_false_iff_ne]; omega
        have hsucc : Hid ((List.range (k + 1)).filter (fun u => decide (i ∈ T.up u)) = (List.range k).filter (fun u => decide (i ∈ T.up u))) := by
          show _ = _
          rw [filter_succ, if_neg (by simpa using fun hm => hin (h6.2 hm)), List.append_nil]
        have HX := hide (And.intro hkp hs1)
        clear hkp HK hbw h6 hin hs1
        generalize P k = z at *
        go_wp2
        go_roundw
        case rel => exact ⟨k + 1, by omega, by go_num, (unhide HX).1, by rw [unhide hsucc]; exact (unhide HX).2⟩
        case measure => simp [intOf]; omega
    · have hkl : k = n := by omega
      subst hkl
      have HP := hide (Keep.below (unhide HS).2 hkp (by omega) (by simp))
      have HY : Hid (∃ y, ofL (((List.range k).filter (fun u => decide (i ∈ T.up u))).map T.wt) = y) := ⟨_, rfl⟩
      obtain ⟨y, hy⟩ := HY.out
      rw [hy] at hs1
      clear HY
      have HY := hide hy
      clear hy
      obtain ⟨⟨q0, q1, q2, q3⟩, f0, f1, f2, f3⟩ := hs1
      obtain ⟨yc, ys, ya, yb⟩ := y
      dsimp only at q0 q1 q2 q3
      clear hkp HK
      go_wp2
      go_quiet (fail)
      go_wp2
      rw [unhide HY]
      exact bodyPost_ret (v := .tuple #[.int .i64 yc, .int .i64 ys, .bool true]) (by simp [results, Try.results33, go_sem]) rfl ⟨rfl, below_drewN (unhide HP) _⟩

theorem sub_any (x : Int) (w : World) (p : Nat) (u v : Value) (F : Fo) (h : FoIn w p u v F) (ho : Ok F) :
    Calls Try.prog 33 #[.pointer (some ⟨p, 0, none⟩), .int .i64 x] w fun e w' => e = .returned (.tuple #[.int .i64 (F.tr.subI x).c, .int .i64 (F.tr.subI x).s, .bool (F.tr.hasI x)]) ∧ Below w.heap.size w w' := by
  cases hs : F.tr.hasI x
  · refine (sub_no x w p u v F h hs).mono ?_
    rintro e w' ⟨rfl, rfl⟩
    exact ⟨by simp [Tr.subI, hs, zero], Below.refl _ _⟩
  · obtain ⟨i, rfl, hi⟩ := Tr.hasI_true hs
    refine (sub_yes i w p u v F h ho hi).mono ?_
    rintro e w' ⟨rfl, hb⟩
    exact ⟨by simp [Tr.subI, hs], hb⟩

set_option maxHeartbeats 1000000 in
theorem size_any (x : Int) (w : World) (p : Nat) (u v : Value) (F : Fo) (h : FoIn w p u v F) (ho : Ok F) :
    Calls Try.prog 47 #[.pointer (some ⟨p, 0, none⟩), .int .i64 x] w fun e w' => e = .returned (.int .i64 (F.tr.sizeI x)) ∧ Below w.heap.size w w' := by
  have h1 := hide (root_any x w p u v F h ho)
  have h2 := hide (sub_any (F.tr.rootI x) w p u v F h ho)
  unfold Tr.sizeI
  clear h ho
  generalize F.tr.subI (F.tr.rootI x) = s at *
  generalize F.tr.hasI (F.tr.rootI x) = b at *
  generalize F.tr.rootI x = r at *
  obtain ⟨sc, ss, sa, sb⟩ := s
  dsimp only at *
  go_enter Try.func47, Try.ntmps47
  go_wp2_with fail
  refine (unhide h1).mono ?_
  rintro e w' ⟨rfl, rfl⟩
  go_wp2_with fail
  refine (unhide h2).mono ?_
  rintro e w' ⟨rfl, hb⟩
  go_wp2
  go_ret
  exact ⟨rfl, hb⟩

set_option maxHeartbeats 1000000 in
theorem size_nil (x : Int) (w : World) : Calls Try.prog 47 #[.pointer none, .int .i64 x] w fun e w' => e = .returned (.int .i64 0) ∧ w = w' := by
  go_enter Try.func47, Try.ntmps47
  go_wp2_with fail
  refine (root_nil _ _).mono ?_
  rintro e w' ⟨rfl, rfl⟩
  go_wp2_with fail
  refine (sub_nil _ _).mono ?_
  rintro e w' ⟨rfl, rfl⟩
  go_wp2
  go_ret
  exact ⟨rfl, rfl⟩
set_option maxHeartbeats 1000000 in
theorem same_nil (x y : Int) (w : World) : Calls Try.prog 43 #[.pointer none, .int .i64 x, .int .i64 y] w fun e w' => e = .returned (.bool false) ∧ w = w' := by
  go_enter Try.func43, Try.ntmps43
  go_wp2_with fail
  refine (root_nil _ _).mono ?_
  rintro e w' ⟨rfl, rfl⟩
  go_wp2
  go_ret
  exact ⟨rfl, rfl⟩
set_option maxHeartbeats 1000000 in
theorem lca_nil (x y : Int) (w : World) : Calls Try.prog 45 #[.pointer none, .int .i64 x, .int .i64 y] w fun e w' => e = .returned (.int .i64 (-1)) ∧ w = w' := by
  go_enter Try.func45, Try.ntmps45
  go_wp2_with fail
  refine (same_nil _ _ _).mono ?_
  rintro e w' ⟨rfl, rfl⟩
  go_wp2
  go_ret
  exact ⟨rfl, rfl⟩
set_option maxHeartbeats 1000000 in
theorem check_nil (w : World) : Calls Try.prog 49 #[.pointer none] w fun e w' => e = .returned (.bool false) ∧ w = w' := by
  go_enter Try.func49, Try.ntmps49
  go_wp2
  go_ret
  exact ⟨rfl, rfl⟩
end Go.Proofs.Ytbcibdofcjehcaa
